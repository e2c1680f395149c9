/- What the claim is proved with, part 1: the evaluator and the contracts of the calls. -/
import Derived.Test.YtmcgmligdnpejaaDoorSymBase
import Derived.Test.YtmcgmligdnpejaaDoorEvMemOf
import Derived.Test.YtmcgmligdnpejaaDoorRows
import Derived.FnData
import Derived.MakeChecks
import Derived.ChangeSame
import Derived.IntWalk
import Derived.Test.YtmcgmligdnpejaaDoorEvRen
import Derived.Test.YtmcgmligdnpejaaDoorEvOwn
/- The package variable of chapter 6, as memory. -/
namespace Go.Proofs
open Go Go.Ev

def memL (l : List Value) : Nat → Option Value := fun j => l[j]?
def tabM : Mem := fun b j => match Nat.beq b 0 with
  | true => memL [I 0, I 1] j
  | false => none

end Go.Proofs

/- What the package variable of chapter 6 holds, as memory: from the row's premise to the memory that came in. -/
namespace Go.Proofs
open Go Go.Ev Go.ChangeShapes

theorem one_int {H : Type} {enc : TypeId × Value → H} {P : Program} {w : World} {base fuel : Nat} {spare : Nat → Bool} {held : Bool} {t : TypeId} {cs : List Value} {k : IntKind} {z : Int} {y : DataW H × List MemPlace} (ht : P.underlying t = some (.int k))
    (h : DataW.trod enc P w base spare held fuel t cs = some y) (hy : y.1 = .lit (.int k z)) : cs = [.int k z] := by
  obtain ⟨n, h1, h2, _⟩ := DataW.trod_int ht h
  subst h2
  simp only [DataW.lit.injEq, Lit.int.injEq, true_and] at hy
  subst hy
  exact h1

theorem laid_mem {W : World} {x : String × DataW Unit} (hx : x = ("forcola/tangle.zero", YtmcgmligdnpejaaDoor.Rows.laid_forcola_tangle_zero)) (hL : laidMetH Tryd.prog [x] W) : ∀ b j u, tabM b j = some u → memOf W b j = some u := by
  subst hx
  rw [MakeChecks.laidMetH_plain _ _ _ (by kernel_rfl)] at hL
  obtain ⟨ps, ⟨g, t, cs, f, p1, q1, a1, a2, a3, a4, _⟩, _⟩ := hL
  have hg : Tryd.prog.globalNamed "forcola/tangle.zero" = some 0 := by kernel_rfl
  obtain rfl := Option.some.inj (hg.symm.trans a1)
  obtain rfl := Option.some.inj ((show (Tryd.prog.globals[0]?).map (·.type) = some 74 by kernel_rfl).symm.trans a2)
  obtain ⟨y0, y1, n, hy, hl, h0, h1⟩ := trod_struct2 (f0 := ⟨"p", 2, 0, false, "", "forcola/tangle", 0⟩) (f1 := ⟨"q", 2, 1, false, "", "forcola/tangle", 8⟩) (by kernel_rfl) a4
  have hu : Tryd.prog.underlying 2 = some (.int .i64) := by kernel_rfl
  have hc : Tryd.prog.cellsOf 2 = 1 := by kernel_rfl
  have hc2 : Tryd.prog.cellsOf 74 = 2 := by kernel_rfl
  have hd : (DataW.agg [.lit (.int .i64 0), .lit (.int .i64 1)] : DataW Unit) = .agg [y0.1, y1.1] := congrArg Prod.fst hy
  simp only [DataW.agg.injEq, List.cons.injEq, and_true] at hd
  have e0 := one_int hu h0 hd.1.symm
  have e1 := one_int hu h1 hd.2.symm
  rw [hc2] at hl
  simp only [hc] at e0 e1
  have hcs : cs.toList = [I 0, I 1] := by
    generalize cs.toList = l at hl e0 e1
    match l, hl with
    | [a, b], _ =>
      simp at e0 e1
      rw [e0, e1]
  intro b j u h
  unfold tabM at h
  split at h
  · rename_i hb
    have := Nat.eq_of_beq_eq_true hb
    subst this
    have hcell := World.var?_cell hg a3 j
    have hj : cs[j]? = some u := by
      have : cs.toList[j]? = some u := by rw [hcs]; exact h
      simpa using this
    rw [hj] at hcell
    unfold memL at h
    have : ∃ z, u = I z := by
      match j, h with
      | 0, h => exact ⟨0, (Option.some.inj h).symm⟩
      | 1, h => exact ⟨1, (Option.some.inj h).symm⟩
    obtain ⟨z, rfl⟩ := this
    exact memOf_int hcell
  · cases h

end Go.Proofs

/- A slice among the arguments: nil, or a row that came in (an empty one, too). -/
namespace Go.Ev
open Go

inductive ArgRowT (r : Mem) (n : Nat) (p : Value → Prop) : Value → Prop
  | nil : ArgRowT r n p (.slice none 0 0)
  | row (b off len cap : Nat) (hl : len ≤ cap) (hc : cap ≤ maxLen) (h : ∀ i, i < cap * n → ∃ u, r b (off + i) = some u ∧ p u) : ArgRowT r n p (.slice (some ⟨b, off, some 0⟩) len cap)

theorem okWide_spot {P : Program} {w : World} {r : Go.Reach} {base : Nat} {t e : TypeId} {x : Addr} {len cap : Nat} (ht : P.underlying t = some (.slice e)) (h : Value.okWide P w r base t (.slice (some x) len cap)) : x.spot = none := by
  simp only [Value.okWide, ht, Cell.okWide, Cell.ok] at h
  exact h.2.2.2.1

section
variable {H : Type} {enc : TypeId × Value → H} {P : Program} {w : World} {base : Nat} {held : Bool}

theorem in_rowT {t e : TypeId} {n : Nat} {p : Value → Prop} {v : Value} {d : DataW H} {ps : List MemPlace} (hn : 0 < n) (ht : P.underlying t = some (.slice e)) (ce : P.cellsOf e = n) (hel : El enc P w base held e n p)
    {b0 : Nat} (hval : Value.okWide P w .any b0 t v) (h : DataW.Trod enc P w base (fun _ => true) held t v d ps) : ∃ u, VRel noG u v ∧ ArgRowT (memOf w) n p u := by
  obtain ⟨u, hu, hs⟩ := in_row hn ht ce hel hval h
  obtain ⟨a, len, cap, rfl⟩ := Go.WideShapes.okWide_slice ht hval
  cases hs with
  | nil => exact ⟨_, hu, .nil⟩
  | row b off len cap hl hc h => exact ⟨_, hu, .row b off len cap hl hc h⟩
  | empty =>
    obtain ⟨fuel, hf⟩ := h
    rcases Go.Deep.open_slice ht hf with ⟨h0, _⟩ | ⟨a', len', cap', m, n', D, Pl, h0, _, hl, hm, hmm, _, hx⟩
    · simp [Value.cells] at h0
      obtain ⟨rfl, rfl, rfl⟩ := h0
      exact ⟨_, .sliceNil, .nil⟩
    · simp [Value.cells] at h0
      obtain ⟨rfl, rfl, rfl⟩ := h0
      have hsp := okWide_spot ht hval
      obtain ⟨b, off, s⟩ := a'
      subst hsp
      have hlen : len = 0 := by
        cases hu with
        | sliceE => rfl
        | slice _ _ _ _ hg => cases hg
      subst hlen
      exact ⟨_, .sliceRo b off 0 0 0 cap (by decide) (Nat.zero_le _), .row b off 0 0 (Nat.le_refl _) (Nat.zero_le _) fun i hi => by omega⟩

end

end Go.Ev

/- Rules for loops. -/
namespace Go.Proofs
open Go Go.Ev

theorem fnsSC (r : Mem) : (SC r).fns = S0.fns := by unfold SC Cfg.sym; rfl
theorem bodySC (r : Mem) (f : Nat) : bodyOf (SC r) f = bodyOf S0 f := by unfold bodyOf; rw [fnsSC]

/-- Into a function whose body has this name. -/
theorem enterN {r : Mem} {t : Tbl} {ms : Tr Nat} {L d f m n : Nat} {args : List Value} {A : AW} {k : KV} {rs : List ResultVar} (c : Code) (hc : c = bodyOf S0 f) (hb : hasBody (SC r) f = true) (hn : ntm (SC r) f = n) (hm : maskFor ms f n = m) (hr : resOf (SC r) f = rs)
    (hl : Nat.ble args.length n = true) (ht : t f = none) :
    (lvlT (SC r) t ms L (d + 1)).call f args A k = run (SC r) m n L c (lvlT (SC r) t ms L d) none (finK (SC r) m rs k) kx242 (finK (SC r) m rs k) (sc0 m args) (tr0 m args) [] A := by
  rw [enter hb hn hm hr hl ht, bodySC, ← hc]

/-- Rows of code, taken together from the left. -/
theorem seqA {C : Cfg} {m n L : Nat} (a b d : Code) : run C m n L (.seq a (.seq b d)) = run C m n L (.seq (.seq a b) d) := rfl

theorem run_while {C : Cfg} {m n L : Nat} {fs : FnsC} {ro : Option Nat} {kn : KS} {kx : Nat → KS} {kr : KS} (a b d : Code) (id : Nat) : run C m n L (.seq a (.seq (.block id (.loop b)) d)) fs ro kn kx kr =
    run C m n L a fs ro (cLoop (fun kl => run C m n L b fs ro kl (fun j => match Nat.beq j id with | true => run C m n L d fs ro kn kx kr | false => kx j) kr) L) kx kr := rfl
theorem run_while0 {C : Cfg} {m n L : Nat} {fs : FnsC} {ro : Option Nat} {kn : KS} {kx : Nat → KS} {kr : KS} (a b : Code) (id : Nat) : run C m n L (.seq a (.block id (.loop b))) fs ro kn kx kr =
    run C m n L a fs ro (cLoop (fun kl => run C m n L b fs ro kl (fun j => match Nat.beq j id with | true => kn | false => kx j) kr) L) kx kr := rfl

theorem run_pre {C : Cfg} {m n L : Nat} (a b d e : Code) : run C m n L (.seq a (.seq (.seq b d) e)) = run C m n L (.seq (.seq a b) (.seq d e)) := rfl

theorem beqD (a b : Int) : (a == b) = decide (a = b) := by by_cases h : a = b <;> simp [h]

theorem dT {p : Prop} [Decidable p] (h : p) : decide p = true := decide_eq_true h
theorem dF {p : Prop} [Decidable p] (h : ¬ p) : decide p = false := decide_eq_false h
theorem eqT {a b : Int} (h : a = b) : (a == b) = true := by simp [h]
theorem eqF {a b : Int} (h : a ≠ b) : (a == b) = false := by simp [h]
theorem neT {a b : Int} (h : a ≠ b) : (a != b) = true := by simp [h]
theorem neF {a b : Int} (h : a = b) : (a != b) = false := by simp [h]
theorem wrI {z : Int} (h : -9223372036854775808 ≤ z ∧ z ≤ 9223372036854775807) : IntKind.wrap .i64 z = z := IntWalk.i64_in z h

/- An entry for one call alone: these arguments, this world; what it answers, and the world behind it. -/
noncomputable def m_at (args args0 : List Value) (A A0 : AW) : Bool := @decide (args = args0 ∧ A = A0) (Classical.propDecidable _)
noncomputable def entAt (args0 : List Value) (A0 : AW) (v : Value) (A1 : AW) : Ent := ⟨fun args A => m_at args args0 A A0, fun _ _ => true, fun _ _ => v, fun _ _ => A1, fun _ _ => v, fun _ _ => A1⟩

theorem at_rfl (args : List Value) (A : AW) : m_at args args A A = true := @decide_eq_true _ (Classical.propDecidable _) ⟨rfl, rfl⟩

theorem entAt_ok {C : Cfg} {f : Nat} {args0 : List Value} {A0 : AW} {v : Value} {A1 : AW}
    (h : ∀ F, Wide F → ∀ k γ W args', WRel γ A0 W → Ro C.ro γ W → VsRel γ args0 (Array.toList args') → CallsIn F k C.P f args' W (Go.Ev.Ends γ W v A1)) : EOk C f (entAt args0 A0 v A1) := fun args A hg F hF k γ W args' hw hR ha => by
  obtain ⟨rfl, rfl⟩ := @of_decide_eq_true _ (Classical.propDecidable _) hg
  exact ⟨fun _ => h F hF k γ W args' hw hR ha, fun _ => h F hF k γ W args' hw hR ha⟩

/-- The same, by a run. -/
theorem entAt_run {C : Cfg} (hC : C.Ok) {t : Tbl} (ht : TOk C t) (tm : Tr Nat) {f : Nat} {args0 : List Value} {A0 : AW} {v : Value} {A1 : AW} (h : ∃ L d, (lvlT C t tm L d).call f args0 A0 .ret = .ret v A1) : EOk C f (entAt args0 A0 v A1) :=
  entAt_ok fun F hF k γ W args' hw hR ha => by
    obtain ⟨L, d, hr⟩ := h
    have h1 := (lvlT_le (C := C) t tm L d).call _ _ _ _ _ _ hr
    cases hc : (lvlU C t tm L d).call f args0 A0 with
    | fail w => rw [hc] at h1; cases h1
    | ret u A' =>
      rw [hc] at h1
      cases h1
      exact (lvlU_ok hC ht tm L d).call γ A0 W f args0 args' v A1 hc hw hR ha F hF k

/- Entries of a table, by the shape of the arguments. -/
def eI2 (g : Int → Int → Bool) (v : Int → Int → Value) : Ent := ent (fun args _ => match args with | [.int .i64 a, .int .i64 b] => g a b | _ => false) (fun args _ => match args with | [.int .i64 a, .int .i64 b] => v a b | _ => undef)
def eI4 (g : Int → Int → Int → Int → Bool) (v : Int → Int → Int → Int → Value) : Ent := ent (fun args _ => match args with | [.int .i64 a, .int .i64 b, .int .i64 c, .int .i64 d] => g a b c d | _ => false) (fun args _ => match args with | [.int .i64 a, .int .i64 b, .int .i64 c, .int .i64 d] => v a b c d | _ => undef)
def eA2 (g : Int → Int → Bool) (v : Int → Int → Value) : Ent := ent (fun args _ => match args with | [.agg ⟨[.int .i64 a, .int .i64 b]⟩] => g a b | _ => false) (fun args _ => match args with | [.agg ⟨[.int .i64 a, .int .i64 b]⟩] => v a b | _ => undef)
def eI1 (g : Int → Bool) (v : Int → Value) : Ent := ent (fun args _ => match args with | [.int .i64 a] => g a | _ => false) (fun args _ => match args with | [.int .i64 a] => v a | _ => undef)
def eA1I (g : Int → Int → Int → Bool) (v : Int → Int → Int → Value) : Ent := ent (fun args _ => match args with | [.agg ⟨[.int .i64 a, .int .i64 b]⟩, .int .i64 c] => g a b c | _ => false) (fun args _ => match args with | [.agg ⟨[.int .i64 a, .int .i64 b]⟩, .int .i64 c] => v a b c | _ => undef)
def eAA (g : Int → Int → Int → Int → Bool) (v : Int → Int → Int → Int → Value) : Ent := ent (fun args _ => match args with | [.agg ⟨[.int .i64 a, .int .i64 b]⟩, .agg ⟨[.int .i64 c, .int .i64 d]⟩] => g a b c d | _ => false) (fun args _ => match args with | [.agg ⟨[.int .i64 a, .int .i64 b]⟩, .agg ⟨[.int .i64 c, .int .i64 d]⟩] => v a b c d | _ => undef)
def e0 (v : Value) : Ent := ent (fun args _ => match args with | [] => true | _ => false) (fun _ _ => v)

theorem eI2_ok {C : Cfg} {f : Nat} {g : Int → Int → Bool} {v : Int → Int → Value} (h : ∀ a b, g a b = true → GrT C.P C.ro f [I a, I b] (v a b)) : EOk C f (eI2 g v) := EOk.ent fun args A hg => by
  split at hg
  · exact (h _ _ hg).ro rfl A
  · cases hg
theorem eI4_ok {C : Cfg} {f : Nat} {g : Int → Int → Int → Int → Bool} {v : Int → Int → Int → Int → Value} (h : ∀ a b c d, g a b c d = true → GrT C.P C.ro f [I a, I b, I c, I d] (v a b c d)) : EOk C f (eI4 g v) := EOk.ent fun args A hg => by
  split at hg
  · exact (h _ _ _ _ hg).ro rfl A
  · cases hg
theorem eA2_ok {C : Cfg} {f : Nat} {g : Int → Int → Bool} {v : Int → Int → Value} (h : ∀ a b, g a b = true → GrT C.P C.ro f [.agg ⟨[I a, I b]⟩] (v a b)) : EOk C f (eA2 g v) := EOk.ent fun args A hg => by
  split at hg
  · exact (h _ _ hg).ro rfl A
  · cases hg
theorem eI1_ok {C : Cfg} {f : Nat} {g : Int → Bool} {v : Int → Value} (h : ∀ a, g a = true → GrT C.P C.ro f [I a] (v a)) : EOk C f (eI1 g v) := EOk.ent fun args A hg => by
  split at hg
  · exact (h _ hg).ro rfl A
  · cases hg
theorem eA1I_ok {C : Cfg} {f : Nat} {g : Int → Int → Int → Bool} {v : Int → Int → Int → Value} (h : ∀ a b c, g a b c = true → GrT C.P C.ro f [.agg ⟨[I a, I b]⟩, I c] (v a b c)) : EOk C f (eA1I g v) := EOk.ent fun args A hg => by
  split at hg
  · exact (h _ _ _ hg).ro rfl A
  · cases hg
theorem eAA_ok {C : Cfg} {f : Nat} {g : Int → Int → Int → Int → Bool} {v : Int → Int → Int → Int → Value} (h : ∀ a b c d, g a b c d = true → GrT C.P C.ro f [.agg ⟨[I a, I b]⟩, .agg ⟨[I c, I d]⟩] (v a b c d)) : EOk C f (eAA g v) := EOk.ent fun args A hg => by
  split at hg
  · exact (h _ _ _ _ hg).ro rfl A
  · cases hg
theorem e0_ok {C : Cfg} {f : Nat} {v : Value} (h : GrT C.P C.ro f [] v) : EOk C f (e0 v) := EOk.ent fun args A hg => by
  split at hg
  · exact h.ro rfl A
  · cases hg

end Go.Proofs

/- Rests, run. -/
namespace Go.Proofs
open Go Go.Ev

theorem reA (r : Mem) (L : Nat) (a n : Int) : (lvlT (SC r) (fun _ => none) .nil L 1).call 76 [I a, I n] emptyA fin =
    bif !decide (n = 0) then bif !decide (n = 0) then CR.ret (Value.int IntKind.i64 (Int.tmod (IntKind.wrap IntKind.i64 (Int.tmod a n + n)) n)) (AW.mk 0 Tr.nil Tr.nil) else CR.fail 420 else CR.fail 420 := by kernel_rfl

theorem rest_ok (r : Mem) (a n : Int) (h : 0 < n) (h1 : n ≤ 1000000000000) : GrT Tryd.prog r 76 [I a, I n] (I (a % n)) :=
  GrT.of (SC_ok r) TOk.nil .nil rfl ⟨1, 1, by
    rw [reA]
    have e1 := Int.tmod_lt_of_pos a h
    have e2 : -n < a.tmod n := by
      have : (a.tmod n).natAbs < n.natAbs := by rw [Int.natAbs_tmod]; exact Nat.mod_lt _ (by omega)
      omega
    have e3 : IntKind.wrap IntKind.i64 (a.tmod n + n) = a.tmod n + n := wrI (by omega)
    have e4 : (a.tmod n + n).tmod n = a % n := by
      rw [Int.tmod_eq_emod_of_nonneg (by omega), Int.add_emod_right]
      have := Int.tmod_def a n
      rw [this, Int.sub_mul_emod_self_left]
    have h0 : ¬ n = 0 := by omega
    simp only [h0, decide_false, cond_true, Bool.not_false, e3, e4]
    rfl⟩

def m_restG (_a n : Int) : Bool := decide (0 < n) && decide (n ≤ 1000000000000)
def m_rest (a n : Int) : Int := a % n
theorem restE_ok (r : Mem) : EOk (SC r) 76 (eI2 m_restG fun a n => I (m_rest a n)) := eI2_ok fun a n h => by
  simp only [m_restG, Bool.and_eq_true, decide_eq_true_eq] at h
  exact rest_ok r a n h.1 h.2

end Go.Proofs

/- Greatest divisors, inverses, first links, run. -/
namespace Go.Proofs
open Go Go.Ev
set_option linter.unusedVariables false

noncomputable def cGc : Code := bodyOf S0 34
def TG (a b : Int) : Tr Value := ((tr0 19 [I a, I b]).put 4 (some (I 0)))

theorem gcA (r : Mem) (L : Nat) (fs : FnsC) (a b : Int) (A : AW) (kn : KS) (kx : Nat → KS) (kr : KS) (ms : List Nat) : run (SC r) 19 12 L (lc cGc) fs none kn kx kr (sc0 19 [I a, I b]) (tr0 19 [I a, I b]) ms A =
    kn [] (Tr.node (Tr.node Tr.nil (some (Value.int IntKind.i64 b)) Tr.nil) (some (Value.int IntKind.i64 a)) (Tr.node (Tr.node Tr.nil (some (Value.int IntKind.i64 (Int.ofNat 0))) Tr.nil) none Tr.nil)) ms A := by kernel_rfl

theorem gcB (r : Mem) (L : Nat) (fs : FnsC) (a b : Int) (s : List (Nat × Value)) (A : AW) (kn : KS) (kx : Nat → KS) (kr : KS) (ms : List Nat) : run (SC r) 19 12 L (ic (ic (lc (rc cGc)))) fs none kn kx kr s (TG a b) ms A =
    bif decide (b > 0) then bif !decide (b = 0) then kn [(10, Value.int IntKind.i64 (Int.tmod a b)), (9, Value.int IntKind.i64 b), (8, Value.int IntKind.i64 a), (7, Value.int IntKind.i64 b)] (Tr.node (Tr.node Tr.nil (some (Value.int IntKind.i64 (Int.tmod a b))) Tr.nil) (some (Value.int IntKind.i64 b)) (Tr.node (Tr.node Tr.nil (some (Value.int IntKind.i64 (Int.ofNat 0))) Tr.nil) none Tr.nil)) ms A else CR.fail 420 else kx 0 [(6, Value.bool false), (5, Value.int IntKind.i64 b)] (Tr.node (Tr.node Tr.nil (some (Value.int IntKind.i64 b)) Tr.nil) (some (Value.int IntKind.i64 a)) (Tr.node (Tr.node Tr.nil (some (Value.int IntKind.i64 (Int.ofNat 0))) Tr.nil) none Tr.nil)) ms A := by kernel_rfl

theorem gcC (r : Mem) (L : Nat) (fs : FnsC) (a b : Int) (s : List (Nat × Value)) (A : AW) (kn : KS) (kx : Nat → KS) (kr : KS) (ms : List Nat) : run (SC r) 19 12 L (rc (rc cGc)) fs none kn kx kr s (TG a b) ms A =
    kr [(11, Value.int IntKind.i64 a)] (Tr.node (Tr.node Tr.nil (some (Value.int IntKind.i64 b)) Tr.nil) (some (Value.int IntKind.i64 a)) (Tr.node (Tr.node Tr.nil (some (Value.int IntKind.i64 a)) Tr.nil) none Tr.nil)) ms A := by kernel_rfl

noncomputable def cIn : Code := bodyOf S0 75
def TI (a n l m f g : Int) (v9 : Tr Value) : Tr Value := .node (.node (.node (.node .nil (some (I f)) .nil) none .nil) (some (I n)) (.node v9 (some (I l)) .nil)) (some (I a)) (.node (.node (.node .nil (some (I g)) .nil) (some (I 0)) .nil) none (.node .nil (some (I m)) .nil))

theorem inA (r : Mem) (L : Nat) (fs : FnsC) (a n : Int) (A : AW) (kn : KS) (kx : Nat → KS) (kr : KS) (ms : List Nat) : run (SC r) 1011 32 L (.seq (.seq (lc cIn) (lc (rc cIn))) (lc (rc (rc cIn)))) fs none kn kx kr (sc0 1011 [I a, I n]) (tr0 1011 [I a, I n]) ms A =
    kn [] (Tr.node (Tr.node (Tr.node (Tr.node Tr.nil (some (Value.int IntKind.i64 (Int.ofNat 1))) Tr.nil) none Tr.nil) (some (Value.int IntKind.i64 n)) (Tr.node Tr.nil (some (Value.int IntKind.i64 a)) Tr.nil)) (some (Value.int IntKind.i64 a)) (Tr.node (Tr.node (Tr.node Tr.nil (some (Value.int IntKind.i64 (Int.ofNat 0))) Tr.nil) (some (Value.int IntKind.i64 (Int.ofNat 0))) Tr.nil) none (Tr.node Tr.nil (some (Value.int IntKind.i64 n)) Tr.nil))) ms A := by kernel_rfl

theorem inB (r : Mem) (L : Nat) (fs : FnsC) (a n l m f g : Int) (v9 : Tr Value) (s : List (Nat × Value)) (A : AW) (kn : KS) (kx : Nat → KS) (kr : KS) (ms : List Nat) : run (SC r) 1011 32 L (ic (ic (lc (rc (rc (rc cIn)))))) fs none kn kx kr s (TI a n l m f g v9) ms A =
    bif m != Int.ofNat 0 then bif !decide (m = 0) then Tr.casesOn v9 (kn [(28, Value.int IntKind.i64 (IntKind.wrap IntKind.i64 (f - IntKind.wrap IntKind.i64 (IntKind.wrap IntKind.i64 (Int.tdiv l m) * g)))), (27, Value.int IntKind.i64 (IntKind.wrap IntKind.i64 (IntKind.wrap IntKind.i64 (Int.tdiv l m) * g))), (26, Value.int IntKind.i64 g), (25, Value.int IntKind.i64 (IntKind.wrap IntKind.i64 (Int.tdiv l m))), (24, Value.int IntKind.i64 f), (23, Value.int IntKind.i64 g)] (Tr.node (Tr.node (Tr.node (Tr.node Tr.nil (some (Value.int IntKind.i64 g)) Tr.nil) none Tr.nil) (some (Value.int IntKind.i64 n)) (Tr.node (Tr.node Tr.nil (some (Value.int IntKind.i64 (IntKind.wrap IntKind.i64 (Int.tdiv l m)))) Tr.nil) (some (Value.int IntKind.i64 m)) Tr.nil)) (some (Value.int IntKind.i64 a)) (Tr.node (Tr.node (Tr.node Tr.nil (some (Value.int IntKind.i64 (IntKind.wrap IntKind.i64 (f - IntKind.wrap IntKind.i64 (IntKind.wrap IntKind.i64 (Int.tdiv l m) * g))))) Tr.nil) (some (Value.int IntKind.i64 (Int.ofNat 0))) Tr.nil) none (Tr.node Tr.nil (some (Value.int IntKind.i64 (IntKind.wrap IntKind.i64 (l - IntKind.wrap IntKind.i64 (IntKind.wrap IntKind.i64 (Int.tdiv l m) * m))))) Tr.nil))) ms A) fun l_1 v r => kn [(28, Value.int IntKind.i64 (IntKind.wrap IntKind.i64 (f - IntKind.wrap IntKind.i64 (IntKind.wrap IntKind.i64 (Int.tdiv l m) * g)))), (27, Value.int IntKind.i64 (IntKind.wrap IntKind.i64 (IntKind.wrap IntKind.i64 (Int.tdiv l m) * g))), (26, Value.int IntKind.i64 g), (25, Value.int IntKind.i64 (IntKind.wrap IntKind.i64 (Int.tdiv l m))), (24, Value.int IntKind.i64 f), (23, Value.int IntKind.i64 g)] (Tr.node (Tr.node (Tr.node (Tr.node Tr.nil (some (Value.int IntKind.i64 g)) Tr.nil) none Tr.nil) (some (Value.int IntKind.i64 n)) (Tr.node (Tr.node l_1 (some (Value.int IntKind.i64 (IntKind.wrap IntKind.i64 (Int.tdiv l m)))) r) (some (Value.int IntKind.i64 m)) Tr.nil)) (some (Value.int IntKind.i64 a)) (Tr.node (Tr.node (Tr.node Tr.nil (some (Value.int IntKind.i64 (IntKind.wrap IntKind.i64 (f - IntKind.wrap IntKind.i64 (IntKind.wrap IntKind.i64 (Int.tdiv l m) * g))))) Tr.nil) (some (Value.int IntKind.i64 (Int.ofNat 0))) Tr.nil) none (Tr.node Tr.nil (some (Value.int IntKind.i64 (IntKind.wrap IntKind.i64 (l - IntKind.wrap IntKind.i64 (IntKind.wrap IntKind.i64 (Int.tdiv l m) * m))))) Tr.nil))) ms A else CR.fail 420 else kx 0 [(13, Value.bool false), (12, Value.int IntKind.i64 m)] (Tr.node (Tr.node (Tr.node (Tr.node Tr.nil (some (Value.int IntKind.i64 f)) Tr.nil) none Tr.nil) (some (Value.int IntKind.i64 n)) (Tr.node v9 (some (Value.int IntKind.i64 l)) Tr.nil)) (some (Value.int IntKind.i64 a)) (Tr.node (Tr.node (Tr.node Tr.nil (some (Value.int IntKind.i64 g)) Tr.nil) (some (Value.int IntKind.i64 (Int.ofNat 0))) Tr.nil) none (Tr.node Tr.nil (some (Value.int IntKind.i64 m)) Tr.nil))) ms A := by kernel_rfl

def tR : Tbl := tcons 76 (eI2 m_restG fun a n => I (m_rest a n)) fun _ => none

theorem inC (r : Mem) (L : Nat) (ms' : Tr Nat) (a n l m f g : Int) (v9 : Tr Value) (s : List (Nat × Value)) (A : AW) (kn : KS) (kx : Nat → KS) (kr : KS) (ms : List Nat) : run (SC r) 1011 32 L (rc (rc (rc (rc cIn)))) (lvlT (SC r) tR ms' L 0) none kn kx kr s (TI a n l m f g v9) ms A =
    bif m_restG f n then kr [(31, Value.int IntKind.i64 (m_rest f n)), (30, Value.int IntKind.i64 n), (29, Value.int IntKind.i64 f)] (Tr.node (Tr.node (Tr.node (Tr.node Tr.nil (some (Value.int IntKind.i64 f)) Tr.nil) none Tr.nil) (some (Value.int IntKind.i64 n)) (Tr.node v9 (some (Value.int IntKind.i64 l)) Tr.nil)) (some (Value.int IntKind.i64 a)) (Tr.node (Tr.node (Tr.node Tr.nil (some (Value.int IntKind.i64 g)) Tr.nil) (some (Value.int IntKind.i64 (m_rest f n))) Tr.nil) none (Tr.node Tr.nil (some (Value.int IntKind.i64 m)) Tr.nil))) ms A else CR.fail 420 := by kernel_rfl

noncomputable def cFi : Code := bodyOf S0 29
def TFi (p q x : Int) : Tr Value := ((((tr0 115 [I p, I q]).put 4 (some (I 0))).put 5 (some (I 0))).put 6 (some (I x)))

theorem fiA (r : Mem) (L : Nat) (fs : FnsC) (p q : Int) (A : AW) (kn : KS) (kx : Nat → KS) (kr : KS) (ms : List Nat) : run (SC r) 115 24 L (.seq (lc cFi) (lc (lc (rc cFi)))) fs none kn kx kr (sc0 115 [I p, I q]) (tr0 115 [I p, I q]) ms A =
    kn [] (Tr.node (Tr.node Tr.nil (some (Value.int IntKind.i64 q)) (Tr.node Tr.nil (some (Value.int IntKind.i64 (Int.ofNat 0))) Tr.nil)) (some (Value.int IntKind.i64 p)) (Tr.node (Tr.node Tr.nil (some (Value.int IntKind.i64 (Int.ofNat 0))) Tr.nil) none (Tr.node Tr.nil (some (Value.int IntKind.i64 (Int.ofNat 0))) Tr.nil))) ms A := by kernel_rfl

theorem fiB (r : Mem) (L : Nat) (fs : FnsC) (p q x : Int) (s : List (Nat × Value)) (A : AW) (kn : KS) (kx : Nat → KS) (kr : KS) (ms : List Nat) : run (SC r) 115 24 L (ic (ic (rc (lc (rc cFi))))) fs none kn kx kr s (TFi p q x) ms A =
    bif decide (x < q) then bif !decide (p = 0) then bif !decide (p = 0) then bif Int.tmod (IntKind.wrap IntKind.i64 (x * q)) p == Int.tmod (Int.ofNat 1) p then kr [(21, Value.int IntKind.i64 x), (20, Value.int IntKind.i64 p)] (Tr.node (Tr.node Tr.nil (some (Value.int IntKind.i64 q)) (Tr.node Tr.nil (some (Value.int IntKind.i64 x)) Tr.nil)) (some (Value.int IntKind.i64 p)) (Tr.node (Tr.node Tr.nil (some (Value.int IntKind.i64 p)) Tr.nil) none (Tr.node Tr.nil (some (Value.int IntKind.i64 x)) Tr.nil))) ms A else kn [(11, Value.int IntKind.i64 (IntKind.wrap IntKind.i64 (x + Int.ofNat 1))), (10, Value.int IntKind.i64 x)] (Tr.node (Tr.node Tr.nil (some (Value.int IntKind.i64 q)) (Tr.node Tr.nil (some (Value.int IntKind.i64 (Int.ofNat 0))) Tr.nil)) (some (Value.int IntKind.i64 p)) (Tr.node (Tr.node Tr.nil (some (Value.int IntKind.i64 (Int.ofNat 0))) Tr.nil) none (Tr.node Tr.nil (some (Value.int IntKind.i64 (IntKind.wrap IntKind.i64 (x + Int.ofNat 1)))) Tr.nil))) ms A else CR.fail 420 else CR.fail 420 else kx 0 [(9, Value.bool false), (8, Value.int IntKind.i64 q), (7, Value.int IntKind.i64 x)] (Tr.node (Tr.node Tr.nil (some (Value.int IntKind.i64 q)) (Tr.node Tr.nil (some (Value.int IntKind.i64 (Int.ofNat 0))) Tr.nil)) (some (Value.int IntKind.i64 p)) (Tr.node (Tr.node Tr.nil (some (Value.int IntKind.i64 (Int.ofNat 0))) Tr.nil) none (Tr.node Tr.nil (some (Value.int IntKind.i64 x)) Tr.nil))) ms A := by kernel_rfl

theorem fiC (r : Mem) (L : Nat) (fs : FnsC) (p q x : Int) (s : List (Nat × Value)) (A : AW) (kn : KS) (kx : Nat → KS) (kr : KS) (ms : List Nat) : run (SC r) 115 24 L (rc (rc cFi)) fs none kn kx kr s (TFi p q x) ms A =
    kr [(23, Value.int IntKind.i64 q), (22, Value.int IntKind.i64 p)] (Tr.node (Tr.node Tr.nil (some (Value.int IntKind.i64 q)) (Tr.node Tr.nil (some (Value.int IntKind.i64 q)) Tr.nil)) (some (Value.int IntKind.i64 p)) (Tr.node (Tr.node Tr.nil (some (Value.int IntKind.i64 p)) Tr.nil) none (Tr.node Tr.nil (some (Value.int IntKind.i64 x)) Tr.nil))) ms A := by kernel_rfl

noncomputable def cBe : Code := bodyOf S0 65
def TBe (p q x : Int) : Tr Value := ((((tr0 115 [I p, I q]).put 4 (some (I 0))).put 5 (some (I 0))).put 6 (some (I x)))

theorem beA (r : Mem) (L : Nat) (fs : FnsC) (p q : Int) (A : AW) (kn : KS) (kx : Nat → KS) (kr : KS) (ms : List Nat) : run (SC r) 115 27 L (.seq (.seq (lc cBe) (lc (rc cBe))) (lc (rc (rc cBe)))) fs none kn kx kr (sc0 115 [I p, I q]) (tr0 115 [I p, I q]) ms A =
    bif q == Int.ofNat 0 then kr [(10, Value.int IntKind.i64 (IntKind.wrap IntKind.i64 (Int.ofNat 0 - p))), (9, Value.int IntKind.i64 p)] (Tr.node (Tr.node Tr.nil (some (Value.int IntKind.i64 q)) (Tr.node Tr.nil (some (Value.int IntKind.i64 (IntKind.wrap IntKind.i64 (Int.ofNat 0 - p)))) Tr.nil)) (some (Value.int IntKind.i64 p)) (Tr.node (Tr.node Tr.nil (some (Value.int IntKind.i64 (Int.ofNat 0))) Tr.nil) none Tr.nil)) ms A else kn [] (Tr.node (Tr.node Tr.nil (some (Value.int IntKind.i64 q)) (Tr.node Tr.nil (some (Value.int IntKind.i64 (Int.ofNat 0))) Tr.nil)) (some (Value.int IntKind.i64 p)) (Tr.node (Tr.node Tr.nil (some (Value.int IntKind.i64 (Int.ofNat 0))) Tr.nil) none (Tr.node Tr.nil (some (Value.int IntKind.i64 (Int.ofNat 0))) Tr.nil))) ms A := by kernel_rfl

theorem beB (r : Mem) (L : Nat) (fs : FnsC) (p q x : Int) (s : List (Nat × Value)) (A : AW) (kn : KS) (kx : Nat → KS) (kr : KS) (ms : List Nat) : run (SC r) 115 27 L (ic (ic (rc (rc (rc cBe))))) fs none kn kx kr s (TBe p q x) ms A =
    bif !decide (q = 0) then bif Int.tmod (IntKind.wrap IntKind.i64 (IntKind.wrap IntKind.i64 (p * x) + Int.ofNat 1)) q == Int.ofNat 0 then bif !decide (q = 0) then kr [(26, Value.int IntKind.i64 x), (25, Value.int IntKind.i64 (IntKind.wrap IntKind.i64 (Int.tdiv (IntKind.wrap IntKind.i64 (IntKind.wrap IntKind.i64 (p * x) + Int.ofNat 1)) q))), (24, Value.int IntKind.i64 q), (23, Value.int IntKind.i64 (IntKind.wrap IntKind.i64 (IntKind.wrap IntKind.i64 (p * x) + Int.ofNat 1))), (22, Value.int IntKind.i64 (IntKind.wrap IntKind.i64 (p * x))), (21, Value.int IntKind.i64 x), (20, Value.int IntKind.i64 p)] (Tr.node (Tr.node Tr.nil (some (Value.int IntKind.i64 q)) (Tr.node Tr.nil (some (Value.int IntKind.i64 x)) Tr.nil)) (some (Value.int IntKind.i64 p)) (Tr.node (Tr.node Tr.nil (some (Value.int IntKind.i64 (IntKind.wrap IntKind.i64 (Int.tdiv (IntKind.wrap IntKind.i64 (IntKind.wrap IntKind.i64 (p * x) + Int.ofNat 1)) q)))) Tr.nil) none (Tr.node Tr.nil (some (Value.int IntKind.i64 x)) Tr.nil))) ms A else CR.fail 420 else kn [(12, Value.int IntKind.i64 (IntKind.wrap IntKind.i64 (x + Int.ofNat 1))), (11, Value.int IntKind.i64 x)] (Tr.node (Tr.node Tr.nil (some (Value.int IntKind.i64 q)) (Tr.node Tr.nil (some (Value.int IntKind.i64 (Int.ofNat 0))) Tr.nil)) (some (Value.int IntKind.i64 p)) (Tr.node (Tr.node Tr.nil (some (Value.int IntKind.i64 (Int.ofNat 0))) Tr.nil) none (Tr.node Tr.nil (some (Value.int IntKind.i64 (IntKind.wrap IntKind.i64 (x + Int.ofNat 1)))) Tr.nil))) ms A else CR.fail 420 := by kernel_rfl

end Go.Proofs

/- Fractions, run. -/
namespace Go.Proofs
open Go Go.Ev

noncomputable def cFr : Code := bodyOf S0 71
abbrev FV (p q : Int) : Value := .agg ⟨[I p, I q]⟩
def AF (p q : Int) : AW := emptyA.new (.cells [I p, I q] 74 0 0)
def TF (p q d l : Int) : Tr Value := ((((tr0 31 [FV p q]).put 1 (some (.pointer (some ⟨0, 0, none⟩)))).put 2 (some (.bool false))).put 3 (some (I d))).put 4 (some (I l))

theorem frA (r : Mem) (L : Nat) (fs : FnsC) (p q : Int) (kn : KS) (kx : Nat → KS) (kr : KS) (ms : List Nat) : run (SC r) 31 32 L (.seq (.seq (lc cFr) (lc (rc cFr))) (lc (rc (rc cFr)))) fs none kn kx kr (sc0 31 [FV p q]) (tr0 31 [FV p q]) ms emptyA =
    bif q == Int.ofNat 0 then bif p == Int.ofNat 1 then kr [(10, Value.bool true), (9, Value.int IntKind.i64 p), (8, Value.pointer (some (Addr.mk 0 0 none)))] (Tr.node (Tr.node Tr.nil (some (Value.pointer (some (Addr.mk 0 0 none)))) Tr.nil) (some (Value.agg (Array.mk [Value.int IntKind.i64 p, Value.int IntKind.i64 q]))) (Tr.node Tr.nil (some (Value.bool true)) Tr.nil)) ms (AW.mk 1 (Tr.node Tr.nil (some (AObj.cells [Value.int IntKind.i64 p, Value.int IntKind.i64 q] 74 0 0)) Tr.nil) Tr.nil) else kr [(10, Value.bool false), (9, Value.int IntKind.i64 p), (8, Value.pointer (some (Addr.mk 0 0 none)))] (Tr.node (Tr.node Tr.nil (some (Value.pointer (some (Addr.mk 0 0 none)))) Tr.nil) (some (Value.agg (Array.mk [Value.int IntKind.i64 p, Value.int IntKind.i64 q]))) (Tr.node Tr.nil (some (Value.bool false)) Tr.nil)) ms (AW.mk 1 (Tr.node Tr.nil (some (AObj.cells [Value.int IntKind.i64 p, Value.int IntKind.i64 q] 74 0 0)) Tr.nil) Tr.nil) else kn [(14, Value.int IntKind.i64 q), (13, Value.pointer (some (Addr.mk 0 1 none))), (12, Value.int IntKind.i64 p), (11, Value.pointer (some (Addr.mk 0 0 none)))] (Tr.node (Tr.node (Tr.node Tr.nil (some (Value.int IntKind.i64 p)) Tr.nil) (some (Value.pointer (some (Addr.mk 0 0 none)))) Tr.nil) (some (Value.agg (Array.mk [Value.int IntKind.i64 p, Value.int IntKind.i64 q]))) (Tr.node (Tr.node Tr.nil (some (Value.int IntKind.i64 q)) Tr.nil) (some (Value.bool false)) Tr.nil)) ms (AW.mk 1 (Tr.node Tr.nil (some (AObj.cells [Value.int IntKind.i64 p, Value.int IntKind.i64 q] 74 0 0)) Tr.nil) Tr.nil) := by kernel_rfl

theorem frB (r : Mem) (L : Nat) (fs : FnsC) (p q d l : Int) (s : List (Nat × Value)) (kn : KS) (kx : Nat → KS) (kr : KS) (ms : List Nat) : run (SC r) 31 32 L (ic (ic (lc (rc (rc (rc cFr)))))) fs none kn kx kr s (TF p q d l) ms (AF p q) =
    bif l != Int.ofNat 0 then bif !decide (l = 0) then kn [(20, Value.int IntKind.i64 (Int.tmod d l)), (19, Value.int IntKind.i64 l), (18, Value.int IntKind.i64 d), (17, Value.int IntKind.i64 l)] (Tr.node (Tr.node (Tr.node Tr.nil (some (Value.int IntKind.i64 l)) Tr.nil) (some (Value.pointer (some (Addr.mk 0 0 none)))) Tr.nil) (some (Value.agg (Array.mk [Value.int IntKind.i64 p, Value.int IntKind.i64 q]))) (Tr.node (Tr.node Tr.nil (some (Value.int IntKind.i64 (Int.tmod d l))) Tr.nil) (some (Value.bool false)) Tr.nil)) ms (AW.mk 1 (Tr.node Tr.nil (some (AObj.cells [Value.int IntKind.i64 p, Value.int IntKind.i64 q] 74 0 0)) Tr.nil) Tr.nil) else CR.fail 420 else kx 0 [(16, Value.bool false), (15, Value.int IntKind.i64 l)] (Tr.node (Tr.node (Tr.node Tr.nil (some (Value.int IntKind.i64 d)) Tr.nil) (some (Value.pointer (some (Addr.mk 0 0 none)))) Tr.nil) (some (Value.agg (Array.mk [Value.int IntKind.i64 p, Value.int IntKind.i64 q]))) (Tr.node (Tr.node Tr.nil (some (Value.int IntKind.i64 l)) Tr.nil) (some (Value.bool false)) Tr.nil)) ms (AW.mk 1 (Tr.node Tr.nil (some (AObj.cells [Value.int IntKind.i64 p, Value.int IntKind.i64 q] 74 0 0)) Tr.nil) Tr.nil) := by kernel_rfl

theorem frC (r : Mem) (L : Nat) (fs : FnsC) (p q d l : Int) (s : List (Nat × Value)) (kn : KS) (kx : Nat → KS) (kr : KS) (ms : List Nat) : run (SC r) 31 32 L (rc (rc (rc (rc cFr)))) fs none kn kx kr s (TF p q d l) ms (AF p q) =
    bif decide (q > 0) then bif d == Int.ofNat 1 then kr [(31, Value.bool true), (30, Value.bool true), (29, Value.tuple (Array.mk [])), (28, Value.tuple (Array.mk [])), (27, Value.bool true), (26, Value.bool true), (25, Value.int IntKind.i64 d), (24, Value.bool true), (23, Value.bool true), (22, Value.int IntKind.i64 q), (21, Value.pointer (some (Addr.mk 0 1 none)))] (Tr.node (Tr.node (Tr.node Tr.nil (some (Value.int IntKind.i64 d)) Tr.nil) (some (Value.pointer (some (Addr.mk 0 0 none)))) Tr.nil) (some (Value.agg (Array.mk [Value.int IntKind.i64 p, Value.int IntKind.i64 q]))) (Tr.node (Tr.node Tr.nil (some (Value.int IntKind.i64 l)) Tr.nil) (some (Value.bool true)) Tr.nil)) ms (AW.mk 1 (Tr.node Tr.nil (some (AObj.cells [Value.int IntKind.i64 p, Value.int IntKind.i64 q] 74 0 0)) Tr.nil) Tr.nil) else bif d == Int.negSucc 0 then kr [(31, Value.bool true), (30, Value.bool true), (29, Value.bool true), (28, Value.int IntKind.i64 d), (27, Value.bool false), (26, Value.bool false), (25, Value.int IntKind.i64 d), (24, Value.bool true), (23, Value.bool true), (22, Value.int IntKind.i64 q), (21, Value.pointer (some (Addr.mk 0 1 none)))] (Tr.node (Tr.node (Tr.node Tr.nil (some (Value.int IntKind.i64 d)) Tr.nil) (some (Value.pointer (some (Addr.mk 0 0 none)))) Tr.nil) (some (Value.agg (Array.mk [Value.int IntKind.i64 p, Value.int IntKind.i64 q]))) (Tr.node (Tr.node Tr.nil (some (Value.int IntKind.i64 l)) Tr.nil) (some (Value.bool true)) Tr.nil)) ms (AW.mk 1 (Tr.node Tr.nil (some (AObj.cells [Value.int IntKind.i64 p, Value.int IntKind.i64 q] 74 0 0)) Tr.nil) Tr.nil) else kr [(31, Value.bool false), (30, Value.bool false), (29, Value.bool false), (28, Value.int IntKind.i64 d), (27, Value.bool false), (26, Value.bool false), (25, Value.int IntKind.i64 d), (24, Value.bool true), (23, Value.bool true), (22, Value.int IntKind.i64 q), (21, Value.pointer (some (Addr.mk 0 1 none)))] (Tr.node (Tr.node (Tr.node Tr.nil (some (Value.int IntKind.i64 d)) Tr.nil) (some (Value.pointer (some (Addr.mk 0 0 none)))) Tr.nil) (some (Value.agg (Array.mk [Value.int IntKind.i64 p, Value.int IntKind.i64 q]))) (Tr.node (Tr.node Tr.nil (some (Value.int IntKind.i64 l)) Tr.nil) (some (Value.bool false)) Tr.nil)) ms (AW.mk 1 (Tr.node Tr.nil (some (AObj.cells [Value.int IntKind.i64 p, Value.int IntKind.i64 q] 74 0 0)) Tr.nil) Tr.nil) else kr [(31, Value.bool false), (30, Value.tuple (Array.mk [])), (29, Value.tuple (Array.mk [])), (28, Value.tuple (Array.mk [])), (27, Value.tuple (Array.mk [])), (26, Value.tuple (Array.mk [])), (25, Value.tuple (Array.mk [])), (24, Value.bool false), (23, Value.bool false), (22, Value.int IntKind.i64 q), (21, Value.pointer (some (Addr.mk 0 1 none)))] (Tr.node (Tr.node (Tr.node Tr.nil (some (Value.int IntKind.i64 d)) Tr.nil) (some (Value.pointer (some (Addr.mk 0 0 none)))) Tr.nil) (some (Value.agg (Array.mk [Value.int IntKind.i64 p, Value.int IntKind.i64 q]))) (Tr.node (Tr.node Tr.nil (some (Value.int IntKind.i64 l)) Tr.nil) (some (Value.bool false)) Tr.nil)) ms (AW.mk 1 (Tr.node Tr.nil (some (AObj.cells [Value.int IntKind.i64 p, Value.int IntKind.i64 q] 74 0 0)) Tr.nil) Tr.nil) := by kernel_rfl

end Go.Proofs

/- Numbers: greatest divisors, inverses by a modulus, as the loops find them. -/
namespace Go.Num

/-- Euclid, by rests that may be negative. -/
def euc (d l : Int) : Int := if _h : l = 0 then d else euc l (d.tmod l)
termination_by l.natAbs
decreasing_by
  rw [Int.natAbs_tmod]
  exact Nat.mod_lt _ (by omega)

theorem gcd_tmod (d l : Int) : Int.gcd l (d.tmod l) = Int.gcd d l := by
  rw [Int.gcd_eq_natAbs_gcd_natAbs, Int.natAbs_tmod, Int.gcd_comm d l, Int.gcd_eq_natAbs_gcd_natAbs, Nat.gcd_comm, ← Nat.gcd_rec]

theorem euc_gcd (d l : Int) : (euc d l).natAbs = Int.gcd d l := by
  induction d, l using euc.induct with
  | case1 d => rw [euc, dif_pos rfl]; simp
  | case2 d l h ih => rw [euc, dif_neg h, ih, gcd_tmod]

/-- The same, as long as the rest is greater than 0. -/
def gcdP (a b : Int) : Int := if _h : b > 0 then gcdP b (a.tmod b) else a
termination_by b.toNat
decreasing_by
  have h1 := Int.tmod_lt_of_pos a _h
  omega

theorem gcdP_gcd (a b : Int) (ha : 0 ≤ a) (hb : 0 ≤ b) : gcdP a b = Int.gcd a b := by
  induction a, b using gcdP.induct with
  | case1 a b h ih =>
    rw [gcdP, dif_pos h, ih hb (Int.tmod_nonneg _ ha), gcd_tmod]
  | case2 a b h =>
    have : b = 0 := by omega
    subst this
    rw [gcdP, dif_neg h]; simp; omega

/-- A fraction. -/
def frac (p q : Int) : Bool := if q = 0 then decide (p = 1) else decide (q > 0) && (decide (euc p q = 1) || decide (euc p q = -1))

theorem frac_iff (p q : Int) : frac p q = true ↔ (q = 0 ∧ p = 1) ∨ (q > 0 ∧ Int.gcd p q = 1) := by
  unfold frac
  have := euc_gcd p q
  split
  · simp; omega
  · simp; omega

/-- The reference's fraction. -/
def fracR (p q : Int) : Bool := if q < 0 then false else if q = 0 then decide (p = 1) else decide (gcdP q (if p.tmod q < 0 then p.tmod q + q else p.tmod q) = 1)

theorem fracR_eq (p q : Int) : fracR p q = frac p q := by
  rw [Bool.eq_iff_iff, frac_iff]
  unfold fracR
  split
  · simp; omega
  · split
    · simp; omega
    · rename_i h1 h2
      have hq : q > 0 := by omega
      have e1 := Int.tmod_lt_of_pos p hq
      have e2 : -q < p.tmod q := by
        have : (p.tmod q).natAbs < q.natAbs := by rw [Int.natAbs_tmod]; exact Nat.mod_lt _ (by omega)
        omega
      have e3 : Int.gcd q (if p.tmod q < 0 then p.tmod q + q else p.tmod q) = Int.gcd p q := by
        split
        · rw [Int.gcd_add_self_right, gcd_tmod]
        · rw [gcd_tmod]
      rw [gcdP_gcd _ _ (by omega) (by split <;> omega), e3]
      simp; omega

/-- A link. -/
def link (p q : Int) : Bool := decide (q < p) && decide (p ≤ 1000000) && frac p q
def linkR (p q : Int) : Bool := decide (p ≥ 1) && decide (p ≤ 1000000) && decide (q ≥ 0) && decide (q < p) && decide (gcdP p q = 1)

theorem link_iff (p q : Int) : link p q = true ↔ 1 ≤ p ∧ p ≤ 1000000 ∧ 0 ≤ q ∧ q < p ∧ Int.gcd p q = 1 := by
  unfold link
  simp only [Bool.and_eq_true, frac_iff, decide_eq_true_eq]
  constructor
  · rintro ⟨⟨h1, h2⟩, (⟨rfl, rfl⟩ | ⟨h3, h4⟩)⟩
    · decide
    · exact ⟨by omega, h2, by omega, h1, h4⟩
  · rintro ⟨h1, h2, h3, h4, h5⟩
    refine ⟨⟨h4, h2⟩, ?_⟩
    by_cases hq : q = 0
    · subst hq
      simp at h5
      omega
    · exact .inr ⟨by omega, h5⟩

theorem linkR_eq (p q : Int) : linkR p q = link p q := by
  rw [Bool.eq_iff_iff, link_iff]
  unfold linkR
  simp only [Bool.and_eq_true, decide_eq_true_eq]
  constructor
  · rintro ⟨⟨⟨⟨h1, h2⟩, h3⟩, h4⟩, h5⟩
    rw [gcdP_gcd _ _ (by omega) h3] at h5
    exact ⟨h1, h2, h3, h4, by omega⟩
  · rintro ⟨h1, h2, h3, h4, h5⟩
    rw [gcdP_gcd _ _ (by omega) h3, h5]
    exact ⟨⟨⟨⟨h1, h2⟩, h3⟩, h4⟩, rfl⟩

/-- The factor of the first of two numbers. -/
def fac (l n f g : Int) : Int := if _h : n > 0 then fac n (l - l.tdiv n * n) g (f - l.tdiv n * g) else f
termination_by n.toNat
decreasing_by
  have h1 := Int.tmod_lt_of_pos l _h
  have := Int.tmod_def l n
  have h2 : l.tdiv n * n = n * l.tdiv n := Int.mul_comm _ _
  omega

/-- What stays as it is on the way. -/
structure Inv (a m l n f g : Int) : Prop where
  l0 : 0 ≤ l
  n0 : 0 ≤ n
  sum : (0 ≤ f ∧ g ≤ 0 ∧ f * n - g * l = m) ∨ (f ≤ 0 ∧ 0 ≤ g ∧ g * l - f * n = m)
  lm : m ∣ a * f - l
  nm : m ∣ a * g - n
  gcd : Int.gcd l n = Int.gcd a m
  lt : 0 < l ∨ 0 < n

theorem Inv.start {a m : Int} (ha : 0 ≤ a) (hm : 0 < m) : Inv a m a m 1 0 :=
  ⟨ha, by omega, .inl ⟨by omega, by omega, by omega⟩, ⟨0, by omega⟩, ⟨-1, by omega⟩, rfl, .inr hm⟩

theorem Inv.step {a m l n f g : Int} (h : Inv a m l n f g) (hn : n > 0) : Inv a m n (l - l.tdiv n * n) g (f - l.tdiv n * g) := by
  obtain ⟨l0, n0, sum, lm, nm, gcd, lt⟩ := h
  have ht0 : 0 ≤ l.tdiv n := Int.tdiv_nonneg l0 n0
  have e : l - l.tdiv n * n = l.tmod n := by have := Int.tmod_def l n; rw [Int.mul_comm] at this; exact this.symm
  refine ⟨n0, ?_, ?_, nm, ?_, ?_, .inl hn⟩
  · rw [e]; exact Int.tmod_nonneg _ l0
  · generalize l.tdiv n = t at *
    rcases sum with ⟨h1, h2, h3⟩ | ⟨h1, h2, h3⟩
    · refine .inr ⟨h2, ?_, ?_⟩
      · have : t * g ≤ 0 := Int.mul_nonpos_of_nonneg_of_nonpos ht0 h2
        omega
      · grind
    · refine .inl ⟨h2, ?_, ?_⟩
      · have : 0 ≤ t * g := Int.mul_nonneg ht0 h2
        omega
      · grind
  · obtain ⟨u, hu⟩ := lm
    obtain ⟨v, hv⟩ := nm
    generalize l.tdiv n = t at *
    exact ⟨u - t * v, by grind⟩
  · rw [e, gcd_tmod, gcd]

theorem le_mul1 {x y : Int} (hx : 0 ≤ x) (hy : 1 ≤ y) : x ≤ x * y := by
  have := Int.mul_le_mul_of_nonneg_left hy hx
  omega

/-- Bounds on the way. -/
theorem Inv.bound {a m l n f g : Int} (h : Inv a m l n f g) (hn : n > 0) : -m ≤ f ∧ f ≤ m ∧ 0 ≤ l.tdiv n ∧ l.tdiv n ≤ l ∧ 0 ≤ l.tdiv n * n ∧ l.tdiv n * n ≤ l ∧ -m ≤ l.tdiv n * g ∧ l.tdiv n * g ≤ m := by
  obtain ⟨l0, n0, sum, lm, nm, gcd, lt⟩ := h
  have ht0 : 0 ≤ l.tdiv n := Int.tdiv_nonneg l0 n0
  have e : l.tdiv n * n + l.tmod n = l := Int.tdiv_mul_add_tmod l n
  have hr := Int.tmod_nonneg n l0
  have htl : l.tdiv n * n ≤ l := by omega
  have ht := le_mul1 ht0 (show (1:Int) ≤ n by omega)
  generalize l.tdiv n = t at *
  rcases sum with ⟨h1, h2, h3⟩ | ⟨h1, h2, h3⟩
  · have a1 := le_mul1 h1 (show (1:Int) ≤ n by omega)
    have a2 : 0 ≤ t * -g := Int.mul_nonneg ht0 (by omega)
    have a3 := le_mul1 a2 (show (1:Int) ≤ n by omega)
    have a4 : -g * (t * n) ≤ -g * l := Int.mul_le_mul_of_nonneg_left htl (by omega)
    have a5 : t * -g * n = -g * (t * n) := by grind
    have a6 : -g * l = -(g * l) := by grind
    have a7 : t * -g = -(t * g) := by grind
    have a8 : 0 ≤ -g * l := Int.mul_nonneg (by omega) l0
    have a9 : 0 ≤ f * n := Int.mul_nonneg h1 n0
    omega
  · have h1' : 0 ≤ -f := by omega
    have a1 := le_mul1 h1' (show (1:Int) ≤ n by omega)
    have a2 : 0 ≤ t * g := Int.mul_nonneg ht0 h2
    have a3 := le_mul1 a2 (show (1:Int) ≤ n by omega)
    have a4 : g * (t * n) ≤ g * l := Int.mul_le_mul_of_nonneg_left htl h2
    have a5 : t * g * n = g * (t * n) := by grind
    have a6 : -f * n = -(f * n) := by grind
    have a8 : 0 ≤ g * l := Int.mul_nonneg h2 l0
    have a9 : 0 ≤ -f * n := Int.mul_nonneg h1' n0
    omega

/-- The factor leaves the rest that it must. -/
theorem fac_inv {a m : Int} (l n f g : Int) (h : Inv a m l n f g) : ∃ g' l', Inv a m l' 0 (fac l n f g) g' := by
  induction l, n, f, g using fac.induct with
  | case1 l n f g hn ih =>
    rw [fac, dif_pos hn]
    exact ih (h.step hn)
  | case2 l n f g hn =>
    rw [fac, dif_neg hn]
    have : n = 0 := by have := h.n0; omega
    subst this
    exact ⟨g, l, h⟩

/-- The inverse of a by n. -/
def inv (a n : Int) : Int := (fac a n 1 0) % n

theorem inv_nonneg (a : Int) {n : Int} (h : 0 < n) : 0 ≤ inv a n := Int.emod_nonneg _ (by omega)
theorem inv_lt (a : Int) {n : Int} (h : 0 < n) : inv a n < n := Int.emod_lt_of_pos _ h

theorem inv_dvd {a n : Int} (ha : 0 ≤ a) (hn : 0 < n) (hg : Int.gcd a n = 1) : n ∣ a * inv a n - 1 := by
  obtain ⟨g', l', h⟩ := fac_inv a n 1 0 (Inv.start ha hn)
  have h1 := h.gcd
  rw [hg] at h1
  simp at h1
  have h2 : l' = 1 := by have := h.l0; omega
  subst h2
  obtain ⟨u, hu⟩ := h.lm
  have h3 := Int.emod_add_mul_ediv (fac a n 1 0) n
  exact ⟨u - a * ((fac a n 1 0) / n), by unfold inv; grind⟩

/-- There is one alone. -/
theorem inv_only {a n x : Int} (ha : 0 ≤ a) (hn : 0 < n) (hg : Int.gcd a n = 1) (h0 : 0 ≤ x) (h1 : x < n) (hx : n ∣ a * x - 1) : x = inv a n := by
  have hi := inv_dvd ha hn hg
  have hd : n ∣ a * (x - inv a n) := by
    obtain ⟨u, hu⟩ := hi
    obtain ⟨v, hv⟩ := hx
    exact ⟨v - u, by grind⟩
  have hd2 : n ∣ x - inv a n := by
    have : Int.gcd n a = 1 := by rw [Int.gcd_comm]; exact hg
    rw [← Int.gcd_eq_natAbs_left_iff_dvd, Int.gcd_mul_right_right_of_gcd_eq_one this] at hd
    exact Int.gcd_eq_natAbs_left_iff_dvd.1 hd
  have b1 := inv_nonneg a hn
  have b2 := inv_lt a hn
  obtain ⟨k, hk⟩ := hd2
  have hk0 : k = 0 := by
    by_cases c : k = 0
    · exact c
    · exfalso
      by_cases c1 : 0 < k
      · have := Int.mul_le_mul_of_nonneg_left (show (1:Int) ≤ k by omega) (show 0 ≤ n by omega)
        omega
      · have := Int.mul_le_mul_of_nonneg_left (show k ≤ -1 by omega) (show 0 ≤ n by omega)
        omega
  subst hk0
  omega

theorem inv_gcd {a n : Int} (ha : 0 ≤ a) (hn : 0 < n) (hg : Int.gcd a n = 1) : Int.gcd (inv a n) n = 1 := by
  obtain ⟨u, hu⟩ := inv_dvd ha hn hg
  rw [Int.gcd_eq_one_iff]
  intro c hc hn
  have h1 : c ∣ a * inv a n := Int.dvd_mul_of_dvd_right hc
  have h2 : c ∣ n * u := Int.dvd_mul_of_dvd_left hn
  have : (1:Int) = a * inv a n - n * u := by omega
  rw [this]
  exact Int.dvd_sub h1 h2

theorem inv_inv {a n : Int} (ha : 0 ≤ a) (han : a < n) (hg : Int.gcd a n = 1) : inv (inv a n) n = a := by
  have hn : 0 < n := by omega
  refine (inv_only (inv_nonneg a hn) hn (inv_gcd ha hn hg) ha han ?_).symm
  rw [Int.mul_comm]
  exact inv_dvd ha hn hg

/-- The second number of the first link. -/
def fst (p q : Int) : Int := min q (inv q p)

/-- Rests by products. -/
theorem rest_one {p x : Int} (hp : 1 < p) : x % p = 1 ↔ p ∣ x - 1 := by
  constructor
  · intro h
    exact ⟨x / p, by have := Int.emod_add_mul_ediv x p; omega⟩
  · rintro ⟨k, hk⟩
    have : x = 1 + p * k := by omega
    rw [this, Int.add_mul_emod_self_left]
    exact Int.emod_eq_of_lt (by omega) hp

/-- The reference's word on it: least x below q with the product, or q. -/
def fstR (p q : Int) (x : Int) : Int := if _h : x < q then (if (x * q).tmod p = (1:Int).tmod p then x else fstR p q (x + 1)) else q
termination_by (q - x).toNat
decreasing_by omega

theorem prod_iff {p q x : Int} (hp : 1 ≤ p) (hq : 0 ≤ q) (hx : 0 ≤ x) : (x * q).tmod p = (1:Int).tmod p ↔ p ∣ q * x - 1 := by
  have h0 : 0 ≤ x * q := Int.mul_nonneg hx hq
  rw [Int.tmod_eq_emod_of_nonneg h0, Int.tmod_eq_emod_of_nonneg (by omega : (0:Int) ≤ 1)]
  by_cases c : p = 1
  · subst c
    simp [Int.emod_one]
  · have : (1:Int) % p = 1 := Int.emod_eq_of_lt (by omega) (by omega)
    rw [this, rest_one (by omega), Int.mul_comm]

theorem fstR_eq {p q : Int} (hl : 0 ≤ q) (hp : q < p) (hg : Int.gcd q p = 1) : ∀ x, 0 ≤ x → x ≤ q → x ≤ inv q p → fstR p q x = fst p q := by
  have hp0 : 0 < p := by omega
  intro x
  induction x using fstR.induct p q with
  | case1 x h hc =>
    intro h0 h1 h2
    rw [fstR, dif_pos h, if_pos hc]
    rw [prod_iff (by omega) hl h0] at hc
    have := inv_only hl hp0 hg h0 (by omega) hc
    unfold fst
    omega
  | case2 x h hc ih =>
    intro h0 h1 h2
    rw [fstR, dif_pos h, if_neg hc]
    rw [prod_iff (by omega) hl h0] at hc
    refine ih (by omega) (by omega) ?_
    have : x ≠ inv q p := fun e => hc (e ▸ inv_dvd hl hp0 hg)
    omega
  | case3 x h =>
    intro h0 h1 h2
    rw [fstR, dif_neg h]
    unfold fst
    omega

theorem fst_nonneg {p q : Int} (h0 : 0 ≤ q) (h : q < p) : 0 ≤ fst p q := by
  have := inv_nonneg q (show 0 < p by omega)
  unfold fst
  omega

/-- The same links. -/
theorem fst_same {p q s : Int} (h0 : 0 ≤ q) (h1 : q < p) (hq : Int.gcd q p = 1) (h2 : 0 ≤ s) (h3 : s < p) (hs : Int.gcd s p = 1) : fst p q = fst p s ↔ p = 1 ∨ q = s ∨ (q * s).tmod p = 1 := by
  have hp : 0 < p := by omega
  have hqs : 0 ≤ q * s := Int.mul_nonneg h0 h2
  by_cases c : p = 1
  · subst c
    have : q = s := by omega
    subst this
    simp
  · have e : (q * s).tmod p = 1 ↔ s = inv q p := by
      rw [Int.tmod_eq_emod_of_nonneg hqs, rest_one (by omega)]
      constructor
      · intro h
        exact inv_only h0 hp hq h2 h3 h
      · rintro rfl
        exact inv_dvd h0 hp hq
    rw [e]
    have b1 := inv_inv h0 h1 hq
    have b2 := inv_inv h2 h3 hs
    have b3 := inv_nonneg q hp
    have b4 := inv_nonneg s hp
    constructor
    · intro h
      unfold fst at h
      by_cases c1 : q ≤ inv q p
      · by_cases c2 : s ≤ inv s p
        · exact .inr (.inl (by omega))
        · refine .inr (.inr ?_)
          have : q = inv s p := by omega
          rw [this, b2]
      · by_cases c2 : s ≤ inv s p
        · exact .inr (.inr (by omega))
        · refine .inr (.inl ?_)
          have : inv q p = inv s p := by omega
          rw [← b1, ← b2, this]
    · rintro (h | rfl | h)
      · exact absurd h c
      · rfl
      · unfold fst
        rw [h, b1]
        omega

theorem dvd_mul_cop {n a x : Int} (h : Int.gcd n a = 1) (hd : n ∣ a * x) : n ∣ x := by
  rw [← Int.gcd_eq_natAbs_left_iff_dvd, Int.gcd_mul_right_right_of_gcd_eq_one h] at hd
  exact Int.gcd_eq_natAbs_left_iff_dvd.1 hd

/-- What is closed is a link. -/
theorem close_gcd {p q r s u v : Int} (h : s * u - r * v = 1) (hg : Int.gcd p q = 1) : Int.gcd (p * s + q * r) (p * v + q * u) = 1 := by
  rw [Int.gcd_eq_one_iff] at hg ⊢
  intro c h1 h2
  refine hg c ?_ ?_
  · have e : p = u * (p * s + q * r) - r * (p * v + q * u) := by grind
    rw [e]
    exact Int.dvd_sub (Int.dvd_mul_of_dvd_right h1) (Int.dvd_mul_of_dvd_right h2)
  · have e : q = s * (p * v + q * u) - v * (p * s + q * r) := by grind
    rw [e]
    exact Int.dvd_sub (Int.dvd_mul_of_dvd_right h2) (Int.dvd_mul_of_dvd_right h1)

/-- It does not depend on the two numbers. -/
theorem close_any {p q r s u v u' v' : Int} (h : s * u - r * v = 1) (h' : s * u' - r * v' = 1) (hs : s ≠ 0) : (p * s + q * r) ∣ (p * v + q * u) - (p * v' + q * u') := by
  have hg : Int.gcd s r = 1 := by
    rw [Int.gcd_eq_one_iff]
    intro c h1 h2
    rw [← h]
    exact Int.dvd_sub (Int.dvd_mul_of_dvd_left h1) (Int.dvd_mul_of_dvd_left h2)
  have hd : s ∣ r * (v - v') := ⟨u - u', by grind⟩
  obtain ⟨k, hk⟩ := dvd_mul_cop hg hd
  have hu : u - u' = r * k := by
    have : s * (u - u') = s * (r * k) := by grind
    exact Int.eq_of_mul_eq_mul_left hs this
  exact ⟨k, by grind⟩

theorem rest_same {n a b : Int} (h : n ∣ a - b) : a % n = b % n := by
  obtain ⟨k, hk⟩ := h
  have : a = b + n * k := by omega
  rw [this, Int.add_mul_emod_self_left]

end Go.Num

/- Fractions: what the loops answer. -/
namespace Go.Proofs
open Go Go.Ev Go.Num

def masks : Tr Nat := ((((((Tr.nil.put 71 (some 31)).put 34 (some 19)).put 75 (some 1011)).put 29 (some 115)).put 65 (some 115)).put 45 (some 51))

def m_gcd (a b : Int) : Int := gcdP a b
def m_frac (p q : Int) : Bool := frac p q

theorem fr_loop (r : Mem) (fs : FnsC) (L : Nat) (kx : Nat → KS) (kr : KS) (ms : List Nat) (p q : Int) (R : CR) : ∀ (j : Nat) (d l : Int) (s : List (Nat × Value)), l.natAbs < j → (∀ s, kx 0 s (TF p q (euc d l) 0) ms (AF p q) = R) →
    cLoop (fun kl => run (SC r) 31 32 L (ic (ic (lc (rc (rc (rc cFr)))))) fs none kl kx kr) j s (TF p q d l) ms (AF p q) = R := by
  intro j
  induction j with
  | zero => intro d l s h; omega
  | succ j ih =>
    intro d l s h hx
    rw [cLoop_succ, frB]
    by_cases hl : l = 0
    · subst hl
      rw [euc, dif_pos rfl] at hx
      exact hx _
    · have h0 : (l != Int.ofNat 0) = true := by simp; exact hl
      have h1 : (l.natAbs ≠ 0) := by omega
      have h2 : (d.tmod l).natAbs < l.natAbs := by rw [Int.natAbs_tmod]; exact Nat.mod_lt _ (by omega)
      simp only [h0, hl, decide_false, cond_true, Bool.not_false]
      rw [euc, dif_neg hl] at hx
      exact ih l (d.tmod l) _ (by omega) hx

theorem cFr_eq : cFr = .seq (lc cFr) (.seq (lc (rc cFr)) (.seq (lc (rc (rc cFr))) (.seq (.block 0 (.loop (ic (ic (lc (rc (rc (rc cFr)))))))) (rc (rc (rc (rc cFr))))))) := by kernel_rfl

theorem frac_ok (r : Mem) (p q : Int) : GrT Tryd.prog r 71 [FV p q] (.bool (frac p q)) :=
  GrT.of (SC_ok r) TOk.nil masks rfl ⟨q.natAbs + 1, 1, by
    rw [enterN (m := 31) (n := 32) (rs := [.tmp 2]) cFr rfl (by kernel_rfl) (by kernel_rfl) (by kernel_rfl) (by kernel_rfl) (by kernel_rfl) rfl]
    generalize hk : finK (SC r) 31 [.tmp 2] fin = kr
    rw [cFr_eq, seqA, seqA, run_while]
    refine (frA r _ _ p q _ _ _ _).trans ?_
    by_cases hq : q = 0
    · subst hq
      by_cases hp : p = 1
      · subst hp
        subst hk
        rfl
      · have : (p == Int.ofNat 1) = false := by simp; exact hp
        have h2 : frac p 0 = false := by simp [frac, hp]
        rw [h2]
        simp only [this, cond_false]
        subst hk
        rfl
    · have h0 : (q == Int.ofNat 0) = false := by simp; exact hq
      simp only [h0, cond_false]
      refine (show _ = _ from fr_loop r _ _ _ _ _ p q _ (q.natAbs + 1) p q _ (by omega) fun s => ?_)
      refine (frC r _ _ p q _ _ _ _ _ _ _).trans ?_
      subst hk
      unfold frac
      rw [if_neg hq]
      by_cases c1 : q > 0
      · by_cases c2 : euc p q = 1
        · have c2' : (euc p q == Int.ofNat 1) = true := by simp [c2]
          simp only [c1, c2', decide_true, cond_true]
          simp only [c2, decide_true, Bool.true_or, Bool.and_true]
          rfl
        · have c2' : (euc p q == Int.ofNat 1) = false := by simp; exact c2
          by_cases c3 : euc p q = -1
          · have c3' : (euc p q == Int.negSucc 0) = true := by simp [c3]
            simp only [c1, c2', c3', decide_true, cond_true, cond_false]
            simp only [c3, decide_true, Bool.or_true, Bool.and_true]
            rfl
          · have c3' : (euc p q == Int.negSucc 0) = false := by simp; exact c3
            simp only [c1, c2', c3', decide_true, cond_true, cond_false]
            simp only [c2, c3, decide_false, Bool.or_false, Bool.and_false]
            rfl
      · simp only [c1, decide_false, cond_false, Bool.false_and]
        rfl⟩

end Go.Proofs

/- Greatest divisors, inverses, first links: what the loops answer. -/
namespace Go.Proofs
open Go Go.Ev Go.Num

theorem gc_loop (r : Mem) (fs : FnsC) (L : Nat) (kx : Nat → KS) (kr : KS) (ms : List Nat) (A : AW) (R : CR) : ∀ (j : Nat) (a b : Int) (s : List (Nat × Value)), b.toNat < j → (∀ s b', kx 0 s (TG (gcdP a b) b') ms A = R) →
    cLoop (fun kl => run (SC r) 19 12 L (ic (ic (lc (rc cGc)))) fs none kl kx kr) j s (TG a b) ms A = R := by
  intro j
  induction j with
  | zero => intro a b s h; omega
  | succ j ih =>
    intro a b s h hx
    rw [cLoop_succ, gcB]
    by_cases hb : b > 0
    · have h0 : b ≠ 0 := by omega
      have h1 := Int.tmod_lt_of_pos a hb
      simp only [hb, h0, decide_true, decide_false, cond_true, Bool.not_false]
      rw [gcdP, dif_pos hb] at hx
      exact ih b (a.tmod b) _ (by omega) hx
    · simp only [hb, decide_false, cond_false]
      rw [gcdP, dif_neg hb] at hx
      exact hx _ _

theorem cGc_eq : cGc = .seq (lc cGc) (.seq (.block 0 (.loop (ic (ic (lc (rc cGc)))))) (rc (rc cGc))) := by kernel_rfl

theorem gcd_ok (r : Mem) (a b : Int) : GrT Tryd.prog r 34 [I a, I b] (I (gcdP a b)) :=
  GrT.of (SC_ok r) TOk.nil masks rfl ⟨b.toNat + 1, 1, by
    rw [enterN (m := 19) (n := 12) (rs := [.tmp 4]) cGc rfl (by kernel_rfl) (by kernel_rfl) (by kernel_rfl) (by kernel_rfl) (by kernel_rfl) rfl]
    generalize hk : finK (SC r) 19 [.tmp 4] fin = kr
    rw [cGc_eq, run_while]
    refine (gcA r _ _ a b _ _ _ _ _).trans ?_
    refine (show _ = _ from gc_loop r _ _ _ _ _ _ _ (b.toNat + 1) a b _ (by omega) fun s b' => ?_)
    refine (gcC r _ _ _ _ _ _ _ _ _ _).trans ?_
    subst hk
    rfl⟩

theorem in_loop (r : Mem) (fs : FnsC) (L : Nat) (kx : Nat → KS) (kr : KS) (ms : List Nat) (A : AW) (a n : Int) (R : CR) : ∀ (j : Nat) (l m f g : Int) (v9 : Tr Value) (s : List (Nat × Value)), m.toNat < j → Inv a n l m f g → l ≤ 1000000 → m ≤ 1000000 → n ≤ 1000000 →
    (∀ s l' g' v9, kx 0 s (TI a n l' 0 (fac l m f g) g' v9) ms A = R) →
    cLoop (fun kl => run (SC r) 1011 32 L (ic (ic (lc (rc (rc (rc cIn)))))) fs none kl kx kr) j s (TI a n l m f g v9) ms A = R := by
  intro j
  induction j with
  | zero => intro l m f g v9 s h; omega
  | succ j ih =>
    intro l m f g v9 s h hi hl hm hn hx
    rw [cLoop_succ, inB]
    have m0 := hi.n0
    have l0 := hi.l0
    by_cases hb : m > 0
    · have h0 : m ≠ 0 := by omega
      have hs := hi.step hb
      have h1 := Int.tmod_lt_of_pos l hb
      have e0 : l - l.tdiv m * m = l.tmod m := by have := Int.tmod_def l m; rw [Int.mul_comm] at this; exact this.symm
      obtain ⟨b1, b2, b3, b4, b5, b6, b7, b8⟩ := hi.bound hb
      have w1 : IntKind.wrap IntKind.i64 (l.tdiv m) = l.tdiv m := wrI (by omega)
      have w2 : IntKind.wrap IntKind.i64 (l.tdiv m * m) = l.tdiv m * m := wrI (by omega)
      have w3 : IntKind.wrap IntKind.i64 (l - l.tdiv m * m) = l - l.tdiv m * m := wrI (by omega)
      have w4 : IntKind.wrap IntKind.i64 (l.tdiv m * g) = l.tdiv m * g := wrI (by omega)
      have w5 : IntKind.wrap IntKind.i64 (f - l.tdiv m * g) = f - l.tdiv m * g := wrI (by omega)
      simp only [neT (show m ≠ Int.ofNat 0 from h0), dF h0, cond_true, Bool.not_false, w1, w2, w3, w4, w5]
      rw [fac, dif_pos hb] at hx
      cases v9 <;> exact ih m (l - l.tdiv m * m) g (f - l.tdiv m * g) _ _ (by omega) hs hm (by omega) hn hx
    · have h0 : m = 0 := by omega
      subst h0
      rw [fac, dif_neg hb] at hx
      exact hx _ _ _ _

theorem tR_ok (r : Mem) : TOk (SC r) tR := TOk.cons TOk.nil (restE_ok r)

theorem cIn_eq : cIn = .seq (lc cIn) (.seq (lc (rc cIn)) (.seq (lc (rc (rc cIn))) (.seq (.block 0 (.loop (ic (ic (lc (rc (rc (rc cIn)))))))) (rc (rc (rc (rc cIn))))))) := by kernel_rfl

theorem inv_ok (r : Mem) (a n : Int) (h0 : 0 ≤ a) (h1 : a < n) (h2 : n ≤ 1000000) : GrT Tryd.prog r 75 [I a, I n] (I (inv a n)) :=
  GrT.of (SC_ok r) (tR_ok r) masks rfl ⟨n.toNat + 1, 1, by
    rw [enterN (m := 1011) (n := 32) (rs := [.tmp 4]) cIn rfl (by kernel_rfl) (by kernel_rfl) (by kernel_rfl) (by kernel_rfl) (by kernel_rfl) rfl]
    generalize hk : finK (SC r) 1011 [.tmp 4] fin = kr
    rw [cIn_eq, seqA, seqA, run_while]
    refine (inA r _ _ a n _ _ _ _ _).trans ?_
    refine (show _ = _ from in_loop r _ _ _ _ _ _ a n _ (n.toNat + 1) a n 1 0 .nil _ (by omega) (Inv.start h0 (by omega)) (by omega) h2 h2 fun s l' g' v9 => ?_)
    refine (inC r _ _ _ _ _ _ _ _ _ _ _ _ _ _ _).trans ?_
    have hg : m_restG (fac a n 1 0) n = true := by simp [m_restG]; omega
    simp only [hg, cond_true]
    subst hk
    rfl⟩

theorem fi_loop (r : Mem) (fs : FnsC) (L : Nat) (kx : Nat → KS) (kr : KS) (ms : List Nat) (A : AW) (p q : Int) (R : CR) (hp : 0 < p) (hp2 : p ≤ 1000000) (hq : q ≤ 1000000) :
    ∀ (j : Nat) (x : Int) (s : List (Nat × Value)), 0 ≤ x → (q - x).toNat < j →
    (∀ s x', fstR p q x = q → kx 0 s (TFi p q x') ms A = R) → (∀ s, kr s (((tr0 115 [I p, I q]).put 4 (some (I p))).put 5 (some (I (fstR p q x))) |>.put 6 (some (I (fstR p q x)))) ms A = R) →
    cLoop (fun kl => run (SC r) 115 24 L (ic (ic (rc (lc (rc cFi))))) fs none kl kx kr) j s (TFi p q x) ms A = R := by
  intro j
  induction j with
  | zero => intro x s h0 h; omega
  | succ j ih =>
    intro x s hx0 h hx hr
    rw [cLoop_succ, fiB]
    by_cases hb : x < q
    · have h0 : p ≠ 0 := by omega
      have hm1 : 0 ≤ x * q := Int.mul_nonneg hx0 (by omega)
      have hm2 : x * q ≤ 1000000 * 1000000 := Int.mul_le_mul (by omega) hq (by omega) (by omega)
      have w1 : IntKind.wrap IntKind.i64 (x * q) = x * q := wrI (by omega)
      have w2 : IntKind.wrap IntKind.i64 (x + Int.ofNat 1) = x + 1 := wrI (by simp; omega)
      simp only [dT hb, dF h0, cond_true, Bool.not_false, w1, w2]
      rw [fstR, dif_pos hb] at hx hr
      by_cases c : (x * q).tmod p = (1:Int).tmod p
      · rw [if_pos c] at hr
        simp only [eqT (show (x * q).tmod p = (Int.ofNat 1).tmod p from c), cond_true]
        exact hr _
      · rw [if_neg c] at hx hr
        simp only [eqF (show (x * q).tmod p ≠ (Int.ofNat 1).tmod p from c), cond_false]
        exact ih (x + 1) _ (by omega) (by omega) hx hr
    · simp only [dF hb, cond_false]
      rw [fstR, dif_neg hb] at hx
      exact hx _ _ rfl

theorem cFi_eq : cFi = .seq (lc cFi) (.seq (.seq (lc (lc (rc cFi))) (.block 0 (.loop (ic (ic (rc (lc (rc cFi)))))))) (rc (rc cFi))) := by kernel_rfl

/-- The first of the same links, as the reference finds it. -/
theorem first_ok (r : Mem) (p q : Int) (h0 : 0 < p) (h1 : p ≤ 1000000) (h2 : q ≤ 1000000) : GrT Tryd.prog r 29 [I p, I q] (.tuple ⟨[I p, I (fstR p q 0)]⟩) :=
  GrT.of (SC_ok r) TOk.nil masks rfl ⟨q.toNat + 1, 1, by
    rw [enterN (m := 115) (n := 24) (rs := [.tmp 4, .tmp 5]) cFi rfl (by kernel_rfl) (by kernel_rfl) (by kernel_rfl) (by kernel_rfl) (by kernel_rfl) rfl]
    generalize hk : finK (SC r) 115 [.tmp 4, .tmp 5] fin = kr
    rw [cFi_eq, run_pre, run_while]
    refine (fiA r _ _ p q _ _ _ _ _).trans ?_
    refine (show _ = _ from fi_loop r _ _ _ _ _ _ p q _ h0 h1 h2 (q.toNat + 1) 0 _ (by omega) (by omega) (fun s x' he => ?_) fun s => ?_)
    · refine (fiC r _ _ _ _ _ _ _ _ _ _ _).trans ?_
      rw [he]
      subst hk
      rfl
    · subst hk
      rfl⟩

theorem be_loop (r : Mem) (fs : FnsC) (L : Nat) (kx : Nat → KS) (kr : KS) (ms : List Nat) (A : AW) (p q v : Int) (R : CR) (hp : -500 ≤ p) (hp2 : p ≤ 500) (hq : 0 < q) (hq2 : q ≤ 500) (hv : v < q) (hd : q ∣ p * v + 1) (ho : ∀ x, 0 ≤ x → x < v → ¬ q ∣ p * x + 1) :
    ∀ (j : Nat) (x : Int) (s : List (Nat × Value)), 0 ≤ x → x ≤ v → (v - x).toNat < j →
    (∀ s, kr s (((tr0 115 [I p, I q]).put 4 (some (I ((p * v + 1).tdiv q)))).put 5 (some (I v)) |>.put 6 (some (I v))) ms A = R) →
    cLoop (fun kl => run (SC r) 115 27 L (ic (ic (rc (rc (rc cBe))))) fs none kl kx kr) j s (TBe p q x) ms A = R := by
  intro j
  induction j with
  | zero => intro x s h0 h; omega
  | succ j ih =>
    intro x s hx0 hxv h hr
    rw [cLoop_succ, beB]
    have h0 : q ≠ 0 := by omega
    have hm1 : p * x ≤ 500 * 500 := by
      by_cases c : 0 ≤ p
      · exact Int.mul_le_mul hp2 (by omega) hx0 (by omega)
      · have : p * x ≤ 0 := Int.mul_nonpos_of_nonpos_of_nonneg (by omega) hx0
        omega
    have hm2 : -(500 * 500) ≤ p * x := by
      by_cases c : 0 ≤ p
      · have : 0 ≤ p * x := Int.mul_nonneg c hx0
        omega
      · have : -p * x ≤ 500 * 500 := Int.mul_le_mul (by omega) (by omega) hx0 (by omega)
        have e : -p * x = -(p * x) := by rw [Int.neg_mul]
        omega
    have w1 : IntKind.wrap IntKind.i64 (p * x) = p * x := wrI (by omega)
    have w2 : IntKind.wrap IntKind.i64 (p * x + Int.ofNat 1) = p * x + 1 := wrI (by simp; omega)
    have w3 : IntKind.wrap IntKind.i64 (x + Int.ofNat 1) = x + 1 := wrI (by simp; omega)
    have hdv : (p * x + 1).tmod q = 0 ↔ q ∣ p * x + 1 := ⟨fun h => Int.dvd_of_tmod_eq_zero h, fun h => Int.tmod_eq_zero_of_dvd h⟩
    have w4 : IntKind.wrap IntKind.i64 ((p * x + 1).tdiv q) = (p * x + 1).tdiv q := wrI (by
      have := Int.natAbs_tdiv_le_natAbs (p * x + 1) q
      omega)
    simp only [dF h0, cond_true, Bool.not_false, w1, w2, w3, w4]
    by_cases c : q ∣ p * x + 1
    · have : x = v := by
        by_cases cx : x < v
        · exact absurd c (ho x hx0 cx)
        · omega
      subst this
      simp only [eqT (show (p * x + 1).tmod q = Int.ofNat 0 from hdv.2 c), cond_true]
      exact hr _
    · simp only [eqF (show (p * x + 1).tmod q ≠ Int.ofNat 0 from fun h => c (hdv.1 h)), cond_false]
      have : x ≠ v := fun e => c (e ▸ hd)
      exact ih (x + 1) _ (by omega) (by omega) (by omega) hr

theorem cBe_eq : cBe = .seq (lc cBe) (.seq (lc (rc cBe)) (.seq (lc (rc (rc cBe))) (.block 0 (.loop (ic (ic (rc (rc (rc cBe))))))))) := by kernel_rfl

/-- The second of the numbers of the neighbour. -/
def bezV (p q : Int) : Int := if q = 0 then -p else inv ((-p) % q) q
def bezU (p q : Int) : Int := if q = 0 then 0 else (p * bezV p q + 1).tdiv q

theorem bezV_spec {p q : Int} (hq : 0 < q) (hg : Int.gcd p q = 1) : q ∣ p * bezV p q + 1 ∧ ∀ x, 0 ≤ x → x < bezV p q → ¬ q ∣ p * x + 1 := by
  have a0 : 0 ≤ (-p) % q := Int.emod_nonneg _ (by omega)
  have e := Int.emod_add_mul_ediv (-p) q
  have hg2 : Int.gcd ((-p) % q) q = 1 := by
    have : (-p) % q = -p + (-((-p) / q)) * q := by grind
    rw [this, Int.gcd_add_mul_right_left, Int.neg_gcd, hg]
  have hb : bezV p q = inv ((-p) % q) q := by unfold bezV; rw [if_neg (by omega)]
  have hd := inv_dvd a0 hq hg2
  rw [hb]
  constructor
  · obtain ⟨k, hk⟩ := hd
    exact ⟨-k - (-p) / q * inv ((-p) % q) q, by grind⟩
  · intro x h0 h1 hx
    have := inv_lt ((-p) % q) hq
    have hx2 : q ∣ ((-p) % q) * x - 1 := by
      obtain ⟨k, hk⟩ := hx
      exact ⟨-k - (-p) / q * x, by grind⟩
    have := inv_only a0 hq hg2 h0 (by omega) hx2
    omega

theorem bez_ok (r : Mem) (p q : Int) (h0 : -500 ≤ p) (h1 : p ≤ 500) (h2 : q ≤ 500) (hf : frac p q = true) : GrT Tryd.prog r 65 [I p, I q] (.tuple ⟨[I (bezU p q), I (bezV p q)]⟩) :=
  GrT.of (SC_ok r) TOk.nil masks rfl ⟨q.toNat + 1, 1, by
    rw [enterN (m := 115) (n := 27) (rs := [.tmp 4, .tmp 5]) cBe rfl (by kernel_rfl) (by kernel_rfl) (by kernel_rfl) (by kernel_rfl) (by kernel_rfl) rfl]
    generalize hk : finK (SC r) 115 [.tmp 4, .tmp 5] fin = kr
    rw [cBe_eq, seqA, seqA, run_while0]
    refine (beA r _ _ p q _ _ _ _ _).trans ?_
    rw [frac_iff] at hf
    by_cases hq : q = 0
    · subst hq
      have w : IntKind.wrap IntKind.i64 (Int.ofNat 0 - p) = -p := by
        rw [wrI (by simp; omega)]; simp
      have hb : bezV p 0 = -p := by unfold bezV; simp
      have hb2 : bezU p 0 = 0 := by unfold bezU; simp
      rw [hb, hb2]
      simp only [w]
      subst hk
      rfl
    · have hq0 : 0 < q := by omega
      have hg : Int.gcd p q = 1 := by omega
      obtain ⟨s1, s2⟩ := bezV_spec hq0 hg
      have hv0 : 0 ≤ bezV p q := by unfold bezV; rw [if_neg hq]; exact inv_nonneg _ hq0
      have hv : bezV p q < q := by unfold bezV; rw [if_neg hq]; exact inv_lt _ hq0
      simp only [eqF (show q ≠ Int.ofNat 0 from hq), cond_false]
      refine (show _ = _ from be_loop r _ _ _ _ _ _ p q (bezV p q) _ h0 h1 hq0 h2 hv s1 s2 (q.toNat + 1) 0 _ (by omega) hv0 (by omega) fun s => ?_)
      have hu : bezU p q = (p * bezV p q + 1).tdiv q := by unfold bezU; rw [if_neg hq]
      rw [hu]
      subst hk
      rfl⟩

end Go.Proofs

/- Same links, run. -/
namespace Go.Proofs
open Go Go.Ev Go.Num

def m_link (p q : Int) : Bool := link p q
def m_inv (a n : Int) : Int := inv a n
def m_invG (a n : Int) : Bool := decide (0 ≤ a) && decide (a < n) && decide (n ≤ 1000000)
def m_fst (p q : Int) : Int := fst p q

theorem ilA (r : Mem) (L : Nat) (p q : Int) : (lvlT (SC r) (tcons 71 (eA2 (fun _ _ => true) fun a b => .bool (m_frac a b)) fun _ => none) .nil L 1).call 74 [FV p q] emptyA fin =
    bif decide (q < p) then bif decide (p ≤ 1000000) then bif m_frac p q then CR.ret (Value.bool true) (AW.mk 0 Tr.nil Tr.nil) else CR.ret (Value.bool false) (AW.mk 0 Tr.nil Tr.nil) else CR.ret (Value.bool false) (AW.mk 0 Tr.nil Tr.nil) else CR.ret (Value.bool false) (AW.mk 0 Tr.nil Tr.nil) := by kernel_rfl

theorem fsA (r : Mem) (L : Nat) (p q : Int) : (lvlT (SC r) (tcons 75 (eI2 m_invG fun a b => I (m_inv a b)) fun _ => none) .nil L 1).call 54 [FV p q] emptyA fin =
    bif m_invG q p then bif m_eqv (Value.int IntKind.i64 (bif decide (m_inv q p < q) then m_inv q p else q)) (Value.int IntKind.i64 (bif decide (m_inv q p < q) then m_inv q p else q)) then bif m_eqv (Value.int IntKind.i64 p) (Value.int IntKind.i64 p) then bif m_eqv (Value.int IntKind.i64 q) (Value.int IntKind.i64 q) then bif m_eqv (Value.int IntKind.i64 q) (Value.int IntKind.i64 q) then bif m_eqv (Value.int IntKind.i64 q) (Value.int IntKind.i64 q) then bif m_eqv (Value.int IntKind.i64 p) (Value.int IntKind.i64 p) then bif m_eqv (Value.int IntKind.i64 p) (Value.int IntKind.i64 p) then CR.ret (Value.agg (Array.mk [Value.int IntKind.i64 p, Value.int IntKind.i64 (bif decide (m_inv q p < q) then m_inv q p else q)])) (AW.mk 0 Tr.nil Tr.nil) else CR.fail 420 else CR.fail 420 else CR.fail 420 else CR.fail 420 else CR.fail 420 else CR.fail 420 else CR.fail 420 else CR.fail 420 := by kernel_rfl

def eLink : Ent := eA2 (fun _ _ => true) fun a b => .bool (m_link a b)
def eFst : Ent := eA2 (fun p q => m_invG q p) fun p q => FV p (m_fst p q)
def tSame : Tbl := tcons 74 eLink (tcons 54 eFst fun _ => none)

theorem saA (r : Mem) (p q u v : Int) : (lvlT (SC r) tSame .nil 8 4).call 35 [I p, I q, I u, I v] emptyA fin =
    bif m_eqv (Value.int IntKind.i64 q) (Value.int IntKind.i64 q) then bif m_eqv (Value.int IntKind.i64 q) (Value.int IntKind.i64 q) then bif m_eqv (Value.int IntKind.i64 p) (Value.int IntKind.i64 p) then bif m_eqv (Value.int IntKind.i64 p) (Value.int IntKind.i64 p) then bif m_link p q then bif m_eqv (Value.int IntKind.i64 v) (Value.int IntKind.i64 v) then bif m_eqv (Value.int IntKind.i64 v) (Value.int IntKind.i64 v) then bif m_eqv (Value.int IntKind.i64 u) (Value.int IntKind.i64 u) then bif m_eqv (Value.int IntKind.i64 u) (Value.int IntKind.i64 u) then bif m_link u v then bif m_invG q p then bif m_invG v u then bif p == u && (m_fst p q == m_fst u v && true) then bif m_eqv (Value.agg (Array.mk [Value.int IntKind.i64 u, Value.int IntKind.i64 v])) (Value.agg (Array.mk [Value.int IntKind.i64 u, Value.int IntKind.i64 v])) then bif m_eqv (Value.agg (Array.mk [Value.int IntKind.i64 u, Value.int IntKind.i64 v])) (Value.agg (Array.mk [Value.int IntKind.i64 u, Value.int IntKind.i64 v])) then bif m_eqv (Value.agg (Array.mk [Value.int IntKind.i64 p, Value.int IntKind.i64 q])) (Value.agg (Array.mk [Value.int IntKind.i64 p, Value.int IntKind.i64 q])) then CR.ret (Value.tuple (Array.mk [Value.bool true, Value.int IntKind.i64 (Int.ofNat 0)])) (AW.mk 0 Tr.nil Tr.nil) else CR.fail 420 else CR.fail 420 else CR.fail 420 else bif m_eqv (Value.agg (Array.mk [Value.int IntKind.i64 u, Value.int IntKind.i64 v])) (Value.agg (Array.mk [Value.int IntKind.i64 u, Value.int IntKind.i64 v])) then bif m_eqv (Value.agg (Array.mk [Value.int IntKind.i64 u, Value.int IntKind.i64 v])) (Value.agg (Array.mk [Value.int IntKind.i64 u, Value.int IntKind.i64 v])) then bif m_eqv (Value.agg (Array.mk [Value.int IntKind.i64 p, Value.int IntKind.i64 q])) (Value.agg (Array.mk [Value.int IntKind.i64 p, Value.int IntKind.i64 q])) then CR.ret (Value.tuple (Array.mk [Value.bool false, Value.int IntKind.i64 (Int.ofNat 0)])) (AW.mk 0 Tr.nil Tr.nil) else CR.fail 420 else CR.fail 420 else CR.fail 420 else CR.fail 420 else CR.fail 420 else CR.ret (Value.tuple (Array.mk [Value.bool false, Value.int IntKind.i64 (Int.ofNat 61)])) (AW.mk 0 Tr.nil Tr.nil) else CR.fail 420 else CR.fail 420 else CR.fail 420 else CR.fail 420 else CR.ret (Value.tuple (Array.mk [Value.bool false, Value.int IntKind.i64 (Int.ofNat 61)])) (AW.mk 0 Tr.nil Tr.nil) else CR.fail 420 else CR.fail 420 else CR.fail 420 else CR.fail 420 := by kernel_rfl

theorem rlA (r : Mem) (L : Nat) (p q : Int) : (lvlT (SC r) (tcons 34 (eI2 (fun a b => decide (0 ≤ a) && decide (0 ≤ b)) fun a b => I (m_gcd a b)) fun _ => none) .nil L 1).call 28 [I p, I q] emptyA fin =
    bif decide (p ≥ 1) then bif decide (p ≤ 1000000) then bif decide (q ≥ 0) then bif decide (q < p) then bif decide (0 ≤ p) && decide (0 ≤ q) then bif m_gcd p q == Int.ofNat 1 then CR.ret (Value.bool true) (AW.mk 0 Tr.nil Tr.nil) else CR.ret (Value.bool false) (AW.mk 0 Tr.nil Tr.nil) else CR.fail 420 else CR.ret (Value.bool false) (AW.mk 0 Tr.nil Tr.nil) else CR.ret (Value.bool false) (AW.mk 0 Tr.nil Tr.nil) else CR.ret (Value.bool false) (AW.mk 0 Tr.nil Tr.nil) else CR.ret (Value.bool false) (AW.mk 0 Tr.nil Tr.nil) := by kernel_rfl

theorem rsA (r : Mem) (L : Nat) (p q u v : Int) : (lvlT (SC r) (fun _ => none) .nil L 1).call 36 [I p, I q, I u, I v] emptyA fin =
    bif p == u then bif p == Int.ofNat 1 then CR.ret (Value.bool true) (AW.mk 0 Tr.nil Tr.nil) else bif q == v then CR.ret (Value.bool true) (AW.mk 0 Tr.nil Tr.nil) else bif !decide (p = 0) then bif Int.tmod (IntKind.wrap IntKind.i64 (q * v)) p == Int.ofNat 1 then CR.ret (Value.bool true) (AW.mk 0 Tr.nil Tr.nil) else CR.ret (Value.bool false) (AW.mk 0 Tr.nil Tr.nil) else CR.fail 420 else CR.ret (Value.bool false) (AW.mk 0 Tr.nil Tr.nil) := by kernel_rfl

end Go.Proofs

/- Same links: what the calls answer. -/
namespace Go.Proofs
open Go Go.Ev Go.Num

theorem eqv_int (k : IntKind) (n : Int) : m_eqv (.int k n) (.int k n) = true := by simp [m_eqv, veq]
theorem eqv_agg2 (p q : Int) : m_eqv (.agg ⟨[I p, I q]⟩) (.agg ⟨[I p, I q]⟩) = true := by simp [m_eqv, veq, veqs]
theorem eqv_agg2' (p q : Int) : m_eqv (Value.agg (Array.mk [Value.int IntKind.i64 p, Value.int IntKind.i64 q])) (Value.agg (Array.mk [Value.int IntKind.i64 p, Value.int IntKind.i64 q])) = true := eqv_agg2 p q

theorem fracE_ok (r : Mem) : EOk (SC r) 71 (eA2 (fun _ _ => true) fun a b => .bool (m_frac a b)) := eA2_ok fun a b _ => frac_ok r a b

theorem isLink_ok (r : Mem) (p q : Int) : GrT Tryd.prog r 74 [FV p q] (.bool (m_link p q)) :=
  GrT.of (SC_ok r) (TOk.cons TOk.nil (fracE_ok r)) .nil rfl ⟨1, 1, by
    rw [ilA]
    unfold m_link link m_frac
    by_cases h1 : q < p
    · by_cases h2 : p ≤ 1000000
      · cases frac p q <;> simp [beqD, h1, h2] <;> rfl
      · simp [beqD, h1, h2]; rfl
    · simp [beqD, h1]; rfl⟩

theorem invE_ok (r : Mem) : EOk (SC r) 75 (eI2 m_invG fun a b => I (m_inv a b)) := eI2_ok fun a n h => by
  simp only [m_invG, Bool.and_eq_true, decide_eq_true_eq] at h
  exact inv_ok r a n h.1.1 h.1.2 h.2

theorem fst_ok (r : Mem) (p q : Int) (h : m_invG q p = true) : GrT Tryd.prog r 54 [FV p q] (FV p (m_fst p q)) :=
  GrT.of (SC_ok r) (TOk.cons TOk.nil (invE_ok r)) .nil rfl ⟨1, 1, by
    rw [fsA]
    unfold m_fst fst m_inv
    by_cases c : inv q p < q
    · have e : min q (inv q p) = inv q p := by omega
      simp only [h, cond_true, dT c, e]
      simp [m_eqv, veq]
      rfl
    · have e : min q (inv q p) = q := by omega
      simp only [h, cond_true, dF c, cond_false, e]
      simp [m_eqv, veq]
      rfl⟩

theorem linkE_ok (r : Mem) : EOk (SC r) 74 eLink := eA2_ok fun a b _ => isLink_ok r a b
theorem fstE_ok (r : Mem) : EOk (SC r) 54 eFst := eA2_ok fun a b h => fst_ok r a b h

def m_same (p q u v : Int) : Bool := link p q && link u v && decide (p = u) && decide (fst p q = fst u v)
def m_sameE (p q u v : Int) : Int := if link p q && link u v then 0 else 61

theorem linkG {p q : Int} (h : link p q = true) : m_invG q p = true := by
  rw [link_iff] at h
  simp [m_invG]
  omega

theorem same_ok (r : Mem) (p q u v : Int) : GrT Tryd.prog r 35 [I p, I q, I u, I v] (.tuple ⟨[.bool (m_same p q u v), I (m_sameE p q u v)]⟩) :=
  GrT.of (SC_ok r) (show TOk (SC r) tSame from TOk.cons (TOk.cons TOk.nil (fstE_ok r)) (linkE_ok r)) .nil rfl ⟨8, 4, by
    rw [saA]
    simp only [eqv_int, eqv_agg2', cond_true]
    unfold m_same m_sameE m_link m_fst
    cases h1 : link p q with
    | false => simp; rfl
    | true =>
      cases h2 : link u v with
      | false => simp; rfl
      | true =>
        simp only [linkG h1, linkG h2, cond_true, Bool.true_and, if_true, Bool.and_true]
        by_cases c1 : p = u
        · subst c1
          by_cases c2 : fst p q = fst p v
          · simp [beqD, c2]; rfl
          · simp [beqD, c2]; rfl
        · simp [beqD, c1]; rfl⟩

theorem gcdE_ok (r : Mem) : EOk (SC r) 34 (eI2 (fun a b => decide (0 ≤ a) && decide (0 ≤ b)) fun a b => I (m_gcd a b)) := eI2_ok fun a b _ => gcd_ok r a b

theorem rLink_ok (r : Mem) (p q : Int) : GrT Tryd.prog r 28 [I p, I q] (.bool (m_link p q)) :=
  GrT.of (SC_ok r) (TOk.cons TOk.nil (gcdE_ok r)) .nil rfl ⟨1, 1, by
    rw [rlA]
    unfold m_link
    rw [← linkR_eq]
    unfold linkR m_gcd
    by_cases h1 : p ≥ 1
    · by_cases h2 : p ≤ 1000000
      · by_cases h3 : q ≥ 0
        · by_cases h4 : q < p
          · have h5 : 0 ≤ p := by omega
            have h6 : 0 ≤ q := by omega
            by_cases h7 : gcdP p q = 1
            · simp [beqD, h1, h2, h3, h4, h5, h7]; rfl
            · simp [beqD, h1, h2, h3, h4, h5, h7]; rfl
          · simp [beqD, h1, h2, h3, h4]; rfl
        · simp [beqD, h1, h2, h3]; rfl
      · simp [beqD, h1, h2]; rfl
    · simp [beqD, h1]; rfl⟩

theorem rSame_ok (r : Mem) (p q u v : Int) (h1 : link p q = true) (h2 : link u v = true) : GrT Tryd.prog r 36 [I p, I q, I u, I v] (.bool (m_same p q u v)) :=
  GrT.of (SC_ok r) TOk.nil .nil rfl ⟨1, 1, by
    rw [rsA]
    unfold m_same
    rw [h1, h2]
    have l1 := (link_iff p q).1 h1
    have l2 := (link_iff u v).1 h2
    by_cases c : p = u
    · subst c
      have e := fst_same (p := p) (q := q) (s := v) (by omega) (by omega) (by rw [Int.gcd_comm]; exact l1.2.2.2.2) (by omega) (by omega) (by rw [Int.gcd_comm]; exact l2.2.2.2.2)
      have m0 : 0 ≤ q * v := Int.mul_nonneg (by omega) (by omega)
      have m1 : q * v ≤ 1000000 * 1000000 := Int.mul_le_mul (by omega) (by omega) (by omega) (by omega)
      have w : IntKind.wrap IntKind.i64 (q * v) = q * v := wrI (by omega)
      have hp : p ≠ 0 := by omega
      by_cases c1 : p = 1
      · have : fst p q = fst p v := e.2 (.inl c1)
        simp only [eqT c1, eqT (show p = Int.ofNat 1 from c1), beqD, decide_true, cond_true, this, Bool.and_self]; rfl
      · by_cases c2 : q = v
        · subst c2
          simp [beqD, c1]; rfl
        · by_cases c3 : (q * v).tmod p = 1
          · have : fst p q = fst p v := e.2 (.inr (.inr c3))
            simp [beqD, c1, c2, hp, w, c3, this]; rfl
          · have : ¬ fst p q = fst p v := fun h => by
              rcases e.1 h with h | h | h
              · exact c1 h
              · exact c2 h
              · exact c3 h
            simp [beqD, c1, c2, hp, w, c3, this]; rfl
    · simp [beqD, c]; rfl⟩

theorem sameE_ok (r : Mem) : EOk (SC r) 35 (eI4 (fun _ _ _ _ => true) fun a b c d => .tuple ⟨[.bool (m_same a b c d), I (m_sameE a b c d)]⟩) := eI4_ok fun a b c d _ => same_ok r a b c d
theorem rLinkE_ok (r : Mem) : EOk (SC r) 28 (eI2 (fun _ _ => true) fun a b => .bool (m_link a b)) := eI2_ok fun a b _ => rLink_ok r a b
theorem rSameE_ok (r : Mem) : EOk (SC r) 36 (eI4 (fun a b c d => m_link a b && m_link c d) fun a b c d => .bool (m_same a b c d)) := eI4_ok fun a b c d h => by
  simp only [Bool.and_eq_true] at h
  exact rSame_ok r a b c d h.1 h.2

end Go.Proofs

/- Crossings, run. -/
namespace Go.Proofs
open Go Go.Ev Go.Num

def rfAs : Code → Code | .rangeFunc _ _ a _ => a | c => c
def rfBd : Code → Code | .rangeFunc _ _ _ b => b | c => c
noncomputable def cCr : Code := bodyOf S0 27
noncomputable def cTe : Code := bodyOf S0 78
noncomputable def k_crA : Code := rfAs (ic (rc (lc (rc (rc (rc (rc cCr)))))))
noncomputable def k_crB : Code := rfBd (ic (rc (lc (rc (rc (rc (rc cCr)))))))

/-- The world at the loop over the terms: the numbers, the sum. -/
noncomputable def ACg (n : Nat) (sub : Tr AObj) (p q z : Int) : AW := (AW.mk n (Tr.node (Tr.node (Tr.node (Tr.node Tr.nil (some (AObj.loop LoopState.ready none 16778227 (En.mk [(23, Value.func (Fn.func 78) (Array.mk []) (Array.mk [Value.pointer (some (Addr.mk 5 0 none))])), (22, Value.agg (Array.mk [Value.int IntKind.i64 p, Value.int IntKind.i64 q])), (21, Value.pointer (some (Addr.mk 3 0 none))), (20, Value.slice (some (Addr.mk 3 0 none)) 1 9223372036854775808)] (Tr.node (Tr.node (Tr.node (Tr.node Tr.nil (some (Value.int IntKind.i64 (Int.ofNat 0))) Tr.nil) none Tr.nil) (some (Value.int IntKind.i64 q)) (Tr.node Tr.nil (some (Value.int IntKind.i64 (Int.ofNat 0))) Tr.nil)) (some (Value.int IntKind.i64 p)) (Tr.node (Tr.node (Tr.node Tr.nil (some (Value.pointer (some (Addr.mk 4 0 none)))) Tr.nil) (some (Value.int IntKind.i64 (Int.ofNat 0))) Tr.nil) none (Tr.node Tr.nil (some (Value.slice (some (Addr.mk 3 0 none)) 1 9223372036854775808)) Tr.nil)))) 29 (Array.mk [24]) k_crA k_crB 6)) Tr.nil) (some (AObj.cells [Value.int IntKind.i64 p, Value.int IntKind.i64 q] 74 3 2)) Tr.nil) (some (AObj.cells [Value.int IntKind.i64 p, Value.int IntKind.i64 q] 74 1 0)) (Tr.node Tr.nil (some (AObj.cells [Value.int IntKind.i64 p, Value.int IntKind.i64 q] 74 5 0)) Tr.nil)) (some (AObj.cells [Value.int IntKind.i64 p, Value.int IntKind.i64 q] 2 0 1)) (Tr.node (Tr.node sub (some (AObj.cells [Value.int IntKind.i64 z] 2 4 0)) Tr.nil) (some (AObj.cells [Value.int IntKind.i64 p, Value.int IntKind.i64 q] 74 2 2)) (Tr.node Tr.nil (some AObj.defd) Tr.nil))) Tr.nil)
def yC : List Value := [.func (.yield 7) ⟨[]⟩ ⟨[]⟩, .pointer (some ⟨5, 0, none⟩)]
def TTe : Tr Value := (Tr.node (Tr.node (Tr.node Tr.nil (some (Value.pointer (some (Addr.mk 8 0 none)))) Tr.nil) (some (Value.pointer (some (Addr.mk 5 0 none)))) Tr.nil) (some (Value.func (Fn.yield 7) (Array.mk []) (Array.mk []))) Tr.nil)
noncomputable abbrev AC (p q z : Int) : AW := ACg 8 .nil p q z
noncomputable abbrev ACL (p q z a b : Int) : AW := ACg 9 (.node .nil (some (.cells [I a, I b] 74 8 0)) .nil) p q z

theorem teA (r : Mem) (L : Nat) (fs : FnsC) (p q z : Int) (kn : KS) (kx : Nat → KS) (kr : KS) (ms : List Nat) : run (SC r) 11 24 L (lc cTe) fs none kn kx kr (sc0 11 yC) (tr0 11 yC) ms (AC p q z) =
    kn [(4, Value.agg (Array.mk [Value.int IntKind.i64 p, Value.int IntKind.i64 q]))] (Tr.node (Tr.node (Tr.node Tr.nil (some (Value.pointer (some (Addr.mk 8 0 none)))) Tr.nil) (some (Value.pointer (some (Addr.mk 5 0 none)))) Tr.nil) (some (Value.func (Fn.yield 7) (Array.mk []) (Array.mk []))) Tr.nil) ms (AW.mk 9 (Tr.node (Tr.node (Tr.node (Tr.node Tr.nil (some (AObj.loop LoopState.ready none 16778227 (En.mk [(23, Value.func (Fn.func 78) (Array.mk []) (Array.mk [Value.pointer (some (Addr.mk 5 0 none))])), (22, Value.agg (Array.mk [Value.int IntKind.i64 p, Value.int IntKind.i64 q])), (21, Value.pointer (some (Addr.mk 3 0 none))), (20, Value.slice (some (Addr.mk 3 0 none)) 1 9223372036854775808)] (Tr.node (Tr.node (Tr.node (Tr.node Tr.nil (some (Value.int IntKind.i64 (Int.ofNat 0))) Tr.nil) none Tr.nil) (some (Value.int IntKind.i64 q)) (Tr.node Tr.nil (some (Value.int IntKind.i64 (Int.ofNat 0))) Tr.nil)) (some (Value.int IntKind.i64 p)) (Tr.node (Tr.node (Tr.node Tr.nil (some (Value.pointer (some (Addr.mk 4 0 none)))) Tr.nil) (some (Value.int IntKind.i64 (Int.ofNat 0))) Tr.nil) none (Tr.node Tr.nil (some (Value.slice (some (Addr.mk 3 0 none)) 1 9223372036854775808)) Tr.nil)))) 29 (Array.mk [24]) k_crA k_crB 6)) Tr.nil) (some (AObj.cells [Value.int IntKind.i64 p, Value.int IntKind.i64 q] 74 3 2)) Tr.nil) (some (AObj.cells [Value.int IntKind.i64 p, Value.int IntKind.i64 q] 74 1 0)) (Tr.node Tr.nil (some (AObj.cells [Value.int IntKind.i64 p, Value.int IntKind.i64 q] 74 5 0)) Tr.nil)) (some (AObj.cells [Value.int IntKind.i64 p, Value.int IntKind.i64 q] 2 0 1)) (Tr.node (Tr.node (Tr.node Tr.nil (some (AObj.cells [Value.int IntKind.i64 p, Value.int IntKind.i64 q] 74 8 0)) Tr.nil) (some (AObj.cells [Value.int IntKind.i64 z] 2 4 0)) Tr.nil) (some (AObj.cells [Value.int IntKind.i64 p, Value.int IntKind.i64 q] 74 2 2)) (Tr.node Tr.nil (some AObj.defd) Tr.nil))) Tr.nil) := by kernel_rfl

theorem teB (r : Mem) (L : Nat) (tm : Tr Nat) (p q z a b : Int) (s : List (Nat × Value)) (kn : KS) (kx : Nat → KS) (kr : KS) (ms : List Nat) : run (SC r) 11 24 L (ic (ic (rc cTe))) (lvlT (SC r) (fun _ => none) tm L 1) none kn kx kr s TTe ms (ACL p q z a b) =
    bif b != Int.ofNat 0 then bif !decide (b = 0) then bif !decide (b = 0) then bif m_eqv (Value.int IntKind.i64 b) (Value.int IntKind.i64 b) then bif m_eqv (Value.int IntKind.i64 a) (Value.int IntKind.i64 a) then bif m_eqv (Value.int IntKind.i64 b) (Value.int IntKind.i64 b) then kn [(23, Value.agg (Array.mk [Value.int IntKind.i64 b, Value.int IntKind.i64 (Int.tmod a b)])), (22, Value.int IntKind.i64 (Int.tmod a b)), (21, Value.int IntKind.i64 b), (20, Value.pointer (some (Addr.mk 8 1 none))), (19, Value.int IntKind.i64 a), (18, Value.pointer (some (Addr.mk 8 0 none))), (17, Value.int IntKind.i64 b), (16, Value.pointer (some (Addr.mk 8 1 none)))] (Tr.node (Tr.node (Tr.node Tr.nil (some (Value.pointer (some (Addr.mk 8 0 none)))) Tr.nil) (some (Value.pointer (some (Addr.mk 5 0 none)))) Tr.nil) (some (Value.func (Fn.yield 7) (Array.mk []) (Array.mk []))) Tr.nil) ms (AW.mk 9 (Tr.node (Tr.node (Tr.node (Tr.node Tr.nil (some (AObj.loop LoopState.ready none 16778227 (En.mk [(23, Value.func (Fn.func 78) (Array.mk []) (Array.mk [Value.pointer (some (Addr.mk 5 0 none))])), (22, Value.agg (Array.mk [Value.int IntKind.i64 p, Value.int IntKind.i64 q])), (21, Value.pointer (some (Addr.mk 3 0 none))), (20, Value.slice (some (Addr.mk 3 0 none)) 1 9223372036854775808)] (Tr.node (Tr.node (Tr.node (Tr.node Tr.nil (some (Value.int IntKind.i64 (Int.ofNat 0))) Tr.nil) none Tr.nil) (some (Value.int IntKind.i64 q)) (Tr.node Tr.nil (some (Value.int IntKind.i64 (Int.ofNat 0))) Tr.nil)) (some (Value.int IntKind.i64 p)) (Tr.node (Tr.node (Tr.node Tr.nil (some (Value.pointer (some (Addr.mk 4 0 none)))) Tr.nil) (some (Value.int IntKind.i64 (Int.ofNat 0))) Tr.nil) none (Tr.node Tr.nil (some (Value.slice (some (Addr.mk 3 0 none)) 1 9223372036854775808)) Tr.nil)))) 29 (Array.mk [24]) k_crA k_crB 6)) Tr.nil) (some (AObj.cells [Value.int IntKind.i64 p, Value.int IntKind.i64 q] 74 3 2)) Tr.nil) (some (AObj.cells [Value.int IntKind.i64 p, Value.int IntKind.i64 q] 74 1 0)) (Tr.node Tr.nil (some (AObj.cells [Value.int IntKind.i64 p, Value.int IntKind.i64 q] 74 5 0)) Tr.nil)) (some (AObj.cells [Value.int IntKind.i64 p, Value.int IntKind.i64 q] 2 0 1)) (Tr.node (Tr.node (Tr.node Tr.nil (some (AObj.cells [Value.int IntKind.i64 b, Value.int IntKind.i64 (Int.tmod a b)] 74 8 0)) Tr.nil) (some (AObj.cells [Value.int IntKind.i64 (IntKind.wrap IntKind.i64 (z + IntKind.wrap IntKind.i64 (Int.tdiv a b)))] 2 4 0)) Tr.nil) (some (AObj.cells [Value.int IntKind.i64 p, Value.int IntKind.i64 q] 74 2 2)) (Tr.node Tr.nil (some AObj.defd) Tr.nil))) Tr.nil) else CR.fail 420 else CR.fail 420 else CR.fail 420 else CR.fail 420 else CR.fail 420 else kx 0 [(7, Value.bool false), (6, Value.int IntKind.i64 b), (5, Value.pointer (some (Addr.mk 8 1 none)))] (Tr.node (Tr.node (Tr.node Tr.nil (some (Value.pointer (some (Addr.mk 8 0 none)))) Tr.nil) (some (Value.pointer (some (Addr.mk 5 0 none)))) Tr.nil) (some (Value.func (Fn.yield 7) (Array.mk []) (Array.mk []))) Tr.nil) ms (AW.mk 9 (Tr.node (Tr.node (Tr.node (Tr.node Tr.nil (some (AObj.loop LoopState.ready none 16778227 (En.mk [(23, Value.func (Fn.func 78) (Array.mk []) (Array.mk [Value.pointer (some (Addr.mk 5 0 none))])), (22, Value.agg (Array.mk [Value.int IntKind.i64 p, Value.int IntKind.i64 q])), (21, Value.pointer (some (Addr.mk 3 0 none))), (20, Value.slice (some (Addr.mk 3 0 none)) 1 9223372036854775808)] (Tr.node (Tr.node (Tr.node (Tr.node Tr.nil (some (Value.int IntKind.i64 (Int.ofNat 0))) Tr.nil) none Tr.nil) (some (Value.int IntKind.i64 q)) (Tr.node Tr.nil (some (Value.int IntKind.i64 (Int.ofNat 0))) Tr.nil)) (some (Value.int IntKind.i64 p)) (Tr.node (Tr.node (Tr.node Tr.nil (some (Value.pointer (some (Addr.mk 4 0 none)))) Tr.nil) (some (Value.int IntKind.i64 (Int.ofNat 0))) Tr.nil) none (Tr.node Tr.nil (some (Value.slice (some (Addr.mk 3 0 none)) 1 9223372036854775808)) Tr.nil)))) 29 (Array.mk [24]) k_crA k_crB 6)) Tr.nil) (some (AObj.cells [Value.int IntKind.i64 p, Value.int IntKind.i64 q] 74 3 2)) Tr.nil) (some (AObj.cells [Value.int IntKind.i64 p, Value.int IntKind.i64 q] 74 1 0)) (Tr.node Tr.nil (some (AObj.cells [Value.int IntKind.i64 p, Value.int IntKind.i64 q] 74 5 0)) Tr.nil)) (some (AObj.cells [Value.int IntKind.i64 p, Value.int IntKind.i64 q] 2 0 1)) (Tr.node (Tr.node (Tr.node Tr.nil (some (AObj.cells [Value.int IntKind.i64 a, Value.int IntKind.i64 b] 74 8 0)) Tr.nil) (some (AObj.cells [Value.int IntKind.i64 z] 2 4 0)) Tr.nil) (some (AObj.cells [Value.int IntKind.i64 p, Value.int IntKind.i64 q] 74 2 2)) (Tr.node Tr.nil (some AObj.defd) Tr.nil))) Tr.nil) := by kernel_rfl

theorem teC (r : Mem) (L : Nat) (fs : FnsC) (p q z a b : Int) (s : List (Nat × Value)) : finK (SC r) 11 [] .ret s TTe [] (ACL p q z a b) =
    CR.ret (Value.tuple (Array.mk [])) (AW.mk 9 (Tr.node (Tr.node (Tr.node (Tr.node Tr.nil (some (AObj.loop LoopState.ready none 16778227 (En.mk [(23, Value.func (Fn.func 78) (Array.mk []) (Array.mk [Value.pointer (some (Addr.mk 5 0 none))])), (22, Value.agg (Array.mk [Value.int IntKind.i64 p, Value.int IntKind.i64 q])), (21, Value.pointer (some (Addr.mk 3 0 none))), (20, Value.slice (some (Addr.mk 3 0 none)) 1 9223372036854775808)] (Tr.node (Tr.node (Tr.node (Tr.node Tr.nil (some (Value.int IntKind.i64 (Int.ofNat 0))) Tr.nil) none Tr.nil) (some (Value.int IntKind.i64 q)) (Tr.node Tr.nil (some (Value.int IntKind.i64 (Int.ofNat 0))) Tr.nil)) (some (Value.int IntKind.i64 p)) (Tr.node (Tr.node (Tr.node Tr.nil (some (Value.pointer (some (Addr.mk 4 0 none)))) Tr.nil) (some (Value.int IntKind.i64 (Int.ofNat 0))) Tr.nil) none (Tr.node Tr.nil (some (Value.slice (some (Addr.mk 3 0 none)) 1 9223372036854775808)) Tr.nil)))) 29 (Array.mk [24]) k_crA k_crB 6)) Tr.nil) (some (AObj.cells [Value.int IntKind.i64 p, Value.int IntKind.i64 q] 74 3 2)) Tr.nil) (some (AObj.cells [Value.int IntKind.i64 p, Value.int IntKind.i64 q] 74 1 0)) (Tr.node Tr.nil (some (AObj.cells [Value.int IntKind.i64 p, Value.int IntKind.i64 q] 74 5 0)) Tr.nil)) (some (AObj.cells [Value.int IntKind.i64 p, Value.int IntKind.i64 q] 2 0 1)) (Tr.node (Tr.node (Tr.node Tr.nil (some (AObj.cells [Value.int IntKind.i64 a, Value.int IntKind.i64 b] 74 8 0)) Tr.nil) (some (AObj.cells [Value.int IntKind.i64 z] 2 4 0)) Tr.nil) (some (AObj.cells [Value.int IntKind.i64 p, Value.int IntKind.i64 q] 74 2 2)) (Tr.node Tr.nil (some AObj.defd) Tr.nil))) Tr.nil) := by kernel_rfl

end Go.Proofs

/- Crossings: the loop over the terms. -/
namespace Go.Num

/-- The sum of the terms. -/
def csum (a b : Int) : Int := if _h : b > 0 then a.tdiv b + csum b (a.tmod b) else 0
termination_by b.toNat
decreasing_by
  have h1 := Int.tmod_lt_of_pos a _h
  omega

theorem tdm {a b : Int} (ha : 0 ≤ a) (hb : 0 < b) : 0 ≤ a.tdiv b ∧ 0 ≤ a.tmod b ∧ a.tmod b < b ∧ a.tdiv b ≤ a ∧ a.tdiv b + a.tmod b ≤ a ∧ a.tdiv b * b + a.tmod b = a := by
  have h0 := Int.tdiv_nonneg ha (show 0 ≤ b by omega)
  have h1 := Int.tmod_nonneg b ha
  have h2 := Int.tmod_lt_of_pos a hb
  have h3 := Int.tdiv_mul_add_tmod a b
  have h4 := le_mul1 h0 (show 1 ≤ b by omega)
  exact ⟨h0, h1, h2, by omega, by omega, h3⟩

theorem csum_le : ∀ a b : Int, 0 ≤ a → 0 ≤ b → 0 ≤ csum a b ∧ csum a b ≤ a + b := by
  intro a b
  induction a, b using csum.induct with
  | case1 a b h ih =>
    intro ha hb
    rw [csum, dif_pos h]
    obtain ⟨h0, h1, h2, h3, h4, h5⟩ := tdm ha h
    have := ih hb h1
    omega
  | case2 a b h =>
    intro ha hb
    rw [csum, dif_neg h]
    omega

end Go.Num
namespace Go.Proofs
open Go Go.Ev Go.Num

theorem te_loop (r : Mem) (tm : Tr Nat) (L : Nat) (kx : Nat → KS) (kr : KS) (ms : List Nat) (p q : Int) (R : CR) : ∀ (j : Nat) (z a b : Int) (s : List (Nat × Value)), b.toNat < j → 0 ≤ a → 0 ≤ b → a ≤ 1000000 → b ≤ 1000000 → 0 ≤ z → z + (a + b) ≤ 4000000 →
    (∀ s, kx 0 s TTe ms (ACL p q (z + csum a b) (gcdP a b) 0) = R) →
    cLoop (fun kl => run (SC r) 11 24 L (ic (ic (rc cTe))) (lvlT (SC r) (fun _ => none) tm L 1) none kl kx kr) j s TTe ms (ACL p q z a b) = R := by
  intro j
  induction j with
  | zero => intro z a b s h; omega
  | succ j ih =>
    intro z a b s h ha hb ha2 hb2 hz hz2 hx
    rw [cLoop_succ, teB]
    by_cases c : b > 0
    · obtain ⟨h0, h1, h2, h3, h4, h5⟩ := tdm ha c
      have hne : b ≠ 0 := by omega
      have w1 : IntKind.wrap IntKind.i64 (a.tdiv b) = a.tdiv b := wrI (by omega)
      have w2 : IntKind.wrap IntKind.i64 (z + a.tdiv b) = z + a.tdiv b := wrI (by omega)
      simp only [neT (show b ≠ Int.ofNat 0 from hne), dF hne, Bool.not_false, cond_true, eqv_int, w1, w2]
      rw [csum, dif_pos c, gcdP, dif_pos c] at hx
      refine ih (z + a.tdiv b) b (a.tmod b) _ (by omega) (by omega) h1 (by omega) (by omega) (by omega) (by omega) ?_
      rw [Int.add_assoc]
      exact hx
    · have hb0 : b = 0 := by omega
      subst hb0
      rw [csum, dif_neg c, gcdP, dif_neg c, Int.add_zero] at hx
      simp only [neF (show (0 : Int) = Int.ofNat 0 from rfl), cond_false]
      exact hx _

theorem cTe_eq : cTe = .seq (lc cTe) (.block 0 (.loop (ic (ic (rc cTe))))) := by kernel_rfl

def m_cs (p q : Int) : Int := csum p q
def m_la (p q : Int) : Int := gcdP p q

theorem te_run (r : Mem) (p q : Int) (hp : 0 ≤ p) (hq : 0 ≤ q) (hp2 : p ≤ 1000000) (hq2 : q ≤ 1000000) :
    ∃ L d, (lvlT (SC r) (fun _ => none) (Tr.nil.put 78 (some 11)) L d).call 78 yC (AC p q 0) .ret = .ret (.tuple ⟨[]⟩) (ACL p q (m_cs p q) (m_la p q) 0) := ⟨q.toNat + 1, 2, by
  rw [enterN (m := 11) (n := 24) (rs := []) cTe rfl (by kernel_rfl) (by kernel_rfl) (by kernel_rfl) (by kernel_rfl) (by kernel_rfl) rfl]
  rw [cTe_eq, run_while0]
  refine (teA r _ _ p q 0 _ _ _ _).trans ?_
  refine (show _ = _ from te_loop r _ _ _ _ _ p q _ (q.toNat + 1) 0 p q _ (by omega) hp hq hp2 hq2 (by omega) (by omega) fun s => ?_)
  rw [Int.zero_add]
  rfl⟩

/- The call, in Crossings. -/
noncomputable def tCr (p q : Int) : Tbl := tcons 74 eLink (tcons 78 (entAt yC (AC p q 0) (.tuple ⟨[]⟩) (ACL p q (m_cs p q) (m_la p q) 0)) fun _ => none)
def mskCr : Tr Nat := Tr.nil.put 27 (some 16778227)

theorem crA (r : Mem) (p q : Int) : (lvlT (SC r) (tCr p q) mskCr 8 4).call 27 [I p, I q] emptyA fin =
    bif m_eqv (Value.int IntKind.i64 q) (Value.int IntKind.i64 q) then bif m_eqv (Value.int IntKind.i64 q) (Value.int IntKind.i64 q) then bif m_eqv (Value.int IntKind.i64 p) (Value.int IntKind.i64 p) then bif m_eqv (Value.int IntKind.i64 p) (Value.int IntKind.i64 p) then bif m_link p q then bif m_at [Value.func (Fn.yield 7) (Array.mk []) (Array.mk []), Value.pointer (some (Addr.mk 5 0 none))] [Value.func (Fn.yield 7) (Array.mk []) (Array.mk []), Value.pointer (some (Addr.mk 5 0 none))] (AW.mk 8 (Tr.node (Tr.node (Tr.node (Tr.node Tr.nil (some (AObj.loop LoopState.ready none 16778227 (En.mk [(23, Value.func (Fn.func 78) (Array.mk []) (Array.mk [Value.pointer (some (Addr.mk 5 0 none))])), (22, Value.agg (Array.mk [Value.int IntKind.i64 p, Value.int IntKind.i64 q])), (21, Value.pointer (some (Addr.mk 3 0 none))), (20, Value.slice (some (Addr.mk 3 0 none)) 1 9223372036854775808)] (Tr.node (Tr.node (Tr.node (Tr.node Tr.nil (some (Value.int IntKind.i64 (Int.ofNat 0))) Tr.nil) none Tr.nil) (some (Value.int IntKind.i64 q)) (Tr.node Tr.nil (some (Value.int IntKind.i64 (Int.ofNat 0))) Tr.nil)) (some (Value.int IntKind.i64 p)) (Tr.node (Tr.node (Tr.node Tr.nil (some (Value.pointer (some (Addr.mk 4 0 none)))) Tr.nil) (some (Value.int IntKind.i64 (Int.ofNat 0))) Tr.nil) none (Tr.node Tr.nil (some (Value.slice (some (Addr.mk 3 0 none)) 1 9223372036854775808)) Tr.nil)))) 29 (Array.mk [24]) k_crA k_crB 6)) Tr.nil) (some (AObj.cells [Value.int IntKind.i64 p, Value.int IntKind.i64 q] 74 3 2)) Tr.nil) (some (AObj.cells [Value.int IntKind.i64 p, Value.int IntKind.i64 q] 74 1 0)) (Tr.node Tr.nil (some (AObj.cells [Value.int IntKind.i64 p, Value.int IntKind.i64 q] 74 5 0)) Tr.nil)) (some (AObj.cells [Value.int IntKind.i64 p, Value.int IntKind.i64 q] 2 0 1)) (Tr.node (Tr.node Tr.nil (some (AObj.cells [Value.int IntKind.i64 (Int.ofNat 0)] 2 4 0)) Tr.nil) (some (AObj.cells [Value.int IntKind.i64 p, Value.int IntKind.i64 q] 74 2 2)) (Tr.node Tr.nil (some AObj.defd) Tr.nil))) Tr.nil) (AW.mk 8 (Tr.node (Tr.node (Tr.node (Tr.node Tr.nil (some (AObj.loop LoopState.ready none 16778227 (En.mk [(23, Value.func (Fn.func 78) (Array.mk []) (Array.mk [Value.pointer (some (Addr.mk 5 0 none))])), (22, Value.agg (Array.mk [Value.int IntKind.i64 p, Value.int IntKind.i64 q])), (21, Value.pointer (some (Addr.mk 3 0 none))), (20, Value.slice (some (Addr.mk 3 0 none)) 1 9223372036854775808)] (Tr.node (Tr.node (Tr.node (Tr.node Tr.nil (some (Value.int IntKind.i64 (Int.ofNat 0))) Tr.nil) none Tr.nil) (some (Value.int IntKind.i64 q)) (Tr.node Tr.nil (some (Value.int IntKind.i64 (Int.ofNat 0))) Tr.nil)) (some (Value.int IntKind.i64 p)) (Tr.node (Tr.node (Tr.node Tr.nil (some (Value.pointer (some (Addr.mk 4 0 none)))) Tr.nil) (some (Value.int IntKind.i64 (Int.ofNat 0))) Tr.nil) none (Tr.node Tr.nil (some (Value.slice (some (Addr.mk 3 0 none)) 1 9223372036854775808)) Tr.nil)))) 29 (Array.mk [24]) k_crA k_crB 6)) Tr.nil) (some (AObj.cells [Value.int IntKind.i64 p, Value.int IntKind.i64 q] 74 3 2)) Tr.nil) (some (AObj.cells [Value.int IntKind.i64 p, Value.int IntKind.i64 q] 74 1 0)) (Tr.node Tr.nil (some (AObj.cells [Value.int IntKind.i64 p, Value.int IntKind.i64 q] 74 5 0)) Tr.nil)) (some (AObj.cells [Value.int IntKind.i64 p, Value.int IntKind.i64 q] 2 0 1)) (Tr.node (Tr.node Tr.nil (some (AObj.cells [Value.int IntKind.i64 (Int.ofNat 0)] 2 4 0)) Tr.nil) (some (AObj.cells [Value.int IntKind.i64 p, Value.int IntKind.i64 q] 74 2 2)) (Tr.node Tr.nil (some AObj.defd) Tr.nil))) Tr.nil) then CR.ret (Value.tuple (Array.mk [Value.int IntKind.i64 (m_cs p q), Value.int IntKind.i64 (Int.ofNat 0)])) (AW.mk 0 Tr.nil Tr.nil) else CR.fail 420 else CR.ret (Value.tuple (Array.mk [Value.int IntKind.i64 (Int.ofNat 0), Value.int IntKind.i64 (Int.ofNat 61)])) (AW.mk 0 Tr.nil Tr.nil) else CR.fail 420 else CR.fail 420 else CR.fail 420 else CR.fail 420 := by kernel_rfl


end Go.Proofs

/- Terms, run: the row that grows. -/
namespace Go.Proofs
open Go Go.Ev Go.Num

noncomputable def cAp : Code := bodyOf S0 77
noncomputable def k_apA : Code := rfAs (ic (rc (lc (rc cAp))))
noncomputable def k_apB : Code := rfBd (ic (rc (lc (rc cAp))))

/-- The world at the loop over the terms: the numbers, the row. -/
noncomputable def ATg (n : Nat) (s8 s9 : Tr AObj) (sv : Value) (p q : Int) : AW := AW.mk n (Tr.node (Tr.node (Tr.node (Tr.node Tr.nil (some (AObj.loop LoopState.ready none 183 (En.mk [(6, Value.func (Fn.func 78) (Array.mk []) (Array.mk [Value.pointer (some (Addr.mk 4 0 none))]))] (Tr.node (Tr.node Tr.nil (some (Value.func (Fn.func 78) (Array.mk []) (Array.mk [Value.pointer (some (Addr.mk 4 0 none))]))) Tr.nil) (some (Value.slice none 0 0)) (Tr.node (Tr.node Tr.nil (some (Value.slice none 0 0)) Tr.nil) (some (Value.pointer (some (Addr.mk 5 0 none)))) Tr.nil))) 13 (Array.mk [7]) k_apA k_apB 6)) Tr.nil) (some (AObj.cells [Value.int IntKind.i64 p, Value.int IntKind.i64 q] 74 3 2)) Tr.nil) (some (AObj.cells [Value.int IntKind.i64 p, Value.int IntKind.i64 q] 74 1 0)) (Tr.node s9 (some (AObj.cells [sv] 42 5 0)) Tr.nil)) (some (AObj.cells [Value.int IntKind.i64 p, Value.int IntKind.i64 q] 2 0 1)) (Tr.node (Tr.node s8 (some (AObj.cells [Value.int IntKind.i64 p, Value.int IntKind.i64 q] 74 4 0)) Tr.nil) (some (AObj.cells [Value.int IntKind.i64 p, Value.int IntKind.i64 q] 74 2 2)) (Tr.node Tr.nil (some AObj.defd) Tr.nil))) Tr.nil
def leftT (a b : Int) : Tr AObj := .node .nil (some (.cells [I a, I b] 74 8 0)) .nil
def rowT (i : Nat) (l : List Value) : Tr AObj := .node .nil (some (.cells l 2 i 1)) .nil
noncomputable abbrev AT0 (p q : Int) : AW := ATg 8 .nil .nil (.slice none 0 0) p q
noncomputable abbrev AT0L (p q a b : Int) : AW := ATg 9 (leftT a b) .nil (.slice none 0 0) p q
noncomputable abbrev AT1L (p q a b : Int) (l : List Value) (n : Nat) : AW := ATg 10 (leftT a b) (rowT 9 l) (.slice (some ⟨9, 0, none⟩) n unk) p q
noncomputable abbrev AT1 (p q : Int) (l : List Value) (n : Nat) : AW := ATg 9 (rowT 8 l) .nil (.slice (some ⟨8, 0, none⟩) n unk) p q
def yT : List Value := [.func (.yield 7) ⟨[]⟩ ⟨[]⟩, .pointer (some ⟨4, 0, none⟩)]
def TTm : Tr Value := (Tr.node (Tr.node (Tr.node Tr.nil (some (Value.pointer (some (Addr.mk 8 0 none)))) Tr.nil) (some (Value.pointer (some (Addr.mk 4 0 none)))) Tr.nil) (some (Value.func (Fn.yield 7) (Array.mk []) (Array.mk []))) Tr.nil)

theorem tmA (r : Mem) (L : Nat) (fs : FnsC) (p q : Int) (kn : KS) (kx : Nat → KS) (kr : KS) (ms : List Nat) : run (SC r) 11 24 L (lc cTe) fs none kn kx kr (sc0 11 yT) (tr0 11 yT) ms (AT0 p q) =
    kn [(4, Value.agg (Array.mk [Value.int IntKind.i64 p, Value.int IntKind.i64 q]))] (Tr.node (Tr.node (Tr.node Tr.nil (some (Value.pointer (some (Addr.mk 8 0 none)))) Tr.nil) (some (Value.pointer (some (Addr.mk 4 0 none)))) Tr.nil) (some (Value.func (Fn.yield 7) (Array.mk []) (Array.mk []))) Tr.nil) ms (AW.mk 9 (Tr.node (Tr.node (Tr.node (Tr.node Tr.nil (some (AObj.loop LoopState.ready none 183 (En.mk [(6, Value.func (Fn.func 78) (Array.mk []) (Array.mk [Value.pointer (some (Addr.mk 4 0 none))]))] (Tr.node (Tr.node Tr.nil (some (Value.func (Fn.func 78) (Array.mk []) (Array.mk [Value.pointer (some (Addr.mk 4 0 none))]))) Tr.nil) (some (Value.slice none 0 0)) (Tr.node (Tr.node Tr.nil (some (Value.slice none 0 0)) Tr.nil) (some (Value.pointer (some (Addr.mk 5 0 none)))) Tr.nil))) 13 (Array.mk [7]) k_apA k_apB 6)) Tr.nil) (some (AObj.cells [Value.int IntKind.i64 p, Value.int IntKind.i64 q] 74 3 2)) Tr.nil) (some (AObj.cells [Value.int IntKind.i64 p, Value.int IntKind.i64 q] 74 1 0)) (Tr.node Tr.nil (some (AObj.cells [Value.slice none 0 0] 42 5 0)) Tr.nil)) (some (AObj.cells [Value.int IntKind.i64 p, Value.int IntKind.i64 q] 2 0 1)) (Tr.node (Tr.node (Tr.node Tr.nil (some (AObj.cells [Value.int IntKind.i64 p, Value.int IntKind.i64 q] 74 8 0)) Tr.nil) (some (AObj.cells [Value.int IntKind.i64 p, Value.int IntKind.i64 q] 74 4 0)) Tr.nil) (some (AObj.cells [Value.int IntKind.i64 p, Value.int IntKind.i64 q] 74 2 2)) (Tr.node Tr.nil (some AObj.defd) Tr.nil))) Tr.nil) := by kernel_rfl

theorem tmB (r : Mem) (L : Nat) (tm : Tr Nat) (p q a b : Int) (s : List (Nat × Value)) (kn : KS) (kx : Nat → KS) (kr : KS) (ms : List Nat) : run (SC r) 11 24 L (ic (ic (rc cTe))) (lvlT (SC r) (fun _ => none) tm L 1) none kn kx kr s TTm ms (AT0L p q a b) =
    bif b != Int.ofNat 0 then bif !decide (b = 0) then bif !decide (b = 0) then bif m_eqv (Value.int IntKind.i64 b) (Value.int IntKind.i64 b) then bif m_eqv (Value.int IntKind.i64 a) (Value.int IntKind.i64 a) then bif m_eqv (Value.int IntKind.i64 b) (Value.int IntKind.i64 b) then kn [(23, Value.agg (Array.mk [Value.int IntKind.i64 b, Value.int IntKind.i64 (Int.tmod a b)])), (22, Value.int IntKind.i64 (Int.tmod a b)), (21, Value.int IntKind.i64 b), (20, Value.pointer (some (Addr.mk 8 1 none))), (19, Value.int IntKind.i64 a), (18, Value.pointer (some (Addr.mk 8 0 none))), (17, Value.int IntKind.i64 b), (16, Value.pointer (some (Addr.mk 8 1 none)))] (Tr.node (Tr.node (Tr.node Tr.nil (some (Value.pointer (some (Addr.mk 8 0 none)))) Tr.nil) (some (Value.pointer (some (Addr.mk 4 0 none)))) Tr.nil) (some (Value.func (Fn.yield 7) (Array.mk []) (Array.mk []))) Tr.nil) ms (AW.mk 11 (Tr.node (Tr.node (Tr.node (Tr.node Tr.nil (some (AObj.loop LoopState.ready none 183 (En.mk [(6, Value.func (Fn.func 78) (Array.mk []) (Array.mk [Value.pointer (some (Addr.mk 4 0 none))]))] (Tr.node (Tr.node Tr.nil (some (Value.func (Fn.func 78) (Array.mk []) (Array.mk [Value.pointer (some (Addr.mk 4 0 none))]))) Tr.nil) (some (Value.slice none 0 0)) (Tr.node (Tr.node Tr.nil (some (Value.slice none 0 0)) Tr.nil) (some (Value.pointer (some (Addr.mk 5 0 none)))) Tr.nil))) 13 (Array.mk [7]) k_apA k_apB 6)) Tr.nil) (some (AObj.cells [Value.int IntKind.i64 p, Value.int IntKind.i64 q] 74 3 2)) Tr.nil) (some (AObj.cells [Value.int IntKind.i64 p, Value.int IntKind.i64 q] 74 1 0)) (Tr.node (Tr.node Tr.nil (some (AObj.cells [Value.int IntKind.i64 (IntKind.wrap IntKind.i64 (Int.tdiv a b))] 2 9 1)) Tr.nil) (some (AObj.cells [Value.slice (some (Addr.mk 10 0 none)) 1 9223372036854775808] 42 5 0)) Tr.nil)) (some (AObj.cells [Value.int IntKind.i64 p, Value.int IntKind.i64 q] 2 0 1)) (Tr.node (Tr.node (Tr.node Tr.nil (some (AObj.cells [Value.int IntKind.i64 b, Value.int IntKind.i64 (Int.tmod a b)] 74 8 0)) Tr.nil) (some (AObj.cells [Value.int IntKind.i64 p, Value.int IntKind.i64 q] 74 4 0)) Tr.nil) (some (AObj.cells [Value.int IntKind.i64 p, Value.int IntKind.i64 q] 74 2 2)) (Tr.node (Tr.node Tr.nil (some (AObj.cells [Value.int IntKind.i64 (IntKind.wrap IntKind.i64 (Int.tdiv a b))] 2 10 1)) Tr.nil) (some AObj.defd) Tr.nil))) Tr.nil) else CR.fail 420 else CR.fail 420 else CR.fail 420 else CR.fail 420 else CR.fail 420 else kx 0 [(7, Value.bool false), (6, Value.int IntKind.i64 b), (5, Value.pointer (some (Addr.mk 8 1 none)))] (Tr.node (Tr.node (Tr.node Tr.nil (some (Value.pointer (some (Addr.mk 8 0 none)))) Tr.nil) (some (Value.pointer (some (Addr.mk 4 0 none)))) Tr.nil) (some (Value.func (Fn.yield 7) (Array.mk []) (Array.mk []))) Tr.nil) ms (AW.mk 9 (Tr.node (Tr.node (Tr.node (Tr.node Tr.nil (some (AObj.loop LoopState.ready none 183 (En.mk [(6, Value.func (Fn.func 78) (Array.mk []) (Array.mk [Value.pointer (some (Addr.mk 4 0 none))]))] (Tr.node (Tr.node Tr.nil (some (Value.func (Fn.func 78) (Array.mk []) (Array.mk [Value.pointer (some (Addr.mk 4 0 none))]))) Tr.nil) (some (Value.slice none 0 0)) (Tr.node (Tr.node Tr.nil (some (Value.slice none 0 0)) Tr.nil) (some (Value.pointer (some (Addr.mk 5 0 none)))) Tr.nil))) 13 (Array.mk [7]) k_apA k_apB 6)) Tr.nil) (some (AObj.cells [Value.int IntKind.i64 p, Value.int IntKind.i64 q] 74 3 2)) Tr.nil) (some (AObj.cells [Value.int IntKind.i64 p, Value.int IntKind.i64 q] 74 1 0)) (Tr.node Tr.nil (some (AObj.cells [Value.slice none 0 0] 42 5 0)) Tr.nil)) (some (AObj.cells [Value.int IntKind.i64 p, Value.int IntKind.i64 q] 2 0 1)) (Tr.node (Tr.node (Tr.node Tr.nil (some (AObj.cells [Value.int IntKind.i64 a, Value.int IntKind.i64 b] 74 8 0)) Tr.nil) (some (AObj.cells [Value.int IntKind.i64 p, Value.int IntKind.i64 q] 74 4 0)) Tr.nil) (some (AObj.cells [Value.int IntKind.i64 p, Value.int IntKind.i64 q] 74 2 2)) (Tr.node Tr.nil (some AObj.defd) Tr.nil))) Tr.nil) := by kernel_rfl

theorem tmC (r : Mem) (L : Nat) (tm : Tr Nat) (p q a b : Int) (l : List Value) (n : Nat) (s : List (Nat × Value)) (kn : KS) (kx : Nat → KS) (kr : KS) (ms : List Nat) : run (SC r) 11 24 L (ic (ic (rc cTe))) (lvlT (SC r) (fun _ => none) tm L 1) none kn kx kr s TTm ms (AT1L p q a b l n) =
    bif b != Int.ofNat 0 then bif !decide (b = 0) then bif Nat.ble (Nat.add n 1) 1000000 then Option.casesOn (takeAt l 0 (Nat.mul n 1)) (CR.fail 439) fun val => bif !decide (b = 0) then bif m_eqv (Value.int IntKind.i64 b) (Value.int IntKind.i64 b) then bif m_eqv (Value.int IntKind.i64 a) (Value.int IntKind.i64 a) then bif m_eqv (Value.int IntKind.i64 b) (Value.int IntKind.i64 b) then kn [(23, Value.agg (Array.mk [Value.int IntKind.i64 b, Value.int IntKind.i64 (Int.tmod a b)])), (22, Value.int IntKind.i64 (Int.tmod a b)), (21, Value.int IntKind.i64 b), (20, Value.pointer (some (Addr.mk 8 1 none))), (19, Value.int IntKind.i64 a), (18, Value.pointer (some (Addr.mk 8 0 none))), (17, Value.int IntKind.i64 b), (16, Value.pointer (some (Addr.mk 8 1 none)))] (Tr.node (Tr.node (Tr.node Tr.nil (some (Value.pointer (some (Addr.mk 8 0 none)))) Tr.nil) (some (Value.pointer (some (Addr.mk 4 0 none)))) Tr.nil) (some (Value.func (Fn.yield 7) (Array.mk []) (Array.mk []))) Tr.nil) ms (AW.mk 12 (Tr.node (Tr.node (Tr.node (Tr.node Tr.nil (some (AObj.loop LoopState.ready none 183 (En.mk [(6, Value.func (Fn.func 78) (Array.mk []) (Array.mk [Value.pointer (some (Addr.mk 4 0 none))]))] (Tr.node (Tr.node Tr.nil (some (Value.func (Fn.func 78) (Array.mk []) (Array.mk [Value.pointer (some (Addr.mk 4 0 none))]))) Tr.nil) (some (Value.slice none 0 0)) (Tr.node (Tr.node Tr.nil (some (Value.slice none 0 0)) Tr.nil) (some (Value.pointer (some (Addr.mk 5 0 none)))) Tr.nil))) 13 (Array.mk [7]) k_apA k_apB 6)) Tr.nil) (some (AObj.cells [Value.int IntKind.i64 p, Value.int IntKind.i64 q] 74 3 2)) (Tr.node Tr.nil (some (AObj.cells (val ++ [Value.int IntKind.i64 (IntKind.wrap IntKind.i64 (Int.tdiv a b))]) 2 9 1)) Tr.nil)) (some (AObj.cells [Value.int IntKind.i64 p, Value.int IntKind.i64 q] 74 1 0)) (Tr.node (Tr.node Tr.nil none Tr.nil) (some (AObj.cells [Value.slice (some (Addr.mk 11 0 none)) (Nat.add n 1) 9223372036854775808] 42 5 0)) Tr.nil)) (some (AObj.cells [Value.int IntKind.i64 p, Value.int IntKind.i64 q] 2 0 1)) (Tr.node (Tr.node (Tr.node Tr.nil (some (AObj.cells [Value.int IntKind.i64 b, Value.int IntKind.i64 (Int.tmod a b)] 74 8 0)) Tr.nil) (some (AObj.cells [Value.int IntKind.i64 p, Value.int IntKind.i64 q] 74 4 0)) Tr.nil) (some (AObj.cells [Value.int IntKind.i64 p, Value.int IntKind.i64 q] 74 2 2)) (Tr.node (Tr.node Tr.nil (some (AObj.cells [Value.int IntKind.i64 (IntKind.wrap IntKind.i64 (Int.tdiv a b))] 2 10 1)) Tr.nil) (some AObj.defd) Tr.nil))) (Tr.node (Tr.node Tr.nil none (Tr.node (Tr.node Tr.nil (some [11]) Tr.nil) none Tr.nil)) none Tr.nil)) else CR.fail 420 else CR.fail 420 else CR.fail 420 else CR.fail 420 else CR.fail 420 else CR.fail 420 else kx 0 [(7, Value.bool false), (6, Value.int IntKind.i64 b), (5, Value.pointer (some (Addr.mk 8 1 none)))] (Tr.node (Tr.node (Tr.node Tr.nil (some (Value.pointer (some (Addr.mk 8 0 none)))) Tr.nil) (some (Value.pointer (some (Addr.mk 4 0 none)))) Tr.nil) (some (Value.func (Fn.yield 7) (Array.mk []) (Array.mk []))) Tr.nil) ms (AW.mk 10 (Tr.node (Tr.node (Tr.node (Tr.node Tr.nil (some (AObj.loop LoopState.ready none 183 (En.mk [(6, Value.func (Fn.func 78) (Array.mk []) (Array.mk [Value.pointer (some (Addr.mk 4 0 none))]))] (Tr.node (Tr.node Tr.nil (some (Value.func (Fn.func 78) (Array.mk []) (Array.mk [Value.pointer (some (Addr.mk 4 0 none))]))) Tr.nil) (some (Value.slice none 0 0)) (Tr.node (Tr.node Tr.nil (some (Value.slice none 0 0)) Tr.nil) (some (Value.pointer (some (Addr.mk 5 0 none)))) Tr.nil))) 13 (Array.mk [7]) k_apA k_apB 6)) Tr.nil) (some (AObj.cells [Value.int IntKind.i64 p, Value.int IntKind.i64 q] 74 3 2)) Tr.nil) (some (AObj.cells [Value.int IntKind.i64 p, Value.int IntKind.i64 q] 74 1 0)) (Tr.node (Tr.node Tr.nil (some (AObj.cells l 2 9 1)) Tr.nil) (some (AObj.cells [Value.slice (some (Addr.mk 9 0 none)) n 9223372036854775808] 42 5 0)) Tr.nil)) (some (AObj.cells [Value.int IntKind.i64 p, Value.int IntKind.i64 q] 2 0 1)) (Tr.node (Tr.node (Tr.node Tr.nil (some (AObj.cells [Value.int IntKind.i64 a, Value.int IntKind.i64 b] 74 8 0)) Tr.nil) (some (AObj.cells [Value.int IntKind.i64 p, Value.int IntKind.i64 q] 74 4 0)) Tr.nil) (some (AObj.cells [Value.int IntKind.i64 p, Value.int IntKind.i64 q] 74 2 2)) (Tr.node Tr.nil (some AObj.defd) Tr.nil))) Tr.nil) := by kernel_rfl

end Go.Proofs

/- Terms: the loop, the row by other names. -/
namespace Go.Num

/-- The terms of two numbers. -/
def terms (a b : Int) : List Int := if _h : b > 0 then a.tdiv b :: terms b (a.tmod b) else []
termination_by b.toNat
decreasing_by
  have h1 := Int.tmod_lt_of_pos a _h
  omega

theorem terms_len : ∀ a b : Int, 0 ≤ a → 0 ≤ b → (terms a b).length ≤ b.toNat := by
  intro a b
  induction a, b using terms.induct with
  | case1 a b h ih =>
    intro ha hb
    rw [terms, dif_pos h]
    obtain ⟨h0, h1, h2, h3, h4, h5⟩ := tdm ha h
    have := ih hb h1
    simp only [List.length_cons]
    omega
  | case2 a b h =>
    intro ha hb
    rw [terms, dif_neg h]
    simp

end Go.Num
namespace Go.Proofs
open Go Go.Ev Go.Num

theorem fn_of {C : Cfg} {f : Nat} (h : hasBody C f = true) : ∃ fn, C.fns.get f = some fn ∧ fn.body = some (bodyOf C f) ∧ fn.ntmps = ntm C f ∧ fn.results.toList = resOf C f := by
  unfold hasBody at h
  unfold bodyOf ntm resOf
  split at h
  · rename_i fn hfn
    split at h
    · rename_i c hc
      exact ⟨fn, hfn, by simp only [hfn, hc], by simp only [hfn], by simp only [hfn]⟩
    · cases h
  · cases h

theorem natF {i j : Nat} (h : i ≠ j) : Nat.beq i j = false := by
  cases e : Nat.beq i j with
  | false => rfl
  | true => exact absurd (Nat.eq_of_beq_eq_true e) h

def m_row (ts : List Int) : List Value := ts.map I
theorem row_gnd (ts : List Int) : ∀ v ∈ m_row ts, gnd v = true := fun v hv => by
  obtain ⟨z, _, rfl⟩ := List.mem_map.1 hv
  rfl
theorem row_len (ts : List Int) : (m_row ts).length = ts.length := List.length_map ..

theorem takeAt_full (l : List Value) (n : Nat) (h : l.length = n) : takeAt l 0 n = some l := takeAt_all l n 0 l h fun j _ => by rw [Nat.zero_add]

section
variable {r : Mem} {γ0 : Gam} {W0 : World} {p q : Int}

/-- The states at the loop's head, by their own names. -/
inductive TmSt (p q : Int) : Nat → St → Prop
  | first : TmSt p q q.toNat ⟨⟨[], TTm⟩, [], AT0L p q p q⟩
  | more {a b : Int} {ts : List Int} (ha : 0 ≤ a) (hb : 0 ≤ b) (ha2 : a ≤ 1000000) (hb2 : b ≤ 1000000) (hts : ts ++ terms a b = terms p q) : TmSt p q b.toNat ⟨⟨[], TTm⟩, [], AT1L p q a b (m_row ts) ts.length⟩

theorem ren_first (h0 : ∀ i, 8 ≤ i → γ0 i = none) (s : List (Nat × Value)) (p q a b : Int) : Ren (SC r) 11 24 γ0 W0 ⟨⟨s, TTm⟩, [], AT0L p q a b⟩ ⟨⟨[], TTm⟩, [], AT0L p q a b⟩ := by
  refine Ren.of (fun i => i) 8 rfl h0 (Nat.le_of_ble_eq_true rfl) (fun i hi => rfl) ?_ rfl ?_ trivial
  · simp only [Tr.All, TTm]
    repeat' (first | exact trivial | apply And.intro)
    all_goals exact ⟨_, rfl, rfl⟩
  · simp only [Tr.All, AT0L, ATg, leftT]
    repeat' (first | exact trivial | apply And.intro)
    all_goals first | rfl | exact .head _ | exact ⟨_, rfl, .defd⟩ | exact ⟨_, rfl, .cells rfl⟩ | exact ⟨_, rfl, .plain (by skip)⟩ | skip
    refine ⟨_, rfl, .same ?_ ?_ rfl rfl⟩
    · simp only [Tr.All]
      repeat' (first | exact trivial | apply And.intro)
      all_goals rfl
    · simp only [scrFix]
      repeat' (first | exact trivial | apply And.intro)
      all_goals rfl

/-- What the loop leaves. -/
def TmQ (p q : Int) : Exit → St → Prop
  | .exit id, st => id = 0 ∧ ∃ st1, Ren (SC r) 11 24 γ0 W0 st st1 ∧ st1 = ⟨⟨[], .nil⟩, [], AT1 p q (m_row (terms p q)) (terms p q).length⟩
  | _, _ => False

theorem tm_body (hp : 0 ≤ p) (hq : 0 < q) (hp2 : p ≤ 1000000) (hq2 : q < 1000000) (h0 : ∀ i, 8 ≤ i → γ0 i = none) {F : Fence} {k : Nat} (hF : Wide F) (hro : F.round = none) {j : Nat} {st : St} (hs : TmSt p q j st) :
    Go.Ev.Reach (SC r) 11 24 F k γ0 W0 (ic (ic (rc cTe))) st fun ex st' => match ex with
      | .normal => ∃ j', j' < j ∧ ∃ st1, Ren (SC r) 11 24 γ0 W0 st' st1 ∧ TmSt p q j' st1
      | ex => TmQ (r := r) (γ0 := γ0) (W0 := W0) p q ex st' := by
  cases hs with
  | first =>
    refine Go.Ev.Reach.seg (SC_ok r) TOk.nil (tm := .nil) (L := 1) (L' := 1) (d := 1) hF hro ?_
    rw [tmB]
    obtain ⟨e0, e1, e2, e3, e4, e5⟩ := tdm hp hq
    have hne : q ≠ 0 := by omega
    have w1 : IntKind.wrap IntKind.i64 (p.tdiv q) = p.tdiv q := wrI (by omega)
    simp only [neT (show q ≠ Int.ofNat 0 from hne), dF hne, Bool.not_false, cond_true, eqv_int, w1]
    refine qn_ok ⟨(p.tmod q).toNat, by omega, _, ?_, .more (a := q) (b := p.tmod q) (ts := [p.tdiv q]) (by omega) e1 (by omega) (by omega) (by rw [terms.eq_1 p q, dif_pos hq]; rfl)⟩
    refine Ren.of (fun i => bif Nat.beq i 9 then 10 else i) 8 rfl h0 (Nat.le_of_ble_eq_true rfl) (fun i hi => by have : Nat.beq i 9 = false := natF (by omega); rw [this]; rfl) ?_ rfl ?_ trivial
    · simp only [Tr.All, TTm]
      repeat' (first | exact trivial | apply And.intro)
      all_goals exact ⟨_, rfl, rfl⟩
    · simp only [Tr.All, AT1L, ATg, leftT, rowT]
      repeat' (first | exact trivial | apply And.intro)
      all_goals first | rfl | exact .head _ | exact ⟨_, rfl, .defd⟩ | exact ⟨_, rfl, .cells rfl⟩ | exact ⟨_, rfl, .plain (by skip)⟩ | skip
      refine ⟨_, rfl, .same ?_ ?_ rfl rfl⟩
      · simp only [Tr.All]
        repeat' (first | exact trivial | apply And.intro)
        all_goals rfl
      · simp only [scrFix]
        repeat' (first | exact trivial | apply And.intro)
        all_goals rfl
  | more ha hb ha2 hb2 hts =>
    rename_i a b ts
    refine Go.Ev.Reach.seg (SC_ok r) TOk.nil (tm := .nil) (L := 1) (L' := 1) (d := 1) hF hro ?_
    rw [tmC]
    by_cases c : b > 0
    · obtain ⟨e0, e1, e2, e3, e4, e5⟩ := tdm ha c
      have hne : b ≠ 0 := by omega
      have hlen := terms_len p q hp (by omega)
      rw [← hts, terms, dif_pos c] at hlen
      simp only [List.length_append, List.length_cons] at hlen
      have w1 : IntKind.wrap IntKind.i64 (a.tdiv b) = a.tdiv b := wrI (by omega)
      have g1 : Nat.ble (Nat.add ts.length 1) 1000000 = true := Nat.ble_eq_true_of_le (by simp only [Nat.add_eq]; omega)
      have g2 : takeAt (m_row ts) 0 (Nat.mul ts.length 1) = some (m_row ts) := takeAt_full _ _ (by rw [row_len]; simp)
      have st : TmSt p q (a.tmod b).toNat ⟨⟨[], TTm⟩, [], AT1L p q b (a.tmod b) (m_row ts ++ [I (a.tdiv b)]) (ts.length + 1)⟩ := by
        have := TmSt.more (p := p) (q := q) (a := b) (b := a.tmod b) (ts := ts ++ [a.tdiv b]) (by omega) e1 hb2 (by omega) (by rw [← hts, terms.eq_1 a b, dif_pos c]; simp)
        simpa [m_row] using this
      have hgr : ∀ v ∈ m_row ts ++ [I (a.tdiv b)], gnd v = true := fun v hv => by
        rcases List.mem_append.1 hv with h | h
        · exact row_gnd ts v h
        · simp only [List.mem_singleton] at h; subst h; rfl
      simp only [neT (show b ≠ Int.ofNat 0 from hne), dF hne, Bool.not_false, cond_true, eqv_int, w1, g1, g2]
      refine qn_ok ⟨(a.tmod b).toNat, by omega, _, ?_, st⟩
      refine Ren.of (fun i => bif Nat.beq i 9 then 11 else i) 8 rfl h0 (Nat.le_of_ble_eq_true rfl) (fun i hi => by have : Nat.beq i 9 = false := natF (by omega); rw [this]; rfl) ?_ rfl ?_ trivial
      · simp only [Tr.All, TTm]
        repeat' (first | exact trivial | apply And.intro)
        all_goals exact ⟨_, rfl, rfl⟩
      · simp only [Tr.All, AT1L, ATg, leftT, rowT]
        repeat' (first | exact trivial | apply And.intro)
        all_goals first | rfl | exact .head _ | exact ⟨_, rfl, .defd⟩ | exact ⟨_, rfl, .cells rfl⟩ | exact ⟨_, rfl, .plain (by exact hgr)⟩ | skip
        refine ⟨_, rfl, .same ?_ ?_ rfl rfl⟩
        · simp only [Tr.All]
          repeat' (first | exact trivial | apply And.intro)
          all_goals rfl
        · simp only [scrFix]
          repeat' (first | exact trivial | apply And.intro)
          all_goals rfl
    · have hb0 : b = 0 := by omega
      subst hb0
      simp only [neF (show (0 : Int) = Int.ofNat 0 from rfl), cond_false]
      have e : terms p q = ts := by
        rw [← hts, terms, dif_neg c]
        simp
      refine qn_ok ⟨rfl, _, ?_, rfl⟩
      rw [e]
      refine Ren.of (fun i => bif Nat.beq i 8 then 9 else i) 8 rfl h0 (Nat.le_of_ble_eq_true rfl) (fun i hi => by have : Nat.beq i 8 = false := natF (by omega); rw [this]; rfl) ?_ rfl ?_ trivial
      · simp only [Tr.All, TTm]
        repeat' (first | exact trivial | apply And.intro)
        all_goals exact ⟨_, rfl, rfl⟩
      · simp only [Tr.All, AT1, ATg, leftT, rowT]
        repeat' (first | exact trivial | apply And.intro)
        all_goals first | rfl | exact .head _ | exact ⟨_, rfl, .defd⟩ | exact ⟨_, rfl, .cells rfl⟩ | exact ⟨_, rfl, .plain (by exact row_gnd ts)⟩ | skip
        refine ⟨_, rfl, .same ?_ ?_ rfl rfl⟩
        · simp only [Tr.All]
          repeat' (first | exact trivial | apply And.intro)
          all_goals rfl
        · simp only [scrFix]
          repeat' (first | exact trivial | apply And.intro)
          all_goals rfl

theorem tm_calls (hp : 0 ≤ p) (hq : 0 < q) (hp2 : p ≤ 1000000) (hq2 : q < 1000000) (F : Fence) (hF : Wide F) (k : Nat) (γ : Gam) (W : World) (args' : Array Value) (hw : WRel γ (AT0 p q) W) (hR : Ro (SC r).ro γ W) (ha : VsRel γ yT args'.toList) :
    CallsIn F k (SC r).P 78 args' W (Go.Ev.Ends γ W (.tuple ⟨[]⟩) (AT1 p q (m_row (terms p q)) (terms p q).length)) := by
  obtain ⟨fn, h1, h2, h3, h4⟩ := fn_of (C := SC r) (f := 78) (by kernel_rfl)
  have hn : fn.ntmps = 24 := h3.trans (by kernel_rfl)
  have hr : fn.results.toList = [] := h4.trans (by kernel_rfl)
  rw [bodySC] at h2
  refine call_reach (SC_ok r) h1 h2 11 (by rw [hn]; rfl) (fun F k hF hro => ?_) hw hR ha hF k
  rw [hn, hr]
  have h0 : ∀ i, 8 ≤ i → γ i = none := hw.fresh
  show Go.Ev.Reach (SC r) 11 24 F k γ W cTe _ _
  rw [cTe_eq]
  refine Go.Ev.Reach.seq (Go.Ev.Reach.seg (SC_ok r) TOk.nil (tm := .nil) (L := 1) (L' := 1) (d := 1) hF hro ((tmA r _ _ p q _ _ _ _).trans (qn_ok ?_)))
  refine Go.Ev.Reach.pre (ren_first h0 _ p q p q) ?_
  refine Go.Ev.Reach.block ?_
  refine Go.Ev.Reach.loop (I := fun j st => ∃ st1, Ren (SC r) 11 24 γ W st st1 ∧ TmSt p q j st1) (fun j st ⟨st1, hr, hs⟩ => Go.Ev.Reach.pre hr (Go.Ev.Reach.mono (tm_body hp hq hp2 hq2 h0 hF hro hs) fun ex st' h => ?_)) ⟨_, Ren.refl _, .first⟩
  cases ex with
  | normal => exact h
  | exit id =>
    obtain ⟨rfl, st2, hr2, rfl⟩ := h
    exact ⟨.inl rfl, _, hr2, rfl⟩
  | _ => exact h.elim

end

end Go.Proofs

/- Terms, Crossings: what the calls answer. -/
namespace Go.Proofs
open Go Go.Ev Go.Num

def m_tm (p q : Int) : List Value := m_row (terms p q)
def m_tmN (p q : Int) : Nat := (terms p q).length
noncomputable def tTm (p q : Int) : Tbl := tcons 74 eLink (tcons 78 (entAt yT (AT0 p q) (.tuple ⟨[]⟩) (AT1 p q (m_tm p q) (m_tmN p q))) fun _ => none)
def mskTm : Tr Nat := Tr.nil.put 77 (some 183)

theorem tmD (r : Mem) (p q : Int) : (lvlT (SC r) (tTm p q) mskTm 8 6).call 26 [I p, I q] emptyA finM =
    bif m_eqv (Value.int IntKind.i64 q) (Value.int IntKind.i64 q) then bif m_eqv (Value.int IntKind.i64 q) (Value.int IntKind.i64 q) then bif m_eqv (Value.int IntKind.i64 p) (Value.int IntKind.i64 p) then bif m_eqv (Value.int IntKind.i64 p) (Value.int IntKind.i64 p) then bif m_link p q then bif m_at [Value.func (Fn.yield 7) (Array.mk []) (Array.mk []), Value.pointer (some (Addr.mk 4 0 none))] [Value.func (Fn.yield 7) (Array.mk []) (Array.mk []), Value.pointer (some (Addr.mk 4 0 none))] (AW.mk 8 (Tr.node (Tr.node (Tr.node (Tr.node Tr.nil (some (AObj.loop LoopState.ready none 183 (En.mk [(6, Value.func (Fn.func 78) (Array.mk []) (Array.mk [Value.pointer (some (Addr.mk 4 0 none))]))] (Tr.node (Tr.node Tr.nil (some (Value.func (Fn.func 78) (Array.mk []) (Array.mk [Value.pointer (some (Addr.mk 4 0 none))]))) Tr.nil) (some (Value.slice none 0 0)) (Tr.node (Tr.node Tr.nil (some (Value.slice none 0 0)) Tr.nil) (some (Value.pointer (some (Addr.mk 5 0 none)))) Tr.nil))) 13 (Array.mk [7]) k_apA k_apB 6)) Tr.nil) (some (AObj.cells [Value.int IntKind.i64 p, Value.int IntKind.i64 q] 74 3 2)) Tr.nil) (some (AObj.cells [Value.int IntKind.i64 p, Value.int IntKind.i64 q] 74 1 0)) (Tr.node Tr.nil (some (AObj.cells [Value.slice none 0 0] 42 5 0)) Tr.nil)) (some (AObj.cells [Value.int IntKind.i64 p, Value.int IntKind.i64 q] 2 0 1)) (Tr.node (Tr.node Tr.nil (some (AObj.cells [Value.int IntKind.i64 p, Value.int IntKind.i64 q] 74 4 0)) Tr.nil) (some (AObj.cells [Value.int IntKind.i64 p, Value.int IntKind.i64 q] 74 2 2)) (Tr.node Tr.nil (some AObj.defd) Tr.nil))) Tr.nil) (AW.mk 8 (Tr.node (Tr.node (Tr.node (Tr.node Tr.nil (some (AObj.loop LoopState.ready none 183 (En.mk [(6, Value.func (Fn.func 78) (Array.mk []) (Array.mk [Value.pointer (some (Addr.mk 4 0 none))]))] (Tr.node (Tr.node Tr.nil (some (Value.func (Fn.func 78) (Array.mk []) (Array.mk [Value.pointer (some (Addr.mk 4 0 none))]))) Tr.nil) (some (Value.slice none 0 0)) (Tr.node (Tr.node Tr.nil (some (Value.slice none 0 0)) Tr.nil) (some (Value.pointer (some (Addr.mk 5 0 none)))) Tr.nil))) 13 (Array.mk [7]) k_apA k_apB 6)) Tr.nil) (some (AObj.cells [Value.int IntKind.i64 p, Value.int IntKind.i64 q] 74 3 2)) Tr.nil) (some (AObj.cells [Value.int IntKind.i64 p, Value.int IntKind.i64 q] 74 1 0)) (Tr.node Tr.nil (some (AObj.cells [Value.slice none 0 0] 42 5 0)) Tr.nil)) (some (AObj.cells [Value.int IntKind.i64 p, Value.int IntKind.i64 q] 2 0 1)) (Tr.node (Tr.node Tr.nil (some (AObj.cells [Value.int IntKind.i64 p, Value.int IntKind.i64 q] 74 4 0)) Tr.nil) (some (AObj.cells [Value.int IntKind.i64 p, Value.int IntKind.i64 q] 74 2 2)) (Tr.node Tr.nil (some AObj.defd) Tr.nil))) Tr.nil) then bif gnds (m_tm p q) then CR.ret (Value.tuple (Array.mk [Value.slice (some (Addr.mk 0 0 none)) (m_tmN p q) 9223372036854775808, Value.int IntKind.i64 (Int.ofNat 0)])) (AW.mk 1 (Tr.node Tr.nil (some (AObj.cells (m_tm p q) 2 0 1)) Tr.nil) Tr.nil) else CR.fail 420 else CR.fail 420 else CR.ret (Value.tuple (Array.mk [Value.slice none 0 0, Value.int IntKind.i64 (Int.ofNat 61)])) (AW.mk 0 Tr.nil Tr.nil) else CR.fail 420 else CR.fail 420 else CR.fail 420 else CR.fail 420 := by kernel_rfl

end Go.Proofs

/- The link of terms, run. -/
namespace Go.Proofs
open Go Go.Ev Go.Num

noncomputable def cFt : Code := bodyOf S0 58
noncomputable def cBk : Code := bodyOf S0 90
noncomputable def k_ftA : Code := rfAs (ic (rc (lc (rc (rc (rc cFt))))))
noncomputable def k_ftB : Code := rfBd (ic (rc (lc (rc (rc (rc cFt))))))

/-- The world at the loop over the terms, from the last one to the first: the numbers so far. -/
noncomputable def AFg (st : LoopState) (pend : Option Code) (P Q : Int) (b off len cap : Nat) : AW := (AW.mk 6 (Tr.node (Tr.node (Tr.node Tr.nil (some (AObj.cells [Value.slice (some (Addr.mk b off (some 0))) len cap] 42 3 0)) Tr.nil) (some (AObj.cells [Value.bool false] 4 1 0)) (Tr.node Tr.nil (some (AObj.loop st pend 16777309 (En.mk [(22, Value.func (Fn.func 90) (Array.mk []) (Array.mk [Value.pointer (some (Addr.mk 3 0 none))])), (21, Value.slice (some (Addr.mk b off (some 0))) len cap)] (Tr.node (Tr.node (Tr.node Tr.nil (some (Value.pointer (some (Addr.mk 1 0 none)))) Tr.nil) none Tr.nil) (some (Value.slice (some (Addr.mk b off (some 0))) len cap)) (Tr.node (Tr.node Tr.nil (some (Value.pointer (some (Addr.mk 2 0 none)))) Tr.nil) (some (Value.pointer (some (Addr.mk 0 0 none)))) Tr.nil))) 49 (Array.mk [23, 24]) k_ftA k_ftB 4)) Tr.nil)) (some (AObj.cells [Value.int IntKind.i64 (Int.ofNat 0), Value.int IntKind.i64 (Int.ofNat 0)] 74 0 0)) (Tr.node (Tr.node Tr.nil (some AObj.defd) Tr.nil) (some (AObj.cells [Value.int IntKind.i64 P, Value.int IntKind.i64 Q] 74 2 0)) Tr.nil)) Tr.nil)
noncomputable abbrev AFt (P Q : Int) (b off len cap : Nat) : AW := AFg .ready none P Q b off len cap
noncomputable abbrev AFs (P Q : Int) (b off len cap : Nat) : AW := AFg .done (some .ret) P Q b off len cap
def yF : List Value := [.func (.yield 5) ⟨[]⟩ ⟨[]⟩, .pointer (some ⟨3, 0, none⟩)]
def TBk (i : Int) : Tr Value := (Tr.node (Tr.node (Tr.node Tr.nil (some (I i)) Tr.nil) (some (Value.pointer (some (Addr.mk 3 0 none)))) Tr.nil) (some (Value.func (Fn.yield 5) (Array.mk []) (Array.mk []))) Tr.nil)

theorem ftA (r : Mem) (L : Nat) (fs : FnsC) (P Q : Int) (b off len cap : Nat) (kn : KS) (kx : Nat → KS) (kr : KS) (ms : List Nat) : run (SC r) 11 19 L (lc cBk) fs none kn kx kr (sc0 11 yF) (tr0 11 yF) ms (AFt P Q b off len cap) =
    kn [(6, Value.int IntKind.i64 (IntKind.wrap IntKind.i64 (Int.ofNat len - Int.ofNat 1))), (5, Value.int IntKind.i64 (Int.ofNat len)), (4, Value.slice (some (Addr.mk b off (some 0))) len cap)] (Tr.node (Tr.node (Tr.node Tr.nil (some (Value.int IntKind.i64 (IntKind.wrap IntKind.i64 (Int.ofNat len - Int.ofNat 1)))) Tr.nil) (some (Value.pointer (some (Addr.mk 3 0 none)))) Tr.nil) (some (Value.func (Fn.yield 5) (Array.mk []) (Array.mk []))) Tr.nil) ms (AW.mk 6 (Tr.node (Tr.node (Tr.node Tr.nil (some (AObj.cells [Value.slice (some (Addr.mk b off (some 0))) len cap] 42 3 0)) Tr.nil) (some (AObj.cells [Value.bool false] 4 1 0)) (Tr.node Tr.nil (some (AObj.loop LoopState.ready none 16777309 (En.mk [(22, Value.func (Fn.func 90) (Array.mk []) (Array.mk [Value.pointer (some (Addr.mk 3 0 none))])), (21, Value.slice (some (Addr.mk b off (some 0))) len cap)] (Tr.node (Tr.node (Tr.node Tr.nil (some (Value.pointer (some (Addr.mk 1 0 none)))) Tr.nil) none Tr.nil) (some (Value.slice (some (Addr.mk b off (some 0))) len cap)) (Tr.node (Tr.node Tr.nil (some (Value.pointer (some (Addr.mk 2 0 none)))) Tr.nil) (some (Value.pointer (some (Addr.mk 0 0 none)))) Tr.nil))) 49 (Array.mk [23, 24]) k_ftA k_ftB 4)) Tr.nil)) (some (AObj.cells [Value.int IntKind.i64 (Int.ofNat 0), Value.int IntKind.i64 (Int.ofNat 0)] 74 0 0)) (Tr.node (Tr.node Tr.nil (some AObj.defd) Tr.nil) (some (AObj.cells [Value.int IntKind.i64 P, Value.int IntKind.i64 Q] 74 2 0)) Tr.nil)) Tr.nil) := by kernel_rfl

theorem ftB (r : Mem) (L : Nat) (tm : Tr Nat) (P Q i : Int) (b off len cap : Nat) (s : List (Nat × Value)) (kn : KS) (kx : Nat → KS) (kr : KS) (ms : List Nat) : run (SC r) 11 19 L (ic (ic (rc cBk))) (lvlT (SC r) (fun _ => none) tm L 1) none kn kx kr s (TBk i) ms (AFt P Q b off len cap) =
    bif decide (i ≥ 0) then bif decide (0 ≤ i) then bif Nat.blt (Int.toNat i) len then Option.casesOn (r b (Nat.add off (Nat.mul (Int.toNat i) 1))) (CR.fail 423) fun val => bif isI IntKind.i64 val then bif decide (ofI val < 1) then kr [(18, Value.bool true), (17, Value.bool false), (16, Value.int IntKind.i64 (ofI val)), (15, Value.pointer (some (Addr.mk b (Nat.add off (Nat.mul (Int.toNat i) 1)) (some 0)))), (14, Value.int IntKind.i64 i), (13, Value.slice (some (Addr.mk b off (some 0))) len cap), (12, Value.int IntKind.i64 i), (11, Value.func (Fn.yield 5) (Array.mk []) (Array.mk []))] (Tr.node (Tr.node (Tr.node Tr.nil (some (Value.int IntKind.i64 i)) Tr.nil) (some (Value.pointer (some (Addr.mk 3 0 none)))) Tr.nil) (some (Value.func (Fn.yield 5) (Array.mk []) (Array.mk []))) Tr.nil) ms (AW.mk 6 (Tr.node (Tr.node (Tr.node Tr.nil (some (AObj.cells [Value.slice (some (Addr.mk b off (some 0))) len cap] 42 3 0)) Tr.nil) (some (AObj.cells [Value.bool false] 4 1 0)) (Tr.node Tr.nil (some (AObj.loop LoopState.done (some Code.ret) 16777309 (En.mk [(22, Value.func (Fn.func 90) (Array.mk []) (Array.mk [Value.pointer (some (Addr.mk 3 0 none))])), (21, Value.slice (some (Addr.mk b off (some 0))) len cap)] (Tr.node (Tr.node (Tr.node Tr.nil (some (Value.pointer (some (Addr.mk 1 0 none)))) Tr.nil) none Tr.nil) (some (Value.slice (some (Addr.mk b off (some 0))) len cap)) (Tr.node (Tr.node Tr.nil (some (Value.pointer (some (Addr.mk 2 0 none)))) Tr.nil) (some (Value.pointer (some (Addr.mk 0 0 none)))) Tr.nil))) 49 (Array.mk [23, 24]) k_ftA k_ftB 4)) Tr.nil)) (some (AObj.cells [Value.int IntKind.i64 (Int.ofNat 0), Value.int IntKind.i64 (Int.ofNat 0)] 74 0 0)) (Tr.node (Tr.node Tr.nil (some AObj.defd) Tr.nil) (some (AObj.cells [Value.int IntKind.i64 P, Value.int IntKind.i64 Q] 74 2 0)) Tr.nil)) Tr.nil) else bif !decide (P = 0) then bif decide (ofI val > IntKind.wrap IntKind.i64 (Int.tdiv (IntKind.wrap IntKind.i64 (Int.ofNat 1000000 - Q)) P)) then kr [(18, Value.bool true), (17, Value.bool false), (16, Value.int IntKind.i64 (ofI val)), (15, Value.pointer (some (Addr.mk b (Nat.add off (Nat.mul (Int.toNat i) 1)) (some 0)))), (14, Value.int IntKind.i64 i), (13, Value.slice (some (Addr.mk b off (some 0))) len cap), (12, Value.int IntKind.i64 i), (11, Value.func (Fn.yield 5) (Array.mk []) (Array.mk []))] (Tr.node (Tr.node (Tr.node Tr.nil (some (Value.int IntKind.i64 i)) Tr.nil) (some (Value.pointer (some (Addr.mk 3 0 none)))) Tr.nil) (some (Value.func (Fn.yield 5) (Array.mk []) (Array.mk []))) Tr.nil) ms (AW.mk 6 (Tr.node (Tr.node (Tr.node Tr.nil (some (AObj.cells [Value.slice (some (Addr.mk b off (some 0))) len cap] 42 3 0)) Tr.nil) (some (AObj.cells [Value.bool false] 4 1 0)) (Tr.node Tr.nil (some (AObj.loop LoopState.done (some Code.ret) 16777309 (En.mk [(22, Value.func (Fn.func 90) (Array.mk []) (Array.mk [Value.pointer (some (Addr.mk 3 0 none))])), (21, Value.slice (some (Addr.mk b off (some 0))) len cap)] (Tr.node (Tr.node (Tr.node Tr.nil (some (Value.pointer (some (Addr.mk 1 0 none)))) Tr.nil) none Tr.nil) (some (Value.slice (some (Addr.mk b off (some 0))) len cap)) (Tr.node (Tr.node Tr.nil (some (Value.pointer (some (Addr.mk 2 0 none)))) Tr.nil) (some (Value.pointer (some (Addr.mk 0 0 none)))) Tr.nil))) 49 (Array.mk [23, 24]) k_ftA k_ftB 4)) Tr.nil)) (some (AObj.cells [Value.int IntKind.i64 (Int.ofNat 0), Value.int IntKind.i64 (Int.ofNat 0)] 74 0 0)) (Tr.node (Tr.node Tr.nil (some AObj.defd) Tr.nil) (some (AObj.cells [Value.int IntKind.i64 P, Value.int IntKind.i64 Q] 74 2 0)) Tr.nil)) Tr.nil) else kn [(10, Value.int IntKind.i64 (IntKind.wrap IntKind.i64 (i - Int.ofNat 1))), (9, Value.int IntKind.i64 i)] (Tr.node (Tr.node (Tr.node Tr.nil (some (Value.int IntKind.i64 (IntKind.wrap IntKind.i64 (i - Int.ofNat 1)))) Tr.nil) (some (Value.pointer (some (Addr.mk 3 0 none)))) Tr.nil) (some (Value.func (Fn.yield 5) (Array.mk []) (Array.mk []))) Tr.nil) ms (AW.mk 6 (Tr.node (Tr.node (Tr.node Tr.nil (some (AObj.cells [Value.slice (some (Addr.mk b off (some 0))) len cap] 42 3 0)) Tr.nil) (some (AObj.cells [Value.bool false] 4 1 0)) (Tr.node Tr.nil (some (AObj.loop LoopState.ready none 16777309 (En.mk [(22, Value.func (Fn.func 90) (Array.mk []) (Array.mk [Value.pointer (some (Addr.mk 3 0 none))])), (21, Value.slice (some (Addr.mk b off (some 0))) len cap)] (Tr.node (Tr.node (Tr.node Tr.nil (some (Value.pointer (some (Addr.mk 1 0 none)))) Tr.nil) none Tr.nil) (some (Value.slice (some (Addr.mk b off (some 0))) len cap)) (Tr.node (Tr.node Tr.nil (some (Value.pointer (some (Addr.mk 2 0 none)))) Tr.nil) (some (Value.pointer (some (Addr.mk 0 0 none)))) Tr.nil))) 49 (Array.mk [23, 24]) k_ftA k_ftB 4)) Tr.nil)) (some (AObj.cells [Value.int IntKind.i64 (Int.ofNat 0), Value.int IntKind.i64 (Int.ofNat 0)] 74 0 0)) (Tr.node (Tr.node Tr.nil (some AObj.defd) Tr.nil) (some (AObj.cells [Value.int IntKind.i64 (IntKind.wrap IntKind.i64 (IntKind.wrap IntKind.i64 (ofI val * P) + Q)), Value.int IntKind.i64 P] 74 2 0)) Tr.nil)) Tr.nil) else CR.fail 420 else CR.fail 420 else CR.fail 420 else CR.fail 420 else kx 0 [(8, Value.bool false), (7, Value.int IntKind.i64 i)] (Tr.node (Tr.node (Tr.node Tr.nil (some (Value.int IntKind.i64 i)) Tr.nil) (some (Value.pointer (some (Addr.mk 3 0 none)))) Tr.nil) (some (Value.func (Fn.yield 5) (Array.mk []) (Array.mk []))) Tr.nil) ms (AW.mk 6 (Tr.node (Tr.node (Tr.node Tr.nil (some (AObj.cells [Value.slice (some (Addr.mk b off (some 0))) len cap] 42 3 0)) Tr.nil) (some (AObj.cells [Value.bool false] 4 1 0)) (Tr.node Tr.nil (some (AObj.loop LoopState.ready none 16777309 (En.mk [(22, Value.func (Fn.func 90) (Array.mk []) (Array.mk [Value.pointer (some (Addr.mk 3 0 none))])), (21, Value.slice (some (Addr.mk b off (some 0))) len cap)] (Tr.node (Tr.node (Tr.node Tr.nil (some (Value.pointer (some (Addr.mk 1 0 none)))) Tr.nil) none Tr.nil) (some (Value.slice (some (Addr.mk b off (some 0))) len cap)) (Tr.node (Tr.node Tr.nil (some (Value.pointer (some (Addr.mk 2 0 none)))) Tr.nil) (some (Value.pointer (some (Addr.mk 0 0 none)))) Tr.nil))) 49 (Array.mk [23, 24]) k_ftA k_ftB 4)) Tr.nil)) (some (AObj.cells [Value.int IntKind.i64 (Int.ofNat 0), Value.int IntKind.i64 (Int.ofNat 0)] 74 0 0)) (Tr.node (Tr.node Tr.nil (some AObj.defd) Tr.nil) (some (AObj.cells [Value.int IntKind.i64 P, Value.int IntKind.i64 Q] 74 2 0)) Tr.nil)) Tr.nil) := by kernel_rfl

def mskFt : Tr Nat := Tr.nil.put 58 (some 16777309)
noncomputable def tFtY (b off len cap : Nat) (P Q : Int) : Tbl := tcons 90 (entAt yF (AFt 1 0 b off len cap) (.tuple ⟨[]⟩) (AFt P Q b off len cap)) fun _ => none
noncomputable def tFtN (b off len cap : Nat) (P Q : Int) : Tbl := tcons 90 (entAt yF (AFt 1 0 b off len cap) (.tuple ⟨[]⟩) (AFs P Q b off len cap)) fun _ => none

theorem ftY (r : Mem) (b off len cap : Nat) (P Q : Int) : (lvlT (SC r) (tFtY b off len cap P Q) mskFt 8 6).call 37 [RS b off len cap] emptyA fin =
    bif decide (Int.ofNat len > 60) then CR.ret (Value.tuple (Array.mk [Value.int IntKind.i64 (Int.ofNat 0), Value.int IntKind.i64 (Int.ofNat 0), Value.int IntKind.i64 (Int.ofNat 2)])) (AW.mk 0 Tr.nil Tr.nil) else bif decide (Int.ofNat len > 0) then bif decide (0 ≤ IntKind.wrap IntKind.i64 (Int.ofNat len - Int.ofNat 1)) then bif Nat.blt (Int.toNat (IntKind.wrap IntKind.i64 (Int.ofNat len - Int.ofNat 1))) len then Option.casesOn (r b (Nat.add off (Nat.mul (Int.toNat (IntKind.wrap IntKind.i64 (Int.ofNat len - Int.ofNat 1))) 1))) (CR.fail 423) fun val => bif isI IntKind.i64 val then bif ofI val == Int.ofNat 1 then CR.ret (Value.tuple (Array.mk [Value.int IntKind.i64 (Int.ofNat 0), Value.int IntKind.i64 (Int.ofNat 0), Value.int IntKind.i64 (Int.ofNat 1)])) (AW.mk 0 Tr.nil Tr.nil) else bif m_at [Value.func (Fn.yield 5) (Array.mk []) (Array.mk []), Value.pointer (some (Addr.mk 3 0 none))] [Value.func (Fn.yield 5) (Array.mk []) (Array.mk []), Value.pointer (some (Addr.mk 3 0 none))] (AW.mk 6 (Tr.node (Tr.node (Tr.node Tr.nil (some (AObj.cells [Value.slice (some (Addr.mk b off (some 0))) len cap] 42 3 0)) Tr.nil) (some (AObj.cells [Value.bool false] 4 1 0)) (Tr.node Tr.nil (some (AObj.loop LoopState.ready none 16777309 (En.mk [(22, Value.func (Fn.func 90) (Array.mk []) (Array.mk [Value.pointer (some (Addr.mk 3 0 none))])), (21, Value.slice (some (Addr.mk b off (some 0))) len cap)] (Tr.node (Tr.node (Tr.node Tr.nil (some (Value.pointer (some (Addr.mk 1 0 none)))) Tr.nil) none Tr.nil) (some (Value.slice (some (Addr.mk b off (some 0))) len cap)) (Tr.node (Tr.node Tr.nil (some (Value.pointer (some (Addr.mk 2 0 none)))) Tr.nil) (some (Value.pointer (some (Addr.mk 0 0 none)))) Tr.nil))) 49 (Array.mk [23, 24]) k_ftA k_ftB 4)) Tr.nil)) (some (AObj.cells [Value.int IntKind.i64 (Int.ofNat 0), Value.int IntKind.i64 (Int.ofNat 0)] 74 0 0)) (Tr.node (Tr.node Tr.nil (some AObj.defd) Tr.nil) (some (AObj.cells [Value.int IntKind.i64 (Int.ofNat 1), Value.int IntKind.i64 (Int.ofNat 0)] 74 2 0)) Tr.nil)) Tr.nil) (AW.mk 6 (Tr.node (Tr.node (Tr.node Tr.nil (some (AObj.cells [Value.slice (some (Addr.mk b off (some 0))) len cap] 42 3 0)) Tr.nil) (some (AObj.cells [Value.bool false] 4 1 0)) (Tr.node Tr.nil (some (AObj.loop LoopState.ready none 16777309 (En.mk [(22, Value.func (Fn.func 90) (Array.mk []) (Array.mk [Value.pointer (some (Addr.mk 3 0 none))])), (21, Value.slice (some (Addr.mk b off (some 0))) len cap)] (Tr.node (Tr.node (Tr.node Tr.nil (some (Value.pointer (some (Addr.mk 1 0 none)))) Tr.nil) none Tr.nil) (some (Value.slice (some (Addr.mk b off (some 0))) len cap)) (Tr.node (Tr.node Tr.nil (some (Value.pointer (some (Addr.mk 2 0 none)))) Tr.nil) (some (Value.pointer (some (Addr.mk 0 0 none)))) Tr.nil))) 49 (Array.mk [23, 24]) k_ftA k_ftB 4)) Tr.nil)) (some (AObj.cells [Value.int IntKind.i64 (Int.ofNat 0), Value.int IntKind.i64 (Int.ofNat 0)] 74 0 0)) (Tr.node (Tr.node Tr.nil (some AObj.defd) Tr.nil) (some (AObj.cells [Value.int IntKind.i64 (Int.ofNat 1), Value.int IntKind.i64 (Int.ofNat 0)] 74 2 0)) Tr.nil)) Tr.nil) then CR.ret (Value.tuple (Array.mk [Value.int IntKind.i64 P, Value.int IntKind.i64 Q, Value.int IntKind.i64 (Int.ofNat 0)])) (AW.mk 0 Tr.nil Tr.nil) else CR.fail 420 else CR.fail 420 else CR.fail 420 else CR.fail 420 else bif m_at [Value.func (Fn.yield 5) (Array.mk []) (Array.mk []), Value.pointer (some (Addr.mk 3 0 none))] [Value.func (Fn.yield 5) (Array.mk []) (Array.mk []), Value.pointer (some (Addr.mk 3 0 none))] (AW.mk 6 (Tr.node (Tr.node (Tr.node Tr.nil (some (AObj.cells [Value.slice (some (Addr.mk b off (some 0))) len cap] 42 3 0)) Tr.nil) (some (AObj.cells [Value.bool false] 4 1 0)) (Tr.node Tr.nil (some (AObj.loop LoopState.ready none 16777309 (En.mk [(22, Value.func (Fn.func 90) (Array.mk []) (Array.mk [Value.pointer (some (Addr.mk 3 0 none))])), (21, Value.slice (some (Addr.mk b off (some 0))) len cap)] (Tr.node (Tr.node (Tr.node Tr.nil (some (Value.pointer (some (Addr.mk 1 0 none)))) Tr.nil) none Tr.nil) (some (Value.slice (some (Addr.mk b off (some 0))) len cap)) (Tr.node (Tr.node Tr.nil (some (Value.pointer (some (Addr.mk 2 0 none)))) Tr.nil) (some (Value.pointer (some (Addr.mk 0 0 none)))) Tr.nil))) 49 (Array.mk [23, 24]) k_ftA k_ftB 4)) Tr.nil)) (some (AObj.cells [Value.int IntKind.i64 (Int.ofNat 0), Value.int IntKind.i64 (Int.ofNat 0)] 74 0 0)) (Tr.node (Tr.node Tr.nil (some AObj.defd) Tr.nil) (some (AObj.cells [Value.int IntKind.i64 (Int.ofNat 1), Value.int IntKind.i64 (Int.ofNat 0)] 74 2 0)) Tr.nil)) Tr.nil) (AW.mk 6 (Tr.node (Tr.node (Tr.node Tr.nil (some (AObj.cells [Value.slice (some (Addr.mk b off (some 0))) len cap] 42 3 0)) Tr.nil) (some (AObj.cells [Value.bool false] 4 1 0)) (Tr.node Tr.nil (some (AObj.loop LoopState.ready none 16777309 (En.mk [(22, Value.func (Fn.func 90) (Array.mk []) (Array.mk [Value.pointer (some (Addr.mk 3 0 none))])), (21, Value.slice (some (Addr.mk b off (some 0))) len cap)] (Tr.node (Tr.node (Tr.node Tr.nil (some (Value.pointer (some (Addr.mk 1 0 none)))) Tr.nil) none Tr.nil) (some (Value.slice (some (Addr.mk b off (some 0))) len cap)) (Tr.node (Tr.node Tr.nil (some (Value.pointer (some (Addr.mk 2 0 none)))) Tr.nil) (some (Value.pointer (some (Addr.mk 0 0 none)))) Tr.nil))) 49 (Array.mk [23, 24]) k_ftA k_ftB 4)) Tr.nil)) (some (AObj.cells [Value.int IntKind.i64 (Int.ofNat 0), Value.int IntKind.i64 (Int.ofNat 0)] 74 0 0)) (Tr.node (Tr.node Tr.nil (some AObj.defd) Tr.nil) (some (AObj.cells [Value.int IntKind.i64 (Int.ofNat 1), Value.int IntKind.i64 (Int.ofNat 0)] 74 2 0)) Tr.nil)) Tr.nil) then CR.ret (Value.tuple (Array.mk [Value.int IntKind.i64 P, Value.int IntKind.i64 Q, Value.int IntKind.i64 (Int.ofNat 0)])) (AW.mk 0 Tr.nil Tr.nil) else CR.fail 420 := by kernel_rfl

theorem ftN (r : Mem) (b off len cap : Nat) (P Q : Int) : (lvlT (SC r) (tFtN b off len cap P Q) mskFt 8 6).call 37 [RS b off len cap] emptyA fin =
    bif decide (Int.ofNat len > 60) then CR.ret (Value.tuple (Array.mk [Value.int IntKind.i64 (Int.ofNat 0), Value.int IntKind.i64 (Int.ofNat 0), Value.int IntKind.i64 (Int.ofNat 2)])) (AW.mk 0 Tr.nil Tr.nil) else bif decide (Int.ofNat len > 0) then bif decide (0 ≤ IntKind.wrap IntKind.i64 (Int.ofNat len - Int.ofNat 1)) then bif Nat.blt (Int.toNat (IntKind.wrap IntKind.i64 (Int.ofNat len - Int.ofNat 1))) len then Option.casesOn (r b (Nat.add off (Nat.mul (Int.toNat (IntKind.wrap IntKind.i64 (Int.ofNat len - Int.ofNat 1))) 1))) (CR.fail 423) fun val => bif isI IntKind.i64 val then bif ofI val == Int.ofNat 1 then CR.ret (Value.tuple (Array.mk [Value.int IntKind.i64 (Int.ofNat 0), Value.int IntKind.i64 (Int.ofNat 0), Value.int IntKind.i64 (Int.ofNat 1)])) (AW.mk 0 Tr.nil Tr.nil) else bif m_at [Value.func (Fn.yield 5) (Array.mk []) (Array.mk []), Value.pointer (some (Addr.mk 3 0 none))] [Value.func (Fn.yield 5) (Array.mk []) (Array.mk []), Value.pointer (some (Addr.mk 3 0 none))] (AW.mk 6 (Tr.node (Tr.node (Tr.node Tr.nil (some (AObj.cells [Value.slice (some (Addr.mk b off (some 0))) len cap] 42 3 0)) Tr.nil) (some (AObj.cells [Value.bool false] 4 1 0)) (Tr.node Tr.nil (some (AObj.loop LoopState.ready none 16777309 (En.mk [(22, Value.func (Fn.func 90) (Array.mk []) (Array.mk [Value.pointer (some (Addr.mk 3 0 none))])), (21, Value.slice (some (Addr.mk b off (some 0))) len cap)] (Tr.node (Tr.node (Tr.node Tr.nil (some (Value.pointer (some (Addr.mk 1 0 none)))) Tr.nil) none Tr.nil) (some (Value.slice (some (Addr.mk b off (some 0))) len cap)) (Tr.node (Tr.node Tr.nil (some (Value.pointer (some (Addr.mk 2 0 none)))) Tr.nil) (some (Value.pointer (some (Addr.mk 0 0 none)))) Tr.nil))) 49 (Array.mk [23, 24]) k_ftA k_ftB 4)) Tr.nil)) (some (AObj.cells [Value.int IntKind.i64 (Int.ofNat 0), Value.int IntKind.i64 (Int.ofNat 0)] 74 0 0)) (Tr.node (Tr.node Tr.nil (some AObj.defd) Tr.nil) (some (AObj.cells [Value.int IntKind.i64 (Int.ofNat 1), Value.int IntKind.i64 (Int.ofNat 0)] 74 2 0)) Tr.nil)) Tr.nil) (AW.mk 6 (Tr.node (Tr.node (Tr.node Tr.nil (some (AObj.cells [Value.slice (some (Addr.mk b off (some 0))) len cap] 42 3 0)) Tr.nil) (some (AObj.cells [Value.bool false] 4 1 0)) (Tr.node Tr.nil (some (AObj.loop LoopState.ready none 16777309 (En.mk [(22, Value.func (Fn.func 90) (Array.mk []) (Array.mk [Value.pointer (some (Addr.mk 3 0 none))])), (21, Value.slice (some (Addr.mk b off (some 0))) len cap)] (Tr.node (Tr.node (Tr.node Tr.nil (some (Value.pointer (some (Addr.mk 1 0 none)))) Tr.nil) none Tr.nil) (some (Value.slice (some (Addr.mk b off (some 0))) len cap)) (Tr.node (Tr.node Tr.nil (some (Value.pointer (some (Addr.mk 2 0 none)))) Tr.nil) (some (Value.pointer (some (Addr.mk 0 0 none)))) Tr.nil))) 49 (Array.mk [23, 24]) k_ftA k_ftB 4)) Tr.nil)) (some (AObj.cells [Value.int IntKind.i64 (Int.ofNat 0), Value.int IntKind.i64 (Int.ofNat 0)] 74 0 0)) (Tr.node (Tr.node Tr.nil (some AObj.defd) Tr.nil) (some (AObj.cells [Value.int IntKind.i64 (Int.ofNat 1), Value.int IntKind.i64 (Int.ofNat 0)] 74 2 0)) Tr.nil)) Tr.nil) then CR.ret (Value.tuple (Array.mk [Value.int IntKind.i64 (Int.ofNat 0), Value.int IntKind.i64 (Int.ofNat 0), Value.int IntKind.i64 (Int.ofNat 1)])) (AW.mk 0 Tr.nil Tr.nil) else CR.fail 420 else CR.fail 420 else CR.fail 420 else CR.fail 420 else bif m_at [Value.func (Fn.yield 5) (Array.mk []) (Array.mk []), Value.pointer (some (Addr.mk 3 0 none))] [Value.func (Fn.yield 5) (Array.mk []) (Array.mk []), Value.pointer (some (Addr.mk 3 0 none))] (AW.mk 6 (Tr.node (Tr.node (Tr.node Tr.nil (some (AObj.cells [Value.slice (some (Addr.mk b off (some 0))) len cap] 42 3 0)) Tr.nil) (some (AObj.cells [Value.bool false] 4 1 0)) (Tr.node Tr.nil (some (AObj.loop LoopState.ready none 16777309 (En.mk [(22, Value.func (Fn.func 90) (Array.mk []) (Array.mk [Value.pointer (some (Addr.mk 3 0 none))])), (21, Value.slice (some (Addr.mk b off (some 0))) len cap)] (Tr.node (Tr.node (Tr.node Tr.nil (some (Value.pointer (some (Addr.mk 1 0 none)))) Tr.nil) none Tr.nil) (some (Value.slice (some (Addr.mk b off (some 0))) len cap)) (Tr.node (Tr.node Tr.nil (some (Value.pointer (some (Addr.mk 2 0 none)))) Tr.nil) (some (Value.pointer (some (Addr.mk 0 0 none)))) Tr.nil))) 49 (Array.mk [23, 24]) k_ftA k_ftB 4)) Tr.nil)) (some (AObj.cells [Value.int IntKind.i64 (Int.ofNat 0), Value.int IntKind.i64 (Int.ofNat 0)] 74 0 0)) (Tr.node (Tr.node Tr.nil (some AObj.defd) Tr.nil) (some (AObj.cells [Value.int IntKind.i64 (Int.ofNat 1), Value.int IntKind.i64 (Int.ofNat 0)] 74 2 0)) Tr.nil)) Tr.nil) (AW.mk 6 (Tr.node (Tr.node (Tr.node Tr.nil (some (AObj.cells [Value.slice (some (Addr.mk b off (some 0))) len cap] 42 3 0)) Tr.nil) (some (AObj.cells [Value.bool false] 4 1 0)) (Tr.node Tr.nil (some (AObj.loop LoopState.ready none 16777309 (En.mk [(22, Value.func (Fn.func 90) (Array.mk []) (Array.mk [Value.pointer (some (Addr.mk 3 0 none))])), (21, Value.slice (some (Addr.mk b off (some 0))) len cap)] (Tr.node (Tr.node (Tr.node Tr.nil (some (Value.pointer (some (Addr.mk 1 0 none)))) Tr.nil) none Tr.nil) (some (Value.slice (some (Addr.mk b off (some 0))) len cap)) (Tr.node (Tr.node Tr.nil (some (Value.pointer (some (Addr.mk 2 0 none)))) Tr.nil) (some (Value.pointer (some (Addr.mk 0 0 none)))) Tr.nil))) 49 (Array.mk [23, 24]) k_ftA k_ftB 4)) Tr.nil)) (some (AObj.cells [Value.int IntKind.i64 (Int.ofNat 0), Value.int IntKind.i64 (Int.ofNat 0)] 74 0 0)) (Tr.node (Tr.node Tr.nil (some AObj.defd) Tr.nil) (some (AObj.cells [Value.int IntKind.i64 (Int.ofNat 1), Value.int IntKind.i64 (Int.ofNat 0)] 74 2 0)) Tr.nil)) Tr.nil) then CR.ret (Value.tuple (Array.mk [Value.int IntKind.i64 (Int.ofNat 0), Value.int IntKind.i64 (Int.ofNat 0), Value.int IntKind.i64 (Int.ofNat 1)])) (AW.mk 0 Tr.nil Tr.nil) else CR.fail 420 := by kernel_rfl

end Go.Proofs

/- Closings: the numbers. -/
namespace Go.Num
open Go.Proofs

theorem gcd_rest (p q : Int) : Int.gcd (p % q) q = Int.gcd p q := by
  have e := Int.emod_add_mul_ediv p q
  have : p % q = p + (-(p / q)) * q := by grind
  rw [this, Int.gcd_add_mul_right_left]

def nbV (p q : Int) : Int := if q = 0 then -1 else -inv (p % q) q
def nbU (p q : Int) : Int := if q = 0 then 0 else (1 + p * nbV p q).tdiv q

theorem exact {a q : Int} (h : q ∣ a) (hq : q ≠ 0) : q * a.tdiv q = a := by
  obtain ⟨k, rfl⟩ := h
  rw [Int.mul_tdiv_cancel_left _ hq]

theorem nb_dvd {p q : Int} (hq : 0 < q) (hg : Int.gcd p q = 1) : q ∣ 1 + p * nbV p q := by
  have hd := inv_dvd (Int.emod_nonneg p (show q ≠ 0 by omega)) hq (by rw [gcd_rest]; exact hg)
  have e := Int.emod_add_mul_ediv p q
  unfold nbV
  rw [if_neg (show ¬ q = 0 by omega)]
  obtain ⟨k, hk⟩ := hd
  exact ⟨-k - (p / q) * inv (p % q) q, by grind⟩

theorem nb_spec {p q : Int} (hf : frac p q = true) : q * nbU p q - p * nbV p q = 1 := by
  rw [frac_iff] at hf
  rcases hf with ⟨rfl, rfl⟩ | ⟨h1, h2⟩
  · rfl
  · have := exact (nb_dvd h1 h2) (show q ≠ 0 by omega)
    unfold nbU
    rw [if_neg (show ¬ q = 0 by omega)]
    omega

theorem bez_spec {p q : Int} (hf : frac p q = true) : q * bezU p q - p * bezV p q = 1 := by
  rw [frac_iff] at hf
  rcases hf with ⟨rfl, rfl⟩ | ⟨h1, h2⟩
  · rfl
  · have := exact (bezV_spec h1 h2).1 (show q ≠ 0 by omega)
    unfold bezU
    rw [if_neg (show ¬ q = 0 by omega)]
    omega

/-- Small numbers, and what they leave small. -/
theorem mul_small {a b A B : Int} (h1 : -A ≤ a) (h2 : a ≤ A) (h3 : -B ≤ b) (h4 : b ≤ B) : -(A * B) ≤ a * b ∧ a * b ≤ A * B := by
  have hA : 0 ≤ A := by omega
  have hB : 0 ≤ B := by omega
  have : (a * b).natAbs ≤ (A * B).natAbs := by
    rw [Int.natAbs_mul, Int.natAbs_mul]
    exact Nat.mul_le_mul (by omega) (by omega)
  have := Int.mul_nonneg hA hB
  omega

theorem tdiv_small {a q B : Int} (h1 : -B ≤ a) (h2 : a ≤ B) : -B ≤ a.tdiv q ∧ a.tdiv q ≤ B := by
  have := Int.natAbs_tdiv_le_natAbs a q
  omega

theorem nbV_small {p q : Int} (hq : 0 ≤ q) (h : q ≤ 500) : -500 ≤ nbV p q ∧ nbV p q ≤ 0 := by
  unfold nbV
  split
  · omega
  · have := inv_nonneg (p % q) (show 0 < q by omega)
    have := inv_lt (p % q) (show 0 < q by omega)
    omega

theorem nbU_small {p q : Int} (hp : -500 ≤ p) (hp' : p ≤ 500) (hq : 0 ≤ q) (h : q ≤ 500) : -250001 ≤ nbU p q ∧ nbU p q ≤ 250001 := by
  unfold nbU
  split
  · omega
  · obtain ⟨a, b⟩ := nbV_small (p := p) hq h
    obtain ⟨c, d⟩ := mul_small (A := 500) (B := 500) (by omega) hp' (by omega) (by omega : nbV p q ≤ 500)
    exact tdiv_small (by omega) (by omega)

theorem bezV_small {p q : Int} (hq : 0 ≤ q) (h : q ≤ 500) (hp : -500 ≤ p) (hp' : p ≤ 500) : -500 ≤ bezV p q ∧ bezV p q ≤ 500 := by
  unfold bezV
  split
  · omega
  · have := inv_nonneg ((-p) % q) (show 0 < q by omega)
    have := inv_lt ((-p) % q) (show 0 < q by omega)
    omega

theorem bezU_small {p q : Int} (hp : -500 ≤ p) (hp' : p ≤ 500) (hq : 0 ≤ q) (h : q ≤ 500) : -250001 ≤ bezU p q ∧ bezU p q ≤ 250001 := by
  unfold bezU
  split
  · omega
  · obtain ⟨a, b⟩ := bezV_small hq h hp hp'
    obtain ⟨c, d⟩ := mul_small (A := 500) (B := 500) (by omega) hp' (by omega) b
    exact tdiv_small (by omega) (by omega)

/-- The number of the closing, and its rest. -/
def closeN (p q u v : Int) : Int := p * v + q * u
def absN (n : Int) : Int := if n < 0 then -n else n
def closeR (n m : Int) : Int := (if n < 0 then -m else m) % absN n

theorem absN_pos {n : Int} (h : n ≠ 0) : 0 < absN n := by unfold absN; split <;> omega
theorem closeR_nonneg {n m : Int} (h : n ≠ 0) : 0 ≤ closeR n m := Int.emod_nonneg _ (by have := absN_pos h; omega)
theorem closeR_lt {n m : Int} (h : n ≠ 0) : closeR n m < absN n := Int.emod_lt_of_pos _ (absN_pos h)

theorem closeR_gcd {n m : Int} (h : Int.gcd n m = 1) : Int.gcd (closeR n m) (absN n) = 1 := by
  unfold closeR absN
  rw [gcd_rest]
  split
  · rw [Int.neg_gcd, Int.gcd_neg, Int.gcd_comm]; exact h
  · rw [Int.gcd_comm]; exact h

theorem closeR_any {n m m' : Int} (h : n ∣ m - m') : closeR n m = closeR n m' := by
  unfold closeR absN
  obtain ⟨k, hk⟩ := h
  split
  · exact rest_same ⟨k, by grind⟩
  · exact rest_same ⟨k, hk⟩

/-- The second number of the closing. -/
def closeZ (p q u v : Int) : Int := fst (absN (closeN p q u v)) (closeR (closeN p q u v) (p * nbV u v + q * nbU u v))

theorem cl_bez {p q u v : Int} (hf : frac u v = true) : closeR (closeN p q u v) (p * bezV u v + q * bezU u v) = closeR (closeN p q u v) (p * nbV u v + q * nbU u v) := by
  by_cases hv : v = 0
  · subst hv
    have : u = 1 := by rw [frac_iff] at hf; omega
    subst this
    rfl
  · exact closeR_any (close_any (bez_spec hf) (nb_spec hf) hv)

theorem cl_gcd {p q u v : Int} (hf : frac p q = true) (hg : frac u v = true) : Int.gcd (closeR (closeN p q u v) (p * nbV u v + q * nbU u v)) (absN (closeN p q u v)) = 1 := by
  refine closeR_gcd (close_gcd (nb_spec hg) ?_)
  rw [frac_iff] at hf
  rcases hf with ⟨rfl, rfl⟩ | ⟨_, h⟩
  · rfl
  · exact h

end Go.Num

/- The link of terms: what the call answers. -/
namespace Go.Num

/-- The numbers of a row, taken from the last one: whether all are terms, and how far it went. -/
def ftM (z : Nat → Int) : Nat → Int → Int → Bool × Int × Int
  | 0, P, Q => (true, P, Q)
  | n + 1, P, Q => if z n < 1 ∨ z n > (1000000 - Q).tdiv P then (false, P, Q) else ftM z n (z n * P + Q) P

theorem ft_next {t P Q : Int} (hP : 1 ≤ P) (hP2 : P ≤ 1000000) (hQ : 0 ≤ Q) (hQ2 : Q ≤ 1000000) (h : ¬ (t < 1 ∨ t > (1000000 - Q).tdiv P)) : 1 ≤ t * P + Q ∧ t * P + Q ≤ 1000000 ∧ 1 ≤ t * P ∧ t ≤ 1000000 := by
  have ht : 1 ≤ t := by omega
  have ht2 : t ≤ (1000000 - Q).tdiv P := by omega
  have e := Int.tdiv_mul_add_tmod (1000000 - Q) P
  have hr := Int.tmod_nonneg P (show 0 ≤ 1000000 - Q by omega)
  have hm : t * P ≤ (1000000 - Q).tdiv P * P := Int.mul_le_mul_of_nonneg_right ht2 (by omega)
  have h1 := le_mul1 (show 0 ≤ t by omega) hP
  omega

theorem ftM_bounds (z : Nat → Int) : ∀ (n : Nat) (P Q : Int), 1 ≤ P → P ≤ 1000000 → 0 ≤ Q → Q ≤ 1000000 → 1 ≤ (ftM z n P Q).2.1 ∧ (ftM z n P Q).2.1 ≤ 1000000 ∧ 0 ≤ (ftM z n P Q).2.2 ∧ (ftM z n P Q).2.2 ≤ 1000000 := by
  intro n
  induction n with
  | zero => intro P Q a b c d; exact ⟨a, b, c, d⟩
  | succ n ih =>
    intro P Q a b c d
    rw [ftM]
    split
    · exact ⟨a, b, c, d⟩
    · rename_i h
      obtain ⟨e1, e2, _⟩ := ft_next a b c d h
      exact ih _ _ e1 e2 (by omega) b

end Go.Num
namespace Go.Proofs
open Go Go.Ev Go.Num

theorem bk_loop (r : Mem) (tm : Tr Nat) (L : Nat) (kx : Nat → KS) (kr : KS) (ms : List Nat) (b off len cap : Nat) (z : Nat → Int) (hm : ∀ j, j < len → r b (off + j) = some (I (z j))) (hl : len ≤ 9223372036854775807) (R : CR) :
    ∀ (j n : Nat) (P Q : Int) (s : List (Nat × Value)), n < j → n ≤ len → 1 ≤ P → P ≤ 1000000 → 0 ≤ Q → Q ≤ 1000000 →
    (∀ s i, (ftM z n P Q).1 = true → kx 0 s (TBk i) ms (AFt (ftM z n P Q).2.1 (ftM z n P Q).2.2 b off len cap) = R) →
    (∀ s i, (ftM z n P Q).1 = false → kr s (TBk i) ms (AFs (ftM z n P Q).2.1 (ftM z n P Q).2.2 b off len cap) = R) →
    cLoop (fun kl => run (SC r) 11 19 L (ic (ic (rc cBk))) (lvlT (SC r) (fun _ => none) tm L 1) none kl kx kr) j s (TBk ((n : Int) - 1)) ms (AFt P Q b off len cap) = R := by
  intro j
  induction j with
  | zero => intro n P Q s h; omega
  | succ j ih =>
    intro n P Q s h hn a1 a2 a3 a4 hx hr
    rw [cLoop_succ, ftB]
    cases n with
    | zero =>
      have h0 : ¬ (((0 : Nat) : Int) - 1 ≥ 0) := by omega
      simp only [dF h0, cond_false]
      exact hx _ _ rfl
    | succ n =>
      have e : (((n + 1 : Nat) : Int) - 1) = (n : Int) := by omega
      rw [e]
      have h0 : ((n : Int) ≥ 0) := by omega
      have h0' : 0 ≤ (n : Int) := by omega
      have hlt : Nat.blt n len = true := Nat.ble_eq_true_of_le (by omega)
      have hP0 : ¬ P = 0 := by omega
      have w0 : IntKind.wrap IntKind.i64 ((n : Int) - Int.ofNat 1) = (n : Int) - 1 := wrI (by simp; omega)
      have w1 : IntKind.wrap IntKind.i64 (Int.ofNat 1000000 - Q) = 1000000 - Q := wrI (by simp; omega)
      obtain ⟨t1, t2⟩ := tdiv_small (a := 1000000 - Q) (q := P) (B := 1000000) (by omega) (by omega)
      have w2 : IntKind.wrap IntKind.i64 ((1000000 - Q).tdiv P) = (1000000 - Q).tdiv P := wrI (by omega)
      simp only [dT h0, dT h0', cond_true, Int.toNat_natCast, hlt, Nat.add_eq, Nat.mul_eq, Nat.mul_one, hm n (by omega), isI, ofI, decide_true, dF hP0, Bool.not_false, w0, w1, w2]
      rw [ftM] at hx hr
      by_cases c1 : z n < 1
      · rw [if_pos (.inl c1)] at hr
        simp only [c1, decide_true, cond_true]
        exact hr _ _ rfl
      · by_cases c2 : z n > (1000000 - Q).tdiv P
        · rw [if_pos (.inr c2)] at hr
          simp only [c1, c2, decide_true, decide_false, cond_true, cond_false]
          exact hr _ _ rfl
        · have c : ¬ (z n < 1 ∨ z n > (1000000 - Q).tdiv P) := by omega
          rw [if_neg c] at hx hr
          obtain ⟨b1, b2, b3, b4⟩ := ft_next a1 a2 a3 a4 c
          have w3 : IntKind.wrap IntKind.i64 (z n * P) = z n * P := wrI (by omega)
          have w4 : IntKind.wrap IntKind.i64 (z n * P + Q) = z n * P + Q := wrI (by omega)
          simp only [c1, c2, decide_false, cond_false, w3, w4]
          exact ih n _ _ _ (by omega) (by omega) b1 b2 (by omega) a2 hx hr

theorem cBk_eq : cBk = .seq (lc cBk) (.block 0 (.loop (ic (ic (rc cBk))))) := by kernel_rfl

theorem bk_run (r : Mem) (b off len cap : Nat) (z : Nat → Int) (hm : ∀ j, j < len → r b (off + j) = some (I (z j))) (hl : len ≤ 9223372036854775807) :
    ∃ L d, (lvlT (SC r) (fun _ => none) (Tr.nil.put 90 (some 11)) L d).call 90 yF (AFt 1 0 b off len cap) .ret =
      .ret (.tuple ⟨[]⟩) (match (ftM z len 1 0).1 with | true => AFt (ftM z len 1 0).2.1 (ftM z len 1 0).2.2 b off len cap | false => AFs (ftM z len 1 0).2.1 (ftM z len 1 0).2.2 b off len cap) := ⟨len + 1, 2, by
  rw [enterN (m := 11) (n := 19) (rs := []) cBk rfl (by kernel_rfl) (by kernel_rfl) (by kernel_rfl) (by kernel_rfl) (by kernel_rfl) rfl]
  rw [cBk_eq, run_while0]
  refine (ftA r _ _ 1 0 b off len cap _ _ _ _).trans ?_
  have w0 : IntKind.wrap IntKind.i64 (Int.ofNat len - Int.ofNat 1) = (len : Int) - 1 := wrI (by simp; omega)
  rw [w0]
  refine (show _ = _ from bk_loop r _ _ _ _ _ b off len cap z hm hl _ (len + 1) len 1 0 _ (by omega) (by omega) (by omega) (by omega) (by omega) (by omega) (fun s i hc => ?_) (fun s i hc => ?_))
  · rw [hc]
    rfl
  · rw [hc]
    rfl⟩

/- What FromTerms answers. -/
def m_ftE (z : Nat → Int) (len : Nat) : Int := if len > 60 then 2 else if 0 < len ∧ z (len - 1) = 1 then 1 else if (ftM z len 1 0).1 = true then 0 else 1
def m_ftX (z : Nat → Int) (len : Nat) : Int := if m_ftE z len = 0 then (ftM z len 1 0).2.1 else 0
def m_ftY (z : Nat → Int) (len : Nat) : Int := if m_ftE z len = 0 then (ftM z len 1 0).2.2 else 0

theorem fromTerms_ok (r : Mem) (b off len cap : Nat) (z : Nat → Int) (hm : ∀ j, j < len → r b (off + j) = some (I (z j))) (hl : len ≤ 9223372036854775807) :
    GrT Tryd.prog r 37 [RS b off len cap] (.tuple ⟨[I (m_ftX z len), I (m_ftY z len), I (m_ftE z len)]⟩) := by
  have hrun := bk_run r b off len cap z hm hl
  have ld : 0 < len → r b (off + (len - 1)) = some (I (z (len - 1))) := fun h => hm _ (by omega)
  cases hf : (ftM z len 1 0).1 with
  | true =>
    rw [hf] at hrun
    refine GrT.of (SC_ok r) (show TOk (SC r) (tFtY b off len cap (ftM z len 1 0).2.1 (ftM z len 1 0).2.2) from TOk.cons TOk.nil (entAt_run (SC_ok r) TOk.nil _ hrun)) mskFt rfl ⟨8, 6, ?_⟩
    rw [ftY]
    simp only [at_rfl, cond_true]
    by_cases c1 : len > 60
    · have c1' : Int.ofNat len > 60 := by simp; omega
      have e : m_ftE z len = 2 := by unfold m_ftE; rw [if_pos c1]
      have ex : m_ftX z len = 0 := by unfold m_ftX; rw [e]; rfl
      have ey : m_ftY z len = 0 := by unfold m_ftY; rw [e]; rfl
      rw [e, ex, ey]
      simp only [dT c1', cond_true]
      rfl
    · have c1' : ¬ Int.ofNat len > 60 := by simp; omega
      simp only [dF c1', cond_false]
      by_cases c2 : 0 < len
      · have c2' : Int.ofNat len > 0 := by simp; omega
        have w0 : IntKind.wrap IntKind.i64 (Int.ofNat len - Int.ofNat 1) = ((len - 1 : Nat) : Int) := by rw [wrI (by simp; omega)]; simp; omega
        have g1 : 0 ≤ ((len - 1 : Nat) : Int) := by omega
        have g2 : Nat.blt (len - 1) len = true := Nat.ble_eq_true_of_le (by omega)
        simp only [dT c2', cond_true, w0, dT g1, Int.toNat_natCast, g2, Nat.add_eq, Nat.mul_eq, Nat.mul_one, ld c2, isI, ofI, decide_true]
        by_cases c3 : z (len - 1) = 1
        · have e : m_ftE z len = 1 := by unfold m_ftE; rw [if_neg c1, if_pos ⟨c2, c3⟩]
          have ex : m_ftX z len = 0 := by unfold m_ftX; rw [e]; rfl
          have ey : m_ftY z len = 0 := by unfold m_ftY; rw [e]; rfl
          rw [e, ex, ey]
          simp only [eqT (show z (len - 1) = Int.ofNat 1 from c3), cond_true]
          rfl
        · have e : m_ftE z len = 0 := by unfold m_ftE; rw [if_neg c1, if_neg (by omega), if_pos hf]
          have ex : m_ftX z len = (ftM z len 1 0).2.1 := by unfold m_ftX; rw [if_pos e]
          have ey : m_ftY z len = (ftM z len 1 0).2.2 := by unfold m_ftY; rw [if_pos e]
          rw [e, ex, ey]
          simp only [eqF (show z (len - 1) ≠ Int.ofNat 1 from c3), cond_false]
          rfl
      · have c2' : ¬ Int.ofNat len > 0 := by simp; omega
        have e : m_ftE z len = 0 := by unfold m_ftE; rw [if_neg c1, if_neg (by omega), if_pos hf]
        have ex : m_ftX z len = (ftM z len 1 0).2.1 := by unfold m_ftX; rw [if_pos e]
        have ey : m_ftY z len = (ftM z len 1 0).2.2 := by unfold m_ftY; rw [if_pos e]
        rw [e, ex, ey]
        simp only [dF c2', cond_false]
        rfl
  | false =>
    rw [hf] at hrun
    have hne : ¬ (ftM z len 1 0).1 = true := by rw [hf]; decide
    refine GrT.of (SC_ok r) (show TOk (SC r) (tFtN b off len cap (ftM z len 1 0).2.1 (ftM z len 1 0).2.2) from TOk.cons TOk.nil (entAt_run (SC_ok r) TOk.nil _ hrun)) mskFt rfl ⟨8, 6, ?_⟩
    rw [ftN]
    simp only [at_rfl, cond_true]
    by_cases c1 : len > 60
    · have c1' : Int.ofNat len > 60 := by simp; omega
      have e : m_ftE z len = 2 := by unfold m_ftE; rw [if_pos c1]
      have ex : m_ftX z len = 0 := by unfold m_ftX; rw [e]; rfl
      have ey : m_ftY z len = 0 := by unfold m_ftY; rw [e]; rfl
      rw [e, ex, ey]
      simp only [dT c1', cond_true]
      rfl
    · have c1' : ¬ Int.ofNat len > 60 := by simp; omega
      have e : m_ftE z len = 1 := by unfold m_ftE; rw [if_neg c1, if_neg hne]; split <;> rfl
      have ex : m_ftX z len = 0 := by unfold m_ftX; rw [e]; rfl
      have ey : m_ftY z len = 0 := by unfold m_ftY; rw [e]; rfl
      rw [e, ex, ey]
      simp only [dF c1', cond_false]
      by_cases c2 : 0 < len
      · have c2' : Int.ofNat len > 0 := by simp; omega
        have w0 : IntKind.wrap IntKind.i64 (Int.ofNat len - Int.ofNat 1) = ((len - 1 : Nat) : Int) := by rw [wrI (by simp; omega)]; simp; omega
        have g1 : 0 ≤ ((len - 1 : Nat) : Int) := by omega
        have g2 : Nat.blt (len - 1) len = true := Nat.ble_eq_true_of_le (by omega)
        simp only [dT c2', cond_true, w0, dT g1, Int.toNat_natCast, g2, Nat.add_eq, Nat.mul_eq, Nat.mul_one, ld c2, isI, ofI, decide_true]
        cases (z (len - 1) == Int.ofNat 1) <;> rfl
      · have c2' : ¬ Int.ofNat len > 0 := by simp; omega
        simp only [dF c2', cond_false]
        rfl

end Go.Proofs

/- Rows of terms and the links that they make: reversed rows, sums, lengths. -/
namespace Go.Num

/-- The link of a row of terms. -/
def ftL : List Int → Int × Int
  | [] => (1, 0)
  | t :: us => (t * (ftL us).1 + (ftL us).2, (ftL us).1)

def lsum : List Int → Int
  | [] => 0
  | t :: us => t + lsum us

theorem lsum_append (a b : List Int) : lsum (a ++ b) = lsum a + lsum b := by
  induction a with
  | nil => simp [lsum]
  | cons x a ih => simp only [List.cons_append, lsum, ih]; omega

theorem lsum_reverse (a : List Int) : lsum a.reverse = lsum a := by
  induction a with
  | nil => rfl
  | cons x a ih => simp only [List.reverse_cons, lsum_append, lsum, ih]; omega

theorem ftL_terms : ∀ a b : Int, 0 ≤ b → b ≤ a → Int.gcd a b = 1 → ftL (terms a b) = (a, b) := by
  intro a b
  induction a, b using terms.induct with
  | case1 a b h ih =>
    intro hb hba hg
    obtain ⟨h0, h1, h2, h3, h4, h5⟩ := tdm (show 0 ≤ a by omega) h
    rw [terms, dif_pos h, ftL, ih h1 (by omega) (by rw [gcd_tmod]; exact hg)]
    simp only [h5]
  | case2 a b h =>
    intro hb hba hg
    have : b = 0 := by omega
    subst this
    rw [terms, dif_neg h, ftL]
    simp at hg
    have : a = 1 := by omega
    rw [this]

theorem lsum_terms : ∀ a b : Int, lsum (terms a b) = csum a b := by
  intro a b
  induction a, b using terms.induct with
  | case1 a b h ih => rw [terms, dif_pos h, csum, dif_pos h, lsum, ih]
  | case2 a b h => rw [terms, dif_neg h, csum, dif_neg h, lsum]

theorem terms_pos : ∀ a b : Int, 0 ≤ b → b ≤ a → ∀ t ∈ terms a b, 1 ≤ t := by
  intro a b
  induction a, b using terms.induct with
  | case1 a b h ih =>
    intro hb hba t ht
    obtain ⟨h0, h1, h2, h3, h4, h5⟩ := tdm (show 0 ≤ a by omega) h
    rw [terms, dif_pos h] at ht
    rcases List.mem_cons.1 ht with rfl | ht
    · by_cases c : 1 ≤ a.tdiv b
      · exact c
      · have : a.tdiv b = 0 := by omega
        rw [this] at h5
        omega
    · exact ih h1 (by omega) t ht
  | case2 a b h =>
    intro hb hba t ht
    rw [terms, dif_neg h] at ht
    cases ht

/-- What is true of the link of a row of numbers greater than 0. -/
theorem ftL_pos : ∀ us : List Int, (∀ t ∈ us, 1 ≤ t) → 1 ≤ (ftL us).1 ∧ 0 ≤ (ftL us).2 ∧ (ftL us).2 ≤ (ftL us).1 := by
  intro us
  induction us with
  | nil => intro _; simp [ftL]
  | cons t us ih =>
    intro h
    obtain ⟨a, b, c⟩ := ih fun x hx => h x (List.mem_cons_of_mem _ hx)
    have ht := h t (List.mem_cons_self ..)
    have hm := le_mul1 (show 0 ≤ (ftL us).1 by omega) ht
    have e : t * (ftL us).1 = (ftL us).1 * t := Int.mul_comm _ _
    simp only [ftL]
    omega

theorem ftL_one : ∀ us : List Int, (∀ t ∈ us, 1 ≤ t) → (ftL us).2 = (ftL us).1 → us = [1] := by
  intro us h hq
  cases us with
  | nil => simp [ftL] at hq
  | cons t us =>
    obtain ⟨a, b, c⟩ := ftL_pos us fun x hx => h x (List.mem_cons_of_mem _ hx)
    have ht := h t (List.mem_cons_self ..)
    have hm := le_mul1 (show 0 ≤ (ftL us).1 by omega) ht
    have e : t * (ftL us).1 = (ftL us).1 * t := Int.mul_comm _ _
    simp only [ftL] at hq
    have ht1 : t = 1 := by
      by_cases c1 : t = 1
      · exact c1
      · have := Int.mul_le_mul_of_nonneg_right (show (2:Int) ≤ t by omega) (show 0 ≤ (ftL us).1 by omega)
        omega
    have hz : (ftL us).2 = 0 := by subst ht1; omega
    cases us with
    | nil => rw [ht1]
    | cons u us =>
      obtain ⟨a', _, _⟩ := ftL_pos us fun x hx => h x (by simp [hx])
      simp only [ftL] at hz
      omega

/-- The sum of the terms of a row's link is that of the row. -/
theorem csum_ftL : ∀ us : List Int, (∀ t ∈ us, 1 ≤ t) → csum (ftL us).1 (ftL us).2 = lsum us := by
  intro us
  induction us with
  | nil => intro _; rw [csum, dif_neg (by simp [ftL])]; rfl
  | cons t us ih =>
    intro h
    have hp := ftL_pos us fun x hx => h x (List.mem_cons_of_mem _ hx)
    have ih := ih fun x hx => h x (List.mem_cons_of_mem _ hx)
    have ho := ftL_one us fun x hx => h x (List.mem_cons_of_mem _ hx)
    have ht := h t (List.mem_cons_self ..)
    simp only [ftL, lsum]
    generalize hP : (ftL us).1 = P at *
    generalize hQ : (ftL us).2 = Q at *
    obtain ⟨a, b, c⟩ := hp
    rw [csum, dif_pos (show P > 0 by omega)]
    by_cases e : Q = P
    · have hu := ho e
      subst hu
      simp only [ftL] at hP hQ
      subst hP hQ
      simp only [Int.mul_one, Int.add_zero, lsum] at *
      rw [csum]
      have : ¬ (t + 1).tmod (1 * 1 + 0) > 0 := by simp
      simp
    · have hQP : Q < P := by omega
      have hm : 0 ≤ t * P := Int.mul_nonneg (by omega) (by omega)
      have e1 : (t * P + Q).tmod P = Q := by
        rw [Int.tmod_eq_emod_of_nonneg (by omega), Int.add_comm, Int.add_mul_emod_self_right, Int.emod_eq_of_lt b hQP]
      have e2 : (t * P + Q).tdiv P = t := by
        have h3 := Int.tdiv_mul_add_tmod (t * P + Q) P
        rw [e1] at h3
        have h4 : (t * P + Q).tdiv P * P = t * P := by omega
        exact Int.eq_of_mul_eq_mul_right (by omega) h4
      rw [e1, e2, ih]

/- Rows as matrices of two by two. -/
structure Mat where
  a : Int
  b : Int
  c : Int
  d : Int

def mat : List Int → Mat
  | [] => ⟨1, 0, 0, 1⟩
  | t :: us => ⟨t * (mat us).a + (mat us).c, t * (mat us).b + (mat us).d, (mat us).a, (mat us).b⟩

theorem mat_ftL (us : List Int) : (mat us).a = (ftL us).1 ∧ (mat us).c = (ftL us).2 := by
  induction us with
  | nil => exact ⟨rfl, rfl⟩
  | cons t us ih => simp only [mat, ftL, ih.1, ih.2]; exact ⟨trivial, trivial⟩

theorem mat_append (us : List Int) (t : Int) : mat (us ++ [t]) = ⟨(mat us).a * t + (mat us).b, (mat us).a, (mat us).c * t + (mat us).d, (mat us).c⟩ := by
  induction us with
  | nil => simp [mat]
  | cons u us ih =>
    simp only [List.cons_append, mat, ih, Mat.mk.injEq]
    refine ⟨by grind, by grind, trivial, trivial⟩

theorem mat_reverse (us : List Int) : mat us.reverse = ⟨(mat us).a, (mat us).c, (mat us).b, (mat us).d⟩ := by
  induction us with
  | nil => rfl
  | cons t us ih =>
    rw [List.reverse_cons, mat_append, ih]
    simp only [mat, Mat.mk.injEq]
    refine ⟨by grind, trivial, by grind, trivial⟩

theorem mat_det (us : List Int) : (mat us).a * (mat us).d - (mat us).b * (mat us).c = if us.length % 2 = 0 then 1 else -1 := by
  induction us with
  | nil => rfl
  | cons t us ih =>
    simp only [mat, List.length_cons]
    have e : (t * (mat us).a + (mat us).c) * (mat us).b - (t * (mat us).b + (mat us).d) * (mat us).a = -((mat us).a * (mat us).d - (mat us).b * (mat us).c) := by grind
    rw [e, ih]
    by_cases c : us.length % 2 = 0
    · rw [if_pos c, if_neg (by omega)]
    · rw [if_neg c, if_pos (by omega)]; rfl

/-- A row of an odd number of terms, reversed, makes the link with the inverse. -/
theorem ftL_reverse {us : List Int} (h : ∀ t ∈ us, 1 ≤ t) (ho : us.length % 2 = 1) (hp : 1 < (ftL us).1) : ftL us.reverse = ((ftL us).1, inv (ftL us).2 (ftL us).1) := by
  have hm := mat_reverse us
  have h1 := mat_ftL us.reverse
  have h2 := mat_ftL us
  rw [hm] at h1
  have hd := mat_det us
  rw [if_neg (by omega)] at hd
  obtain ⟨p1, p2, p3⟩ := ftL_pos us h
  have hr : ∀ t ∈ us.reverse, 1 ≤ t := fun t ht => h t (by simpa using ht)
  obtain ⟨r1, r2, r3⟩ := ftL_pos us.reverse hr
  simp only at h1
  have e1 : (ftL us.reverse).1 = (ftL us).1 := by rw [← h1.1, h2.1]
  have hdv : (ftL us).1 ∣ (ftL us).2 * (ftL us.reverse).2 - 1 := ⟨(mat us).d, by rw [← h1.2, ← h2.2, ← h2.1]; grind⟩
  have hg : Int.gcd (ftL us).2 (ftL us).1 = 1 := by
    rw [Int.gcd_eq_one_iff]
    intro c hc hc2
    obtain ⟨u, hu⟩ := hdv
    have e : (1:Int) = (ftL us).2 * (ftL us.reverse).2 - (ftL us).1 * u := by omega
    rw [e]
    exact Int.dvd_sub (Int.dvd_mul_of_dvd_left hc) (Int.dvd_mul_of_dvd_left hc2)
  have hlt : (ftL us.reverse).2 < (ftL us).1 := by
    by_cases c : (ftL us.reverse).2 = (ftL us.reverse).1
    · have := ftL_one _ hr c
      rw [this] at e1
      simp only [ftL] at e1
      omega
    · omega
  have := inv_only p2 (by omega) hg r2 hlt hdv
  rw [← this, ← e1]

theorem ftL_append (us : List Int) {vs ws : List Int} (h : ftL vs = ftL ws) : ftL (us ++ vs) = ftL (us ++ ws) := by
  induction us with
  | nil => exact h
  | cons t us ih => simp only [List.cons_append, ftL, ih]

/-- The last one of the terms is greater than 1. -/
theorem terms_last : ∀ a b : Int, 0 < b → b < a → Int.gcd a b = 1 → ∃ us t, terms a b = us ++ [t] ∧ 2 ≤ t := by
  intro a b
  induction a, b using terms.induct with
  | case1 a b h ih =>
    intro hb hba hg
    obtain ⟨h0, h1, h2, h3, h4, h5⟩ := tdm (show 0 ≤ a by omega) h
    rw [terms, dif_pos h]
    by_cases c : a.tmod b = 0
    · have hd : Int.gcd b (a.tmod b) = 1 := by rw [gcd_tmod]; exact hg
      rw [c] at hd
      simp at hd
      have hb1 : b = 1 := by omega
      subst hb1
      refine ⟨[], a.tdiv 1, ?_, ?_⟩
      · rw [c, terms, dif_neg (by omega)]; rfl
      · omega
    · obtain ⟨us, t, e, ht⟩ := ih (by omega) h2 (by rw [gcd_tmod]; exact hg)
      exact ⟨a.tdiv b :: us, t, by rw [e]; rfl, ht⟩
  | case2 a b h => intro hb; omega

/-- **Reversed links have the same sum.** -/
theorem csum_inv {p q : Int} (hq : 0 < q) (hqp : q < p) (hg : Int.gcd p q = 1) : csum p (inv q p) = csum p q := by
  have hp := terms_pos p q (by omega) (by omega)
  have hl := ftL_terms p q (by omega) (by omega) hg
  have hs := lsum_terms p q
  have key : ∀ us : List Int, (∀ t ∈ us, 1 ≤ t) → us.length % 2 = 1 → ftL us = (p, q) → lsum us = csum p q → csum p (inv q p) = csum p q := fun us h1 h2 h3 h4 => by
    have h5 := ftL_reverse h1 h2 (by rw [h3]; show 1 < p; omega)
    have h6 := csum_ftL us.reverse (fun t ht => h1 t (by simpa using ht))
    rw [h5, h3, lsum_reverse, h4] at h6
    exact h6
  by_cases c : (terms p q).length % 2 = 1
  · exact key _ hp c hl hs
  · obtain ⟨us, t, e, ht⟩ := terms_last p q hq hqp hg
    refine key (us ++ [t - 1, 1]) (fun x hx => ?_) ?_ ?_ ?_
    · rcases List.mem_append.1 hx with h | h
      · exact hp x (by rw [e]; exact List.mem_append_left _ h)
      · simp at h; omega
    · rw [e] at c
      simp only [List.length_append, List.length_cons, List.length_nil] at c ⊢
      omega
    · rw [← hl, e]
      refine ftL_append _ ?_
      simp only [ftL]
      simp
    · rw [← hs, e, lsum_append, lsum_append]
      simp [lsum]

/-- The mirror image has the same sum. -/
theorem csum_mirror {p q : Int} (hq : 0 < q) (hqp : q < p) (hg : Int.gcd p q = 1) (hp : 2 < p) : csum p (p - q) = csum p q := by
  have aux : ∀ q : Int, 0 < q → q < p - q → csum p (p - q) = csum p q := fun q h0 h1 => by
    have e1 : p.tdiv (p - q) = 1 ∧ p.tmod (p - q) = q := by
      have hm := Int.tdiv_mul_add_tmod p (p - q)
      obtain ⟨t0, t1, t2, t3, t4, t5⟩ := tdm (show 0 ≤ p by omega) (show 0 < p - q by omega)
      have : p.tdiv (p - q) = 1 := by
        by_cases c : p.tdiv (p - q) ≤ 0
        · have : p.tdiv (p - q) = 0 := by omega
          rw [this] at t5
          omega
        · by_cases c2 : 2 ≤ p.tdiv (p - q)
          · have := Int.mul_le_mul_of_nonneg_right c2 (show 0 ≤ p - q by omega)
            omega
          · omega
      rw [this] at t5
      exact ⟨this, by omega⟩
    have e2 : (p - q).tdiv q = p.tdiv q - 1 ∧ (p - q).tmod q = p.tmod q := by
      obtain ⟨t0, t1, t2, t3, t4, t5⟩ := tdm (show 0 ≤ p by omega) h0
      obtain ⟨s0, s1, s2, s3, s4, s5⟩ := tdm (show 0 ≤ p - q by omega) h0
      have e : (p - q).tmod q = p.tmod q := by
        rw [Int.tmod_eq_emod_of_nonneg (by omega), Int.tmod_eq_emod_of_nonneg (by omega), Int.sub_emod_right]
      rw [e] at s5
      have : ((p - q).tdiv q - (p.tdiv q - 1)) * q = 0 := by grind
      rcases Int.mul_eq_zero.1 this with h | h
      · exact ⟨by omega, e⟩
      · omega
    rw [csum, dif_pos (show p - q > 0 by omega), e1.1, e1.2, csum, dif_pos (show q > 0 from h0), e2.1, e2.2, csum.eq_1 p q, dif_pos (show q > 0 from h0)]
    omega
  by_cases c : q < p - q
  · exact aux q hq c
  · have hne : q ≠ p - q := fun h => by
      have h2 : p = 2 * q := by omega
      rw [h2] at hg
      have : Int.gcd (2 * q) q = q.natAbs := Int.gcd_mul_left_left ..
      omega
    have := aux (p - q) (by omega) (by omega)
    rw [show p - (p - q) = q by omega] at this
    exact this.symm

/-- Rows of terms are short. -/
theorem terms_short : ∀ (k : Nat) (a b : Int), 0 ≤ b → b < a → a < 2 ^ k → (terms a b).length ≤ 2 * k := by
  intro k
  induction k with
  | zero => intro a b hb hba h; simp at h; omega
  | succ k ih =>
    intro a b hb hba h
    by_cases c : b > 0
    · obtain ⟨h0, h1, h2, h3, h4, h5⟩ := tdm (show 0 ≤ a by omega) c
      have ht : 1 ≤ a.tdiv b := by
        by_cases c1 : 1 ≤ a.tdiv b
        · exact c1
        · have : a.tdiv b = 0 := by omega
          rw [this] at h5
          omega
      have hm := Int.mul_le_mul_of_nonneg_right ht (show 0 ≤ b by omega)
      rw [terms, dif_pos c]
      by_cases c2 : a.tmod b > 0
      · obtain ⟨g0, g1, g2, g3, g4, g5⟩ := tdm (show 0 ≤ b by omega) c2
        rw [terms, dif_pos c2]
        have hp : (2:Int) ^ (k + 1) = 2 * 2 ^ k := by rw [Int.pow_succ]; omega
        have := ih (a.tmod b) (b.tmod (a.tmod b)) g1 g2 (by omega)
        simp only [List.length_cons]
        omega
      · rw [terms, dif_neg c2]
        simp
        omega
    · rw [terms, dif_neg c]
      simp

end Go.Num

/- The law of same links, run. -/
namespace Go.Proofs
open Go Go.Ev Go.Num

def tSames : Tbl := tcons 35 (eI4 (fun _ _ _ _ => true) fun a b c d => .tuple ⟨[.bool (m_same a b c d), I (m_sameE a b c d)]⟩) (tcons 28 (eI2 (fun _ _ => true) fun a b => .bool (m_link a b))
  (tcons 36 (eI4 (fun a b c d => m_link a b && m_link c d) fun a b c d => .bool (m_same a b c d)) (tcons 18 (e0 (.bool true)) fun _ => none)))

theorem lsA (r : Mem) (p q u v : Int) : (lvlT (SC r) tSames .nil 3 1).call 6 [FV p q, FV u v] emptyA fin =
    bif m_same p q u v then bif m_link p q then bif m_link u v then bif m_sameE p q u v != Int.ofNat 0 then CR.ret (Value.bool false) (AW.mk 0 Tr.nil Tr.nil) else bif m_link p q && m_link u v then bif m_same p q u v then bif m_same p q p v then bif m_link p q then bif m_link p v then bif m_sameE p q p v != Int.ofNat 0 then CR.ret (Value.bool false) (AW.mk 0 Tr.nil Tr.nil) else bif m_link p q && m_link p v then bif m_same p q p v then CR.ret (Value.bool true) (AW.mk 0 Tr.nil Tr.nil) else CR.ret (Value.bool false) (AW.mk 0 Tr.nil Tr.nil) else CR.fail 420 else bif m_sameE p q p v != Int.ofNat 61 then CR.ret (Value.bool false) (AW.mk 0 Tr.nil Tr.nil) else CR.ret (Value.bool false) (AW.mk 0 Tr.nil Tr.nil) else bif m_sameE p q p v != Int.ofNat 61 then CR.ret (Value.bool false) (AW.mk 0 Tr.nil Tr.nil) else CR.ret (Value.bool false) (AW.mk 0 Tr.nil Tr.nil) else bif m_link p q then bif m_link p v then bif m_sameE p q p v != Int.ofNat 0 then CR.ret (Value.bool false) (AW.mk 0 Tr.nil Tr.nil) else bif m_link p q && m_link p v then bif m_same p q p v then CR.ret (Value.bool false) (AW.mk 0 Tr.nil Tr.nil) else CR.ret (Value.bool true) (AW.mk 0 Tr.nil Tr.nil) else CR.fail 420 else bif m_sameE p q p v != Int.ofNat 61 then CR.ret (Value.bool false) (AW.mk 0 Tr.nil Tr.nil) else CR.ret (Value.bool true) (AW.mk 0 Tr.nil Tr.nil) else bif m_sameE p q p v != Int.ofNat 61 then CR.ret (Value.bool false) (AW.mk 0 Tr.nil Tr.nil) else CR.ret (Value.bool true) (AW.mk 0 Tr.nil Tr.nil) else CR.ret (Value.bool false) (AW.mk 0 Tr.nil Tr.nil) else CR.fail 420 else bif m_sameE p q u v != Int.ofNat 61 then CR.ret (Value.bool false) (AW.mk 0 Tr.nil Tr.nil) else CR.ret (Value.bool false) (AW.mk 0 Tr.nil Tr.nil) else bif m_sameE p q u v != Int.ofNat 61 then CR.ret (Value.bool false) (AW.mk 0 Tr.nil Tr.nil) else CR.ret (Value.bool false) (AW.mk 0 Tr.nil Tr.nil) else bif m_link p q then bif m_link u v then bif m_sameE p q u v != Int.ofNat 0 then CR.ret (Value.bool false) (AW.mk 0 Tr.nil Tr.nil) else bif m_link p q && m_link u v then bif m_same p q u v then CR.ret (Value.bool false) (AW.mk 0 Tr.nil Tr.nil) else bif m_same p q p v then bif m_link p q then bif m_link p v then bif m_sameE p q p v != Int.ofNat 0 then CR.ret (Value.bool false) (AW.mk 0 Tr.nil Tr.nil) else bif m_link p q && m_link p v then bif m_same p q p v then CR.ret (Value.bool true) (AW.mk 0 Tr.nil Tr.nil) else CR.ret (Value.bool false) (AW.mk 0 Tr.nil Tr.nil) else CR.fail 420 else bif m_sameE p q p v != Int.ofNat 61 then CR.ret (Value.bool false) (AW.mk 0 Tr.nil Tr.nil) else CR.ret (Value.bool false) (AW.mk 0 Tr.nil Tr.nil) else bif m_sameE p q p v != Int.ofNat 61 then CR.ret (Value.bool false) (AW.mk 0 Tr.nil Tr.nil) else CR.ret (Value.bool false) (AW.mk 0 Tr.nil Tr.nil) else bif m_link p q then bif m_link p v then bif m_sameE p q p v != Int.ofNat 0 then CR.ret (Value.bool false) (AW.mk 0 Tr.nil Tr.nil) else bif m_link p q && m_link p v then bif m_same p q p v then CR.ret (Value.bool false) (AW.mk 0 Tr.nil Tr.nil) else CR.ret (Value.bool true) (AW.mk 0 Tr.nil Tr.nil) else CR.fail 420 else bif m_sameE p q p v != Int.ofNat 61 then CR.ret (Value.bool false) (AW.mk 0 Tr.nil Tr.nil) else CR.ret (Value.bool true) (AW.mk 0 Tr.nil Tr.nil) else bif m_sameE p q p v != Int.ofNat 61 then CR.ret (Value.bool false) (AW.mk 0 Tr.nil Tr.nil) else CR.ret (Value.bool true) (AW.mk 0 Tr.nil Tr.nil) else CR.fail 420 else bif m_sameE p q u v != Int.ofNat 61 then CR.ret (Value.bool false) (AW.mk 0 Tr.nil Tr.nil) else bif m_same p q p v then bif m_link p q then bif m_link p v then bif m_sameE p q p v != Int.ofNat 0 then CR.ret (Value.bool false) (AW.mk 0 Tr.nil Tr.nil) else bif m_link p q && m_link p v then bif m_same p q p v then CR.ret (Value.bool true) (AW.mk 0 Tr.nil Tr.nil) else CR.ret (Value.bool false) (AW.mk 0 Tr.nil Tr.nil) else CR.fail 420 else bif m_sameE p q p v != Int.ofNat 61 then CR.ret (Value.bool false) (AW.mk 0 Tr.nil Tr.nil) else CR.ret (Value.bool false) (AW.mk 0 Tr.nil Tr.nil) else bif m_sameE p q p v != Int.ofNat 61 then CR.ret (Value.bool false) (AW.mk 0 Tr.nil Tr.nil) else CR.ret (Value.bool false) (AW.mk 0 Tr.nil Tr.nil) else bif m_link p q then bif m_link p v then bif m_sameE p q p v != Int.ofNat 0 then CR.ret (Value.bool false) (AW.mk 0 Tr.nil Tr.nil) else bif m_link p q && m_link p v then bif m_same p q p v then CR.ret (Value.bool false) (AW.mk 0 Tr.nil Tr.nil) else CR.ret (Value.bool true) (AW.mk 0 Tr.nil Tr.nil) else CR.fail 420 else bif m_sameE p q p v != Int.ofNat 61 then CR.ret (Value.bool false) (AW.mk 0 Tr.nil Tr.nil) else CR.ret (Value.bool true) (AW.mk 0 Tr.nil Tr.nil) else bif m_sameE p q p v != Int.ofNat 61 then CR.ret (Value.bool false) (AW.mk 0 Tr.nil Tr.nil) else CR.ret (Value.bool true) (AW.mk 0 Tr.nil Tr.nil) else bif m_sameE p q u v != Int.ofNat 61 then CR.ret (Value.bool false) (AW.mk 0 Tr.nil Tr.nil) else bif m_same p q p v then bif m_link p q then bif m_link p v then bif m_sameE p q p v != Int.ofNat 0 then CR.ret (Value.bool false) (AW.mk 0 Tr.nil Tr.nil) else bif m_link p q && m_link p v then bif m_same p q p v then CR.ret (Value.bool true) (AW.mk 0 Tr.nil Tr.nil) else CR.ret (Value.bool false) (AW.mk 0 Tr.nil Tr.nil) else CR.fail 420 else bif m_sameE p q p v != Int.ofNat 61 then CR.ret (Value.bool false) (AW.mk 0 Tr.nil Tr.nil) else CR.ret (Value.bool false) (AW.mk 0 Tr.nil Tr.nil) else bif m_sameE p q p v != Int.ofNat 61 then CR.ret (Value.bool false) (AW.mk 0 Tr.nil Tr.nil) else CR.ret (Value.bool false) (AW.mk 0 Tr.nil Tr.nil) else bif m_link p q then bif m_link p v then bif m_sameE p q p v != Int.ofNat 0 then CR.ret (Value.bool false) (AW.mk 0 Tr.nil Tr.nil) else bif m_link p q && m_link p v then bif m_same p q p v then CR.ret (Value.bool false) (AW.mk 0 Tr.nil Tr.nil) else CR.ret (Value.bool true) (AW.mk 0 Tr.nil Tr.nil) else CR.fail 420 else bif m_sameE p q p v != Int.ofNat 61 then CR.ret (Value.bool false) (AW.mk 0 Tr.nil Tr.nil) else CR.ret (Value.bool true) (AW.mk 0 Tr.nil Tr.nil) else bif m_sameE p q p v != Int.ofNat 61 then CR.ret (Value.bool false) (AW.mk 0 Tr.nil Tr.nil) else CR.ret (Value.bool true) (AW.mk 0 Tr.nil Tr.nil) := by kernel_rfl

end Go.Proofs

/- awake of chapter 6. -/
namespace Go.Proofs
open Go Go.Ev

theorem awake_ok : GrT Tryd.prog tabM 18 [] (.bool true) := GrT.closedRo evMixed evNames tabM .nil 1000 40 (by kernel_rfl)

end Go.Proofs

/- The law of same links: it answers true. -/
namespace Go.Proofs
open Go Go.Ev Go.Num

theorem same_none {a b c d : Int} (h : (m_link a b && m_link c d) = false) : m_same a b c d = false ∧ m_sameE a b c d = 61 := by
  unfold m_link at h
  unfold m_same m_sameE
  simp only [h, Bool.false_and]
  exact ⟨trivial, rfl⟩
theorem same_some {a b c d : Int} (h : (m_link a b && m_link c d) = true) : m_sameE a b c d = 0 := by
  unfold m_link at h
  unfold m_sameE
  simp only [h, if_true]

theorem awakeE_ok (r : Mem) (hm : ∀ b j u, tabM b j = some u → r b j = some u) : EOk (SC r) 18 (e0 (.bool true)) := e0_ok (awake_ok.less hm)

theorem tSames_ok (r : Mem) (hm : ∀ b j u, tabM b j = some u → r b j = some u) : TOk (SC r) tSames :=
  TOk.cons (TOk.cons (TOk.cons (TOk.cons TOk.nil (awakeE_ok r hm)) (rSameE_ok r)) (rLinkE_ok r)) (sameE_ok r)

theorem sames_ok (r : Mem) (hm : ∀ b j u, tabM b j = some u → r b j = some u) (p q u v : Int) : GrT Tryd.prog r 6 [FV p q, FV u v] (.bool true) :=
  GrT.of (SC_ok r) (tSames_ok r hm) .nil rfl ⟨3, 1, by
    rw [lsA]
    have l : (61 : Int) ≠ Int.ofNat 0 := by decide
    have l' : (0 : Int) = Int.ofNat 0 := rfl
    have l2 : (61 : Int) = Int.ofNat 61 := rfl
    cases h1 : m_link p q with
    | false =>
      obtain ⟨a1, a2⟩ := same_none (a := p) (b := q) (c := u) (d := v) (by rw [h1]; rfl)
      obtain ⟨b1, b2⟩ := same_none (a := p) (b := q) (c := p) (d := v) (by rw [h1]; rfl)
      simp only [a1, a2, b1, b2, cond_false, neF l2]
      rfl
    | true =>
      cases h3 : m_link p v with
      | false =>
        obtain ⟨b1, b2⟩ := same_none (a := p) (b := q) (c := p) (d := v) (by rw [h3, h1]; rfl)
        cases h2 : m_link u v with
        | false =>
          obtain ⟨a1, a2⟩ := same_none (a := p) (b := q) (c := u) (d := v) (by rw [h2, h1]; rfl)
          simp only [a1, a2, b1, b2, cond_false, cond_true, neF l2]
          rfl
        | true =>
          have a2 := same_some (a := p) (b := q) (c := u) (d := v) (by rw [h2, h1]; rfl)
          cases h4 : m_same p q u v <;>
          · simp only [a2, b1, b2, cond_false, cond_true, neF l2, neF l', Bool.and_self]
            rfl
      | true =>
        have b2 := same_some (a := p) (b := q) (c := p) (d := v) (by rw [h3, h1]; rfl)
        cases h2 : m_link u v with
        | false =>
          obtain ⟨a1, a2⟩ := same_none (a := p) (b := q) (c := u) (d := v) (by rw [h2, h1]; rfl)
          cases h5 : m_same p q p v <;>
          · simp only [a1, a2, b2, cond_false, cond_true, neF l2, neF l', Bool.and_self]
            rfl
        | true =>
          have a2 := same_some (a := p) (b := q) (c := u) (d := v) (by rw [h2, h1]; rfl)
          cases h4 : m_same p q u v <;> cases h5 : m_same p q p v <;>
          · simp only [a2, b2, cond_false, cond_true, neF l', Bool.and_self]
            rfl⟩

/-- An argument of two integers. -/
theorem arg2 {u : Value} (h : ArgArr 2 (ArgInt .i64) u) : ∃ p q, u = FV p q := by
  obtain ⟨l, rfl, hl, hp⟩ := h
  match l, hl with
  | [x, y], _ =>
    obtain ⟨p, rfl, _⟩ := hp x (by simp)
    obtain ⟨q, rfl, _⟩ := hp y (by simp)
    exact ⟨p, q, rfl⟩

theorem law_sames (r : Mem) (hm : ∀ b j u, tabM b j = some u → r b j = some u) (u0 u1 : Value) (s0 : ArgArr 2 (ArgInt .i64) u0) (s1 : ArgArr 2 (ArgInt .i64) u1) : GrT Tryd.prog r 6 [u0, u1] (.bool true) := by
  obtain ⟨p, q, rfl⟩ := arg2 s0
  obtain ⟨u, v, rfl⟩ := arg2 s1
  exact sames_ok r hm p q u v

end Go.Proofs

/- The fraction of the law, run. -/
namespace Go.Proofs
open Go Go.Ev Go.Num

noncomputable def cRF : Code := bodyOf S0 22
theorem rfA (r : Mem) (L : Nat) (p q : Int) : (lvlT (SC r) (tcons 34 (eI2 (fun a b => decide (0 ≤ a) && decide (0 ≤ b)) fun a b => I (m_gcd a b)) fun _ => none) .nil L 1).call 22 [I p, I q] emptyA fin =
    bif decide (q < 0) then CR.ret (Value.bool false) (AW.mk 0 Tr.nil Tr.nil) else bif q == Int.ofNat 0 then bif p == Int.ofNat 1 then CR.ret (Value.bool true) (AW.mk 0 Tr.nil Tr.nil) else CR.ret (Value.bool false) (AW.mk 0 Tr.nil Tr.nil) else bif !decide (q = 0) then bif decide (Int.tmod p q < 0) then bif decide (0 ≤ q) && decide (0 ≤ IntKind.wrap IntKind.i64 (Int.tmod p q + q)) then bif m_gcd q (IntKind.wrap IntKind.i64 (Int.tmod p q + q)) == Int.ofNat 1 then CR.ret (Value.bool true) (AW.mk 0 Tr.nil Tr.nil) else CR.ret (Value.bool false) (AW.mk 0 Tr.nil Tr.nil) else CR.fail 420 else bif decide (0 ≤ q) && decide (0 ≤ Int.tmod p q) then bif m_gcd q (Int.tmod p q) == Int.ofNat 1 then CR.ret (Value.bool true) (AW.mk 0 Tr.nil Tr.nil) else CR.ret (Value.bool false) (AW.mk 0 Tr.nil Tr.nil) else CR.fail 420 else CR.fail 420 := by kernel_rfl

noncomputable def cLF : Code := bodyOf S0 45
def TLF (p q : Int) : Tr Value := (((tr0 51 [I p, I q]).put 4 (some (I 0))).put 5 (some (I 0)))

theorem lfA (r : Mem) (L : Nat) (fs : FnsC) (p q : Int) (A : AW) (kn : KS) (kx : Nat → KS) (kr : KS) (ms : List Nat) : run (SC r) 51 22 L (.seq (.seq (lc cLF) (lc (rc cLF))) (lc (rc (rc cLF)))) fs none kn kx kr (sc0 51 [I p, I q]) (tr0 51 [I p, I q]) ms A =
    bif IntKind.wrap IntKind.i64 (Int.tmod (IntKind.wrap IntKind.u64 q) (Int.ofNat 501)) == Int.ofNat 0 then kr [] (Tr.node (Tr.node Tr.nil (some (Value.int IntKind.i64 (IntKind.wrap IntKind.i64 (Int.tmod (IntKind.wrap IntKind.u64 q) (Int.ofNat 501))))) (Tr.node Tr.nil (some (Value.int IntKind.i64 (Int.ofNat 0))) Tr.nil)) (some (Value.int IntKind.i64 (Int.tmod p (Int.ofNat 501)))) (Tr.node (Tr.node Tr.nil (some (Value.int IntKind.i64 (Int.ofNat 1))) Tr.nil) none Tr.nil)) ms A else kn [(13, Value.bool false), (12, Value.int IntKind.i64 (IntKind.wrap IntKind.i64 (Int.tmod (IntKind.wrap IntKind.u64 q) (Int.ofNat 501))))] (Tr.node (Tr.node Tr.nil (some (Value.int IntKind.i64 (IntKind.wrap IntKind.i64 (Int.tmod (IntKind.wrap IntKind.u64 q) (Int.ofNat 501))))) (Tr.node Tr.nil (some (Value.int IntKind.i64 (Int.ofNat 0))) Tr.nil)) (some (Value.int IntKind.i64 (Int.tmod p (Int.ofNat 501)))) (Tr.node (Tr.node Tr.nil (some (Value.int IntKind.i64 (Int.ofNat 0))) Tr.nil) none Tr.nil)) ms A := by kernel_rfl

def m_max (b : Int) : Bool := decide (b ≤ 9223372036854775807)
def tF : Tbl := tcons 22 (eI2 (fun _ b => m_max b) fun a b => .bool (m_frac a b)) fun _ => none

theorem lfB (r : Mem) (L : Nat) (ms' : Tr Nat) (p q : Int) (s : List (Nat × Value)) (A : AW) (kn : KS) (kx : Nat → KS) (kr : KS) (ms : List Nat) : run (SC r) 51 22 L (ic (ic (lc (rc (rc (rc cLF)))))) (lvlT (SC r) tF ms' L 0) none kn kx kr s (TLF p q) ms A =
    bif m_max q then bif m_frac p q then kx 0 [(17, Value.bool false), (16, Value.bool true), (15, Value.int IntKind.i64 q), (14, Value.int IntKind.i64 p)] (Tr.node (Tr.node Tr.nil (some (Value.int IntKind.i64 q)) (Tr.node Tr.nil (some (Value.int IntKind.i64 (Int.ofNat 0))) Tr.nil)) (some (Value.int IntKind.i64 p)) (Tr.node (Tr.node Tr.nil (some (Value.int IntKind.i64 (Int.ofNat 0))) Tr.nil) none Tr.nil)) ms A else kn [(19, Value.int IntKind.i64 (IntKind.wrap IntKind.i64 (q - Int.ofNat 1))), (18, Value.int IntKind.i64 q)] (Tr.node (Tr.node Tr.nil (some (Value.int IntKind.i64 (IntKind.wrap IntKind.i64 (q - Int.ofNat 1)))) (Tr.node Tr.nil (some (Value.int IntKind.i64 (Int.ofNat 0))) Tr.nil)) (some (Value.int IntKind.i64 p)) (Tr.node (Tr.node Tr.nil (some (Value.int IntKind.i64 (Int.ofNat 0))) Tr.nil) none Tr.nil)) ms A else CR.fail 420 := by kernel_rfl

theorem lfC (r : Mem) (L : Nat) (fs : FnsC) (p q : Int) (s : List (Nat × Value)) (A : AW) (kn : KS) (kx : Nat → KS) (kr : KS) (ms : List Nat) : run (SC r) 51 22 L (rc (rc (rc (rc cLF)))) fs none kn kx kr s (TLF p q) ms A =
    kr [(21, Value.int IntKind.i64 q), (20, Value.int IntKind.i64 p)] (Tr.node (Tr.node Tr.nil (some (Value.int IntKind.i64 q)) (Tr.node Tr.nil (some (Value.int IntKind.i64 q)) Tr.nil)) (some (Value.int IntKind.i64 p)) (Tr.node (Tr.node Tr.nil (some (Value.int IntKind.i64 p)) Tr.nil) none Tr.nil)) ms A := by kernel_rfl

end Go.Proofs

/- First, Mirrored, Crossings, run; the law of Schubert's links. -/
namespace Go.Proofs
open Go Go.Ev Go.Num

def tFm : Tbl := tcons 74 eLink (tcons 54 eFst (tcons 76 (eI2 m_restG fun a n => I (m_rest a n)) fun _ => none))

theorem f1A (r : Mem) (p q : Int) : (lvlT (SC r) tFm .nil 8 4).call 24 [I p, I q] emptyA fin =
    bif m_eqv (Value.int IntKind.i64 q) (Value.int IntKind.i64 q) then bif m_eqv (Value.int IntKind.i64 q) (Value.int IntKind.i64 q) then bif m_eqv (Value.int IntKind.i64 p) (Value.int IntKind.i64 p) then bif m_eqv (Value.int IntKind.i64 p) (Value.int IntKind.i64 p) then bif m_link p q then bif m_invG q p then CR.ret (Value.tuple (Array.mk [Value.int IntKind.i64 p, Value.int IntKind.i64 (m_fst p q), Value.int IntKind.i64 (Int.ofNat 0)])) (AW.mk 0 Tr.nil Tr.nil) else CR.fail 420 else CR.ret (Value.tuple (Array.mk [Value.int IntKind.i64 (Int.ofNat 0), Value.int IntKind.i64 (Int.ofNat 0), Value.int IntKind.i64 (Int.ofNat 61)])) (AW.mk 0 Tr.nil Tr.nil) else CR.fail 420 else CR.fail 420 else CR.fail 420 else CR.fail 420 := by kernel_rfl

theorem miA (r : Mem) (p q : Int) : (lvlT (SC r) tFm .nil 8 4).call 25 [I p, I q] emptyA fin =
    bif m_eqv (Value.int IntKind.i64 q) (Value.int IntKind.i64 q) then bif m_eqv (Value.int IntKind.i64 q) (Value.int IntKind.i64 q) then bif m_eqv (Value.int IntKind.i64 p) (Value.int IntKind.i64 p) then bif m_eqv (Value.int IntKind.i64 p) (Value.int IntKind.i64 p) then bif m_link p q then bif m_invG q p then bif m_restG (IntKind.wrap IntKind.i64 (Int.ofNat 0 - q)) p then bif m_eqv (Value.int IntKind.i64 p) (Value.int IntKind.i64 p) then bif m_eqv (Value.int IntKind.i64 q) (Value.int IntKind.i64 q) then bif m_eqv (Value.int IntKind.i64 p) (Value.int IntKind.i64 p) then bif m_eqv (Value.int IntKind.i64 p) (Value.int IntKind.i64 p) then bif m_invG (m_rest (IntKind.wrap IntKind.i64 (Int.ofNat 0 - q)) p) p then bif p == p && (m_fst p q == m_fst p (m_rest (IntKind.wrap IntKind.i64 (Int.ofNat 0 - q)) p) && true) then bif m_eqv (Value.agg (Array.mk [Value.int IntKind.i64 p, Value.int IntKind.i64 q])) (Value.agg (Array.mk [Value.int IntKind.i64 p, Value.int IntKind.i64 q])) then bif m_eqv (Value.agg (Array.mk [Value.int IntKind.i64 p, Value.int IntKind.i64 q])) (Value.agg (Array.mk [Value.int IntKind.i64 p, Value.int IntKind.i64 q])) then bif m_eqv (Value.agg (Array.mk [Value.int IntKind.i64 p, Value.int IntKind.i64 q])) (Value.agg (Array.mk [Value.int IntKind.i64 p, Value.int IntKind.i64 q])) then CR.ret (Value.tuple (Array.mk [Value.bool true, Value.int IntKind.i64 (Int.ofNat 0)])) (AW.mk 0 Tr.nil Tr.nil) else CR.fail 420 else CR.fail 420 else CR.fail 420 else bif m_eqv (Value.agg (Array.mk [Value.int IntKind.i64 p, Value.int IntKind.i64 q])) (Value.agg (Array.mk [Value.int IntKind.i64 p, Value.int IntKind.i64 q])) then bif m_eqv (Value.agg (Array.mk [Value.int IntKind.i64 p, Value.int IntKind.i64 q])) (Value.agg (Array.mk [Value.int IntKind.i64 p, Value.int IntKind.i64 q])) then bif m_eqv (Value.agg (Array.mk [Value.int IntKind.i64 p, Value.int IntKind.i64 q])) (Value.agg (Array.mk [Value.int IntKind.i64 p, Value.int IntKind.i64 q])) then CR.ret (Value.tuple (Array.mk [Value.bool false, Value.int IntKind.i64 (Int.ofNat 0)])) (AW.mk 0 Tr.nil Tr.nil) else CR.fail 420 else CR.fail 420 else CR.fail 420 else CR.fail 420 else CR.fail 420 else CR.fail 420 else CR.fail 420 else CR.fail 420 else CR.fail 420 else CR.fail 420 else CR.ret (Value.tuple (Array.mk [Value.bool false, Value.int IntKind.i64 (Int.ofNat 61)])) (AW.mk 0 Tr.nil Tr.nil) else CR.fail 420 else CR.fail 420 else CR.fail 420 else CR.fail 420 := by kernel_rfl

noncomputable def m_okL (c : List Value) (k len : Nat) : Bool := @decide (len ≤ 9223372036854775807 ∧ ∀ j, j < len → ∃ z, c[k + j]? = some (I z)) (Classical.propDecidable _)
def zAt (c : List Value) (j : Nat) : Int := match c[j]? with
  | some (.int _ z) => z
  | _ => 0
def m_ftEL (c : List Value) (k len : Nat) : Int := m_ftE (fun j => zAt c (k + j)) len
def m_ftXL (c : List Value) (k len : Nat) : Int := m_ftX (fun j => zAt c (k + j)) len
def m_ftYL (c : List Value) (k len : Nat) : Int := m_ftY (fun j => zAt c (k + j)) len
/-- FromTerms of a row of the caller's. -/
noncomputable def eFromT : Ent := ent
  (fun args A => match args with
    | [.slice none 0 0] => true
    | [.slice (some ⟨i, k, none⟩) len cap] => match A.heap.get i with
      | some (.cells c _ _ _) => m_okL c k len && !Nat.beq cap unkE
      | _ => false
    | _ => false)
  (fun args A => match args with
    | [.slice none 0 0] => .tuple ⟨[I 1, I 0, I 0]⟩
    | [.slice (some ⟨i, k, none⟩) len _] => match A.heap.get i with
      | some (.cells c _ _ _) => .tuple ⟨[I (m_ftXL c k len), I (m_ftYL c k len), I (m_ftEL c k len)]⟩
      | _ => undef
    | _ => undef)
def m_mir (p q : Int) : Bool := decide (fst p q = fst p ((-q) % p))
def m_pos (q : Int) : Bool := decide (q > 0)
def eTerms : Ent := ⟨fun args _ => match args with | [.int .i64 p, .int .i64 q] => m_link p q | _ => false, fun args _ => match args with | [.int .i64 _, .int .i64 q] => m_pos q | _ => false,
  fun args A => match args with | [.int .i64 p, .int .i64 q] => .tuple ⟨[.slice (some ⟨A.next, 0, none⟩) (m_tmN p q) unk, I 0]⟩ | _ => undef, fun args A => match args with | [.int .i64 p, .int .i64 q] => A.new (.cells (m_tm p q) 2 A.next 1) | _ => A,
  fun _ _ => .tuple ⟨[.slice none 0 0, I 0]⟩, fun _ A => A⟩
noncomputable def tSch : Tbl := tcons 24 (eI2 m_link fun p q => .tuple ⟨[I p, I (m_fst p q), I 0]⟩) (tcons 35 (eI4 (fun _ _ _ _ => true) fun a b c d => .tuple ⟨[.bool (m_same a b c d), I (m_sameE a b c d)]⟩)
  (tcons 27 (eI2 m_link fun p q => .tuple ⟨[I (m_cs p q), I 0]⟩) (tcons 26 eTerms (tcons 37 eFromT (tcons 25 (eI2 m_link fun p q => .tuple ⟨[.bool (m_mir p q), I 0]⟩)
  (tcons 18 (e0 (.bool true)) (tcons 34 (eI2 (fun a b => decide (0 ≤ a) && decide (0 ≤ b)) fun a b => I (m_gcd a b)) fun _ => none)))))))

noncomputable def cSc : Code := bodyOf S0 11
def TSc (p q : Int) : Tr Value := .node (.node .nil (some (I q)) .nil) (some (I p)) (.node (.node .nil (some (.bool false)) .nil) none .nil)

theorem scA (r : Mem) (L : Nat) (fs : FnsC) (p q : Int) (kn : KS) (kx : Nat → KS) (kr : KS) : run (SC r) 67108851 205 L (.seq (.seq (lc cSc) (lc (rc cSc))) (lc (rc (rc cSc)))) fs none kn kx kr (sc0 67108851 [I p, I q]) (tr0 67108851 [I p, I q]) [] emptyA =
    bif !decide (IntKind.wrap IntKind.u64 (IntKind.wrap IntKind.i64 (Int.ofNat 1 + IntKind.wrap IntKind.i64 (Int.tmod (IntKind.wrap IntKind.u64 p) (Int.ofNat 5000)))) = 0) then kn [(36, Value.int IntKind.i64 (IntKind.wrap IntKind.i64 (Int.tmod (IntKind.wrap IntKind.u64 q) (IntKind.wrap IntKind.u64 (IntKind.wrap IntKind.i64 (Int.ofNat 1 + IntKind.wrap IntKind.i64 (Int.tmod (IntKind.wrap IntKind.u64 p) (Int.ofNat 5000)))))))), (35, Value.int IntKind.u64 (Int.tmod (IntKind.wrap IntKind.u64 q) (IntKind.wrap IntKind.u64 (IntKind.wrap IntKind.i64 (Int.ofNat 1 + IntKind.wrap IntKind.i64 (Int.tmod (IntKind.wrap IntKind.u64 p) (Int.ofNat 5000))))))), (34, Value.int IntKind.u64 (IntKind.wrap IntKind.u64 (IntKind.wrap IntKind.i64 (Int.ofNat 1 + IntKind.wrap IntKind.i64 (Int.tmod (IntKind.wrap IntKind.u64 p) (Int.ofNat 5000)))))), (33, Value.int IntKind.i64 (IntKind.wrap IntKind.i64 (Int.ofNat 1 + IntKind.wrap IntKind.i64 (Int.tmod (IntKind.wrap IntKind.u64 p) (Int.ofNat 5000))))), (32, Value.int IntKind.u64 (IntKind.wrap IntKind.u64 q)), (31, Value.int IntKind.i64 q)] (Tr.node (Tr.node Tr.nil (some (Value.int IntKind.i64 (IntKind.wrap IntKind.i64 (Int.tmod (IntKind.wrap IntKind.u64 q) (IntKind.wrap IntKind.u64 (IntKind.wrap IntKind.i64 (Int.ofNat 1 + IntKind.wrap IntKind.i64 (Int.tmod (IntKind.wrap IntKind.u64 p) (Int.ofNat 5000))))))))) Tr.nil) (some (Value.int IntKind.i64 (IntKind.wrap IntKind.i64 (Int.ofNat 1 + IntKind.wrap IntKind.i64 (Int.tmod (IntKind.wrap IntKind.u64 p) (Int.ofNat 5000)))))) (Tr.node (Tr.node Tr.nil (some (Value.bool false)) Tr.nil) none Tr.nil)) [] (AW.mk 0 Tr.nil Tr.nil) else CR.fail 420 := by kernel_rfl

theorem scB (r : Mem) (L : Nat) (tm : Tr Nat) (p q : Int) (s : List (Nat × Value)) (kn : KS) (kx : Nat → KS) (kr : KS) : run (SC r) 67108851 205 L (ic (ic (lc (rc (rc (rc cSc)))))) (lvlT (SC r) tSch tm L 0) none kn kx kr s (TSc p q) [] emptyA =
    bif decide (0 ≤ p) && decide (0 ≤ q) then bif m_gcd p q != Int.ofNat 1 then bif !decide (p = 0) then kn [(44, Value.int IntKind.i64 (Int.tmod (IntKind.wrap IntKind.i64 (q + Int.ofNat 1)) p)), (43, Value.int IntKind.i64 p), (42, Value.int IntKind.i64 (IntKind.wrap IntKind.i64 (q + Int.ofNat 1))), (41, Value.int IntKind.i64 q)] (Tr.node (Tr.node Tr.nil (some (Value.int IntKind.i64 (Int.tmod (IntKind.wrap IntKind.i64 (q + Int.ofNat 1)) p))) Tr.nil) (some (Value.int IntKind.i64 p)) (Tr.node (Tr.node Tr.nil (some (Value.bool false)) Tr.nil) none Tr.nil)) [] (AW.mk 0 Tr.nil Tr.nil) else CR.fail 420 else kx 0 [(40, Value.bool false), (39, Value.int IntKind.i64 (m_gcd p q)), (38, Value.int IntKind.i64 q), (37, Value.int IntKind.i64 p)] (Tr.node (Tr.node Tr.nil (some (Value.int IntKind.i64 q)) Tr.nil) (some (Value.int IntKind.i64 p)) (Tr.node (Tr.node Tr.nil (some (Value.bool false)) Tr.nil) none Tr.nil)) [] (AW.mk 0 Tr.nil Tr.nil) else CR.fail 420 := by kernel_rfl

theorem scC (r : Mem) (L : Nat) (tm : Tr Nat) (p q : Int) (s : List (Nat × Value)) : run (SC r) 67108851 205 L (rc (rc (rc (rc cSc)))) (lvlT (SC r) tSch tm L 0) none (finK (SC r) 67108851 [.tmp 4] fin) kx242 (finK (SC r) 67108851 [.tmp 4] fin) s (TSc p q) [] emptyA =
    bif m_link p q then bif m_same p q p (m_fst p q) then bif m_link p q then bif m_link p (m_fst p q) then bif m_link p q then bif m_pos q then bif m_okL (m_tm p q) 0 (m_tmN p q) && true then bif m_link p q then bif m_mir p q then bif m_sameE p q p (m_fst p q) != Int.ofNat 0 then CR.ret (Value.bool false) (AW.mk 0 Tr.nil Tr.nil) else bif m_ftEL (m_tm p q) 0 (m_tmN p q) != Int.ofNat 0 then CR.ret (Value.bool false) (AW.mk 0 Tr.nil Tr.nil) else bif p != p then CR.ret (Value.bool false) (AW.mk 0 Tr.nil Tr.nil) else bif decide (m_fst p q > q) then CR.ret (Value.bool false) (AW.mk 0 Tr.nil Tr.nil) else bif m_cs p q != m_cs p (m_fst p q) then CR.ret (Value.bool false) (AW.mk 0 Tr.nil Tr.nil) else bif m_ftXL (m_tm p q) 0 (m_tmN p q) != p then CR.ret (Value.bool false) (AW.mk 0 Tr.nil Tr.nil) else bif m_ftYL (m_tm p q) 0 (m_tmN p q) != q then CR.ret (Value.bool false) (AW.mk 0 Tr.nil Tr.nil) else bif decide (p ≤ 2) then bif p == Int.ofNat 1 then CR.ret (Value.bool true) (AW.mk 0 Tr.nil Tr.nil) else bif m_link p (IntKind.wrap IntKind.i64 (p - q)) then bif m_link p (IntKind.wrap IntKind.i64 (p - q)) then bif m_cs p (IntKind.wrap IntKind.i64 (p - q)) == m_cs p q then bif p == p then bif m_fst p (IntKind.wrap IntKind.i64 (p - q)) == m_fst p q then CR.ret (Value.bool true) (AW.mk 0 Tr.nil Tr.nil) else CR.ret (Value.bool false) (AW.mk 0 Tr.nil Tr.nil) else CR.ret (Value.bool false) (AW.mk 0 Tr.nil Tr.nil) else CR.ret (Value.bool false) (AW.mk 0 Tr.nil Tr.nil) else CR.fail 420 else CR.fail 420 else bif !decide (p = 0) then bif Int.tmod (IntKind.wrap IntKind.i64 (q * q)) p == IntKind.wrap IntKind.i64 (p - Int.ofNat 1) then bif p == Int.ofNat 1 then CR.ret (Value.bool true) (AW.mk 0 Tr.nil Tr.nil) else bif m_link p (IntKind.wrap IntKind.i64 (p - q)) then bif m_link p (IntKind.wrap IntKind.i64 (p - q)) then bif m_cs p (IntKind.wrap IntKind.i64 (p - q)) == m_cs p q then bif p == p then bif m_fst p (IntKind.wrap IntKind.i64 (p - q)) == m_fst p q then CR.ret (Value.bool true) (AW.mk 0 Tr.nil Tr.nil) else CR.ret (Value.bool false) (AW.mk 0 Tr.nil Tr.nil) else CR.ret (Value.bool false) (AW.mk 0 Tr.nil Tr.nil) else CR.ret (Value.bool false) (AW.mk 0 Tr.nil Tr.nil) else CR.fail 420 else CR.fail 420 else CR.ret (Value.bool false) (AW.mk 0 Tr.nil Tr.nil) else CR.fail 420 else bif m_sameE p q p (m_fst p q) != Int.ofNat 0 then CR.ret (Value.bool false) (AW.mk 0 Tr.nil Tr.nil) else bif m_ftEL (m_tm p q) 0 (m_tmN p q) != Int.ofNat 0 then CR.ret (Value.bool false) (AW.mk 0 Tr.nil Tr.nil) else bif p != p then CR.ret (Value.bool false) (AW.mk 0 Tr.nil Tr.nil) else bif decide (m_fst p q > q) then CR.ret (Value.bool false) (AW.mk 0 Tr.nil Tr.nil) else bif m_cs p q != m_cs p (m_fst p q) then CR.ret (Value.bool false) (AW.mk 0 Tr.nil Tr.nil) else bif m_ftXL (m_tm p q) 0 (m_tmN p q) != p then CR.ret (Value.bool false) (AW.mk 0 Tr.nil Tr.nil) else bif m_ftYL (m_tm p q) 0 (m_tmN p q) != q then CR.ret (Value.bool false) (AW.mk 0 Tr.nil Tr.nil) else bif decide (p ≤ 2) then CR.ret (Value.bool false) (AW.mk 0 Tr.nil Tr.nil) else bif !decide (p = 0) then bif Int.tmod (IntKind.wrap IntKind.i64 (q * q)) p == IntKind.wrap IntKind.i64 (p - Int.ofNat 1) then CR.ret (Value.bool false) (AW.mk 0 Tr.nil Tr.nil) else bif p == Int.ofNat 1 then CR.ret (Value.bool true) (AW.mk 0 Tr.nil Tr.nil) else bif m_link p (IntKind.wrap IntKind.i64 (p - q)) then bif m_link p (IntKind.wrap IntKind.i64 (p - q)) then bif m_cs p (IntKind.wrap IntKind.i64 (p - q)) == m_cs p q then bif p == p then bif m_fst p (IntKind.wrap IntKind.i64 (p - q)) == m_fst p q then CR.ret (Value.bool false) (AW.mk 0 Tr.nil Tr.nil) else CR.ret (Value.bool true) (AW.mk 0 Tr.nil Tr.nil) else CR.ret (Value.bool true) (AW.mk 0 Tr.nil Tr.nil) else CR.ret (Value.bool false) (AW.mk 0 Tr.nil Tr.nil) else CR.fail 420 else CR.fail 420 else CR.fail 420 else CR.fail 420 else CR.fail 420 else bif m_link p q then bif m_mir p q then bif m_sameE p q p (m_fst p q) != Int.ofNat 0 then CR.ret (Value.bool false) (AW.mk 0 Tr.nil Tr.nil) else bif p != p then CR.ret (Value.bool false) (AW.mk 0 Tr.nil Tr.nil) else bif decide (m_fst p q > q) then CR.ret (Value.bool false) (AW.mk 0 Tr.nil Tr.nil) else bif m_cs p q != m_cs p (m_fst p q) then CR.ret (Value.bool false) (AW.mk 0 Tr.nil Tr.nil) else bif Int.ofNat 1 != p then CR.ret (Value.bool false) (AW.mk 0 Tr.nil Tr.nil) else bif Int.ofNat 0 != q then CR.ret (Value.bool false) (AW.mk 0 Tr.nil Tr.nil) else bif decide (p ≤ 2) then bif p == Int.ofNat 1 then CR.ret (Value.bool true) (AW.mk 0 Tr.nil Tr.nil) else bif m_link p (IntKind.wrap IntKind.i64 (p - q)) then bif m_link p (IntKind.wrap IntKind.i64 (p - q)) then bif m_cs p (IntKind.wrap IntKind.i64 (p - q)) == m_cs p q then bif p == p then bif m_fst p (IntKind.wrap IntKind.i64 (p - q)) == m_fst p q then CR.ret (Value.bool true) (AW.mk 0 Tr.nil Tr.nil) else CR.ret (Value.bool false) (AW.mk 0 Tr.nil Tr.nil) else CR.ret (Value.bool false) (AW.mk 0 Tr.nil Tr.nil) else CR.ret (Value.bool false) (AW.mk 0 Tr.nil Tr.nil) else CR.fail 420 else CR.fail 420 else bif !decide (p = 0) then bif Int.tmod (IntKind.wrap IntKind.i64 (q * q)) p == IntKind.wrap IntKind.i64 (p - Int.ofNat 1) then bif p == Int.ofNat 1 then CR.ret (Value.bool true) (AW.mk 0 Tr.nil Tr.nil) else bif m_link p (IntKind.wrap IntKind.i64 (p - q)) then bif m_link p (IntKind.wrap IntKind.i64 (p - q)) then bif m_cs p (IntKind.wrap IntKind.i64 (p - q)) == m_cs p q then bif p == p then bif m_fst p (IntKind.wrap IntKind.i64 (p - q)) == m_fst p q then CR.ret (Value.bool true) (AW.mk 0 Tr.nil Tr.nil) else CR.ret (Value.bool false) (AW.mk 0 Tr.nil Tr.nil) else CR.ret (Value.bool false) (AW.mk 0 Tr.nil Tr.nil) else CR.ret (Value.bool false) (AW.mk 0 Tr.nil Tr.nil) else CR.fail 420 else CR.fail 420 else CR.ret (Value.bool false) (AW.mk 0 Tr.nil Tr.nil) else CR.fail 420 else bif m_sameE p q p (m_fst p q) != Int.ofNat 0 then CR.ret (Value.bool false) (AW.mk 0 Tr.nil Tr.nil) else bif p != p then CR.ret (Value.bool false) (AW.mk 0 Tr.nil Tr.nil) else bif decide (m_fst p q > q) then CR.ret (Value.bool false) (AW.mk 0 Tr.nil Tr.nil) else bif m_cs p q != m_cs p (m_fst p q) then CR.ret (Value.bool false) (AW.mk 0 Tr.nil Tr.nil) else bif Int.ofNat 1 != p then CR.ret (Value.bool false) (AW.mk 0 Tr.nil Tr.nil) else bif Int.ofNat 0 != q then CR.ret (Value.bool false) (AW.mk 0 Tr.nil Tr.nil) else bif decide (p ≤ 2) then CR.ret (Value.bool false) (AW.mk 0 Tr.nil Tr.nil) else bif !decide (p = 0) then bif Int.tmod (IntKind.wrap IntKind.i64 (q * q)) p == IntKind.wrap IntKind.i64 (p - Int.ofNat 1) then CR.ret (Value.bool false) (AW.mk 0 Tr.nil Tr.nil) else bif p == Int.ofNat 1 then CR.ret (Value.bool true) (AW.mk 0 Tr.nil Tr.nil) else bif m_link p (IntKind.wrap IntKind.i64 (p - q)) then bif m_link p (IntKind.wrap IntKind.i64 (p - q)) then bif m_cs p (IntKind.wrap IntKind.i64 (p - q)) == m_cs p q then bif p == p then bif m_fst p (IntKind.wrap IntKind.i64 (p - q)) == m_fst p q then CR.ret (Value.bool false) (AW.mk 0 Tr.nil Tr.nil) else CR.ret (Value.bool true) (AW.mk 0 Tr.nil Tr.nil) else CR.ret (Value.bool true) (AW.mk 0 Tr.nil Tr.nil) else CR.ret (Value.bool false) (AW.mk 0 Tr.nil Tr.nil) else CR.fail 420 else CR.fail 420 else CR.fail 420 else CR.fail 420 else CR.fail 420 else CR.fail 420 else CR.fail 420 else bif m_link p q then bif m_link p (m_fst p q) then bif m_link p q then bif m_pos q then bif m_okL (m_tm p q) 0 (m_tmN p q) && true then bif m_link p q then bif m_mir p q then bif m_sameE p q p (m_fst p q) != Int.ofNat 0 then CR.ret (Value.bool false) (AW.mk 0 Tr.nil Tr.nil) else bif m_ftEL (m_tm p q) 0 (m_tmN p q) != Int.ofNat 0 then CR.ret (Value.bool false) (AW.mk 0 Tr.nil Tr.nil) else CR.ret (Value.bool false) (AW.mk 0 Tr.nil Tr.nil) else bif m_sameE p q p (m_fst p q) != Int.ofNat 0 then CR.ret (Value.bool false) (AW.mk 0 Tr.nil Tr.nil) else bif m_ftEL (m_tm p q) 0 (m_tmN p q) != Int.ofNat 0 then CR.ret (Value.bool false) (AW.mk 0 Tr.nil Tr.nil) else CR.ret (Value.bool false) (AW.mk 0 Tr.nil Tr.nil) else CR.fail 420 else CR.fail 420 else bif m_link p q then bif m_mir p q then bif m_sameE p q p (m_fst p q) != Int.ofNat 0 then CR.ret (Value.bool false) (AW.mk 0 Tr.nil Tr.nil) else CR.ret (Value.bool false) (AW.mk 0 Tr.nil Tr.nil) else bif m_sameE p q p (m_fst p q) != Int.ofNat 0 then CR.ret (Value.bool false) (AW.mk 0 Tr.nil Tr.nil) else CR.ret (Value.bool false) (AW.mk 0 Tr.nil Tr.nil) else CR.fail 420 else CR.fail 420 else CR.fail 420 else CR.fail 420 else CR.fail 420 := by kernel_rfl

end Go.Proofs

/- The law of Schubert's links: the numbers. -/
namespace Go.Num
open Go.Proofs

theorem link_fst {p q : Int} (h : link p q = true) : link p (fst p q) = true := by
  rw [link_iff] at h ⊢
  obtain ⟨h1, h2, h3, h4, h5⟩ := h
  have hg : Int.gcd q p = 1 := by rw [Int.gcd_comm]; exact h5
  refine ⟨h1, h2, fst_nonneg h3 h4, ?_, ?_⟩
  · unfold fst; omega
  · unfold fst
    by_cases c : q ≤ inv q p
    · rw [Int.min_eq_left c]; exact h5
    · rw [Int.min_eq_right (by omega), Int.gcd_comm]; exact inv_gcd h3 (by omega) hg

theorem fst_fst {p q : Int} (h : link p q = true) : fst p (fst p q) = fst p q := by
  rw [link_iff] at h
  obtain ⟨h1, h2, h3, h4, h5⟩ := h
  have hg : Int.gcd q p = 1 := by rw [Int.gcd_comm]; exact h5
  by_cases c : q ≤ inv q p
  · have e : fst p q = q := by unfold fst; omega
    rw [e, e]
  · have e : fst p q = inv q p := by unfold fst; omega
    rw [e]
    unfold fst
    rw [inv_inv h3 h4 hg]
    omega

theorem csum_fst {p q : Int} (h : link p q = true) : csum p (fst p q) = csum p q := by
  rw [link_iff] at h
  obtain ⟨h1, h2, h3, h4, h5⟩ := h
  by_cases c : q ≤ inv q p
  · have e : fst p q = q := by unfold fst; omega
    rw [e]
  · have e : fst p q = inv q p := by unfold fst; omega
    have hi := inv_nonneg q (show 0 < p by omega)
    rw [e]
    exact csum_inv (by omega) h4 h5

theorem link_mirror {p q : Int} (h : link p q = true) (hp : 1 < p) : link p (p - q) = true ∧ 0 < q := by
  rw [link_iff] at h ⊢
  obtain ⟨h1, h2, h3, h4, h5⟩ := h
  have hq : 0 < q := by
    by_cases c : q = 0
    · subst c; simp at h5; omega
    · omega
  refine ⟨⟨h1, h2, by omega, by omega, ?_⟩, hq⟩
  rw [Int.gcd_self_sub_right]
  exact h5

theorem neg_rest {p q : Int} (h0 : 0 < q) (h1 : q < p) : (-q) % p = p - q := by
  have : (-q) % p = (p - q) % p := by rw [Int.sub_eq_add_neg, Int.add_comm, Int.add_emod_right]
  rw [this, Int.emod_eq_of_lt (by omega) (by omega)]

theorem mirror_iff {p q : Int} (h : link p q = true) (hp : 2 < p) : fst p q = fst p (p - q) ↔ (q * q).tmod p = p - 1 := by
  obtain ⟨hm, hq⟩ := link_mirror h (by omega)
  rw [link_iff] at h hm
  obtain ⟨h1, h2, h3, h4, h5⟩ := h
  obtain ⟨m1, m2, m3, m4, m5⟩ := hm
  rw [fst_same h3 h4 (by rw [Int.gcd_comm]; exact h5) m3 m4 (by rw [Int.gcd_comm]; exact m5)]
  have h0 : 0 ≤ q * (p - q) := Int.mul_nonneg h3 m3
  have h6 : 0 ≤ q * q := Int.mul_nonneg h3 h3
  rw [Int.tmod_eq_emod_of_nonneg h0, Int.tmod_eq_emod_of_nonneg h6, rest_one (show 1 < p by omega)]
  have hlt := Int.emod_lt_of_pos (q * q) (show 0 < p by omega)
  have hnn := Int.emod_nonneg (q * q) (show p ≠ 0 by omega)
  have he := Int.emod_add_mul_ediv (q * q) p
  constructor
  · rintro (c | c | ⟨k, hk⟩)
    · omega
    · exfalso
      have h2q : p = 2 * q := by omega
      rw [h2q] at h5
      have : Int.gcd (2 * q) q = q.natAbs := Int.gcd_mul_left_left ..
      omega
    · have hd : p ∣ (q * q) % p + 1 := ⟨q - k - q * q / p, by grind⟩
      obtain ⟨j, hj⟩ := hd
      by_cases c1 : j ≤ 0
      · have := Int.mul_le_mul_of_nonneg_left c1 (show 0 ≤ p by omega)
        omega
      · by_cases c2 : 2 ≤ j
        · have := Int.mul_le_mul_of_nonneg_left c2 (show 0 ≤ p by omega)
          omega
        · have : j = 1 := by omega
          subst this
          omega
  · intro c
    exact .inr (.inr ⟨q - 1 - q * q / p, by grind⟩)

/-- The first number of a row is taken last. -/
theorem ftM_shift (z : Nat → Int) : ∀ (n : Nat) (P Q : Int), ftM z (n + 1) P Q = if (ftM (fun i => z (i + 1)) n P Q).1 = true then ftM z 1 (ftM (fun i => z (i + 1)) n P Q).2.1 (ftM (fun i => z (i + 1)) n P Q).2.2 else ftM (fun i => z (i + 1)) n P Q := by
  intro n
  induction n with
  | zero => intro P Q; rfl
  | succ n ih =>
    intro P Q
    have e : ftM (fun i => z (i + 1)) (n + 1) P Q = if z (n + 1) < 1 ∨ z (n + 1) > (1000000 - Q).tdiv P then (false, P, Q) else ftM (fun i => z (i + 1)) n (z (n + 1) * P + Q) P := rfl
    rw [ftM, e]
    by_cases c : z (n + 1) < 1 ∨ z (n + 1) > (1000000 - Q).tdiv P
    · rw [if_pos c, if_pos c]; rfl
    · rw [if_neg c, if_neg c, ih]

theorem ftM_terms : ∀ (a b : Int), 0 ≤ b → b ≤ a → a ≤ 1000000 → Int.gcd a b = 1 → ∀ z : Nat → Int, (∀ i t, (terms a b)[i]? = some t → z i = t) → ftM z (terms a b).length 1 0 = (true, a, b) := by
  intro a b
  induction a, b using terms.induct with
  | case1 a b h ih =>
    intro hb hba ha hg z hz
    obtain ⟨h0, h1, h2, h3, h4, h5⟩ := tdm (show 0 ≤ a by omega) h
    have ht : 1 ≤ a.tdiv b := by
      by_cases c1 : 1 ≤ a.tdiv b
      · exact c1
      · have : a.tdiv b = 0 := by omega
        rw [this] at h5
        omega
    rw [terms, dif_pos h] at hz ⊢
    have hz0 := hz 0 _ rfl
    have := ih h1 (by omega) (by omega) (by rw [gcd_tmod]; exact hg) (fun i => z (i + 1)) (fun i t hi => hz (i + 1) t (by simpa using hi))
    rw [List.length_cons, ftM_shift, this]
    simp only [if_true]
    rw [ftM, ftM, hz0]
    have hle : a.tdiv b ≤ (1000000 - a.tmod b).tdiv b := by
      have e := Int.tdiv_mul_add_tmod (1000000 - a.tmod b) b
      have hr := Int.tmod_lt_of_pos (1000000 - a.tmod b) h
      by_cases c : a.tdiv b ≤ (1000000 - a.tmod b).tdiv b
      · exact c
      · exfalso
        have := Int.mul_le_mul_of_nonneg_right (show (1000000 - a.tmod b).tdiv b + 1 ≤ a.tdiv b by omega) hb
        rw [Int.add_mul] at this
        omega
    rw [if_neg (by omega), h5]
  | case2 a b h =>
    intro hb hba ha hg z hz
    have : b = 0 := by omega
    subst this
    rw [terms, dif_neg h]
    simp at hg
    have : a = 1 := by omega
    subst this
    rfl

end Go.Num
namespace Go.Proofs
open Go Go.Ev Go.Num

theorem zAt_row (ts : List Int) (i : Nat) (t : Int) (h : ts[i]? = some t) : zAt (m_row ts) (0 + i) = t := by
  unfold zAt m_row
  rw [Nat.zero_add, List.getElem?_map, h]
  rfl

theorem okL_row (ts : List Int) (h : ts.length ≤ 1000000) : m_okL (m_row ts) 0 ts.length = true :=
  @decide_eq_true _ (Classical.propDecidable _) ⟨by omega, fun j hj => ⟨ts[j], by unfold m_row; rw [Nat.zero_add, List.getElem?_map, List.getElem?_eq_getElem hj]; rfl⟩⟩

theorem ft_terms {p q : Int} (h : link p q = true) (hq : 0 < q) : m_okL (m_tm p q) 0 (m_tmN p q) = true ∧ m_ftEL (m_tm p q) 0 (m_tmN p q) = 0 ∧ m_ftXL (m_tm p q) 0 (m_tmN p q) = p ∧ m_ftYL (m_tm p q) 0 (m_tmN p q) = q := by
  rw [link_iff] at h
  obtain ⟨h1, h2, h3, h4, h5⟩ := h
  have hs := terms_short 20 p q h3 h4 (by omega)
  have hf := ftM_terms p q h3 (by omega) h2 h5 (fun j => zAt (m_tm p q) (0 + j)) (fun i t hi => zAt_row _ i t hi)
  have hE : m_ftEL (m_tm p q) 0 (m_tmN p q) = 0 := by
    unfold m_ftEL m_ftE m_tmN
    rw [if_neg (by omega), if_neg, hf]
    · rfl
    · rintro ⟨hl, h⟩
      obtain ⟨us, t, e, ht⟩ := terms_last p q hq h4 h5
      have hz : zAt (m_tm p q) (0 + ((terms p q).length - 1)) = t := zAt_row _ _ _ (by rw [e]; simp)
      have h : zAt (m_tm p q) (0 + ((terms p q).length - 1)) = 1 := h
      rw [hz] at h
      omega
  refine ⟨okL_row _ (by omega), hE, ?_, ?_⟩
  · unfold m_ftXL m_ftX
    have := hE
    unfold m_ftEL at this
    rw [if_pos this]
    unfold m_tmN
    rw [hf]
  · unfold m_ftYL m_ftY
    have := hE
    unfold m_ftEL at this
    rw [if_pos this]
    unfold m_tmN
    rw [hf]

end Go.Proofs

