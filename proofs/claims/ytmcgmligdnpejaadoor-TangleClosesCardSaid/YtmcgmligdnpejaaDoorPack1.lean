/- What the claim is proved with, part 1: the evaluator and the contracts of the calls. -/
import Derived.Test.YtmcgmligdnpejaaDoorSymBase
import Derived.Test.YtmcgmligdnpejaaDoorEvMemOf
import Derived.Test.YtmcgmligdnpejaaDoorRows
import Derived.FnData
import Derived.MakeChecks
import Derived.ChangeSame
import Derived.IntWalk
/- The package variable of chapter 6, as memory. -/
namespace Go.Proofs
open Go Go.Ev

def memL (l : List Value) : Nat → Option Value := fun j => l[j]?
def tabM : Mem := fun b j => match Nat.beq b 0 with
  | true => memL [I 0, I 1] j
  | false => none

end Go.Proofs

/- What the package variable of chapter 6 holds, as memory: from the row's premise to the memory that came in. -/
namespace Go.Proofs
open Go Go.Ev Go.ChangeShapes

theorem one_int {H : Type} {enc : TypeId × Value → H} {P : Program} {w : World} {base fuel : Nat} {spare : Nat → Bool} {held : Bool} {t : TypeId} {cs : List Value} {k : IntKind} {z : Int} {y : DataW H × List MemPlace} (ht : P.underlying t = some (.int k))
    (h : DataW.trod enc P w base spare held fuel t cs = some y) (hy : y.1 = .lit (.int k z)) : cs = [.int k z] := by
  obtain ⟨n, h1, h2, _⟩ := DataW.trod_int ht h
  subst h2
  simp only [DataW.lit.injEq, Lit.int.injEq, true_and] at hy
  subst hy
  exact h1

theorem laid_mem {W : World} {x : String × DataW Unit} (hx : x = ("forcola/tangle.zero", YtmcgmligdnpejaaDoor.Rows.laid_forcola_tangle_zero)) (hL : laidMetH Tryd.prog [x] W) : ∀ b j u, tabM b j = some u → memOf W b j = some u := by
  subst hx
  rw [MakeChecks.laidMetH_plain _ _ _ (by kernel_rfl)] at hL
  obtain ⟨ps, ⟨g, t, cs, f, p1, q1, a1, a2, a3, a4, _⟩, _⟩ := hL
  have hg : Tryd.prog.globalNamed "forcola/tangle.zero" = some 0 := by kernel_rfl
  obtain rfl := Option.some.inj (hg.symm.trans a1)
  obtain rfl := Option.some.inj ((show (Tryd.prog.globals[0]?).map (·.type) = some 74 by kernel_rfl).symm.trans a2)
  obtain ⟨y0, y1, n, hy, hl, h0, h1⟩ := trod_struct2 (f0 := ⟨"p", 2, 0, false, "", "forcola/tangle", 0⟩) (f1 := ⟨"q", 2, 1, false, "", "forcola/tangle", 8⟩) (by kernel_rfl) a4
  have hu : Tryd.prog.underlying 2 = some (.int .i64) := by kernel_rfl
  have hc : Tryd.prog.cellsOf 2 = 1 := by kernel_rfl
  have hc2 : Tryd.prog.cellsOf 74 = 2 := by kernel_rfl
  have hd : (DataW.agg [.lit (.int .i64 0), .lit (.int .i64 1)] : DataW Unit) = .agg [y0.1, y1.1] := congrArg Prod.fst hy
  simp only [DataW.agg.injEq, List.cons.injEq, and_true] at hd
  have e0 := one_int hu h0 hd.1.symm
  have e1 := one_int hu h1 hd.2.symm
  rw [hc2] at hl
  simp only [hc] at e0 e1
  have hcs : cs.toList = [I 0, I 1] := by
    generalize cs.toList = l at hl e0 e1
    match l, hl with
    | [a, b], _ =>
      simp at e0 e1
      rw [e0, e1]
  intro b j u h
  unfold tabM at h
  split at h
  · rename_i hb
    have := Nat.eq_of_beq_eq_true hb
    subst this
    have hcell := World.var?_cell hg a3 j
    have hj : cs[j]? = some u := by
      have : cs.toList[j]? = some u := by rw [hcs]; exact h
      simpa using this
    rw [hj] at hcell
    unfold memL at h
    have : ∃ z, u = I z := by
      match j, h with
      | 0, h => exact ⟨0, (Option.some.inj h).symm⟩
      | 1, h => exact ⟨1, (Option.some.inj h).symm⟩
    obtain ⟨z, rfl⟩ := this
    exact memOf_int hcell
  · cases h

end Go.Proofs

/- Rules for loops. -/
namespace Go.Proofs
open Go Go.Ev

theorem fnsSC (r : Mem) : (SC r).fns = S0.fns := by unfold SC Cfg.sym; rfl
theorem bodySC (r : Mem) (f : Nat) : bodyOf (SC r) f = bodyOf S0 f := by unfold bodyOf; rw [fnsSC]

/-- Into a function whose body has this name. -/
theorem enterN {r : Mem} {t : Tbl} {ms : Tr Nat} {L d f m n : Nat} {args : List Value} {A : AW} {k : KV} {rs : List ResultVar} (c : Code) (hc : c = bodyOf S0 f) (hb : hasBody (SC r) f = true) (hn : ntm (SC r) f = n) (hm : maskFor ms f n = m) (hr : resOf (SC r) f = rs)
    (hl : Nat.ble args.length n = true) (ht : t f = none) :
    (lvlT (SC r) t ms L (d + 1)).call f args A k = run (SC r) m n L c (lvlT (SC r) t ms L d) none (finK (SC r) m rs k) kx242 (finK (SC r) m rs k) (sc0 m args) (tr0 m args) [] A := by
  rw [enter hb hn hm hr hl ht, bodySC, ← hc]

/-- Rows of code, taken together from the left. -/
theorem seqA {C : Cfg} {m n L : Nat} (a b d : Code) : run C m n L (.seq a (.seq b d)) = run C m n L (.seq (.seq a b) d) := rfl

theorem run_while {C : Cfg} {m n L : Nat} {fs : FnsC} {ro : Option Nat} {kn : KS} {kx : Nat → KS} {kr : KS} (a b d : Code) (id : Nat) : run C m n L (.seq a (.seq (.block id (.loop b)) d)) fs ro kn kx kr =
    run C m n L a fs ro (cLoop (fun kl => run C m n L b fs ro kl (fun j => match Nat.beq j id with | true => run C m n L d fs ro kn kx kr | false => kx j) kr) L) kx kr := rfl
theorem run_while0 {C : Cfg} {m n L : Nat} {fs : FnsC} {ro : Option Nat} {kn : KS} {kx : Nat → KS} {kr : KS} (a b : Code) (id : Nat) : run C m n L (.seq a (.block id (.loop b))) fs ro kn kx kr =
    run C m n L a fs ro (cLoop (fun kl => run C m n L b fs ro kl (fun j => match Nat.beq j id with | true => kn | false => kx j) kr) L) kx kr := rfl

theorem run_pre {C : Cfg} {m n L : Nat} (a b d e : Code) : run C m n L (.seq a (.seq (.seq b d) e)) = run C m n L (.seq (.seq a b) (.seq d e)) := rfl

theorem beqD (a b : Int) : (a == b) = decide (a = b) := by by_cases h : a = b <;> simp [h]

theorem dT {p : Prop} [Decidable p] (h : p) : decide p = true := decide_eq_true h
theorem dF {p : Prop} [Decidable p] (h : ¬ p) : decide p = false := decide_eq_false h
theorem eqT {a b : Int} (h : a = b) : (a == b) = true := by simp [h]
theorem eqF {a b : Int} (h : a ≠ b) : (a == b) = false := by simp [h]
theorem neT {a b : Int} (h : a ≠ b) : (a != b) = true := by simp [h]
theorem neF {a b : Int} (h : a = b) : (a != b) = false := by simp [h]
theorem wrI {z : Int} (h : -9223372036854775808 ≤ z ∧ z ≤ 9223372036854775807) : IntKind.wrap .i64 z = z := IntWalk.i64_in z h

/- Entries of a table, by the shape of the arguments. -/
def eI2 (g : Int → Int → Bool) (v : Int → Int → Value) : Ent := ent (fun args _ => match args with | [.int .i64 a, .int .i64 b] => g a b | _ => false) (fun args _ => match args with | [.int .i64 a, .int .i64 b] => v a b | _ => undef)
def eI4 (g : Int → Int → Int → Int → Bool) (v : Int → Int → Int → Int → Value) : Ent := ent (fun args _ => match args with | [.int .i64 a, .int .i64 b, .int .i64 c, .int .i64 d] => g a b c d | _ => false) (fun args _ => match args with | [.int .i64 a, .int .i64 b, .int .i64 c, .int .i64 d] => v a b c d | _ => undef)
def eA2 (g : Int → Int → Bool) (v : Int → Int → Value) : Ent := ent (fun args _ => match args with | [.agg ⟨[.int .i64 a, .int .i64 b]⟩] => g a b | _ => false) (fun args _ => match args with | [.agg ⟨[.int .i64 a, .int .i64 b]⟩] => v a b | _ => undef)
def eI1 (g : Int → Bool) (v : Int → Value) : Ent := ent (fun args _ => match args with | [.int .i64 a] => g a | _ => false) (fun args _ => match args with | [.int .i64 a] => v a | _ => undef)
def eA1I (g : Int → Int → Int → Bool) (v : Int → Int → Int → Value) : Ent := ent (fun args _ => match args with | [.agg ⟨[.int .i64 a, .int .i64 b]⟩, .int .i64 c] => g a b c | _ => false) (fun args _ => match args with | [.agg ⟨[.int .i64 a, .int .i64 b]⟩, .int .i64 c] => v a b c | _ => undef)
def eAA (g : Int → Int → Int → Int → Bool) (v : Int → Int → Int → Int → Value) : Ent := ent (fun args _ => match args with | [.agg ⟨[.int .i64 a, .int .i64 b]⟩, .agg ⟨[.int .i64 c, .int .i64 d]⟩] => g a b c d | _ => false) (fun args _ => match args with | [.agg ⟨[.int .i64 a, .int .i64 b]⟩, .agg ⟨[.int .i64 c, .int .i64 d]⟩] => v a b c d | _ => undef)
def e0 (v : Value) : Ent := ent (fun args _ => match args with | [] => true | _ => false) (fun _ _ => v)

theorem eI2_ok {C : Cfg} {f : Nat} {g : Int → Int → Bool} {v : Int → Int → Value} (h : ∀ a b, g a b = true → GrT C.P C.ro f [I a, I b] (v a b)) : EOk C f (eI2 g v) := EOk.ent fun args A hg => by
  split at hg
  · exact (h _ _ hg).ro rfl A
  · cases hg
theorem eI4_ok {C : Cfg} {f : Nat} {g : Int → Int → Int → Int → Bool} {v : Int → Int → Int → Int → Value} (h : ∀ a b c d, g a b c d = true → GrT C.P C.ro f [I a, I b, I c, I d] (v a b c d)) : EOk C f (eI4 g v) := EOk.ent fun args A hg => by
  split at hg
  · exact (h _ _ _ _ hg).ro rfl A
  · cases hg
theorem eA2_ok {C : Cfg} {f : Nat} {g : Int → Int → Bool} {v : Int → Int → Value} (h : ∀ a b, g a b = true → GrT C.P C.ro f [.agg ⟨[I a, I b]⟩] (v a b)) : EOk C f (eA2 g v) := EOk.ent fun args A hg => by
  split at hg
  · exact (h _ _ hg).ro rfl A
  · cases hg
theorem eI1_ok {C : Cfg} {f : Nat} {g : Int → Bool} {v : Int → Value} (h : ∀ a, g a = true → GrT C.P C.ro f [I a] (v a)) : EOk C f (eI1 g v) := EOk.ent fun args A hg => by
  split at hg
  · exact (h _ hg).ro rfl A
  · cases hg
theorem eA1I_ok {C : Cfg} {f : Nat} {g : Int → Int → Int → Bool} {v : Int → Int → Int → Value} (h : ∀ a b c, g a b c = true → GrT C.P C.ro f [.agg ⟨[I a, I b]⟩, I c] (v a b c)) : EOk C f (eA1I g v) := EOk.ent fun args A hg => by
  split at hg
  · exact (h _ _ _ hg).ro rfl A
  · cases hg
theorem eAA_ok {C : Cfg} {f : Nat} {g : Int → Int → Int → Int → Bool} {v : Int → Int → Int → Int → Value} (h : ∀ a b c d, g a b c d = true → GrT C.P C.ro f [.agg ⟨[I a, I b]⟩, .agg ⟨[I c, I d]⟩] (v a b c d)) : EOk C f (eAA g v) := EOk.ent fun args A hg => by
  split at hg
  · exact (h _ _ _ _ hg).ro rfl A
  · cases hg
theorem e0_ok {C : Cfg} {f : Nat} {v : Value} (h : GrT C.P C.ro f [] v) : EOk C f (e0 v) := EOk.ent fun args A hg => by
  split at hg
  · exact h.ro rfl A
  · cases hg

end Go.Proofs

/- Rests, run. -/
namespace Go.Proofs
open Go Go.Ev

theorem reA (r : Mem) (L : Nat) (a n : Int) : (lvlT (SC r) (fun _ => none) .nil L 1).call 76 [I a, I n] emptyA fin =
    bif !decide (n = 0) then bif !decide (n = 0) then CR.ret (Value.int IntKind.i64 (Int.tmod (IntKind.wrap IntKind.i64 (Int.tmod a n + n)) n)) (AW.mk 0 Tr.nil Tr.nil) else CR.fail 420 else CR.fail 420 := by kernel_rfl

theorem rest_ok (r : Mem) (a n : Int) (h : 0 < n) (h1 : n ≤ 1000000000000) : GrT Tryd.prog r 76 [I a, I n] (I (a % n)) :=
  GrT.of (SC_ok r) TOk.nil .nil rfl ⟨1, 1, by
    rw [reA]
    have e1 := Int.tmod_lt_of_pos a h
    have e2 : -n < a.tmod n := by
      have : (a.tmod n).natAbs < n.natAbs := by rw [Int.natAbs_tmod]; exact Nat.mod_lt _ (by omega)
      omega
    have e3 : IntKind.wrap IntKind.i64 (a.tmod n + n) = a.tmod n + n := wrI (by omega)
    have e4 : (a.tmod n + n).tmod n = a % n := by
      rw [Int.tmod_eq_emod_of_nonneg (by omega), Int.add_emod_right]
      have := Int.tmod_def a n
      rw [this, Int.sub_mul_emod_self_left]
    have h0 : ¬ n = 0 := by omega
    simp only [h0, decide_false, cond_true, Bool.not_false, e3, e4]
    rfl⟩

def m_restG (_a n : Int) : Bool := decide (0 < n) && decide (n ≤ 1000000000000)
def m_rest (a n : Int) : Int := a % n
theorem restE_ok (r : Mem) : EOk (SC r) 76 (eI2 m_restG fun a n => I (m_rest a n)) := eI2_ok fun a n h => by
  simp only [m_restG, Bool.and_eq_true, decide_eq_true_eq] at h
  exact rest_ok r a n h.1 h.2

end Go.Proofs

/- Greatest divisors, inverses, first links, run. -/
namespace Go.Proofs
open Go Go.Ev
set_option linter.unusedVariables false

noncomputable def cGc : Code := bodyOf S0 34
def TG (a b : Int) : Tr Value := ((tr0 19 [I a, I b]).put 4 (some (I 0)))

theorem gcA (r : Mem) (L : Nat) (fs : FnsC) (a b : Int) (A : AW) (kn : KS) (kx : Nat → KS) (kr : KS) (ms : List Nat) : run (SC r) 19 12 L (lc cGc) fs none kn kx kr (sc0 19 [I a, I b]) (tr0 19 [I a, I b]) ms A =
    kn [] (Tr.node (Tr.node Tr.nil (some (Value.int IntKind.i64 b)) Tr.nil) (some (Value.int IntKind.i64 a)) (Tr.node (Tr.node Tr.nil (some (Value.int IntKind.i64 (Int.ofNat 0))) Tr.nil) none Tr.nil)) ms A := by kernel_rfl

theorem gcB (r : Mem) (L : Nat) (fs : FnsC) (a b : Int) (s : List (Nat × Value)) (A : AW) (kn : KS) (kx : Nat → KS) (kr : KS) (ms : List Nat) : run (SC r) 19 12 L (ic (ic (lc (rc cGc)))) fs none kn kx kr s (TG a b) ms A =
    bif decide (b > 0) then bif !decide (b = 0) then kn [(10, Value.int IntKind.i64 (Int.tmod a b)), (9, Value.int IntKind.i64 b), (8, Value.int IntKind.i64 a), (7, Value.int IntKind.i64 b)] (Tr.node (Tr.node Tr.nil (some (Value.int IntKind.i64 (Int.tmod a b))) Tr.nil) (some (Value.int IntKind.i64 b)) (Tr.node (Tr.node Tr.nil (some (Value.int IntKind.i64 (Int.ofNat 0))) Tr.nil) none Tr.nil)) ms A else CR.fail 420 else kx 0 [(6, Value.bool false), (5, Value.int IntKind.i64 b)] (Tr.node (Tr.node Tr.nil (some (Value.int IntKind.i64 b)) Tr.nil) (some (Value.int IntKind.i64 a)) (Tr.node (Tr.node Tr.nil (some (Value.int IntKind.i64 (Int.ofNat 0))) Tr.nil) none Tr.nil)) ms A := by kernel_rfl

theorem gcC (r : Mem) (L : Nat) (fs : FnsC) (a b : Int) (s : List (Nat × Value)) (A : AW) (kn : KS) (kx : Nat → KS) (kr : KS) (ms : List Nat) : run (SC r) 19 12 L (rc (rc cGc)) fs none kn kx kr s (TG a b) ms A =
    kr [(11, Value.int IntKind.i64 a)] (Tr.node (Tr.node Tr.nil (some (Value.int IntKind.i64 b)) Tr.nil) (some (Value.int IntKind.i64 a)) (Tr.node (Tr.node Tr.nil (some (Value.int IntKind.i64 a)) Tr.nil) none Tr.nil)) ms A := by kernel_rfl

noncomputable def cIn : Code := bodyOf S0 75
def TI (a n l m f g : Int) (v9 : Tr Value) : Tr Value := .node (.node (.node (.node .nil (some (I f)) .nil) none .nil) (some (I n)) (.node v9 (some (I l)) .nil)) (some (I a)) (.node (.node (.node .nil (some (I g)) .nil) (some (I 0)) .nil) none (.node .nil (some (I m)) .nil))

theorem inA (r : Mem) (L : Nat) (fs : FnsC) (a n : Int) (A : AW) (kn : KS) (kx : Nat → KS) (kr : KS) (ms : List Nat) : run (SC r) 1011 32 L (.seq (.seq (lc cIn) (lc (rc cIn))) (lc (rc (rc cIn)))) fs none kn kx kr (sc0 1011 [I a, I n]) (tr0 1011 [I a, I n]) ms A =
    kn [] (Tr.node (Tr.node (Tr.node (Tr.node Tr.nil (some (Value.int IntKind.i64 (Int.ofNat 1))) Tr.nil) none Tr.nil) (some (Value.int IntKind.i64 n)) (Tr.node Tr.nil (some (Value.int IntKind.i64 a)) Tr.nil)) (some (Value.int IntKind.i64 a)) (Tr.node (Tr.node (Tr.node Tr.nil (some (Value.int IntKind.i64 (Int.ofNat 0))) Tr.nil) (some (Value.int IntKind.i64 (Int.ofNat 0))) Tr.nil) none (Tr.node Tr.nil (some (Value.int IntKind.i64 n)) Tr.nil))) ms A := by kernel_rfl

theorem inB (r : Mem) (L : Nat) (fs : FnsC) (a n l m f g : Int) (v9 : Tr Value) (s : List (Nat × Value)) (A : AW) (kn : KS) (kx : Nat → KS) (kr : KS) (ms : List Nat) : run (SC r) 1011 32 L (ic (ic (lc (rc (rc (rc cIn)))))) fs none kn kx kr s (TI a n l m f g v9) ms A =
    bif m != Int.ofNat 0 then bif !decide (m = 0) then Tr.casesOn v9 (kn [(28, Value.int IntKind.i64 (IntKind.wrap IntKind.i64 (f - IntKind.wrap IntKind.i64 (IntKind.wrap IntKind.i64 (Int.tdiv l m) * g)))), (27, Value.int IntKind.i64 (IntKind.wrap IntKind.i64 (IntKind.wrap IntKind.i64 (Int.tdiv l m) * g))), (26, Value.int IntKind.i64 g), (25, Value.int IntKind.i64 (IntKind.wrap IntKind.i64 (Int.tdiv l m))), (24, Value.int IntKind.i64 f), (23, Value.int IntKind.i64 g)] (Tr.node (Tr.node (Tr.node (Tr.node Tr.nil (some (Value.int IntKind.i64 g)) Tr.nil) none Tr.nil) (some (Value.int IntKind.i64 n)) (Tr.node (Tr.node Tr.nil (some (Value.int IntKind.i64 (IntKind.wrap IntKind.i64 (Int.tdiv l m)))) Tr.nil) (some (Value.int IntKind.i64 m)) Tr.nil)) (some (Value.int IntKind.i64 a)) (Tr.node (Tr.node (Tr.node Tr.nil (some (Value.int IntKind.i64 (IntKind.wrap IntKind.i64 (f - IntKind.wrap IntKind.i64 (IntKind.wrap IntKind.i64 (Int.tdiv l m) * g))))) Tr.nil) (some (Value.int IntKind.i64 (Int.ofNat 0))) Tr.nil) none (Tr.node Tr.nil (some (Value.int IntKind.i64 (IntKind.wrap IntKind.i64 (l - IntKind.wrap IntKind.i64 (IntKind.wrap IntKind.i64 (Int.tdiv l m) * m))))) Tr.nil))) ms A) fun l_1 v r => kn [(28, Value.int IntKind.i64 (IntKind.wrap IntKind.i64 (f - IntKind.wrap IntKind.i64 (IntKind.wrap IntKind.i64 (Int.tdiv l m) * g)))), (27, Value.int IntKind.i64 (IntKind.wrap IntKind.i64 (IntKind.wrap IntKind.i64 (Int.tdiv l m) * g))), (26, Value.int IntKind.i64 g), (25, Value.int IntKind.i64 (IntKind.wrap IntKind.i64 (Int.tdiv l m))), (24, Value.int IntKind.i64 f), (23, Value.int IntKind.i64 g)] (Tr.node (Tr.node (Tr.node (Tr.node Tr.nil (some (Value.int IntKind.i64 g)) Tr.nil) none Tr.nil) (some (Value.int IntKind.i64 n)) (Tr.node (Tr.node l_1 (some (Value.int IntKind.i64 (IntKind.wrap IntKind.i64 (Int.tdiv l m)))) r) (some (Value.int IntKind.i64 m)) Tr.nil)) (some (Value.int IntKind.i64 a)) (Tr.node (Tr.node (Tr.node Tr.nil (some (Value.int IntKind.i64 (IntKind.wrap IntKind.i64 (f - IntKind.wrap IntKind.i64 (IntKind.wrap IntKind.i64 (Int.tdiv l m) * g))))) Tr.nil) (some (Value.int IntKind.i64 (Int.ofNat 0))) Tr.nil) none (Tr.node Tr.nil (some (Value.int IntKind.i64 (IntKind.wrap IntKind.i64 (l - IntKind.wrap IntKind.i64 (IntKind.wrap IntKind.i64 (Int.tdiv l m) * m))))) Tr.nil))) ms A else CR.fail 420 else kx 0 [(13, Value.bool false), (12, Value.int IntKind.i64 m)] (Tr.node (Tr.node (Tr.node (Tr.node Tr.nil (some (Value.int IntKind.i64 f)) Tr.nil) none Tr.nil) (some (Value.int IntKind.i64 n)) (Tr.node v9 (some (Value.int IntKind.i64 l)) Tr.nil)) (some (Value.int IntKind.i64 a)) (Tr.node (Tr.node (Tr.node Tr.nil (some (Value.int IntKind.i64 g)) Tr.nil) (some (Value.int IntKind.i64 (Int.ofNat 0))) Tr.nil) none (Tr.node Tr.nil (some (Value.int IntKind.i64 m)) Tr.nil))) ms A := by kernel_rfl

def tR : Tbl := tcons 76 (eI2 m_restG fun a n => I (m_rest a n)) fun _ => none

theorem inC (r : Mem) (L : Nat) (ms' : Tr Nat) (a n l m f g : Int) (v9 : Tr Value) (s : List (Nat × Value)) (A : AW) (kn : KS) (kx : Nat → KS) (kr : KS) (ms : List Nat) : run (SC r) 1011 32 L (rc (rc (rc (rc cIn)))) (lvlT (SC r) tR ms' L 0) none kn kx kr s (TI a n l m f g v9) ms A =
    bif m_restG f n then kr [(31, Value.int IntKind.i64 (m_rest f n)), (30, Value.int IntKind.i64 n), (29, Value.int IntKind.i64 f)] (Tr.node (Tr.node (Tr.node (Tr.node Tr.nil (some (Value.int IntKind.i64 f)) Tr.nil) none Tr.nil) (some (Value.int IntKind.i64 n)) (Tr.node v9 (some (Value.int IntKind.i64 l)) Tr.nil)) (some (Value.int IntKind.i64 a)) (Tr.node (Tr.node (Tr.node Tr.nil (some (Value.int IntKind.i64 g)) Tr.nil) (some (Value.int IntKind.i64 (m_rest f n))) Tr.nil) none (Tr.node Tr.nil (some (Value.int IntKind.i64 m)) Tr.nil))) ms A else CR.fail 420 := by kernel_rfl

noncomputable def cFi : Code := bodyOf S0 29
def TFi (p q x : Int) : Tr Value := ((((tr0 115 [I p, I q]).put 4 (some (I 0))).put 5 (some (I 0))).put 6 (some (I x)))

theorem fiA (r : Mem) (L : Nat) (fs : FnsC) (p q : Int) (A : AW) (kn : KS) (kx : Nat → KS) (kr : KS) (ms : List Nat) : run (SC r) 115 24 L (.seq (lc cFi) (lc (lc (rc cFi)))) fs none kn kx kr (sc0 115 [I p, I q]) (tr0 115 [I p, I q]) ms A =
    kn [] (Tr.node (Tr.node Tr.nil (some (Value.int IntKind.i64 q)) (Tr.node Tr.nil (some (Value.int IntKind.i64 (Int.ofNat 0))) Tr.nil)) (some (Value.int IntKind.i64 p)) (Tr.node (Tr.node Tr.nil (some (Value.int IntKind.i64 (Int.ofNat 0))) Tr.nil) none (Tr.node Tr.nil (some (Value.int IntKind.i64 (Int.ofNat 0))) Tr.nil))) ms A := by kernel_rfl

theorem fiB (r : Mem) (L : Nat) (fs : FnsC) (p q x : Int) (s : List (Nat × Value)) (A : AW) (kn : KS) (kx : Nat → KS) (kr : KS) (ms : List Nat) : run (SC r) 115 24 L (ic (ic (rc (lc (rc cFi))))) fs none kn kx kr s (TFi p q x) ms A =
    bif decide (x < q) then bif !decide (p = 0) then bif !decide (p = 0) then bif Int.tmod (IntKind.wrap IntKind.i64 (x * q)) p == Int.tmod (Int.ofNat 1) p then kr [(21, Value.int IntKind.i64 x), (20, Value.int IntKind.i64 p)] (Tr.node (Tr.node Tr.nil (some (Value.int IntKind.i64 q)) (Tr.node Tr.nil (some (Value.int IntKind.i64 x)) Tr.nil)) (some (Value.int IntKind.i64 p)) (Tr.node (Tr.node Tr.nil (some (Value.int IntKind.i64 p)) Tr.nil) none (Tr.node Tr.nil (some (Value.int IntKind.i64 x)) Tr.nil))) ms A else kn [(11, Value.int IntKind.i64 (IntKind.wrap IntKind.i64 (x + Int.ofNat 1))), (10, Value.int IntKind.i64 x)] (Tr.node (Tr.node Tr.nil (some (Value.int IntKind.i64 q)) (Tr.node Tr.nil (some (Value.int IntKind.i64 (Int.ofNat 0))) Tr.nil)) (some (Value.int IntKind.i64 p)) (Tr.node (Tr.node Tr.nil (some (Value.int IntKind.i64 (Int.ofNat 0))) Tr.nil) none (Tr.node Tr.nil (some (Value.int IntKind.i64 (IntKind.wrap IntKind.i64 (x + Int.ofNat 1)))) Tr.nil))) ms A else CR.fail 420 else CR.fail 420 else kx 0 [(9, Value.bool false), (8, Value.int IntKind.i64 q), (7, Value.int IntKind.i64 x)] (Tr.node (Tr.node Tr.nil (some (Value.int IntKind.i64 q)) (Tr.node Tr.nil (some (Value.int IntKind.i64 (Int.ofNat 0))) Tr.nil)) (some (Value.int IntKind.i64 p)) (Tr.node (Tr.node Tr.nil (some (Value.int IntKind.i64 (Int.ofNat 0))) Tr.nil) none (Tr.node Tr.nil (some (Value.int IntKind.i64 x)) Tr.nil))) ms A := by kernel_rfl

theorem fiC (r : Mem) (L : Nat) (fs : FnsC) (p q x : Int) (s : List (Nat × Value)) (A : AW) (kn : KS) (kx : Nat → KS) (kr : KS) (ms : List Nat) : run (SC r) 115 24 L (rc (rc cFi)) fs none kn kx kr s (TFi p q x) ms A =
    kr [(23, Value.int IntKind.i64 q), (22, Value.int IntKind.i64 p)] (Tr.node (Tr.node Tr.nil (some (Value.int IntKind.i64 q)) (Tr.node Tr.nil (some (Value.int IntKind.i64 q)) Tr.nil)) (some (Value.int IntKind.i64 p)) (Tr.node (Tr.node Tr.nil (some (Value.int IntKind.i64 p)) Tr.nil) none (Tr.node Tr.nil (some (Value.int IntKind.i64 x)) Tr.nil))) ms A := by kernel_rfl

noncomputable def cBe : Code := bodyOf S0 65
def TBe (p q x : Int) : Tr Value := ((((tr0 115 [I p, I q]).put 4 (some (I 0))).put 5 (some (I 0))).put 6 (some (I x)))

theorem beA (r : Mem) (L : Nat) (fs : FnsC) (p q : Int) (A : AW) (kn : KS) (kx : Nat → KS) (kr : KS) (ms : List Nat) : run (SC r) 115 27 L (.seq (.seq (lc cBe) (lc (rc cBe))) (lc (rc (rc cBe)))) fs none kn kx kr (sc0 115 [I p, I q]) (tr0 115 [I p, I q]) ms A =
    bif q == Int.ofNat 0 then kr [(10, Value.int IntKind.i64 (IntKind.wrap IntKind.i64 (Int.ofNat 0 - p))), (9, Value.int IntKind.i64 p)] (Tr.node (Tr.node Tr.nil (some (Value.int IntKind.i64 q)) (Tr.node Tr.nil (some (Value.int IntKind.i64 (IntKind.wrap IntKind.i64 (Int.ofNat 0 - p)))) Tr.nil)) (some (Value.int IntKind.i64 p)) (Tr.node (Tr.node Tr.nil (some (Value.int IntKind.i64 (Int.ofNat 0))) Tr.nil) none Tr.nil)) ms A else kn [] (Tr.node (Tr.node Tr.nil (some (Value.int IntKind.i64 q)) (Tr.node Tr.nil (some (Value.int IntKind.i64 (Int.ofNat 0))) Tr.nil)) (some (Value.int IntKind.i64 p)) (Tr.node (Tr.node Tr.nil (some (Value.int IntKind.i64 (Int.ofNat 0))) Tr.nil) none (Tr.node Tr.nil (some (Value.int IntKind.i64 (Int.ofNat 0))) Tr.nil))) ms A := by kernel_rfl

theorem beB (r : Mem) (L : Nat) (fs : FnsC) (p q x : Int) (s : List (Nat × Value)) (A : AW) (kn : KS) (kx : Nat → KS) (kr : KS) (ms : List Nat) : run (SC r) 115 27 L (ic (ic (rc (rc (rc cBe))))) fs none kn kx kr s (TBe p q x) ms A =
    bif !decide (q = 0) then bif Int.tmod (IntKind.wrap IntKind.i64 (IntKind.wrap IntKind.i64 (p * x) + Int.ofNat 1)) q == Int.ofNat 0 then bif !decide (q = 0) then kr [(26, Value.int IntKind.i64 x), (25, Value.int IntKind.i64 (IntKind.wrap IntKind.i64 (Int.tdiv (IntKind.wrap IntKind.i64 (IntKind.wrap IntKind.i64 (p * x) + Int.ofNat 1)) q))), (24, Value.int IntKind.i64 q), (23, Value.int IntKind.i64 (IntKind.wrap IntKind.i64 (IntKind.wrap IntKind.i64 (p * x) + Int.ofNat 1))), (22, Value.int IntKind.i64 (IntKind.wrap IntKind.i64 (p * x))), (21, Value.int IntKind.i64 x), (20, Value.int IntKind.i64 p)] (Tr.node (Tr.node Tr.nil (some (Value.int IntKind.i64 q)) (Tr.node Tr.nil (some (Value.int IntKind.i64 x)) Tr.nil)) (some (Value.int IntKind.i64 p)) (Tr.node (Tr.node Tr.nil (some (Value.int IntKind.i64 (IntKind.wrap IntKind.i64 (Int.tdiv (IntKind.wrap IntKind.i64 (IntKind.wrap IntKind.i64 (p * x) + Int.ofNat 1)) q)))) Tr.nil) none (Tr.node Tr.nil (some (Value.int IntKind.i64 x)) Tr.nil))) ms A else CR.fail 420 else kn [(12, Value.int IntKind.i64 (IntKind.wrap IntKind.i64 (x + Int.ofNat 1))), (11, Value.int IntKind.i64 x)] (Tr.node (Tr.node Tr.nil (some (Value.int IntKind.i64 q)) (Tr.node Tr.nil (some (Value.int IntKind.i64 (Int.ofNat 0))) Tr.nil)) (some (Value.int IntKind.i64 p)) (Tr.node (Tr.node Tr.nil (some (Value.int IntKind.i64 (Int.ofNat 0))) Tr.nil) none (Tr.node Tr.nil (some (Value.int IntKind.i64 (IntKind.wrap IntKind.i64 (x + Int.ofNat 1)))) Tr.nil))) ms A else CR.fail 420 := by kernel_rfl

end Go.Proofs

/- Fractions, run. -/
namespace Go.Proofs
open Go Go.Ev

noncomputable def cFr : Code := bodyOf S0 71
abbrev FV (p q : Int) : Value := .agg ⟨[I p, I q]⟩
def AF (p q : Int) : AW := emptyA.new (.cells [I p, I q] 74 0 0)
def TF (p q d l : Int) : Tr Value := ((((tr0 31 [FV p q]).put 1 (some (.pointer (some ⟨0, 0, none⟩)))).put 2 (some (.bool false))).put 3 (some (I d))).put 4 (some (I l))

theorem frA (r : Mem) (L : Nat) (fs : FnsC) (p q : Int) (kn : KS) (kx : Nat → KS) (kr : KS) (ms : List Nat) : run (SC r) 31 32 L (.seq (.seq (lc cFr) (lc (rc cFr))) (lc (rc (rc cFr)))) fs none kn kx kr (sc0 31 [FV p q]) (tr0 31 [FV p q]) ms emptyA =
    bif q == Int.ofNat 0 then bif p == Int.ofNat 1 then kr [(10, Value.bool true), (9, Value.int IntKind.i64 p), (8, Value.pointer (some (Addr.mk 0 0 none)))] (Tr.node (Tr.node Tr.nil (some (Value.pointer (some (Addr.mk 0 0 none)))) Tr.nil) (some (Value.agg (Array.mk [Value.int IntKind.i64 p, Value.int IntKind.i64 q]))) (Tr.node Tr.nil (some (Value.bool true)) Tr.nil)) ms (AW.mk 1 (Tr.node Tr.nil (some (AObj.cells [Value.int IntKind.i64 p, Value.int IntKind.i64 q] 74 0 0)) Tr.nil) Tr.nil) else kr [(10, Value.bool false), (9, Value.int IntKind.i64 p), (8, Value.pointer (some (Addr.mk 0 0 none)))] (Tr.node (Tr.node Tr.nil (some (Value.pointer (some (Addr.mk 0 0 none)))) Tr.nil) (some (Value.agg (Array.mk [Value.int IntKind.i64 p, Value.int IntKind.i64 q]))) (Tr.node Tr.nil (some (Value.bool false)) Tr.nil)) ms (AW.mk 1 (Tr.node Tr.nil (some (AObj.cells [Value.int IntKind.i64 p, Value.int IntKind.i64 q] 74 0 0)) Tr.nil) Tr.nil) else kn [(14, Value.int IntKind.i64 q), (13, Value.pointer (some (Addr.mk 0 1 none))), (12, Value.int IntKind.i64 p), (11, Value.pointer (some (Addr.mk 0 0 none)))] (Tr.node (Tr.node (Tr.node Tr.nil (some (Value.int IntKind.i64 p)) Tr.nil) (some (Value.pointer (some (Addr.mk 0 0 none)))) Tr.nil) (some (Value.agg (Array.mk [Value.int IntKind.i64 p, Value.int IntKind.i64 q]))) (Tr.node (Tr.node Tr.nil (some (Value.int IntKind.i64 q)) Tr.nil) (some (Value.bool false)) Tr.nil)) ms (AW.mk 1 (Tr.node Tr.nil (some (AObj.cells [Value.int IntKind.i64 p, Value.int IntKind.i64 q] 74 0 0)) Tr.nil) Tr.nil) := by kernel_rfl

theorem frB (r : Mem) (L : Nat) (fs : FnsC) (p q d l : Int) (s : List (Nat × Value)) (kn : KS) (kx : Nat → KS) (kr : KS) (ms : List Nat) : run (SC r) 31 32 L (ic (ic (lc (rc (rc (rc cFr)))))) fs none kn kx kr s (TF p q d l) ms (AF p q) =
    bif l != Int.ofNat 0 then bif !decide (l = 0) then kn [(20, Value.int IntKind.i64 (Int.tmod d l)), (19, Value.int IntKind.i64 l), (18, Value.int IntKind.i64 d), (17, Value.int IntKind.i64 l)] (Tr.node (Tr.node (Tr.node Tr.nil (some (Value.int IntKind.i64 l)) Tr.nil) (some (Value.pointer (some (Addr.mk 0 0 none)))) Tr.nil) (some (Value.agg (Array.mk [Value.int IntKind.i64 p, Value.int IntKind.i64 q]))) (Tr.node (Tr.node Tr.nil (some (Value.int IntKind.i64 (Int.tmod d l))) Tr.nil) (some (Value.bool false)) Tr.nil)) ms (AW.mk 1 (Tr.node Tr.nil (some (AObj.cells [Value.int IntKind.i64 p, Value.int IntKind.i64 q] 74 0 0)) Tr.nil) Tr.nil) else CR.fail 420 else kx 0 [(16, Value.bool false), (15, Value.int IntKind.i64 l)] (Tr.node (Tr.node (Tr.node Tr.nil (some (Value.int IntKind.i64 d)) Tr.nil) (some (Value.pointer (some (Addr.mk 0 0 none)))) Tr.nil) (some (Value.agg (Array.mk [Value.int IntKind.i64 p, Value.int IntKind.i64 q]))) (Tr.node (Tr.node Tr.nil (some (Value.int IntKind.i64 l)) Tr.nil) (some (Value.bool false)) Tr.nil)) ms (AW.mk 1 (Tr.node Tr.nil (some (AObj.cells [Value.int IntKind.i64 p, Value.int IntKind.i64 q] 74 0 0)) Tr.nil) Tr.nil) := by kernel_rfl

theorem frC (r : Mem) (L : Nat) (fs : FnsC) (p q d l : Int) (s : List (Nat × Value)) (kn : KS) (kx : Nat → KS) (kr : KS) (ms : List Nat) : run (SC r) 31 32 L (rc (rc (rc (rc cFr)))) fs none kn kx kr s (TF p q d l) ms (AF p q) =
    bif decide (q > 0) then bif d == Int.ofNat 1 then kr [(31, Value.bool true), (30, Value.bool true), (29, Value.tuple (Array.mk [])), (28, Value.tuple (Array.mk [])), (27, Value.bool true), (26, Value.bool true), (25, Value.int IntKind.i64 d), (24, Value.bool true), (23, Value.bool true), (22, Value.int IntKind.i64 q), (21, Value.pointer (some (Addr.mk 0 1 none)))] (Tr.node (Tr.node (Tr.node Tr.nil (some (Value.int IntKind.i64 d)) Tr.nil) (some (Value.pointer (some (Addr.mk 0 0 none)))) Tr.nil) (some (Value.agg (Array.mk [Value.int IntKind.i64 p, Value.int IntKind.i64 q]))) (Tr.node (Tr.node Tr.nil (some (Value.int IntKind.i64 l)) Tr.nil) (some (Value.bool true)) Tr.nil)) ms (AW.mk 1 (Tr.node Tr.nil (some (AObj.cells [Value.int IntKind.i64 p, Value.int IntKind.i64 q] 74 0 0)) Tr.nil) Tr.nil) else bif d == Int.negSucc 0 then kr [(31, Value.bool true), (30, Value.bool true), (29, Value.bool true), (28, Value.int IntKind.i64 d), (27, Value.bool false), (26, Value.bool false), (25, Value.int IntKind.i64 d), (24, Value.bool true), (23, Value.bool true), (22, Value.int IntKind.i64 q), (21, Value.pointer (some (Addr.mk 0 1 none)))] (Tr.node (Tr.node (Tr.node Tr.nil (some (Value.int IntKind.i64 d)) Tr.nil) (some (Value.pointer (some (Addr.mk 0 0 none)))) Tr.nil) (some (Value.agg (Array.mk [Value.int IntKind.i64 p, Value.int IntKind.i64 q]))) (Tr.node (Tr.node Tr.nil (some (Value.int IntKind.i64 l)) Tr.nil) (some (Value.bool true)) Tr.nil)) ms (AW.mk 1 (Tr.node Tr.nil (some (AObj.cells [Value.int IntKind.i64 p, Value.int IntKind.i64 q] 74 0 0)) Tr.nil) Tr.nil) else kr [(31, Value.bool false), (30, Value.bool false), (29, Value.bool false), (28, Value.int IntKind.i64 d), (27, Value.bool false), (26, Value.bool false), (25, Value.int IntKind.i64 d), (24, Value.bool true), (23, Value.bool true), (22, Value.int IntKind.i64 q), (21, Value.pointer (some (Addr.mk 0 1 none)))] (Tr.node (Tr.node (Tr.node Tr.nil (some (Value.int IntKind.i64 d)) Tr.nil) (some (Value.pointer (some (Addr.mk 0 0 none)))) Tr.nil) (some (Value.agg (Array.mk [Value.int IntKind.i64 p, Value.int IntKind.i64 q]))) (Tr.node (Tr.node Tr.nil (some (Value.int IntKind.i64 l)) Tr.nil) (some (Value.bool false)) Tr.nil)) ms (AW.mk 1 (Tr.node Tr.nil (some (AObj.cells [Value.int IntKind.i64 p, Value.int IntKind.i64 q] 74 0 0)) Tr.nil) Tr.nil) else kr [(31, Value.bool false), (30, Value.tuple (Array.mk [])), (29, Value.tuple (Array.mk [])), (28, Value.tuple (Array.mk [])), (27, Value.tuple (Array.mk [])), (26, Value.tuple (Array.mk [])), (25, Value.tuple (Array.mk [])), (24, Value.bool false), (23, Value.bool false), (22, Value.int IntKind.i64 q), (21, Value.pointer (some (Addr.mk 0 1 none)))] (Tr.node (Tr.node (Tr.node Tr.nil (some (Value.int IntKind.i64 d)) Tr.nil) (some (Value.pointer (some (Addr.mk 0 0 none)))) Tr.nil) (some (Value.agg (Array.mk [Value.int IntKind.i64 p, Value.int IntKind.i64 q]))) (Tr.node (Tr.node Tr.nil (some (Value.int IntKind.i64 l)) Tr.nil) (some (Value.bool false)) Tr.nil)) ms (AW.mk 1 (Tr.node Tr.nil (some (AObj.cells [Value.int IntKind.i64 p, Value.int IntKind.i64 q] 74 0 0)) Tr.nil) Tr.nil) := by kernel_rfl

end Go.Proofs

/- Numbers: greatest divisors, inverses by a modulus, as the loops find them. -/
namespace Go.Num

/-- Euclid, by rests that may be negative. -/
def euc (d l : Int) : Int := if _h : l = 0 then d else euc l (d.tmod l)
termination_by l.natAbs
decreasing_by
  rw [Int.natAbs_tmod]
  exact Nat.mod_lt _ (by omega)

theorem gcd_tmod (d l : Int) : Int.gcd l (d.tmod l) = Int.gcd d l := by
  rw [Int.gcd_eq_natAbs_gcd_natAbs, Int.natAbs_tmod, Int.gcd_comm d l, Int.gcd_eq_natAbs_gcd_natAbs, Nat.gcd_comm, ← Nat.gcd_rec]

theorem euc_gcd (d l : Int) : (euc d l).natAbs = Int.gcd d l := by
  induction d, l using euc.induct with
  | case1 d => rw [euc, dif_pos rfl]; simp
  | case2 d l h ih => rw [euc, dif_neg h, ih, gcd_tmod]

/-- The same, as long as the rest is greater than 0. -/
def gcdP (a b : Int) : Int := if _h : b > 0 then gcdP b (a.tmod b) else a
termination_by b.toNat
decreasing_by
  have h1 := Int.tmod_lt_of_pos a _h
  omega

theorem gcdP_gcd (a b : Int) (ha : 0 ≤ a) (hb : 0 ≤ b) : gcdP a b = Int.gcd a b := by
  induction a, b using gcdP.induct with
  | case1 a b h ih =>
    rw [gcdP, dif_pos h, ih hb (Int.tmod_nonneg _ ha), gcd_tmod]
  | case2 a b h =>
    have : b = 0 := by omega
    subst this
    rw [gcdP, dif_neg h]; simp; omega

/-- A fraction. -/
def frac (p q : Int) : Bool := if q = 0 then decide (p = 1) else decide (q > 0) && (decide (euc p q = 1) || decide (euc p q = -1))

theorem frac_iff (p q : Int) : frac p q = true ↔ (q = 0 ∧ p = 1) ∨ (q > 0 ∧ Int.gcd p q = 1) := by
  unfold frac
  have := euc_gcd p q
  split
  · simp; omega
  · simp; omega

/-- The reference's fraction. -/
def fracR (p q : Int) : Bool := if q < 0 then false else if q = 0 then decide (p = 1) else decide (gcdP q (if p.tmod q < 0 then p.tmod q + q else p.tmod q) = 1)

theorem fracR_eq (p q : Int) : fracR p q = frac p q := by
  rw [Bool.eq_iff_iff, frac_iff]
  unfold fracR
  split
  · simp; omega
  · split
    · simp; omega
    · rename_i h1 h2
      have hq : q > 0 := by omega
      have e1 := Int.tmod_lt_of_pos p hq
      have e2 : -q < p.tmod q := by
        have : (p.tmod q).natAbs < q.natAbs := by rw [Int.natAbs_tmod]; exact Nat.mod_lt _ (by omega)
        omega
      have e3 : Int.gcd q (if p.tmod q < 0 then p.tmod q + q else p.tmod q) = Int.gcd p q := by
        split
        · rw [Int.gcd_add_self_right, gcd_tmod]
        · rw [gcd_tmod]
      rw [gcdP_gcd _ _ (by omega) (by split <;> omega), e3]
      simp; omega

/-- A link. -/
def link (p q : Int) : Bool := decide (q < p) && decide (p ≤ 1000000) && frac p q
def linkR (p q : Int) : Bool := decide (p ≥ 1) && decide (p ≤ 1000000) && decide (q ≥ 0) && decide (q < p) && decide (gcdP p q = 1)

theorem link_iff (p q : Int) : link p q = true ↔ 1 ≤ p ∧ p ≤ 1000000 ∧ 0 ≤ q ∧ q < p ∧ Int.gcd p q = 1 := by
  unfold link
  simp only [Bool.and_eq_true, frac_iff, decide_eq_true_eq]
  constructor
  · rintro ⟨⟨h1, h2⟩, (⟨rfl, rfl⟩ | ⟨h3, h4⟩)⟩
    · decide
    · exact ⟨by omega, h2, by omega, h1, h4⟩
  · rintro ⟨h1, h2, h3, h4, h5⟩
    refine ⟨⟨h4, h2⟩, ?_⟩
    by_cases hq : q = 0
    · subst hq
      simp at h5
      omega
    · exact .inr ⟨by omega, h5⟩

theorem linkR_eq (p q : Int) : linkR p q = link p q := by
  rw [Bool.eq_iff_iff, link_iff]
  unfold linkR
  simp only [Bool.and_eq_true, decide_eq_true_eq]
  constructor
  · rintro ⟨⟨⟨⟨h1, h2⟩, h3⟩, h4⟩, h5⟩
    rw [gcdP_gcd _ _ (by omega) h3] at h5
    exact ⟨h1, h2, h3, h4, by omega⟩
  · rintro ⟨h1, h2, h3, h4, h5⟩
    rw [gcdP_gcd _ _ (by omega) h3, h5]
    exact ⟨⟨⟨⟨h1, h2⟩, h3⟩, h4⟩, rfl⟩

/-- The factor of the first of two numbers. -/
def fac (l n f g : Int) : Int := if _h : n > 0 then fac n (l - l.tdiv n * n) g (f - l.tdiv n * g) else f
termination_by n.toNat
decreasing_by
  have h1 := Int.tmod_lt_of_pos l _h
  have := Int.tmod_def l n
  have h2 : l.tdiv n * n = n * l.tdiv n := Int.mul_comm _ _
  omega

/-- What stays as it is on the way. -/
structure Inv (a m l n f g : Int) : Prop where
  l0 : 0 ≤ l
  n0 : 0 ≤ n
  sum : (0 ≤ f ∧ g ≤ 0 ∧ f * n - g * l = m) ∨ (f ≤ 0 ∧ 0 ≤ g ∧ g * l - f * n = m)
  lm : m ∣ a * f - l
  nm : m ∣ a * g - n
  gcd : Int.gcd l n = Int.gcd a m
  lt : 0 < l ∨ 0 < n

theorem Inv.start {a m : Int} (ha : 0 ≤ a) (hm : 0 < m) : Inv a m a m 1 0 :=
  ⟨ha, by omega, .inl ⟨by omega, by omega, by omega⟩, ⟨0, by omega⟩, ⟨-1, by omega⟩, rfl, .inr hm⟩

theorem Inv.step {a m l n f g : Int} (h : Inv a m l n f g) (hn : n > 0) : Inv a m n (l - l.tdiv n * n) g (f - l.tdiv n * g) := by
  obtain ⟨l0, n0, sum, lm, nm, gcd, lt⟩ := h
  have ht0 : 0 ≤ l.tdiv n := Int.tdiv_nonneg l0 n0
  have e : l - l.tdiv n * n = l.tmod n := by have := Int.tmod_def l n; rw [Int.mul_comm] at this; exact this.symm
  refine ⟨n0, ?_, ?_, nm, ?_, ?_, .inl hn⟩
  · rw [e]; exact Int.tmod_nonneg _ l0
  · generalize l.tdiv n = t at *
    rcases sum with ⟨h1, h2, h3⟩ | ⟨h1, h2, h3⟩
    · refine .inr ⟨h2, ?_, ?_⟩
      · have : t * g ≤ 0 := Int.mul_nonpos_of_nonneg_of_nonpos ht0 h2
        omega
      · grind
    · refine .inl ⟨h2, ?_, ?_⟩
      · have : 0 ≤ t * g := Int.mul_nonneg ht0 h2
        omega
      · grind
  · obtain ⟨u, hu⟩ := lm
    obtain ⟨v, hv⟩ := nm
    generalize l.tdiv n = t at *
    exact ⟨u - t * v, by grind⟩
  · rw [e, gcd_tmod, gcd]

theorem le_mul1 {x y : Int} (hx : 0 ≤ x) (hy : 1 ≤ y) : x ≤ x * y := by
  have := Int.mul_le_mul_of_nonneg_left hy hx
  omega

/-- Bounds on the way. -/
theorem Inv.bound {a m l n f g : Int} (h : Inv a m l n f g) (hn : n > 0) : -m ≤ f ∧ f ≤ m ∧ 0 ≤ l.tdiv n ∧ l.tdiv n ≤ l ∧ 0 ≤ l.tdiv n * n ∧ l.tdiv n * n ≤ l ∧ -m ≤ l.tdiv n * g ∧ l.tdiv n * g ≤ m := by
  obtain ⟨l0, n0, sum, lm, nm, gcd, lt⟩ := h
  have ht0 : 0 ≤ l.tdiv n := Int.tdiv_nonneg l0 n0
  have e : l.tdiv n * n + l.tmod n = l := Int.tdiv_mul_add_tmod l n
  have hr := Int.tmod_nonneg n l0
  have htl : l.tdiv n * n ≤ l := by omega
  have ht := le_mul1 ht0 (show (1:Int) ≤ n by omega)
  generalize l.tdiv n = t at *
  rcases sum with ⟨h1, h2, h3⟩ | ⟨h1, h2, h3⟩
  · have a1 := le_mul1 h1 (show (1:Int) ≤ n by omega)
    have a2 : 0 ≤ t * -g := Int.mul_nonneg ht0 (by omega)
    have a3 := le_mul1 a2 (show (1:Int) ≤ n by omega)
    have a4 : -g * (t * n) ≤ -g * l := Int.mul_le_mul_of_nonneg_left htl (by omega)
    have a5 : t * -g * n = -g * (t * n) := by grind
    have a6 : -g * l = -(g * l) := by grind
    have a7 : t * -g = -(t * g) := by grind
    have a8 : 0 ≤ -g * l := Int.mul_nonneg (by omega) l0
    have a9 : 0 ≤ f * n := Int.mul_nonneg h1 n0
    omega
  · have h1' : 0 ≤ -f := by omega
    have a1 := le_mul1 h1' (show (1:Int) ≤ n by omega)
    have a2 : 0 ≤ t * g := Int.mul_nonneg ht0 h2
    have a3 := le_mul1 a2 (show (1:Int) ≤ n by omega)
    have a4 : g * (t * n) ≤ g * l := Int.mul_le_mul_of_nonneg_left htl h2
    have a5 : t * g * n = g * (t * n) := by grind
    have a6 : -f * n = -(f * n) := by grind
    have a8 : 0 ≤ g * l := Int.mul_nonneg h2 l0
    have a9 : 0 ≤ -f * n := Int.mul_nonneg h1' n0
    omega

/-- The factor leaves the rest that it must. -/
theorem fac_inv {a m : Int} (l n f g : Int) (h : Inv a m l n f g) : ∃ g' l', Inv a m l' 0 (fac l n f g) g' := by
  induction l, n, f, g using fac.induct with
  | case1 l n f g hn ih =>
    rw [fac, dif_pos hn]
    exact ih (h.step hn)
  | case2 l n f g hn =>
    rw [fac, dif_neg hn]
    have : n = 0 := by have := h.n0; omega
    subst this
    exact ⟨g, l, h⟩

/-- The inverse of a by n. -/
def inv (a n : Int) : Int := (fac a n 1 0) % n

theorem inv_nonneg (a : Int) {n : Int} (h : 0 < n) : 0 ≤ inv a n := Int.emod_nonneg _ (by omega)
theorem inv_lt (a : Int) {n : Int} (h : 0 < n) : inv a n < n := Int.emod_lt_of_pos _ h

theorem inv_dvd {a n : Int} (ha : 0 ≤ a) (hn : 0 < n) (hg : Int.gcd a n = 1) : n ∣ a * inv a n - 1 := by
  obtain ⟨g', l', h⟩ := fac_inv a n 1 0 (Inv.start ha hn)
  have h1 := h.gcd
  rw [hg] at h1
  simp at h1
  have h2 : l' = 1 := by have := h.l0; omega
  subst h2
  obtain ⟨u, hu⟩ := h.lm
  have h3 := Int.emod_add_mul_ediv (fac a n 1 0) n
  exact ⟨u - a * ((fac a n 1 0) / n), by unfold inv; grind⟩

/-- There is one alone. -/
theorem inv_only {a n x : Int} (ha : 0 ≤ a) (hn : 0 < n) (hg : Int.gcd a n = 1) (h0 : 0 ≤ x) (h1 : x < n) (hx : n ∣ a * x - 1) : x = inv a n := by
  have hi := inv_dvd ha hn hg
  have hd : n ∣ a * (x - inv a n) := by
    obtain ⟨u, hu⟩ := hi
    obtain ⟨v, hv⟩ := hx
    exact ⟨v - u, by grind⟩
  have hd2 : n ∣ x - inv a n := by
    have : Int.gcd n a = 1 := by rw [Int.gcd_comm]; exact hg
    rw [← Int.gcd_eq_natAbs_left_iff_dvd, Int.gcd_mul_right_right_of_gcd_eq_one this] at hd
    exact Int.gcd_eq_natAbs_left_iff_dvd.1 hd
  have b1 := inv_nonneg a hn
  have b2 := inv_lt a hn
  obtain ⟨k, hk⟩ := hd2
  have hk0 : k = 0 := by
    by_cases c : k = 0
    · exact c
    · exfalso
      by_cases c1 : 0 < k
      · have := Int.mul_le_mul_of_nonneg_left (show (1:Int) ≤ k by omega) (show 0 ≤ n by omega)
        omega
      · have := Int.mul_le_mul_of_nonneg_left (show k ≤ -1 by omega) (show 0 ≤ n by omega)
        omega
  subst hk0
  omega

theorem inv_gcd {a n : Int} (ha : 0 ≤ a) (hn : 0 < n) (hg : Int.gcd a n = 1) : Int.gcd (inv a n) n = 1 := by
  obtain ⟨u, hu⟩ := inv_dvd ha hn hg
  rw [Int.gcd_eq_one_iff]
  intro c hc hn
  have h1 : c ∣ a * inv a n := Int.dvd_mul_of_dvd_right hc
  have h2 : c ∣ n * u := Int.dvd_mul_of_dvd_left hn
  have : (1:Int) = a * inv a n - n * u := by omega
  rw [this]
  exact Int.dvd_sub h1 h2

theorem inv_inv {a n : Int} (ha : 0 ≤ a) (han : a < n) (hg : Int.gcd a n = 1) : inv (inv a n) n = a := by
  have hn : 0 < n := by omega
  refine (inv_only (inv_nonneg a hn) hn (inv_gcd ha hn hg) ha han ?_).symm
  rw [Int.mul_comm]
  exact inv_dvd ha hn hg

/-- The second number of the first link. -/
def fst (p q : Int) : Int := min q (inv q p)

/-- Rests by products. -/
theorem rest_one {p x : Int} (hp : 1 < p) : x % p = 1 ↔ p ∣ x - 1 := by
  constructor
  · intro h
    exact ⟨x / p, by have := Int.emod_add_mul_ediv x p; omega⟩
  · rintro ⟨k, hk⟩
    have : x = 1 + p * k := by omega
    rw [this, Int.add_mul_emod_self_left]
    exact Int.emod_eq_of_lt (by omega) hp

/-- The reference's word on it: least x below q with the product, or q. -/
def fstR (p q : Int) (x : Int) : Int := if _h : x < q then (if (x * q).tmod p = (1:Int).tmod p then x else fstR p q (x + 1)) else q
termination_by (q - x).toNat
decreasing_by omega

theorem prod_iff {p q x : Int} (hp : 1 ≤ p) (hq : 0 ≤ q) (hx : 0 ≤ x) : (x * q).tmod p = (1:Int).tmod p ↔ p ∣ q * x - 1 := by
  have h0 : 0 ≤ x * q := Int.mul_nonneg hx hq
  rw [Int.tmod_eq_emod_of_nonneg h0, Int.tmod_eq_emod_of_nonneg (by omega : (0:Int) ≤ 1)]
  by_cases c : p = 1
  · subst c
    simp [Int.emod_one]
  · have : (1:Int) % p = 1 := Int.emod_eq_of_lt (by omega) (by omega)
    rw [this, rest_one (by omega), Int.mul_comm]

theorem fstR_eq {p q : Int} (hl : 0 ≤ q) (hp : q < p) (hg : Int.gcd q p = 1) : ∀ x, 0 ≤ x → x ≤ q → x ≤ inv q p → fstR p q x = fst p q := by
  have hp0 : 0 < p := by omega
  intro x
  induction x using fstR.induct p q with
  | case1 x h hc =>
    intro h0 h1 h2
    rw [fstR, dif_pos h, if_pos hc]
    rw [prod_iff (by omega) hl h0] at hc
    have := inv_only hl hp0 hg h0 (by omega) hc
    unfold fst
    omega
  | case2 x h hc ih =>
    intro h0 h1 h2
    rw [fstR, dif_pos h, if_neg hc]
    rw [prod_iff (by omega) hl h0] at hc
    refine ih (by omega) (by omega) ?_
    have : x ≠ inv q p := fun e => hc (e ▸ inv_dvd hl hp0 hg)
    omega
  | case3 x h =>
    intro h0 h1 h2
    rw [fstR, dif_neg h]
    unfold fst
    omega

theorem fst_nonneg {p q : Int} (h0 : 0 ≤ q) (h : q < p) : 0 ≤ fst p q := by
  have := inv_nonneg q (show 0 < p by omega)
  unfold fst
  omega

/-- The same links. -/
theorem fst_same {p q s : Int} (h0 : 0 ≤ q) (h1 : q < p) (hq : Int.gcd q p = 1) (h2 : 0 ≤ s) (h3 : s < p) (hs : Int.gcd s p = 1) : fst p q = fst p s ↔ p = 1 ∨ q = s ∨ (q * s).tmod p = 1 := by
  have hp : 0 < p := by omega
  have hqs : 0 ≤ q * s := Int.mul_nonneg h0 h2
  by_cases c : p = 1
  · subst c
    have : q = s := by omega
    subst this
    simp
  · have e : (q * s).tmod p = 1 ↔ s = inv q p := by
      rw [Int.tmod_eq_emod_of_nonneg hqs, rest_one (by omega)]
      constructor
      · intro h
        exact inv_only h0 hp hq h2 h3 h
      · rintro rfl
        exact inv_dvd h0 hp hq
    rw [e]
    have b1 := inv_inv h0 h1 hq
    have b2 := inv_inv h2 h3 hs
    have b3 := inv_nonneg q hp
    have b4 := inv_nonneg s hp
    constructor
    · intro h
      unfold fst at h
      by_cases c1 : q ≤ inv q p
      · by_cases c2 : s ≤ inv s p
        · exact .inr (.inl (by omega))
        · refine .inr (.inr ?_)
          have : q = inv s p := by omega
          rw [this, b2]
      · by_cases c2 : s ≤ inv s p
        · exact .inr (.inr (by omega))
        · refine .inr (.inl ?_)
          have : inv q p = inv s p := by omega
          rw [← b1, ← b2, this]
    · rintro (h | rfl | h)
      · exact absurd h c
      · rfl
      · unfold fst
        rw [h, b1]
        omega

theorem dvd_mul_cop {n a x : Int} (h : Int.gcd n a = 1) (hd : n ∣ a * x) : n ∣ x := by
  rw [← Int.gcd_eq_natAbs_left_iff_dvd, Int.gcd_mul_right_right_of_gcd_eq_one h] at hd
  exact Int.gcd_eq_natAbs_left_iff_dvd.1 hd

/-- What is closed is a link. -/
theorem close_gcd {p q r s u v : Int} (h : s * u - r * v = 1) (hg : Int.gcd p q = 1) : Int.gcd (p * s + q * r) (p * v + q * u) = 1 := by
  rw [Int.gcd_eq_one_iff] at hg ⊢
  intro c h1 h2
  refine hg c ?_ ?_
  · have e : p = u * (p * s + q * r) - r * (p * v + q * u) := by grind
    rw [e]
    exact Int.dvd_sub (Int.dvd_mul_of_dvd_right h1) (Int.dvd_mul_of_dvd_right h2)
  · have e : q = s * (p * v + q * u) - v * (p * s + q * r) := by grind
    rw [e]
    exact Int.dvd_sub (Int.dvd_mul_of_dvd_right h2) (Int.dvd_mul_of_dvd_right h1)

/-- It does not depend on the two numbers. -/
theorem close_any {p q r s u v u' v' : Int} (h : s * u - r * v = 1) (h' : s * u' - r * v' = 1) (hs : s ≠ 0) : (p * s + q * r) ∣ (p * v + q * u) - (p * v' + q * u') := by
  have hg : Int.gcd s r = 1 := by
    rw [Int.gcd_eq_one_iff]
    intro c h1 h2
    rw [← h]
    exact Int.dvd_sub (Int.dvd_mul_of_dvd_left h1) (Int.dvd_mul_of_dvd_left h2)
  have hd : s ∣ r * (v - v') := ⟨u - u', by grind⟩
  obtain ⟨k, hk⟩ := dvd_mul_cop hg hd
  have hu : u - u' = r * k := by
    have : s * (u - u') = s * (r * k) := by grind
    exact Int.eq_of_mul_eq_mul_left hs this
  exact ⟨k, by grind⟩

theorem rest_same {n a b : Int} (h : n ∣ a - b) : a % n = b % n := by
  obtain ⟨k, hk⟩ := h
  have : a = b + n * k := by omega
  rw [this, Int.add_mul_emod_self_left]

end Go.Num

/- Fractions: what the loops answer. -/
namespace Go.Proofs
open Go Go.Ev Go.Num

def masks : Tr Nat := ((((((Tr.nil.put 71 (some 31)).put 34 (some 19)).put 75 (some 1011)).put 29 (some 115)).put 65 (some 115)).put 45 (some 51))

def m_gcd (a b : Int) : Int := gcdP a b
def m_frac (p q : Int) : Bool := frac p q

theorem fr_loop (r : Mem) (fs : FnsC) (L : Nat) (kx : Nat → KS) (kr : KS) (ms : List Nat) (p q : Int) (R : CR) : ∀ (j : Nat) (d l : Int) (s : List (Nat × Value)), l.natAbs < j → (∀ s, kx 0 s (TF p q (euc d l) 0) ms (AF p q) = R) →
    cLoop (fun kl => run (SC r) 31 32 L (ic (ic (lc (rc (rc (rc cFr)))))) fs none kl kx kr) j s (TF p q d l) ms (AF p q) = R := by
  intro j
  induction j with
  | zero => intro d l s h; omega
  | succ j ih =>
    intro d l s h hx
    rw [cLoop_succ, frB]
    by_cases hl : l = 0
    · subst hl
      rw [euc, dif_pos rfl] at hx
      exact hx _
    · have h0 : (l != Int.ofNat 0) = true := by simp; exact hl
      have h1 : (l.natAbs ≠ 0) := by omega
      have h2 : (d.tmod l).natAbs < l.natAbs := by rw [Int.natAbs_tmod]; exact Nat.mod_lt _ (by omega)
      simp only [h0, hl, decide_false, cond_true, Bool.not_false]
      rw [euc, dif_neg hl] at hx
      exact ih l (d.tmod l) _ (by omega) hx

theorem cFr_eq : cFr = .seq (lc cFr) (.seq (lc (rc cFr)) (.seq (lc (rc (rc cFr))) (.seq (.block 0 (.loop (ic (ic (lc (rc (rc (rc cFr)))))))) (rc (rc (rc (rc cFr))))))) := by kernel_rfl

theorem frac_ok (r : Mem) (p q : Int) : GrT Tryd.prog r 71 [FV p q] (.bool (frac p q)) :=
  GrT.of (SC_ok r) TOk.nil masks rfl ⟨q.natAbs + 1, 1, by
    rw [enterN (m := 31) (n := 32) (rs := [.tmp 2]) cFr rfl (by kernel_rfl) (by kernel_rfl) (by kernel_rfl) (by kernel_rfl) (by kernel_rfl) rfl]
    generalize hk : finK (SC r) 31 [.tmp 2] fin = kr
    rw [cFr_eq, seqA, seqA, run_while]
    refine (frA r _ _ p q _ _ _ _).trans ?_
    by_cases hq : q = 0
    · subst hq
      by_cases hp : p = 1
      · subst hp
        subst hk
        rfl
      · have : (p == Int.ofNat 1) = false := by simp; exact hp
        have h2 : frac p 0 = false := by simp [frac, hp]
        rw [h2]
        simp only [this, cond_false]
        subst hk
        rfl
    · have h0 : (q == Int.ofNat 0) = false := by simp; exact hq
      simp only [h0, cond_false]
      refine (show _ = _ from fr_loop r _ _ _ _ _ p q _ (q.natAbs + 1) p q _ (by omega) fun s => ?_)
      refine (frC r _ _ p q _ _ _ _ _ _ _).trans ?_
      subst hk
      unfold frac
      rw [if_neg hq]
      by_cases c1 : q > 0
      · by_cases c2 : euc p q = 1
        · have c2' : (euc p q == Int.ofNat 1) = true := by simp [c2]
          simp only [c1, c2', decide_true, cond_true]
          simp only [c2, decide_true, Bool.true_or, Bool.and_true]
          rfl
        · have c2' : (euc p q == Int.ofNat 1) = false := by simp; exact c2
          by_cases c3 : euc p q = -1
          · have c3' : (euc p q == Int.negSucc 0) = true := by simp [c3]
            simp only [c1, c2', c3', decide_true, cond_true, cond_false]
            simp only [c3, decide_true, Bool.or_true, Bool.and_true]
            rfl
          · have c3' : (euc p q == Int.negSucc 0) = false := by simp; exact c3
            simp only [c1, c2', c3', decide_true, cond_true, cond_false]
            simp only [c2, c3, decide_false, Bool.or_false, Bool.and_false]
            rfl
      · simp only [c1, decide_false, cond_false, Bool.false_and]
        rfl⟩

end Go.Proofs

/- Greatest divisors, inverses, first links: what the loops answer. -/
namespace Go.Proofs
open Go Go.Ev Go.Num

theorem gc_loop (r : Mem) (fs : FnsC) (L : Nat) (kx : Nat → KS) (kr : KS) (ms : List Nat) (A : AW) (R : CR) : ∀ (j : Nat) (a b : Int) (s : List (Nat × Value)), b.toNat < j → (∀ s b', kx 0 s (TG (gcdP a b) b') ms A = R) →
    cLoop (fun kl => run (SC r) 19 12 L (ic (ic (lc (rc cGc)))) fs none kl kx kr) j s (TG a b) ms A = R := by
  intro j
  induction j with
  | zero => intro a b s h; omega
  | succ j ih =>
    intro a b s h hx
    rw [cLoop_succ, gcB]
    by_cases hb : b > 0
    · have h0 : b ≠ 0 := by omega
      have h1 := Int.tmod_lt_of_pos a hb
      simp only [hb, h0, decide_true, decide_false, cond_true, Bool.not_false]
      rw [gcdP, dif_pos hb] at hx
      exact ih b (a.tmod b) _ (by omega) hx
    · simp only [hb, decide_false, cond_false]
      rw [gcdP, dif_neg hb] at hx
      exact hx _ _

theorem cGc_eq : cGc = .seq (lc cGc) (.seq (.block 0 (.loop (ic (ic (lc (rc cGc)))))) (rc (rc cGc))) := by kernel_rfl

theorem gcd_ok (r : Mem) (a b : Int) : GrT Tryd.prog r 34 [I a, I b] (I (gcdP a b)) :=
  GrT.of (SC_ok r) TOk.nil masks rfl ⟨b.toNat + 1, 1, by
    rw [enterN (m := 19) (n := 12) (rs := [.tmp 4]) cGc rfl (by kernel_rfl) (by kernel_rfl) (by kernel_rfl) (by kernel_rfl) (by kernel_rfl) rfl]
    generalize hk : finK (SC r) 19 [.tmp 4] fin = kr
    rw [cGc_eq, run_while]
    refine (gcA r _ _ a b _ _ _ _ _).trans ?_
    refine (show _ = _ from gc_loop r _ _ _ _ _ _ _ (b.toNat + 1) a b _ (by omega) fun s b' => ?_)
    refine (gcC r _ _ _ _ _ _ _ _ _ _).trans ?_
    subst hk
    rfl⟩

theorem in_loop (r : Mem) (fs : FnsC) (L : Nat) (kx : Nat → KS) (kr : KS) (ms : List Nat) (A : AW) (a n : Int) (R : CR) : ∀ (j : Nat) (l m f g : Int) (v9 : Tr Value) (s : List (Nat × Value)), m.toNat < j → Inv a n l m f g → l ≤ 1000000 → m ≤ 1000000 → n ≤ 1000000 →
    (∀ s l' g' v9, kx 0 s (TI a n l' 0 (fac l m f g) g' v9) ms A = R) →
    cLoop (fun kl => run (SC r) 1011 32 L (ic (ic (lc (rc (rc (rc cIn)))))) fs none kl kx kr) j s (TI a n l m f g v9) ms A = R := by
  intro j
  induction j with
  | zero => intro l m f g v9 s h; omega
  | succ j ih =>
    intro l m f g v9 s h hi hl hm hn hx
    rw [cLoop_succ, inB]
    have m0 := hi.n0
    have l0 := hi.l0
    by_cases hb : m > 0
    · have h0 : m ≠ 0 := by omega
      have hs := hi.step hb
      have h1 := Int.tmod_lt_of_pos l hb
      have e0 : l - l.tdiv m * m = l.tmod m := by have := Int.tmod_def l m; rw [Int.mul_comm] at this; exact this.symm
      obtain ⟨b1, b2, b3, b4, b5, b6, b7, b8⟩ := hi.bound hb
      have w1 : IntKind.wrap IntKind.i64 (l.tdiv m) = l.tdiv m := wrI (by omega)
      have w2 : IntKind.wrap IntKind.i64 (l.tdiv m * m) = l.tdiv m * m := wrI (by omega)
      have w3 : IntKind.wrap IntKind.i64 (l - l.tdiv m * m) = l - l.tdiv m * m := wrI (by omega)
      have w4 : IntKind.wrap IntKind.i64 (l.tdiv m * g) = l.tdiv m * g := wrI (by omega)
      have w5 : IntKind.wrap IntKind.i64 (f - l.tdiv m * g) = f - l.tdiv m * g := wrI (by omega)
      simp only [neT (show m ≠ Int.ofNat 0 from h0), dF h0, cond_true, Bool.not_false, w1, w2, w3, w4, w5]
      rw [fac, dif_pos hb] at hx
      cases v9 <;> exact ih m (l - l.tdiv m * m) g (f - l.tdiv m * g) _ _ (by omega) hs hm (by omega) hn hx
    · have h0 : m = 0 := by omega
      subst h0
      rw [fac, dif_neg hb] at hx
      exact hx _ _ _ _

theorem tR_ok (r : Mem) : TOk (SC r) tR := TOk.cons TOk.nil (restE_ok r)

theorem cIn_eq : cIn = .seq (lc cIn) (.seq (lc (rc cIn)) (.seq (lc (rc (rc cIn))) (.seq (.block 0 (.loop (ic (ic (lc (rc (rc (rc cIn)))))))) (rc (rc (rc (rc cIn))))))) := by kernel_rfl

theorem inv_ok (r : Mem) (a n : Int) (h0 : 0 ≤ a) (h1 : a < n) (h2 : n ≤ 1000000) : GrT Tryd.prog r 75 [I a, I n] (I (inv a n)) :=
  GrT.of (SC_ok r) (tR_ok r) masks rfl ⟨n.toNat + 1, 1, by
    rw [enterN (m := 1011) (n := 32) (rs := [.tmp 4]) cIn rfl (by kernel_rfl) (by kernel_rfl) (by kernel_rfl) (by kernel_rfl) (by kernel_rfl) rfl]
    generalize hk : finK (SC r) 1011 [.tmp 4] fin = kr
    rw [cIn_eq, seqA, seqA, run_while]
    refine (inA r _ _ a n _ _ _ _ _).trans ?_
    refine (show _ = _ from in_loop r _ _ _ _ _ _ a n _ (n.toNat + 1) a n 1 0 .nil _ (by omega) (Inv.start h0 (by omega)) (by omega) h2 h2 fun s l' g' v9 => ?_)
    refine (inC r _ _ _ _ _ _ _ _ _ _ _ _ _ _ _).trans ?_
    have hg : m_restG (fac a n 1 0) n = true := by simp [m_restG]; omega
    simp only [hg, cond_true]
    subst hk
    rfl⟩

theorem fi_loop (r : Mem) (fs : FnsC) (L : Nat) (kx : Nat → KS) (kr : KS) (ms : List Nat) (A : AW) (p q : Int) (R : CR) (hp : 0 < p) (hp2 : p ≤ 1000000) (hq : q ≤ 1000000) :
    ∀ (j : Nat) (x : Int) (s : List (Nat × Value)), 0 ≤ x → (q - x).toNat < j →
    (∀ s x', fstR p q x = q → kx 0 s (TFi p q x') ms A = R) → (∀ s, kr s (((tr0 115 [I p, I q]).put 4 (some (I p))).put 5 (some (I (fstR p q x))) |>.put 6 (some (I (fstR p q x)))) ms A = R) →
    cLoop (fun kl => run (SC r) 115 24 L (ic (ic (rc (lc (rc cFi))))) fs none kl kx kr) j s (TFi p q x) ms A = R := by
  intro j
  induction j with
  | zero => intro x s h0 h; omega
  | succ j ih =>
    intro x s hx0 h hx hr
    rw [cLoop_succ, fiB]
    by_cases hb : x < q
    · have h0 : p ≠ 0 := by omega
      have hm1 : 0 ≤ x * q := Int.mul_nonneg hx0 (by omega)
      have hm2 : x * q ≤ 1000000 * 1000000 := Int.mul_le_mul (by omega) hq (by omega) (by omega)
      have w1 : IntKind.wrap IntKind.i64 (x * q) = x * q := wrI (by omega)
      have w2 : IntKind.wrap IntKind.i64 (x + Int.ofNat 1) = x + 1 := wrI (by simp; omega)
      simp only [dT hb, dF h0, cond_true, Bool.not_false, w1, w2]
      rw [fstR, dif_pos hb] at hx hr
      by_cases c : (x * q).tmod p = (1:Int).tmod p
      · rw [if_pos c] at hr
        simp only [eqT (show (x * q).tmod p = (Int.ofNat 1).tmod p from c), cond_true]
        exact hr _
      · rw [if_neg c] at hx hr
        simp only [eqF (show (x * q).tmod p ≠ (Int.ofNat 1).tmod p from c), cond_false]
        exact ih (x + 1) _ (by omega) (by omega) hx hr
    · simp only [dF hb, cond_false]
      rw [fstR, dif_neg hb] at hx
      exact hx _ _ rfl

theorem cFi_eq : cFi = .seq (lc cFi) (.seq (.seq (lc (lc (rc cFi))) (.block 0 (.loop (ic (ic (rc (lc (rc cFi)))))))) (rc (rc cFi))) := by kernel_rfl

/-- The first of the same links, as the reference finds it. -/
theorem first_ok (r : Mem) (p q : Int) (h0 : 0 < p) (h1 : p ≤ 1000000) (h2 : q ≤ 1000000) : GrT Tryd.prog r 29 [I p, I q] (.tuple ⟨[I p, I (fstR p q 0)]⟩) :=
  GrT.of (SC_ok r) TOk.nil masks rfl ⟨q.toNat + 1, 1, by
    rw [enterN (m := 115) (n := 24) (rs := [.tmp 4, .tmp 5]) cFi rfl (by kernel_rfl) (by kernel_rfl) (by kernel_rfl) (by kernel_rfl) (by kernel_rfl) rfl]
    generalize hk : finK (SC r) 115 [.tmp 4, .tmp 5] fin = kr
    rw [cFi_eq, run_pre, run_while]
    refine (fiA r _ _ p q _ _ _ _ _).trans ?_
    refine (show _ = _ from fi_loop r _ _ _ _ _ _ p q _ h0 h1 h2 (q.toNat + 1) 0 _ (by omega) (by omega) (fun s x' he => ?_) fun s => ?_)
    · refine (fiC r _ _ _ _ _ _ _ _ _ _ _).trans ?_
      rw [he]
      subst hk
      rfl
    · subst hk
      rfl⟩

theorem be_loop (r : Mem) (fs : FnsC) (L : Nat) (kx : Nat → KS) (kr : KS) (ms : List Nat) (A : AW) (p q v : Int) (R : CR) (hp : -500 ≤ p) (hp2 : p ≤ 500) (hq : 0 < q) (hq2 : q ≤ 500) (hv : v < q) (hd : q ∣ p * v + 1) (ho : ∀ x, 0 ≤ x → x < v → ¬ q ∣ p * x + 1) :
    ∀ (j : Nat) (x : Int) (s : List (Nat × Value)), 0 ≤ x → x ≤ v → (v - x).toNat < j →
    (∀ s, kr s (((tr0 115 [I p, I q]).put 4 (some (I ((p * v + 1).tdiv q)))).put 5 (some (I v)) |>.put 6 (some (I v))) ms A = R) →
    cLoop (fun kl => run (SC r) 115 27 L (ic (ic (rc (rc (rc cBe))))) fs none kl kx kr) j s (TBe p q x) ms A = R := by
  intro j
  induction j with
  | zero => intro x s h0 h; omega
  | succ j ih =>
    intro x s hx0 hxv h hr
    rw [cLoop_succ, beB]
    have h0 : q ≠ 0 := by omega
    have hm1 : p * x ≤ 500 * 500 := by
      by_cases c : 0 ≤ p
      · exact Int.mul_le_mul hp2 (by omega) hx0 (by omega)
      · have : p * x ≤ 0 := Int.mul_nonpos_of_nonpos_of_nonneg (by omega) hx0
        omega
    have hm2 : -(500 * 500) ≤ p * x := by
      by_cases c : 0 ≤ p
      · have : 0 ≤ p * x := Int.mul_nonneg c hx0
        omega
      · have : -p * x ≤ 500 * 500 := Int.mul_le_mul (by omega) (by omega) hx0 (by omega)
        have e : -p * x = -(p * x) := by rw [Int.neg_mul]
        omega
    have w1 : IntKind.wrap IntKind.i64 (p * x) = p * x := wrI (by omega)
    have w2 : IntKind.wrap IntKind.i64 (p * x + Int.ofNat 1) = p * x + 1 := wrI (by simp; omega)
    have w3 : IntKind.wrap IntKind.i64 (x + Int.ofNat 1) = x + 1 := wrI (by simp; omega)
    have hdv : (p * x + 1).tmod q = 0 ↔ q ∣ p * x + 1 := ⟨fun h => Int.dvd_of_tmod_eq_zero h, fun h => Int.tmod_eq_zero_of_dvd h⟩
    have w4 : IntKind.wrap IntKind.i64 ((p * x + 1).tdiv q) = (p * x + 1).tdiv q := wrI (by
      have := Int.natAbs_tdiv_le_natAbs (p * x + 1) q
      omega)
    simp only [dF h0, cond_true, Bool.not_false, w1, w2, w3, w4]
    by_cases c : q ∣ p * x + 1
    · have : x = v := by
        by_cases cx : x < v
        · exact absurd c (ho x hx0 cx)
        · omega
      subst this
      simp only [eqT (show (p * x + 1).tmod q = Int.ofNat 0 from hdv.2 c), cond_true]
      exact hr _
    · simp only [eqF (show (p * x + 1).tmod q ≠ Int.ofNat 0 from fun h => c (hdv.1 h)), cond_false]
      have : x ≠ v := fun e => c (e ▸ hd)
      exact ih (x + 1) _ (by omega) (by omega) (by omega) hr

theorem cBe_eq : cBe = .seq (lc cBe) (.seq (lc (rc cBe)) (.seq (lc (rc (rc cBe))) (.block 0 (.loop (ic (ic (rc (rc (rc cBe))))))))) := by kernel_rfl

/-- The second of the numbers of the neighbour. -/
def bezV (p q : Int) : Int := if q = 0 then -p else inv ((-p) % q) q
def bezU (p q : Int) : Int := if q = 0 then 0 else (p * bezV p q + 1).tdiv q

theorem bezV_spec {p q : Int} (hq : 0 < q) (hg : Int.gcd p q = 1) : q ∣ p * bezV p q + 1 ∧ ∀ x, 0 ≤ x → x < bezV p q → ¬ q ∣ p * x + 1 := by
  have a0 : 0 ≤ (-p) % q := Int.emod_nonneg _ (by omega)
  have e := Int.emod_add_mul_ediv (-p) q
  have hg2 : Int.gcd ((-p) % q) q = 1 := by
    have : (-p) % q = -p + (-((-p) / q)) * q := by grind
    rw [this, Int.gcd_add_mul_right_left, Int.neg_gcd, hg]
  have hb : bezV p q = inv ((-p) % q) q := by unfold bezV; rw [if_neg (by omega)]
  have hd := inv_dvd a0 hq hg2
  rw [hb]
  constructor
  · obtain ⟨k, hk⟩ := hd
    exact ⟨-k - (-p) / q * inv ((-p) % q) q, by grind⟩
  · intro x h0 h1 hx
    have := inv_lt ((-p) % q) hq
    have hx2 : q ∣ ((-p) % q) * x - 1 := by
      obtain ⟨k, hk⟩ := hx
      exact ⟨-k - (-p) / q * x, by grind⟩
    have := inv_only a0 hq hg2 h0 (by omega) hx2
    omega

theorem bez_ok (r : Mem) (p q : Int) (h0 : -500 ≤ p) (h1 : p ≤ 500) (h2 : q ≤ 500) (hf : frac p q = true) : GrT Tryd.prog r 65 [I p, I q] (.tuple ⟨[I (bezU p q), I (bezV p q)]⟩) :=
  GrT.of (SC_ok r) TOk.nil masks rfl ⟨q.toNat + 1, 1, by
    rw [enterN (m := 115) (n := 27) (rs := [.tmp 4, .tmp 5]) cBe rfl (by kernel_rfl) (by kernel_rfl) (by kernel_rfl) (by kernel_rfl) (by kernel_rfl) rfl]
    generalize hk : finK (SC r) 115 [.tmp 4, .tmp 5] fin = kr
    rw [cBe_eq, seqA, seqA, run_while0]
    refine (beA r _ _ p q _ _ _ _ _).trans ?_
    rw [frac_iff] at hf
    by_cases hq : q = 0
    · subst hq
      have w : IntKind.wrap IntKind.i64 (Int.ofNat 0 - p) = -p := by
        rw [wrI (by simp; omega)]; simp
      have hb : bezV p 0 = -p := by unfold bezV; simp
      have hb2 : bezU p 0 = 0 := by unfold bezU; simp
      rw [hb, hb2]
      simp only [w]
      subst hk
      rfl
    · have hq0 : 0 < q := by omega
      have hg : Int.gcd p q = 1 := by omega
      obtain ⟨s1, s2⟩ := bezV_spec hq0 hg
      have hv0 : 0 ≤ bezV p q := by unfold bezV; rw [if_neg hq]; exact inv_nonneg _ hq0
      have hv : bezV p q < q := by unfold bezV; rw [if_neg hq]; exact inv_lt _ hq0
      simp only [eqF (show q ≠ Int.ofNat 0 from hq), cond_false]
      refine (show _ = _ from be_loop r _ _ _ _ _ _ p q (bezV p q) _ h0 h1 hq0 h2 hv s1 s2 (q.toNat + 1) 0 _ (by omega) hv0 (by omega) fun s => ?_)
      have hu : bezU p q = (p * bezV p q + 1).tdiv q := by unfold bezU; rw [if_neg hq]
      rw [hu]
      subst hk
      rfl⟩

end Go.Proofs

/- Same links, run. -/
namespace Go.Proofs
open Go Go.Ev Go.Num

def m_link (p q : Int) : Bool := link p q
def m_inv (a n : Int) : Int := inv a n
def m_invG (a n : Int) : Bool := decide (0 ≤ a) && decide (a < n) && decide (n ≤ 1000000)
def m_fst (p q : Int) : Int := fst p q

theorem ilA (r : Mem) (L : Nat) (p q : Int) : (lvlT (SC r) (tcons 71 (eA2 (fun _ _ => true) fun a b => .bool (m_frac a b)) fun _ => none) .nil L 1).call 74 [FV p q] emptyA fin =
    bif decide (q < p) then bif decide (p ≤ 1000000) then bif m_frac p q then CR.ret (Value.bool true) (AW.mk 0 Tr.nil Tr.nil) else CR.ret (Value.bool false) (AW.mk 0 Tr.nil Tr.nil) else CR.ret (Value.bool false) (AW.mk 0 Tr.nil Tr.nil) else CR.ret (Value.bool false) (AW.mk 0 Tr.nil Tr.nil) := by kernel_rfl

theorem fsA (r : Mem) (L : Nat) (p q : Int) : (lvlT (SC r) (tcons 75 (eI2 m_invG fun a b => I (m_inv a b)) fun _ => none) .nil L 1).call 54 [FV p q] emptyA fin =
    bif m_invG q p then bif m_eqv (Value.int IntKind.i64 (bif decide (m_inv q p < q) then m_inv q p else q)) (Value.int IntKind.i64 (bif decide (m_inv q p < q) then m_inv q p else q)) then bif m_eqv (Value.int IntKind.i64 p) (Value.int IntKind.i64 p) then bif m_eqv (Value.int IntKind.i64 q) (Value.int IntKind.i64 q) then bif m_eqv (Value.int IntKind.i64 q) (Value.int IntKind.i64 q) then bif m_eqv (Value.int IntKind.i64 q) (Value.int IntKind.i64 q) then bif m_eqv (Value.int IntKind.i64 p) (Value.int IntKind.i64 p) then bif m_eqv (Value.int IntKind.i64 p) (Value.int IntKind.i64 p) then CR.ret (Value.agg (Array.mk [Value.int IntKind.i64 p, Value.int IntKind.i64 (bif decide (m_inv q p < q) then m_inv q p else q)])) (AW.mk 0 Tr.nil Tr.nil) else CR.fail 420 else CR.fail 420 else CR.fail 420 else CR.fail 420 else CR.fail 420 else CR.fail 420 else CR.fail 420 else CR.fail 420 := by kernel_rfl

def eLink : Ent := eA2 (fun _ _ => true) fun a b => .bool (m_link a b)
def eFst : Ent := eA2 (fun p q => m_invG q p) fun p q => FV p (m_fst p q)
def tSame : Tbl := tcons 74 eLink (tcons 54 eFst fun _ => none)

theorem saA (r : Mem) (p q u v : Int) : (lvlT (SC r) tSame .nil 8 4).call 35 [I p, I q, I u, I v] emptyA fin =
    bif m_eqv (Value.int IntKind.i64 q) (Value.int IntKind.i64 q) then bif m_eqv (Value.int IntKind.i64 q) (Value.int IntKind.i64 q) then bif m_eqv (Value.int IntKind.i64 p) (Value.int IntKind.i64 p) then bif m_eqv (Value.int IntKind.i64 p) (Value.int IntKind.i64 p) then bif m_link p q then bif m_eqv (Value.int IntKind.i64 v) (Value.int IntKind.i64 v) then bif m_eqv (Value.int IntKind.i64 v) (Value.int IntKind.i64 v) then bif m_eqv (Value.int IntKind.i64 u) (Value.int IntKind.i64 u) then bif m_eqv (Value.int IntKind.i64 u) (Value.int IntKind.i64 u) then bif m_link u v then bif m_invG q p then bif m_invG v u then bif p == u && (m_fst p q == m_fst u v && true) then bif m_eqv (Value.agg (Array.mk [Value.int IntKind.i64 u, Value.int IntKind.i64 v])) (Value.agg (Array.mk [Value.int IntKind.i64 u, Value.int IntKind.i64 v])) then bif m_eqv (Value.agg (Array.mk [Value.int IntKind.i64 u, Value.int IntKind.i64 v])) (Value.agg (Array.mk [Value.int IntKind.i64 u, Value.int IntKind.i64 v])) then bif m_eqv (Value.agg (Array.mk [Value.int IntKind.i64 p, Value.int IntKind.i64 q])) (Value.agg (Array.mk [Value.int IntKind.i64 p, Value.int IntKind.i64 q])) then CR.ret (Value.tuple (Array.mk [Value.bool true, Value.int IntKind.i64 (Int.ofNat 0)])) (AW.mk 0 Tr.nil Tr.nil) else CR.fail 420 else CR.fail 420 else CR.fail 420 else bif m_eqv (Value.agg (Array.mk [Value.int IntKind.i64 u, Value.int IntKind.i64 v])) (Value.agg (Array.mk [Value.int IntKind.i64 u, Value.int IntKind.i64 v])) then bif m_eqv (Value.agg (Array.mk [Value.int IntKind.i64 u, Value.int IntKind.i64 v])) (Value.agg (Array.mk [Value.int IntKind.i64 u, Value.int IntKind.i64 v])) then bif m_eqv (Value.agg (Array.mk [Value.int IntKind.i64 p, Value.int IntKind.i64 q])) (Value.agg (Array.mk [Value.int IntKind.i64 p, Value.int IntKind.i64 q])) then CR.ret (Value.tuple (Array.mk [Value.bool false, Value.int IntKind.i64 (Int.ofNat 0)])) (AW.mk 0 Tr.nil Tr.nil) else CR.fail 420 else CR.fail 420 else CR.fail 420 else CR.fail 420 else CR.fail 420 else CR.ret (Value.tuple (Array.mk [Value.bool false, Value.int IntKind.i64 (Int.ofNat 61)])) (AW.mk 0 Tr.nil Tr.nil) else CR.fail 420 else CR.fail 420 else CR.fail 420 else CR.fail 420 else CR.ret (Value.tuple (Array.mk [Value.bool false, Value.int IntKind.i64 (Int.ofNat 61)])) (AW.mk 0 Tr.nil Tr.nil) else CR.fail 420 else CR.fail 420 else CR.fail 420 else CR.fail 420 := by kernel_rfl

theorem rlA (r : Mem) (L : Nat) (p q : Int) : (lvlT (SC r) (tcons 34 (eI2 (fun a b => decide (0 ≤ a) && decide (0 ≤ b)) fun a b => I (m_gcd a b)) fun _ => none) .nil L 1).call 28 [I p, I q] emptyA fin =
    bif decide (p ≥ 1) then bif decide (p ≤ 1000000) then bif decide (q ≥ 0) then bif decide (q < p) then bif decide (0 ≤ p) && decide (0 ≤ q) then bif m_gcd p q == Int.ofNat 1 then CR.ret (Value.bool true) (AW.mk 0 Tr.nil Tr.nil) else CR.ret (Value.bool false) (AW.mk 0 Tr.nil Tr.nil) else CR.fail 420 else CR.ret (Value.bool false) (AW.mk 0 Tr.nil Tr.nil) else CR.ret (Value.bool false) (AW.mk 0 Tr.nil Tr.nil) else CR.ret (Value.bool false) (AW.mk 0 Tr.nil Tr.nil) else CR.ret (Value.bool false) (AW.mk 0 Tr.nil Tr.nil) := by kernel_rfl

theorem rsA (r : Mem) (L : Nat) (p q u v : Int) : (lvlT (SC r) (fun _ => none) .nil L 1).call 36 [I p, I q, I u, I v] emptyA fin =
    bif p == u then bif p == Int.ofNat 1 then CR.ret (Value.bool true) (AW.mk 0 Tr.nil Tr.nil) else bif q == v then CR.ret (Value.bool true) (AW.mk 0 Tr.nil Tr.nil) else bif !decide (p = 0) then bif Int.tmod (IntKind.wrap IntKind.i64 (q * v)) p == Int.ofNat 1 then CR.ret (Value.bool true) (AW.mk 0 Tr.nil Tr.nil) else CR.ret (Value.bool false) (AW.mk 0 Tr.nil Tr.nil) else CR.fail 420 else CR.ret (Value.bool false) (AW.mk 0 Tr.nil Tr.nil) := by kernel_rfl

end Go.Proofs

/- Same links: what the calls answer. -/
namespace Go.Proofs
open Go Go.Ev Go.Num

theorem eqv_int (k : IntKind) (n : Int) : m_eqv (.int k n) (.int k n) = true := by simp [m_eqv, veq]
theorem eqv_agg2 (p q : Int) : m_eqv (.agg ⟨[I p, I q]⟩) (.agg ⟨[I p, I q]⟩) = true := by simp [m_eqv, veq, veqs]
theorem eqv_agg2' (p q : Int) : m_eqv (Value.agg (Array.mk [Value.int IntKind.i64 p, Value.int IntKind.i64 q])) (Value.agg (Array.mk [Value.int IntKind.i64 p, Value.int IntKind.i64 q])) = true := eqv_agg2 p q

theorem fracE_ok (r : Mem) : EOk (SC r) 71 (eA2 (fun _ _ => true) fun a b => .bool (m_frac a b)) := eA2_ok fun a b _ => frac_ok r a b

theorem isLink_ok (r : Mem) (p q : Int) : GrT Tryd.prog r 74 [FV p q] (.bool (m_link p q)) :=
  GrT.of (SC_ok r) (TOk.cons TOk.nil (fracE_ok r)) .nil rfl ⟨1, 1, by
    rw [ilA]
    unfold m_link link m_frac
    by_cases h1 : q < p
    · by_cases h2 : p ≤ 1000000
      · cases frac p q <;> simp [beqD, h1, h2] <;> rfl
      · simp [beqD, h1, h2]; rfl
    · simp [beqD, h1]; rfl⟩

theorem invE_ok (r : Mem) : EOk (SC r) 75 (eI2 m_invG fun a b => I (m_inv a b)) := eI2_ok fun a n h => by
  simp only [m_invG, Bool.and_eq_true, decide_eq_true_eq] at h
  exact inv_ok r a n h.1.1 h.1.2 h.2

theorem fst_ok (r : Mem) (p q : Int) (h : m_invG q p = true) : GrT Tryd.prog r 54 [FV p q] (FV p (m_fst p q)) :=
  GrT.of (SC_ok r) (TOk.cons TOk.nil (invE_ok r)) .nil rfl ⟨1, 1, by
    rw [fsA]
    unfold m_fst fst m_inv
    by_cases c : inv q p < q
    · have e : min q (inv q p) = inv q p := by omega
      simp only [h, cond_true, dT c, e]
      simp [m_eqv, veq]
      rfl
    · have e : min q (inv q p) = q := by omega
      simp only [h, cond_true, dF c, cond_false, e]
      simp [m_eqv, veq]
      rfl⟩

theorem linkE_ok (r : Mem) : EOk (SC r) 74 eLink := eA2_ok fun a b _ => isLink_ok r a b
theorem fstE_ok (r : Mem) : EOk (SC r) 54 eFst := eA2_ok fun a b h => fst_ok r a b h

def m_same (p q u v : Int) : Bool := link p q && link u v && decide (p = u) && decide (fst p q = fst u v)
def m_sameE (p q u v : Int) : Int := if link p q && link u v then 0 else 61

theorem linkG {p q : Int} (h : link p q = true) : m_invG q p = true := by
  rw [link_iff] at h
  simp [m_invG]
  omega

theorem same_ok (r : Mem) (p q u v : Int) : GrT Tryd.prog r 35 [I p, I q, I u, I v] (.tuple ⟨[.bool (m_same p q u v), I (m_sameE p q u v)]⟩) :=
  GrT.of (SC_ok r) (show TOk (SC r) tSame from TOk.cons (TOk.cons TOk.nil (fstE_ok r)) (linkE_ok r)) .nil rfl ⟨8, 4, by
    rw [saA]
    simp only [eqv_int, eqv_agg2', cond_true]
    unfold m_same m_sameE m_link m_fst
    cases h1 : link p q with
    | false => simp; rfl
    | true =>
      cases h2 : link u v with
      | false => simp; rfl
      | true =>
        simp only [linkG h1, linkG h2, cond_true, Bool.true_and, if_true, Bool.and_true]
        by_cases c1 : p = u
        · subst c1
          by_cases c2 : fst p q = fst p v
          · simp [beqD, c2]; rfl
          · simp [beqD, c2]; rfl
        · simp [beqD, c1]; rfl⟩

theorem gcdE_ok (r : Mem) : EOk (SC r) 34 (eI2 (fun a b => decide (0 ≤ a) && decide (0 ≤ b)) fun a b => I (m_gcd a b)) := eI2_ok fun a b _ => gcd_ok r a b

theorem rLink_ok (r : Mem) (p q : Int) : GrT Tryd.prog r 28 [I p, I q] (.bool (m_link p q)) :=
  GrT.of (SC_ok r) (TOk.cons TOk.nil (gcdE_ok r)) .nil rfl ⟨1, 1, by
    rw [rlA]
    unfold m_link
    rw [← linkR_eq]
    unfold linkR m_gcd
    by_cases h1 : p ≥ 1
    · by_cases h2 : p ≤ 1000000
      · by_cases h3 : q ≥ 0
        · by_cases h4 : q < p
          · have h5 : 0 ≤ p := by omega
            have h6 : 0 ≤ q := by omega
            by_cases h7 : gcdP p q = 1
            · simp [beqD, h1, h2, h3, h4, h5, h7]; rfl
            · simp [beqD, h1, h2, h3, h4, h5, h7]; rfl
          · simp [beqD, h1, h2, h3, h4]; rfl
        · simp [beqD, h1, h2, h3]; rfl
      · simp [beqD, h1, h2]; rfl
    · simp [beqD, h1]; rfl⟩

theorem rSame_ok (r : Mem) (p q u v : Int) (h1 : link p q = true) (h2 : link u v = true) : GrT Tryd.prog r 36 [I p, I q, I u, I v] (.bool (m_same p q u v)) :=
  GrT.of (SC_ok r) TOk.nil .nil rfl ⟨1, 1, by
    rw [rsA]
    unfold m_same
    rw [h1, h2]
    have l1 := (link_iff p q).1 h1
    have l2 := (link_iff u v).1 h2
    by_cases c : p = u
    · subst c
      have e := fst_same (p := p) (q := q) (s := v) (by omega) (by omega) (by rw [Int.gcd_comm]; exact l1.2.2.2.2) (by omega) (by omega) (by rw [Int.gcd_comm]; exact l2.2.2.2.2)
      have m0 : 0 ≤ q * v := Int.mul_nonneg (by omega) (by omega)
      have m1 : q * v ≤ 1000000 * 1000000 := Int.mul_le_mul (by omega) (by omega) (by omega) (by omega)
      have w : IntKind.wrap IntKind.i64 (q * v) = q * v := wrI (by omega)
      have hp : p ≠ 0 := by omega
      by_cases c1 : p = 1
      · have : fst p q = fst p v := e.2 (.inl c1)
        simp only [eqT c1, eqT (show p = Int.ofNat 1 from c1), beqD, decide_true, cond_true, this, Bool.and_self]; rfl
      · by_cases c2 : q = v
        · subst c2
          simp [beqD, c1]; rfl
        · by_cases c3 : (q * v).tmod p = 1
          · have : fst p q = fst p v := e.2 (.inr (.inr c3))
            simp [beqD, c1, c2, hp, w, c3, this]; rfl
          · have : ¬ fst p q = fst p v := fun h => by
              rcases e.1 h with h | h | h
              · exact c1 h
              · exact c2 h
              · exact c3 h
            simp [beqD, c1, c2, hp, w, c3, this]; rfl
    · simp [beqD, c]; rfl⟩

theorem sameE_ok (r : Mem) : EOk (SC r) 35 (eI4 (fun _ _ _ _ => true) fun a b c d => .tuple ⟨[.bool (m_same a b c d), I (m_sameE a b c d)]⟩) := eI4_ok fun a b c d _ => same_ok r a b c d
theorem rLinkE_ok (r : Mem) : EOk (SC r) 28 (eI2 (fun _ _ => true) fun a b => .bool (m_link a b)) := eI2_ok fun a b _ => rLink_ok r a b
theorem rSameE_ok (r : Mem) : EOk (SC r) 36 (eI4 (fun a b c d => m_link a b && m_link c d) fun a b c d => .bool (m_same a b c d)) := eI4_ok fun a b c d h => by
  simp only [Bool.and_eq_true] at h
  exact rSame_ok r a b c d h.1 h.2

end Go.Proofs

/- Closings: the numbers. -/
namespace Go.Num
open Go.Proofs

theorem gcd_rest (p q : Int) : Int.gcd (p % q) q = Int.gcd p q := by
  have e := Int.emod_add_mul_ediv p q
  have : p % q = p + (-(p / q)) * q := by grind
  rw [this, Int.gcd_add_mul_right_left]

def nbV (p q : Int) : Int := if q = 0 then -1 else -inv (p % q) q
def nbU (p q : Int) : Int := if q = 0 then 0 else (1 + p * nbV p q).tdiv q

theorem exact {a q : Int} (h : q ∣ a) (hq : q ≠ 0) : q * a.tdiv q = a := by
  obtain ⟨k, rfl⟩ := h
  rw [Int.mul_tdiv_cancel_left _ hq]

theorem nb_dvd {p q : Int} (hq : 0 < q) (hg : Int.gcd p q = 1) : q ∣ 1 + p * nbV p q := by
  have hd := inv_dvd (Int.emod_nonneg p (show q ≠ 0 by omega)) hq (by rw [gcd_rest]; exact hg)
  have e := Int.emod_add_mul_ediv p q
  unfold nbV
  rw [if_neg (show ¬ q = 0 by omega)]
  obtain ⟨k, hk⟩ := hd
  exact ⟨-k - (p / q) * inv (p % q) q, by grind⟩

theorem nb_spec {p q : Int} (hf : frac p q = true) : q * nbU p q - p * nbV p q = 1 := by
  rw [frac_iff] at hf
  rcases hf with ⟨rfl, rfl⟩ | ⟨h1, h2⟩
  · rfl
  · have := exact (nb_dvd h1 h2) (show q ≠ 0 by omega)
    unfold nbU
    rw [if_neg (show ¬ q = 0 by omega)]
    omega

theorem bez_spec {p q : Int} (hf : frac p q = true) : q * bezU p q - p * bezV p q = 1 := by
  rw [frac_iff] at hf
  rcases hf with ⟨rfl, rfl⟩ | ⟨h1, h2⟩
  · rfl
  · have := exact (bezV_spec h1 h2).1 (show q ≠ 0 by omega)
    unfold bezU
    rw [if_neg (show ¬ q = 0 by omega)]
    omega

/-- Small numbers, and what they leave small. -/
theorem mul_small {a b A B : Int} (h1 : -A ≤ a) (h2 : a ≤ A) (h3 : -B ≤ b) (h4 : b ≤ B) : -(A * B) ≤ a * b ∧ a * b ≤ A * B := by
  have hA : 0 ≤ A := by omega
  have hB : 0 ≤ B := by omega
  have : (a * b).natAbs ≤ (A * B).natAbs := by
    rw [Int.natAbs_mul, Int.natAbs_mul]
    exact Nat.mul_le_mul (by omega) (by omega)
  have := Int.mul_nonneg hA hB
  omega

theorem tdiv_small {a q B : Int} (h1 : -B ≤ a) (h2 : a ≤ B) : -B ≤ a.tdiv q ∧ a.tdiv q ≤ B := by
  have := Int.natAbs_tdiv_le_natAbs a q
  omega

theorem nbV_small {p q : Int} (hq : 0 ≤ q) (h : q ≤ 500) : -500 ≤ nbV p q ∧ nbV p q ≤ 0 := by
  unfold nbV
  split
  · omega
  · have := inv_nonneg (p % q) (show 0 < q by omega)
    have := inv_lt (p % q) (show 0 < q by omega)
    omega

theorem nbU_small {p q : Int} (hp : -500 ≤ p) (hp' : p ≤ 500) (hq : 0 ≤ q) (h : q ≤ 500) : -250001 ≤ nbU p q ∧ nbU p q ≤ 250001 := by
  unfold nbU
  split
  · omega
  · obtain ⟨a, b⟩ := nbV_small (p := p) hq h
    obtain ⟨c, d⟩ := mul_small (A := 500) (B := 500) (by omega) hp' (by omega) (by omega : nbV p q ≤ 500)
    exact tdiv_small (by omega) (by omega)

theorem bezV_small {p q : Int} (hq : 0 ≤ q) (h : q ≤ 500) (hp : -500 ≤ p) (hp' : p ≤ 500) : -500 ≤ bezV p q ∧ bezV p q ≤ 500 := by
  unfold bezV
  split
  · omega
  · have := inv_nonneg ((-p) % q) (show 0 < q by omega)
    have := inv_lt ((-p) % q) (show 0 < q by omega)
    omega

theorem bezU_small {p q : Int} (hp : -500 ≤ p) (hp' : p ≤ 500) (hq : 0 ≤ q) (h : q ≤ 500) : -250001 ≤ bezU p q ∧ bezU p q ≤ 250001 := by
  unfold bezU
  split
  · omega
  · obtain ⟨a, b⟩ := bezV_small hq h hp hp'
    obtain ⟨c, d⟩ := mul_small (A := 500) (B := 500) (by omega) hp' (by omega) b
    exact tdiv_small (by omega) (by omega)

/-- The number of the closing, and its rest. -/
def closeN (p q u v : Int) : Int := p * v + q * u
def absN (n : Int) : Int := if n < 0 then -n else n
def closeR (n m : Int) : Int := (if n < 0 then -m else m) % absN n

theorem absN_pos {n : Int} (h : n ≠ 0) : 0 < absN n := by unfold absN; split <;> omega
theorem closeR_nonneg {n m : Int} (h : n ≠ 0) : 0 ≤ closeR n m := Int.emod_nonneg _ (by have := absN_pos h; omega)
theorem closeR_lt {n m : Int} (h : n ≠ 0) : closeR n m < absN n := Int.emod_lt_of_pos _ (absN_pos h)

theorem closeR_gcd {n m : Int} (h : Int.gcd n m = 1) : Int.gcd (closeR n m) (absN n) = 1 := by
  unfold closeR absN
  rw [gcd_rest]
  split
  · rw [Int.neg_gcd, Int.gcd_neg, Int.gcd_comm]; exact h
  · rw [Int.gcd_comm]; exact h

theorem closeR_any {n m m' : Int} (h : n ∣ m - m') : closeR n m = closeR n m' := by
  unfold closeR absN
  obtain ⟨k, hk⟩ := h
  split
  · exact rest_same ⟨k, by grind⟩
  · exact rest_same ⟨k, hk⟩

/-- The second number of the closing. -/
def closeZ (p q u v : Int) : Int := fst (absN (closeN p q u v)) (closeR (closeN p q u v) (p * nbV u v + q * nbU u v))

theorem cl_bez {p q u v : Int} (hf : frac u v = true) : closeR (closeN p q u v) (p * bezV u v + q * bezU u v) = closeR (closeN p q u v) (p * nbV u v + q * nbU u v) := by
  by_cases hv : v = 0
  · subst hv
    have : u = 1 := by rw [frac_iff] at hf; omega
    subst this
    rfl
  · exact closeR_any (close_any (bez_spec hf) (nb_spec hf) hv)

theorem cl_gcd {p q u v : Int} (hf : frac p q = true) (hg : frac u v = true) : Int.gcd (closeR (closeN p q u v) (p * nbV u v + q * nbU u v)) (absN (closeN p q u v)) = 1 := by
  refine closeR_gcd (close_gcd (nb_spec hg) ?_)
  rw [frac_iff] at hf
  rcases hf with ⟨rfl, rfl⟩ | ⟨_, h⟩
  · rfl
  · exact h

end Go.Num

/- Closings, run. -/
namespace Go.Proofs
open Go Go.Ev Go.Num

def tNb : Tbl := tcons 75 (eI2 m_invG fun a b => I (m_inv a b)) (tcons 76 (eI2 m_restG fun a n => I (m_rest a n)) fun _ => none)

theorem nbA (r : Mem) (L : Nat) (p q : Int) : (lvlT (SC r) tNb .nil L 1).call 86 [FV p q] emptyA fin =
    bif q == Int.ofNat 0 then CR.ret (Value.tuple (Array.mk [Value.int IntKind.i64 (Int.ofNat 0), Value.int IntKind.i64 (Int.negSucc 0)])) (AW.mk 0 Tr.nil Tr.nil) else bif m_restG p q then bif m_invG (m_rest p q) q then bif m_eqv (Value.int IntKind.i64 q) (Value.int IntKind.i64 q) then bif m_eqv (Value.int IntKind.i64 q) (Value.int IntKind.i64 q) then bif m_eqv (Value.int IntKind.i64 q) (Value.int IntKind.i64 q) then bif m_eqv (Value.int IntKind.i64 p) (Value.int IntKind.i64 p) then bif !decide (q = 0) then CR.ret (Value.tuple (Array.mk [Value.int IntKind.i64 (IntKind.wrap IntKind.i64 (Int.tdiv (IntKind.wrap IntKind.i64 (Int.ofNat 1 + IntKind.wrap IntKind.i64 (p * IntKind.wrap IntKind.i64 (Int.ofNat 0 - m_inv (m_rest p q) q)))) q)), Value.int IntKind.i64 (IntKind.wrap IntKind.i64 (Int.ofNat 0 - m_inv (m_rest p q) q))])) (AW.mk 0 Tr.nil Tr.nil) else CR.fail 420 else CR.fail 420 else CR.fail 420 else CR.fail 420 else CR.fail 420 else CR.fail 420 else CR.fail 420 := by kernel_rfl

def m_nbU (p q : Int) : Int := nbU p q
def m_nbV (p q : Int) : Int := nbV p q
def m_small (x : Int) : Bool := decide (-500 ≤ x) && decide (x ≤ 500)
def m_wi (p q : Int) : Bool := m_small p && decide (q ≤ 500)
def m_smF (p q : Int) : Bool := frac p q && m_wi p q
def tCl : Tbl := tcons 86 (eA2 m_smF fun p q => .tuple ⟨[I (m_nbU p q), I (m_nbV p q)]⟩) (tcons 76 (eI2 m_restG fun a n => I (m_rest a n)) (tcons 54 eFst fun _ => none))

theorem clA (r : Mem) (L : Nat) (p q u v : Int) : (lvlT (SC r) tCl .nil L 1).call 64 [FV p q, FV u v] emptyA fin =
    bif IntKind.wrap IntKind.i64 (IntKind.wrap IntKind.i64 (p * v) + IntKind.wrap IntKind.i64 (q * u)) == Int.ofNat 0 then CR.ret (Value.tuple (Array.mk [Value.agg (Array.mk [Value.int IntKind.i64 (Int.ofNat 0), Value.int IntKind.i64 (Int.ofNat 0)]), Value.bool false])) (AW.mk 0 Tr.nil Tr.nil) else bif m_smF u v then bif decide (IntKind.wrap IntKind.i64 (IntKind.wrap IntKind.i64 (p * v) + IntKind.wrap IntKind.i64 (q * u)) < 0) then bif m_restG (IntKind.wrap IntKind.i64 (Int.ofNat 0 - IntKind.wrap IntKind.i64 (IntKind.wrap IntKind.i64 (p * m_nbV u v) + IntKind.wrap IntKind.i64 (q * m_nbU u v)))) (IntKind.wrap IntKind.i64 (Int.ofNat 0 - IntKind.wrap IntKind.i64 (IntKind.wrap IntKind.i64 (p * v) + IntKind.wrap IntKind.i64 (q * u)))) then bif m_invG (m_rest (IntKind.wrap IntKind.i64 (Int.ofNat 0 - IntKind.wrap IntKind.i64 (IntKind.wrap IntKind.i64 (p * m_nbV u v) + IntKind.wrap IntKind.i64 (q * m_nbU u v)))) (IntKind.wrap IntKind.i64 (Int.ofNat 0 - IntKind.wrap IntKind.i64 (IntKind.wrap IntKind.i64 (p * v) + IntKind.wrap IntKind.i64 (q * u))))) (IntKind.wrap IntKind.i64 (Int.ofNat 0 - IntKind.wrap IntKind.i64 (IntKind.wrap IntKind.i64 (p * v) + IntKind.wrap IntKind.i64 (q * u)))) then CR.ret (Value.tuple (Array.mk [Value.agg (Array.mk [Value.int IntKind.i64 (IntKind.wrap IntKind.i64 (Int.ofNat 0 - IntKind.wrap IntKind.i64 (IntKind.wrap IntKind.i64 (p * v) + IntKind.wrap IntKind.i64 (q * u)))), Value.int IntKind.i64 (m_fst (IntKind.wrap IntKind.i64 (Int.ofNat 0 - IntKind.wrap IntKind.i64 (IntKind.wrap IntKind.i64 (p * v) + IntKind.wrap IntKind.i64 (q * u)))) (m_rest (IntKind.wrap IntKind.i64 (Int.ofNat 0 - IntKind.wrap IntKind.i64 (IntKind.wrap IntKind.i64 (p * m_nbV u v) + IntKind.wrap IntKind.i64 (q * m_nbU u v)))) (IntKind.wrap IntKind.i64 (Int.ofNat 0 - IntKind.wrap IntKind.i64 (IntKind.wrap IntKind.i64 (p * v) + IntKind.wrap IntKind.i64 (q * u))))))]), Value.bool true])) (AW.mk 0 Tr.nil Tr.nil) else CR.fail 420 else CR.fail 420 else bif m_restG (IntKind.wrap IntKind.i64 (IntKind.wrap IntKind.i64 (p * m_nbV u v) + IntKind.wrap IntKind.i64 (q * m_nbU u v))) (IntKind.wrap IntKind.i64 (IntKind.wrap IntKind.i64 (p * v) + IntKind.wrap IntKind.i64 (q * u))) then bif m_invG (m_rest (IntKind.wrap IntKind.i64 (IntKind.wrap IntKind.i64 (p * m_nbV u v) + IntKind.wrap IntKind.i64 (q * m_nbU u v))) (IntKind.wrap IntKind.i64 (IntKind.wrap IntKind.i64 (p * v) + IntKind.wrap IntKind.i64 (q * u)))) (IntKind.wrap IntKind.i64 (IntKind.wrap IntKind.i64 (p * v) + IntKind.wrap IntKind.i64 (q * u))) then CR.ret (Value.tuple (Array.mk [Value.agg (Array.mk [Value.int IntKind.i64 (IntKind.wrap IntKind.i64 (IntKind.wrap IntKind.i64 (p * v) + IntKind.wrap IntKind.i64 (q * u))), Value.int IntKind.i64 (m_fst (IntKind.wrap IntKind.i64 (IntKind.wrap IntKind.i64 (p * v) + IntKind.wrap IntKind.i64 (q * u))) (m_rest (IntKind.wrap IntKind.i64 (IntKind.wrap IntKind.i64 (p * m_nbV u v) + IntKind.wrap IntKind.i64 (q * m_nbU u v))) (IntKind.wrap IntKind.i64 (IntKind.wrap IntKind.i64 (p * v) + IntKind.wrap IntKind.i64 (q * u)))))]), Value.bool true])) (AW.mk 0 Tr.nil Tr.nil) else CR.fail 420 else CR.fail 420 else CR.fail 420 := by kernel_rfl

theorem smA (r : Mem) (L : Nat) (x : Int) : (lvlT (SC r) (fun _ => none) .nil L 1).call 20 [I x] emptyA fin =
    bif decide (x ≥ Int.negSucc 499) then bif decide (x ≤ 500) then CR.ret (Value.bool true) (AW.mk 0 Tr.nil Tr.nil) else CR.ret (Value.bool false) (AW.mk 0 Tr.nil Tr.nil) else CR.ret (Value.bool false) (AW.mk 0 Tr.nil Tr.nil) := by kernel_rfl

theorem iwA (r : Mem) (L : Nat) (p q x : Int) : (lvlT (SC r) (fun _ => none) .nil L 1).call 48 [FV p q, I x] emptyA fin =
    bif decide (IntKind.wrap IntKind.i64 (Int.ofNat 0 - x) ≤ p) then bif decide (p ≤ x) then bif decide (q ≤ x) then CR.ret (Value.bool true) (AW.mk 0 Tr.nil Tr.nil) else CR.ret (Value.bool false) (AW.mk 0 Tr.nil Tr.nil) else CR.ret (Value.bool false) (AW.mk 0 Tr.nil Tr.nil) else CR.ret (Value.bool false) (AW.mk 0 Tr.nil Tr.nil) := by kernel_rfl

end Go.Proofs

/- Closings, run: the calls above. -/
namespace Go.Proofs
open Go Go.Ev Go.Num

def m_N (p q u v : Int) : Int := closeN p q u v
def m_clG (p q u v : Int) : Bool := m_smF p q && m_smF u v
def m_clX (p q u v : Int) : Int := if closeN p q u v = 0 then 0 else absN (closeN p q u v)
def m_clY (p q u v : Int) : Int := if closeN p q u v = 0 then 0 else closeZ p q u v
def m_clB (p q u v : Int) : Bool := !decide (closeN p q u v = 0)
def tClose : Tbl := tcons 71 (eA2 (fun _ _ => true) fun a b => .bool (m_frac a b)) (tcons 48 (eA1I (fun _ _ x => x == 500) fun a b _ => .bool (m_wi a b))
  (tcons 64 (eAA m_clG fun p q u v => .tuple ⟨[.agg ⟨[I (m_clX p q u v), I (m_clY p q u v)]⟩, .bool (m_clB p q u v)]⟩) fun _ => none))

theorem coA (r : Mem) (p q u v : Int) : (lvlT (SC r) tClose .nil 8 4).call 43 [I p, I q, I u, I v] emptyA fin =
    bif m_eqv (Value.int IntKind.i64 q) (Value.int IntKind.i64 q) then bif m_eqv (Value.int IntKind.i64 q) (Value.int IntKind.i64 q) then bif m_eqv (Value.int IntKind.i64 p) (Value.int IntKind.i64 p) then bif m_eqv (Value.int IntKind.i64 p) (Value.int IntKind.i64 p) then bif m_frac p q then bif m_eqv (Value.int IntKind.i64 v) (Value.int IntKind.i64 v) then bif m_eqv (Value.int IntKind.i64 v) (Value.int IntKind.i64 v) then bif m_eqv (Value.int IntKind.i64 u) (Value.int IntKind.i64 u) then bif m_eqv (Value.int IntKind.i64 u) (Value.int IntKind.i64 u) then bif m_frac u v then bif m_wi p q then bif m_wi u v then bif m_clG p q u v then bif m_clB p q u v then bif m_eqv (Value.agg (Array.mk [Value.int IntKind.i64 u, Value.int IntKind.i64 v])) (Value.agg (Array.mk [Value.int IntKind.i64 u, Value.int IntKind.i64 v])) then bif m_eqv (Value.agg (Array.mk [Value.int IntKind.i64 p, Value.int IntKind.i64 q])) (Value.agg (Array.mk [Value.int IntKind.i64 p, Value.int IntKind.i64 q])) then CR.ret (Value.tuple (Array.mk [Value.int IntKind.i64 (m_clX p q u v), Value.int IntKind.i64 (m_clY p q u v), Value.int IntKind.i64 (Int.ofNat 0)])) (AW.mk 0 Tr.nil Tr.nil) else CR.fail 420 else CR.fail 420 else bif m_eqv (Value.agg (Array.mk [Value.int IntKind.i64 u, Value.int IntKind.i64 v])) (Value.agg (Array.mk [Value.int IntKind.i64 u, Value.int IntKind.i64 v])) then bif m_eqv (Value.agg (Array.mk [Value.int IntKind.i64 p, Value.int IntKind.i64 q])) (Value.agg (Array.mk [Value.int IntKind.i64 p, Value.int IntKind.i64 q])) then CR.ret (Value.tuple (Array.mk [Value.int IntKind.i64 (Int.ofNat 0), Value.int IntKind.i64 (Int.ofNat 0), Value.int IntKind.i64 (Int.ofNat 4)])) (AW.mk 0 Tr.nil Tr.nil) else CR.fail 420 else CR.fail 420 else CR.fail 420 else CR.ret (Value.tuple (Array.mk [Value.int IntKind.i64 (Int.ofNat 0), Value.int IntKind.i64 (Int.ofNat 0), Value.int IntKind.i64 (Int.ofNat 1)])) (AW.mk 0 Tr.nil Tr.nil) else CR.ret (Value.tuple (Array.mk [Value.int IntKind.i64 (Int.ofNat 0), Value.int IntKind.i64 (Int.ofNat 0), Value.int IntKind.i64 (Int.ofNat 1)])) (AW.mk 0 Tr.nil Tr.nil) else CR.ret (Value.tuple (Array.mk [Value.int IntKind.i64 (Int.ofNat 0), Value.int IntKind.i64 (Int.ofNat 0), Value.int IntKind.i64 (Int.ofNat 61)])) (AW.mk 0 Tr.nil Tr.nil) else CR.fail 420 else CR.fail 420 else CR.fail 420 else CR.fail 420 else CR.ret (Value.tuple (Array.mk [Value.int IntKind.i64 (Int.ofNat 0), Value.int IntKind.i64 (Int.ofNat 0), Value.int IntKind.i64 (Int.ofNat 61)])) (AW.mk 0 Tr.nil Tr.nil) else CR.fail 420 else CR.fail 420 else CR.fail 420 else CR.fail 420 := by kernel_rfl

def m_bU (p q : Int) : Int := bezU p q
def m_bV (p q : Int) : Int := bezV p q
def m_fR (p q : Int) : Int := fstR p q 0
def tRC : Tbl := tcons 65 (eI2 m_smF fun p q => .tuple ⟨[I (m_bU p q), I (m_bV p q)]⟩) (tcons 29 (eI2 (fun p q => decide (0 < p) && decide (p ≤ 1000000) && decide (q ≤ 1000000)) fun p q => .tuple ⟨[I p, I (m_fR p q)]⟩) fun _ => none)

theorem rcA (r : Mem) (L : Nat) (p q u v : Int) : (lvlT (SC r) tRC .nil L 1).call 44 [I p, I q, I u, I v] emptyA fin =
    bif IntKind.wrap IntKind.i64 (IntKind.wrap IntKind.i64 (p * v) + IntKind.wrap IntKind.i64 (q * u)) == Int.ofNat 0 then CR.ret (Value.tuple (Array.mk [Value.int IntKind.i64 (Int.ofNat 0), Value.int IntKind.i64 (Int.ofNat 0), Value.bool false])) (AW.mk 0 Tr.nil Tr.nil) else bif m_smF u v then bif decide (IntKind.wrap IntKind.i64 (IntKind.wrap IntKind.i64 (p * v) + IntKind.wrap IntKind.i64 (q * u)) < 0) then bif !decide (IntKind.wrap IntKind.i64 (Int.ofNat 0 - IntKind.wrap IntKind.i64 (IntKind.wrap IntKind.i64 (p * v) + IntKind.wrap IntKind.i64 (q * u))) = 0) then bif decide (Int.tmod (IntKind.wrap IntKind.i64 (Int.ofNat 0 - IntKind.wrap IntKind.i64 (IntKind.wrap IntKind.i64 (p * m_bV u v) + IntKind.wrap IntKind.i64 (q * m_bU u v)))) (IntKind.wrap IntKind.i64 (Int.ofNat 0 - IntKind.wrap IntKind.i64 (IntKind.wrap IntKind.i64 (p * v) + IntKind.wrap IntKind.i64 (q * u)))) < 0) then bif decide (0 < IntKind.wrap IntKind.i64 (Int.ofNat 0 - IntKind.wrap IntKind.i64 (IntKind.wrap IntKind.i64 (p * v) + IntKind.wrap IntKind.i64 (q * u)))) && decide (IntKind.wrap IntKind.i64 (Int.ofNat 0 - IntKind.wrap IntKind.i64 (IntKind.wrap IntKind.i64 (p * v) + IntKind.wrap IntKind.i64 (q * u))) ≤ 1000000) && decide (IntKind.wrap IntKind.i64 (Int.tmod (IntKind.wrap IntKind.i64 (Int.ofNat 0 - IntKind.wrap IntKind.i64 (IntKind.wrap IntKind.i64 (p * m_bV u v) + IntKind.wrap IntKind.i64 (q * m_bU u v)))) (IntKind.wrap IntKind.i64 (Int.ofNat 0 - IntKind.wrap IntKind.i64 (IntKind.wrap IntKind.i64 (p * v) + IntKind.wrap IntKind.i64 (q * u)))) + IntKind.wrap IntKind.i64 (Int.ofNat 0 - IntKind.wrap IntKind.i64 (IntKind.wrap IntKind.i64 (p * v) + IntKind.wrap IntKind.i64 (q * u)))) ≤ 1000000) then CR.ret (Value.tuple (Array.mk [Value.int IntKind.i64 (IntKind.wrap IntKind.i64 (Int.ofNat 0 - IntKind.wrap IntKind.i64 (IntKind.wrap IntKind.i64 (p * v) + IntKind.wrap IntKind.i64 (q * u)))), Value.int IntKind.i64 (m_fR (IntKind.wrap IntKind.i64 (Int.ofNat 0 - IntKind.wrap IntKind.i64 (IntKind.wrap IntKind.i64 (p * v) + IntKind.wrap IntKind.i64 (q * u)))) (IntKind.wrap IntKind.i64 (Int.tmod (IntKind.wrap IntKind.i64 (Int.ofNat 0 - IntKind.wrap IntKind.i64 (IntKind.wrap IntKind.i64 (p * m_bV u v) + IntKind.wrap IntKind.i64 (q * m_bU u v)))) (IntKind.wrap IntKind.i64 (Int.ofNat 0 - IntKind.wrap IntKind.i64 (IntKind.wrap IntKind.i64 (p * v) + IntKind.wrap IntKind.i64 (q * u)))) + IntKind.wrap IntKind.i64 (Int.ofNat 0 - IntKind.wrap IntKind.i64 (IntKind.wrap IntKind.i64 (p * v) + IntKind.wrap IntKind.i64 (q * u)))))), Value.bool true])) (AW.mk 0 Tr.nil Tr.nil) else CR.fail 420 else bif decide (0 < IntKind.wrap IntKind.i64 (Int.ofNat 0 - IntKind.wrap IntKind.i64 (IntKind.wrap IntKind.i64 (p * v) + IntKind.wrap IntKind.i64 (q * u)))) && decide (IntKind.wrap IntKind.i64 (Int.ofNat 0 - IntKind.wrap IntKind.i64 (IntKind.wrap IntKind.i64 (p * v) + IntKind.wrap IntKind.i64 (q * u))) ≤ 1000000) && decide (Int.tmod (IntKind.wrap IntKind.i64 (Int.ofNat 0 - IntKind.wrap IntKind.i64 (IntKind.wrap IntKind.i64 (p * m_bV u v) + IntKind.wrap IntKind.i64 (q * m_bU u v)))) (IntKind.wrap IntKind.i64 (Int.ofNat 0 - IntKind.wrap IntKind.i64 (IntKind.wrap IntKind.i64 (p * v) + IntKind.wrap IntKind.i64 (q * u)))) ≤ 1000000) then CR.ret (Value.tuple (Array.mk [Value.int IntKind.i64 (IntKind.wrap IntKind.i64 (Int.ofNat 0 - IntKind.wrap IntKind.i64 (IntKind.wrap IntKind.i64 (p * v) + IntKind.wrap IntKind.i64 (q * u)))), Value.int IntKind.i64 (m_fR (IntKind.wrap IntKind.i64 (Int.ofNat 0 - IntKind.wrap IntKind.i64 (IntKind.wrap IntKind.i64 (p * v) + IntKind.wrap IntKind.i64 (q * u)))) (Int.tmod (IntKind.wrap IntKind.i64 (Int.ofNat 0 - IntKind.wrap IntKind.i64 (IntKind.wrap IntKind.i64 (p * m_bV u v) + IntKind.wrap IntKind.i64 (q * m_bU u v)))) (IntKind.wrap IntKind.i64 (Int.ofNat 0 - IntKind.wrap IntKind.i64 (IntKind.wrap IntKind.i64 (p * v) + IntKind.wrap IntKind.i64 (q * u)))))), Value.bool true])) (AW.mk 0 Tr.nil Tr.nil) else CR.fail 420 else CR.fail 420 else bif !decide (IntKind.wrap IntKind.i64 (IntKind.wrap IntKind.i64 (p * v) + IntKind.wrap IntKind.i64 (q * u)) = 0) then bif decide (Int.tmod (IntKind.wrap IntKind.i64 (IntKind.wrap IntKind.i64 (p * m_bV u v) + IntKind.wrap IntKind.i64 (q * m_bU u v))) (IntKind.wrap IntKind.i64 (IntKind.wrap IntKind.i64 (p * v) + IntKind.wrap IntKind.i64 (q * u))) < 0) then bif decide (0 < IntKind.wrap IntKind.i64 (IntKind.wrap IntKind.i64 (p * v) + IntKind.wrap IntKind.i64 (q * u))) && decide (IntKind.wrap IntKind.i64 (IntKind.wrap IntKind.i64 (p * v) + IntKind.wrap IntKind.i64 (q * u)) ≤ 1000000) && decide (IntKind.wrap IntKind.i64 (Int.tmod (IntKind.wrap IntKind.i64 (IntKind.wrap IntKind.i64 (p * m_bV u v) + IntKind.wrap IntKind.i64 (q * m_bU u v))) (IntKind.wrap IntKind.i64 (IntKind.wrap IntKind.i64 (p * v) + IntKind.wrap IntKind.i64 (q * u))) + IntKind.wrap IntKind.i64 (IntKind.wrap IntKind.i64 (p * v) + IntKind.wrap IntKind.i64 (q * u))) ≤ 1000000) then CR.ret (Value.tuple (Array.mk [Value.int IntKind.i64 (IntKind.wrap IntKind.i64 (IntKind.wrap IntKind.i64 (p * v) + IntKind.wrap IntKind.i64 (q * u))), Value.int IntKind.i64 (m_fR (IntKind.wrap IntKind.i64 (IntKind.wrap IntKind.i64 (p * v) + IntKind.wrap IntKind.i64 (q * u))) (IntKind.wrap IntKind.i64 (Int.tmod (IntKind.wrap IntKind.i64 (IntKind.wrap IntKind.i64 (p * m_bV u v) + IntKind.wrap IntKind.i64 (q * m_bU u v))) (IntKind.wrap IntKind.i64 (IntKind.wrap IntKind.i64 (p * v) + IntKind.wrap IntKind.i64 (q * u))) + IntKind.wrap IntKind.i64 (IntKind.wrap IntKind.i64 (p * v) + IntKind.wrap IntKind.i64 (q * u))))), Value.bool true])) (AW.mk 0 Tr.nil Tr.nil) else CR.fail 420 else bif decide (0 < IntKind.wrap IntKind.i64 (IntKind.wrap IntKind.i64 (p * v) + IntKind.wrap IntKind.i64 (q * u))) && decide (IntKind.wrap IntKind.i64 (IntKind.wrap IntKind.i64 (p * v) + IntKind.wrap IntKind.i64 (q * u)) ≤ 1000000) && decide (Int.tmod (IntKind.wrap IntKind.i64 (IntKind.wrap IntKind.i64 (p * m_bV u v) + IntKind.wrap IntKind.i64 (q * m_bU u v))) (IntKind.wrap IntKind.i64 (IntKind.wrap IntKind.i64 (p * v) + IntKind.wrap IntKind.i64 (q * u))) ≤ 1000000) then CR.ret (Value.tuple (Array.mk [Value.int IntKind.i64 (IntKind.wrap IntKind.i64 (IntKind.wrap IntKind.i64 (p * v) + IntKind.wrap IntKind.i64 (q * u))), Value.int IntKind.i64 (m_fR (IntKind.wrap IntKind.i64 (IntKind.wrap IntKind.i64 (p * v) + IntKind.wrap IntKind.i64 (q * u))) (Int.tmod (IntKind.wrap IntKind.i64 (IntKind.wrap IntKind.i64 (p * m_bV u v) + IntKind.wrap IntKind.i64 (q * m_bU u v))) (IntKind.wrap IntKind.i64 (IntKind.wrap IntKind.i64 (p * v) + IntKind.wrap IntKind.i64 (q * u))))), Value.bool true])) (AW.mk 0 Tr.nil Tr.nil) else CR.fail 420 else CR.fail 420 else CR.fail 420 := by kernel_rfl

end Go.Proofs

/- The fraction of the law, run. -/
namespace Go.Proofs
open Go Go.Ev Go.Num

noncomputable def cRF : Code := bodyOf S0 22
theorem rfA (r : Mem) (L : Nat) (p q : Int) : (lvlT (SC r) (tcons 34 (eI2 (fun a b => decide (0 ≤ a) && decide (0 ≤ b)) fun a b => I (m_gcd a b)) fun _ => none) .nil L 1).call 22 [I p, I q] emptyA fin =
    bif decide (q < 0) then CR.ret (Value.bool false) (AW.mk 0 Tr.nil Tr.nil) else bif q == Int.ofNat 0 then bif p == Int.ofNat 1 then CR.ret (Value.bool true) (AW.mk 0 Tr.nil Tr.nil) else CR.ret (Value.bool false) (AW.mk 0 Tr.nil Tr.nil) else bif !decide (q = 0) then bif decide (Int.tmod p q < 0) then bif decide (0 ≤ q) && decide (0 ≤ IntKind.wrap IntKind.i64 (Int.tmod p q + q)) then bif m_gcd q (IntKind.wrap IntKind.i64 (Int.tmod p q + q)) == Int.ofNat 1 then CR.ret (Value.bool true) (AW.mk 0 Tr.nil Tr.nil) else CR.ret (Value.bool false) (AW.mk 0 Tr.nil Tr.nil) else CR.fail 420 else bif decide (0 ≤ q) && decide (0 ≤ Int.tmod p q) then bif m_gcd q (Int.tmod p q) == Int.ofNat 1 then CR.ret (Value.bool true) (AW.mk 0 Tr.nil Tr.nil) else CR.ret (Value.bool false) (AW.mk 0 Tr.nil Tr.nil) else CR.fail 420 else CR.fail 420 := by kernel_rfl

noncomputable def cLF : Code := bodyOf S0 45
def TLF (p q : Int) : Tr Value := (((tr0 51 [I p, I q]).put 4 (some (I 0))).put 5 (some (I 0)))

theorem lfA (r : Mem) (L : Nat) (fs : FnsC) (p q : Int) (A : AW) (kn : KS) (kx : Nat → KS) (kr : KS) (ms : List Nat) : run (SC r) 51 22 L (.seq (.seq (lc cLF) (lc (rc cLF))) (lc (rc (rc cLF)))) fs none kn kx kr (sc0 51 [I p, I q]) (tr0 51 [I p, I q]) ms A =
    bif IntKind.wrap IntKind.i64 (Int.tmod (IntKind.wrap IntKind.u64 q) (Int.ofNat 501)) == Int.ofNat 0 then kr [] (Tr.node (Tr.node Tr.nil (some (Value.int IntKind.i64 (IntKind.wrap IntKind.i64 (Int.tmod (IntKind.wrap IntKind.u64 q) (Int.ofNat 501))))) (Tr.node Tr.nil (some (Value.int IntKind.i64 (Int.ofNat 0))) Tr.nil)) (some (Value.int IntKind.i64 (Int.tmod p (Int.ofNat 501)))) (Tr.node (Tr.node Tr.nil (some (Value.int IntKind.i64 (Int.ofNat 1))) Tr.nil) none Tr.nil)) ms A else kn [(13, Value.bool false), (12, Value.int IntKind.i64 (IntKind.wrap IntKind.i64 (Int.tmod (IntKind.wrap IntKind.u64 q) (Int.ofNat 501))))] (Tr.node (Tr.node Tr.nil (some (Value.int IntKind.i64 (IntKind.wrap IntKind.i64 (Int.tmod (IntKind.wrap IntKind.u64 q) (Int.ofNat 501))))) (Tr.node Tr.nil (some (Value.int IntKind.i64 (Int.ofNat 0))) Tr.nil)) (some (Value.int IntKind.i64 (Int.tmod p (Int.ofNat 501)))) (Tr.node (Tr.node Tr.nil (some (Value.int IntKind.i64 (Int.ofNat 0))) Tr.nil) none Tr.nil)) ms A := by kernel_rfl

def m_max (b : Int) : Bool := decide (b ≤ 9223372036854775807)
def tF : Tbl := tcons 22 (eI2 (fun _ b => m_max b) fun a b => .bool (m_frac a b)) fun _ => none

theorem lfB (r : Mem) (L : Nat) (ms' : Tr Nat) (p q : Int) (s : List (Nat × Value)) (A : AW) (kn : KS) (kx : Nat → KS) (kr : KS) (ms : List Nat) : run (SC r) 51 22 L (ic (ic (lc (rc (rc (rc cLF)))))) (lvlT (SC r) tF ms' L 0) none kn kx kr s (TLF p q) ms A =
    bif m_max q then bif m_frac p q then kx 0 [(17, Value.bool false), (16, Value.bool true), (15, Value.int IntKind.i64 q), (14, Value.int IntKind.i64 p)] (Tr.node (Tr.node Tr.nil (some (Value.int IntKind.i64 q)) (Tr.node Tr.nil (some (Value.int IntKind.i64 (Int.ofNat 0))) Tr.nil)) (some (Value.int IntKind.i64 p)) (Tr.node (Tr.node Tr.nil (some (Value.int IntKind.i64 (Int.ofNat 0))) Tr.nil) none Tr.nil)) ms A else kn [(19, Value.int IntKind.i64 (IntKind.wrap IntKind.i64 (q - Int.ofNat 1))), (18, Value.int IntKind.i64 q)] (Tr.node (Tr.node Tr.nil (some (Value.int IntKind.i64 (IntKind.wrap IntKind.i64 (q - Int.ofNat 1)))) (Tr.node Tr.nil (some (Value.int IntKind.i64 (Int.ofNat 0))) Tr.nil)) (some (Value.int IntKind.i64 p)) (Tr.node (Tr.node Tr.nil (some (Value.int IntKind.i64 (Int.ofNat 0))) Tr.nil) none Tr.nil)) ms A else CR.fail 420 := by kernel_rfl

theorem lfC (r : Mem) (L : Nat) (fs : FnsC) (p q : Int) (s : List (Nat × Value)) (A : AW) (kn : KS) (kx : Nat → KS) (kr : KS) (ms : List Nat) : run (SC r) 51 22 L (rc (rc (rc (rc cLF)))) fs none kn kx kr s (TLF p q) ms A =
    kr [(21, Value.int IntKind.i64 q), (20, Value.int IntKind.i64 p)] (Tr.node (Tr.node Tr.nil (some (Value.int IntKind.i64 q)) (Tr.node Tr.nil (some (Value.int IntKind.i64 q)) Tr.nil)) (some (Value.int IntKind.i64 p)) (Tr.node (Tr.node Tr.nil (some (Value.int IntKind.i64 p)) Tr.nil) none Tr.nil)) ms A := by kernel_rfl

end Go.Proofs

/- Closings: what the calls answer. -/
namespace Go.Proofs
open Go Go.Ev Go.Num

theorem smF_use {p q : Int} (h : m_smF p q = true) : frac p q = true ∧ -500 ≤ p ∧ p ≤ 500 ∧ 0 ≤ q ∧ q ≤ 500 := by
  simp only [m_smF, m_wi, m_small, Bool.and_eq_true, decide_eq_true_eq] at h
  refine ⟨h.1, h.2.1.1, h.2.1.2, ?_, h.2.2⟩
  have := (frac_iff p q).1 h.1
  omega

theorem invG_of {a n : Int} (h0 : 0 ≤ a) (h1 : a < n) (h2 : n ≤ 1000000) : m_invG a n = true := by simp [m_invG, h0, h1, h2]

theorem nb_ok (r : Mem) (p q : Int) (h : m_smF p q = true) : GrT Tryd.prog r 86 [FV p q] (.tuple ⟨[I (m_nbU p q), I (m_nbV p q)]⟩) :=
  GrT.of (SC_ok r) (show TOk (SC r) tNb from TOk.cons (TOk.cons TOk.nil (restE_ok r)) (invE_ok r)) .nil rfl ⟨1, 1, by
    rw [nbA]
    obtain ⟨hf, h1, h2, h3, h4⟩ := smF_use h
    by_cases hq : q = 0
    · subst hq
      rfl
    · have hq0 : 0 < q := by omega
      have a0 := Int.emod_nonneg p hq
      have a1 := Int.emod_lt_of_pos p hq0
      have g1 : m_restG p q = true := by simp [m_restG]; omega
      have g2 : m_invG (m_rest p q) q = true := invG_of (a := p % q) a0 a1 (by omega)
      have i0 := inv_nonneg (p % q) hq0
      have i1 := inv_lt (p % q) hq0
      have w1 : IntKind.wrap IntKind.i64 (Int.ofNat 0 - inv (p % q) q) = -inv (p % q) q := by rw [wrI (by simp; omega)]; simp
      obtain ⟨m1, m2⟩ := mul_small (a := p) (b := -inv (p % q) q) (A := 500) (B := 500) (by omega) (by omega) (by omega) (by omega)
      have w2 : IntKind.wrap IntKind.i64 (p * -inv (p % q) q) = p * -inv (p % q) q := wrI (by omega)
      have w3 : IntKind.wrap IntKind.i64 (Int.ofNat 1 + p * -inv (p % q) q) = 1 + p * -inv (p % q) q := wrI (by simp; omega)
      obtain ⟨t1, t2⟩ := tdiv_small (a := 1 + p * -inv (p % q) q) (q := q) (B := 250001) (by omega) (by omega)
      have w4 : IntKind.wrap IntKind.i64 ((1 + p * -inv (p % q) q).tdiv q) = (1 + p * -inv (p % q) q).tdiv q := wrI (by omega)
      have e1 : m_nbV p q = -inv (p % q) q := by simp [m_nbV, nbV, hq]
      have e2 : m_nbU p q = (1 + p * -inv (p % q) q).tdiv q := by simp [m_nbU, nbU, nbV, hq]
      simp only [eqF (show q ≠ Int.ofNat 0 from hq), cond_false, g1, g2, cond_true, eqv_int, dF hq, Bool.not_false, e1, e2]
      simp only [m_rest, m_inv, w1, w2, w3, w4]
      rfl⟩

theorem close_nums {p q u v s t : Int} (h1 : m_smF p q = true) (h2 : m_smF u v = true) (hs : -250001 ≤ s ∧ s ≤ 250001) (ht : -500 ≤ t ∧ t ≤ 500) :
    IntKind.wrap IntKind.i64 (IntKind.wrap IntKind.i64 (p * v) + IntKind.wrap IntKind.i64 (q * u)) = closeN p q u v ∧ IntKind.wrap IntKind.i64 (IntKind.wrap IntKind.i64 (p * t) + IntKind.wrap IntKind.i64 (q * s)) = p * t + q * s ∧
    -500000 ≤ closeN p q u v ∧ closeN p q u v ≤ 500000 ∧ -1000000000 ≤ p * t + q * s ∧ p * t + q * s ≤ 1000000000 := by
  obtain ⟨_, a1, a2, a3, a4⟩ := smF_use h1
  obtain ⟨_, b1, b2, b3, b4⟩ := smF_use h2
  obtain ⟨m1, m2⟩ := mul_small (a := p) (b := v) (A := 500) (B := 500) (by omega) (by omega) (by omega) (by omega)
  obtain ⟨m3, m4⟩ := mul_small (a := q) (b := u) (A := 500) (B := 500) (by omega) (by omega) (by omega) (by omega)
  obtain ⟨m5, m6⟩ := mul_small (a := p) (b := t) (A := 500) (B := 500) (by omega) (by omega) (by omega) (by omega)
  obtain ⟨m7, m8⟩ := mul_small (a := q) (b := s) (A := 500) (B := 250001) (by omega) (by omega) (by omega) (by omega)
  have w1 : IntKind.wrap IntKind.i64 (p * v) = p * v := wrI (by omega)
  have w2 : IntKind.wrap IntKind.i64 (q * u) = q * u := wrI (by omega)
  have w3 : IntKind.wrap IntKind.i64 (p * t) = p * t := wrI (by omega)
  have w4 : IntKind.wrap IntKind.i64 (q * s) = q * s := wrI (by omega)
  rw [w1, w2, w3, w4]
  unfold closeN
  exact ⟨wrI (by omega), wrI (by omega), by omega, by omega, by omega, by omega⟩

theorem nbE_ok (r : Mem) : EOk (SC r) 86 (eA2 m_smF fun p q => .tuple ⟨[I (m_nbU p q), I (m_nbV p q)]⟩) := eA2_ok fun a b h => nb_ok r a b h

theorem closing_ok (r : Mem) (p q u v : Int) (h : m_clG p q u v = true) : GrT Tryd.prog r 64 [FV p q, FV u v] (.tuple ⟨[.agg ⟨[I (m_clX p q u v), I (m_clY p q u v)]⟩, .bool (m_clB p q u v)]⟩) :=
  GrT.of (SC_ok r) (show TOk (SC r) tCl from TOk.cons (TOk.cons (TOk.cons TOk.nil (fstE_ok r)) (restE_ok r)) (nbE_ok r)) .nil rfl ⟨1, 1, by
    rw [clA]
    simp only [m_clG, Bool.and_eq_true] at h
    obtain ⟨h1, h2⟩ := h
    obtain ⟨hf, _, _, c3, c4⟩ := smF_use h1
    obtain ⟨hg, b1, b2, b3, b4⟩ := smF_use h2
    have hV := nbV_small (p := u) b3 b4
    have hU := nbU_small b1 b2 b3 b4
    obtain ⟨w1, w2, n1, n2, n3, n4⟩ := close_nums h1 h2 hU (show -500 ≤ nbV u v ∧ nbV u v ≤ 500 by omega)
    unfold m_clX m_clY m_clB m_nbU m_nbV closeZ
    rw [w1, w2]
    generalize p * nbV u v + q * nbU u v = m at *
    generalize closeN p q u v = n at *
    by_cases hn : n = 0
    · subst hn
      rfl
    · have ha := absN_pos hn
      have r0 := closeR_nonneg (m := m) hn
      have r1 := closeR_lt (m := m) hn
      have ha2 : absN n ≤ 500000 := by unfold absN; split <;> omega
      simp only [eqF (show n ≠ Int.ofNat 0 from hn), cond_false, h2, cond_true, if_neg hn, dF hn, Bool.not_false]
      by_cases c : n < 0
      · have e1 : absN n = -n := by unfold absN; rw [if_pos c]
        have e2 : closeR n m = -m % -n := by unfold closeR; rw [if_pos c, e1]
        have w3 : IntKind.wrap IntKind.i64 (Int.ofNat 0 - n) = -n := by rw [wrI (by simp; omega)]; simp
        have w4 : IntKind.wrap IntKind.i64 (Int.ofNat 0 - m) = -m := by rw [wrI (by simp; omega)]; simp
        rw [e1] at ha ha2 r1
        rw [e2] at r0 r1
        have g1 : m_restG (-m) (-n) = true := by simp [m_restG]; omega
        have g2 : m_invG (m_rest (-m) (-n)) (-n) = true := invG_of (a := -m % -n) r0 r1 (by omega)
        rw [e1, e2]
        simp only [dT c, cond_true, w3, w4, g1, g2]
        simp only [m_rest, m_fst]
        rfl
      · have e1 : absN n = n := by unfold absN; rw [if_neg c]
        have e2 : closeR n m = m % n := by unfold closeR; rw [if_neg c, e1]
        rw [e1] at ha ha2 r1
        rw [e2] at r0 r1
        have g1 : m_restG m n = true := by simp [m_restG]; omega
        have g2 : m_invG (m_rest m n) n = true := invG_of (a := m % n) r0 r1 (by omega)
        rw [e1, e2]
        simp only [dF c, cond_false, cond_true, g1, g2]
        simp only [m_rest, m_fst]
        rfl⟩

theorem within_ok (r : Mem) (p q : Int) : GrT Tryd.prog r 48 [FV p q, I 500] (.bool (m_wi p q)) :=
  GrT.of (SC_ok r) TOk.nil .nil rfl ⟨1, 1, by
    rw [iwA]
    have w : IntKind.wrap IntKind.i64 (Int.ofNat 0 - 500) = -500 := by rw [wrI (by simp)]; simp
    rw [w]
    unfold m_wi m_small
    by_cases a : -500 ≤ p
    · by_cases b : p ≤ 500
      · by_cases c : q ≤ 500
        · simp only [dT a, dT b, dT c, cond_true]; rfl
        · simp only [dT a, dT b, dF c, cond_true, cond_false]; rfl
      · simp only [dT a, dF b, cond_true, cond_false]; rfl
    · simp only [dF a, cond_false]; rfl⟩

theorem withinE_ok (r : Mem) : EOk (SC r) 48 (eA1I (fun _ _ x => x == 500) fun a b _ => .bool (m_wi a b)) := eA1I_ok fun a b c h => by
  have : c = 500 := by simpa using h
  subst this
  exact within_ok r a b

theorem closingE_ok (r : Mem) : EOk (SC r) 64 (eAA m_clG fun p q u v => .tuple ⟨[.agg ⟨[I (m_clX p q u v), I (m_clY p q u v)]⟩, .bool (m_clB p q u v)]⟩) := eAA_ok fun a b c d h => closing_ok r a b c d h

/- What Close answers: the error, the numbers. -/
def m_coE (p q u v : Int) : Int := if frac p q && frac u v then (if m_wi p q && m_wi u v then (if closeN p q u v = 0 then 4 else 0) else 1) else 61
def m_coX (p q u v : Int) : Int := if m_coE p q u v = 0 then absN (closeN p q u v) else 0
def m_coY (p q u v : Int) : Int := if m_coE p q u v = 0 then closeZ p q u v else 0

theorem coE_61 {p q u v : Int} (h : (frac p q && frac u v) = false) : m_coE p q u v = 61 := by unfold m_coE; simp [h]
theorem coE_1 {p q u v : Int} (h : (frac p q && frac u v) = true) (h' : (m_wi p q && m_wi u v) = false) : m_coE p q u v = 1 := by unfold m_coE; simp [h, h']
theorem coE_4 {p q u v : Int} (h : (frac p q && frac u v) = true) (h' : (m_wi p q && m_wi u v) = true) (hn : closeN p q u v = 0) : m_coE p q u v = 4 := by unfold m_coE; simp [h, h', hn]
theorem coE_0 {p q u v : Int} (h : (frac p q && frac u v) = true) (h' : (m_wi p q && m_wi u v) = true) (hn : closeN p q u v ≠ 0) : m_coE p q u v = 0 := by unfold m_coE; simp [h, h', hn]
theorem coX_0 {p q u v : Int} (h : m_coE p q u v ≠ 0) : m_coX p q u v = 0 := by unfold m_coX; rw [if_neg h]
theorem coY_0 {p q u v : Int} (h : m_coE p q u v ≠ 0) : m_coY p q u v = 0 := by unfold m_coY; rw [if_neg h]

theorem close_ok (r : Mem) (p q u v : Int) : GrT Tryd.prog r 43 [I p, I q, I u, I v] (.tuple ⟨[I (m_coX p q u v), I (m_coY p q u v), I (m_coE p q u v)]⟩) :=
  GrT.of (SC_ok r) (show TOk (SC r) tClose from TOk.cons (TOk.cons (TOk.cons TOk.nil (closingE_ok r)) (withinE_ok r)) (fracE_ok r)) .nil rfl ⟨8, 4, by
    rw [coA]
    simp only [eqv_int, eqv_agg2', cond_true]
    cases h1 : frac p q with
    | false =>
      have e := coE_61 (p := p) (q := q) (u := u) (v := v) (by rw [h1]; rfl)
      rw [coX_0 (by rw [e]; decide), coY_0 (by rw [e]; decide), e]
      simp only [m_frac, h1, cond_false]
      rfl
    | true =>
      cases h2 : frac u v with
      | false =>
        have e := coE_61 (p := p) (q := q) (u := u) (v := v) (by rw [h1, h2]; rfl)
        rw [coX_0 (by rw [e]; decide), coY_0 (by rw [e]; decide), e]
        simp only [m_frac, h1, h2, cond_true, cond_false]
        rfl
      | true =>
        have hf : (frac p q && frac u v) = true := by rw [h1, h2]; rfl
        cases h3 : m_wi p q with
        | false =>
          have e := coE_1 hf (by rw [h3]; rfl)
          rw [coX_0 (by rw [e]; decide), coY_0 (by rw [e]; decide), e]
          simp only [m_frac, h1, h2, h3, cond_true, cond_false]
          rfl
        | true =>
          cases h4 : m_wi u v with
          | false =>
            have e := coE_1 hf (by rw [h3, h4]; rfl)
            rw [coX_0 (by rw [e]; decide), coY_0 (by rw [e]; decide), e]
            simp only [m_frac, h1, h2, h3, h4, cond_true, cond_false]
            rfl
          | true =>
            have hw : (m_wi p q && m_wi u v) = true := by rw [h3, h4]; rfl
            have hG : m_clG p q u v = true := by simp [m_clG, m_smF, h1, h2, h3, h4]
            by_cases hn : closeN p q u v = 0
            · have e := coE_4 hf hw hn
              rw [coX_0 (by rw [e]; decide), coY_0 (by rw [e]; decide), e]
              have hB : m_clB p q u v = false := by simp [m_clB, hn]
              simp only [m_frac, h1, h2, h3, h4, hG, hB, cond_true, cond_false]
              rfl
            · have e := coE_0 hf hw hn
              have hB : m_clB p q u v = true := by simp [m_clB, hn]
              have hX : m_coX p q u v = m_clX p q u v := by unfold m_coX m_clX; rw [if_pos e, if_neg hn]
              have hY : m_coY p q u v = m_clY p q u v := by unfold m_coY m_clY; rw [if_pos e, if_neg hn]
              rw [e, hX, hY]
              simp only [m_frac, h1, h2, h3, h4, hG, hB, cond_true]
              rfl⟩

theorem bezE_ok (r : Mem) : EOk (SC r) 65 (eI2 m_smF fun p q => .tuple ⟨[I (m_bU p q), I (m_bV p q)]⟩) := eI2_ok fun a b h => by
  obtain ⟨h1, h2, h3, h4, h5⟩ := smF_use h
  exact bez_ok r a b h2 h3 h5 h1

theorem firstE_ok (r : Mem) : EOk (SC r) 29 (eI2 (fun p q => decide (0 < p) && decide (p ≤ 1000000) && decide (q ≤ 1000000)) fun p q => .tuple ⟨[I p, I (m_fR p q)]⟩) := eI2_ok fun a b h => by
  simp only [Bool.and_eq_true, decide_eq_true_eq] at h
  exact first_ok r a b h.1.1 h.1.2 h.2

theorem tmod_fix {a n : Int} (hn : 0 < n) : (if a.tmod n < 0 then a.tmod n + n else a.tmod n) = a % n := by
  have e1 := Int.tmod_lt_of_pos a hn
  have e2 : -n < a.tmod n := by
    have : (a.tmod n).natAbs < n.natAbs := by rw [Int.natAbs_tmod]; exact Nat.mod_lt _ (by omega)
    omega
  have e3 : a.tmod n % n = a % n := by
    have := Int.tmod_def a n
    rw [this, Int.sub_mul_emod_self_left]
  split
  · rw [← e3, ← Int.add_emod_right, Int.emod_eq_of_lt (by omega) (by omega)]
  · rw [← e3, Int.emod_eq_of_lt (by omega) (by omega)]

theorem rClose_ok (r : Mem) (p q u v : Int) (h : m_clG p q u v = true) : GrT Tryd.prog r 44 [I p, I q, I u, I v] (.tuple ⟨[I (m_clX p q u v), I (m_clY p q u v), .bool (m_clB p q u v)]⟩) :=
  GrT.of (SC_ok r) (show TOk (SC r) tRC from TOk.cons (TOk.cons TOk.nil (firstE_ok r)) (bezE_ok r)) .nil rfl ⟨1, 1, by
    rw [rcA]
    simp only [m_clG, Bool.and_eq_true] at h
    obtain ⟨h1, h2⟩ := h
    obtain ⟨hf, _, _, c3, c4⟩ := smF_use h1
    obtain ⟨hg, b1, b2, b3, b4⟩ := smF_use h2
    have hV := bezV_small b3 b4 b1 b2
    have hU := bezU_small b1 b2 b3 b4
    obtain ⟨w1, w2, n1, n2, n3, n4⟩ := close_nums h1 h2 hU hV
    have hc := cl_gcd (p := p) (q := q) (u := u) (v := v) hf hg
    have hz : m_clY p q u v = if closeN p q u v = 0 then 0 else fst (absN (closeN p q u v)) (closeR (closeN p q u v) (p * bezV u v + q * bezU u v)) := by
      unfold m_clY closeZ
      rw [cl_bez hg]
    rw [← cl_bez hg] at hc
    rw [hz]
    unfold m_clX m_clB m_bU m_bV m_fR
    rw [w1, w2]
    generalize p * bezV u v + q * bezU u v = m at *
    generalize closeN p q u v = n at *
    by_cases hn : n = 0
    · subst hn
      rfl
    · have ha := absN_pos hn
      have r0 := closeR_nonneg (m := m) hn
      have r1 := closeR_lt (m := m) hn
      have ha2 : absN n ≤ 500000 := by unfold absN; split <;> omega
      have hfst := fstR_eq r0 r1 hc 0 (by omega) r0 (inv_nonneg _ ha)
      rw [if_neg hn, if_neg hn]
      simp only [eqF (show n ≠ Int.ofNat 0 from hn), cond_false, h2, cond_true, dF hn, Bool.not_false]
      by_cases c : n < 0
      · have e1 : absN n = -n := by unfold absN; rw [if_pos c]
        have e2 : closeR n m = -m % -n := by unfold closeR; rw [if_pos c, e1]
        have w3 : IntKind.wrap IntKind.i64 (Int.ofNat 0 - n) = -n := by rw [wrI (by simp; omega)]; simp
        have w4 : IntKind.wrap IntKind.i64 (Int.ofNat 0 - m) = -m := by rw [wrI (by simp; omega)]; simp
        rw [e1] at ha ha2 r1 hfst
        rw [e2] at r0 r1 hfst
        rw [e1, e2, ← hfst]
        have hn' : ¬ -n = 0 := by omega
        have ht := tmod_fix (a := -m) (n := -n) ha
        have g0 : (decide (0 < -n) && decide (-n ≤ 1000000)) = true := by simp; omega
        simp only [dT c, cond_true, w3, w4, dF hn', Bool.not_false, g0, Bool.true_and]
        by_cases d : (-m).tmod (-n) < 0
        · rw [if_pos d] at ht
          have w5 : IntKind.wrap IntKind.i64 ((-m).tmod (-n) + -n) = -m % -n := by rw [wrI (by omega), ht]
          have g1 : -m % -n ≤ 1000000 := by omega
          simp only [dT d, cond_true, w5, dT g1]
          rfl
        · rw [if_neg d] at ht
          have g1 : -m % -n ≤ 1000000 := by omega
          rw [ht] at d
          simp only [ht, dF d, cond_false, cond_true, dT g1]
          rfl
      · have e1 : absN n = n := by unfold absN; rw [if_neg c]
        have e2 : closeR n m = m % n := by unfold closeR; rw [if_neg c, e1]
        rw [e1] at ha ha2 r1 hfst
        rw [e2] at r0 r1 hfst
        rw [e1, e2, ← hfst]
        have ht := tmod_fix (a := m) (n := n) ha
        have g0 : (decide (0 < n) && decide (n ≤ 1000000)) = true := by simp; omega
        simp only [dF c, cond_true, cond_false, g0, Bool.true_and]
        by_cases d : m.tmod n < 0
        · rw [if_pos d] at ht
          have w5 : IntKind.wrap IntKind.i64 (m.tmod n + n) = m % n := by rw [wrI (by omega), ht]
          have g1 : m % n ≤ 1000000 := by omega
          simp only [dT d, cond_true, w5, dT g1]
          rfl
        · rw [if_neg d] at ht
          have g1 : m % n ≤ 1000000 := by omega
          rw [ht] at d
          simp only [ht, dF d, cond_false, cond_true, dT g1]
          rfl⟩

end Go.Proofs

/- The law of closings, run. -/
namespace Go.Proofs
open Go Go.Ev Go.Num

/-- The greatest number from q down that makes a fraction. -/
def low (p q : Int) : Int := if _h : q ≤ 0 then q else if frac p q then q else low p (q - 1)
termination_by q.toNat
decreasing_by omega

def lq0 (q : Int) : Int := IntKind.wrap IntKind.i64 (Int.tmod (IntKind.wrap IntKind.u64 q) (Int.ofNat 501))
def m_lfP (p q : Int) : Int := if lq0 q = 0 then 1 else Int.tmod p 501
def m_lfQ (p q : Int) : Int := if lq0 q = 0 then 0 else low (Int.tmod p 501) (lq0 q)

def tCloses : Tbl := tcons 43 (eI4 (fun _ _ _ _ => true) fun a b c d => .tuple ⟨[I (m_coX a b c d), I (m_coY a b c d), I (m_coE a b c d)]⟩)
  (tcons 22 (eI2 (fun _ b => m_max b) fun a b => .bool (m_frac a b)) (tcons 20 (eI1 (fun _ => true) fun a => .bool (m_small a))
  (tcons 44 (eI4 m_clG fun p q u v => .tuple ⟨[I (m_clX p q u v), I (m_clY p q u v), .bool (m_clB p q u v)]⟩) (tcons 45 (eI2 (fun _ _ => true) fun a b => .tuple ⟨[I (m_lfP a b), I (m_lfQ a b)]⟩)
  (tcons 18 (e0 (.bool true)) fun _ => none)))))

theorem csA (r : Mem) (p q u v : Int) : (lvlT (SC r) tCloses .nil 3 1).call 9 [FV p q, FV u v] emptyA fin =
    bif m_max q then bif m_frac p q then bif m_max v then bif m_frac u v then bif m_small p then bif m_small q then bif m_small u then bif m_small v then bif m_clG p q u v then bif m_clB p q u v then bif m_coE p q u v != Int.ofNat 0 then CR.ret (Value.bool false) (AW.mk 0 Tr.nil Tr.nil) else bif m_coX p q u v != m_clX p q u v then CR.ret (Value.bool false) (AW.mk 0 Tr.nil Tr.nil) else bif m_coY p q u v != m_clY p q u v then CR.ret (Value.bool false) (AW.mk 0 Tr.nil Tr.nil) else bif m_max (m_lfQ p q) then bif m_frac (m_lfP p q) (m_lfQ p q) then bif m_max (m_lfQ u v) then bif m_frac (m_lfP u v) (m_lfQ u v) then bif m_small (m_lfP p q) then bif m_small (m_lfQ p q) then bif m_small (m_lfP u v) then bif m_small (m_lfQ u v) then bif m_clG (m_lfP p q) (m_lfQ p q) (m_lfP u v) (m_lfQ u v) then bif m_clB (m_lfP p q) (m_lfQ p q) (m_lfP u v) (m_lfQ u v) then bif m_coE (m_lfP p q) (m_lfQ p q) (m_lfP u v) (m_lfQ u v) != Int.ofNat 0 then CR.ret (Value.bool false) (AW.mk 0 Tr.nil Tr.nil) else bif m_coX (m_lfP p q) (m_lfQ p q) (m_lfP u v) (m_lfQ u v) != m_clX (m_lfP p q) (m_lfQ p q) (m_lfP u v) (m_lfQ u v) then CR.ret (Value.bool false) (AW.mk 0 Tr.nil Tr.nil) else bif m_coY (m_lfP p q) (m_lfQ p q) (m_lfP u v) (m_lfQ u v) != m_clY (m_lfP p q) (m_lfQ p q) (m_lfP u v) (m_lfQ u v) then CR.ret (Value.bool false) (AW.mk 0 Tr.nil Tr.nil) else CR.ret (Value.bool true) (AW.mk 0 Tr.nil Tr.nil) else bif m_coE (m_lfP p q) (m_lfQ p q) (m_lfP u v) (m_lfQ u v) != Int.ofNat 4 then CR.ret (Value.bool false) (AW.mk 0 Tr.nil Tr.nil) else bif m_coX (m_lfP p q) (m_lfQ p q) (m_lfP u v) (m_lfQ u v) != Int.ofNat 0 then CR.ret (Value.bool false) (AW.mk 0 Tr.nil Tr.nil) else bif m_coY (m_lfP p q) (m_lfQ p q) (m_lfP u v) (m_lfQ u v) != Int.ofNat 0 then CR.ret (Value.bool false) (AW.mk 0 Tr.nil Tr.nil) else CR.ret (Value.bool true) (AW.mk 0 Tr.nil Tr.nil) else CR.fail 420 else bif m_coE (m_lfP p q) (m_lfQ p q) (m_lfP u v) (m_lfQ u v) != Int.ofNat 1 then CR.ret (Value.bool false) (AW.mk 0 Tr.nil Tr.nil) else bif m_coX (m_lfP p q) (m_lfQ p q) (m_lfP u v) (m_lfQ u v) != Int.ofNat 0 then CR.ret (Value.bool false) (AW.mk 0 Tr.nil Tr.nil) else bif m_coY (m_lfP p q) (m_lfQ p q) (m_lfP u v) (m_lfQ u v) != Int.ofNat 0 then CR.ret (Value.bool false) (AW.mk 0 Tr.nil Tr.nil) else CR.ret (Value.bool true) (AW.mk 0 Tr.nil Tr.nil) else bif m_coE (m_lfP p q) (m_lfQ p q) (m_lfP u v) (m_lfQ u v) != Int.ofNat 1 then CR.ret (Value.bool false) (AW.mk 0 Tr.nil Tr.nil) else bif m_coX (m_lfP p q) (m_lfQ p q) (m_lfP u v) (m_lfQ u v) != Int.ofNat 0 then CR.ret (Value.bool false) (AW.mk 0 Tr.nil Tr.nil) else bif m_coY (m_lfP p q) (m_lfQ p q) (m_lfP u v) (m_lfQ u v) != Int.ofNat 0 then CR.ret (Value.bool false) (AW.mk 0 Tr.nil Tr.nil) else CR.ret (Value.bool true) (AW.mk 0 Tr.nil Tr.nil) else bif m_coE (m_lfP p q) (m_lfQ p q) (m_lfP u v) (m_lfQ u v) != Int.ofNat 1 then CR.ret (Value.bool false) (AW.mk 0 Tr.nil Tr.nil) else bif m_coX (m_lfP p q) (m_lfQ p q) (m_lfP u v) (m_lfQ u v) != Int.ofNat 0 then CR.ret (Value.bool false) (AW.mk 0 Tr.nil Tr.nil) else bif m_coY (m_lfP p q) (m_lfQ p q) (m_lfP u v) (m_lfQ u v) != Int.ofNat 0 then CR.ret (Value.bool false) (AW.mk 0 Tr.nil Tr.nil) else CR.ret (Value.bool true) (AW.mk 0 Tr.nil Tr.nil) else bif m_coE (m_lfP p q) (m_lfQ p q) (m_lfP u v) (m_lfQ u v) != Int.ofNat 1 then CR.ret (Value.bool false) (AW.mk 0 Tr.nil Tr.nil) else bif m_coX (m_lfP p q) (m_lfQ p q) (m_lfP u v) (m_lfQ u v) != Int.ofNat 0 then CR.ret (Value.bool false) (AW.mk 0 Tr.nil Tr.nil) else bif m_coY (m_lfP p q) (m_lfQ p q) (m_lfP u v) (m_lfQ u v) != Int.ofNat 0 then CR.ret (Value.bool false) (AW.mk 0 Tr.nil Tr.nil) else CR.ret (Value.bool true) (AW.mk 0 Tr.nil Tr.nil) else bif m_coE (m_lfP p q) (m_lfQ p q) (m_lfP u v) (m_lfQ u v) != Int.ofNat 61 then CR.ret (Value.bool false) (AW.mk 0 Tr.nil Tr.nil) else bif m_coX (m_lfP p q) (m_lfQ p q) (m_lfP u v) (m_lfQ u v) != Int.ofNat 0 then CR.ret (Value.bool false) (AW.mk 0 Tr.nil Tr.nil) else bif m_coY (m_lfP p q) (m_lfQ p q) (m_lfP u v) (m_lfQ u v) != Int.ofNat 0 then CR.ret (Value.bool false) (AW.mk 0 Tr.nil Tr.nil) else CR.ret (Value.bool true) (AW.mk 0 Tr.nil Tr.nil) else CR.fail 420 else bif m_coE (m_lfP p q) (m_lfQ p q) (m_lfP u v) (m_lfQ u v) != Int.ofNat 61 then CR.ret (Value.bool false) (AW.mk 0 Tr.nil Tr.nil) else bif m_coX (m_lfP p q) (m_lfQ p q) (m_lfP u v) (m_lfQ u v) != Int.ofNat 0 then CR.ret (Value.bool false) (AW.mk 0 Tr.nil Tr.nil) else bif m_coY (m_lfP p q) (m_lfQ p q) (m_lfP u v) (m_lfQ u v) != Int.ofNat 0 then CR.ret (Value.bool false) (AW.mk 0 Tr.nil Tr.nil) else CR.ret (Value.bool true) (AW.mk 0 Tr.nil Tr.nil) else CR.fail 420 else bif m_coE p q u v != Int.ofNat 4 then CR.ret (Value.bool false) (AW.mk 0 Tr.nil Tr.nil) else bif m_coX p q u v != Int.ofNat 0 then CR.ret (Value.bool false) (AW.mk 0 Tr.nil Tr.nil) else bif m_coY p q u v != Int.ofNat 0 then CR.ret (Value.bool false) (AW.mk 0 Tr.nil Tr.nil) else bif m_max (m_lfQ p q) then bif m_frac (m_lfP p q) (m_lfQ p q) then bif m_max (m_lfQ u v) then bif m_frac (m_lfP u v) (m_lfQ u v) then bif m_small (m_lfP p q) then bif m_small (m_lfQ p q) then bif m_small (m_lfP u v) then bif m_small (m_lfQ u v) then bif m_clG (m_lfP p q) (m_lfQ p q) (m_lfP u v) (m_lfQ u v) then bif m_clB (m_lfP p q) (m_lfQ p q) (m_lfP u v) (m_lfQ u v) then bif m_coE (m_lfP p q) (m_lfQ p q) (m_lfP u v) (m_lfQ u v) != Int.ofNat 0 then CR.ret (Value.bool false) (AW.mk 0 Tr.nil Tr.nil) else bif m_coX (m_lfP p q) (m_lfQ p q) (m_lfP u v) (m_lfQ u v) != m_clX (m_lfP p q) (m_lfQ p q) (m_lfP u v) (m_lfQ u v) then CR.ret (Value.bool false) (AW.mk 0 Tr.nil Tr.nil) else bif m_coY (m_lfP p q) (m_lfQ p q) (m_lfP u v) (m_lfQ u v) != m_clY (m_lfP p q) (m_lfQ p q) (m_lfP u v) (m_lfQ u v) then CR.ret (Value.bool false) (AW.mk 0 Tr.nil Tr.nil) else CR.ret (Value.bool true) (AW.mk 0 Tr.nil Tr.nil) else bif m_coE (m_lfP p q) (m_lfQ p q) (m_lfP u v) (m_lfQ u v) != Int.ofNat 4 then CR.ret (Value.bool false) (AW.mk 0 Tr.nil Tr.nil) else bif m_coX (m_lfP p q) (m_lfQ p q) (m_lfP u v) (m_lfQ u v) != Int.ofNat 0 then CR.ret (Value.bool false) (AW.mk 0 Tr.nil Tr.nil) else bif m_coY (m_lfP p q) (m_lfQ p q) (m_lfP u v) (m_lfQ u v) != Int.ofNat 0 then CR.ret (Value.bool false) (AW.mk 0 Tr.nil Tr.nil) else CR.ret (Value.bool true) (AW.mk 0 Tr.nil Tr.nil) else CR.fail 420 else bif m_coE (m_lfP p q) (m_lfQ p q) (m_lfP u v) (m_lfQ u v) != Int.ofNat 1 then CR.ret (Value.bool false) (AW.mk 0 Tr.nil Tr.nil) else bif m_coX (m_lfP p q) (m_lfQ p q) (m_lfP u v) (m_lfQ u v) != Int.ofNat 0 then CR.ret (Value.bool false) (AW.mk 0 Tr.nil Tr.nil) else bif m_coY (m_lfP p q) (m_lfQ p q) (m_lfP u v) (m_lfQ u v) != Int.ofNat 0 then CR.ret (Value.bool false) (AW.mk 0 Tr.nil Tr.nil) else CR.ret (Value.bool true) (AW.mk 0 Tr.nil Tr.nil) else bif m_coE (m_lfP p q) (m_lfQ p q) (m_lfP u v) (m_lfQ u v) != Int.ofNat 1 then CR.ret (Value.bool false) (AW.mk 0 Tr.nil Tr.nil) else bif m_coX (m_lfP p q) (m_lfQ p q) (m_lfP u v) (m_lfQ u v) != Int.ofNat 0 then CR.ret (Value.bool false) (AW.mk 0 Tr.nil Tr.nil) else bif m_coY (m_lfP p q) (m_lfQ p q) (m_lfP u v) (m_lfQ u v) != Int.ofNat 0 then CR.ret (Value.bool false) (AW.mk 0 Tr.nil Tr.nil) else CR.ret (Value.bool true) (AW.mk 0 Tr.nil Tr.nil) else bif m_coE (m_lfP p q) (m_lfQ p q) (m_lfP u v) (m_lfQ u v) != Int.ofNat 1 then CR.ret (Value.bool false) (AW.mk 0 Tr.nil Tr.nil) else bif m_coX (m_lfP p q) (m_lfQ p q) (m_lfP u v) (m_lfQ u v) != Int.ofNat 0 then CR.ret (Value.bool false) (AW.mk 0 Tr.nil Tr.nil) else bif m_coY (m_lfP p q) (m_lfQ p q) (m_lfP u v) (m_lfQ u v) != Int.ofNat 0 then CR.ret (Value.bool false) (AW.mk 0 Tr.nil Tr.nil) else CR.ret (Value.bool true) (AW.mk 0 Tr.nil Tr.nil) else bif m_coE (m_lfP p q) (m_lfQ p q) (m_lfP u v) (m_lfQ u v) != Int.ofNat 1 then CR.ret (Value.bool false) (AW.mk 0 Tr.nil Tr.nil) else bif m_coX (m_lfP p q) (m_lfQ p q) (m_lfP u v) (m_lfQ u v) != Int.ofNat 0 then CR.ret (Value.bool false) (AW.mk 0 Tr.nil Tr.nil) else bif m_coY (m_lfP p q) (m_lfQ p q) (m_lfP u v) (m_lfQ u v) != Int.ofNat 0 then CR.ret (Value.bool false) (AW.mk 0 Tr.nil Tr.nil) else CR.ret (Value.bool true) (AW.mk 0 Tr.nil Tr.nil) else bif m_coE (m_lfP p q) (m_lfQ p q) (m_lfP u v) (m_lfQ u v) != Int.ofNat 61 then CR.ret (Value.bool false) (AW.mk 0 Tr.nil Tr.nil) else bif m_coX (m_lfP p q) (m_lfQ p q) (m_lfP u v) (m_lfQ u v) != Int.ofNat 0 then CR.ret (Value.bool false) (AW.mk 0 Tr.nil Tr.nil) else bif m_coY (m_lfP p q) (m_lfQ p q) (m_lfP u v) (m_lfQ u v) != Int.ofNat 0 then CR.ret (Value.bool false) (AW.mk 0 Tr.nil Tr.nil) else CR.ret (Value.bool true) (AW.mk 0 Tr.nil Tr.nil) else CR.fail 420 else bif m_coE (m_lfP p q) (m_lfQ p q) (m_lfP u v) (m_lfQ u v) != Int.ofNat 61 then CR.ret (Value.bool false) (AW.mk 0 Tr.nil Tr.nil) else bif m_coX (m_lfP p q) (m_lfQ p q) (m_lfP u v) (m_lfQ u v) != Int.ofNat 0 then CR.ret (Value.bool false) (AW.mk 0 Tr.nil Tr.nil) else bif m_coY (m_lfP p q) (m_lfQ p q) (m_lfP u v) (m_lfQ u v) != Int.ofNat 0 then CR.ret (Value.bool false) (AW.mk 0 Tr.nil Tr.nil) else CR.ret (Value.bool true) (AW.mk 0 Tr.nil Tr.nil) else CR.fail 420 else CR.fail 420 else bif m_coE p q u v != Int.ofNat 1 then CR.ret (Value.bool false) (AW.mk 0 Tr.nil Tr.nil) else bif m_coX p q u v != Int.ofNat 0 then CR.ret (Value.bool false) (AW.mk 0 Tr.nil Tr.nil) else bif m_coY p q u v != Int.ofNat 0 then CR.ret (Value.bool false) (AW.mk 0 Tr.nil Tr.nil) else bif m_max (m_lfQ p q) then bif m_frac (m_lfP p q) (m_lfQ p q) then bif m_max (m_lfQ u v) then bif m_frac (m_lfP u v) (m_lfQ u v) then bif m_small (m_lfP p q) then bif m_small (m_lfQ p q) then bif m_small (m_lfP u v) then bif m_small (m_lfQ u v) then bif m_clG (m_lfP p q) (m_lfQ p q) (m_lfP u v) (m_lfQ u v) then bif m_clB (m_lfP p q) (m_lfQ p q) (m_lfP u v) (m_lfQ u v) then bif m_coE (m_lfP p q) (m_lfQ p q) (m_lfP u v) (m_lfQ u v) != Int.ofNat 0 then CR.ret (Value.bool false) (AW.mk 0 Tr.nil Tr.nil) else bif m_coX (m_lfP p q) (m_lfQ p q) (m_lfP u v) (m_lfQ u v) != m_clX (m_lfP p q) (m_lfQ p q) (m_lfP u v) (m_lfQ u v) then CR.ret (Value.bool false) (AW.mk 0 Tr.nil Tr.nil) else bif m_coY (m_lfP p q) (m_lfQ p q) (m_lfP u v) (m_lfQ u v) != m_clY (m_lfP p q) (m_lfQ p q) (m_lfP u v) (m_lfQ u v) then CR.ret (Value.bool false) (AW.mk 0 Tr.nil Tr.nil) else CR.ret (Value.bool true) (AW.mk 0 Tr.nil Tr.nil) else bif m_coE (m_lfP p q) (m_lfQ p q) (m_lfP u v) (m_lfQ u v) != Int.ofNat 4 then CR.ret (Value.bool false) (AW.mk 0 Tr.nil Tr.nil) else bif m_coX (m_lfP p q) (m_lfQ p q) (m_lfP u v) (m_lfQ u v) != Int.ofNat 0 then CR.ret (Value.bool false) (AW.mk 0 Tr.nil Tr.nil) else bif m_coY (m_lfP p q) (m_lfQ p q) (m_lfP u v) (m_lfQ u v) != Int.ofNat 0 then CR.ret (Value.bool false) (AW.mk 0 Tr.nil Tr.nil) else CR.ret (Value.bool true) (AW.mk 0 Tr.nil Tr.nil) else CR.fail 420 else bif m_coE (m_lfP p q) (m_lfQ p q) (m_lfP u v) (m_lfQ u v) != Int.ofNat 1 then CR.ret (Value.bool false) (AW.mk 0 Tr.nil Tr.nil) else bif m_coX (m_lfP p q) (m_lfQ p q) (m_lfP u v) (m_lfQ u v) != Int.ofNat 0 then CR.ret (Value.bool false) (AW.mk 0 Tr.nil Tr.nil) else bif m_coY (m_lfP p q) (m_lfQ p q) (m_lfP u v) (m_lfQ u v) != Int.ofNat 0 then CR.ret (Value.bool false) (AW.mk 0 Tr.nil Tr.nil) else CR.ret (Value.bool true) (AW.mk 0 Tr.nil Tr.nil) else bif m_coE (m_lfP p q) (m_lfQ p q) (m_lfP u v) (m_lfQ u v) != Int.ofNat 1 then CR.ret (Value.bool false) (AW.mk 0 Tr.nil Tr.nil) else bif m_coX (m_lfP p q) (m_lfQ p q) (m_lfP u v) (m_lfQ u v) != Int.ofNat 0 then CR.ret (Value.bool false) (AW.mk 0 Tr.nil Tr.nil) else bif m_coY (m_lfP p q) (m_lfQ p q) (m_lfP u v) (m_lfQ u v) != Int.ofNat 0 then CR.ret (Value.bool false) (AW.mk 0 Tr.nil Tr.nil) else CR.ret (Value.bool true) (AW.mk 0 Tr.nil Tr.nil) else bif m_coE (m_lfP p q) (m_lfQ p q) (m_lfP u v) (m_lfQ u v) != Int.ofNat 1 then CR.ret (Value.bool false) (AW.mk 0 Tr.nil Tr.nil) else bif m_coX (m_lfP p q) (m_lfQ p q) (m_lfP u v) (m_lfQ u v) != Int.ofNat 0 then CR.ret (Value.bool false) (AW.mk 0 Tr.nil Tr.nil) else bif m_coY (m_lfP p q) (m_lfQ p q) (m_lfP u v) (m_lfQ u v) != Int.ofNat 0 then CR.ret (Value.bool false) (AW.mk 0 Tr.nil Tr.nil) else CR.ret (Value.bool true) (AW.mk 0 Tr.nil Tr.nil) else bif m_coE (m_lfP p q) (m_lfQ p q) (m_lfP u v) (m_lfQ u v) != Int.ofNat 1 then CR.ret (Value.bool false) (AW.mk 0 Tr.nil Tr.nil) else bif m_coX (m_lfP p q) (m_lfQ p q) (m_lfP u v) (m_lfQ u v) != Int.ofNat 0 then CR.ret (Value.bool false) (AW.mk 0 Tr.nil Tr.nil) else bif m_coY (m_lfP p q) (m_lfQ p q) (m_lfP u v) (m_lfQ u v) != Int.ofNat 0 then CR.ret (Value.bool false) (AW.mk 0 Tr.nil Tr.nil) else CR.ret (Value.bool true) (AW.mk 0 Tr.nil Tr.nil) else bif m_coE (m_lfP p q) (m_lfQ p q) (m_lfP u v) (m_lfQ u v) != Int.ofNat 61 then CR.ret (Value.bool false) (AW.mk 0 Tr.nil Tr.nil) else bif m_coX (m_lfP p q) (m_lfQ p q) (m_lfP u v) (m_lfQ u v) != Int.ofNat 0 then CR.ret (Value.bool false) (AW.mk 0 Tr.nil Tr.nil) else bif m_coY (m_lfP p q) (m_lfQ p q) (m_lfP u v) (m_lfQ u v) != Int.ofNat 0 then CR.ret (Value.bool false) (AW.mk 0 Tr.nil Tr.nil) else CR.ret (Value.bool true) (AW.mk 0 Tr.nil Tr.nil) else CR.fail 420 else bif m_coE (m_lfP p q) (m_lfQ p q) (m_lfP u v) (m_lfQ u v) != Int.ofNat 61 then CR.ret (Value.bool false) (AW.mk 0 Tr.nil Tr.nil) else bif m_coX (m_lfP p q) (m_lfQ p q) (m_lfP u v) (m_lfQ u v) != Int.ofNat 0 then CR.ret (Value.bool false) (AW.mk 0 Tr.nil Tr.nil) else bif m_coY (m_lfP p q) (m_lfQ p q) (m_lfP u v) (m_lfQ u v) != Int.ofNat 0 then CR.ret (Value.bool false) (AW.mk 0 Tr.nil Tr.nil) else CR.ret (Value.bool true) (AW.mk 0 Tr.nil Tr.nil) else CR.fail 420 else bif m_coE p q u v != Int.ofNat 1 then CR.ret (Value.bool false) (AW.mk 0 Tr.nil Tr.nil) else bif m_coX p q u v != Int.ofNat 0 then CR.ret (Value.bool false) (AW.mk 0 Tr.nil Tr.nil) else bif m_coY p q u v != Int.ofNat 0 then CR.ret (Value.bool false) (AW.mk 0 Tr.nil Tr.nil) else bif m_max (m_lfQ p q) then bif m_frac (m_lfP p q) (m_lfQ p q) then bif m_max (m_lfQ u v) then bif m_frac (m_lfP u v) (m_lfQ u v) then bif m_small (m_lfP p q) then bif m_small (m_lfQ p q) then bif m_small (m_lfP u v) then bif m_small (m_lfQ u v) then bif m_clG (m_lfP p q) (m_lfQ p q) (m_lfP u v) (m_lfQ u v) then bif m_clB (m_lfP p q) (m_lfQ p q) (m_lfP u v) (m_lfQ u v) then bif m_coE (m_lfP p q) (m_lfQ p q) (m_lfP u v) (m_lfQ u v) != Int.ofNat 0 then CR.ret (Value.bool false) (AW.mk 0 Tr.nil Tr.nil) else bif m_coX (m_lfP p q) (m_lfQ p q) (m_lfP u v) (m_lfQ u v) != m_clX (m_lfP p q) (m_lfQ p q) (m_lfP u v) (m_lfQ u v) then CR.ret (Value.bool false) (AW.mk 0 Tr.nil Tr.nil) else bif m_coY (m_lfP p q) (m_lfQ p q) (m_lfP u v) (m_lfQ u v) != m_clY (m_lfP p q) (m_lfQ p q) (m_lfP u v) (m_lfQ u v) then CR.ret (Value.bool false) (AW.mk 0 Tr.nil Tr.nil) else CR.ret (Value.bool true) (AW.mk 0 Tr.nil Tr.nil) else bif m_coE (m_lfP p q) (m_lfQ p q) (m_lfP u v) (m_lfQ u v) != Int.ofNat 4 then CR.ret (Value.bool false) (AW.mk 0 Tr.nil Tr.nil) else bif m_coX (m_lfP p q) (m_lfQ p q) (m_lfP u v) (m_lfQ u v) != Int.ofNat 0 then CR.ret (Value.bool false) (AW.mk 0 Tr.nil Tr.nil) else bif m_coY (m_lfP p q) (m_lfQ p q) (m_lfP u v) (m_lfQ u v) != Int.ofNat 0 then CR.ret (Value.bool false) (AW.mk 0 Tr.nil Tr.nil) else CR.ret (Value.bool true) (AW.mk 0 Tr.nil Tr.nil) else CR.fail 420 else bif m_coE (m_lfP p q) (m_lfQ p q) (m_lfP u v) (m_lfQ u v) != Int.ofNat 1 then CR.ret (Value.bool false) (AW.mk 0 Tr.nil Tr.nil) else bif m_coX (m_lfP p q) (m_lfQ p q) (m_lfP u v) (m_lfQ u v) != Int.ofNat 0 then CR.ret (Value.bool false) (AW.mk 0 Tr.nil Tr.nil) else bif m_coY (m_lfP p q) (m_lfQ p q) (m_lfP u v) (m_lfQ u v) != Int.ofNat 0 then CR.ret (Value.bool false) (AW.mk 0 Tr.nil Tr.nil) else CR.ret (Value.bool true) (AW.mk 0 Tr.nil Tr.nil) else bif m_coE (m_lfP p q) (m_lfQ p q) (m_lfP u v) (m_lfQ u v) != Int.ofNat 1 then CR.ret (Value.bool false) (AW.mk 0 Tr.nil Tr.nil) else bif m_coX (m_lfP p q) (m_lfQ p q) (m_lfP u v) (m_lfQ u v) != Int.ofNat 0 then CR.ret (Value.bool false) (AW.mk 0 Tr.nil Tr.nil) else bif m_coY (m_lfP p q) (m_lfQ p q) (m_lfP u v) (m_lfQ u v) != Int.ofNat 0 then CR.ret (Value.bool false) (AW.mk 0 Tr.nil Tr.nil) else CR.ret (Value.bool true) (AW.mk 0 Tr.nil Tr.nil) else bif m_coE (m_lfP p q) (m_lfQ p q) (m_lfP u v) (m_lfQ u v) != Int.ofNat 1 then CR.ret (Value.bool false) (AW.mk 0 Tr.nil Tr.nil) else bif m_coX (m_lfP p q) (m_lfQ p q) (m_lfP u v) (m_lfQ u v) != Int.ofNat 0 then CR.ret (Value.bool false) (AW.mk 0 Tr.nil Tr.nil) else bif m_coY (m_lfP p q) (m_lfQ p q) (m_lfP u v) (m_lfQ u v) != Int.ofNat 0 then CR.ret (Value.bool false) (AW.mk 0 Tr.nil Tr.nil) else CR.ret (Value.bool true) (AW.mk 0 Tr.nil Tr.nil) else bif m_coE (m_lfP p q) (m_lfQ p q) (m_lfP u v) (m_lfQ u v) != Int.ofNat 1 then CR.ret (Value.bool false) (AW.mk 0 Tr.nil Tr.nil) else bif m_coX (m_lfP p q) (m_lfQ p q) (m_lfP u v) (m_lfQ u v) != Int.ofNat 0 then CR.ret (Value.bool false) (AW.mk 0 Tr.nil Tr.nil) else bif m_coY (m_lfP p q) (m_lfQ p q) (m_lfP u v) (m_lfQ u v) != Int.ofNat 0 then CR.ret (Value.bool false) (AW.mk 0 Tr.nil Tr.nil) else CR.ret (Value.bool true) (AW.mk 0 Tr.nil Tr.nil) else bif m_coE (m_lfP p q) (m_lfQ p q) (m_lfP u v) (m_lfQ u v) != Int.ofNat 61 then CR.ret (Value.bool false) (AW.mk 0 Tr.nil Tr.nil) else bif m_coX (m_lfP p q) (m_lfQ p q) (m_lfP u v) (m_lfQ u v) != Int.ofNat 0 then CR.ret (Value.bool false) (AW.mk 0 Tr.nil Tr.nil) else bif m_coY (m_lfP p q) (m_lfQ p q) (m_lfP u v) (m_lfQ u v) != Int.ofNat 0 then CR.ret (Value.bool false) (AW.mk 0 Tr.nil Tr.nil) else CR.ret (Value.bool true) (AW.mk 0 Tr.nil Tr.nil) else CR.fail 420 else bif m_coE (m_lfP p q) (m_lfQ p q) (m_lfP u v) (m_lfQ u v) != Int.ofNat 61 then CR.ret (Value.bool false) (AW.mk 0 Tr.nil Tr.nil) else bif m_coX (m_lfP p q) (m_lfQ p q) (m_lfP u v) (m_lfQ u v) != Int.ofNat 0 then CR.ret (Value.bool false) (AW.mk 0 Tr.nil Tr.nil) else bif m_coY (m_lfP p q) (m_lfQ p q) (m_lfP u v) (m_lfQ u v) != Int.ofNat 0 then CR.ret (Value.bool false) (AW.mk 0 Tr.nil Tr.nil) else CR.ret (Value.bool true) (AW.mk 0 Tr.nil Tr.nil) else CR.fail 420 else bif m_coE p q u v != Int.ofNat 1 then CR.ret (Value.bool false) (AW.mk 0 Tr.nil Tr.nil) else bif m_coX p q u v != Int.ofNat 0 then CR.ret (Value.bool false) (AW.mk 0 Tr.nil Tr.nil) else bif m_coY p q u v != Int.ofNat 0 then CR.ret (Value.bool false) (AW.mk 0 Tr.nil Tr.nil) else bif m_max (m_lfQ p q) then bif m_frac (m_lfP p q) (m_lfQ p q) then bif m_max (m_lfQ u v) then bif m_frac (m_lfP u v) (m_lfQ u v) then bif m_small (m_lfP p q) then bif m_small (m_lfQ p q) then bif m_small (m_lfP u v) then bif m_small (m_lfQ u v) then bif m_clG (m_lfP p q) (m_lfQ p q) (m_lfP u v) (m_lfQ u v) then bif m_clB (m_lfP p q) (m_lfQ p q) (m_lfP u v) (m_lfQ u v) then bif m_coE (m_lfP p q) (m_lfQ p q) (m_lfP u v) (m_lfQ u v) != Int.ofNat 0 then CR.ret (Value.bool false) (AW.mk 0 Tr.nil Tr.nil) else bif m_coX (m_lfP p q) (m_lfQ p q) (m_lfP u v) (m_lfQ u v) != m_clX (m_lfP p q) (m_lfQ p q) (m_lfP u v) (m_lfQ u v) then CR.ret (Value.bool false) (AW.mk 0 Tr.nil Tr.nil) else bif m_coY (m_lfP p q) (m_lfQ p q) (m_lfP u v) (m_lfQ u v) != m_clY (m_lfP p q) (m_lfQ p q) (m_lfP u v) (m_lfQ u v) then CR.ret (Value.bool false) (AW.mk 0 Tr.nil Tr.nil) else CR.ret (Value.bool true) (AW.mk 0 Tr.nil Tr.nil) else bif m_coE (m_lfP p q) (m_lfQ p q) (m_lfP u v) (m_lfQ u v) != Int.ofNat 4 then CR.ret (Value.bool false) (AW.mk 0 Tr.nil Tr.nil) else bif m_coX (m_lfP p q) (m_lfQ p q) (m_lfP u v) (m_lfQ u v) != Int.ofNat 0 then CR.ret (Value.bool false) (AW.mk 0 Tr.nil Tr.nil) else bif m_coY (m_lfP p q) (m_lfQ p q) (m_lfP u v) (m_lfQ u v) != Int.ofNat 0 then CR.ret (Value.bool false) (AW.mk 0 Tr.nil Tr.nil) else CR.ret (Value.bool true) (AW.mk 0 Tr.nil Tr.nil) else CR.fail 420 else bif m_coE (m_lfP p q) (m_lfQ p q) (m_lfP u v) (m_lfQ u v) != Int.ofNat 1 then CR.ret (Value.bool false) (AW.mk 0 Tr.nil Tr.nil) else bif m_coX (m_lfP p q) (m_lfQ p q) (m_lfP u v) (m_lfQ u v) != Int.ofNat 0 then CR.ret (Value.bool false) (AW.mk 0 Tr.nil Tr.nil) else bif m_coY (m_lfP p q) (m_lfQ p q) (m_lfP u v) (m_lfQ u v) != Int.ofNat 0 then CR.ret (Value.bool false) (AW.mk 0 Tr.nil Tr.nil) else CR.ret (Value.bool true) (AW.mk 0 Tr.nil Tr.nil) else bif m_coE (m_lfP p q) (m_lfQ p q) (m_lfP u v) (m_lfQ u v) != Int.ofNat 1 then CR.ret (Value.bool false) (AW.mk 0 Tr.nil Tr.nil) else bif m_coX (m_lfP p q) (m_lfQ p q) (m_lfP u v) (m_lfQ u v) != Int.ofNat 0 then CR.ret (Value.bool false) (AW.mk 0 Tr.nil Tr.nil) else bif m_coY (m_lfP p q) (m_lfQ p q) (m_lfP u v) (m_lfQ u v) != Int.ofNat 0 then CR.ret (Value.bool false) (AW.mk 0 Tr.nil Tr.nil) else CR.ret (Value.bool true) (AW.mk 0 Tr.nil Tr.nil) else bif m_coE (m_lfP p q) (m_lfQ p q) (m_lfP u v) (m_lfQ u v) != Int.ofNat 1 then CR.ret (Value.bool false) (AW.mk 0 Tr.nil Tr.nil) else bif m_coX (m_lfP p q) (m_lfQ p q) (m_lfP u v) (m_lfQ u v) != Int.ofNat 0 then CR.ret (Value.bool false) (AW.mk 0 Tr.nil Tr.nil) else bif m_coY (m_lfP p q) (m_lfQ p q) (m_lfP u v) (m_lfQ u v) != Int.ofNat 0 then CR.ret (Value.bool false) (AW.mk 0 Tr.nil Tr.nil) else CR.ret (Value.bool true) (AW.mk 0 Tr.nil Tr.nil) else bif m_coE (m_lfP p q) (m_lfQ p q) (m_lfP u v) (m_lfQ u v) != Int.ofNat 1 then CR.ret (Value.bool false) (AW.mk 0 Tr.nil Tr.nil) else bif m_coX (m_lfP p q) (m_lfQ p q) (m_lfP u v) (m_lfQ u v) != Int.ofNat 0 then CR.ret (Value.bool false) (AW.mk 0 Tr.nil Tr.nil) else bif m_coY (m_lfP p q) (m_lfQ p q) (m_lfP u v) (m_lfQ u v) != Int.ofNat 0 then CR.ret (Value.bool false) (AW.mk 0 Tr.nil Tr.nil) else CR.ret (Value.bool true) (AW.mk 0 Tr.nil Tr.nil) else bif m_coE (m_lfP p q) (m_lfQ p q) (m_lfP u v) (m_lfQ u v) != Int.ofNat 61 then CR.ret (Value.bool false) (AW.mk 0 Tr.nil Tr.nil) else bif m_coX (m_lfP p q) (m_lfQ p q) (m_lfP u v) (m_lfQ u v) != Int.ofNat 0 then CR.ret (Value.bool false) (AW.mk 0 Tr.nil Tr.nil) else bif m_coY (m_lfP p q) (m_lfQ p q) (m_lfP u v) (m_lfQ u v) != Int.ofNat 0 then CR.ret (Value.bool false) (AW.mk 0 Tr.nil Tr.nil) else CR.ret (Value.bool true) (AW.mk 0 Tr.nil Tr.nil) else CR.fail 420 else bif m_coE (m_lfP p q) (m_lfQ p q) (m_lfP u v) (m_lfQ u v) != Int.ofNat 61 then CR.ret (Value.bool false) (AW.mk 0 Tr.nil Tr.nil) else bif m_coX (m_lfP p q) (m_lfQ p q) (m_lfP u v) (m_lfQ u v) != Int.ofNat 0 then CR.ret (Value.bool false) (AW.mk 0 Tr.nil Tr.nil) else bif m_coY (m_lfP p q) (m_lfQ p q) (m_lfP u v) (m_lfQ u v) != Int.ofNat 0 then CR.ret (Value.bool false) (AW.mk 0 Tr.nil Tr.nil) else CR.ret (Value.bool true) (AW.mk 0 Tr.nil Tr.nil) else CR.fail 420 else bif m_coE p q u v != Int.ofNat 1 then CR.ret (Value.bool false) (AW.mk 0 Tr.nil Tr.nil) else bif m_coX p q u v != Int.ofNat 0 then CR.ret (Value.bool false) (AW.mk 0 Tr.nil Tr.nil) else bif m_coY p q u v != Int.ofNat 0 then CR.ret (Value.bool false) (AW.mk 0 Tr.nil Tr.nil) else bif m_max (m_lfQ p q) then bif m_frac (m_lfP p q) (m_lfQ p q) then bif m_max (m_lfQ u v) then bif m_frac (m_lfP u v) (m_lfQ u v) then bif m_small (m_lfP p q) then bif m_small (m_lfQ p q) then bif m_small (m_lfP u v) then bif m_small (m_lfQ u v) then bif m_clG (m_lfP p q) (m_lfQ p q) (m_lfP u v) (m_lfQ u v) then bif m_clB (m_lfP p q) (m_lfQ p q) (m_lfP u v) (m_lfQ u v) then bif m_coE (m_lfP p q) (m_lfQ p q) (m_lfP u v) (m_lfQ u v) != Int.ofNat 0 then CR.ret (Value.bool false) (AW.mk 0 Tr.nil Tr.nil) else bif m_coX (m_lfP p q) (m_lfQ p q) (m_lfP u v) (m_lfQ u v) != m_clX (m_lfP p q) (m_lfQ p q) (m_lfP u v) (m_lfQ u v) then CR.ret (Value.bool false) (AW.mk 0 Tr.nil Tr.nil) else bif m_coY (m_lfP p q) (m_lfQ p q) (m_lfP u v) (m_lfQ u v) != m_clY (m_lfP p q) (m_lfQ p q) (m_lfP u v) (m_lfQ u v) then CR.ret (Value.bool false) (AW.mk 0 Tr.nil Tr.nil) else CR.ret (Value.bool true) (AW.mk 0 Tr.nil Tr.nil) else bif m_coE (m_lfP p q) (m_lfQ p q) (m_lfP u v) (m_lfQ u v) != Int.ofNat 4 then CR.ret (Value.bool false) (AW.mk 0 Tr.nil Tr.nil) else bif m_coX (m_lfP p q) (m_lfQ p q) (m_lfP u v) (m_lfQ u v) != Int.ofNat 0 then CR.ret (Value.bool false) (AW.mk 0 Tr.nil Tr.nil) else bif m_coY (m_lfP p q) (m_lfQ p q) (m_lfP u v) (m_lfQ u v) != Int.ofNat 0 then CR.ret (Value.bool false) (AW.mk 0 Tr.nil Tr.nil) else CR.ret (Value.bool true) (AW.mk 0 Tr.nil Tr.nil) else CR.fail 420 else bif m_coE (m_lfP p q) (m_lfQ p q) (m_lfP u v) (m_lfQ u v) != Int.ofNat 1 then CR.ret (Value.bool false) (AW.mk 0 Tr.nil Tr.nil) else bif m_coX (m_lfP p q) (m_lfQ p q) (m_lfP u v) (m_lfQ u v) != Int.ofNat 0 then CR.ret (Value.bool false) (AW.mk 0 Tr.nil Tr.nil) else bif m_coY (m_lfP p q) (m_lfQ p q) (m_lfP u v) (m_lfQ u v) != Int.ofNat 0 then CR.ret (Value.bool false) (AW.mk 0 Tr.nil Tr.nil) else CR.ret (Value.bool true) (AW.mk 0 Tr.nil Tr.nil) else bif m_coE (m_lfP p q) (m_lfQ p q) (m_lfP u v) (m_lfQ u v) != Int.ofNat 1 then CR.ret (Value.bool false) (AW.mk 0 Tr.nil Tr.nil) else bif m_coX (m_lfP p q) (m_lfQ p q) (m_lfP u v) (m_lfQ u v) != Int.ofNat 0 then CR.ret (Value.bool false) (AW.mk 0 Tr.nil Tr.nil) else bif m_coY (m_lfP p q) (m_lfQ p q) (m_lfP u v) (m_lfQ u v) != Int.ofNat 0 then CR.ret (Value.bool false) (AW.mk 0 Tr.nil Tr.nil) else CR.ret (Value.bool true) (AW.mk 0 Tr.nil Tr.nil) else bif m_coE (m_lfP p q) (m_lfQ p q) (m_lfP u v) (m_lfQ u v) != Int.ofNat 1 then CR.ret (Value.bool false) (AW.mk 0 Tr.nil Tr.nil) else bif m_coX (m_lfP p q) (m_lfQ p q) (m_lfP u v) (m_lfQ u v) != Int.ofNat 0 then CR.ret (Value.bool false) (AW.mk 0 Tr.nil Tr.nil) else bif m_coY (m_lfP p q) (m_lfQ p q) (m_lfP u v) (m_lfQ u v) != Int.ofNat 0 then CR.ret (Value.bool false) (AW.mk 0 Tr.nil Tr.nil) else CR.ret (Value.bool true) (AW.mk 0 Tr.nil Tr.nil) else bif m_coE (m_lfP p q) (m_lfQ p q) (m_lfP u v) (m_lfQ u v) != Int.ofNat 1 then CR.ret (Value.bool false) (AW.mk 0 Tr.nil Tr.nil) else bif m_coX (m_lfP p q) (m_lfQ p q) (m_lfP u v) (m_lfQ u v) != Int.ofNat 0 then CR.ret (Value.bool false) (AW.mk 0 Tr.nil Tr.nil) else bif m_coY (m_lfP p q) (m_lfQ p q) (m_lfP u v) (m_lfQ u v) != Int.ofNat 0 then CR.ret (Value.bool false) (AW.mk 0 Tr.nil Tr.nil) else CR.ret (Value.bool true) (AW.mk 0 Tr.nil Tr.nil) else bif m_coE (m_lfP p q) (m_lfQ p q) (m_lfP u v) (m_lfQ u v) != Int.ofNat 61 then CR.ret (Value.bool false) (AW.mk 0 Tr.nil Tr.nil) else bif m_coX (m_lfP p q) (m_lfQ p q) (m_lfP u v) (m_lfQ u v) != Int.ofNat 0 then CR.ret (Value.bool false) (AW.mk 0 Tr.nil Tr.nil) else bif m_coY (m_lfP p q) (m_lfQ p q) (m_lfP u v) (m_lfQ u v) != Int.ofNat 0 then CR.ret (Value.bool false) (AW.mk 0 Tr.nil Tr.nil) else CR.ret (Value.bool true) (AW.mk 0 Tr.nil Tr.nil) else CR.fail 420 else bif m_coE (m_lfP p q) (m_lfQ p q) (m_lfP u v) (m_lfQ u v) != Int.ofNat 61 then CR.ret (Value.bool false) (AW.mk 0 Tr.nil Tr.nil) else bif m_coX (m_lfP p q) (m_lfQ p q) (m_lfP u v) (m_lfQ u v) != Int.ofNat 0 then CR.ret (Value.bool false) (AW.mk 0 Tr.nil Tr.nil) else bif m_coY (m_lfP p q) (m_lfQ p q) (m_lfP u v) (m_lfQ u v) != Int.ofNat 0 then CR.ret (Value.bool false) (AW.mk 0 Tr.nil Tr.nil) else CR.ret (Value.bool true) (AW.mk 0 Tr.nil Tr.nil) else CR.fail 420 else bif m_coE p q u v != Int.ofNat 61 then CR.ret (Value.bool false) (AW.mk 0 Tr.nil Tr.nil) else bif m_coX p q u v != Int.ofNat 0 then CR.ret (Value.bool false) (AW.mk 0 Tr.nil Tr.nil) else bif m_coY p q u v != Int.ofNat 0 then CR.ret (Value.bool false) (AW.mk 0 Tr.nil Tr.nil) else bif m_max (m_lfQ p q) then bif m_frac (m_lfP p q) (m_lfQ p q) then bif m_max (m_lfQ u v) then bif m_frac (m_lfP u v) (m_lfQ u v) then bif m_small (m_lfP p q) then bif m_small (m_lfQ p q) then bif m_small (m_lfP u v) then bif m_small (m_lfQ u v) then bif m_clG (m_lfP p q) (m_lfQ p q) (m_lfP u v) (m_lfQ u v) then bif m_clB (m_lfP p q) (m_lfQ p q) (m_lfP u v) (m_lfQ u v) then bif m_coE (m_lfP p q) (m_lfQ p q) (m_lfP u v) (m_lfQ u v) != Int.ofNat 0 then CR.ret (Value.bool false) (AW.mk 0 Tr.nil Tr.nil) else bif m_coX (m_lfP p q) (m_lfQ p q) (m_lfP u v) (m_lfQ u v) != m_clX (m_lfP p q) (m_lfQ p q) (m_lfP u v) (m_lfQ u v) then CR.ret (Value.bool false) (AW.mk 0 Tr.nil Tr.nil) else bif m_coY (m_lfP p q) (m_lfQ p q) (m_lfP u v) (m_lfQ u v) != m_clY (m_lfP p q) (m_lfQ p q) (m_lfP u v) (m_lfQ u v) then CR.ret (Value.bool false) (AW.mk 0 Tr.nil Tr.nil) else CR.ret (Value.bool true) (AW.mk 0 Tr.nil Tr.nil) else bif m_coE (m_lfP p q) (m_lfQ p q) (m_lfP u v) (m_lfQ u v) != Int.ofNat 4 then CR.ret (Value.bool false) (AW.mk 0 Tr.nil Tr.nil) else bif m_coX (m_lfP p q) (m_lfQ p q) (m_lfP u v) (m_lfQ u v) != Int.ofNat 0 then CR.ret (Value.bool false) (AW.mk 0 Tr.nil Tr.nil) else bif m_coY (m_lfP p q) (m_lfQ p q) (m_lfP u v) (m_lfQ u v) != Int.ofNat 0 then CR.ret (Value.bool false) (AW.mk 0 Tr.nil Tr.nil) else CR.ret (Value.bool true) (AW.mk 0 Tr.nil Tr.nil) else CR.fail 420 else bif m_coE (m_lfP p q) (m_lfQ p q) (m_lfP u v) (m_lfQ u v) != Int.ofNat 1 then CR.ret (Value.bool false) (AW.mk 0 Tr.nil Tr.nil) else bif m_coX (m_lfP p q) (m_lfQ p q) (m_lfP u v) (m_lfQ u v) != Int.ofNat 0 then CR.ret (Value.bool false) (AW.mk 0 Tr.nil Tr.nil) else bif m_coY (m_lfP p q) (m_lfQ p q) (m_lfP u v) (m_lfQ u v) != Int.ofNat 0 then CR.ret (Value.bool false) (AW.mk 0 Tr.nil Tr.nil) else CR.ret (Value.bool true) (AW.mk 0 Tr.nil Tr.nil) else bif m_coE (m_lfP p q) (m_lfQ p q) (m_lfP u v) (m_lfQ u v) != Int.ofNat 1 then CR.ret (Value.bool false) (AW.mk 0 Tr.nil Tr.nil) else bif m_coX (m_lfP p q) (m_lfQ p q) (m_lfP u v) (m_lfQ u v) != Int.ofNat 0 then CR.ret (Value.bool false) (AW.mk 0 Tr.nil Tr.nil) else bif m_coY (m_lfP p q) (m_lfQ p q) (m_lfP u v) (m_lfQ u v) != Int.ofNat 0 then CR.ret (Value.bool false) (AW.mk 0 Tr.nil Tr.nil) else CR.ret (Value.bool true) (AW.mk 0 Tr.nil Tr.nil) else bif m_coE (m_lfP p q) (m_lfQ p q) (m_lfP u v) (m_lfQ u v) != Int.ofNat 1 then CR.ret (Value.bool false) (AW.mk 0 Tr.nil Tr.nil) else bif m_coX (m_lfP p q) (m_lfQ p q) (m_lfP u v) (m_lfQ u v) != Int.ofNat 0 then CR.ret (Value.bool false) (AW.mk 0 Tr.nil Tr.nil) else bif m_coY (m_lfP p q) (m_lfQ p q) (m_lfP u v) (m_lfQ u v) != Int.ofNat 0 then CR.ret (Value.bool false) (AW.mk 0 Tr.nil Tr.nil) else CR.ret (Value.bool true) (AW.mk 0 Tr.nil Tr.nil) else bif m_coE (m_lfP p q) (m_lfQ p q) (m_lfP u v) (m_lfQ u v) != Int.ofNat 1 then CR.ret (Value.bool false) (AW.mk 0 Tr.nil Tr.nil) else bif m_coX (m_lfP p q) (m_lfQ p q) (m_lfP u v) (m_lfQ u v) != Int.ofNat 0 then CR.ret (Value.bool false) (AW.mk 0 Tr.nil Tr.nil) else bif m_coY (m_lfP p q) (m_lfQ p q) (m_lfP u v) (m_lfQ u v) != Int.ofNat 0 then CR.ret (Value.bool false) (AW.mk 0 Tr.nil Tr.nil) else CR.ret (Value.bool true) (AW.mk 0 Tr.nil Tr.nil) else bif m_coE (m_lfP p q) (m_lfQ p q) (m_lfP u v) (m_lfQ u v) != Int.ofNat 61 then CR.ret (Value.bool false) (AW.mk 0 Tr.nil Tr.nil) else bif m_coX (m_lfP p q) (m_lfQ p q) (m_lfP u v) (m_lfQ u v) != Int.ofNat 0 then CR.ret (Value.bool false) (AW.mk 0 Tr.nil Tr.nil) else bif m_coY (m_lfP p q) (m_lfQ p q) (m_lfP u v) (m_lfQ u v) != Int.ofNat 0 then CR.ret (Value.bool false) (AW.mk 0 Tr.nil Tr.nil) else CR.ret (Value.bool true) (AW.mk 0 Tr.nil Tr.nil) else CR.fail 420 else bif m_coE (m_lfP p q) (m_lfQ p q) (m_lfP u v) (m_lfQ u v) != Int.ofNat 61 then CR.ret (Value.bool false) (AW.mk 0 Tr.nil Tr.nil) else bif m_coX (m_lfP p q) (m_lfQ p q) (m_lfP u v) (m_lfQ u v) != Int.ofNat 0 then CR.ret (Value.bool false) (AW.mk 0 Tr.nil Tr.nil) else bif m_coY (m_lfP p q) (m_lfQ p q) (m_lfP u v) (m_lfQ u v) != Int.ofNat 0 then CR.ret (Value.bool false) (AW.mk 0 Tr.nil Tr.nil) else CR.ret (Value.bool true) (AW.mk 0 Tr.nil Tr.nil) else CR.fail 420 else CR.fail 420 else bif m_coE p q u v != Int.ofNat 61 then CR.ret (Value.bool false) (AW.mk 0 Tr.nil Tr.nil) else bif m_coX p q u v != Int.ofNat 0 then CR.ret (Value.bool false) (AW.mk 0 Tr.nil Tr.nil) else bif m_coY p q u v != Int.ofNat 0 then CR.ret (Value.bool false) (AW.mk 0 Tr.nil Tr.nil) else bif m_max (m_lfQ p q) then bif m_frac (m_lfP p q) (m_lfQ p q) then bif m_max (m_lfQ u v) then bif m_frac (m_lfP u v) (m_lfQ u v) then bif m_small (m_lfP p q) then bif m_small (m_lfQ p q) then bif m_small (m_lfP u v) then bif m_small (m_lfQ u v) then bif m_clG (m_lfP p q) (m_lfQ p q) (m_lfP u v) (m_lfQ u v) then bif m_clB (m_lfP p q) (m_lfQ p q) (m_lfP u v) (m_lfQ u v) then bif m_coE (m_lfP p q) (m_lfQ p q) (m_lfP u v) (m_lfQ u v) != Int.ofNat 0 then CR.ret (Value.bool false) (AW.mk 0 Tr.nil Tr.nil) else bif m_coX (m_lfP p q) (m_lfQ p q) (m_lfP u v) (m_lfQ u v) != m_clX (m_lfP p q) (m_lfQ p q) (m_lfP u v) (m_lfQ u v) then CR.ret (Value.bool false) (AW.mk 0 Tr.nil Tr.nil) else bif m_coY (m_lfP p q) (m_lfQ p q) (m_lfP u v) (m_lfQ u v) != m_clY (m_lfP p q) (m_lfQ p q) (m_lfP u v) (m_lfQ u v) then CR.ret (Value.bool false) (AW.mk 0 Tr.nil Tr.nil) else CR.ret (Value.bool true) (AW.mk 0 Tr.nil Tr.nil) else bif m_coE (m_lfP p q) (m_lfQ p q) (m_lfP u v) (m_lfQ u v) != Int.ofNat 4 then CR.ret (Value.bool false) (AW.mk 0 Tr.nil Tr.nil) else bif m_coX (m_lfP p q) (m_lfQ p q) (m_lfP u v) (m_lfQ u v) != Int.ofNat 0 then CR.ret (Value.bool false) (AW.mk 0 Tr.nil Tr.nil) else bif m_coY (m_lfP p q) (m_lfQ p q) (m_lfP u v) (m_lfQ u v) != Int.ofNat 0 then CR.ret (Value.bool false) (AW.mk 0 Tr.nil Tr.nil) else CR.ret (Value.bool true) (AW.mk 0 Tr.nil Tr.nil) else CR.fail 420 else bif m_coE (m_lfP p q) (m_lfQ p q) (m_lfP u v) (m_lfQ u v) != Int.ofNat 1 then CR.ret (Value.bool false) (AW.mk 0 Tr.nil Tr.nil) else bif m_coX (m_lfP p q) (m_lfQ p q) (m_lfP u v) (m_lfQ u v) != Int.ofNat 0 then CR.ret (Value.bool false) (AW.mk 0 Tr.nil Tr.nil) else bif m_coY (m_lfP p q) (m_lfQ p q) (m_lfP u v) (m_lfQ u v) != Int.ofNat 0 then CR.ret (Value.bool false) (AW.mk 0 Tr.nil Tr.nil) else CR.ret (Value.bool true) (AW.mk 0 Tr.nil Tr.nil) else bif m_coE (m_lfP p q) (m_lfQ p q) (m_lfP u v) (m_lfQ u v) != Int.ofNat 1 then CR.ret (Value.bool false) (AW.mk 0 Tr.nil Tr.nil) else bif m_coX (m_lfP p q) (m_lfQ p q) (m_lfP u v) (m_lfQ u v) != Int.ofNat 0 then CR.ret (Value.bool false) (AW.mk 0 Tr.nil Tr.nil) else bif m_coY (m_lfP p q) (m_lfQ p q) (m_lfP u v) (m_lfQ u v) != Int.ofNat 0 then CR.ret (Value.bool false) (AW.mk 0 Tr.nil Tr.nil) else CR.ret (Value.bool true) (AW.mk 0 Tr.nil Tr.nil) else bif m_coE (m_lfP p q) (m_lfQ p q) (m_lfP u v) (m_lfQ u v) != Int.ofNat 1 then CR.ret (Value.bool false) (AW.mk 0 Tr.nil Tr.nil) else bif m_coX (m_lfP p q) (m_lfQ p q) (m_lfP u v) (m_lfQ u v) != Int.ofNat 0 then CR.ret (Value.bool false) (AW.mk 0 Tr.nil Tr.nil) else bif m_coY (m_lfP p q) (m_lfQ p q) (m_lfP u v) (m_lfQ u v) != Int.ofNat 0 then CR.ret (Value.bool false) (AW.mk 0 Tr.nil Tr.nil) else CR.ret (Value.bool true) (AW.mk 0 Tr.nil Tr.nil) else bif m_coE (m_lfP p q) (m_lfQ p q) (m_lfP u v) (m_lfQ u v) != Int.ofNat 1 then CR.ret (Value.bool false) (AW.mk 0 Tr.nil Tr.nil) else bif m_coX (m_lfP p q) (m_lfQ p q) (m_lfP u v) (m_lfQ u v) != Int.ofNat 0 then CR.ret (Value.bool false) (AW.mk 0 Tr.nil Tr.nil) else bif m_coY (m_lfP p q) (m_lfQ p q) (m_lfP u v) (m_lfQ u v) != Int.ofNat 0 then CR.ret (Value.bool false) (AW.mk 0 Tr.nil Tr.nil) else CR.ret (Value.bool true) (AW.mk 0 Tr.nil Tr.nil) else bif m_coE (m_lfP p q) (m_lfQ p q) (m_lfP u v) (m_lfQ u v) != Int.ofNat 61 then CR.ret (Value.bool false) (AW.mk 0 Tr.nil Tr.nil) else bif m_coX (m_lfP p q) (m_lfQ p q) (m_lfP u v) (m_lfQ u v) != Int.ofNat 0 then CR.ret (Value.bool false) (AW.mk 0 Tr.nil Tr.nil) else bif m_coY (m_lfP p q) (m_lfQ p q) (m_lfP u v) (m_lfQ u v) != Int.ofNat 0 then CR.ret (Value.bool false) (AW.mk 0 Tr.nil Tr.nil) else CR.ret (Value.bool true) (AW.mk 0 Tr.nil Tr.nil) else CR.fail 420 else bif m_coE (m_lfP p q) (m_lfQ p q) (m_lfP u v) (m_lfQ u v) != Int.ofNat 61 then CR.ret (Value.bool false) (AW.mk 0 Tr.nil Tr.nil) else bif m_coX (m_lfP p q) (m_lfQ p q) (m_lfP u v) (m_lfQ u v) != Int.ofNat 0 then CR.ret (Value.bool false) (AW.mk 0 Tr.nil Tr.nil) else bif m_coY (m_lfP p q) (m_lfQ p q) (m_lfP u v) (m_lfQ u v) != Int.ofNat 0 then CR.ret (Value.bool false) (AW.mk 0 Tr.nil Tr.nil) else CR.ret (Value.bool true) (AW.mk 0 Tr.nil Tr.nil) else CR.fail 420 else CR.fail 420 := by kernel_rfl

end Go.Proofs

/- The law of same links, run. -/
namespace Go.Proofs
open Go Go.Ev Go.Num

def tSames : Tbl := tcons 35 (eI4 (fun _ _ _ _ => true) fun a b c d => .tuple ⟨[.bool (m_same a b c d), I (m_sameE a b c d)]⟩) (tcons 28 (eI2 (fun _ _ => true) fun a b => .bool (m_link a b))
  (tcons 36 (eI4 (fun a b c d => m_link a b && m_link c d) fun a b c d => .bool (m_same a b c d)) (tcons 18 (e0 (.bool true)) fun _ => none)))

theorem lsA (r : Mem) (p q u v : Int) : (lvlT (SC r) tSames .nil 3 1).call 6 [FV p q, FV u v] emptyA fin =
    bif m_same p q u v then bif m_link p q then bif m_link u v then bif m_sameE p q u v != Int.ofNat 0 then CR.ret (Value.bool false) (AW.mk 0 Tr.nil Tr.nil) else bif m_link p q && m_link u v then bif m_same p q u v then bif m_same p q p v then bif m_link p q then bif m_link p v then bif m_sameE p q p v != Int.ofNat 0 then CR.ret (Value.bool false) (AW.mk 0 Tr.nil Tr.nil) else bif m_link p q && m_link p v then bif m_same p q p v then CR.ret (Value.bool true) (AW.mk 0 Tr.nil Tr.nil) else CR.ret (Value.bool false) (AW.mk 0 Tr.nil Tr.nil) else CR.fail 420 else bif m_sameE p q p v != Int.ofNat 61 then CR.ret (Value.bool false) (AW.mk 0 Tr.nil Tr.nil) else CR.ret (Value.bool false) (AW.mk 0 Tr.nil Tr.nil) else bif m_sameE p q p v != Int.ofNat 61 then CR.ret (Value.bool false) (AW.mk 0 Tr.nil Tr.nil) else CR.ret (Value.bool false) (AW.mk 0 Tr.nil Tr.nil) else bif m_link p q then bif m_link p v then bif m_sameE p q p v != Int.ofNat 0 then CR.ret (Value.bool false) (AW.mk 0 Tr.nil Tr.nil) else bif m_link p q && m_link p v then bif m_same p q p v then CR.ret (Value.bool false) (AW.mk 0 Tr.nil Tr.nil) else CR.ret (Value.bool true) (AW.mk 0 Tr.nil Tr.nil) else CR.fail 420 else bif m_sameE p q p v != Int.ofNat 61 then CR.ret (Value.bool false) (AW.mk 0 Tr.nil Tr.nil) else CR.ret (Value.bool true) (AW.mk 0 Tr.nil Tr.nil) else bif m_sameE p q p v != Int.ofNat 61 then CR.ret (Value.bool false) (AW.mk 0 Tr.nil Tr.nil) else CR.ret (Value.bool true) (AW.mk 0 Tr.nil Tr.nil) else CR.ret (Value.bool false) (AW.mk 0 Tr.nil Tr.nil) else CR.fail 420 else bif m_sameE p q u v != Int.ofNat 61 then CR.ret (Value.bool false) (AW.mk 0 Tr.nil Tr.nil) else CR.ret (Value.bool false) (AW.mk 0 Tr.nil Tr.nil) else bif m_sameE p q u v != Int.ofNat 61 then CR.ret (Value.bool false) (AW.mk 0 Tr.nil Tr.nil) else CR.ret (Value.bool false) (AW.mk 0 Tr.nil Tr.nil) else bif m_link p q then bif m_link u v then bif m_sameE p q u v != Int.ofNat 0 then CR.ret (Value.bool false) (AW.mk 0 Tr.nil Tr.nil) else bif m_link p q && m_link u v then bif m_same p q u v then CR.ret (Value.bool false) (AW.mk 0 Tr.nil Tr.nil) else bif m_same p q p v then bif m_link p q then bif m_link p v then bif m_sameE p q p v != Int.ofNat 0 then CR.ret (Value.bool false) (AW.mk 0 Tr.nil Tr.nil) else bif m_link p q && m_link p v then bif m_same p q p v then CR.ret (Value.bool true) (AW.mk 0 Tr.nil Tr.nil) else CR.ret (Value.bool false) (AW.mk 0 Tr.nil Tr.nil) else CR.fail 420 else bif m_sameE p q p v != Int.ofNat 61 then CR.ret (Value.bool false) (AW.mk 0 Tr.nil Tr.nil) else CR.ret (Value.bool false) (AW.mk 0 Tr.nil Tr.nil) else bif m_sameE p q p v != Int.ofNat 61 then CR.ret (Value.bool false) (AW.mk 0 Tr.nil Tr.nil) else CR.ret (Value.bool false) (AW.mk 0 Tr.nil Tr.nil) else bif m_link p q then bif m_link p v then bif m_sameE p q p v != Int.ofNat 0 then CR.ret (Value.bool false) (AW.mk 0 Tr.nil Tr.nil) else bif m_link p q && m_link p v then bif m_same p q p v then CR.ret (Value.bool false) (AW.mk 0 Tr.nil Tr.nil) else CR.ret (Value.bool true) (AW.mk 0 Tr.nil Tr.nil) else CR.fail 420 else bif m_sameE p q p v != Int.ofNat 61 then CR.ret (Value.bool false) (AW.mk 0 Tr.nil Tr.nil) else CR.ret (Value.bool true) (AW.mk 0 Tr.nil Tr.nil) else bif m_sameE p q p v != Int.ofNat 61 then CR.ret (Value.bool false) (AW.mk 0 Tr.nil Tr.nil) else CR.ret (Value.bool true) (AW.mk 0 Tr.nil Tr.nil) else CR.fail 420 else bif m_sameE p q u v != Int.ofNat 61 then CR.ret (Value.bool false) (AW.mk 0 Tr.nil Tr.nil) else bif m_same p q p v then bif m_link p q then bif m_link p v then bif m_sameE p q p v != Int.ofNat 0 then CR.ret (Value.bool false) (AW.mk 0 Tr.nil Tr.nil) else bif m_link p q && m_link p v then bif m_same p q p v then CR.ret (Value.bool true) (AW.mk 0 Tr.nil Tr.nil) else CR.ret (Value.bool false) (AW.mk 0 Tr.nil Tr.nil) else CR.fail 420 else bif m_sameE p q p v != Int.ofNat 61 then CR.ret (Value.bool false) (AW.mk 0 Tr.nil Tr.nil) else CR.ret (Value.bool false) (AW.mk 0 Tr.nil Tr.nil) else bif m_sameE p q p v != Int.ofNat 61 then CR.ret (Value.bool false) (AW.mk 0 Tr.nil Tr.nil) else CR.ret (Value.bool false) (AW.mk 0 Tr.nil Tr.nil) else bif m_link p q then bif m_link p v then bif m_sameE p q p v != Int.ofNat 0 then CR.ret (Value.bool false) (AW.mk 0 Tr.nil Tr.nil) else bif m_link p q && m_link p v then bif m_same p q p v then CR.ret (Value.bool false) (AW.mk 0 Tr.nil Tr.nil) else CR.ret (Value.bool true) (AW.mk 0 Tr.nil Tr.nil) else CR.fail 420 else bif m_sameE p q p v != Int.ofNat 61 then CR.ret (Value.bool false) (AW.mk 0 Tr.nil Tr.nil) else CR.ret (Value.bool true) (AW.mk 0 Tr.nil Tr.nil) else bif m_sameE p q p v != Int.ofNat 61 then CR.ret (Value.bool false) (AW.mk 0 Tr.nil Tr.nil) else CR.ret (Value.bool true) (AW.mk 0 Tr.nil Tr.nil) else bif m_sameE p q u v != Int.ofNat 61 then CR.ret (Value.bool false) (AW.mk 0 Tr.nil Tr.nil) else bif m_same p q p v then bif m_link p q then bif m_link p v then bif m_sameE p q p v != Int.ofNat 0 then CR.ret (Value.bool false) (AW.mk 0 Tr.nil Tr.nil) else bif m_link p q && m_link p v then bif m_same p q p v then CR.ret (Value.bool true) (AW.mk 0 Tr.nil Tr.nil) else CR.ret (Value.bool false) (AW.mk 0 Tr.nil Tr.nil) else CR.fail 420 else bif m_sameE p q p v != Int.ofNat 61 then CR.ret (Value.bool false) (AW.mk 0 Tr.nil Tr.nil) else CR.ret (Value.bool false) (AW.mk 0 Tr.nil Tr.nil) else bif m_sameE p q p v != Int.ofNat 61 then CR.ret (Value.bool false) (AW.mk 0 Tr.nil Tr.nil) else CR.ret (Value.bool false) (AW.mk 0 Tr.nil Tr.nil) else bif m_link p q then bif m_link p v then bif m_sameE p q p v != Int.ofNat 0 then CR.ret (Value.bool false) (AW.mk 0 Tr.nil Tr.nil) else bif m_link p q && m_link p v then bif m_same p q p v then CR.ret (Value.bool false) (AW.mk 0 Tr.nil Tr.nil) else CR.ret (Value.bool true) (AW.mk 0 Tr.nil Tr.nil) else CR.fail 420 else bif m_sameE p q p v != Int.ofNat 61 then CR.ret (Value.bool false) (AW.mk 0 Tr.nil Tr.nil) else CR.ret (Value.bool true) (AW.mk 0 Tr.nil Tr.nil) else bif m_sameE p q p v != Int.ofNat 61 then CR.ret (Value.bool false) (AW.mk 0 Tr.nil Tr.nil) else CR.ret (Value.bool true) (AW.mk 0 Tr.nil Tr.nil) := by kernel_rfl

end Go.Proofs

/- awake of chapter 6. -/
namespace Go.Proofs
open Go Go.Ev

theorem awake_ok : GrT Tryd.prog tabM 18 [] (.bool true) := GrT.closedRo evMixed evNames tabM .nil 1000 40 (by kernel_rfl)

end Go.Proofs

/- The law of same links: it answers true. -/
namespace Go.Proofs
open Go Go.Ev Go.Num

theorem same_none {a b c d : Int} (h : (m_link a b && m_link c d) = false) : m_same a b c d = false ∧ m_sameE a b c d = 61 := by
  unfold m_link at h
  unfold m_same m_sameE
  simp only [h, Bool.false_and]
  exact ⟨trivial, rfl⟩
theorem same_some {a b c d : Int} (h : (m_link a b && m_link c d) = true) : m_sameE a b c d = 0 := by
  unfold m_link at h
  unfold m_sameE
  simp only [h, if_true]

theorem awakeE_ok (r : Mem) (hm : ∀ b j u, tabM b j = some u → r b j = some u) : EOk (SC r) 18 (e0 (.bool true)) := e0_ok (awake_ok.less hm)

theorem tSames_ok (r : Mem) (hm : ∀ b j u, tabM b j = some u → r b j = some u) : TOk (SC r) tSames :=
  TOk.cons (TOk.cons (TOk.cons (TOk.cons TOk.nil (awakeE_ok r hm)) (rSameE_ok r)) (rLinkE_ok r)) (sameE_ok r)

theorem sames_ok (r : Mem) (hm : ∀ b j u, tabM b j = some u → r b j = some u) (p q u v : Int) : GrT Tryd.prog r 6 [FV p q, FV u v] (.bool true) :=
  GrT.of (SC_ok r) (tSames_ok r hm) .nil rfl ⟨3, 1, by
    rw [lsA]
    have l : (61 : Int) ≠ Int.ofNat 0 := by decide
    have l' : (0 : Int) = Int.ofNat 0 := rfl
    have l2 : (61 : Int) = Int.ofNat 61 := rfl
    cases h1 : m_link p q with
    | false =>
      obtain ⟨a1, a2⟩ := same_none (a := p) (b := q) (c := u) (d := v) (by rw [h1]; rfl)
      obtain ⟨b1, b2⟩ := same_none (a := p) (b := q) (c := p) (d := v) (by rw [h1]; rfl)
      simp only [a1, a2, b1, b2, cond_false, neF l2]
      rfl
    | true =>
      cases h3 : m_link p v with
      | false =>
        obtain ⟨b1, b2⟩ := same_none (a := p) (b := q) (c := p) (d := v) (by rw [h3, h1]; rfl)
        cases h2 : m_link u v with
        | false =>
          obtain ⟨a1, a2⟩ := same_none (a := p) (b := q) (c := u) (d := v) (by rw [h2, h1]; rfl)
          simp only [a1, a2, b1, b2, cond_false, cond_true, neF l2]
          rfl
        | true =>
          have a2 := same_some (a := p) (b := q) (c := u) (d := v) (by rw [h2, h1]; rfl)
          cases h4 : m_same p q u v <;>
          · simp only [a2, b1, b2, cond_false, cond_true, neF l2, neF l', Bool.and_self]
            rfl
      | true =>
        have b2 := same_some (a := p) (b := q) (c := p) (d := v) (by rw [h3, h1]; rfl)
        cases h2 : m_link u v with
        | false =>
          obtain ⟨a1, a2⟩ := same_none (a := p) (b := q) (c := u) (d := v) (by rw [h2, h1]; rfl)
          cases h5 : m_same p q p v <;>
          · simp only [a1, a2, b2, cond_false, cond_true, neF l2, neF l', Bool.and_self]
            rfl
        | true =>
          have a2 := same_some (a := p) (b := q) (c := u) (d := v) (by rw [h2, h1]; rfl)
          cases h4 : m_same p q u v <;> cases h5 : m_same p q p v <;>
          · simp only [a2, b2, cond_false, cond_true, neF l', Bool.and_self]
            rfl⟩

/-- An argument of two integers. -/
theorem arg2 {u : Value} (h : ArgArr 2 (ArgInt .i64) u) : ∃ p q, u = FV p q := by
  obtain ⟨l, rfl, hl, hp⟩ := h
  match l, hl with
  | [x, y], _ =>
    obtain ⟨p, rfl, _⟩ := hp x (by simp)
    obtain ⟨q, rfl, _⟩ := hp y (by simp)
    exact ⟨p, q, rfl⟩

theorem law_sames (r : Mem) (hm : ∀ b j u, tabM b j = some u → r b j = some u) (u0 u1 : Value) (s0 : ArgArr 2 (ArgInt .i64) u0) (s1 : ArgArr 2 (ArgInt .i64) u1) : GrT Tryd.prog r 6 [u0, u1] (.bool true) := by
  obtain ⟨p, q, rfl⟩ := arg2 s0
  obtain ⟨u, v, rfl⟩ := arg2 s1
  exact sames_ok r hm p q u v

end Go.Proofs

/- The law of closings: it answers true. -/
namespace Go.Proofs
open Go Go.Ev Go.Num

theorem rFrac_ok (r : Mem) (p q : Int) (hmax : q ≤ 9223372036854775807) : GrT Tryd.prog r 22 [I p, I q] (.bool (m_frac p q)) :=
  GrT.of (SC_ok r) (TOk.cons TOk.nil (gcdE_ok r)) .nil rfl ⟨1, 1, by
    rw [rfA]
    unfold m_frac
    rw [← fracR_eq]
    unfold fracR m_gcd
    by_cases h1 : q < 0
    · simp only [dT h1, cond_true, if_pos h1]; rfl
    · by_cases h2 : q = 0
      · subst h2
        by_cases h3 : p = 1
        · subst h3; rfl
        · simp only [eqF (show p ≠ Int.ofNat 1 from h3), dF h3]; rfl
      · have hq : 0 < q := by omega
        have e1 := Int.tmod_lt_of_pos p hq
        have e2 : -q < p.tmod q := by
          have : (p.tmod q).natAbs < q.natAbs := by rw [Int.natAbs_tmod]; exact Nat.mod_lt _ (by omega)
          omega
        have hq0 : 0 ≤ q := by omega
        rw [if_neg h1, if_neg h2]
        simp only [dF h1, cond_false, eqF (show q ≠ Int.ofNat 0 from h2), dF h2, Bool.not_false, cond_true, dT hq0, Bool.true_and]
        by_cases h4 : p.tmod q < 0
        · have w : IntKind.wrap IntKind.i64 (p.tmod q + q) = p.tmod q + q := wrI (by omega)
          have h5 : 0 ≤ p.tmod q + q := by omega
          simp only [dT h4, cond_true, w, dT h5, if_pos h4, beqD]
          by_cases h7 : gcdP q (p.tmod q + q) = 1
          · simp only [dT h7, dT (show gcdP q (p.tmod q + q) = Int.ofNat 1 from h7), cond_true]; rfl
          · simp only [dF h7, dF (show ¬ gcdP q (p.tmod q + q) = Int.ofNat 1 from h7), cond_false]; rfl
        · have h5 : 0 ≤ p.tmod q := by omega
          simp only [dF h4, cond_false, cond_true, dT h5, if_neg h4, beqD]
          by_cases h7 : gcdP q (p.tmod q) = 1
          · simp only [dT h7, dT (show gcdP q (p.tmod q) = Int.ofNat 1 from h7), cond_true]; rfl
          · simp only [dF h7, dF (show ¬ gcdP q (p.tmod q) = Int.ofNat 1 from h7), cond_false]; rfl⟩

theorem rSmall_ok (r : Mem) (x : Int) : GrT Tryd.prog r 20 [I x] (.bool (m_small x)) :=
  GrT.of (SC_ok r) TOk.nil .nil rfl ⟨1, 1, by
    rw [smA]
    unfold m_small
    by_cases a : -500 ≤ x
    · have a' : x ≥ Int.negSucc 499 := a
      by_cases b : x ≤ 500
      · simp only [dT a, dT a', dT b, cond_true]; rfl
      · simp only [dT a, dT a', dF b, cond_true, cond_false]; rfl
    · have a' : ¬ x ≥ Int.negSucc 499 := a
      simp only [dF a, dF a', cond_false]; rfl⟩

theorem rFracE_ok (r : Mem) : EOk (SC r) 22 (eI2 (fun _ b => m_max b) fun a b => .bool (m_frac a b)) := eI2_ok fun a b h => rFrac_ok r a b (by simpa [m_max] using h)

theorem lf_loop (r : Mem) (ms' : Tr Nat) (L : Nat) (kx : Nat → KS) (kr : KS) (ms : List Nat) (A : AW) (p : Int) (R : CR) : ∀ (j : Nat) (q : Int) (s : List (Nat × Value)), 1 ≤ q → q ≤ 500 → q.toNat < j → (∀ s, kx 0 s (TLF p (low p q)) ms A = R) →
    cLoop (fun kl => run (SC r) 51 22 L (ic (ic (lc (rc (rc (rc cLF)))))) (lvlT (SC r) tF ms' L 0) none kl kx kr) j s (TLF p q) ms A = R := by
  intro j
  induction j with
  | zero => intro q s h; omega
  | succ j ih =>
    intro q s h1 h2 h3 hx
    rw [cLoop_succ, lfB]
    rw [low, dif_neg (show ¬ q ≤ 0 by omega)] at hx
    have hm : m_max q = true := by simp [m_max]; omega
    cases hf : frac p q with
    | true =>
      rw [hf] at hx
      simp only [m_frac, hf, hm, cond_true]
      exact hx _
    | false =>
      rw [hf] at hx
      simp only [m_frac, hf, hm, cond_true, cond_false]
      have w : IntKind.wrap IntKind.i64 (q - Int.ofNat 1) = q - 1 := wrI (by simp; omega)
      have : q ≠ 1 := by
        rintro rfl
        have : frac p 1 = true := by rw [frac_iff]; simp
        rw [this] at hf
        cases hf
      rw [w]
      exact ih (q - 1) _ (by omega) (by omega) (by omega) hx

theorem cLF_eq : cLF = .seq (lc cLF) (.seq (lc (rc cLF)) (.seq (lc (rc (rc cLF))) (.seq (.block 0 (.loop (ic (ic (lc (rc (rc (rc cLF)))))))) (rc (rc (rc (rc cLF))))))) := by kernel_rfl

theorem lq0_small (q : Int) : 0 ≤ lq0 q ∧ lq0 q ≤ 500 := by
  unfold lq0
  have h1 : 0 ≤ IntKind.wrap IntKind.u64 q := by simp [IntKind.wrap, IntKind.bits, IntKind.signed]; omega
  have h2 : 0 ≤ (IntKind.wrap IntKind.u64 q).tmod (Int.ofNat 501) := Int.tmod_nonneg _ h1
  have h3 : (IntKind.wrap IntKind.u64 q).tmod (Int.ofNat 501) < 501 := Int.tmod_lt_of_pos _ (by decide)
  rw [wrI (by omega)]
  omega

theorem lawFr_ok (r : Mem) (p q : Int) : GrT Tryd.prog r 45 [I p, I q] (.tuple ⟨[I (m_lfP p q), I (m_lfQ p q)]⟩) :=
  GrT.of (SC_ok r) (show TOk (SC r) tF from TOk.cons TOk.nil (rFracE_ok r)) masks rfl ⟨501, 1, by
    rw [enterN (m := 51) (n := 22) (rs := [.tmp 4, .tmp 5]) cLF rfl (by kernel_rfl) (by kernel_rfl) (by kernel_rfl) (by kernel_rfl) (by kernel_rfl) rfl]
    generalize hk : finK (SC r) 51 [.tmp 4, .tmp 5] fin = kr
    rw [cLF_eq, seqA, seqA, run_while]
    refine (lfA r _ _ p q _ _ _ _ _).trans ?_
    unfold m_lfP m_lfQ
    obtain ⟨b1, b2⟩ := lq0_small q
    have e : IntKind.wrap IntKind.i64 (Int.tmod (IntKind.wrap IntKind.u64 q) (Int.ofNat 501)) = lq0 q := rfl
    rw [e]
    by_cases h : lq0 q = 0
    · rw [if_pos h, if_pos h]
      simp only [eqT (show lq0 q = Int.ofNat 0 from h), cond_true]
      subst hk
      rfl
    · rw [if_neg h, if_neg h]
      simp only [eqF (show lq0 q ≠ Int.ofNat 0 from h), cond_false]
      refine (show _ = _ from lf_loop r _ _ _ _ _ _ _ _ 501 _ _ (by omega) b2 (by omega) fun s => ?_)
      refine (lfC r _ _ _ _ _ _ _ _ _ _).trans ?_
      subst hk
      rfl⟩

theorem co_cases (p q u v : Int) :
    (m_frac p q = false ∧ m_coE p q u v = Int.ofNat 61 ∧ m_coX p q u v = Int.ofNat 0 ∧ m_coY p q u v = Int.ofNat 0) ∨
    (m_frac p q = true ∧ m_frac u v = false ∧ m_coE p q u v = Int.ofNat 61 ∧ m_coX p q u v = Int.ofNat 0 ∧ m_coY p q u v = Int.ofNat 0) ∨
    (m_frac p q = true ∧ m_frac u v = true ∧ m_small p = false ∧ m_coE p q u v = Int.ofNat 1 ∧ m_coX p q u v = Int.ofNat 0 ∧ m_coY p q u v = Int.ofNat 0) ∨
    (m_frac p q = true ∧ m_frac u v = true ∧ m_small p = true ∧ m_small q = false ∧ m_coE p q u v = Int.ofNat 1 ∧ m_coX p q u v = Int.ofNat 0 ∧ m_coY p q u v = Int.ofNat 0) ∨
    (m_frac p q = true ∧ m_frac u v = true ∧ m_small p = true ∧ m_small q = true ∧ m_small u = false ∧ m_coE p q u v = Int.ofNat 1 ∧ m_coX p q u v = Int.ofNat 0 ∧ m_coY p q u v = Int.ofNat 0) ∨
    (m_frac p q = true ∧ m_frac u v = true ∧ m_small p = true ∧ m_small q = true ∧ m_small u = true ∧ m_small v = false ∧ m_coE p q u v = Int.ofNat 1 ∧ m_coX p q u v = Int.ofNat 0 ∧ m_coY p q u v = Int.ofNat 0) ∨
    (m_frac p q = true ∧ m_frac u v = true ∧ m_small p = true ∧ m_small q = true ∧ m_small u = true ∧ m_small v = true ∧ m_clG p q u v = true ∧ m_clB p q u v = false ∧ m_coE p q u v = Int.ofNat 4 ∧ m_coX p q u v = Int.ofNat 0 ∧ m_coY p q u v = Int.ofNat 0) ∨
    (m_frac p q = true ∧ m_frac u v = true ∧ m_small p = true ∧ m_small q = true ∧ m_small u = true ∧ m_small v = true ∧ m_clG p q u v = true ∧ m_clB p q u v = true ∧ m_coE p q u v = Int.ofNat 0 ∧ m_coX p q u v = m_clX p q u v ∧ m_coY p q u v = m_clY p q u v) := by
  have zz : ∀ {e : Int}, m_coE p q u v = e → e ≠ 0 → m_coX p q u v = Int.ofNat 0 ∧ m_coY p q u v = Int.ofNat 0 := fun he hne => ⟨coX_0 (by rw [he]; exact hne), coY_0 (by rw [he]; exact hne)⟩
  have wi : ∀ {a b : Int}, frac a b = true → m_wi a b = (m_small a && m_small b) := fun {a b} hf => by
    unfold m_wi m_small
    have : 0 ≤ b := by have := (frac_iff a b).1 hf; omega
    have : decide (-500 ≤ b) = true := dT (by omega)
    rw [this, Bool.true_and]
  unfold m_frac
  cases h1 : frac p q with
  | false => exact .inl ⟨rfl, coE_61 (by rw [h1]; rfl), zz (coE_61 (by rw [h1]; rfl)) (by decide)⟩
  | true =>
    cases h2 : frac u v with
    | false => exact .inr (.inl ⟨rfl, rfl, coE_61 (by rw [h1, h2]; rfl), zz (coE_61 (by rw [h1, h2]; rfl)) (by decide)⟩)
    | true =>
      have hf : (frac p q && frac u v) = true := by rw [h1, h2]; rfl
      have w1 := wi h1
      have w2 := wi h2
      cases h3 : m_small p with
      | false => have hw := coE_1 hf (show (m_wi p q && m_wi u v) = false by rw [w1, h3]; rfl); exact .inr (.inr (.inl ⟨rfl, rfl, rfl, hw, zz hw (by decide)⟩))
      | true => cases h4 : m_small q with
        | false => have hw := coE_1 hf (show (m_wi p q && m_wi u v) = false by rw [w1, h3, h4]; rfl); exact .inr (.inr (.inr (.inl ⟨rfl, rfl, rfl, rfl, hw, zz hw (by decide)⟩)))
        | true => cases h5 : m_small u with
          | false => have hw := coE_1 hf (show (m_wi p q && m_wi u v) = false by rw [w1, w2, h3, h4, h5]; rfl); exact .inr (.inr (.inr (.inr (.inl ⟨rfl, rfl, rfl, rfl, rfl, hw, zz hw (by decide)⟩))))
          | true => cases h6 : m_small v with
            | false => have hw := coE_1 hf (show (m_wi p q && m_wi u v) = false by rw [w1, w2, h3, h4, h5, h6]; rfl); exact .inr (.inr (.inr (.inr (.inr (.inl ⟨rfl, rfl, rfl, rfl, rfl, rfl, hw, zz hw (by decide)⟩)))))
            | true =>
              have hw : (m_wi p q && m_wi u v) = true := by rw [w1, w2, h3, h4, h5, h6]; rfl
              have hG : m_clG p q u v = true := by
                have := hw
                simp only [Bool.and_eq_true] at this
                simp [m_clG, m_smF, h1, h2, this.1, this.2]
              by_cases hn : closeN p q u v = 0
              · have he := coE_4 hf hw hn
                exact .inr (.inr (.inr (.inr (.inr (.inr (.inl ⟨rfl, rfl, rfl, rfl, rfl, rfl, hG, by simp [m_clB, hn], he, zz he (by decide)⟩))))))
              · have he := coE_0 hf hw hn
                exact .inr (.inr (.inr (.inr (.inr (.inr (.inr ⟨rfl, rfl, rfl, rfl, rfl, rfl, hG, by simp [m_clB, hn], he, by unfold m_coX m_clX; rw [if_pos he, if_neg hn], by unfold m_coY m_clY; rw [if_pos he, if_neg hn]⟩))))))

theorem low_small (p : Int) : ∀ q : Int, 1 ≤ q → q ≤ 500 → 0 ≤ low p q ∧ low p q ≤ 500 := by
  intro q
  induction q using low.induct p with
  | case1 q h => intro h1; omega
  | case2 q h hf => intro h1 h2; rw [low, dif_neg h, if_pos hf]; omega
  | case3 q h hf ih =>
    intro h1 h2
    rw [low, dif_neg h, if_neg hf]
    by_cases c : q = 1
    · subst c
      exact absurd (show frac p 1 = true by rw [frac_iff]; simp) hf
    · exact ih (by omega) (by omega)

theorem lfQ_small (p q : Int) : 0 ≤ m_lfQ p q ∧ m_lfQ p q ≤ 500 := by
  obtain ⟨b1, b2⟩ := lq0_small q
  unfold m_lfQ
  split
  · omega
  · exact low_small _ _ (by omega) b2

theorem lawFrE_ok (r : Mem) : EOk (SC r) 45 (eI2 (fun _ _ => true) fun a b => .tuple ⟨[I (m_lfP a b), I (m_lfQ a b)]⟩) := eI2_ok fun a b _ => lawFr_ok r a b
theorem rSmallE_ok (r : Mem) : EOk (SC r) 20 (eI1 (fun _ => true) fun a => .bool (m_small a)) := eI1_ok fun a _ => rSmall_ok r a
theorem rCloseE_ok (r : Mem) : EOk (SC r) 44 (eI4 m_clG fun p q u v => .tuple ⟨[I (m_clX p q u v), I (m_clY p q u v), .bool (m_clB p q u v)]⟩) := eI4_ok fun a b c d h => rClose_ok r a b c d h
theorem closeE_ok (r : Mem) : EOk (SC r) 43 (eI4 (fun _ _ _ _ => true) fun a b c d => .tuple ⟨[I (m_coX a b c d), I (m_coY a b c d), I (m_coE a b c d)]⟩) := eI4_ok fun a b c d _ => close_ok r a b c d

theorem tCloses_ok (r : Mem) (hm : ∀ b j u, tabM b j = some u → r b j = some u) : TOk (SC r) tCloses :=
  TOk.cons (TOk.cons (TOk.cons (TOk.cons (TOk.cons (TOk.cons TOk.nil (awakeE_ok r hm)) (lawFrE_ok r)) (rCloseE_ok r)) (rSmallE_ok r)) (rFracE_ok r)) (closeE_ok r)

theorem closes_ok (r : Mem) (hm : ∀ b j u, tabM b j = some u → r b j = some u) (p q u v : Int) (hq : q ≤ 9223372036854775807) (hv : v ≤ 9223372036854775807) : GrT Tryd.prog r 9 [FV p q, FV u v] (.bool true) :=
  GrT.of (SC_ok r) (tCloses_ok r hm) .nil rfl ⟨3, 1, by
    rw [csA]
    have g1 : m_max q = true := dT hq
    have g2 : m_max v = true := dT hv
    have g3 : m_max (m_lfQ p q) = true := dT (by have := lfQ_small p q; omega)
    have g4 : m_max (m_lfQ u v) = true := dT (by have := lfQ_small u v; omega)
    have n1 : (Int.ofNat 61 != Int.ofNat 61) = false := rfl
    have n2 : (Int.ofNat 1 != Int.ofNat 1) = false := rfl
    have n3 : (Int.ofNat 4 != Int.ofNat 4) = false := rfl
    have n4 : (Int.ofNat 0 != Int.ofNat 0) = false := rfl
    have n5 : ∀ x : Int, (x != x) = false := fun x => by simp
    have c1 := co_cases p q u v
    have c2 := co_cases (m_lfP p q) (m_lfQ p q) (m_lfP u v) (m_lfQ u v)
    generalize m_lfP p q = p' at *
    generalize m_lfQ p q = q' at *
    generalize m_lfP u v = u' at *
    generalize m_lfQ u v = v' at *
    rcases c1 with ⟨a1, a2, a3, a4⟩ | ⟨a1, a2, a3, a4, a5⟩ | ⟨a1, a2, a3, a4, a5, a6⟩ | ⟨a1, a2, a3, a4, a5, a6, a7⟩ | ⟨a1, a2, a3, a4, a5, a6, a7, a8⟩ | ⟨a1, a2, a3, a4, a5, a6, a7, a8, a9⟩ | ⟨a1, a2, a3, a4, a5, a6, a7, a8, a9, a10, a11⟩ | ⟨a1, a2, a3, a4, a5, a6, a7, a8, a9, a10, a11⟩ <;>
    simp only [*, cond_true, cond_false] <;>
    (rcases c2 with ⟨a1, a2, a3, a4⟩ | ⟨a1, a2, a3, a4, a5⟩ | ⟨a1, a2, a3, a4, a5, a6⟩ | ⟨a1, a2, a3, a4, a5, a6, a7⟩ | ⟨a1, a2, a3, a4, a5, a6, a7, a8⟩ | ⟨a1, a2, a3, a4, a5, a6, a7, a8, a9⟩ | ⟨a1, a2, a3, a4, a5, a6, a7, a8, a9, a10, a11⟩ | ⟨a1, a2, a3, a4, a5, a6, a7, a8, a9, a10, a11⟩ <;>
    simp only [*, cond_true, cond_false] <;> rfl)⟩

theorem arg2m {u : Value} (h : ArgArr 2 (ArgInt .i64) u) : ∃ p q, u = FV p q ∧ q ≤ 9223372036854775807 := by
  obtain ⟨l, rfl, hl, hp⟩ := h
  match l, hl with
  | [x, y], _ =>
    obtain ⟨p, rfl, _⟩ := hp x (by simp)
    obtain ⟨q, rfl, hw⟩ := hp y (by simp)
    refine ⟨p, q, rfl, ?_⟩
    simp [Lit.wf, IntKind.max, IntKind.signed, IntKind.bits] at hw
    omega

theorem law_closes (r : Mem) (hm : ∀ b j u, tabM b j = some u → r b j = some u) (u0 u1 : Value) (s0 : ArgArr 2 (ArgInt .i64) u0) (s1 : ArgArr 2 (ArgInt .i64) u1) : GrT Tryd.prog r 9 [u0, u1] (.bool true) := by
  obtain ⟨p, q, rfl, hq⟩ := arg2m s0
  obtain ⟨u, v, rfl, hv⟩ := arg2m s1
  exact closes_ok r hm p q u v hq hv

end Go.Proofs

