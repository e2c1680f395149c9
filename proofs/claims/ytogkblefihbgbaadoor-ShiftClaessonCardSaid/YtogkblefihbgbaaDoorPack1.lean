/- What the claim is proved with, part 1: the evaluator and the contracts of the calls. -/
import Derived.Test.YtogkblefihbgbaaDoorSymBase
import Derived.Test.YtogkblefihbgbaaDoorEvMemOf
import Derived.Test.YtogkblefihbgbaaDoorRows
import Derived.FnData
import Derived.MakeChecks
import Derived.IntWalk
import Derived.Test.YtogkblefihbgbaaDoorEvOwn
import Derived.Test.YtogkblefihbgbaaDoorEvSetB
import Derived.Shelf.SlSortCmp.Whole1
import Derived.Shelf.Lay
/- The table of math/bits, as memory. -/
namespace Go.Proofs
open Go Go.Ev
set_option linter.unusedVariables false
set_option linter.unusedSimpArgs false

def u8s (l : List Nat) : List Value := l.map fun n => .int .u8 (Int.ofNat n)
def tab32 : List Nat := [0, 1, 28, 2, 29, 14, 24, 3, 30, 22, 20, 15, 25, 17, 4, 8, 31, 27, 13, 23, 21, 19, 16, 7, 26, 12, 18, 6, 11, 5, 10, 9]

/-- What a list holds, laid at a block. -/
def memL (l : List Value) : Nat → Option Value := fun j => l[j]?
def tabM : Mem := fun b j => match Nat.beq b 0 with
  | true => memL (u8s tab32) j
  | false => none

/-- More memory than is asked. -/
theorem _root_.Go.Ev.GrT.more {P : Program} {r r' : Mem} {f : Nat} {args : List Value} {v : Value} (h : GrT P r f args v) (hle : ∀ b j u, r b j = some u → r' b j = some u) : GrT P r' f args v :=
  ⟨h.1, fun F hF k W args' hR ha => h.2 F hF k W args' (fun b j u e => hR b j u (hle b j u e)) ha⟩

end Go.Proofs

/- What the listed package variables hold, as memory: from the row's premise to the memory that came in. -/
namespace Go.Proofs
open Go Go.Ev
set_option linter.unusedVariables false
set_option linter.unusedSimpArgs false

theorem tab_cells {H : Type} {enc : TypeId × Value → H} {P : Program} {w : World} {base fuel : Nat} {spare : Nat → Bool} {held : Bool} {t e : TypeId} {n : Nat} {k : IntKind} {cs : List Value} {l : List Int} {p : List MemPlace}
    (ht : P.underlying t = some (.array n e)) (he : P.underlying e = some (.int k)) (ce : P.cellsOf e = 1)
    (h : DataW.trod enc P w base spare held fuel t cs = some (.agg (l.map fun z => .lit (.int k z)), p)) : ∀ (j : Nat) (z : Int), l[j]? = some z → cs[j]? = some (Value.int k z) := by
  obtain ⟨xs, m, _, hx, _, hl, hel⟩ := DataW.trod_array ht h
  have h1 : l.map (fun z => (DataW.lit (.int k z) : DataW H)) = xs.map (·.1) := by
    have := congrArg Prod.fst hx
    simpa using this
  intro j z hz
  have hlen : l.length = xs.length := by
    have := congrArg List.length h1
    simpa using this
  have hj : j < l.length := (List.getElem?_eq_some_iff.1 hz).1
  have h3 := hel j (by omega)
  rw [ce, Nat.mul_one] at h3
  have hxj : xs[j]? = some xs[j] := List.getElem?_eq_getElem (by omega)
  rw [hxj] at h3
  obtain ⟨s, h4, h5, _⟩ := DataW.trod_int he h3
  have h6 : (l.map (fun z => (DataW.lit (.int k z) : DataW H)))[j]? = (xs.map (·.1))[j]? := by rw [h1]
  simp only [List.getElem?_map, hz, hxj, Option.map_some, h5, Option.some.injEq, DataW.lit.injEq, Lit.int.injEq, true_and] at h6
  subst h6
  have h7 := congrArg (fun l : List Value => l[0]?) h4
  simp only [List.getElem?_cons_zero] at h7
  rw [List.getElem?_take_of_lt (by omega), List.getElem?_drop] at h7
  simpa using h7

theorem tab_mem {P : Program} {w : World} {n : String} {g : Nat} {cs : Array Value} {k : IntKind} (hg : P.globalNamed n = some g) (hv : w.var? P n = some cs) {l : List Int} (h : ∀ (j : Nat) (z : Int), l[j]? = some z → cs.toList[j]? = some (Value.int k z)) :
    ∀ (j : Nat) (z : Int), l[j]? = some z → memOf w g j = some (Value.int k z) := fun j z hz => memOf_int (by
  rw [World.var?_cell hg hv j]
  have := h j z hz
  simpa using this)

theorem laid_32 {W : World} {g t f : Nat} {cs : Array Value} {p : List MemPlace} (a1 : Tryd.prog.globalNamed "math/bits.deBruijn32tab" = some g) (a2 : (Tryd.prog.globals[g]?).map (·.type) = some t) (a3 : W.var? Tryd.prog "math/bits.deBruijn32tab" = some cs)
    (a4 : DataW.trod (fun _ => ()) Tryd.prog W 0 (fun _ => true) false f t cs.toList = some (YtogkblefihbgbaaDoor.Rows.laid_math_bits_deBruijn32tab, p)) : ∀ j u, memL (u8s tab32) j = some u → memOf W 0 j = some u := by
  have hg : Tryd.prog.globalNamed "math/bits.deBruijn32tab" = some 0 := by kernel_rfl
  obtain rfl := Option.some.inj (hg.symm.trans a1)
  obtain rfl := Option.some.inj ((show (Tryd.prog.globals[0]?).map (·.type) = some 98 by kernel_rfl).symm.trans a2)
  have h1 := tab_cells (l := tab32.map Int.ofNat) (k := .u8) (t := 98) (n := 32) (e := 5) (by kernel_rfl) (by kernel_rfl) (by kernel_rfl) (a4.trans (by rfl))
  intro j u hu
  simp only [memL, u8s, List.getElem?_map, Option.map_eq_some_iff] at hu
  obtain ⟨z, hz, rfl⟩ := hu
  exact tab_mem hg a3 h1 j _ (by simp [List.getElem?_map, hz])

theorem laid_mem {W : World} {x : String × DataW Unit} (hx : x = ("math/bits.deBruijn32tab", YtogkblefihbgbaaDoor.Rows.laid_math_bits_deBruijn32tab)) (hL : laidMetH Tryd.prog [x] W) : ∀ b j u, tabM b j = some u → memOf W b j = some u := by
  subst hx
  rw [MakeChecks.laidMetH_plain _ _ _ (by kernel_rfl)] at hL
  obtain ⟨ps, ⟨g1, t1, c1, f1, p1, q1, a1, a2, a3, a4, _, _⟩, _⟩ := hL
  intro b j u h
  unfold tabM at h
  split at h
  · rename_i hb
    have := Nat.eq_of_beq_eq_true hb
    subst this
    exact laid_32 a1 a2 a3 a4 j u h
  · cases h

end Go.Proofs

/- A slice among the arguments: nil, or a row that came in (an empty one, too). -/
namespace Go.Ev
open Go

inductive ArgRowT (r : Mem) (n : Nat) (p : Value → Prop) : Value → Prop
  | nil : ArgRowT r n p (.slice none 0 0)
  | row (b off len cap : Nat) (hl : len ≤ cap) (hc : cap ≤ maxLen) (h : ∀ i, i < cap * n → ∃ u, r b (off + i) = some u ∧ p u) : ArgRowT r n p (.slice (some ⟨b, off, some 0⟩) len cap)

theorem okWide_spot {P : Program} {w : World} {r : Go.Reach} {base : Nat} {t e : TypeId} {x : Addr} {len cap : Nat} (ht : P.underlying t = some (.slice e)) (h : Value.okWide P w r base t (.slice (some x) len cap)) : x.spot = none := by
  simp only [Value.okWide, ht, Cell.okWide, Cell.ok] at h
  exact h.2.2.2.1

section
variable {H : Type} {enc : TypeId × Value → H} {P : Program} {w : World} {base : Nat} {held : Bool}

theorem in_rowT {t e : TypeId} {n : Nat} {p : Value → Prop} {v : Value} {d : DataW H} {ps : List MemPlace} (hn : 0 < n) (ht : P.underlying t = some (.slice e)) (ce : P.cellsOf e = n) (hel : El enc P w base held e n p)
    {b0 : Nat} (hval : Value.okWide P w .any b0 t v) (h : DataW.Trod enc P w base (fun _ => true) held t v d ps) : ∃ u, VRel noG u v ∧ ArgRowT (memOf w) n p u := by
  obtain ⟨u, hu, hs⟩ := in_row hn ht ce hel hval h
  obtain ⟨a, len, cap, rfl⟩ := Go.WideShapes.okWide_slice ht hval
  cases hs with
  | nil => exact ⟨_, hu, .nil⟩
  | row b off len cap hl hc h => exact ⟨_, hu, .row b off len cap hl hc h⟩
  | empty =>
    obtain ⟨fuel, hf⟩ := h
    rcases Go.Deep.open_slice ht hf with ⟨h0, _⟩ | ⟨a', len', cap', m, n', D, Pl, h0, _, hl, hm, hmm, _, hx⟩
    · simp [Value.cells] at h0
      obtain ⟨rfl, rfl, rfl⟩ := h0
      exact ⟨_, .sliceNil, .nil⟩
    · simp [Value.cells] at h0
      obtain ⟨rfl, rfl, rfl⟩ := h0
      have hsp := okWide_spot ht hval
      obtain ⟨b, off, s⟩ := a'
      subst hsp
      have hlen : len = 0 := by
        cases hu with
        | sliceE => rfl
        | slice _ _ _ _ hg => cases hg
      subst hlen
      exact ⟨_, .sliceRo b off 0 0 0 cap (by decide) (Nat.zero_le _), .row b off 0 0 (Nat.le_refl _) (Nat.zero_le _) fun i hi => by omega⟩

end

end Go.Ev

/- Rules for loops. -/
namespace Go.Proofs
open Go Go.Ev

theorem fnsSC (r : Mem) : (SC r).fns = S0.fns := by unfold SC Cfg.sym; rfl
theorem bodySC (r : Mem) (f : Nat) : bodyOf (SC r) f = bodyOf S0 f := by unfold bodyOf; rw [fnsSC]

/-- Into a function whose body has this name. -/
theorem enterN {r : Mem} {t : Tbl} {ms : Tr Nat} {L d f m n : Nat} {args : List Value} {A : AW} {k : KV} {rs : List ResultVar} (c : Code) (hc : c = bodyOf S0 f) (hb : hasBody (SC r) f = true) (hn : ntm (SC r) f = n) (hm : maskFor ms f n = m) (hr : resOf (SC r) f = rs)
    (hl : Nat.ble args.length n = true) (ht : t f = none) :
    (lvlT (SC r) t ms L (d + 1)).call f args A k = run (SC r) m n L c (lvlT (SC r) t ms L d) none (finK (SC r) m rs k) kx242 (finK (SC r) m rs k) (sc0 m args) (tr0 m args) [] A := by
  rw [enter hb hn hm hr hl ht, bodySC, ← hc]

theorem fn_of {C : Cfg} {f : Nat} (h : hasBody C f = true) : ∃ fn, C.fns.get f = some fn ∧ fn.body = some (bodyOf C f) ∧ fn.ntmps = ntm C f ∧ fn.results.toList = resOf C f := by
  unfold hasBody at h
  unfold bodyOf ntm resOf
  split at h
  · rename_i fn hfn
    split at h
    · rename_i c hc
      exact ⟨fn, hfn, by simp only [hfn, hc], by simp only [hfn], by simp only [hfn]⟩
    · cases h
  · cases h

/-- Rows of code, taken together from the left. -/
theorem seqA {C : Cfg} {m n L : Nat} (a b d : Code) : run C m n L (.seq a (.seq b d)) = run C m n L (.seq (.seq a b) d) := rfl

theorem run_while {C : Cfg} {m n L : Nat} {fs : FnsC} {ro : Option Nat} {kn : KS} {kx : Nat → KS} {kr : KS} (a b d : Code) (id : Nat) : run C m n L (.seq a (.seq (.block id (.loop b)) d)) fs ro kn kx kr =
    run C m n L a fs ro (cLoop (fun kl => run C m n L b fs ro kl (fun j => match Nat.beq j id with | true => run C m n L d fs ro kn kx kr | false => kx j) kr) L) kx kr := rfl
theorem run_while0 {C : Cfg} {m n L : Nat} {fs : FnsC} {ro : Option Nat} {kn : KS} {kx : Nat → KS} {kr : KS} (a b : Code) (id : Nat) : run C m n L (.seq a (.block id (.loop b))) fs ro kn kx kr =
    run C m n L a fs ro (cLoop (fun kl => run C m n L b fs ro kl (fun j => match Nat.beq j id with | true => kn | false => kx j) kr) L) kx kr := rfl

theorem run_pre {C : Cfg} {m n L : Nat} (a b d e : Code) : run C m n L (.seq a (.seq (.seq b d) e)) = run C m n L (.seq (.seq a b) (.seq d e)) := rfl

theorem beqD (a b : Int) : (a == b) = decide (a = b) := by by_cases h : a = b <;> simp [h]

theorem dT {p : Prop} [Decidable p] (h : p) : decide p = true := decide_eq_true h
theorem dF {p : Prop} [Decidable p] (h : ¬ p) : decide p = false := decide_eq_false h
theorem eqT {a b : Int} (h : a = b) : (a == b) = true := by simp [h]
theorem eqF {a b : Int} (h : a ≠ b) : (a == b) = false := by simp [h]
theorem neT {a b : Int} (h : a ≠ b) : (a != b) = true := by simp [h]
theorem neF {a b : Int} (h : a = b) : (a != b) = false := by simp [h]
theorem wrI {z : Int} (h : -9223372036854775808 ≤ z ∧ z ≤ 9223372036854775807) : IntKind.wrap .i64 z = z := IntWalk.i64_in z h

/- An entry for one call alone: these arguments, this world; what it answers, and the world behind it. -/
noncomputable def m_at (args args0 : List Value) (A A0 : AW) : Bool := @decide (args = args0 ∧ A = A0) (Classical.propDecidable _)
noncomputable def entAt (args0 : List Value) (A0 : AW) (v : Value) (A1 : AW) : Ent := ⟨fun args A => m_at args args0 A A0, fun _ _ => true, fun _ _ => v, fun _ _ => A1, fun _ _ => v, fun _ _ => A1⟩

theorem at_rfl (args : List Value) (A : AW) : m_at args args A A = true := @decide_eq_true _ (Classical.propDecidable _) ⟨rfl, rfl⟩

theorem entAt_ok {C : Cfg} {f : Nat} {args0 : List Value} {A0 : AW} {v : Value} {A1 : AW}
    (h : ∀ F, Wide F → ∀ k γ W args', WRel γ A0 W → Ro C.ro γ W → VsRel γ args0 (Array.toList args') → CallsIn F k C.P f args' W (Go.Ev.Ends γ W v A1)) : EOk C f (entAt args0 A0 v A1) := fun args A hg F hF k γ W args' hw hR ha => by
  obtain ⟨rfl, rfl⟩ := @of_decide_eq_true _ (Classical.propDecidable _) hg
  exact ⟨fun _ => h F hF k γ W args' hw hR ha, fun _ => h F hF k γ W args' hw hR ha⟩

/-- The same, by a run. -/
theorem entAt_run {C : Cfg} (hC : C.Ok) {t : Tbl} (ht : TOk C t) (tm : Tr Nat) {f : Nat} {args0 : List Value} {A0 : AW} {v : Value} {A1 : AW} (h : ∃ L d, (lvlT C t tm L d).call f args0 A0 .ret = .ret v A1) : EOk C f (entAt args0 A0 v A1) :=
  entAt_ok fun F hF k γ W args' hw hR ha => by
    obtain ⟨L, d, hr⟩ := h
    have h1 := (lvlT_le (C := C) t tm L d).call _ _ _ _ _ _ hr
    cases hc : (lvlU C t tm L d).call f args0 A0 with
    | fail w => rw [hc] at h1; cases h1
    | ret u A' =>
      rw [hc] at h1
      cases h1
      exact (lvlU_ok hC ht tm L d).call γ A0 W f args0 args' v A1 hc hw hR ha F hF k

/- Entries of a table, by the shape of the arguments. -/
def eI2 (g : Int → Int → Bool) (v : Int → Int → Value) : Ent := ent (fun args _ => match args with | [.int .i64 a, .int .i64 b] => g a b | _ => false) (fun args _ => match args with | [.int .i64 a, .int .i64 b] => v a b | _ => undef)
def eI4 (g : Int → Int → Int → Int → Bool) (v : Int → Int → Int → Int → Value) : Ent := ent (fun args _ => match args with | [.int .i64 a, .int .i64 b, .int .i64 c, .int .i64 d] => g a b c d | _ => false) (fun args _ => match args with | [.int .i64 a, .int .i64 b, .int .i64 c, .int .i64 d] => v a b c d | _ => undef)
def eA2 (g : Int → Int → Bool) (v : Int → Int → Value) : Ent := ent (fun args _ => match args with | [.agg ⟨[.int .i64 a, .int .i64 b]⟩] => g a b | _ => false) (fun args _ => match args with | [.agg ⟨[.int .i64 a, .int .i64 b]⟩] => v a b | _ => undef)
def eI1 (g : Int → Bool) (v : Int → Value) : Ent := ent (fun args _ => match args with | [.int .i64 a] => g a | _ => false) (fun args _ => match args with | [.int .i64 a] => v a | _ => undef)
def eA1I (g : Int → Int → Int → Bool) (v : Int → Int → Int → Value) : Ent := ent (fun args _ => match args with | [.agg ⟨[.int .i64 a, .int .i64 b]⟩, .int .i64 c] => g a b c | _ => false) (fun args _ => match args with | [.agg ⟨[.int .i64 a, .int .i64 b]⟩, .int .i64 c] => v a b c | _ => undef)
def eAA (g : Int → Int → Int → Int → Bool) (v : Int → Int → Int → Int → Value) : Ent := ent (fun args _ => match args with | [.agg ⟨[.int .i64 a, .int .i64 b]⟩, .agg ⟨[.int .i64 c, .int .i64 d]⟩] => g a b c d | _ => false) (fun args _ => match args with | [.agg ⟨[.int .i64 a, .int .i64 b]⟩, .agg ⟨[.int .i64 c, .int .i64 d]⟩] => v a b c d | _ => undef)
def e0 (v : Value) : Ent := ent (fun args _ => match args with | [] => true | _ => false) (fun _ _ => v)

theorem eI2_ok {C : Cfg} {f : Nat} {g : Int → Int → Bool} {v : Int → Int → Value} (h : ∀ a b, g a b = true → GrT C.P C.ro f [I a, I b] (v a b)) : EOk C f (eI2 g v) := EOk.ent fun args A hg => by
  split at hg
  · exact (h _ _ hg).ro rfl A
  · cases hg
theorem eI4_ok {C : Cfg} {f : Nat} {g : Int → Int → Int → Int → Bool} {v : Int → Int → Int → Int → Value} (h : ∀ a b c d, g a b c d = true → GrT C.P C.ro f [I a, I b, I c, I d] (v a b c d)) : EOk C f (eI4 g v) := EOk.ent fun args A hg => by
  split at hg
  · exact (h _ _ _ _ hg).ro rfl A
  · cases hg
theorem eA2_ok {C : Cfg} {f : Nat} {g : Int → Int → Bool} {v : Int → Int → Value} (h : ∀ a b, g a b = true → GrT C.P C.ro f [.agg ⟨[I a, I b]⟩] (v a b)) : EOk C f (eA2 g v) := EOk.ent fun args A hg => by
  split at hg
  · exact (h _ _ hg).ro rfl A
  · cases hg
theorem eI1_ok {C : Cfg} {f : Nat} {g : Int → Bool} {v : Int → Value} (h : ∀ a, g a = true → GrT C.P C.ro f [I a] (v a)) : EOk C f (eI1 g v) := EOk.ent fun args A hg => by
  split at hg
  · exact (h _ hg).ro rfl A
  · cases hg
theorem eA1I_ok {C : Cfg} {f : Nat} {g : Int → Int → Int → Bool} {v : Int → Int → Int → Value} (h : ∀ a b c, g a b c = true → GrT C.P C.ro f [.agg ⟨[I a, I b]⟩, I c] (v a b c)) : EOk C f (eA1I g v) := EOk.ent fun args A hg => by
  split at hg
  · exact (h _ _ _ hg).ro rfl A
  · cases hg
theorem eAA_ok {C : Cfg} {f : Nat} {g : Int → Int → Int → Int → Bool} {v : Int → Int → Int → Int → Value} (h : ∀ a b c d, g a b c d = true → GrT C.P C.ro f [.agg ⟨[I a, I b]⟩, .agg ⟨[I c, I d]⟩] (v a b c d)) : EOk C f (eAA g v) := EOk.ent fun args A hg => by
  split at hg
  · exact (h _ _ _ _ hg).ro rfl A
  · cases hg
theorem e0_ok {C : Cfg} {f : Nat} {v : Value} (h : GrT C.P C.ro f [] v) : EOk C f (e0 v) := EOk.ent fun args A hg => by
  split at hg
  · exact h.ro rfl A
  · cases hg

end Go.Proofs

/- maps.Keys and slices.AppendSeq over it, run: keys of kind u16. -/
namespace Go.Proofs
open Go Go.Ev
set_option linter.unusedVariables false
set_option linter.unusedSimpArgs false

def rfAs : Code → Code | .rangeFunc _ _ a _ => a | c => c
def rfBd : Code → Code | .rangeFunc _ _ _ b => b | c => c
noncomputable def cKs : Code := bodyOf S0 56
noncomputable def cAq : Code := bodyOf S0 66
noncomputable def cCo : Code := bodyOf S0 54

/-- The keys' walk. -/
abbrev seqV : Value := .func (.func 56) ⟨[]⟩ ⟨[.pointer (some ⟨0, 0, none⟩)]⟩
def AK0 (e z clock : Nat) (es : List MapEntry) : AW := ⟨2, .node (.node .nil (some (.map es clock)) .nil) (some (.cells [.map (some 1)] e 0 z)) .nil, .nil⟩

noncomputable def k_aqA : Code := rfAs (ic (rc (lc (rc cAq))))
noncomputable def k_aqB : Code := rfBd (ic (rc (lc (rc cAq))))
def TQ : Tr Value := .node (.node .nil (some seqV) .nil) (some (.slice none 0 0)) (.node (.node .nil (some (.slice none 0 0)) .nil) (some (.pointer (some ⟨2, 0, none⟩))) .nil)
noncomputable def AKg (e z clock : Nat) (es : List MapEntry) (n : Nat) (sv : Value) (s5 s6 : Tr AObj) : AW :=
  ⟨n, .node (.node (.node .nil (some .defd) .nil) (some (.map es clock)) s5) (some (.cells [.map (some 1)] e 0 z)) (.node (.node .nil (some (.loop .ready none 183 ⟨[(6, seqV)], TQ⟩ 13 ⟨[7]⟩ k_aqA k_aqB 3)) .nil) (some (.cells [sv] 66 2 0)) s6), .nil⟩
def miT (clock : Nat) (seen : List Nat) : Tr AObj := .node .nil (some (.miter 1 clock seen clock)) .nil
def rwT (i : Nat) (l : List Value) : Tr AObj := .node .nil (some (.cells l 43 i 1)) .nil
def yK : List Value := [.func (.yield 4) ⟨[]⟩ ⟨[]⟩, .pointer (some ⟨0, 0, none⟩)]

def TK : Tr Value := .node (.node .nil (some (.pointer (some ⟨0, 0, none⟩))) (.node .nil (some (.pointer (some ⟨5, 0, none⟩))) .nil)) (some (.func (.yield 4) ⟨[]⟩ ⟨[]⟩)) .nil
def TKz (z : Int) : Tr Value := .node (.node (.node .nil (some (.int .u16 z)) .nil) (some (.pointer (some ⟨0, 0, none⟩))) (.node .nil (some (.pointer (some ⟨5, 0, none⟩))) .nil)) (some (.func (.yield 4) ⟨[]⟩ ⟨[]⟩)) .nil

theorem kyA (r : Mem) (L : Nat) (fs : FnsC) (e z clock : Nat) (es : List MapEntry) (kn : KS) (kx : Nat → KS) (kr : KS) (ms : List Nat) : run (SC r) 183 13 L (.seq (lc cAq) (lc (lc (rc cAq)))) fs none kn kx kr (sc0 183 [.slice none 0 0, seqV]) (tr0 183 [.slice none 0 0, seqV]) ms (AK0 e z clock es) =
    kn [(6, Value.func (Fn.func 56) (Array.mk []) (Array.mk [Value.pointer (some (Addr.mk 0 0 none))]))] (Tr.node (Tr.node Tr.nil (some (Value.func (Fn.func 56) (Array.mk []) (Array.mk [Value.pointer (some (Addr.mk 0 0 none))]))) Tr.nil) (some (Value.slice none 0 0)) (Tr.node (Tr.node Tr.nil (some (Value.slice none 0 0)) Tr.nil) (some (Value.pointer (some (Addr.mk 2 0 none)))) Tr.nil)) ms (AW.mk 3 (Tr.node (Tr.node Tr.nil (some (AObj.map es clock)) Tr.nil) (some (AObj.cells [Value.map (some 1)] e 0 z)) (Tr.node Tr.nil (some (AObj.cells [Value.slice none 0 0] 66 2 0)) Tr.nil)) Tr.nil) := by kernel_rfl

theorem kyB (r : Mem) (L : Nat) (fs : FnsC) (e z clock : Nat) (es : List MapEntry) (kn : KS) (kx : Nat → KS) (kr : KS) (ms : List Nat) : run (SC r) 43 14 L (lc cKs) fs none kn kx kr (sc0 43 yK) (tr0 43 yK) ms (AKg e z clock es 5 (.slice none 0 0) .nil .nil) =
    kn [(4, Value.map (some 1))] (Tr.node (Tr.node Tr.nil (some (Value.pointer (some (Addr.mk 0 0 none)))) (Tr.node Tr.nil (some (Value.pointer (some (Addr.mk 5 0 none)))) Tr.nil)) (some (Value.func (Fn.yield 4) (Array.mk []) (Array.mk []))) Tr.nil) ms (AW.mk 6 (Tr.node (Tr.node (Tr.node Tr.nil (some AObj.defd) Tr.nil) (some (AObj.map es clock)) (Tr.node Tr.nil (some (AObj.miter 1 clock [] clock)) Tr.nil)) (some (AObj.cells [Value.map (some 1)] e 0 z)) (Tr.node (Tr.node Tr.nil (some (AObj.loop LoopState.ready none 183 (En.mk [(6, Value.func (Fn.func 56) (Array.mk []) (Array.mk [Value.pointer (some (Addr.mk 0 0 none))]))] (Tr.node (Tr.node Tr.nil (some (Value.func (Fn.func 56) (Array.mk []) (Array.mk [Value.pointer (some (Addr.mk 0 0 none))]))) Tr.nil) (some (Value.slice none 0 0)) (Tr.node (Tr.node Tr.nil (some (Value.slice none 0 0)) Tr.nil) (some (Value.pointer (some (Addr.mk 2 0 none)))) Tr.nil))) 13 (Array.mk [7]) k_aqA k_aqB 3)) Tr.nil) (some (AObj.cells [Value.slice none 0 0] 66 2 0)) Tr.nil)) Tr.nil) := by kernel_rfl

theorem kyC (r : Mem) (L : Nat) (fs : FnsC) (s : List (Nat × Value)) (b : Tr Value) (q : Bool) (kn : KS) (kx : Nat → KS) (kr : KS) (ms : List Nat) (A : AW) : run (SC r) 43 14 L (lc (rc (ic (ic (rc cKs))))) fs none kn kx kr ((7, .bool q) :: s) b ms A =
    bif q then kn ((7, Value.bool q) :: s) b ms A else kx 0 ((7, Value.bool q) :: s) b ms A := by kernel_rfl

theorem kyP (r : Mem) (fs : FnsC) (kn : KS) (ms : List Nat) (A : AW) : preK (SC r) 43 14 (lc (ic (ic (rc cKs)))) 0 fs kn [] TK ms A =
    kn [] (Tr.node (Tr.node Tr.nil (some (Value.pointer (some (Addr.mk 0 0 none)))) (Tr.node Tr.nil (some (Value.pointer (some (Addr.mk 5 0 none)))) Tr.nil)) (some (Value.func (Fn.yield 4) (Array.mk []) (Array.mk []))) Tr.nil) ms A := by kernel_rfl

theorem kyN (r : Mem) (fs : FnsC) (x : Int) (vb : Bool) (kn : KS) (ms : List Nat) (A : AW) : tailK (SC r) 43 14 (lc (ic (ic (rc cKs)))) 0 fs kn (.tuple ⟨[.bool true, .int .u16 x, .bool vb]⟩) [] TK ms A =
    kn [(7, Value.bool true), (6, Value.tuple (Array.mk [Value.bool true, Value.int IntKind.u16 x, Value.bool vb]))] (Tr.node (Tr.node Tr.nil (some (Value.pointer (some (Addr.mk 0 0 none)))) (Tr.node Tr.nil (some (Value.pointer (some (Addr.mk 5 0 none)))) Tr.nil)) (some (Value.func (Fn.yield 4) (Array.mk []) (Array.mk []))) Tr.nil) ms A := by kernel_rfl

theorem kyM (r : Mem) (fs : FnsC) (kn : KS) (ms : List Nat) (A : AW) : tailK (SC r) 43 14 (lc (ic (ic (rc cKs)))) 0 fs kn (.tuple ⟨[.bool false]⟩) [] TK ms A =
    kn [(7, Value.bool false), (6, Value.tuple (Array.mk [Value.bool false]))] (Tr.node (Tr.node Tr.nil (some (Value.pointer (some (Addr.mk 0 0 none)))) (Tr.node Tr.nil (some (Value.pointer (some (Addr.mk 5 0 none)))) Tr.nil)) (some (Value.func (Fn.yield 4) (Array.mk []) (Array.mk []))) Tr.nil) ms A := by kernel_rfl

theorem kyQ (r : Mem) (fs : FnsC) (kn : KS) (ms : List Nat) (A : AW) : preK (SC r) 43 14 (lc (ic (rc (rc (ic (ic (rc cKs))))))) 0 fs kn [] TK ms A =
    kn [] (Tr.node (Tr.node Tr.nil (some (Value.pointer (some (Addr.mk 0 0 none)))) (Tr.node Tr.nil (some (Value.pointer (some (Addr.mk 5 0 none)))) Tr.nil)) (some (Value.func (Fn.yield 4) (Array.mk []) (Array.mk []))) Tr.nil) ms A := by kernel_rfl

theorem kyE (r : Mem) (fs : FnsC) (x : Int) (vb : Bool) (kn : KS) (ms : List Nat) (A : AW) : tailK (SC r) 43 14 (lc (ic (rc (rc (ic (ic (rc cKs))))))) 0 fs kn (.tuple ⟨[.int .u16 x, .bool vb]⟩) [] TK ms A =
    kn [(9, Value.int IntKind.u16 x), (8, Value.tuple (Array.mk [Value.int IntKind.u16 x, Value.bool vb]))] (Tr.node (Tr.node (Tr.node Tr.nil (some (Value.int IntKind.u16 x)) Tr.nil) (some (Value.pointer (some (Addr.mk 0 0 none)))) (Tr.node Tr.nil (some (Value.pointer (some (Addr.mk 5 0 none)))) Tr.nil)) (some (Value.func (Fn.yield 4) (Array.mk []) (Array.mk []))) Tr.nil) ms A := by kernel_rfl

theorem kyY (r : Mem) (L : Nat) (tm : Tr Nat) (e z clock : Nat) (es : List MapEntry) (seen : List Nat) (x : Int) (s : List (Nat × Value)) (kn : KS) (kx : Nat → KS) (kr : KS) (ms : List Nat) : run (SC r) 43 14 L (rc (ic (rc (rc (ic (ic (rc cKs))))))) (lvlT (SC r) (fun _ => none) tm L 1) none kn kx kr s (TKz x) ms (AKg e z clock es 6 (.slice none 0 0) (miT clock seen) .nil) =
    kn [(13, Value.bool false), (12, Value.bool true), (11, Value.int IntKind.u16 x), (10, Value.func (Fn.yield 4) (Array.mk []) (Array.mk []))] (Tr.node (Tr.node (Tr.node Tr.nil (some (Value.int IntKind.u16 x)) Tr.nil) (some (Value.pointer (some (Addr.mk 0 0 none)))) (Tr.node Tr.nil (some (Value.pointer (some (Addr.mk 5 0 none)))) Tr.nil)) (some (Value.func (Fn.yield 4) (Array.mk []) (Array.mk []))) Tr.nil) ms (AW.mk 8 (Tr.node (Tr.node (Tr.node (Tr.node Tr.nil (some (AObj.cells [Value.int IntKind.u16 x] 43 7 1)) Tr.nil) (some AObj.defd) Tr.nil) (some (AObj.map es clock)) (Tr.node Tr.nil (some (AObj.miter 1 clock seen clock)) Tr.nil)) (some (AObj.cells [Value.map (some 1)] e 0 z)) (Tr.node (Tr.node Tr.nil (some (AObj.loop LoopState.ready none 183 (En.mk [(6, Value.func (Fn.func 56) (Array.mk []) (Array.mk [Value.pointer (some (Addr.mk 0 0 none))]))] (Tr.node (Tr.node Tr.nil (some (Value.func (Fn.func 56) (Array.mk []) (Array.mk [Value.pointer (some (Addr.mk 0 0 none))]))) Tr.nil) (some (Value.slice none 0 0)) (Tr.node (Tr.node Tr.nil (some (Value.slice none 0 0)) Tr.nil) (some (Value.pointer (some (Addr.mk 2 0 none)))) Tr.nil))) 13 (Array.mk [7]) k_aqA k_aqB 3)) Tr.nil) (some (AObj.cells [Value.slice (some (Addr.mk 7 0 none)) 1 9223372036854775808] 66 2 0)) (Tr.node Tr.nil (some (AObj.cells [Value.int IntKind.u16 x] 43 6 1)) Tr.nil))) Tr.nil) := by kernel_rfl

theorem kyZ (r : Mem) (L : Nat) (tm : Tr Nat) (e z clock : Nat) (es : List MapEntry) (seen : List Nat) (x : Int) (l : List Value) (n : Nat) (s : List (Nat × Value)) (kn : KS) (kx : Nat → KS) (kr : KS) (ms : List Nat) : run (SC r) 43 14 L (rc (ic (rc (rc (ic (ic (rc cKs))))))) (lvlT (SC r) (fun _ => none) tm L 1) none kn kx kr s (TKz x) ms (AKg e z clock es 7 (.slice (some ⟨6, 0, none⟩) n unk) (miT clock seen) (rwT 6 l)) =
    bif Nat.ble (Nat.add n 1) 1000000 then Option.casesOn (takeAt l 0 (Nat.mul n 1)) (CR.fail 439) fun val => kn [(13, Value.bool false), (12, Value.bool true), (11, Value.int IntKind.u16 x), (10, Value.func (Fn.yield 4) (Array.mk []) (Array.mk []))] (Tr.node (Tr.node (Tr.node Tr.nil (some (Value.int IntKind.u16 x)) Tr.nil) (some (Value.pointer (some (Addr.mk 0 0 none)))) (Tr.node Tr.nil (some (Value.pointer (some (Addr.mk 5 0 none)))) Tr.nil)) (some (Value.func (Fn.yield 4) (Array.mk []) (Array.mk []))) Tr.nil) ms (AW.mk 9 (Tr.node (Tr.node (Tr.node (Tr.node Tr.nil (some (AObj.cells [Value.int IntKind.u16 x] 43 7 1)) Tr.nil) (some AObj.defd) Tr.nil) (some (AObj.map es clock)) (Tr.node Tr.nil (some (AObj.miter 1 clock seen clock)) Tr.nil)) (some (AObj.cells [Value.map (some 1)] e 0 z)) (Tr.node (Tr.node (Tr.node Tr.nil (some (AObj.cells (val ++ [Value.int IntKind.u16 x]) 43 6 1)) Tr.nil) (some (AObj.loop LoopState.ready none 183 (En.mk [(6, Value.func (Fn.func 56) (Array.mk []) (Array.mk [Value.pointer (some (Addr.mk 0 0 none))]))] (Tr.node (Tr.node Tr.nil (some (Value.func (Fn.func 56) (Array.mk []) (Array.mk [Value.pointer (some (Addr.mk 0 0 none))]))) Tr.nil) (some (Value.slice none 0 0)) (Tr.node (Tr.node Tr.nil (some (Value.slice none 0 0)) Tr.nil) (some (Value.pointer (some (Addr.mk 2 0 none)))) Tr.nil))) 13 (Array.mk [7]) k_aqA k_aqB 3)) Tr.nil) (some (AObj.cells [Value.slice (some (Addr.mk 8 0 none)) (Nat.add n 1) 9223372036854775808] 66 2 0)) (Tr.node Tr.nil none Tr.nil))) (Tr.node Tr.nil none (Tr.node Tr.nil none (Tr.node Tr.nil (some [8]) Tr.nil)))) else CR.fail 420 := by kernel_rfl

end Go.Proofs

/- maps.Keys over slices.AppendSeq: the walk, each key once, in any order. -/
namespace Go.Proofs
open Go Go.Ev
set_option linter.unusedVariables false
set_option linter.unusedSimpArgs false

abbrev K16 : Type := {x : Int // 0 ≤ x ∧ x < 65536}
abbrev KT : Type := K16 × Bool × Nat
def mkE (t : KT) : MapEntry := ⟨.int .u16 t.1.1, .bool t.2.1, t.2.2⟩
def rowK (l : List KT) : List Value := l.map fun t => .int .u16 t.1.1
def bornK (l : List KT) : List Nat := l.map fun t => t.2.2
theorem rowK_len (l : List KT) : (rowK l).length = l.length := by simp [rowK]
theorem rowK_gnd (l : List KT) : ∀ v ∈ rowK l, gnd v = true := fun v hv => by
  obtain ⟨t, _, rfl⟩ := List.mem_map.1 hv
  rfl
theorem takeAt_fullK (l : List Value) (n : Nat) (h : l.length = n) : takeAt l 0 n = some l := takeAt_all l n 0 l h fun j _ => by rw [Nat.zero_add]
theorem natFK {i j : Nat} (h : i ≠ j) : Nat.beq i j = false := by
  cases e : Nat.beq i j with
  | false => rfl
  | true => exact absurd (Nat.eq_of_beq_eq_true e) h

/-- The keys of a map that is not walked but by this: each born before the walk, at its own time. -/
structure KOk (q : List KT) (clock : Nat) : Prop where
  born : ∀ t ∈ q, t.2.2 < clock
  nodup : (bornK q).Nodup
  few : q.length < 1000000

theorem left_mem {q : List KT} {seen : List Nat} {e : MapEntry} (h : e ∈ nextLeft (q.map mkE) seen) : ∃ t ∈ q, e = mkE t ∧ t.2.2 ∉ seen := by
  unfold nextLeft at h
  obtain ⟨h1, h2⟩ := List.mem_filter.1 h
  obtain ⟨t, ht, rfl⟩ := List.mem_map.1 h1
  refine ⟨t, ht, rfl, fun hm => ?_⟩
  simp [mkE, hm] at h2

theorem left_nil {q : List KT} {seen : List Nat} (h : nextLeft (q.map mkE) seen = []) : ∀ t ∈ q, t.2.2 ∈ seen := fun t ht => by
  unfold nextLeft at h
  have := List.filter_eq_nil_iff.1 h (mkE t) (List.mem_map_of_mem ht)
  simpa [mkE] using this

theorem left_done {q vis rest : List KT} {clock : Nat} (hq : KOk q clock) (hp : (vis ++ rest).Perm q) (h : nextLeft (q.map mkE) (bornK vis) = []) : rest = [] := by
  cases rest with
  | nil => rfl
  | cons t l =>
    exfalso
    have h1 := left_nil h t (hp.mem_iff.1 (by simp))
    have h2 : (bornK (vis ++ t :: l)).Nodup := (hp.map _).nodup_iff.2 hq.nodup
    unfold bornK at h1 h2
    rw [List.map_append, List.nodup_append] at h2
    exact h2.2.2 _ h1 t.2.2 (by simp) rfl

theorem left_more {q vis rest : List KT} {clock : Nat} (hq : KOk q clock) (hp : (vis ++ rest).Perm q) {e : MapEntry} (h : e ∈ nextLeft (q.map mkE) (bornK vis)) : ∃ t rest', e = mkE t ∧ rest'.length < rest.length ∧ ((vis ++ [t]) ++ rest').Perm q := by
  obtain ⟨t, ht, rfl, hn⟩ := left_mem h
  have hm : t ∈ rest := by
    rcases List.mem_append.1 (hp.mem_iff.2 ht) with h1 | h1
    · exact absurd (List.mem_map_of_mem (f := fun t : KT => t.2.2) h1) hn
    · exact h1
  obtain ⟨a, b, rfl⟩ := List.append_of_mem hm
  refine ⟨t, a ++ b, rfl, by simp, List.Perm.trans ?_ hp⟩
  rw [List.append_assoc]
  refine List.Perm.append_left vis ?_
  simpa using List.perm_middle.symm

theorem same_ok {q : List KT} {clock : Nat} (hq : KOk q clock) (seen : List Nat) : nextSame (q.map mkE) clock seen clock = true := by
  unfold nextSame
  simp only [Bool.and_eq_true, Bool.not_eq_true', List.all_eq_true, decide_eq_true_eq]
  refine ⟨?_, fun e he => ?_⟩
  · cases q with
    | nil => simp
    | cons t l =>
      have := hq.born t (by simp)
      have h2 : (List.map mkE (t :: l)).all (fun e => decide (clock ≤ e.born)) = false := by
        simp [mkE]
        intro h
        omega
      rw [h2]
      simp
  · obtain ⟨t, ht, rfl, _⟩ := left_mem he
    exact hq.born t ht

theorem find_ok {q : List KT} {clock : Nat} (hq : KOk q clock) {t : KT} (ht : t ∈ q) : (q.map mkE).find? (fun e => Nat.beq e.born t.2.2) = some (mkE t) := by
  have key : ∀ (l : List KT), (bornK l).Nodup → t ∈ l → (l.map mkE).find? (fun e => Nat.beq e.born t.2.2) = some (mkE t) := by
    intro l
    induction l with
    | nil => intro _ h; cases h
    | cons x l ih =>
      intro hn hm
      rw [List.map_cons, List.find?_cons]
      unfold bornK at hn
      rw [List.map_cons, List.nodup_cons] at hn
      rcases List.mem_cons.1 hm with rfl | hm
      · rw [show Nat.beq (mkE t).born t.2.2 = true from Nat.beq_refl _]
      · have hne : x.2.2 ≠ t.2.2 := fun h => hn.1 (by rw [h]; exact List.mem_map_of_mem (f := fun t : KT => t.2.2) hm)
        rw [show Nat.beq (mkE x).born t.2.2 = false from natFK hne]
        exact ih hn.2 hm
  exact key q hq.nodup ht

section
variable {r : Mem} {γ0 : Gam} {W0 : World} {e z clock : Nat} {q : List KT}

/-- The world at the walk's head, and behind it. -/
noncomputable def AKv (e z clock : Nat) (q : List KT) : List KT → AW
  | [] => AKg e z clock (q.map mkE) 6 (.slice none 0 0) (miT clock []) .nil
  | t :: l => AKg e z clock (q.map mkE) 7 (.slice (some ⟨6, 0, none⟩) (t :: l).length unk) (miT clock (bornK (t :: l))) (rwT 6 (rowK (t :: l)))
noncomputable def AKf (e z clock : Nat) (q : List KT) : List KT → AW
  | [] => AKg e z clock (q.map mkE) 5 (.slice none 0 0) .nil .nil
  | t :: l => AKg e z clock (q.map mkE) 6 (.slice (some ⟨5, 0, none⟩) (t :: l).length unk) (rwT 5 (rowK (t :: l))) .nil
/-- The same, at the entry. -/
noncomputable def AKn (e z clock : Nat) (q : List KT) (seen : List Nat) : List KT → AW
  | [] => AKg e z clock (q.map mkE) 6 (.slice none 0 0) (miT clock seen) .nil
  | t :: l => AKg e z clock (q.map mkE) 7 (.slice (some ⟨6, 0, none⟩) (t :: l).length unk) (miT clock seen) (rwT 6 (rowK (t :: l)))


theorem ksG (q : List KT) : ∀ x ∈ q.map mkE, gnd x.key = true ∧ gnd x.val = true := fun x hx => by
  obtain ⟨t, _, rfl⟩ := List.mem_map.1 hx
  exact ⟨rfl, rfl⟩

theorem ren_start (h0 : ∀ i, 5 ≤ i → γ0 i = none) (s : List (Nat × Value)) : Ren (SC r) 43 14 γ0 W0 ⟨⟨s, TK⟩, [], AKv e z clock q []⟩ ⟨⟨[], TK⟩, [], AKv e z clock q []⟩ := by
  refine Ren.of (fun i => i) 5 rfl h0 (Nat.le_of_ble_eq_true rfl) (fun i hi => rfl) ?_ rfl ?_ trivial
  · simp only [Tr.All, TK]
    repeat' (first | exact trivial | apply And.intro)
    all_goals exact ⟨_, rfl, rfl⟩
  · simp only [Tr.All, AKv, AKg, miT]
    repeat' (first | exact trivial | apply And.intro)
    all_goals first | rfl | exact .head _ | exact ⟨_, rfl, .defd⟩ | exact ⟨_, rfl, .map (ksG q)⟩ | exact ⟨_, rfl, .miter rfl rfl⟩ | exact ⟨_, rfl, .cells rfl⟩ | exact ⟨_, rfl, .plain (by skip)⟩ | skip
    refine ⟨_, rfl, .same ?_ ?_ rfl rfl⟩
    · simp only [Tr.All, TQ]
      repeat' (first | exact trivial | apply And.intro)
      all_goals rfl
    · simp only [scrFix]
      repeat' (first | exact trivial | apply And.intro)
      all_goals rfl

/-- The states at the walk's head. -/
def KeySt (e z clock : Nat) (q : List KT) (j : Nat) (st : St) : Prop := ∃ vis rest, rest.length = j ∧ (vis ++ rest).Perm q ∧ st = ⟨⟨[], TK⟩, [], AKv e z clock q vis⟩

/-- What the walk leaves. -/
def KeyQ (r : Mem) (γ0 : Gam) (W0 : World) (e z clock : Nat) (q : List KT) : Exit → St → Prop
  | .exit id, st => id = 0 ∧ ∃ vis, vis.Perm q ∧ ∃ st1, Ren (SC r) 43 14 γ0 W0 st st1 ∧ st1 = ⟨⟨[], .nil⟩, [], AKf e z clock q vis⟩
  | _, _ => False

theorem ren_out (h0 : ∀ i, 5 ≤ i → γ0 i = none) (s : List (Nat × Value)) (vis : List KT) : Ren (SC r) 43 14 γ0 W0 ⟨⟨s, TK⟩, [], AKv e z clock q vis⟩ ⟨⟨[], .nil⟩, [], AKf e z clock q vis⟩ := by
  cases vis with
  | nil =>
    refine Ren.of (fun i => i) 5 rfl h0 (Nat.le_of_ble_eq_true rfl) (fun i hi => rfl) ?_ rfl ?_ trivial
    · simp only [Tr.All, TK]
      repeat' (first | exact trivial | apply And.intro)
      all_goals exact ⟨_, rfl, rfl⟩
    · simp only [Tr.All, AKv, AKf, AKg, miT]
      repeat' (first | exact trivial | apply And.intro)
      all_goals first | rfl | exact .head _ | exact ⟨_, rfl, .defd⟩ | exact ⟨_, rfl, .map (ksG q)⟩ | exact ⟨_, rfl, .miter rfl rfl⟩ | exact ⟨_, rfl, .cells rfl⟩ | exact ⟨_, rfl, .plain (by skip)⟩ | skip
      refine ⟨_, rfl, .same ?_ ?_ rfl rfl⟩
      · simp only [Tr.All, TQ]
        repeat' (first | exact trivial | apply And.intro)
        all_goals rfl
      · simp only [scrFix]
        repeat' (first | exact trivial | apply And.intro)
        all_goals rfl
  | cons t l =>
    refine Ren.of (fun i => bif Nat.beq i 5 then 6 else i) 5 rfl h0 (Nat.le_of_ble_eq_true rfl) (fun i hi => by have : Nat.beq i 5 = false := natFK (by omega); rw [this]; rfl) ?_ rfl ?_ trivial
    · simp only [Tr.All, TK]
      repeat' (first | exact trivial | apply And.intro)
      all_goals exact ⟨_, rfl, rfl⟩
    · simp only [Tr.All, AKv, AKf, AKg, miT, rwT]
      repeat' (first | exact trivial | apply And.intro)
      all_goals first | rfl | exact .head _ | exact ⟨_, rfl, .defd⟩ | exact ⟨_, rfl, .map (ksG q)⟩ | exact ⟨_, rfl, .miter rfl rfl⟩ | exact ⟨_, rfl, .cells rfl⟩ | exact ⟨_, rfl, .plain (by exact rowK_gnd (t :: l))⟩ | skip
      refine ⟨_, rfl, .same ?_ ?_ rfl rfl⟩
      · simp only [Tr.All, TQ]
        repeat' (first | exact trivial | apply And.intro)
        all_goals rfl
      · simp only [scrFix]
        repeat' (first | exact trivial | apply And.intro)
        all_goals rfl

theorem put_seen {vis : List KT} {seen : List Nat} : ({ AKv e z clock q vis with heap := (AKv e z clock q vis).heap.put 5 (some (.miter 1 clock seen clock)) } : AW) = AKn e z clock q seen vis := by
  cases vis <;> rfl

theorem key_body (hq : KOk q clock) (h0 : ∀ i, 5 ≤ i → γ0 i = none) {F : Fence} {k : Nat} (hF : Wide F) (hro : F.round = none) {j : Nat} {st : St} (hs : KeySt e z clock q j st) :
    Go.Ev.Reach (SC r) 43 14 F k γ0 W0 (ic (ic (rc cKs))) st fun ex st' => match ex with
      | .normal => ∃ j', j' < j ∧ ∃ st1, Ren (SC r) 43 14 γ0 W0 st' st1 ∧ KeySt e z clock q j' st1
      | ex => KeyQ r γ0 W0 e z clock q ex st' := by
  obtain ⟨vis, rest, rfl, hp, rfl⟩ := hs
  rw [show ic (ic (rc cKs)) = Code.seq (lc (ic (ic (rc cKs)))) (.seq (lc (rc (ic (ic (rc cKs))))) (.block 1 (ic (rc (rc (ic (ic (rc cKs)))))))) from by kernel_rfl]
  have hi : (AKv e z clock q vis).heap.get 5 = some (.miter 1 clock (bornK vis) clock) := by cases vis <;> rfl
  have hm : (AKv e z clock q vis).heap.get 1 = some (.map (q.map mkE) clock) := by cases vis <;> rfl
  refine Go.Ev.Reach.seq (Go.Ev.Reach.nextP (SC_ok r) hF TOk.nil (tm := .nil) (L := 0) (d := 0) 0 (s1 := []) (b1 := TK) (ms1 := []) (A1 := AKv e z clock q vis) ?_ (by kernel_rfl) hi hm (same_ok hq _) fun v A' hv => ?_)
  · rw [kyP]
    exact qn_ok rfl
  rcases hv with ⟨hnil, rfl, rfl⟩ | ⟨x, hx, rfl, rfl⟩
  · rw [kyM]
    refine qn_ok (Go.Ev.Reach.seq (Go.Ev.Reach.seg (SC_ok r) TOk.nil (tm := .nil) (L := 1) (L' := 1) (d := 1) hF hro ?_))
    rw [kyC]
    simp only [cond_false]
    have := left_done hq hp hnil
    subst this
    rw [List.append_nil] at hp
    exact qn_ok ⟨rfl, vis, hp, _, ren_out h0 _ vis, rfl⟩
  · obtain ⟨t, rest', rfl, hlt, hp'⟩ := left_more hq hp hx
    rw [show (mkE t).key = .int .u16 t.1.1 from rfl, show (mkE t).val = .bool t.2.1 from rfl, show (mkE t).born = t.2.2 from rfl, kyN, put_seen]
    refine qn_ok (Go.Ev.Reach.seq (Go.Ev.Reach.seg (SC_ok r) TOk.nil (tm := .nil) (L := 1) (L' := 1) (d := 1) hF hro ?_))
    rw [kyC]
    simp only [cond_true]
    have ht : t ∈ q := hp'.mem_iff.1 (by simp)
    have hi : (AKn e z clock q (bornK vis ++ [t.2.2]) vis).heap.get 5 = some (.miter 1 clock (bornK vis ++ [t.2.2]) clock) := by cases vis <;> rfl
    have hm : (AKn e z clock q (bornK vis ++ [t.2.2]) vis).heap.get 1 = some (.map (q.map mkE) clock) := by cases vis <;> rfl
    refine qn_ok (Go.Ev.Reach.block ?_)
    rw [show ic (rc (rc (ic (ic (rc cKs))))) = Code.seq (lc (ic (rc (rc (ic (ic (rc cKs))))))) (rc (ic (rc (rc (ic (ic (rc cKs))))))) from by kernel_rfl]
    refine Go.Ev.Reach.seq (Go.Ev.Reach.entryP (SC_ok r) hF TOk.nil (tm := .nil) (L := 0) (d := 0) 0 (s1 := []) (b1 := TK) (ms1 := []) (A1 := AKn e z clock q (bornK vis ++ [t.2.2]) vis) (i := 5) ?_ (by kernel_rfl) hi hm (by simp) (find_ok hq ht) ?_)
    · exact (kyQ ..).trans (qn_ok rfl)
    rw [show (mkE t).key = .int .u16 t.1.1 from rfl, show (mkE t).val = .bool t.2.1 from rfl, kyE]
    refine qn_ok (Go.Ev.Reach.seg (SC_ok r) TOk.nil (tm := .nil) (L := 1) (L' := 1) (d := 1) hF hro ?_)
    cases vis with
    | nil =>
      refine (kyY ..).trans (qn_ok ⟨rest'.length, hlt, _, ?_, [t], rest', rfl, hp', rfl⟩)
      show Ren _ _ _ _ _ _ ⟨⟨[], TK⟩, [], AKg e z clock (q.map mkE) 7 (.slice (some ⟨6, 0, none⟩) 1 unk) (miT clock [t.2.2]) (rwT 6 [.int .u16 t.1.1])⟩
      refine Ren.of (fun i => bif Nat.beq i 6 then 7 else i) 5 rfl h0 (Nat.le_of_ble_eq_true rfl) (fun i hi => by have : Nat.beq i 6 = false := natFK (by omega); rw [this]; rfl) ?_ rfl ?_ trivial
      · simp only [Tr.All, TK]
        repeat' (first | exact trivial | apply And.intro)
        all_goals exact ⟨_, rfl, rfl⟩
      · simp only [Tr.All, AKg, miT, rwT]
        repeat' (first | exact trivial | apply And.intro)
        all_goals first | rfl | exact .head _ | exact ⟨_, rfl, .defd⟩ | exact ⟨_, rfl, .map (ksG q)⟩ | exact ⟨_, rfl, .miter rfl rfl⟩ | exact ⟨_, rfl, .cells rfl⟩ | exact ⟨_, rfl, .plain (by intro v hv; rw [List.mem_singleton.1 hv]; rfl)⟩ | skip
        refine ⟨_, rfl, .same ?_ ?_ rfl rfl⟩
        · simp only [Tr.All, TQ]
          repeat' (first | exact trivial | apply And.intro)
          all_goals rfl
        · simp only [scrFix]
          repeat' (first | exact trivial | apply And.intro)
          all_goals rfl
    | cons t0 l =>
      have hlen : (t0 :: l).length + 1 ≤ q.length := by
        have := hp'.length_eq
        simp only [List.length_append, List.length_cons, List.length_nil] at this ⊢
        omega
      have hfew := hq.few
      have g1 : Nat.ble (Nat.add (t0 :: l).length 1) 1000000 = true := Nat.ble_eq_true_of_le (by simp only [Nat.add_eq]; omega)
      have g2 : takeAt (rowK (t0 :: l)) 0 (Nat.mul (t0 :: l).length 1) = some (rowK (t0 :: l)) := takeAt_fullK _ _ (by rw [rowK_len]; simp)
      refine (kyZ ..).trans ?_
      rw [g1, g2]
      simp only [cond_true]
      refine qn_ok ⟨rest'.length, hlt, _, ?_, (t0 :: l) ++ [t], rest', rfl, hp', rfl⟩
      show Ren _ _ _ _ _ _ ⟨⟨[], TK⟩, [], AKg e z clock (q.map mkE) 7 (.slice (some ⟨6, 0, none⟩) ((t0 :: l) ++ [t]).length unk) (miT clock (bornK ((t0 :: l) ++ [t]))) (rwT 6 (rowK ((t0 :: l) ++ [t])))⟩
      have e1 : ((t0 :: l) ++ [t]).length = Nat.add (t0 :: l).length 1 := by simp
      have e2 : bornK ((t0 :: l) ++ [t]) = bornK (t0 :: l) ++ [t.2.2] := by simp [bornK]
      have e3 : rowK ((t0 :: l) ++ [t]) = rowK (t0 :: l) ++ [.int .u16 t.1.1] := by simp [rowK]
      rw [e1, e2, e3]
      refine Ren.of (fun i => bif Nat.beq i 6 then 8 else i) 5 rfl h0 (Nat.le_of_ble_eq_true rfl) (fun i hi => by have : Nat.beq i 6 = false := natFK (by omega); rw [this]; rfl) ?_ rfl ?_ trivial
      · simp only [Tr.All, TK]
        repeat' (first | exact trivial | apply And.intro)
        all_goals exact ⟨_, rfl, rfl⟩
      · simp only [Tr.All, AKg, miT, rwT]
        repeat' (first | exact trivial | apply And.intro)
        all_goals first | rfl | exact .head _ | exact ⟨_, rfl, .defd⟩ | exact ⟨_, rfl, .map (ksG q)⟩ | exact ⟨_, rfl, .miter rfl rfl⟩ | exact ⟨_, rfl, .cells rfl⟩ | exact ⟨_, rfl, .plain (by exact e3 ▸ rowK_gnd ((t0 :: l) ++ [t]))⟩ | skip
        refine ⟨_, rfl, .same ?_ ?_ rfl rfl⟩
        · simp only [Tr.All, TQ]
          repeat' (first | exact trivial | apply And.intro)
          all_goals rfl
        · simp only [scrFix]
          repeat' (first | exact trivial | apply And.intro)
          all_goals rfl

/-- The walk over the keys, called by the loop that collects them. -/
theorem keys_S (hq : KOk q clock) : SOk (SC r) 56 yK (AKg e z clock (q.map mkE) 5 (.slice none 0 0) .nil .nil) fun v A' => v = .tuple ⟨[]⟩ ∧ ∃ vis, vis.Perm q ∧ A' = AKf e z clock q vis := by
  obtain ⟨fn, h1, h2, h3, h4⟩ := fn_of (C := SC r) (f := 56) (by kernel_rfl)
  have hn : fn.ntmps = 14 := h3.trans (by kernel_rfl)
  have hr : fn.results.toList = [] := h4.trans (by kernel_rfl)
  rw [bodySC] at h2
  refine call_reachS (SC_ok r) h1 h2 43 (by rw [hn]; rfl) fun γ W F k hw hF hro => ?_
  rw [hn, hr]
  have h0 : ∀ i, 5 ≤ i → γ i = none := hw.fresh
  show Go.Ev.Reach (SC r) 43 14 F k γ W cKs _ _
  rw [show cKs = Code.seq (lc cKs) (.block 0 (.loop (ic (ic (rc cKs))))) from by kernel_rfl]
  refine Go.Ev.Reach.seq (Go.Ev.Reach.seg (SC_ok r) TOk.nil (tm := .nil) (L := 1) (L' := 1) (d := 1) hF hro ((kyB ..).trans (qn_ok ?_)))
  refine Go.Ev.Reach.pre (ren_start h0 _) ?_
  refine Go.Ev.Reach.block ?_
  refine Go.Ev.Reach.loop (I := fun j st => ∃ st1, Ren (SC r) 43 14 γ W st st1 ∧ KeySt e z clock q j st1) (fun j st ⟨st1, hr, hs⟩ => Go.Ev.Reach.pre hr (Go.Ev.Reach.mono (key_body hq h0 hF hro hs) fun ex st' h => ?_)) ⟨_, Ren.refl _, [], q, rfl, by simp, rfl⟩
  cases ex with
  | normal => exact h
  | exit id =>
    obtain ⟨rfl, vis, hv, st2, hr2, rfl⟩ := h
    exact ⟨.inl rfl, _, _, _, hr2, rfl, rfl, vis, hv, rfl⟩
  | _ => exact h.elim

end

end Go.Proofs

/- slices.AppendSeq and Collect over maps.Keys: one row, the keys in any order. -/
namespace Go.Proofs
open Go Go.Ev
set_option linter.unusedVariables false
set_option linter.unusedSimpArgs false

def TQ0 : Tr Value := .node (.node .nil (some seqV) .nil) (some (.slice none 0 0)) .nil
/-- Behind it: the row. -/
def AR (e z clock : Nat) (es : List MapEntry) (l : List Value) : AW := ⟨4, .node (.node (.node .nil none .nil) (some (.map es clock)) .nil) (some (.cells [.map (some 1)] e 0 z)) (.node .nil (some (.cells l 43 2 1)) .nil), .nil⟩
noncomputable def AR3 (e z clock : Nat) (es : List MapEntry) (l : List Value) : AW := ⟨4, .node (.node (.node .nil (some .defd) .nil) (some (.map es clock)) .nil) (some (.cells [.map (some 1)] e 0 z)) (.node .nil (some (.cells l 43 2 1)) .nil), .nil⟩
noncomputable def AKh (e z clock : Nat) (es : List MapEntry) (n : Nat) (sv : Value) (s5 : Tr AObj) : AW :=
  ⟨n, .node (.node (.node .nil (some .defd) .nil) (some (.map es clock)) s5) (some (.cells [.map (some 1)] e 0 z)) (.node (.node .nil (some (.loop .exhausted none 183 ⟨[(6, seqV)], TQ⟩ 13 ⟨[7]⟩ k_aqA k_aqB 3)) .nil) (some (.cells [sv] 66 2 0)) .nil), .nil⟩
def TQ4 (sv : Value) : Tr Value := .node .nil none (.node (.node .nil (some sv) .nil) none .nil)

def TC0 (v : Value) : Tr Value := .node .nil (some seqV) (.node .nil (some v) .nil)

theorem kcA (r : Mem) (L : Nat) (fs : FnsC) (e z clock : Nat) (es : List MapEntry) (kn : KS) (kx : Nat → KS) (kr : KS) (ms : List Nat) : run (SC r) 183 13 L (lc cAq) fs none kn kx kr (sc0 183 [.slice none 0 0, seqV]) (tr0 183 [.slice none 0 0, seqV]) ms (AK0 e z clock es) =
    kn [] (Tr.node (Tr.node Tr.nil (some (Value.func (Fn.func 56) (Array.mk []) (Array.mk [Value.pointer (some (Addr.mk 0 0 none))]))) Tr.nil) (some (Value.slice none 0 0)) (Tr.node (Tr.node Tr.nil (some (Value.slice none 0 0)) Tr.nil) (some (Value.pointer (some (Addr.mk 2 0 none)))) Tr.nil)) ms (AW.mk 3 (Tr.node (Tr.node Tr.nil (some (AObj.map es clock)) Tr.nil) (some (AObj.cells [Value.map (some 1)] e 0 z)) (Tr.node Tr.nil (some (AObj.cells [Value.slice none 0 0] 66 2 0)) Tr.nil)) Tr.nil) := by kernel_rfl

theorem kcB (r : Mem) (L : Nat) (fs : FnsC) (s : List (Nat × Value)) (kn : KS) (kx : Nat → KS) (kr : KS) (ms : List Nat) (A : AW) : run (SC r) 183 13 L (lc (lc (rc cAq))) fs none kn kx kr s TQ ms A =
    kn [(6, Value.func (Fn.func 56) (Array.mk []) (Array.mk [Value.pointer (some (Addr.mk 0 0 none))]))] (Tr.node (Tr.node Tr.nil (some (Value.func (Fn.func 56) (Array.mk []) (Array.mk [Value.pointer (some (Addr.mk 0 0 none))]))) Tr.nil) (some (Value.slice none 0 0)) (Tr.node (Tr.node Tr.nil (some (Value.slice none 0 0)) Tr.nil) (some (Value.pointer (some (Addr.mk 2 0 none)))) Tr.nil)) ms A := by kernel_rfl

theorem kcC (r : Mem) (L : Nat) (fs : FnsC) (e z clock : Nat) (es : List MapEntry) (n : Nat) (l : List Value) (kn : KS) (kx : Nat → KS) (kr : KS) : run (SC r) 183 13 L (rc (rc cAq)) fs none kn kx kr [(6, seqV)] TQ [3] (AKh e z clock es 6 (.slice (some ⟨5, 0, none⟩) n unk) (rwT 5 l)) =
    kr [(12, Value.slice (some (Addr.mk 5 0 none)) n 9223372036854775808)] (Tr.node (Tr.node Tr.nil (some (Value.func (Fn.func 56) (Array.mk []) (Array.mk [Value.pointer (some (Addr.mk 0 0 none))]))) Tr.nil) (some (Value.slice none 0 0)) (Tr.node (Tr.node Tr.nil (some (Value.slice (some (Addr.mk 5 0 none)) n 9223372036854775808)) Tr.nil) (some (Value.pointer (some (Addr.mk 2 0 none)))) Tr.nil)) [3] (AW.mk 6 (Tr.node (Tr.node (Tr.node Tr.nil (some AObj.defd) Tr.nil) (some (AObj.map es clock)) (Tr.node Tr.nil (some (AObj.cells l 43 5 1)) Tr.nil)) (some (AObj.cells [Value.map (some 1)] e 0 z)) (Tr.node (Tr.node Tr.nil (some (AObj.loop LoopState.exhausted none 183 (En.mk [(6, Value.func (Fn.func 56) (Array.mk []) (Array.mk [Value.pointer (some (Addr.mk 0 0 none))]))] (Tr.node (Tr.node Tr.nil (some (Value.func (Fn.func 56) (Array.mk []) (Array.mk [Value.pointer (some (Addr.mk 0 0 none))]))) Tr.nil) (some (Value.slice none 0 0)) (Tr.node (Tr.node Tr.nil (some (Value.slice none 0 0)) Tr.nil) (some (Value.pointer (some (Addr.mk 2 0 none)))) Tr.nil))) 13 (Array.mk [7]) k_aqA k_aqB 3)) Tr.nil) (some (AObj.cells [Value.slice (some (Addr.mk 5 0 none)) n 9223372036854775808] 66 2 0)) Tr.nil)) Tr.nil) := by kernel_rfl

theorem kcF (r : Mem) (e z clock : Nat) (es : List MapEntry) (n : Nat) (l : List Value) (k : KV) : finK (SC r) 183 (resOf (SC r) 66) k [] (TQ4 (.slice (some ⟨2, 0, none⟩) n unk)) [3] (AR3 e z clock es l) =
    k (Value.slice (some (Addr.mk 2 0 none)) n 9223372036854775808) (AW.mk 4 (Tr.node (Tr.node (Tr.node Tr.nil none Tr.nil) (some (AObj.map es clock)) Tr.nil) (some (AObj.cells [Value.map (some 1)] e 0 z)) (Tr.node Tr.nil (some (AObj.cells l 43 2 1)) Tr.nil)) Tr.nil) := by kernel_rfl

theorem kcG (r : Mem) (L : Nat) (fs : FnsC) (kn : KS) (kx : Nat → KS) (kr : KS) (ms : List Nat) (A : AW) : run (SC r) 5 5 L (lc cCo) fs none kn kx kr (sc0 5 [seqV]) (tr0 5 [seqV]) ms A =
    kn [] (Tr.node Tr.nil (some (Value.func (Fn.func 56) (Array.mk []) (Array.mk [Value.pointer (some (Addr.mk 0 0 none))]))) (Tr.node Tr.nil (some (Value.slice none 0 0)) Tr.nil)) ms A := by kernel_rfl

theorem kcH (r : Mem) (fs : FnsC) (kn : KS) (ms : List Nat) (A : AW) : preK (SC r) 5 5 (lc (rc cCo)) 1 fs kn [] (TC0 (.slice none 0 0)) ms A =
    kn [(3, Value.func (Fn.func 56) (Array.mk []) (Array.mk [Value.pointer (some (Addr.mk 0 0 none))]))] (Tr.node Tr.nil (some (Value.func (Fn.func 56) (Array.mk []) (Array.mk [Value.pointer (some (Addr.mk 0 0 none))]))) (Tr.node Tr.nil (some (Value.slice none 0 0)) Tr.nil)) ms A := by kernel_rfl

theorem kcI (r : Mem) (fs : FnsC) (n : Nat) (kn : KS) (ms : List Nat) (A : AW) : tailK (SC r) 5 5 (lc (rc cCo)) 1 fs kn (.slice (some ⟨2, 0, none⟩) n unk) [(3, seqV)] (TC0 (.slice none 0 0)) ms A =
    kn [(4, Value.slice (some (Addr.mk 2 0 none)) n 9223372036854775808), (3, Value.func (Fn.func 56) (Array.mk []) (Array.mk [Value.pointer (some (Addr.mk 0 0 none))]))] (Tr.node Tr.nil (some (Value.func (Fn.func 56) (Array.mk []) (Array.mk [Value.pointer (some (Addr.mk 0 0 none))]))) (Tr.node Tr.nil (some (Value.slice (some (Addr.mk 2 0 none)) n 9223372036854775808)) Tr.nil)) ms A := by kernel_rfl

theorem kcK (r : Mem) (L : Nat) (fs : FnsC) (s : List (Nat × Value)) (n : Nat) (kn : KS) (kx : Nat → KS) (kr : KS) (ms : List Nat) (A : AW) : run (SC r) 5 5 L (rc (rc cCo)) fs none kn kx kr s (TC0 (.slice (some ⟨2, 0, none⟩) n unk)) ms A =
    kr s (Tr.node Tr.nil (some (Value.func (Fn.func 56) (Array.mk []) (Array.mk [Value.pointer (some (Addr.mk 0 0 none))]))) (Tr.node Tr.nil (some (Value.slice (some (Addr.mk 2 0 none)) n 9223372036854775808)) Tr.nil)) ms A := by kernel_rfl

theorem kcL (r : Mem) (s : List (Nat × Value)) (n : Nat) (k : KV) (A : AW) : finK (SC r) 5 (resOf (SC r) 54) k s (TC0 (.slice (some ⟨2, 0, none⟩) n unk)) [] A =
    k (Value.slice (some (Addr.mk 2 0 none)) n 9223372036854775808) A := by kernel_rfl

theorem kcJ (r : Mem) (A : AW) : callAt (SC r) 5 (lc (rc cCo)) 1 ⟨[(3, seqV)], TC0 (.slice none 0 0)⟩ A = some (66, [.slice none 0 0, seqV], A) := by kernel_rfl

section
variable {r : Mem} {γ0 : Gam} {W0 : World} {e z clock : Nat} {q : List KT}


/-- slices.AppendSeq, of a nil slice: the row of the keys. -/
theorem append_S (hq : KOk q clock) (hne : q ≠ []) : SOk (SC r) 66 [.slice none 0 0, seqV] (AK0 e z clock (q.map mkE)) fun v A' => ∃ vis, vis.Perm q ∧ v = .slice (some ⟨2, 0, none⟩) vis.length unk ∧ A' = AR e z clock (q.map mkE) (rowK vis) := by
  obtain ⟨fn, h1, h2, h3, h4⟩ := fn_of (C := SC r) (f := 66) (by kernel_rfl)
  have hn : fn.ntmps = 13 := h3.trans (by kernel_rfl)
  rw [bodySC] at h2
  refine call_reachS (SC_ok r) h1 h2 183 (by rw [hn]; rfl) fun γ W F k hw hF hro => ?_
  rw [hn, h4]
  have h0 : ∀ i, 2 ≤ i → γ i = none := hw.fresh
  show Go.Ev.Reach (SC r) 183 13 F k γ W cAq _ _
  obtain ⟨fo, ps, hrf⟩ : ∃ fo ps, cAq = Code.seq (lc cAq) (.seq (.seq (lc (lc (rc cAq))) (.block 0 (.rangeFunc fo ps k_aqA k_aqB))) (rc (rc cAq))) ∧ ps = ⟨[7]⟩ ∧ fo = .tmp 6 := ⟨.tmp 6, ⟨[7]⟩, by kernel_rfl, rfl, rfl⟩
  obtain ⟨hrf, rfl, rfl⟩ := hrf
  rw [hrf]
  refine Go.Ev.Reach.seq (Go.Ev.Reach.seg (SC_ok r) TOk.nil (tm := .nil) (L := 1) (L' := 1) (d := 1) hF hro ((kcA ..).trans (qn_ok ?_)))
  refine Go.Ev.Reach.seq (Go.Ev.Reach.seq (Go.Ev.Reach.seg (SC_ok r) TOk.nil (tm := .nil) (L := 1) (L' := 1) (d := 1) hF hro ((kcB r 1 _ [] _ _ _ [] _).trans (qn_ok ?_))))
  have eA : (((⟨3, .node (.node .nil (some (.map (q.map mkE) clock)) .nil) (some (.cells [.map (some 1)] e 0 z)) (.node .nil (some (.cells [.slice none 0 0] 66 2 0)) .nil), .nil⟩ : AW).new .defd).new (.loop .ready none 183 ⟨[(6, seqV)], TQ⟩ 13 ⟨[7]⟩ k_aqA k_aqB 3)) = AKg e z clock (q.map mkE) 5 (.slice none 0 0) .nil .nil := by kernel_rfl
  have hkey := keys_S (r := r) (e := e) (z := z) hq
  rw [← eA] at hkey
  refine Go.Ev.Reach.block (Go.Ev.Reach.rangeS (SC_ok r) hF hro (g := 56) (first := []) (captured := [.pointer (some ⟨0, 0, none⟩)]) rfl (by kernel_rfl) hkey fun v A' ⟨_, vis, hv, hA⟩ => ?_)
  subst hA
  cases vis with
  | nil => exact absurd hv.nil_eq.symm hne
  | cons t l =>
    refine ⟨⟨⟨[(6, seqV)], TQ⟩, [3], AKh e z clock (q.map mkE) 6 (.slice (some ⟨5, 0, none⟩) (t :: l).length unk) (rwT 5 (rowK (t :: l)))⟩, by kernel_rfl, ?_⟩
    refine Go.Ev.Reach.seg (SC_ok r) TOk.nil (tm := .nil) (L := 1) (L' := 1) (d := 1) hF hro ((kcC ..).trans (qn_ok ⟨.inr rfl, ⟨⟨[], TQ4 (.slice (some ⟨2, 0, none⟩) (t :: l).length unk)⟩, [3], AR3 e z clock (q.map mkE) (rowK (t :: l))⟩, _, _, ?_, ?_, t :: l, hv, rfl, rfl⟩))
    ·
      refine Ren.of (fun i => bif Nat.beq i 2 then 5 else i) 2 rfl h0 (Nat.le_of_ble_eq_true rfl) (fun i hi => by have : Nat.beq i 2 = false := natFK (by omega); rw [this]; rfl) ?_ rfl ?_ trivial
      · simp only [Tr.All, TQ4]
        repeat' (first | exact trivial | apply And.intro)
        all_goals exact ⟨_, rfl, rfl⟩
      · simp only [Tr.All, AR3]
        repeat' (first | exact trivial | apply And.intro)
        all_goals first | rfl | exact .head _ | exact ⟨_, rfl, .defd⟩ | exact ⟨_, rfl, .map (ksG q)⟩ | exact ⟨_, rfl, .cells rfl⟩ | exact ⟨_, rfl, .plain (by exact rowK_gnd (t :: l))⟩
    · rw [← finK_finish]
      exact kcF ..

/-- slices.Collect: the same. -/
theorem collect_S (hq : KOk q clock) (hne : q ≠ []) : SOk (SC r) 54 [seqV] (AK0 e z clock (q.map mkE)) fun v A' => ∃ vis, vis.Perm q ∧ v = .slice (some ⟨2, 0, none⟩) vis.length unk ∧ A' = AR e z clock (q.map mkE) (rowK vis) := by
  obtain ⟨fn, h1, h2, h3, h4⟩ := fn_of (C := SC r) (f := 54) (by kernel_rfl)
  have hn : fn.ntmps = 5 := h3.trans (by kernel_rfl)
  rw [bodySC] at h2
  refine call_reachS (SC_ok r) h1 h2 5 (by rw [hn]; rfl) fun γ W F k hw hF hro => ?_
  rw [hn, h4]
  show Go.Ev.Reach (SC r) 5 5 F k γ W cCo _ _
  rw [show cCo = Code.seq (lc cCo) (.seq (lc (rc cCo)) (rc (rc cCo))) from by kernel_rfl]
  refine Go.Ev.Reach.seq (Go.Ev.Reach.seg (SC_ok r) TOk.nil (tm := .nil) (L := 1) (L' := 1) (d := 1) hF hro ((kcG ..).trans (qn_ok ?_)))
  refine Go.Ev.Reach.seq (Go.Ev.Reach.callP (SC_ok r) hF TOk.nil (tm := .nil) (L := 0) (d := 0) 1 ((kcH ..).trans (qn_ok rfl)) (kcJ ..) (append_S (e := e) (z := z) hq hne) fun v A' ⟨vis, hv, h1, h2⟩ => ?_)
  subst h1 h2
  refine (kcI ..).trans (qn_ok (Go.Ev.Reach.seg (SC_ok r) TOk.nil (tm := .nil) (L := 1) (L' := 1) (d := 1) hF hro ((kcK ..).trans (qn_ok ⟨.inr rfl, _, _, _, Ren.refl _, ?_, vis, hv, rfl, rfl⟩))))
  rw [← finK_finish]
  exact kcL ..

end

end Go.Proofs

/- slices.SortedFunc over maps.Keys, run around the sort. -/
namespace Go.Proofs
open Go Go.Ev
set_option linter.unusedVariables false
set_option linter.unusedSimpArgs false

noncomputable def cSf : Code := bodyOf S0 38
abbrev cmpV : Value := .func (.func 40) ⟨[]⟩ ⟨[]⟩
abbrev slV (n : Nat) : Value := .slice (some ⟨2, 0, none⟩) n unk
def TS0 : Tr Value := .node (.node .nil (some cmpV) .nil) (some seqV) (.node (.node .nil (some (.slice none 0 0)) .nil) none .nil)
def TS1 (n : Nat) : Tr Value := .node (.node .nil (some cmpV) (.node .nil (some (slV n)) .nil)) (some seqV) (.node (.node .nil (some (.slice none 0 0)) .nil) none .nil)
def TS2 (n : Nat) : Tr Value := .node (.node .nil (some cmpV) (.node .nil (some (slV n)) .nil)) (some seqV) (.node (.node .nil (some (slV n)) .nil) none .nil)
noncomputable def tSo (n : Nat) (A0 A1 : AW) : Tbl := tcons 55 (entAt [slV n, cmpV] A0 (.tuple ⟨[]⟩) A1) fun _ => none

theorem kdA (r : Mem) (L : Nat) (fs : FnsC) (kn : KS) (kx : Nat → KS) (kr : KS) (ms : List Nat) (A : AW) : run (SC r) 51 12 L (lc cSf) fs none kn kx kr (sc0 51 [seqV, cmpV]) (tr0 51 [seqV, cmpV]) ms A =
    kn [] (Tr.node (Tr.node Tr.nil (some (Value.func (Fn.func 40) (Array.mk []) (Array.mk []))) Tr.nil) (some (Value.func (Fn.func 56) (Array.mk []) (Array.mk [Value.pointer (some (Addr.mk 0 0 none))]))) (Tr.node (Tr.node Tr.nil (some (Value.slice none 0 0)) Tr.nil) none Tr.nil)) ms A := by kernel_rfl

theorem kdB (r : Mem) (fs : FnsC) (kn : KS) (ms : List Nat) (A : AW) : preK (SC r) 51 12 (lc (rc cSf)) 1 fs kn [] TS0 ms A =
    kn [(6, Value.func (Fn.func 56) (Array.mk []) (Array.mk [Value.pointer (some (Addr.mk 0 0 none))]))] (Tr.node (Tr.node Tr.nil (some (Value.func (Fn.func 40) (Array.mk []) (Array.mk []))) Tr.nil) (some (Value.func (Fn.func 56) (Array.mk []) (Array.mk [Value.pointer (some (Addr.mk 0 0 none))]))) (Tr.node (Tr.node Tr.nil (some (Value.slice none 0 0)) Tr.nil) none Tr.nil)) ms A := by kernel_rfl

theorem kdC (r : Mem) (fs : FnsC) (n : Nat) (kn : KS) (ms : List Nat) (A : AW) : tailK (SC r) 51 12 (lc (rc cSf)) 1 fs kn (slV n) [(6, seqV)] TS0 ms A =
    kn [(7, Value.slice (some (Addr.mk 2 0 none)) n 9223372036854775808), (6, Value.func (Fn.func 56) (Array.mk []) (Array.mk [Value.pointer (some (Addr.mk 0 0 none))]))] (Tr.node (Tr.node Tr.nil (some (Value.func (Fn.func 40) (Array.mk []) (Array.mk []))) (Tr.node Tr.nil (some (Value.slice (some (Addr.mk 2 0 none)) n 9223372036854775808)) Tr.nil)) (some (Value.func (Fn.func 56) (Array.mk []) (Array.mk [Value.pointer (some (Addr.mk 0 0 none))]))) (Tr.node (Tr.node Tr.nil (some (Value.slice none 0 0)) Tr.nil) none Tr.nil)) ms A := by kernel_rfl

theorem kdD (r : Mem) (L : Nat) (e z clock : Nat) (es : List MapEntry) (l l' : List Value) (n : Nat) (s : List (Nat × Value)) (kn : KS) (kx : Nat → KS) (kr : KS) (ms : List Nat) : run (SC r) 51 12 L (rc (rc cSf)) (lvlT (SC r) (tSo n (AR e z clock es l) (AR e z clock es l')) .nil 1 1) none kn kx kr s (TS1 n) ms (AR e z clock es l) =
    bif m_at [Value.slice (some (Addr.mk 2 0 none)) n 9223372036854775808, Value.func (Fn.func 40) (Array.mk []) (Array.mk [])] [Value.slice (some (Addr.mk 2 0 none)) n 9223372036854775808, Value.func (Fn.func 40) (Array.mk []) (Array.mk [])] (AW.mk 4 (Tr.node (Tr.node (Tr.node Tr.nil none Tr.nil) (some (AObj.map es clock)) Tr.nil) (some (AObj.cells [Value.map (some 1)] e 0 z)) (Tr.node Tr.nil (some (AObj.cells l 43 2 1)) Tr.nil)) Tr.nil) (AW.mk 4 (Tr.node (Tr.node (Tr.node Tr.nil none Tr.nil) (some (AObj.map es clock)) Tr.nil) (some (AObj.cells [Value.map (some 1)] e 0 z)) (Tr.node Tr.nil (some (AObj.cells l 43 2 1)) Tr.nil)) Tr.nil) then kr [(11, Value.slice (some (Addr.mk 2 0 none)) n 9223372036854775808)] (Tr.node (Tr.node Tr.nil (some (Value.func (Fn.func 40) (Array.mk []) (Array.mk []))) (Tr.node Tr.nil (some (Value.slice (some (Addr.mk 2 0 none)) n 9223372036854775808)) Tr.nil)) (some (Value.func (Fn.func 56) (Array.mk []) (Array.mk [Value.pointer (some (Addr.mk 0 0 none))]))) (Tr.node (Tr.node Tr.nil (some (Value.slice (some (Addr.mk 2 0 none)) n 9223372036854775808)) Tr.nil) none Tr.nil)) ms (AW.mk 4 (Tr.node (Tr.node (Tr.node Tr.nil none Tr.nil) (some (AObj.map es clock)) Tr.nil) (some (AObj.cells [Value.map (some 1)] e 0 z)) (Tr.node Tr.nil (some (AObj.cells l' 43 2 1)) Tr.nil)) Tr.nil) else CR.fail 420 := by kernel_rfl

theorem kdE (r : Mem) (s : List (Nat × Value)) (n : Nat) (k : KV) (A : AW) : finK (SC r) 51 (resOf (SC r) 38) k s (TS2 n) [] A =
    k (Value.slice (some (Addr.mk 2 0 none)) n 9223372036854775808) A := by kernel_rfl

theorem kdJ (r : Mem) (A : AW) : callAt (SC r) 51 (lc (rc cSf)) 1 ⟨[(6, seqV)], TS0⟩ A = some (54, [seqV], A) := by kernel_rfl

end Go.Proofs

/- The order of the sets: by their size, then as numbers. -/
namespace Go.Proofs
open Go Go.Ev
set_option linter.unusedVariables false
set_option linter.unusedSimpArgs false

def ones : Nat → Nat → Nat
  | 0, _ => 0
  | n + 1, x => x % 2 + ones n (x / 2)
def popTab : List UInt8 := (List.range 256).map fun i => UInt8.ofNat (ones 8 i)
def m_sz (x : Int) : Int := Int.ofNat (ones 8 (x.toNat / 256) + ones 8 (x.toNat % 256))
def m_cp (x y : Int) : Int := bif decide (x < y) then -1 else bif decide (x > y) then 1 else 0
/-- What the sets are sorted by. -/
def m_cf (x y : Int) : Int := bif m_cp (m_sz x) (m_sz y) != 0 then m_cp (m_sz x) (m_sz y) else m_cp x y

def in16 (x : Int) : Bool := decide (0 ≤ x) && decide (x < 65536)
def eSz : Ent := ent (fun args _ => match args with | [.int .u16 x] => in16 x | _ => false) (fun args _ => match args with | [.int .u16 x] => I (m_sz x) | _ => undef)
def eC16 : Ent := ent (fun args _ => match args with | [.int .u16 _, .int .u16 _] => true | _ => false) (fun args _ => match args with | [.int .u16 x, .int .u16 y] => I (m_cp x y) | _ => undef)
def tCf : Tbl := tcons 43 eSz (tcons 44 eC16 (tcons 42 (eI2 (fun _ _ => true) fun x y => I (m_cp x y)) fun _ => none))

theorem pop_get : ∀ i : Fin 256, popTab[i.val]? = some (UInt8.ofNat (ones 8 i.val)) := by decide +kernel
theorem ones_lt : ∀ i : Fin 256, ones 8 i.val ≤ 8 := by decide +kernel

theorem keS (r : Mem) (x : Int) : (lvlT (SC r) (fun _ => none) .nil 2 3).call 43 [.int .u16 x] emptyA fin =
    bif decide (0 ≤ Int.fdiv x (Int.ofNat 256)) then Option.casesOn popTab[Int.toNat (Int.fdiv x (Int.ofNat 256))]? (CR.fail 429) fun val => Option.casesOn popTab[Int.toNat (ibits BinOp.and IntKind.u16 x (Int.ofNat 255))]? (CR.fail 429) fun val_1 => CR.ret (Value.int IntKind.i64 (IntKind.wrap IntKind.i64 (IntKind.wrap IntKind.u8 (Int.ofNat (UInt8.toNat val) + Int.ofNat (UInt8.toNat val_1))))) (AW.mk 0 Tr.nil Tr.nil) else CR.fail 420 := by kernel_rfl

theorem and255 (n : Nat) (h : n < 65536) : ibits BinOp.and IntKind.u16 (n : Int) (Int.ofNat 255) = ((n % 256 : Nat) : Int) := by
  have e : (BitVec.ofInt 16 (n : Int) &&& BitVec.ofInt 16 (Int.ofNat 255)).toNat = n % 256 := by
    rw [BitVec.toNat_and, BitVec.ofInt_natCast, BitVec.toNat_ofNat, Nat.mod_eq_of_lt (by omega)]
    exact Nat.and_two_pow_sub_one_eq_mod n 8
  show IntKind.wrap .u16 ((BitVec.ofInt 16 (n : Int) &&& BitVec.ofInt 16 (Int.ofNat 255)).toNat : Int) = _
  rw [e]
  have : n % 256 < 256 := Nat.mod_lt _ (by omega)
  generalize n % 256 = m at this ⊢
  have : ∀ m : Fin 256, IntKind.wrap .u16 (m.val : Int) = (m.val : Int) := by decide +kernel
  exact this ⟨m, by omega⟩

theorem size_calls (r : Mem) (x : Int) (h0 : 0 ≤ x) (h1 : x < 65536) : GrT Tryd.prog r 43 [.int .u16 x] (I (m_sz x)) := by
  refine GrT.of (SC_ok r) TOk.nil .nil rfl ⟨2, 3, (keS r x).trans ?_⟩
  obtain ⟨n, rfl⟩ := Int.eq_ofNat_of_zero_le h0
  have hn : n < 65536 := by omega
  have e1 : Int.fdiv (n : Int) (Int.ofNat 256) = ((n / 256 : Nat) : Int) := by rw [Int.fdiv_eq_ediv_of_nonneg _ (by decide)]; rfl
  have hd : n / 256 < 256 := by omega
  have hm : n % 256 < 256 := Nat.mod_lt _ (by omega)
  rw [e1, and255 n hn, Int.toNat_natCast, Int.toNat_natCast, pop_get ⟨n / 256, hd⟩, pop_get ⟨n % 256, hm⟩]
  rw [show decide ((0 : Int) ≤ ((n / 256 : Nat) : Int)) = true from decide_eq_true (by omega)]
  simp only [cond_true]
  unfold m_sz
  rw [Int.toNat_natCast]
  have k1 := ones_lt ⟨n / 256, hd⟩
  have k2 := ones_lt ⟨n % 256, hm⟩
  simp only at k1 k2
  generalize ones 8 (n / 256) = a at k1 ⊢
  generalize ones 8 (n % 256) = b at k2 ⊢
  have key : ∀ a b : Fin 9, IntKind.wrap IntKind.i64 (IntKind.wrap IntKind.u8 (Int.ofNat (UInt8.toNat (UInt8.ofNat a.val)) + Int.ofNat (UInt8.toNat (UInt8.ofNat b.val)))) = Int.ofNat (a.val + b.val) := by decide +kernel
  rw [key ⟨a, by omega⟩ ⟨b, by omega⟩]
  rfl

theorem keC (r : Mem) (x y : Int) : (lvlT (SC r) (fun _ => none) .nil 2 3).call 42 [I x, I y] emptyA fin =
    bif x != x then bif y != y then CR.ret (Value.int IntKind.i64 (Int.ofNat 0)) (AW.mk 0 Tr.nil Tr.nil) else CR.ret (Value.int IntKind.i64 (Int.negSucc 0)) (AW.mk 0 Tr.nil Tr.nil) else bif y != y then CR.ret (Value.int IntKind.i64 (Int.ofNat 1)) (AW.mk 0 Tr.nil Tr.nil) else bif decide (x < y) then CR.ret (Value.int IntKind.i64 (Int.negSucc 0)) (AW.mk 0 Tr.nil Tr.nil) else bif decide (x > y) then CR.ret (Value.int IntKind.i64 (Int.ofNat 1)) (AW.mk 0 Tr.nil Tr.nil) else CR.ret (Value.int IntKind.i64 (Int.ofNat 0)) (AW.mk 0 Tr.nil Tr.nil) := by kernel_rfl

theorem keD (r : Mem) (x y : Int) : (lvlT (SC r) (fun _ => none) .nil 2 3).call 44 [.int .u16 x, .int .u16 y] emptyA fin =
    bif x != x then bif y != y then CR.ret (Value.int IntKind.i64 (Int.ofNat 0)) (AW.mk 0 Tr.nil Tr.nil) else CR.ret (Value.int IntKind.i64 (Int.negSucc 0)) (AW.mk 0 Tr.nil Tr.nil) else bif y != y then CR.ret (Value.int IntKind.i64 (Int.ofNat 1)) (AW.mk 0 Tr.nil Tr.nil) else bif decide (x < y) then CR.ret (Value.int IntKind.i64 (Int.negSucc 0)) (AW.mk 0 Tr.nil Tr.nil) else bif decide (x > y) then CR.ret (Value.int IntKind.i64 (Int.ofNat 1)) (AW.mk 0 Tr.nil Tr.nil) else CR.ret (Value.int IntKind.i64 (Int.ofNat 0)) (AW.mk 0 Tr.nil Tr.nil) := by kernel_rfl

theorem cmp_calls (r : Mem) (x y : Int) : GrT Tryd.prog r 42 [I x, I y] (I (m_cp x y)) := by
  refine GrT.of (SC_ok r) TOk.nil .nil rfl ⟨2, 3, ?_⟩
  rw [keC]
  simp only [neF (show x = x from rfl), neF (show y = y from rfl), cond_false, m_cp]
  cases decide (x < y) <;> cases decide (x > y) <;> rfl
theorem cmp16_calls (r : Mem) (x y : Int) : GrT Tryd.prog r 44 [.int .u16 x, .int .u16 y] (I (m_cp x y)) := by
  refine GrT.of (SC_ok r) TOk.nil .nil rfl ⟨2, 3, ?_⟩
  rw [keD]
  simp only [neF (show x = x from rfl), neF (show y = y from rfl), cond_false, m_cp]
  cases decide (x < y) <;> cases decide (x > y) <;> rfl

theorem eSz_ok (r : Mem) : EOk (SC r) 43 eSz := EOk.ent fun args A hg => by
  split at hg
  · rename_i x
    simp only [in16, Bool.and_eq_true, decide_eq_true_eq] at hg
    exact (size_calls r x hg.1 hg.2).ro rfl A
  · cases hg
theorem eC16_ok (r : Mem) : EOk (SC r) 44 eC16 := EOk.ent fun args A hg => by
  split at hg
  · exact (cmp16_calls r _ _).ro rfl A
  · cases hg
theorem tCf_ok (r : Mem) : TOk (SC r) tCf := ((TOk.nil.cons (eI2_ok fun x y _ => cmp_calls r x y)).cons (eC16_ok r)).cons (eSz_ok r)

theorem keF (r : Mem) (x y : Int) : (lvlT (SC r) tCf .nil 4 3).call 40 [.int .u16 x, .int .u16 y] emptyA fin =
    bif decide (0 ≤ x) && decide (x < 65536) then bif decide (0 ≤ y) && decide (y < 65536) then bif m_cp (m_sz x) (m_sz y) != Int.ofNat 0 then CR.ret (Value.int IntKind.i64 (m_cp (m_sz x) (m_sz y))) (AW.mk 0 Tr.nil Tr.nil) else bif m_cp x y != Int.ofNat 0 then CR.ret (Value.int IntKind.i64 (m_cp x y)) (AW.mk 0 Tr.nil Tr.nil) else CR.ret (Value.int IntKind.i64 (Int.ofNat 0)) (AW.mk 0 Tr.nil Tr.nil) else CR.fail 420 else CR.fail 420 := by kernel_rfl

end Go.Proofs

/- From a small world of a box and a map to the caller's: one new row more. -/
namespace Go.Proofs
open Go Go.Ev
set_option linter.unusedVariables false
set_option linter.unusedSimpArgs false

def g2 (γ : Gam) (b m : Nat) : Gam := fun i => match i with | 0 => γ b | 1 => γ m | _ => none

theorem g2_cases {γ : Gam} {b m i : Nat} {g : GI} (h : g2 γ b m i = some g) : (i = 0 ∧ γ b = some g) ∨ (i = 1 ∧ γ m = some g) := by
  unfold g2 at h
  split at h
  · exact .inl ⟨rfl, h⟩
  · exact .inr ⟨rfl, h⟩
  · cases h

theorem ak0_get {e z clock : Nat} {es : List MapEntry} {i : Nat} {o : AObj} (h : (AK0 e z clock es).heap.get i = some o) : (i = 0 ∧ o = .cells [.map (some 1)] e 0 z) ∨ (i = 1 ∧ o = .map es clock) := by
  have : Tr.All (fun i o => (i = 0 ∧ o = AObj.cells [.map (some 1)] e 0 z) ∨ (i = 1 ∧ o = .map es clock)) (AK0 e z clock es).heap id := by
    exact ⟨.inl ⟨rfl, rfl⟩, ⟨.inr ⟨rfl, rfl⟩, trivial, trivial⟩, trivial⟩
  exact this.get h

theorem WRel.pair {γ : Gam} {A : AW} {W : World} (hw : WRel γ A W) {b m e f z clock : Nat} {es : List MapEntry} (hb : A.heap.get b = some (.cells [.map (some m)] e f z)) (hm : A.heap.get m = some (.map es clock))
    (hg : ∀ x ∈ es, gnd x.key = true ∧ gnd x.val = true) : WRel (g2 γ b m) (AK0 e z clock es) W := by
  obtain ⟨gb, hgb, hob⟩ := hw.obj _ _ hb
  obtain ⟨gm, hgm, hom⟩ := hw.obj _ _ hm
  refine ⟨fun i o hi => ?_, fun i g hi => ?_, fun i hi => ?_, fun i j o o' g g' hi hj hgi hgj hbb => ?_, fun i c e' fam sz hi => ?_, fun i c e' fam sz hi => ?_, fun f _ => rfl⟩
  · rcases ak0_get hi with ⟨rfl, rfl⟩ | ⟨rfl, rfl⟩
    · refine ⟨gb, hgb, ?_⟩
      cases hob with
      | cells h hf hn hz hc =>
        refine .cells h hf hn hz fun k v hk => ?_
        cases k with
        | zero =>
          cases hk
          obtain ⟨v', h1, h2⟩ := hc 0 _ rfl
          refine ⟨v', h1, ?_⟩
          cases h2 with
          | map hx => exact .map (show g2 γ b m 1 = _ from hx)
        | succ k => cases hk
    · refine ⟨gm, hgm, ?_⟩
      cases hom with
      | map h he => exact .map h (he.of_gnds hg)
  · rcases g2_cases hi with ⟨_, h⟩ | ⟨_, h⟩
    · exact hw.lt _ _ h
    · exact hw.lt _ _ h
  · unfold g2
    split
    · have : (2 : Nat) ≤ 0 := hi
      omega
    · have : (2 : Nat) ≤ 1 := hi
      omega
    · rfl
  · have no : ∀ {g : GI}, gb = g → gm = g → False := fun h1 h2 => by
      have hbb : gb.blk = gm.blk := by rw [h1, h2]
      rcases hw.sep b m _ _ gb gm hb hm hgb hgm hbb with h | ⟨_, _, _, _, _, _, _, _, h⟩
      · subst h
        rw [hb] at hm
        cases hm
      · cases h
    have no' : gb.blk = gm.blk → False := fun hbb => by
      rcases hw.sep b m _ _ gb gm hb hm hgb hgm hbb with h | ⟨_, _, _, _, _, _, _, _, h⟩
      · subst h
        rw [hb] at hm
        cases hm
      · cases h
    rcases g2_cases hgi with ⟨rfl, h1⟩ | ⟨rfl, h1⟩ <;> rcases g2_cases hgj with ⟨rfl, h2⟩ | ⟨rfl, h2⟩
    · exact .inl rfl
    · rw [hgb] at h1; rw [hgm] at h2
      cases h1; cases h2
      exact (no' hbb).elim
    · rw [hgm] at h1; rw [hgb] at h2
      cases h1; cases h2
      exact (no' hbb.symm).elim
    · exact .inl rfl
  · rcases ak0_get hi with ⟨rfl, h⟩ | ⟨rfl, h⟩
    · cases h
      exact .head _
    · cases h
  · rcases ak0_get hi with ⟨rfl, h⟩ | ⟨rfl, h⟩
    · cases h
      show 0 < 2
      omega
    · cases h

theorem _root_.Go.Ev.Ro.pair {r : Nat → Nat → Option Value} {γ : Gam} {W : World} (h : Ro r γ W) (b m : Nat) : Ro r (g2 γ b m) W := fun b' k v e => by
  obtain ⟨hno, h2⟩ := h b' k v e
  refine ⟨fun i g hi => ?_, h2⟩
  rcases g2_cases hi with ⟨_, h⟩ | ⟨_, h⟩
  · exact hno _ _ h
  · exact hno _ _ h

/-- The caller's world behind it. -/
theorem Ends.pair {γ : Gam} {A : AW} {W : World} (hw : WRel γ A W) {b m e f z clock n eK : Nat} {es : List MapEntry} {l : List Value} (hb : A.heap.get b = some (.cells [.map (some m)] e f z)) (hm : A.heap.get m = some (.map es clock))
    (hf : A.members f = [b]) (hg : ∀ x ∈ es, gnd x.key = true ∧ gnd x.val = true) (hl : ∀ v ∈ l, gnd v = true) {x : Ending} {W' : World} {AR' : AW}
    (h0 : AR'.heap.get 0 = some (.cells [.map (some 1)] e 0 z)) (h1 : AR'.heap.get 1 = some (.map es clock)) (h2 : AR'.heap.get 2 = some (.cells l eK 2 1))
    (h : Go.Ev.Ends (g2 γ b m) W (.slice (some ⟨2, 0, none⟩) n unk) AR' x W') : Go.Ev.Ends γ W (.slice (some ⟨A.next, 0, none⟩) n unk) (A.new (.cells l eK A.next 1)) x W' := by
  obtain ⟨v', γ', rfl, hv, hw', hx⟩ := h
  obtain ⟨gb, hgb, hob⟩ := hw.obj _ _ hb
  obtain ⟨gm, hgm, hom⟩ := hw.obj _ _ hm
  have hb' : γ' 0 = some gb := hx.le 0 gb hgb
  have hm' : γ' 1 = some gm := hx.le 1 gm hgm
  obtain ⟨gr, hgr, hor⟩ := hw'.obj _ _ h2
  have hnew : W.heap.size ≤ gr.blk := by
    rcases hx.new 2 gr hgr with hh | ⟨_, hh | ⟨j, y, hj, hy⟩⟩
    · cases hh
    · exact hh
    · exfalso
      rcases g2_cases hj with ⟨_, hj⟩ | ⟨_, hj⟩
      · rw [hgb] at hj; cases hj
        rcases hw'.sep 2 0 _ _ gr gb h2 h0 hgr hb' hy.symm with h | ⟨_, _, _, _, _, _, _, q1, q2⟩
        · cases h
        · cases q1; cases q2
      · rw [hgm] at hj; cases hj
        rcases hw'.sep 2 1 _ _ gr gm h2 h1 hgr hm' hy.symm with h | ⟨_, _, _, _, _, _, _, _, q2⟩
        · cases h
        · cases q2
  have hkeep : ∀ k, k < W.heap.size → k ≠ gb.blk → k ≠ gm.blk → W'.heap[k]? = W.heap[k]? := fun k hk h1 h2 => by
    refine hx.block k hk fun i g hi hbk => ?_
    rcases g2_cases hi with ⟨_, h⟩ | ⟨_, h⟩
    · rw [hgb] at h; cases h
      exact h1 hbk.symm
    · rw [hgm] at h; cases h
      exact h2 hbk.symm
  have hwA : WRel γ A W' := by
    refine ⟨fun i o hi => ?_, fun i g hi => Nat.lt_of_lt_of_le (hw.lt i g hi) hx.size, hw.fresh, hw.sep, hw.mem, hw.famlt, hw.famfresh⟩
    obtain ⟨g, hgi, hr⟩ := hw.obj i o hi
    refine ⟨g, hgi, ?_⟩
    have onB : i = b → ORel γ W' g o := fun h => by
      subst h
      rw [hb] at hi; rw [hgb] at hgi
      cases hi; cases hgi
      obtain ⟨g', hg', ho'⟩ := hw'.obj _ _ h0
      rw [hb'] at hg'; cases hg'
      cases ho' with
      | cells q1 q2 q3 q4 q5 =>
        refine .cells q1 q2 q3 q4 fun k v hk => ?_
        cases k with
        | zero =>
          cases hk
          obtain ⟨u, k1, k2⟩ := q5 0 _ rfl
          refine ⟨u, k1, ?_⟩
          cases k2 with
          | map hy => rw [hm'] at hy; cases hy; exact .map hgm
        | succ k => cases hk
    have onM : i = m → ORel γ W' g o := fun h => by
      subst h
      rw [hm] at hi; rw [hgm] at hgi
      cases hi; cases hgi
      obtain ⟨g', hg', ho'⟩ := hw'.obj _ _ h1
      rw [hm'] at hg'; cases hg'
      cases ho' with
      | map q1 q2 => exact .map q1 (q2.of_gnds hg)
    by_cases c1 : g.blk = gb.blk
    · rcases hw.sep i b _ _ g gb hi hb hgi hgb c1 with h | ⟨c, e1, c', e2, fam, s1, s2, q1, q2⟩
      · exact onB h
      · cases q2
        subst q1
        have := hw.mem i _ _ _ _ hi
        rw [hf] at this
        exact onB (List.mem_singleton.1 this)
    · by_cases c2 : g.blk = gm.blk
      · rcases hw.sep i m _ _ g gm hi hm hgi hgm c2 with h | ⟨_, _, _, _, _, _, _, _, q2⟩
        · exact onM h
        · cases q2
      · exact hr.mono γ.le_refl (hkeep _ (hw.lt _ _ hgi) c1 c2)
  have hun : ∀ i g', γ i = some g' → g'.blk ≠ gr.blk := fun i g' hi hbk => by
    have := hw.lt i g' hi
    omega
  have ho' : ORel γ W' gr (.cells l eK A.next 1) := by
    cases hor with
    | cells q1 q2 q3 q4 q5 =>
      refine .cells q1 q2 q3 q4 fun k v hk => ?_
      obtain ⟨u, k1, k2⟩ := q5 k v hk
      have hgv := hl v (List.mem_of_getElem? hk)
      exact ⟨u, k1, by rw [k2.eq_of_gnd hgv]; exact VRel.of_gnd _ v hgv⟩
  refine ⟨v', γ.set A.next gr, rfl, ?_, hwA.add ho' hun, ⟨Gam.le_set _ (hw.fresh _ (Nat.le_refl _)), fun i y hi => ?_, hx.size, fun k hk hno => ?_, hx.os, hx.tape, hx.output, hx.drawn⟩⟩
  · generalize hc : unk = c0 at hv
    cases hv with
    | slice k l0 c c' hg1 hc1 =>
      subst hc
      rw [hgr] at hg1; cases hg1
      exact .slice _ _ _ _ (Gam.set_same _ _ _) hc1
    | sliceE => exact absurd hc (by decide)
  · rcases Gam.set_cases hi with ⟨rfl, rfl⟩ | ⟨_, hi⟩
    · exact .inr ⟨hw.fresh _ (Nat.le_refl _), .inl hnew⟩
    · exact .inl hi
  · exact hkeep k hk (fun h => hno b gb hgb h.symm) (fun h => hno m gm hgm h.symm)

end Go.Proofs

/- slices.SortFunc, by the library's contract, where the comparing function's answers are known by a run: the caller's own row, of one cell each, is sorted in place. -/
namespace Go.Proofs
open Go Go.Ev Go.Shelf Go.RowKit Go.Lib Go.Sort
set_option linter.unusedVariables false
set_option linter.unusedSimpArgs false

theorem mapBlock_setB {W : World} {b : Nat} {cc : Array Value} {e : TypeId} {fr : Nat × Nat} (hb : W.heap[b]? = some (.cells cc e fr)) (f : Array Value → Array Value) : mapBlock W b f = setB W b (.cells (f cc) e fr) := by
  unfold mapBlock setB
  congr 1
  apply Array.ext_getElem?
  intro k
  simp only [Array.getElem?_modify, Array.getElem?_setIfInBounds]
  by_cases hk : b = k
  · subst hk
    have hlt : b < W.heap.size := by
      rcases Nat.lt_or_ge b W.heap.size with h | h
      · exact h
      · rw [Array.getElem?_eq_none h] at hb; cases hb
    rw [if_pos rfl, if_pos rfl, if_pos hlt, hb]
    rfl
  · rw [if_neg hk, if_neg hk]

theorem WRel.ahead {γ : Gam} {A : AW} {W : World} (h : WRel γ A W) (n : Nat) : WRel γ A (Sort.ahead W n) :=
  ⟨fun i o hi => let ⟨g, hg, hr⟩ := h.obj i o hi; ⟨g, hg, hr.mono γ.le_refl rfl⟩, h.lt, h.fresh, h.sep, h.mem, h.famlt, h.famfresh⟩
theorem Ext.ahead (γ : Gam) (W : World) (n : Nat) : Ext γ W γ (Sort.ahead W n) := ⟨γ.le_refl, fun _ _ h => .inl h, Nat.le_refl _, fun _ _ _ => rfl, rfl, rfl, rfl, Nat.le_add_right _ _⟩
theorem below_grow (W : World) (os : Array Obj) : BelowD W.heap.size W (Sort.grow W os) := by
  refine ⟨⟨rfl, rfl, rfl, by simp [Sort.grow], fun k hk => ?_⟩, Nat.le_refl _⟩
  show (W.heap ++ os)[k]? = _
  rw [Array.getElem?_append_left hk]

theorem _root_.Go.Ev.GrT.callsD {P : Program} {r : Mem} {f : Nat} {args : List Value} {v : Value} (h : GrT P r f args v) {W : World} {args' : Array Value} (hR : Ro r noG W) (ha : VsRel noG args args'.toList) :
    Calls P f args' W fun e W' => e = .returned v ∧ BelowD W.heap.size W W' :=
  callsIn_wide.1 (h.2 Fence.wide ⟨fun _ => trivial, rfl, rfl⟩ 0 W args' hR ha)

/-- A world in which what was there is as it was: blocks and draws more. -/
theorem _root_.Go.Ev.BelowD.grow {W W' : World} (h : BelowD W.heap.size W W') : ∃ q os', W' = Sort.grow (W.drewN q) os' := by
  refine ⟨W'.drawn - W.drawn, W'.heap.extract W.heap.size W'.heap.size, ?_⟩
  obtain ⟨⟨h1, h2, h3, h4, h5⟩, h6⟩ := h
  obtain ⟨heap, tape, drawn, os, output⟩ := W'
  obtain ⟨heap0, tape0, drawn0, os0, output0⟩ := W
  simp only at h1 h2 h3 h4 h5 h6
  subst h1 h2 h3
  simp only [Sort.grow, World.drewN, World.mk.injEq, true_and, and_true]
  refine ⟨?_, by omega⟩
  apply Array.ext_getElem?
  intro k
  by_cases hk : k < heap0.size
  · rw [Array.getElem?_append_left hk, h5 k hk]
  · rw [Array.getElem?_append_right (by omega), Array.getElem?_extract]
    by_cases hk2 : k < heap.size
    · rw [if_pos (by omega)]
      congr 1
      omega
    · rw [if_neg (by omega), Array.getElem?_eq_none (by omega)]

theorem cells_enc {α : Type} {enc : α → Value} (hg : ∀ x, gnd (enc x) = true) {γ : Gam} {zs : List α} {cc : Array Value} (h : CellsRel γ (zs.map enc) cc) (j : Nat) (hj : j < zs.length) : cc[j]? = some (enc zs[j]) := by
  obtain ⟨v', h1, h2⟩ := h j (enc zs[j]) (by simp [hj])
  rw [h1, h2.eq_of_gnd (hg _)]

theorem sort_gen {P : Program} {ρ : Shelf.Ren} (L : SlLaysF.n6 P ρ) {α : Type} [Inhabited α] (enc : α → Value) (h1 : OneCell enc) (hgnd : ∀ x, gnd (enc x) = true) (g0 : Nat) (cf : α → α → Int) (hO : SWO (ltOf cf))
    (eg : ∀ args w, (callFunc g0 args).run P w = .ok (.enter g0 args) w)
    (hcmp : ∀ x y, GrT P (fun _ _ => none) g0 [enc x, enc y] (.int .i64 (cf x y)))
    {C : Cfg} (hP : C.P = P) {A0 : AW} {i cap : Nat} {e : TypeId} {fam z : Nat} {zs R : List α} (hi : A0.heap.get i = some (.cells (zs.map enc) e fam z)) (hsz : zs.length < 4611686018427387904) (hcap : cap ≠ unkE)
    (hR : ∀ d : List α, d.Perm zs → d.Pairwise (fun x y => ltOf cf y x = false) → d = R) :
    ∀ F, Wide F → ∀ k γ W args', WRel γ A0 W → Ro C.ro γ W → VsRel γ [.slice (some ⟨i, 0, none⟩) zs.length cap, .func (.func g0) #[] #[]] (Array.toList args') →
      CallsIn F k C.P (ρ.f 6) args' W (Go.Ev.Ends γ W (.tuple ⟨[]⟩) (A0.only fam i (.cells (R.map enc) e fam z))) := by
  intro F hF k γ W args' hw _ ha
  subst hP
  obtain ⟨g, hg, ho⟩ := hw.obj _ _ hi
  cases ho with
  | cells hb hf hn hz hc =>
  rename_i cc fr
  obtain ⟨l'⟩ := args'
  cases ha with
  | cons h1' h2 =>
  cases h2 with
  | cons h2 h3 =>
  cases h3
  cases h2 with
  | func q1 q2 q3 =>
  cases q1
  rename_i a1 a2
  obtain ⟨a1⟩ := a1
  obtain ⟨a2⟩ := a2
  cases q2
  cases q3
  generalize hm : zs.length = m at h1'
  cases h1' with
  | sliceE => exact absurd rfl hcap
  | slice _ _ _ c' hg' _ =>
  subst hm
  rw [hg] at hg'
  cases hg'
  have hlt := hw.lt _ _ hg
  have hcz := cells_enc hgnd hc
  have hH : Holds enc W g.blk 0 zs.toArray := fun j hj => by
    have hj' : j < zs.length := by simpa using hj
    have h0 := hcz j hj'
    have hjc : j < cc.size := by
      rcases Nat.lt_or_ge j cc.size with h | h
      · exact h
      · rw [Array.getElem?_eq_none h] at h0; cases h0
    refine ⟨?_, ?_⟩
    · unfold World.cell?
      rw [hb]
      simp only [Option.isSome_none, Bool.false_eq_true, if_false, Nat.zero_add, h0]
      rw [getElem!_pos _ j (by simpa using hj')]
      simp
    · unfold World.frozen?
      rw [hb]
      have := hf j hjc
      simp only [Nat.zero_add]
      simp only [Bool.and_eq_false_iff, decide_eq_false_iff_not]
      omega
  have hcr : CmpLays1 C.P g0 #[] enc cf g.blk 0 zs.toArray.size W := fun _ _ _ _ x y =>
    (GrT.callsD (hcmp x y) (args' := #[enc x, enc y] ++ #[]) Ro.nought (by simpa using VsRel.of_gnds noG [enc x, enc y] (by simp [gnds, hgnd]))).mono fun _ _ ⟨he, hb⟩ => ⟨he, hb.grow⟩
  have hcon := Any.slices_SortFunc L enc h1 cf hO g0 #[] g.blk 0 c' zs.toArray W eg hcr hH hlt (by simpa using hsz)
  rw [show zs.toArray.size = zs.length by simp] at hcon
  refine (hF.calls hcon).mono fun e' W' he => ?_
  obtain ⟨rfl, d', n, os, hp, hs, rfl⟩ := he
  have hds : d'.size = zs.length := by simpa using hp.1
  have hd : d'.toList = R := by
    refine hR _ ?_ ?_
    · have := hp.2.2
      rw [show d'.extract 0 zs.length = d' by rw [← hds]; simp] at this
      simpa using this
    · rw [List.pairwise_iff_getElem]
      intro a b h1 h2 h3
      have := hs a b (Nat.zero_le _) h3 (by rw [← hds]; simpa using h2)
      rw [getElem!_pos _ b (by simpa using h2), getElem!_pos _ a (by simpa using h1)] at this
      simpa using this
  have hw1 := WRel.ahead hw n
  have hb1 : (Sort.ahead W n).heap[g.blk]? = some (.cells cc e fr) := hb
  have e1 : putRow enc (Sort.ahead W n) g.blk 0 d' = setB (Sort.ahead W n) g.blk (.cells (putCells enc 0 d' cc) e fr) := mapBlock_setB hb1 _
  have hps : (putCells enc 0 d' cc).size = cc.size := by simp [putCells]
  have hor : ORel γ (setB (Sort.ahead W n) g.blk (.cells (putCells enc 0 d' cc) e fr)) g (.cells (R.map enc) e fam z) := by
    refine .cells (setB_same _ hlt) (by rw [hps]; exact hf) (by rw [hps]; exact hn) hz fun k v hk => ?_
    rw [List.getElem?_map] at hk
    cases hr : R[k]? with
    | none => rw [hr] at hk; cases hk
    | some x =>
      rw [hr] at hk
      cases hk
      have hkR : k < R.length := by
        rcases Nat.lt_or_ge k R.length with h | h
        · exact h
        · rw [List.getElem?_eq_none h] at hr; cases hr
      have hkd : k < d'.size := by rw [← hd] at hkR; simpa using hkR
      have hkz : k < zs.length := by omega
      refine ⟨enc x, ?_, VRel.of_gnd _ _ (hgnd x)⟩
      have h0 := hcz k hkz
      simp only [putCells, Array.getElem?_mapIdx, h0, Option.map_some, Nat.zero_le, Nat.zero_add, hkd, and_self, if_true, Nat.sub_zero]
      rw [getElem!_pos _ k hkd]
      have : d'.toList[k]? = some x := by rw [hd]; exact hr
      rw [show d'[k] = x by simpa [hkd] using this]
  have hw2 := WRel.setRow hw1 hi hg hor
  have hx2 : Ext γ W γ (setB (Sort.ahead W n) g.blk (.cells (putCells enc 0 d' cc) e fr)) := (Ext.ahead γ W n).trans (Ext.setB _ hg)
  have hbl := below_grow (setB (Sort.ahead W n) g.blk (.cells (putCells enc 0 d' cc) e fr)) os
  obtain ⟨hw3, hx3⟩ := WRel.below hw2 hbl
  refine ⟨.tuple #[], γ, rfl, .tuple .nil, ?_, ?_⟩
  · unfold sortWorld
    rw [e1]
    exact hw3
  · unfold sortWorld
    rw [e1]
    exact hx2.trans hx3

end Go.Proofs

/- The sort of this program, laid: the numbers of the functions and types. -/
namespace Go.Proofs
open Go Go.Shelf

noncomputable def nameF (n : Nat) : String := match Tryd.prog.funcs[n]? with
  | some f => f.name
  | none => ""
def Tryd.sortK_ren : Shelf.Ren where
  f := fun x => match x with
    | 6 => 55
    | 15 => 68
    | 14 => 67
    | 28 => 78
    | 29 => 79
    | 20 => 70
    | 21 => 71
    | 22 => 72
    | 23 => 73
    | 24 => 74
    | 25 => 75
    | 26 => 76
    | 27 => 77
    | 46 => 88
    | 47 => 89
    | 48 => 90
    | 49 => 91
    | 50 => 92
    | 57 => 96
    | n => n
  t := fun x => match x with
    | 22 => 66
    | 24 => 43
    | 25 => 90
    | 3 => 3
    | 39 => 22
    | 0 => 0
    | 53 => 99
    | 55 => 118
    | 4 => 4
    | 46 => 110
    | 45 => 109
    | 50 => 114
    | 5 => 5
    | 9 => 9
    | 66 => 124
    | 70 => 128
    | 76 => 132
    | 77 => 133
    | n => n
  g := fun x => x

theorem Tryd.sortK : SlLaysF.n6 Tryd.prog Tryd.sortK_ren where
  mixed := by kernel_rfl
  f6 := ⟨nameF 55, of_decide_eq_true (by kernel_rfl), Tryd.func55.trans (by kernel_rfl)⟩
  f14 := ⟨nameF 67, of_decide_eq_true (by kernel_rfl), Tryd.func67.trans (by kernel_rfl)⟩
  f15 := Tryd.func68.trans (by kernel_rfl)
  f20 := ⟨nameF 70, of_decide_eq_true (by kernel_rfl), Tryd.func70.trans (by kernel_rfl)⟩
  f21 := ⟨nameF 71, of_decide_eq_true (by kernel_rfl), Tryd.func71.trans (by kernel_rfl)⟩
  f22 := ⟨nameF 72, of_decide_eq_true (by kernel_rfl), Tryd.func72.trans (by kernel_rfl)⟩
  f23 := ⟨nameF 73, of_decide_eq_true (by kernel_rfl), Tryd.func73.trans (by kernel_rfl)⟩
  f24 := ⟨nameF 74, of_decide_eq_true (by kernel_rfl), Tryd.func74.trans (by kernel_rfl)⟩
  f25 := ⟨nameF 75, of_decide_eq_true (by kernel_rfl), Tryd.func75.trans (by kernel_rfl)⟩
  f26 := ⟨nameF 76, of_decide_eq_true (by kernel_rfl), Tryd.func76.trans (by kernel_rfl)⟩
  f27 := ⟨nameF 77, of_decide_eq_true (by kernel_rfl), Tryd.func77.trans (by kernel_rfl)⟩
  f28 := Tryd.func78.trans (by kernel_rfl)
  f29 := Tryd.func79.trans (by kernel_rfl)
  f46 := ⟨nameF 88, of_decide_eq_true (by kernel_rfl), Tryd.func88.trans (by kernel_rfl)⟩
  f47 := Tryd.func89.trans (by kernel_rfl)
  f48 := Tryd.func90.trans (by kernel_rfl)
  f49 := ⟨nameF 91, of_decide_eq_true (by kernel_rfl), Tryd.func91.trans (by kernel_rfl)⟩
  f50 := ⟨nameF 92, of_decide_eq_true (by kernel_rfl), Tryd.func92.trans (by kernel_rfl)⟩
  f57 := ⟨nameF 96, of_decide_eq_true (by kernel_rfl), Tryd.func96.trans (by kernel_rfl)⟩
  t0 := Tryd.underlying0
  a0 := Tryd.isAgg0
  z0 := Tryd.sizeOf0
  v0 := Tryd.zeroValue0
  t3 := Tryd.underlying3
  a3 := Tryd.isAgg3
  z3 := Tryd.sizeOf3
  v3 := Tryd.zeroValue3
  t4 := Tryd.underlying4
  a4 := Tryd.isAgg4
  z4 := Tryd.sizeOf4
  v4 := Tryd.zeroValue4
  t5 := Tryd.underlying5
  a5 := Tryd.isAgg5
  z5 := Tryd.sizeOf5
  v5 := Tryd.zeroValue5
  t9 := Tryd.underlying9
  a9 := Tryd.isAgg9
  z9 := Tryd.sizeOf9
  v9 := Tryd.zeroValue9
  t22 := Tryd.underlying66
  a22 := Tryd.isAgg66
  z22 := Tryd.sizeOf66
  v22 := Tryd.zeroValue66
  a24 := Tryd.isAgg43
  z24 := Tryd.sizeOf43
  t25 := Tryd.underlying90
  a25 := Tryd.isAgg90
  z25 := Tryd.sizeOf90
  v25 := Tryd.zeroValue90
  t39 := Tryd.underlying22
  a39 := Tryd.isAgg22
  z39 := Tryd.sizeOf22
  v39 := Tryd.zeroValue22
  t45 := Tryd.underlying109
  a45 := Tryd.isAgg109
  z45 := Tryd.sizeOf109
  v45 := Tryd.zeroValue109
  t46 := Tryd.underlying110
  a46 := Tryd.isAgg110
  z46 := Tryd.sizeOf110
  v46 := Tryd.zeroValue110
  t50 := Tryd.underlying114
  a50 := Tryd.isAgg114
  z50 := Tryd.sizeOf114
  v50 := Tryd.zeroValue114
  t53 := Tryd.underlying99
  a53 := Tryd.isAgg99
  z53 := Tryd.sizeOf99
  v53 := Tryd.zeroValue99
  t55 := Tryd.underlying118
  a55 := Tryd.isAgg118
  z55 := Tryd.sizeOf118
  v55 := Tryd.zeroValue118
  t66 := Tryd.underlying124
  a66 := Tryd.isAgg124
  z66 := Tryd.sizeOf124
  v66 := Tryd.zeroValue124
  t70 := Tryd.underlying128
  a70 := Tryd.isAgg128
  z70 := Tryd.sizeOf128
  v70 := Tryd.zeroValue128
  t76 := Tryd.underlying132
  a76 := Tryd.isAgg132
  z76 := Tryd.sizeOf132
  v76 := Tryd.zeroValue132
  t77 := Tryd.underlying133
  a77 := Tryd.isAgg133
  z77 := Tryd.sizeOf133
  v77 := Tryd.zeroValue133

end Go.Proofs

/- slices.SortedFunc over maps.Keys: the keys in their order, as an entry of a table. -/
namespace Go.Proofs
open Go Go.Ev Go.Shelf Go.Lib Go.Sort
set_option linter.unusedVariables false
set_option linter.unusedSimpArgs false

instance : Inhabited K16 := ⟨⟨0, by decide⟩⟩
def encK (x : K16) : Value := .int .u16 x.1
def cfK (x y : K16) : Int := m_cf x.1 y.1

theorem cf_calls (r : Mem) (x y : K16) : GrT Tryd.prog r 40 [encK x, encK y] (I (cfK x y)) := by
  refine GrT.of (SC_ok r) (tCf_ok r) .nil rfl ⟨4, 3, (keF r x.1 y.1).trans ?_⟩
  obtain ⟨x, h1, h2⟩ := x
  obtain ⟨y, h3, h4⟩ := y
  simp only [dT h1, dT h2, dT h3, dT h4, Bool.and_self, cond_true]
  unfold cfK m_cf
  simp only
  rw [show (Int.ofNat 0 : Int) = 0 from rfl]
  cases m_cp (m_sz x) (m_sz y) != 0
  · simp only [cond_false]
    cases h : m_cp x y != 0
    · simp only [cond_false]
      have : m_cp x y = 0 := by simpa using h
      rw [this]
      rfl
    · rfl
  · rfl

theorem cp_neg (x y : Int) : m_cp x y < 0 ↔ x < y := by
  unfold m_cp
  by_cases h : x < y
  · simp [h]
  · by_cases h2 : x > y <;> simp [h, h2]
theorem cp_zero (x y : Int) : (m_cp x y != 0) = false ↔ x = y := by
  unfold m_cp
  by_cases h : x < y
  · simp [h]; omega
  · by_cases h2 : x > y
    · simp [h, h2]; omega
    · simp [h, h2]; omega
theorem ltK (x y : K16) : ltOf cfK x y = decide (m_sz x.1 < m_sz y.1 ∨ (m_sz x.1 = m_sz y.1 ∧ x.1 < y.1)) := by
  unfold ltOf cfK m_cf
  cases h : m_cp (m_sz x.1) (m_sz y.1) != 0
  · have := (cp_zero _ _).1 h
    simp only [cond_false, cp_neg, this]
    simp
  · have : m_sz x.1 ≠ m_sz y.1 := fun e => by rw [(cp_zero _ _).2 e] at h; cases h
    simp only [cond_true, cp_neg]
    simp [this]
theorem swoK : SWO (ltOf cfK) where
  irrefl x := by rw [ltK]; simp
  trans x y z h1 h2 := by rw [ltK] at *; simp only [decide_eq_true_eq] at *; omega
  ntrans x y z h1 h2 := by rw [ltK] at *; simp only [decide_eq_false_iff_not] at *; omega
theorem totK (x y : K16) (h1 : ltOf cfK x y = false) (h2 : ltOf cfK y x = false) : x = y := by
  rw [ltK] at *
  simp only [decide_eq_false_iff_not] at *
  apply Subtype.ext
  omega

/-- In order. -/
def insZ (x : Int) : List Int → List Int
  | [] => [x]
  | y :: l => bif decide (m_cf x y < 0) then x :: y :: l else y :: insZ x l
def sortZ : List Int → List Int
  | [] => []
  | x :: l => insZ x (sortZ l)
def insK (x : K16) : List K16 → List K16
  | [] => [x]
  | y :: l => bif ltOf cfK x y then x :: y :: l else y :: insK x l
def sortK : List K16 → List K16
  | [] => []
  | x :: l => insK x (sortK l)
theorem insK_val (x : K16) (l : List K16) : (insK x l).map (·.1) = insZ x.1 (l.map (·.1)) := by
  induction l with
  | nil => rfl
  | cons y l ih =>
    simp only [insK, List.map_cons, insZ]
    rw [show decide (m_cf x.1 y.1 < 0) = ltOf cfK x y from rfl]
    cases ltOf cfK x y
    · simp only [cond_false, List.map_cons, ih]
    · rfl
theorem sortK_val (l : List K16) : (sortK l).map (·.1) = sortZ (l.map (·.1)) := by
  induction l with
  | nil => rfl
  | cons x l ih => simp only [sortK, List.map_cons, sortZ, insK_val, ih]
theorem insK_perm (x : K16) (l : List K16) : (insK x l).Perm (x :: l) := by
  induction l with
  | nil => exact .refl _
  | cons y l ih =>
    simp only [insK]
    cases ltOf cfK x y
    · exact (List.Perm.cons y ih).trans (.swap ..)
    · exact .refl _
theorem sortK_perm (l : List K16) : (sortK l).Perm l := by
  induction l with
  | nil => exact .refl _
  | cons x l ih => exact (insK_perm x _).trans (.cons x ih)
theorem insK_sorted (x : K16) {l : List K16} (h : l.Pairwise fun a b => ltOf cfK b a = false) : (insK x l).Pairwise fun a b => ltOf cfK b a = false := by
  induction l with
  | nil => simp [insK]
  | cons y l ih =>
    simp only [insK]
    rw [List.pairwise_cons] at h
    cases hc : ltOf cfK x y with
    | true =>
      simp only [cond_true]
      have hyx : ltOf cfK y x = false := by
        rw [ltK] at *
        simp only [decide_eq_true_eq, decide_eq_false_iff_not] at *
        omega
      refine List.pairwise_cons.2 ⟨fun b hb => ?_, List.pairwise_cons.2 h⟩
      rcases List.mem_cons.1 hb with rfl | hb
      · exact hyx
      · have := h.1 b hb
        rw [ltK] at *
        simp only [decide_eq_true_eq, decide_eq_false_iff_not] at *
        omega
    | false =>
      simp only [cond_false]
      refine List.pairwise_cons.2 ⟨fun b hb => ?_, ih h.2⟩
      rcases List.mem_cons.1 ((insK_perm x l).mem_iff.1 hb) with rfl | hb
      · exact hc
      · exact h.1 b hb
theorem sortK_sorted (l : List K16) : (sortK l).Pairwise fun a b => ltOf cfK b a = false := by
  induction l with
  | nil => exact .nil
  | cons x l ih => exact insK_sorted x ih
theorem sortK_one {d l : List K16} (hp : d.Perm l) (hs : d.Pairwise fun a b => ltOf cfK b a = false) : d = sortK l :=
  (hp.trans (sortK_perm l).symm).eq_of_pairwise (fun a b _ _ h1 h2 => totK a b h2 h1) hs (sortK_sorted l)

theorem sort_entry (r : Mem) {A0 : AW} {i : Nat} {e : TypeId} {fam z : Nat} {zs l : List K16} (hi : A0.heap.get i = some (.cells (zs.map encK) e fam z)) (hsz : zs.length < 1000000) (hl : zs.Perm l) :
    EOk (SC r) 55 (entAt [.slice (some ⟨i, 0, none⟩) zs.length unk, cmpV] A0 (.tuple ⟨[]⟩) (A0.only fam i (.cells ((sortK l).map encK) e fam z))) := by
  refine entAt_ok fun F hF k γ W args' hw hR ha => ?_
  exact sort_gen Tryd.sortK encK (fun _ => rfl) (fun _ => rfl) 40 cfK swoK (fun args w => callFunc_ok (SC_ok r) (by kernel_rfl) args w) (cf_calls _) (C := SC r) rfl hi (by omega) (by decide) (fun d hp hs => sortK_one (hp.trans hl) hs) F hF k γ W args' hw hR ha

theorem rowK_enc (vis : List KT) : rowK vis = (vis.map (·.1)).map encK := by simp [rowK, encK]

/-- slices.SortedFunc: one answer. -/
theorem sorted_S {r : Mem} {e z clock : Nat} {q : List KT} (hq : KOk q clock) (hne : q ≠ []) : SOk (SC r) 38 [seqV, cmpV] (AK0 e z clock (q.map mkE)) fun v A' => v = .slice (some ⟨2, 0, none⟩) q.length unk ∧ A' = AR e z clock (q.map mkE) ((sortK (q.map (·.1))).map encK) := by
  obtain ⟨fn, h1, h2, h3, h4⟩ := fn_of (C := SC r) (f := 38) (by kernel_rfl)
  have hn : fn.ntmps = 12 := h3.trans (by kernel_rfl)
  rw [bodySC] at h2
  refine call_reachS (SC_ok r) h1 h2 51 (by rw [hn]; rfl) fun γ W F k hw hF hro => ?_
  rw [hn, h4]
  show Go.Ev.Reach (SC r) 51 12 F k γ W cSf _ _
  rw [show cSf = Code.seq (lc cSf) (.seq (lc (rc cSf)) (rc (rc cSf))) from by kernel_rfl]
  refine Go.Ev.Reach.seq (Go.Ev.Reach.seg (SC_ok r) TOk.nil (tm := .nil) (L := 1) (L' := 1) (d := 1) hF hro ((kdA ..).trans (qn_ok ?_)))
  refine Go.Ev.Reach.seq (Go.Ev.Reach.callP (SC_ok r) hF TOk.nil (tm := .nil) (L := 0) (d := 0) 1 ((kdB ..).trans (qn_ok rfl)) (kdJ ..) (collect_S (e := e) (z := z) hq hne) fun v A' ⟨vis, hv, h1, h2⟩ => ?_)
  subst h1 h2
  refine (kdC ..).trans (qn_ok ?_)
  have hlen : vis.length = q.length := hv.length_eq
  have hent := sort_entry r (A0 := AR e z clock (q.map mkE) (rowK vis)) (i := 2) (e := 43) (fam := 2) (z := 1) (zs := vis.map (·.1)) (l := q.map (·.1)) (by rw [← rowK_enc]; kernel_rfl) (by rw [List.length_map, hlen]; exact hq.few) (hv.map _)
  rw [List.length_map] at hent
  have hA1 : (AR e z clock (q.map mkE) (rowK vis)).only 2 2 (.cells ((sortK (q.map (·.1))).map encK) 43 2 1) = AR e z clock (q.map mkE) ((sortK (q.map (·.1))).map encK) := by kernel_rfl
  refine Go.Ev.Reach.seg (SC_ok r) (t := tSo vis.length (AR e z clock (q.map mkE) (rowK vis)) (AR e z clock (q.map mkE) ((sortK (q.map (·.1))).map encK))) (TOk.nil.cons (hA1 ▸ hent)) (tm := .nil) (L := 1) (L' := 1) (d := 1) hF hro ((kdD ..).trans ?_)
  rw [at_rfl, cond_true]
  refine qn_ok ⟨.inr rfl, _, slV vis.length, _, Ren.refl _, ?_, by rw [hlen], rfl⟩
  rw [← finK_finish]
  exact kdE ..

end Go.Proofs

/- slices.SortedFunc over maps.Keys, as an entry in any world. -/
namespace Go.Proofs
open Go Go.Ev
set_option linter.unusedVariables false
set_option linter.unusedSimpArgs false

/-- The map and its time, where this is the walk over its keys and the order of the sets. -/
def sfArgs (args : List Value) (A : AW) : Option (List MapEntry × Nat) := match args with
  | [.func (.func f) ⟨[]⟩ ⟨[.pointer (some ⟨b, 0, none⟩)]⟩, .func (.func g) ⟨[]⟩ ⟨[]⟩] => match Nat.beq f 56 && Nat.beq g 40, A.heap.get b with
    | true, some (.cells [.map (some m)] _ fam _) => match A.members fam with
      | [b'] => match Nat.beq b' b, A.heap.get m with
        | true, some (.map es clock) => some (es, clock)
        | _, _ => none
      | _ => none
    | _, _ => none
  | _ => none

def keyZ (e : MapEntry) : Int := match e.key with
  | .int .u16 x => x
  | _ => 0
def okE (clock : Nat) (e : MapEntry) : Bool := match e.key, e.val with
  | .int .u16 x, .bool _ => decide (0 ≤ x) && decide (x < 65536) && Nat.blt e.born clock
  | _, _ => false
def freshB (n : Nat) : List MapEntry → Bool
  | [] => true
  | e :: l => (!Nat.beq e.born n) && freshB n l
def okEs (clock : Nat) : List MapEntry → Bool
  | [] => true
  | e :: l => okE clock e && freshB e.born l && okEs clock l

theorem okE_of {clock : Nat} {e : MapEntry} (h : okE clock e = true) : ∃ t : KT, e = mkE t ∧ t.2.2 < clock := by
  obtain ⟨k, v, n⟩ := e
  unfold okE at h
  split at h
  · rename_i x b h1 h2
    simp only [Bool.and_eq_true, decide_eq_true_eq] at h
    simp only at h1 h2
    subst h1 h2
    exact ⟨(⟨x, h.1.1, h.1.2⟩, b, n), rfl, Nat.le_of_ble_eq_true h.2⟩
  · cases h

theorem okEs_of {clock : Nat} : ∀ {es : List MapEntry}, okEs clock es = true → ∃ q : List KT, es = q.map mkE ∧ (∀ t ∈ q, t.2.2 < clock) ∧ (bornK q).Nodup
  | [], _ => ⟨[], rfl, fun _ h => (nomatch h), .nil⟩
  | e :: l, h => by
    simp only [okEs, Bool.and_eq_true] at h
    obtain ⟨⟨h1, h2⟩, h3⟩ := h
    obtain ⟨t, rfl, ht⟩ := okE_of h1
    obtain ⟨q, rfl, hq1, hq2⟩ := okEs_of h3
    refine ⟨t :: q, rfl, fun x hx => ?_, ?_⟩
    · rcases List.mem_cons.1 hx with rfl | hx
      · exact ht
      · exact hq1 x hx
    · unfold bornK at *
      rw [List.map_cons, List.nodup_cons]
      refine ⟨fun hm => ?_, hq2⟩
      obtain ⟨x, hx, hxe⟩ := List.mem_map.1 hm
      have key : ∀ (l : List KT), freshB t.2.2 (l.map mkE) = true → ∀ x ∈ l, x.2.2 ≠ t.2.2 := by
        intro l
        induction l with
        | nil => intro _ x hx; cases hx
        | cons y l ih =>
          intro h x hx
          simp only [List.map_cons, freshB, Bool.and_eq_true] at h
          rcases List.mem_cons.1 hx with rfl | hx
          · intro he
            have h1 := h.1
            rw [show (mkE x).born = x.2.2 from rfl, he, show Nat.beq t.2.2 t.2.2 = true from Nat.beq_refl _] at h1
            cases h1
          · exact ih h.2 x hx
      exact key q h2 x hx hxe

def emptyL : List MapEntry → Bool
  | [] => true
  | _ => false
def eSF : Ent := ⟨fun args A => match sfArgs args A with
    | some (es, clock) => !emptyL es && Nat.blt es.length 1000000 && okEs clock es
    | none => false, fun _ _ => true,
  fun args A => match sfArgs args A with
    | some (es, _) => .slice (some ⟨A.next, 0, none⟩) es.length unk
    | none => undef,
  fun args A => match sfArgs args A with
    | some (es, _) => A.new (.cells ((sortZ (es.map keyZ)).map fun x => .int .u16 x) 43 A.next 1)
    | none => A, fun _ _ => undef, fun _ A => A⟩

theorem eSF_ok (r : Mem) : EOk (SC r) 38 eSF := fun args A hg F hF k γ W args' hw hR ha => by
  refine ⟨fun _ => ?_, fun h => nomatch h⟩
  simp only [eSF] at hg ⊢
  cases hs : sfArgs args A with
  | none => rw [hs] at hg; cases hg
  | some p =>
    obtain ⟨es, clock⟩ := p
    rw [hs] at hg
    simp only [Bool.and_eq_true] at hg ⊢
    obtain ⟨⟨hne, hfew⟩, hok⟩ := hg
    obtain ⟨q, rfl, hq1, hq2⟩ := okEs_of hok
    have hfew' : q.length < 1000000 := by
      have := Nat.le_of_ble_eq_true hfew
      simp at this
      omega
    have hqn : q ≠ [] := fun h => by subst h; cases hne
    unfold sfArgs at hs
    split at hs
    · rename_i f b g
      split at hs
      · rename_i m e fam z hfg hbx
        split at hs
        · rename_i b' hmem
          split at hs
          · rename_i es' clock' hbb hmm
            cases hs
            simp only [Bool.and_eq_true] at hfg
            have e1 := Nat.eq_of_beq_eq_true hfg.1
            have e2 := Nat.eq_of_beq_eq_true hfg.2
            have e3 := Nat.eq_of_beq_eq_true hbb
            subst e1 e2 e3
            have hsorted := sorted_S (r := r) (e := e) (z := z) ⟨hq1, hq2, hfew'⟩ hqn
            have hks : ((sortZ ((q.map mkE).map keyZ)).map fun x => Value.int .u16 x) = (sortK (q.map (·.1))).map encK := by
              have h1 : (q.map mkE).map keyZ = (q.map (·.1)).map (·.1) := by simp [mkE, keyZ]
              rw [h1, ← sortK_val, List.map_map]
              rfl
            have hgs := ksG q
            have hw2 := WRel.pair hw hbx hmm hgs
            have hcall := hsorted F hF k (g2 γ b' m) W args' hw2 (Ro.pair hR b' m) ?_
            · refine hcall.mono fun x W' ⟨v, A', hS, he⟩ => ?_
              obtain ⟨rfl, rfl⟩ := hS
              rw [hks, List.length_map]
              exact Ends.pair hw hbx hmm hmem hgs (fun v hv => by obtain ⟨y, _, rfl⟩ := List.mem_map.1 hv; rfl) rfl rfl rfl he
            · obtain ⟨la⟩ := args'
              cases ha with
              | cons h1 h2 =>
              cases h2 with
              | cons h2 h3 =>
              cases h3
              refine .cons ?_ (.cons ?_ .nil)
              · cases h1 with
                | func p1 p2 p3 =>
                  rename_i f' a' c'
                  obtain ⟨a'⟩ := a'
                  obtain ⟨c'⟩ := c'
                  cases p1
                  cases p2
                  cases p3 with
                  | cons k1 k2 =>
                    cases k2
                    cases k1 with
                    | ptr k hg1 => exact .func (.func _) .nil (.cons (.ptr _ (show g2 γ b' m 0 = _ from hg1)) .nil)
              · cases h2 with
                | func p1 p2 p3 =>
                  rename_i f' a' c'
                  obtain ⟨a'⟩ := a'
                  obtain ⟨c'⟩ := c'
                  cases p1
                  cases p2
                  cases p3
                  exact .func (.func _) .nil .nil
          · cases hs
        · cases hs
      · cases hs
    · cases hs

end Go.Proofs

/- Chapter 10: the example calls, run. -/
namespace Go.Proofs
open Go Go.Ev
set_option linter.unusedVariables false
set_option linter.unusedSimpArgs false
set_option maxRecDepth 100000

def mskH : Tr Nat := (.node (.node (.node (.node (.node (.node (.node .nil (some 39) .nil) (some 28895) (.node .nil (some 4159) .nil)) (some 61) (.node (.node .nil (some 5) .nil) (some 1567) .nil)) (some 61) (.node (.node (.node .nil (some 7951) .nil) (some 7) .nil) (some 5) (.node (.node .nil (some 15391) .nil) (some 19) .nil))) (some 16769021) (.node (.node (.node (.node .nil (some 2096159) .nil) (some 7) .nil) (some 123) (.node (.node .nil (some 36028797018996495) .nil) (some 479) .nil)) none (.node (.node (.node .nil (some 7951) .nil) (some 5) .nil) (some 458877) (.node (.node .nil (some 271) .nil) (some 5) .nil)))) none (.node (.node (.node (.node (.node .nil (some 23) .nil) (some 511) (.node .nil (some 3103) .nil)) (some 125) (.node (.node .nil (some 7951) .nil) (some 23) .nil)) (some 49119) (.node (.node (.node .nil (some 36028797018996495) .nil) (some 493) .nil) (some 12351) (.node (.node .nil (some 5) .nil) (some 5) .nil))) (some 21) (.node (.node (.node (.node .nil (some 2096159) .nil) (some 5) .nil) (some 7) (.node (.node .nil (some 7951) .nil) (some 11) .nil)) (some 23) (.node (.node (.node .nil (some 15391) .nil) (some 435) .nil) (some 33557567) (.node (.node .nil (some 3103) .nil) (some 23) .nil))))) none (.node (.node (.node (.node (.node (.node .nil (some 23) .nil) (some 2013) (.node .nil (some 3103) .nil)) none (.node (.node .nil (some 783) .nil) (some 435) .nil)) (some 51) (.node (.node (.node .nil (some 7943) .nil) (some 19) .nil) (some 415) (.node (.node .nil (some 3103) .nil) (some 43) .nil))) (some 13) (.node (.node (.node (.node .nil (some 5) .nil) (some 19) .nil) (some 25166847) (.node (.node .nil (some 775) .nil) (some 79) .nil)) none (.node (.node (.node .nil (some 7199) .nil) (some 115) .nil) none (.node (.node .nil (some 4159) .nil) (some 7) .nil)))) none (.node (.node (.node (.node (.node .nil (some 183) .nil) (some 5) .nil) (some 61) (.node (.node .nil (some 7943) .nil) (some 1971) .nil)) (some 29) (.node (.node (.node .nil (some 775) .nil) (some 115) .nil) (some 19) (.node (.node .nil (some 5) .nil) (some 5) .nil))) none (.node (.node (.node (.node .nil (some 783) .nil) (some 51) .nil) none (.node (.node .nil (some 7199) .nil) (some 5) .nil)) (some 117900287) (.node (.node (.node .nil (some 5) .nil) (some 7351) .nil) none (.node (.node .nil (some 271) .nil) (some 19) .nil))))))
/-- The concrete evaluator. -/
noncomputable abbrev CC (r : Mem) : Cfg := Cfg.ofRo Tryd.prog r
theorem CC_ok (r : Mem) : (CC r).Ok := Cfg.ofRo_ok evMixed evNames r
noncomputable def tSF : Tbl := tcons 38 eSF fun _ => none
theorem tSF_ok (r : Mem) : TOk (CC r) tSF := (show TOk (SC r) tSF from TOk.nil.cons (eSF_ok r))

end Go.Proofs

