/- What the claim is proved with, part 1: the evaluator and the contracts of the calls. -/
import Derived.Test.YtdalaifnhppidaaDoorSymBase
import Derived.Test.YtdalaifnhppidaaDoorEvMemOf
import Derived.Test.YtdalaifnhppidaaDoorRows
import Derived.FnData
import Derived.MakeChecks
import Derived.IntWalk
import Derived.Test.YtdalaifnhppidaaDoorEvRd
import Derived.Test.YtdalaifnhppidaaDoorEvOwn
import Derived.Test.YtdalaifnhppidaaDoorEvGp
import Derived.Test.YtdalaifnhppidaaDoorEvSym
import Derived.Shelf.SlSortCmp.Whole1
import Derived.Shelf.Lay
/- The table of math/bits, as memory. -/
namespace Go.Proofs
open Go Go.Ev
set_option linter.unusedVariables false
set_option linter.unusedSimpArgs false

def u8s (l : List Nat) : List Value := l.map fun n => .int .u8 (Int.ofNat n)
def tab32 : List Nat := [0, 1, 28, 2, 29, 14, 24, 3, 30, 22, 20, 15, 25, 17, 4, 8, 31, 27, 13, 23, 21, 19, 16, 7, 26, 12, 18, 6, 11, 5, 10, 9]

def memL (l : List Value) : Nat → Option Value := fun j => l[j]?
def tabM : Mem := fun b j => match Nat.beq b 0 with
 | true => memL (u8s tab32) j
 | false => none

theorem _root_.Go.Ev.GrT.more {P : Program} {r r' : Mem} {f : Nat} {args : List Value} {v : Value} (h : GrT P r f args v) (hle : ∀ b j u, r b j = some u → r' b j = some u) : GrT P r' f args v :=
 ⟨h.1, fun F hF k W args' hR ha => h.2 F hF k W args' (fun b j u e => hR b j u (hle b j u e)) ha⟩

end Go.Proofs

/- What the listed package variables hold, as memory: from the row's premise to the memory that came in. -/
namespace Go.Proofs
open Go Go.Ev
set_option linter.unusedVariables false
set_option linter.unusedSimpArgs false

theorem tab_cells {H : Type} {enc : TypeId × Value → H} {P : Program} {w : World} {base fuel : Nat} {spare : Nat → Bool} {held : Bool} {t e : TypeId} {n : Nat} {k : IntKind} {cs : List Value} {l : List Int} {p : List MemPlace}
  (ht : P.underlying t = some (.array n e)) (he : P.underlying e = some (.int k)) (ce : P.cellsOf e = 1)
  (h : DataW.trod enc P w base spare held fuel t cs = some (.agg (l.map fun z => .lit (.int k z)), p)) : ∀ (j : Nat) (z : Int), l[j]? = some z → cs[j]? = some (Value.int k z) := by
 obtain ⟨xs, m, _, hx, _, hl, hel⟩ := DataW.trod_array ht h
 have h1 : l.map (fun z => (DataW.lit (.int k z) : DataW H)) = xs.map (·.1) := by
  have := congrArg Prod.fst hx
  simpa using this
 intro j z hz
 have hlen : l.length = xs.length := by
  have := congrArg List.length h1
  simpa using this
 have hj : j < l.length := (List.getElem?_eq_some_iff.1 hz).1
 have h3 := hel j (by omega)
 rw [ce, Nat.mul_one] at h3
 have hxj : xs[j]? = some xs[j] := List.getElem?_eq_getElem (by omega)
 rw [hxj] at h3
 obtain ⟨s, h4, h5, _⟩ := DataW.trod_int he h3
 have h6 : (l.map (fun z => (DataW.lit (.int k z) : DataW H)))[j]? = (xs.map (·.1))[j]? := by rw [h1]
 simp only [List.getElem?_map, hz, hxj, Option.map_some, h5, Option.some.injEq, DataW.lit.injEq, Lit.int.injEq, true_and] at h6
 subst h6
 have h7 := congrArg (fun l : List Value => l[0]?) h4
 simp only [List.getElem?_cons_zero] at h7
 rw [List.getElem?_take_of_lt (by omega), List.getElem?_drop] at h7
 simpa using h7

theorem tab_mem {P : Program} {w : World} {n : String} {g : Nat} {cs : Array Value} {k : IntKind} (hg : P.globalNamed n = some g) (hv : w.var? P n = some cs) {l : List Int} (h : ∀ (j : Nat) (z : Int), l[j]? = some z → cs.toList[j]? = some (Value.int k z)) :
  ∀ (j : Nat) (z : Int), l[j]? = some z → memOf w g j = some (Value.int k z) := fun j z hz => memOf_int (by
 rw [World.var?_cell hg hv j]
 have := h j z hz
 simpa using this)

theorem laid_32 {W : World} {g t f : Nat} {cs : Array Value} {p : List MemPlace} (a1 : Tryd.prog.globalNamed "math/bits.deBruijn32tab" = some g) (a2 : (Tryd.prog.globals[g]?).map (·.type) = some t) (a3 : W.var? Tryd.prog "math/bits.deBruijn32tab" = some cs)
  (a4 : DataW.trod (fun _ => ()) Tryd.prog W 0 (fun _ => true) false f t cs.toList = some (YtdalaifnhppidaaDoor.Rows.laid_math_bits_deBruijn32tab, p)) : ∀ j u, memL (u8s tab32) j = some u → memOf W 0 j = some u := by
 have hg : Tryd.prog.globalNamed "math/bits.deBruijn32tab" = some 0 := by kernel_rfl
 obtain rfl := Option.some.inj (hg.symm.trans a1)
 obtain rfl := Option.some.inj ((show (Tryd.prog.globals[0]?).map (·.type) = some 112 by kernel_rfl).symm.trans a2)
 have h1 := tab_cells (l := tab32.map Int.ofNat) (k := .u8) (t := 112) (n := 32) (e := 5) (by kernel_rfl) (by kernel_rfl) (by kernel_rfl) (a4.trans (by rfl))
 intro j u hu
 simp only [memL, u8s, List.getElem?_map, Option.map_eq_some_iff] at hu
 obtain ⟨z, hz, rfl⟩ := hu
 exact tab_mem hg a3 h1 j _ (by simp [List.getElem?_map, hz])

theorem laid_mem {W : World} {x : String × DataW Unit} (hx : x = ("math/bits.deBruijn32tab", YtdalaifnhppidaaDoor.Rows.laid_math_bits_deBruijn32tab)) (hL : laidMetH Tryd.prog [x] W) : ∀ b j u, tabM b j = some u → memOf W b j = some u := by
 subst hx
 rw [MakeChecks.laidMetH_plain _ _ _ (by kernel_rfl)] at hL
 obtain ⟨ps, ⟨g1, t1, c1, f1, p1, q1, a1, a2, a3, a4, _, _⟩, _⟩ := hL
 intro b j u h
 unfold tabM at h
 split at h
 ·rename_i hb
  have := Nat.eq_of_beq_eq_true hb
  subst this
  exact laid_32 a1 a2 a3 a4 j u h
 ·cases h

end Go.Proofs

/- A slice among the arguments: nil, or a row that came in (an empty one, too). -/
set_option linter.unusedVariables false
set_option linter.unusedSimpArgs false
namespace Go.Ev
open Go

inductive ArgRowT (r : Mem) (n : Nat) (p : Value → Prop) : Value → Prop
 | nil : ArgRowT r n p (.slice none 0 0)
 | row (b off len cap : Nat) (hl : len ≤ cap) (hc : cap ≤ maxLen) (h : ∀ i, i < cap * n → ∃ u, r b (off + i) = some u ∧ p u) : ArgRowT r n p (.slice (some ⟨b, off, some 0⟩) len cap)

theorem okWide_spot {P : Program} {w : World} {r : Go.Reach} {base : Nat} {t e : TypeId} {x : Addr} {len cap : Nat} (ht : P.underlying t = some (.slice e)) (h : Value.okWide P w r base t (.slice (some x) len cap)) : x.spot = none := by
 simp only [Value.okWide, ht, Cell.okWide, Cell.ok] at h
 exact h.2.2.2.1

section
variable {H : Type} {enc : TypeId × Value → H} {P : Program} {w : World} {base : Nat} {held : Bool}

theorem in_rowT {t e : TypeId} {n : Nat} {p : Value → Prop} {v : Value} {d : DataW H} {ps : List MemPlace} (hn : 0 < n) (ht : P.underlying t = some (.slice e)) (ce : P.cellsOf e = n) (hel : El enc P w base held e n p)
  {b0 : Nat} (hval : Value.okWide P w .any b0 t v) (h : DataW.Trod enc P w base (fun _ => true) held t v d ps) : ∃ u, VRel noG u v ∧ ArgRowT (memOf w) n p u := by
 obtain ⟨u, hu, hs⟩ := in_row hn ht ce hel hval h
 obtain ⟨a, len, cap, rfl⟩ := Go.WideShapes.okWide_slice ht hval
 cases hs with
 | nil => exact ⟨_, hu, .nil⟩
 | row b off len cap hl hc h => exact ⟨_, hu, .row b off len cap hl hc h⟩
 | empty =>
  obtain ⟨fuel, hf⟩ := h
  rcases Go.Deep.open_slice ht hf with ⟨h0, _⟩ | ⟨a', len', cap', m, n', D, Pl, h0, _, hl, hm, hmm, _, hx⟩
  ·simp [Value.cells] at h0
   obtain ⟨rfl, rfl, rfl⟩ := h0
   exact ⟨_, .sliceNil, .nil⟩
  ·simp [Value.cells] at h0
   obtain ⟨rfl, rfl, rfl⟩ := h0
   have hsp := okWide_spot ht hval
   obtain ⟨b, off, s⟩ := a'
   subst hsp
   have hlen : len = 0 := by
    cases hu with
    | sliceE => rfl
    | slice _ _ _ _ hg => cases hg
   subst hlen
   exact ⟨_, .sliceRo b off 0 0 0 cap (by decide) (Nat.zero_le _), .row b off 0 0 (Nat.le_refl _) (Nat.zero_le _) fun i hi => by omega⟩

end

end Go.Ev

/- Rules for loops. -/
set_option linter.unusedVariables false
set_option linter.unusedSimpArgs false
namespace Go.Proofs
open Go Go.Ev

theorem fnsSC (r : Mem) : (SC r).fns = S0.fns := by unfold SC Cfg.sym; rfl
theorem bodySC (r : Mem) (f : Nat) : bodyOf (SC r) f = bodyOf S0 f := by unfold bodyOf; rw [fnsSC]

theorem enterN {r : Mem} {t : Tbl} {ms : Tr Nat} {L d f m n : Nat} {args : List Value} {A : AW} {k : KV} {rs : List ResultVar} (c : Code) (hc : c = bodyOf S0 f) (hb : hasBody (SC r) f = true) (hn : ntm (SC r) f = n) (hm : maskFor ms f n = m) (hr : resOf (SC r) f = rs)
  (hl : Nat.ble args.length n = true) (ht : t f = none) :
  (lvlT (SC r) t ms L (d + 1)).call f args A k = run (SC r) m n L c (lvlT (SC r) t ms L d) none (finK (SC r) m rs k) kx242 (finK (SC r) m rs k) (sc0 m args) (tr0 m args) [] A := by
 rw [enter hb hn hm hr hl ht, bodySC, ← hc]

theorem fn_of {C : Cfg} {f : Nat} (h : hasBody C f = true) : ∃ fn, C.fns.get f = some fn ∧ fn.body = some (bodyOf C f) ∧ fn.ntmps = ntm C f ∧ fn.results.toList = resOf C f := by
 unfold hasBody at h
 unfold bodyOf ntm resOf
 split at h
 ·rename_i fn hfn
  split at h
  ·rename_i c hc
   exact ⟨fn, hfn, by simp only [hfn, hc], by simp only [hfn], by simp only [hfn]⟩
  ·cases h
 ·cases h

theorem seqA {C : Cfg} {m n L : Nat} (a b d : Code) : run C m n L (.seq a (.seq b d)) = run C m n L (.seq (.seq a b) d) := rfl

theorem run_while {C : Cfg} {m n L : Nat} {fs : FnsC} {ro : Option Nat} {kn : KS} {kx : Nat → KS} {kr : KS} (a b d : Code) (id : Nat) : run C m n L (.seq a (.seq (.block id (.loop b)) d)) fs ro kn kx kr =
  run C m n L a fs ro (cLoop (fun kl => run C m n L b fs ro kl (fun j => match Nat.beq j id with | true => run C m n L d fs ro kn kx kr | false => kx j) kr) L) kx kr := rfl
theorem run_while0 {C : Cfg} {m n L : Nat} {fs : FnsC} {ro : Option Nat} {kn : KS} {kx : Nat → KS} {kr : KS} (a b : Code) (id : Nat) : run C m n L (.seq a (.block id (.loop b))) fs ro kn kx kr =
  run C m n L a fs ro (cLoop (fun kl => run C m n L b fs ro kl (fun j => match Nat.beq j id with | true => kn | false => kx j) kr) L) kx kr := rfl

theorem run_pre {C : Cfg} {m n L : Nat} (a b d e : Code) : run C m n L (.seq a (.seq (.seq b d) e)) = run C m n L (.seq (.seq a b) (.seq d e)) := rfl

theorem beqD (a b : Int) : (a == b) = decide (a = b) := by by_cases h : a = b <;> simp [h]

theorem dT {p : Prop} [Decidable p] (h : p) : decide p = true := decide_eq_true h
theorem dF {p : Prop} [Decidable p] (h : ¬ p) : decide p = false := decide_eq_false h
theorem eqT {a b : Int} (h : a = b) : (a == b) = true := by simp [h]
theorem eqF {a b : Int} (h : a ≠ b) : (a == b) = false := by simp [h]
theorem neT {a b : Int} (h : a ≠ b) : (a != b) = true := by simp [h]
theorem neF {a b : Int} (h : a = b) : (a != b) = false := by simp [h]
theorem wrI {z : Int} (h : -9223372036854775808 ≤ z ∧ z ≤ 9223372036854775807) : IntKind.wrap .i64 z = z := IntWalk.i64_in z h

/- An entry for one call alone: these arguments, this world; what it answers, and the world behind it. -/
noncomputable def m_at (args args0 : List Value) (A A0 : AW) : Bool := @decide (args = args0 ∧ A = A0) (Classical.propDecidable _)
noncomputable def entAt (args0 : List Value) (A0 : AW) (v : Value) (A1 : AW) : Ent := ⟨fun args A => m_at args args0 A A0, fun _ _ => true, fun _ _ => v, fun _ _ => A1, fun _ _ => v, fun _ _ => A1⟩

theorem at_rfl (args : List Value) (A : AW) : m_at args args A A = true := @decide_eq_true _ (Classical.propDecidable _) ⟨rfl, rfl⟩

theorem entAt_ok {C : Cfg} {f : Nat} {args0 : List Value} {A0 : AW} {v : Value} {A1 : AW}
  (h : ∀ F, Wide F → ∀ k γ W args', WRel γ A0 W → Ro C.ro γ W → VsRel γ args0 (Array.toList args') → CallsIn F k C.P f args' W (Go.Ev.Ends γ W v A1)) : EOk C f (entAt args0 A0 v A1) := fun args A hg F hF k γ W args' hw hR ha => by
 obtain ⟨rfl, rfl⟩ := @of_decide_eq_true _ (Classical.propDecidable _) hg
 exact ⟨fun _ => h F hF k γ W args' hw hR ha, fun _ => h F hF k γ W args' hw hR ha⟩

theorem entAt_run {C : Cfg} (hC : C.Ok) {t : Tbl} (ht : TOk C t) (tm : Tr Nat) {f : Nat} {args0 : List Value} {A0 : AW} {v : Value} {A1 : AW} (h : ∃ L d, (lvlT C t tm L d).call f args0 A0 .ret = .ret v A1) : EOk C f (entAt args0 A0 v A1) :=
 entAt_ok fun F hF k γ W args' hw hR ha => by
  obtain ⟨L, d, hr⟩ := h
  have h1 := (lvlT_le (C := C) t tm L d).call _ _ _ _ _ _ hr
  cases hc : (lvlU C t tm L d).call f args0 A0 with
  | fail w => rw [hc] at h1; cases h1
  | ret u A' =>
   rw [hc] at h1
   cases h1
   exact (lvlU_ok hC ht tm L d).call γ A0 W f args0 args' v A1 hc hw hR ha F hF k

/- Entries of a table, by the shape of the arguments. -/
def eI2 (g : Int → Int → Bool) (v : Int → Int → Value) : Ent := ent (fun args _ => match args with | [.int .i64 a, .int .i64 b] => g a b | _ => false) (fun args _ => match args with | [.int .i64 a, .int .i64 b] => v a b | _ => undef)
def eI4 (g : Int → Int → Int → Int → Bool) (v : Int → Int → Int → Int → Value) : Ent := ent (fun args _ => match args with | [.int .i64 a, .int .i64 b, .int .i64 c, .int .i64 d] => g a b c d | _ => false) (fun args _ => match args with | [.int .i64 a, .int .i64 b, .int .i64 c, .int .i64 d] => v a b c d | _ => undef)
def eA2 (g : Int → Int → Bool) (v : Int → Int → Value) : Ent := ent (fun args _ => match args with | [.agg ⟨[.int .i64 a, .int .i64 b]⟩] => g a b | _ => false) (fun args _ => match args with | [.agg ⟨[.int .i64 a, .int .i64 b]⟩] => v a b | _ => undef)
def eI1 (g : Int → Bool) (v : Int → Value) : Ent := ent (fun args _ => match args with | [.int .i64 a] => g a | _ => false) (fun args _ => match args with | [.int .i64 a] => v a | _ => undef)
def eA1I (g : Int → Int → Int → Bool) (v : Int → Int → Int → Value) : Ent := ent (fun args _ => match args with | [.agg ⟨[.int .i64 a, .int .i64 b]⟩, .int .i64 c] => g a b c | _ => false) (fun args _ => match args with | [.agg ⟨[.int .i64 a, .int .i64 b]⟩, .int .i64 c] => v a b c | _ => undef)
def eAA (g : Int → Int → Int → Int → Bool) (v : Int → Int → Int → Int → Value) : Ent := ent (fun args _ => match args with | [.agg ⟨[.int .i64 a, .int .i64 b]⟩, .agg ⟨[.int .i64 c, .int .i64 d]⟩] => g a b c d | _ => false) (fun args _ => match args with | [.agg ⟨[.int .i64 a, .int .i64 b]⟩, .agg ⟨[.int .i64 c, .int .i64 d]⟩] => v a b c d | _ => undef)
def e0 (v : Value) : Ent := ent (fun args _ => match args with | [] => true | _ => false) (fun _ _ => v)

theorem eI2_ok {C : Cfg} {f : Nat} {g : Int → Int → Bool} {v : Int → Int → Value} (h : ∀ a b, g a b = true → GrT C.P C.ro f [I a, I b] (v a b)) : EOk C f (eI2 g v) := EOk.ent fun args A hg => by
 split at hg
 ·exact (h _ _ hg).ro rfl A
 ·cases hg
theorem eI4_ok {C : Cfg} {f : Nat} {g : Int → Int → Int → Int → Bool} {v : Int → Int → Int → Int → Value} (h : ∀ a b c d, g a b c d = true → GrT C.P C.ro f [I a, I b, I c, I d] (v a b c d)) : EOk C f (eI4 g v) := EOk.ent fun args A hg => by
 split at hg
 ·exact (h _ _ _ _ hg).ro rfl A
 ·cases hg
theorem eA2_ok {C : Cfg} {f : Nat} {g : Int → Int → Bool} {v : Int → Int → Value} (h : ∀ a b, g a b = true → GrT C.P C.ro f [.agg ⟨[I a, I b]⟩] (v a b)) : EOk C f (eA2 g v) := EOk.ent fun args A hg => by
 split at hg
 ·exact (h _ _ hg).ro rfl A
 ·cases hg
theorem eI1_ok {C : Cfg} {f : Nat} {g : Int → Bool} {v : Int → Value} (h : ∀ a, g a = true → GrT C.P C.ro f [I a] (v a)) : EOk C f (eI1 g v) := EOk.ent fun args A hg => by
 split at hg
 ·exact (h _ hg).ro rfl A
 ·cases hg
theorem eA1I_ok {C : Cfg} {f : Nat} {g : Int → Int → Int → Bool} {v : Int → Int → Int → Value} (h : ∀ a b c, g a b c = true → GrT C.P C.ro f [.agg ⟨[I a, I b]⟩, I c] (v a b c)) : EOk C f (eA1I g v) := EOk.ent fun args A hg => by
 split at hg
 ·exact (h _ _ _ hg).ro rfl A
 ·cases hg
theorem eAA_ok {C : Cfg} {f : Nat} {g : Int → Int → Int → Int → Bool} {v : Int → Int → Int → Int → Value} (h : ∀ a b c d, g a b c d = true → GrT C.P C.ro f [.agg ⟨[I a, I b]⟩, .agg ⟨[I c, I d]⟩] (v a b c d)) : EOk C f (eAA g v) := EOk.ent fun args A hg => by
 split at hg
 ·exact (h _ _ _ _ hg).ro rfl A
 ·cases hg
theorem e0_ok {C : Cfg} {f : Nat} {v : Value} (h : GrT C.P C.ro f [] v) : EOk C f (e0 v) := EOk.ent fun args A hg => by
 split at hg
 ·exact h.ro rfl A
 ·cases hg

end Go.Proofs

/- Edges of a graph, as numbers in a row. -/
set_option linter.unusedVariables false
set_option linter.unusedSimpArgs false
namespace Go.Num

def ea (z : Nat → Int) (i : Nat) : Int := z (2 * i)
def eb (z : Nat → Int) (i : Nat) : Int := z (2 * i + 1)
def okAt (n : Int) (z : Nat → Int) (i : Nat) : Bool :=
 decide (0 ≤ ea z i) && decide (ea z i < eb z i) && decide (eb z i < n) && (i == 0 || decide (ea z (i - 1) < ea z i) || (decide (ea z (i - 1) = ea z i) && decide (eb z (i - 1) < eb z i)))
def okFrom (n : Int) (z : Nat → Int) : Nat → Nat → Bool
 | 0, _ => true
 | j + 1, k => okAt n z k && okFrom n z j (k + 1)
def okAll (n : Int) (z : Nat → Int) (m : Nat) : Bool := okFrom n z m 0
def ckG (n : Int) (z : Nat → Int) (m : Nat) : Int := if n < 1 ∨ n > 16 then 1 else if okAll n z m = true then 0 else 40

theorem okFrom_at {n : Int} {z : Nat → Int} : ∀ (j k : Nat), okFrom n z j k = true → ∀ i, k ≤ i → i < k + j → okAt n z i = true
 | 0, _, _, i, h1, h2 => by omega
 | j + 1, k, h, i, h1, h2 => by
  simp only [okFrom, Bool.and_eq_true] at h
  by_cases c : i = k
  ·subst c; exact h.1
  ·exact okFrom_at j (k + 1) h.2 i (by omega) (by omega)
theorem okAll_at {n : Int} {z : Nat → Int} {m : Nat} (h : okAll n z m = true) (i : Nat) (hi : i < m) : 0 ≤ ea z i ∧ ea z i < eb z i ∧ eb z i < n := by
 have := okFrom_at m 0 h i (by omega) (by omega)
 simp only [okAt, Bool.and_eq_true, decide_eq_true_eq] at this
 exact ⟨this.1.1.1, this.1.1.2, this.1.2⟩
theorem ckG_0 {n : Int} {z : Nat → Int} {m : Nat} (h : ckG n z m = 0) : 1 ≤ n ∧ n ≤ 16 ∧ okAll n z m = true := by
 unfold ckG at h
 split at h
 ·cases h
 ·split at h
  ·rename_i h1 h2; exact ⟨by omega, by omega, h2⟩
  ·cases h

end Go.Num

/- The reference's check of a graph, run. -/
set_option linter.unusedVariables false
set_option linter.unusedSimpArgs false
namespace Go.Proofs
open Go Go.Ev Go.Num

abbrev RS2 (b off len cap : Nat) : Value := .slice (some ⟨b, off, some 0⟩) len cap
end Go.Proofs

/- The reference's check of a graph: what the calls answer. -/
set_option linter.unusedVariables false
set_option linter.unusedSimpArgs false
namespace Go.Proofs
open Go Go.Ev Go.Num

def rowAt (r : Mem) (b off m : Nat) (z : Nat → Int) : Prop := ∀ j, j < m → r b (off + j) = some (I (z j))

end Go.Proofs

/- Rows of numbers, by a function. -/
namespace Go.Proofs
open Go Go.Ev Go.Num
set_option linter.unusedVariables false
set_option linter.unusedSimpArgs false
set_option maxRecDepth 100000

def ixN (f : Nat → Int) (m : Nat) : List Value := (List.range m).map fun j => I (f j)
theorem ix_len (f : Nat → Int) (m : Nat) : (ixN f m).length = m := by simp [ixN]
theorem ix_get {f : Nat → Int} {m j : Nat} (h : j < m) : (ixN f m)[j]? = some (I (f j)) := by simp [ixN, h]
theorem ix_nn (f : Nat → Int) (m : Nat) : m_nns (ixN f m) = true := by
 unfold ixN
 generalize List.range m = l
 induction l with
 | nil => rfl
 | cons x l ih => exact ih
theorem ix_gnd (f : Nat → Int) (m : Nat) : gnds (ixN f m) = true := by
 unfold ixN
 generalize List.range m = l
 induction l with
 | nil => rfl
 | cons x l ih => exact ih
theorem ix_ext {f g : Nat → Int} {m : Nat} (h : ∀ j, j < m → f j = g j) : ixN f m = ixN g m := by
 unfold ixN
 exact List.map_congr_left fun j hj => by rw [h j (List.mem_range.1 hj)]
theorem ix_set (f : Nat → Int) (m k : Nat) (v : Int) : (ixN f m).set k (I v) = ixN (fun j => if j = k then v else f j) m := by
 apply List.ext_getElem?
 intro j
 rw [List.getElem?_set]
 by_cases c : j < m
 ·rw [ix_get c, ix_get c, ix_len]
  by_cases d : k = j
  ·subst d; simp [c]
  ·have d' : ¬ j = k := fun e => d e.symm
   simp [d, d']
 ·have h1 : (ixN f m)[j]? = none := List.getElem?_eq_none (by rw [ix_len]; omega)
  have h2 : (ixN (fun j => if j = k then v else f j) m)[j]? = none := List.getElem?_eq_none (by rw [ix_len]; omega)
  rw [h1, h2, ix_len]
  split <;> rename_i e <;> simp [c, e]
theorem ix_set1 {f : Nat → Int} {m k : Nat} {v : Int} (h : k < m) : setAt (ixN f m) k [I v] = some (ixN (fun j => if j = k then v else f j) m) := by
 rw [setAt_one _ _ _ (by rw [ix_len]; exact h), ix_set]
theorem setA0_two : ∀ (c : List Value) (k : Nat) (v w : Value), k + 1 < c.length → setA0 c k [v, w] = some ((c.set k v).set (k + 1) w)
 | [], k, v, w, h => by simp at h
 | [x], k, v, w, h => by simp at h
 | x :: y :: l, 0, v, w, h => by simp [setA0]
 | x :: y :: l, k + 1, v, w, h => by
  have := setA0_two (y :: l) k v w (by simpa using h)
  simp only [setA0, this, List.set_cons_succ]
theorem ix_set2 {f : Nat → Int} {m k : Nat} {v w : Int} (h : k + 1 < m) : setAt (ixN f m) k [I v, I w] = some (ixN (fun j => if j = k + 1 then w else if j = k then v else f j) m) := by
 rw [setAt_old, setA0_two _ _ _ _ (by rw [ix_len]; exact h), ix_set, ix_set]
theorem ix_zero1 (n : Nat) : zerosL (Nat.mul n 1) [I (Int.ofNat 0)] = ixN (fun _ => 0) n := by
 show List.replicate (Nat.mul n 1) (I 0) = _
 rw [Nat.mul_eq, Nat.mul_one]
 apply List.ext_getElem?
 intro j
 by_cases c : j < n
 ·rw [ix_get c, List.getElem?_replicate, if_pos c]
 ·rw [List.getElem?_eq_none (by rw [List.length_replicate]; omega), List.getElem?_eq_none (by rw [ix_len]; omega)]
theorem ix_zero2 (n : Nat) : zerosL (Nat.mul n 2) [I (Int.ofNat 0), I (Int.ofNat 0)] = ixN (fun _ => 0) (2 * n) := by
 show (List.range (Nat.mul n 2)).map (fun j => match [I (Int.ofNat 0), I (Int.ofNat 0)][Nat.mod j 2]? with | some z => z | none => (default : Value)) = _
 unfold ixN
 rw [Nat.mul_eq, Nat.mul_comm]
 refine List.map_congr_left fun j _ => ?_
 have : ∀ k, k < 2 → (match [I (Int.ofNat 0), I (Int.ofNat 0)][k]? with | some z => z | none => (default : Value)) = I 0 := fun k hk => by
  match k, hk with
  | 0, _ => rfl
  | 1, _ => rfl
 exact this _ (Nat.mod_lt _ (by omega))
theorem isI_I (z : Int) : isI .i64 (I z) = true := rfl
theorem ofI_I (z : Int) : ofI (I z) = z := rfl

theorem SOk.mono {C : Cfg} {f : Nat} {args : List Value} {A : AW} {S S' : Value → AW → Prop} (h : SOk C f args A S) (hs : ∀ v A', S v A' → S' v A') : SOk C f args A S' := fun F hF k γ W args' hw hR ha =>
 (h F hF k γ W args' hw hR ha).mono fun e W' he => by
  obtain ⟨v, A', h1, h2⟩ := he
  exact ⟨v, A', hs v A' h1, h2⟩
theorem SOk.at {C : Cfg} {f : Nat} {args : List Value} {A A1 : AW} {v : Value} (h : SOk C f args A fun u B => u = v ∧ B = A1) : EOk C f (entAt args A v A1) := entAt_ok fun F hF k γ W args' hw hR ha => h.one F hF k γ W args' hw hR ha
theorem inc1 {k : Nat} (h : k ≤ 2000000) : IntKind.wrap IntKind.i64 (Int.ofNat k + Int.ofNat 1) = ((k + 1 : Nat) : Int) := by rw [wrI (by simp; omega)]; simp
theorem inc1' {k : Nat} (h : k ≤ 2000000) : IntKind.wrap IntKind.i64 ((k : Int) + Int.ofNat 1) = ((k + 1 : Nat) : Int) := by rw [wrI (by simp; omega)]; simp

def rowI (e : List Int) : List Value := e.map fun x => I x
theorem rowI_len (e : List Int) : (rowI e).length = e.length := by simp [rowI]
theorem rowI_nn (e : List Int) : m_nns (rowI e) = true := by
 induction e with
 | nil => rfl
 | cons x l ih => exact ih
theorem rowI_get {e : List Int} {k : Nat} (h : k < e.length) : (rowI e)[k]? = some (I (e.getD k 0)) := by
 simp [rowI, h, List.getD_eq_getElem?_getD]
theorem rowI_set (e : List Int) (k : Nat) (x : Int) : (rowI e).set k (I x) = rowI (e.set k x) := by simp [rowI, List.map_set]
theorem rowI_app (e : List Int) (x : Int) : rowI e ++ [I x] = rowI (e ++ [x]) := by simp [rowI]
theorem app_set (e : List Int) (x y : Int) : (e ++ [x]).set e.length y = e ++ [y] := by
 rw [List.set_append_right _ _ (Nat.le_refl _)]
 simp
theorem takeL_row (c : List Value) (n : Nat) (h : c.length = n) : takeAt c 0 n = some c := takeAt_all c n 0 c h fun j hj => by rw [Nat.zero_add]
theorem rowI_gnd (e : List Int) : gnds (rowI e) = true := by
 induction e with
 | nil => rfl
 | cons x l ih => exact ih
theorem rowI_ones (e : List Int) : ones (rowI e) = true := by
 induction e with
 | nil => rfl
 | cons x l ih => exact ih
theorem rowI_ix (f : Nat → Int) (m : Nat) : ixN f m = rowI ((List.range m).map f) := by
 unfold ixN rowI
 rw [List.map_map]
 rfl
theorem rowI_take {e : List Int} {j : Nat} (h : j ≤ e.length) : takeAt (rowI e) 0 j = some (rowI (e.take j)) :=
 takeAt_all _ _ _ _ (by rw [rowI_len, List.length_take]; omega) fun i hi => by
  rw [Nat.zero_add]
  unfold rowI
  rw [List.getElem?_map, List.getElem?_map, List.getElem?_take_of_lt hi]
theorem rowI_drop {e : List Int} {j m : Nat} (h : j + m = e.length) : takeAt (rowI e) j m = some (rowI (e.drop j)) :=
 takeAt_all _ _ _ _ (by rw [rowI_len, List.length_drop]; omega) fun i hi => by
  unfold rowI
  rw [List.getElem?_map, List.getElem?_map, List.getElem?_drop]
end Go.Proofs

/- Rows of the caller's, as memory. -/
namespace Go.Proofs
open Go Go.Ev Go.Num
set_option linter.unusedVariables false
set_option linter.unusedSimpArgs false

theorem natFx {i j : Nat} (h : i ≠ j) : Nat.beq i j = false := by
 cases e : Nat.beq i j with
 | false => rfl
 | true => exact absurd (Nat.eq_of_beq_eq_true e) h
theorem own_row {r : Mem} {γ : Gam} {A : AW} {W : World} (hw : WRel γ A W) (hR : Ro r γ W) {i len cap : Nat} (hcap : Nat.beq cap unkE = false) {c : List Value} {e f z : Nat} (hget : A.heap.get i = some (.cells c e f z)) {v' : Value} (hv : VRel γ (.slice (some ⟨i, 0, none⟩) len cap) v') :
  ∃ b k', VRel noG (RS b k' len 0) v' ∧ ∀ j u, c[j]? = some u → gnd u = true → memW W b (k' + j) = some u := by
 obtain ⟨b, k', c', rfl, hrd⟩ := rd_world hw hR hv hcap
 refine ⟨b, k', .sliceRo _ _ _ _ _ _ (by decide) (Nat.zero_le _), fun j u hu hg => hrd j u ?_ hg⟩
 simp only [AW.rd, AW.cell, hget]
 rw [Nat.add_eq, Nat.zero_add]
 exact hu

end Go.Proofs

/- Cut rows of the caller's, as memory. -/
namespace Go.Proofs
open Go Go.Ev Go.Num
set_option linter.unusedVariables false
set_option linter.unusedSimpArgs false

theorem own_cut {r : Mem} {γ : Gam} {A : AW} {W : World} (hw : WRel γ A W) (hR : Ro r γ W) {i k len cap : Nat} (hcap : Nat.beq cap unkE = false) {c : List Value} {e f z : Nat} (hget : A.heap.get i = some (.cells c e f z)) {v' : Value} (hv : VRel γ (.slice (some ⟨i, k, none⟩) len cap) v') :
  ∃ b k', VRel noG (RS b k' len 0) v' ∧ ∀ j u, c[k + j]? = some u → gnd u = true → memW W b (k' + j) = some u := by
 obtain ⟨b, k', c', rfl, hrd⟩ := rd_world hw hR hv hcap
 refine ⟨b, k', .sliceRo _ _ _ _ _ _ (by decide) (Nat.zero_le _), fun j u hu hg => hrd j u ?_ hg⟩
 simp only [AW.rd, AW.cell, hget]
 exact hu

end Go.Proofs

/- The law's copy of a table, run. -/
namespace Go.Proofs
open Go Go.Ev Go.Num
set_option linter.unusedVariables false
set_option linter.unusedSimpArgs false
set_option maxRecDepth 100000

noncomputable def cTB : Code := bodyOf S0 27
noncomputable def TB_0 : Code := (lc cTB)
noncomputable def TB_1 : Code := (lc (rc cTB))
noncomputable def TB_2 : Code := (lc (lc (rc (rc cTB))))
noncomputable def TB_3 : Code := (ic (ic (rc (lc (rc (rc cTB))))))
noncomputable def TB_4 : Code := (rc (rc (rc cTB)))
theorem TB_eq : cTB = (.seq TB_0 (.seq TB_1 (.seq (.seq TB_2 (.block 0 (.loop TB_3))) TB_4))) := by kernel_rfl
abbrev nilT : Value := .slice none 0 0
abbrev gwT (i n : Nat) : Value := .slice (some ⟨i, 0, none⟩) n unk
def oTb (c : List Value) (i : Nat) : Option AObj := some (.cells c 64 i 1)
def oBo (c : List Value) (i : Nat) : Option AObj := some (.cells c 4 i 1)
def lvTB : List Nat := [0, 3, 4]
def vTB (b off n cap : Nat) (E : Value) (k : Nat) : OV := [some (RS b off n cap), some E, some (I (k : Nat))]

theorem tbA (r : Mem) (b off n cap : Nat) (fs : FnsC) (K : OV → List Nat → OO → CR) (kx : Nat → KS) (kr : KS) : run (SC r) 61 33 1 (.seq TB_0 (.seq TB_1 TB_2)) fs none (rbK 0 lvTB [] K) kx kr (sc0 61 [RS b off n cap]) (tr0 61 [RS b off n cap]) [] emptyA =
    K [some (.slice (some ⟨b, off, some 0⟩) n cap), some (.slice none 0 0), some (I (Int.ofNat 0))] [] [] := by kernel_rfl

theorem tbBnN (r : Mem) (b off n cap k : Nat) (fs : FnsC) (K : OV → List Nat → OO → CR) (KX : Nat → OV → List Nat → OO → CR) (kr : KS) : run (SS r 1) 61 33 1 TB_3 fs none (rbK 0 lvTB [.t] K) (fun j => rbK 0 [3] [] (KX j)) kr [] (bT lvTB (vTB b off n cap nilT k) .nil) [] (mkA []) =
    bif decide (Int.ofNat k < Int.ofNat n) then bif decide (Int.ofNat k < 14) then bif Nat.blt (Int.toNat (Int.ofNat k)) n then Option.casesOn (r b (Nat.add off (Nat.mul (Int.toNat (Int.ofNat k)) 1))) (.fail 423) fun val => bif isNilS val then bif Nat.blt (Int.toNat (Int.ofNat k)) n then Option.casesOn (r b (Nat.add off (Nat.mul (Int.toNat (Int.ofNat k)) 1))) (.fail 423) fun val => bif isNilS val then K [some (.slice (some ⟨b, off, some 0⟩) n cap), some (.slice (some ⟨0, 0, none⟩) 1 unk), some (I (IntKind.wrap .i64 (Int.ofNat k + Int.ofNat 1)))] [] [some (.cells [.slice none 0 0] 64 0 1)] else .fail 420 else .fail 420 else .fail 420 else .fail 420 else KX 0 [some (.slice none 0 0)] [] [] else KX 0 [some (.slice none 0 0)] [] [] := by kernel_rfl

theorem tbBoN (r : Mem) (b off n cap k m : Nat) (c : List Value) (fs : FnsC) (K : OV → List Nat → OO → CR) (KX : Nat → OV → List Nat → OO → CR) (kr : KS) : run (SS r 1) 61 33 1 TB_3 fs none (rbK 0 lvTB [.q []] K) (fun j => rbK 0 [3] [] (KX j)) kr [] (bT lvTB (vTB b off n cap (gwT 0 m) k) .nil) [] (mkA [oTb c 0]) =
    bif decide (Int.ofNat k < Int.ofNat n) then bif decide (Int.ofNat k < 14) then bif Nat.blt (Int.toNat (Int.ofNat k)) n then Option.casesOn (r b (Nat.add off (Nat.mul (Int.toNat (Int.ofNat k)) 1))) (.fail 423) fun val => bif isNilS val then bif Nat.blt (Int.toNat (Int.ofNat k)) n then Option.casesOn (r b (Nat.add off (Nat.mul (Int.toNat (Int.ofNat k)) 1))) (.fail 423) fun val => bif isNilS val then bif Nat.ble (Nat.add m 1) 1000000 then Option.casesOn (takeAt c 0 (Nat.mul m 1)) (.fail 439) fun val => bif m_nopo (m_mvq [2] (val ++ [.slice none 0 0])) && true then K [some (.slice (some ⟨b, off, some 0⟩) n cap), some (.slice (some ⟨0, 0, none⟩) (Nat.add m 1) unk), some (I (IntKind.wrap .i64 (Int.ofNat k + Int.ofNat 1)))] [] [some (.cells (m_mvq [2] (val ++ [.slice none 0 0])) 64 0 1)] else .fail 420 else .fail 420 else .fail 420 else .fail 420 else .fail 420 else .fail 420 else bif m_nns c && true then KX 0 [some (.slice (some ⟨0, 0, none⟩) m unk)] [] [some (.cells c 64 0 1)] else .fail 420 else bif m_nns c && true then KX 0 [some (.slice (some ⟨0, 0, none⟩) m unk)] [] [some (.cells c 64 0 1)] else .fail 420 := by kernel_rfl

theorem tbBnR (r : Mem) (b off n cap k : Nat) (fs : FnsC) (K : OV → List Nat → OO → CR) (KX : Nat → OV → List Nat → OO → CR) (kr : KS) : run (SS r 2) 61 33 1 TB_3 fs none (rbK 0 lvTB [.t] K) (fun j => rbK 0 [3] [] (KX j)) kr [] (bT lvTB (vTB b off n cap nilT k) .nil) [] (mkA []) =
    bif decide (Int.ofNat k < Int.ofNat n) then bif decide (Int.ofNat k < 14) then bif Nat.blt (Int.toNat (Int.ofNat k)) n then Option.casesOn (r b (Nat.add off (Nat.mul (Int.toNat (Int.ofNat k)) 1))) (.fail 423) fun val => bif isRoS val then bif Nat.blt (Int.toNat (Int.ofNat k)) n then Option.casesOn (r b (Nat.add off (Nat.mul (Int.toNat (Int.ofNat k)) 1))) (.fail 423) fun val_1 => bif isRoS val_1 then bif decide (0 ≤ bif decide (14 < Int.ofNat (lnOf val_1)) then Int.ofNat 14 else Int.ofNat (lnOf val_1)) then bif Nat.beq (cpOf val) 9223372036854775809 then .fail 435 else bif Nat.ble (Int.toNat (bif decide (14 < Int.ofNat (lnOf val_1)) then Int.ofNat 14 else Int.ofNat (lnOf val_1))) (cpOf val) then bif Nat.beq (Int.toNat (bif decide (14 < Int.ofNat (lnOf val_1)) then Int.ofNat 14 else Int.ofNat (lnOf val_1))) 0 then K [some (.slice (some ⟨b, off, some 0⟩) n cap), some (.slice (some ⟨0, 0, none⟩) 1 unk), some (I (IntKind.wrap .i64 (Int.ofNat k + Int.ofNat 1)))] [] [some (.cells [.slice none 0 0] 64 0 1)] else bif Nat.ble (Nat.add 0 (Nat.sub (Int.toNat (bif decide (14 < Int.ofNat (lnOf val_1)) then Int.ofNat 14 else Int.ofNat (lnOf val_1))) 0)) 1000000 then Option.casesOn (match Nat.beq (Nat.sub (cpOf val) 0) unkE with | true => none | false => takeF (Cfg.ro (SS r 2) (blkOf val)) (Nat.add (offOf val) (Nat.mul 0 (TypeInfo.size Tryd.t4))) (Nat.mul (Nat.sub (Int.toNat (bif decide (14 < Int.ofNat (lnOf val_1)) then 14 else Int.ofNat (lnOf val_1))) 0) (TypeInfo.size Tryd.t4))) (.fail 443) fun val => bif Nat.beq (List.length val) (Nat.mul (Nat.sub (Int.toNat (bif decide (14 < Int.ofNat (lnOf val_1)) then Int.ofNat 14 else Int.ofNat (lnOf val_1))) 0) 1) then bif Nat.beq (Nat.sub (Int.toNat (bif decide (14 < Int.ofNat (lnOf val_1)) then Int.ofNat 14 else Int.ofNat (lnOf val_1))) 0) 0 then K [some (.slice (some ⟨b, off, some 0⟩) n cap), some (.slice (some ⟨0, 0, none⟩) 1 unk), some (I (IntKind.wrap .i64 (Int.ofNat k + Int.ofNat 1)))] [] [some (.cells [.slice none 0 0] 64 0 1)] else bif true && (m_nns val && true) then K [some (.slice (some ⟨b, off, some 0⟩) n cap), some (.slice (some ⟨0, 0, none⟩) 1 unk), some (I (IntKind.wrap .i64 (Int.ofNat k + Int.ofNat 1)))] [] [some (.cells [.slice (some ⟨1, 0, none⟩) (Nat.sub (Int.toNat (bif decide (14 < Int.ofNat (lnOf val_1)) then Int.ofNat 14 else Int.ofNat (lnOf val_1))) 0) unk] 64 0 1), some (.cells val 4 1 1)] else .fail 420 else .fail 420 else .fail 420 else .fail 420 else .fail 420 else .fail 420 else .fail 420 else .fail 420 else .fail 420 else KX 0 [some (.slice none 0 0)] [] [] else KX 0 [some (.slice none 0 0)] [] [] := by kernel_rfl

theorem tbBoR (r : Mem) (b off n cap k m : Nat) (c : List Value) (fs : FnsC) (K : OV → List Nat → OO → CR) (KX : Nat → OV → List Nat → OO → CR) (kr : KS) : run (SS r 2) 61 33 1 TB_3 fs none (rbK 0 lvTB [.q [1]] K) (fun j => rbK 0 [3] [] (KX j)) kr [] (bT lvTB (vTB b off n cap (gwT 0 m) k) .nil) [] (mkA [oTb c 0]) =
    bif decide (Int.ofNat k < Int.ofNat n) then bif decide (Int.ofNat k < 14) then bif Nat.blt (Int.toNat (Int.ofNat k)) n then Option.casesOn (r b (Nat.add off (Nat.mul (Int.toNat (Int.ofNat k)) 1))) (.fail 423) fun val => bif isRoS val then bif Nat.blt (Int.toNat (Int.ofNat k)) n then Option.casesOn (r b (Nat.add off (Nat.mul (Int.toNat (Int.ofNat k)) 1))) (.fail 423) fun val_1 => bif isRoS val_1 then bif decide (0 ≤ bif decide (14 < Int.ofNat (lnOf val_1)) then Int.ofNat 14 else Int.ofNat (lnOf val_1)) then bif Nat.beq (cpOf val) 9223372036854775809 then .fail 435 else bif Nat.ble (Int.toNat (bif decide (14 < Int.ofNat (lnOf val_1)) then Int.ofNat 14 else Int.ofNat (lnOf val_1))) (cpOf val) then bif Nat.beq (Int.toNat (bif decide (14 < Int.ofNat (lnOf val_1)) then Int.ofNat 14 else Int.ofNat (lnOf val_1))) 0 then bif Nat.ble (Nat.add m 1) 1000000 then Option.casesOn (takeAt c 0 (Nat.mul m 1)) (.fail 439) fun val => bif m_nopo (m_mvq [2, 1] (val ++ [.slice none 0 0])) && (m_nns [.slice none 0 0] && true) then K [some (.slice (some ⟨b, off, some 0⟩) n cap), some (.slice (some ⟨0, 0, none⟩) (Nat.add m 1) unk), some (I (IntKind.wrap .i64 (Int.ofNat k + Int.ofNat 1)))] [] [some (.cells (m_mvq [2, 1] (val ++ [.slice none 0 0])) 64 0 1), some (.cells [.slice none 0 0] 64 1 1)] else .fail 420 else .fail 420 else bif Nat.ble (Nat.add 0 (Nat.sub (Int.toNat (bif decide (14 < Int.ofNat (lnOf val_1)) then Int.ofNat 14 else Int.ofNat (lnOf val_1))) 0)) 1000000 then Option.casesOn (match Nat.beq (Nat.sub (cpOf val) 0) unkE with | true => none | false => takeF (Cfg.ro (SS r 2) (blkOf val)) (Nat.add (offOf val) (Nat.mul 0 (TypeInfo.size Tryd.t4))) (Nat.mul (Nat.sub (Int.toNat (bif decide (14 < Int.ofNat (lnOf val_1)) then 14 else Int.ofNat (lnOf val_1))) 0) (TypeInfo.size Tryd.t4))) (.fail 443) fun val => bif Nat.beq (List.length val) (Nat.mul (Nat.sub (Int.toNat (bif decide (14 < Int.ofNat (lnOf val_1)) then Int.ofNat 14 else Int.ofNat (lnOf val_1))) 0) 1) then bif Nat.beq (Nat.sub (Int.toNat (bif decide (14 < Int.ofNat (lnOf val_1)) then Int.ofNat 14 else Int.ofNat (lnOf val_1))) 0) 0 then bif Nat.ble (Nat.add m 1) 1000000 then Option.casesOn (takeAt c 0 (Nat.mul m 1)) (.fail 439) fun val => bif m_nopo (m_mvq [2, 1] (val ++ [.slice none 0 0])) && (m_nns [.slice none 0 0] && true) then K [some (.slice (some ⟨b, off, some 0⟩) n cap), some (.slice (some ⟨0, 0, none⟩) (Nat.add m 1) unk), some (I (IntKind.wrap .i64 (Int.ofNat k + Int.ofNat 1)))] [] [some (.cells (m_mvq [2, 1] (val ++ [.slice none 0 0])) 64 0 1), some (.cells [.slice none 0 0] 64 1 1)] else .fail 420 else .fail 420 else bif Nat.ble (Nat.add m 1) 1000000 then Option.casesOn (takeAt c 0 (Nat.mul m 1)) (.fail 439) fun val_2 => bif m_nopo (m_mvq [3, 1] (val_2 ++ [.slice (some ⟨1, 0, none⟩) (Nat.sub (Int.toNat (bif decide (14 < Int.ofNat (lnOf val_1)) then Int.ofNat 14 else Int.ofNat (lnOf val_1))) 0) unk])) && (m_nns val && true) then K [some (.slice (some ⟨b, off, some 0⟩) n cap), some (.slice (some ⟨0, 0, none⟩) (Nat.add m 1) unk), some (I (IntKind.wrap .i64 (Int.ofNat k + Int.ofNat 1)))] [] [some (.cells (m_mvq [3, 1] (val_2 ++ [.slice (some ⟨1, 0, none⟩) (Nat.sub (Int.toNat (bif decide (14 < Int.ofNat (lnOf val_1)) then Int.ofNat 14 else Int.ofNat (lnOf val_1))) 0) unk])) 64 0 1), some (.cells val 4 1 1)] else .fail 420 else .fail 420 else .fail 420 else .fail 420 else .fail 420 else .fail 420 else .fail 420 else .fail 420 else .fail 420 else .fail 420 else bif m_nns c && true then KX 0 [some (.slice (some ⟨0, 0, none⟩) m unk)] [] [some (.cells c 64 0 1)] else .fail 420 else bif m_nns c && true then KX 0 [some (.slice (some ⟨0, 0, none⟩) m unk)] [] [some (.cells c 64 0 1)] else .fail 420 := by kernel_rfl

theorem tbBoZ (r : Mem) (b off n cap k m : Nat) (c : List Value) (fs : FnsC) (K : OV → List Nat → OO → CR) (KX : Nat → OV → List Nat → OO → CR) (kr : KS) : run (SS r 2) 61 33 1 TB_3 fs none (rbK 0 lvTB [.q []] K) (fun j => rbK 0 [3] [] (KX j)) kr [] (bT lvTB (vTB b off n cap (gwT 0 m) k) .nil) [] (mkA [oTb c 0]) =
    bif decide (Int.ofNat k < Int.ofNat n) then bif decide (Int.ofNat k < 14) then bif Nat.blt (Int.toNat (Int.ofNat k)) n then Option.casesOn (r b (Nat.add off (Nat.mul (Int.toNat (Int.ofNat k)) 1))) (.fail 423) fun val => bif isRoS val then bif Nat.blt (Int.toNat (Int.ofNat k)) n then Option.casesOn (r b (Nat.add off (Nat.mul (Int.toNat (Int.ofNat k)) 1))) (.fail 423) fun val_1 => bif isRoS val_1 then bif decide (0 ≤ bif decide (14 < Int.ofNat (lnOf val_1)) then Int.ofNat 14 else Int.ofNat (lnOf val_1)) then bif Nat.beq (cpOf val) 9223372036854775809 then .fail 435 else bif Nat.ble (Int.toNat (bif decide (14 < Int.ofNat (lnOf val_1)) then Int.ofNat 14 else Int.ofNat (lnOf val_1))) (cpOf val) then bif Nat.beq (Int.toNat (bif decide (14 < Int.ofNat (lnOf val_1)) then Int.ofNat 14 else Int.ofNat (lnOf val_1))) 0 then bif Nat.ble (Nat.add m 1) 1000000 then Option.casesOn (takeAt c 0 (Nat.mul m 1)) (.fail 439) fun val => bif m_nopo (m_mvq [2] (val ++ [.slice none 0 0])) && true then K [some (.slice (some ⟨b, off, some 0⟩) n cap), some (.slice (some ⟨0, 0, none⟩) (Nat.add m 1) unk), some (I (IntKind.wrap .i64 (Int.ofNat k + Int.ofNat 1)))] [] [some (.cells (m_mvq [2] (val ++ [.slice none 0 0])) 64 0 1)] else .fail 420 else .fail 420 else bif Nat.ble (Nat.add 0 (Nat.sub (Int.toNat (bif decide (14 < Int.ofNat (lnOf val_1)) then Int.ofNat 14 else Int.ofNat (lnOf val_1))) 0)) 1000000 then Option.casesOn (match Nat.beq (Nat.sub (cpOf val) 0) unkE with | true => none | false => takeF (Cfg.ro (SS r 2) (blkOf val)) (Nat.add (offOf val) (Nat.mul 0 (TypeInfo.size Tryd.t4))) (Nat.mul (Nat.sub (Int.toNat (bif decide (14 < Int.ofNat (lnOf val_1)) then 14 else Int.ofNat (lnOf val_1))) 0) (TypeInfo.size Tryd.t4))) (.fail 443) fun val => bif Nat.beq (List.length val) (Nat.mul (Nat.sub (Int.toNat (bif decide (14 < Int.ofNat (lnOf val_1)) then Int.ofNat 14 else Int.ofNat (lnOf val_1))) 0) 1) then bif Nat.beq (Nat.sub (Int.toNat (bif decide (14 < Int.ofNat (lnOf val_1)) then Int.ofNat 14 else Int.ofNat (lnOf val_1))) 0) 0 then bif Nat.ble (Nat.add m 1) 1000000 then Option.casesOn (takeAt c 0 (Nat.mul m 1)) (.fail 439) fun val => bif m_nopo (m_mvq [2] (val ++ [.slice none 0 0])) && true then K [some (.slice (some ⟨b, off, some 0⟩) n cap), some (.slice (some ⟨0, 0, none⟩) (Nat.add m 1) unk), some (I (IntKind.wrap .i64 (Int.ofNat k + Int.ofNat 1)))] [] [some (.cells (m_mvq [2] (val ++ [.slice none 0 0])) 64 0 1)] else .fail 420 else .fail 420 else bif Nat.ble (Nat.add m 1) 1000000 then Option.casesOn (takeAt c 0 (Nat.mul m 1)) (.fail 439) fun val => bif m_nopo (m_mvq [3] (val ++ [.slice (some ⟨1, 0, none⟩) (Nat.sub (Int.toNat (bif decide (14 < Int.ofNat (lnOf val_1)) then Int.ofNat 14 else Int.ofNat (lnOf val_1))) 0) unk])) && true then K [some (.slice (some ⟨b, off, some 0⟩) n cap), some (.slice (some ⟨0, 0, none⟩) (Nat.add m 1) unk), some (I (IntKind.wrap .i64 (Int.ofNat k + Int.ofNat 1)))] [] [some (.cells (m_mvq [3] (val ++ [.slice (some ⟨1, 0, none⟩) (Nat.sub (Int.toNat (bif decide (14 < Int.ofNat (lnOf val_1)) then Int.ofNat 14 else Int.ofNat (lnOf val_1))) 0) unk])) 64 0 1)] else .fail 420 else .fail 420 else .fail 420 else .fail 420 else .fail 420 else .fail 420 else .fail 420 else .fail 420 else .fail 420 else .fail 420 else bif m_nns c && true then KX 0 [some (.slice (some ⟨0, 0, none⟩) m unk)] [] [some (.cells c 64 0 1)] else .fail 420 else bif m_nns c && true then KX 0 [some (.slice (some ⟨0, 0, none⟩) m unk)] [] [some (.cells c 64 0 1)] else .fail 420 := by kernel_rfl

theorem tbBnE (r : Mem) (b off n cap k : Nat) (fs : FnsC) (K : OV → List Nat → OO → CR) (KX : Nat → OV → List Nat → OO → CR) (kr : KS) : run (SS r 3) 61 33 1 TB_3 fs none (rbK 0 lvTB [.t] K) (fun j => rbK 0 [3] [] (KX j)) kr [] (bT lvTB (vTB b off n cap nilT k) .nil) [] (mkA []) =
    bif decide (Int.ofNat k < Int.ofNat n) then bif decide (Int.ofNat k < 14) then bif Nat.blt (Int.toNat (Int.ofNat k)) n then Option.casesOn (r b (Nat.add off (Nat.mul (Int.toNat (Int.ofNat k)) 1))) (.fail 423) fun val => bif isES val then bif Nat.blt (Int.toNat (Int.ofNat k)) n then Option.casesOn (r b (Nat.add off (Nat.mul (Int.toNat (Int.ofNat k)) 1))) (.fail 423) fun val => bif isES val then K [some (.slice (some ⟨b, off, some 0⟩) n cap), some (.slice (some ⟨0, 0, none⟩) 1 unk), some (I (IntKind.wrap .i64 (Int.ofNat k + Int.ofNat 1)))] [] [some (.cells [.slice none 0 0] 64 0 1)] else .fail 420 else .fail 420 else .fail 420 else .fail 420 else KX 0 [some (.slice none 0 0)] [] [] else KX 0 [some (.slice none 0 0)] [] [] := by kernel_rfl

theorem tbBoE (r : Mem) (b off n cap k m : Nat) (c : List Value) (fs : FnsC) (K : OV → List Nat → OO → CR) (KX : Nat → OV → List Nat → OO → CR) (kr : KS) : run (SS r 3) 61 33 1 TB_3 fs none (rbK 0 lvTB [.q []] K) (fun j => rbK 0 [3] [] (KX j)) kr [] (bT lvTB (vTB b off n cap (gwT 0 m) k) .nil) [] (mkA [oTb c 0]) =
    bif decide (Int.ofNat k < Int.ofNat n) then bif decide (Int.ofNat k < 14) then bif Nat.blt (Int.toNat (Int.ofNat k)) n then Option.casesOn (r b (Nat.add off (Nat.mul (Int.toNat (Int.ofNat k)) 1))) (.fail 423) fun val => bif isES val then bif Nat.blt (Int.toNat (Int.ofNat k)) n then Option.casesOn (r b (Nat.add off (Nat.mul (Int.toNat (Int.ofNat k)) 1))) (.fail 423) fun val => bif isES val then bif Nat.ble (Nat.add m 1) 1000000 then Option.casesOn (takeAt c 0 (Nat.mul m 1)) (.fail 439) fun val => bif m_nopo (m_mvq [2] (val ++ [.slice none 0 0])) && true then K [some (.slice (some ⟨b, off, some 0⟩) n cap), some (.slice (some ⟨0, 0, none⟩) (Nat.add m 1) unk), some (I (IntKind.wrap .i64 (Int.ofNat k + Int.ofNat 1)))] [] [some (.cells (m_mvq [2] (val ++ [.slice none 0 0])) 64 0 1)] else .fail 420 else .fail 420 else .fail 420 else .fail 420 else .fail 420 else .fail 420 else bif m_nns c && true then KX 0 [some (.slice (some ⟨0, 0, none⟩) m unk)] [] [some (.cells c 64 0 1)] else .fail 420 else bif m_nns c && true then KX 0 [some (.slice (some ⟨0, 0, none⟩) m unk)] [] [some (.cells c 64 0 1)] else .fail 420 := by kernel_rfl

theorem tbCn (r : Mem) (fs : FnsC) (K KR : OV → List Nat → OO → CR) (kx : Nat → KS) : run (SC r) 61 33 1 TB_4 fs none (rbK 0 [2] [] K) kx (rbK 0 [2] [] KR) [] (bT [3] [some nilT] .nil) [] (mkA []) =
    KR [some (.slice none 0 0)] [] [] := by kernel_rfl

theorem tbCo (r : Mem) (m : Nat) (c : List Value) (fs : FnsC) (K KR : OV → List Nat → OO → CR) (kx : Nat → KS) : run (SC r) 61 33 1 TB_4 fs none (rbK 0 [2] [] K) kx (rbK 0 [2] [] KR) [] (bT [3] [some (gwT 0 m)] .nil) [] (mkA [oTb c 0]) =
    bif m_nns c && true then KR [some (.slice (some ⟨0, 0, none⟩) m unk)] [] [some (.cells c 64 0 1)] else .fail 420 := by kernel_rfl

end Go.Proofs

/- A condition between pieces of code. -/
set_option linter.unusedVariables false
set_option linter.unusedSimpArgs false
namespace Go.Ev
open Go

theorem Reach.condT {C : Cfg} {m n : Nat} {F : Fence} {k : Nat} {γ0 : Gam} {W0 : World} {c : Operand} {x y : Code} {st : St} {Q : Exit → St → Prop} (h : opd m st.en c = some (.bool true)) (hx : Reach C m n F k γ0 W0 x st Q) : Reach C m n F k γ0 W0 (.cond c x y) st Q := fun γ a W hs hb => by
 have hv := opd_rel hs.tm h
 refine wpIn_cond_true (c := c) ?_ (hx γ a W hs hb)
 generalize a.eval c = v at hv
 cases hv
 rfl
theorem Reach.condF {C : Cfg} {m n : Nat} {F : Fence} {k : Nat} {γ0 : Gam} {W0 : World} {c : Operand} {x y : Code} {st : St} {Q : Exit → St → Prop} (h : opd m st.en c = some (.bool false)) (hx : Reach C m n F k γ0 W0 y st Q) : Reach C m n F k γ0 W0 (.cond c x y) st Q := fun γ a W hs hb => by
 have hv := opd_rel hs.tm h
 refine wpIn_cond_false (c := c) ?_ (hx γ a W hs hb)
 generalize a.eval c = v at hv
 cases hv
 rfl
end Go.Ev

/- The law's copy of a table: what the call answers. -/
namespace Go.Proofs
open Go Go.Ev Go.Num
set_option linter.unusedVariables false
set_option linter.unusedSimpArgs false
set_option maxRecDepth 100000

mutual
theorem gnd_nn : (v : Value) → gnd v = true → nn v = true
 | .bool _, _ => rfl
 | .int _ _, _ => rfl
 | .float _ _, _ => rfl
 | .complex _ _ _, _ => rfl
 | .string _, _ => rfl
 | .pointer none, _ => rfl
 | .pointer (some ⟨_, _, none⟩), h => by simp [gnd] at h
 | .pointer (some ⟨_, _, some _⟩), _ => rfl
 | .slice none l c, h => h
 | .slice (some ⟨_, _, none⟩) _ _, h => by simp [gnd] at h
 | .slice (some ⟨_, _, some _⟩) _ _, _ => rfl
 | .map none, _ => rfl
 | .map (some _), h => by simp [gnd] at h
 | .chan none, _ => rfl
 | .chan (some _), h => by simp [gnd] at h
 | .func _ _ _, h => h
 | .nilFunc, _ => rfl
 | .iface t v, h => gnd_nn v h
 | .nilIface, _ => rfl
 | .agg ⟨l⟩, h => gnds_nns l h
 | .tuple ⟨l⟩, h => h
theorem gnds_nns : (l : List Value) → gnds l = true → nns l = true
 | [], _ => rfl
 | v :: l, h => by
  simp only [gnds, Bool.and_eq_true] at h
  simp only [nns, gnd_nn v h.1, gnds_nns l h.2, Bool.and_self]
end
mutual
theorem mvV_nn {ns : List Nat} : (v : Value) → nn v = true → mvV ns v = (ns, v)
 | .bool _, _ => rfl
 | .int _ _, _ => rfl
 | .float _ _, _ => rfl
 | .complex _ _ _, _ => rfl
 | .string _, _ => rfl
 | .pointer none, _ => rfl
 | .pointer (some ⟨_, _, none⟩), h => by simp [nn, gnd] at h
 | .pointer (some ⟨_, _, some _⟩), _ => rfl
 | .slice none l c, h => rfl
 | .slice (some ⟨_, _, none⟩) _ _, h => by simp [nn, gnd] at h
 | .slice (some ⟨_, _, some _⟩) _ _, _ => rfl
 | .map none, _ => rfl
 | .map (some _), h => by simp [nn, gnd] at h
 | .chan _, _ => rfl
 | .func (.func f) ⟨a⟩ ⟨c⟩, h => by
  have h' : (gnds a && gnds c) = true := h
  simp only [Bool.and_eq_true] at h'
  simp only [mvV, mvVs_nn a (gnds_nns a h'.1), mvVs_nn c (gnds_nns c h'.2)]
 | .func (.method _) _ _, h => by simp [nn, gnd] at h
 | .func (.methodOf _ _) _ _, h => by simp [nn, gnd] at h
 | .func (.via _ _ _ _) _ _, h => by simp [nn, gnd] at h
 | .func (.yield _) _ _, h => by simp [nn, gnd] at h
 | .nilFunc, _ => rfl
 | .iface t v, h => by simp only [mvV, mvV_nn v h]
 | .nilIface, _ => rfl
 | .agg ⟨l⟩, h => by simp only [mvV, mvVs_nn l h]
 | .tuple ⟨l⟩, h => by simp only [mvV, mvVs_nn l (gnds_nns l h)]
theorem mvVs_nn {ns : List Nat} : (l : List Value) → nns l = true → mvVs ns l = (ns, l)
 | [], _ => rfl
 | v :: l, h => by
  simp only [nns, Bool.and_eq_true] at h
  simp only [mvVs, mvV_nn v h.1, mvVs_nn l h.2]
end
theorem mvq_nn {ns : List Nat} : ∀ {c : List Value}, m_nns c = true → m_mvq ns c = c
 | [], _ => rfl
 | v :: c, h => by
  have h' : (nn v && nns c) = true := h
  simp only [Bool.and_eq_true] at h'
  have ih := mvq_nn (ns := ns) (c := c) h'.2
  unfold m_mvq at ih ⊢
  rw [List.map_cons, ih]
  have : mvV ns v = (ns, v) := mvV_nn v h'.1
  unfold mvq1
  rw [this]
  simp only [Nat.beq_refl]
theorem mvq_app (ns : List Nat) (c d : List Value) : m_mvq ns (c ++ d) = m_mvq ns c ++ m_mvq ns d := by unfold m_mvq; rw [List.map_append]
theorem nopo_nn : ∀ {c : List Value}, m_nns c = true → m_nopo c = true
 | [], _ => rfl
 | v :: c, h => by
  have h' : (nn v && nns c) = true := h
  simp only [Bool.and_eq_true] at h'
  have ih := nopo_nn (c := c) h'.2
  unfold m_nopo at ih ⊢
  rw [List.all_cons, ih, Bool.and_true]
  cases v with
  | chan o => cases o with
   | none => rfl
   | some x => simp [nn, gnd] at h'
  | _ => rfl
theorem nopo_app (c d : List Value) : m_nopo (c ++ d) = (m_nopo c && m_nopo d) := by unfold m_nopo; rw [List.all_append]
theorem nns_app : ∀ (c d : List Value), m_nns (c ++ d) = (m_nns c && m_nns d)
 | [], d => rfl
 | v :: c, d => by
  have ih := nns_app c d
  unfold m_nns at ih ⊢
  rw [List.cons_append, nns, nns, ih, Bool.and_assoc]

def boL (l : List Bool) : List Value := l.map .bool
theorem boL_len (l : List Bool) : (boL l).length = l.length := by simp [boL]
theorem boL_nn : ∀ l : List Bool, m_nns (boL l) = true
 | [] => rfl
 | b :: l => by
  have ih := boL_nn l
  unfold m_nns boL at ih ⊢
  rw [List.map_cons, nns, ih]
  rfl
def RowV (r : Mem) (v : Value) (l : List Bool) : Prop := (l = [] ∧ v = nilT) ∨ (l ≠ [] ∧ ∃ b o cap, v = RS b o l.length cap ∧ ∀ j x, l[j]? = some x → r b (o + j) = some (.bool x))
theorem RowV.mono {r r' : Mem} (hle : Mem.le r r') {v : Value} {l : List Bool} (h : RowV r v l) : RowV r' v l := by
 rcases h with h | ⟨h1, b, o, cap, h2, h3⟩
 ·exact .inl h
 ·exact .inr ⟨h1, b, o, cap, h2, fun j x hx => hle _ _ _ (h3 j x hx)⟩
def TabC (r : Mem) (c : List Value) (T : List (List Bool)) : Prop := c.length = T.length ∧ ∀ (i : Nat) v l, c[i]? = some v → T[i]? = some l → RowV r v l
theorem TabC.mono {r r' : Mem} (hle : Mem.le r r') {c : List Value} {T : List (List Bool)} (h : TabC r c T) : TabC r' c T := ⟨h.1, fun i v l h1 h2 => (h.2 i v l h1 h2).mono hle⟩
theorem TabC.snoc {r : Mem} {c : List Value} {T : List (List Bool)} (h : TabC r c T) {v : Value} {l : List Bool} (hv : RowV r v l) : TabC r (c ++ [v]) (T ++ [l]) := by
 refine ⟨by simp [h.1], fun i u m h1 h2 => ?_⟩
 by_cases hi : i < c.length
 ·rw [List.getElem?_append_left hi] at h1
  rw [List.getElem?_append_left (by rw [← h.1]; exact hi)] at h2
  exact h.2 i u m h1 h2
 ·rw [List.getElem?_append_right (by omega)] at h1
  rw [List.getElem?_append_right (by rw [← h.1]; omega), ← h.1] at h2
  cases hk : i - c.length with
  | zero =>
   rw [hk] at h1 h2
   simp at h1 h2
   subst h1 h2
   exact hv
  | succ j => rw [hk] at h1; simp at h1
noncomputable def inRow (r : Mem) (u : Value) : List Bool := match u with
 | .slice (some ⟨b, o, some _⟩) l _ => (List.range (min l 14)).map fun j => ofB ((r b (o + j)).getD undef)
 | _ => []
noncomputable def inTab (r : Mem) (b off m : Nat) : List (List Bool) := (List.range m).map fun i => inRow r ((r b (off + i)).getD undef)
theorem inTab_len (r : Mem) (b off m : Nat) : (inTab r b off m).length = m := by simp [inTab]
theorem inTab_succ (r : Mem) (b off m : Nat) : inTab r b off (m + 1) = inTab r b off m ++ [inRow r ((r b (off + m)).getD undef)] := by
 unfold inTab
 rw [List.range_succ, List.map_append]
 rfl
def TbO (r1 : Mem) (T : List (List Bool)) (E : Value) (os : OO) : Prop := (T = [] ∧ E = nilT ∧ os = []) ∨ (T ≠ [] ∧ ∃ c, E = gwT 0 T.length ∧ os = [oTb c 0] ∧ TabC r1 c T ∧ m_nns c = true)
def TbI (r : Mem) (b off n cap : Nat) (k : Nat) (r1 : Mem) (vs : OV) (ms : List Nat) (os : OO) : Prop := ms = [] ∧ Mem.le r r1 ∧ ∃ E, vs = vTB b off n cap E k ∧ TbO r1 (inTab r b off k) E os
def TbX (r : Mem) (b off n : Nat) (r1 : Mem) (vs : OV) (ms : List Nat) (os : OO) : Prop := ms = [] ∧ Mem.le r r1 ∧ ∃ E, vs = [some E] ∧ TbO r1 (inTab r b off (min n 14)) E os

end Go.Proofs

/- The law's copy of a table: a round. -/
namespace Go.Proofs
open Go Go.Ev Go.Num
set_option linter.unusedVariables false
set_option linter.unusedSimpArgs false
set_option maxRecDepth 100000

theorem ro_RS (b o l c : Nat) : isRoS (RS b o l c) = true := rfl
theorem ln_RS (b o l c : Nat) : lnOf (RS b o l c) = l := rfl
theorem cp_RS (b o l c : Nat) : cpOf (RS b o l c) = c := rfl
theorem bk_RS (b o l c : Nat) : blkOf (RS b o l c) = b := rfl
theorem of_RS (b o l c : Nat) : offOf (RS b o l c) = o := rfl
theorem min14 (l : Nat) : (bif decide ((14 : Int) < (l : Int)) then (14 : Int) else (l : Int)) = ((min l 14 : Nat) : Int) := by
 by_cases h : (14 : Int) < (l : Int)
 ·rw [dT h, cond_true]; omega
 ·rw [dF h, cond_false]; omega
theorem takeF_bo {f : Nat → Option Value} : ∀ (l : List Bool) (k : Nat), (∀ j x, l[j]? = some x → f (k + j) = some (.bool x)) → takeF f k l.length = some (boL l)
 | [], k, _ => rfl
 | x :: l, k, h => by
  have h0 := h 0 x rfl
  rw [Nat.add_zero] at h0
  have ih := takeF_bo l (k + 1) fun j y hy => by
   have := h (j + 1) y (by simpa using hy)
   rw [show k + (j + 1) = k + 1 + j by omega] at this
   exact this
  show takeF f k (l.length + 1) = _
  simp only [takeF, h0, ih]
  rfl
section
variable {r : Mem} {b off n cap : Nat}
theorem inRow_get {b2 o2 l2 c2 : Nat} (hl : l2 ≤ c2) (h : ∀ i, i < c2 * 1 → ∃ u, r b2 (o2 + i) = some u ∧ ArgBool u) : ∀ j x, (inRow r (RS b2 o2 l2 c2))[j]? = some x → r b2 (o2 + j) = some (.bool x) := fun j x hx => by
 have hx' : ((List.range (min l2 14)).map fun j => ofB ((r b2 (o2 + j)).getD undef))[j]? = some x := hx
 rw [List.getElem?_map] at hx'
 by_cases hj : j < min l2 14
 ·rw [List.getElem?_range hj] at hx'
  obtain ⟨u, hu, y, rfl⟩ := h j (by omega)
  simp only [Option.map_some, Option.some.injEq, hu, Option.getD_some] at hx'
  have hx2 : y = x := hx'
  rw [hu, hx2]
 ·rw [List.getElem?_eq_none (by simp; omega)] at hx'
  cases hx'
theorem inRow_len (b2 o2 l2 c2 : Nat) : (inRow r (RS b2 o2 l2 c2)).length = min l2 14 := by
 show ((List.range (min l2 14)).map _).length = _
 simp

def TbR (r : Mem) (b off n cap k : Nat) (r1 : Mem) (T : List (List Bool)) (l : List Bool) (vs : OV) (ms : List Nat) (os : OO) : Prop :=
 ms = [] ∧ vs = vTB b off n cap (gwT 0 (k + 1)) (k + 1) ∧ ∃ c, m_nns c = true ∧ TabC r1 c T ∧ ((l = [] ∧ os = [oTb (c ++ [nilT]) 0]) ∨ (l ≠ [] ∧ os = [oTb (c ++ [.slice (some ⟨1, 0, none⟩) l.length unk]) 0, oBo (boL l) 1]))

theorem tb_run {r1 : Mem} {k : Nat} (hk : k < n) (k14 : k < 14) (hle : Mem.le r r1) {u : Value} (hu : r b (off + k) = some u) (hp : ArgRow r 1 ArgBool u) {E : Value} {os : OO} (hT : TbO r1 (inTab r b off k) E os) :
  ∃ sh fl, ∀ (fs : FnsC) (Qx : OV → List Nat → OO → Prop) (kr : KS), run (SS r1 sh) 61 33 1 TB_3 fs none (Outs.ask 0 ⟨lvTB, fl, fun vs ms os => TbR r b off n cap k r1 (inTab r b off k) (inRow r u) vs ms os⟩) (Outs.ats 0 [(0, ⟨[3], [], Qx⟩)]) kr [] (bT lvTB (vTB b off n cap E k) .nil) [] (mkA os) = okR := by
 have hu1 : r1 b (off + k) = some u := hle _ _ _ hu
 have c1 : (k : Int) < (n : Int) := by omega
 have c2 : (k : Int) < 14 := by omega
 have c3 : Nat.blt k n = true := Nat.ble_eq_true_of_le (by omega)
 have e0 : Nat.add off (Nat.mul k 1) = off + k := by simp
 have e3 : IntKind.wrap IntKind.i64 ((k : Int) + Int.ofNat 1) = ((k + 1 : Nat) : Int) := inc1' (by omega)
 simp only [Int.ofNat_eq_natCast] at e3
 have hTl := inTab_len r b off k
 have tab0 : inTab r b off k = [] → k = 0 := fun h => by rw [h] at hTl; exact hTl.symm
 have b3 : Nat.ble (Nat.add k 1) 1000000 = true := Nat.ble_eq_true_of_le (by simp; omega)
 have s1 : ∀ c : List Value, m_nns c = true → m_nopo (c ++ [nilT]) = true ∧ m_mvq [2] (c ++ [nilT]) = c ++ [nilT] := fun c hc => by
  have hn : m_nns (c ++ [nilT]) = true := by rw [nns_app, hc]; rfl
  rw [mvq_nn hn]
  exact ⟨nopo_nn hn, rfl⟩
 have oc : ∀ {o : Option (List Value)} {c : List Value} (h : o = some c) (a : CR) (F : List Value → CR), (Option.casesOn o a F : CR) = F c := fun h a F => by rw [h]
 rcases hT with ⟨t0, rfl, rfl⟩ | ⟨t0, c, rfl, rfl, hc, hcn⟩
 ·have k0 := tab0 t0
  subst k0
  have hTe : TabC r1 [] (inTab r b off 0) := ⟨rfl, fun i v l h => by simp at h⟩
  cases hp with
  | nil =>
   refine ⟨1, [.t], fun fs Qx kr => ?_⟩
   have q0 : isNilS nilT = true := rfl
   have hn' := tbBnN r1 b off n cap 0 fs
   simp only [Int.ofNat_eq_natCast, Int.toNat_natCast, dT c1, dT c2, c3, cond_true, e0, hu1, q0, e3] at hn'
   exact (hn' _ _ _).trans (qq_ok ⟨rfl, rfl, [], rfl, hTe, .inl ⟨rfl, rfl⟩⟩)
  | empty =>
   refine ⟨3, [.t], fun fs Qx kr => ?_⟩
   have q0 : isES (.slice (some ⟨0, 0, none⟩) 0 unkE) = true := rfl
   have hn' := tbBnE r1 b off n cap 0 fs
   simp only [Int.ofNat_eq_natCast, Int.toNat_natCast, dT c1, dT c2, c3, cond_true, e0, hu1, q0, e3] at hn'
   exact (hn' _ _ _).trans (qq_ok ⟨rfl, rfl, [], rfl, hTe, .inl ⟨rfl, rfl⟩⟩)
  | row b2 o2 l2 c2' hl hcm h =>
   have hcm' : c2' ≤ 9223372036854775807 := hcm
   have hrl := inRow_len (r := r) b2 o2 l2 c2'
   have hrg := inRow_get hl h
   have k1 : Nat.beq c2' 9223372036854775809 = false := natFx (by omega)
   have k2 : Nat.ble (min l2 14) c2' = true := Nat.ble_eq_true_of_le (by omega)
   have k3 : Nat.ble (Nat.add 0 (Nat.sub (min l2 14) 0)) 1000000 = true := Nat.ble_eq_true_of_le (by show 0 + (min l2 14 - 0) ≤ _; omega)
   have p0 : (0 : Int) ≤ ((min l2 14 : Nat) : Int) := by omega
   generalize hL : inRow r (RS b2 o2 l2 c2') = L at hrl hrg ⊢
   by_cases hz : min l2 14 = 0
   ·have hLe : L = [] := List.length_eq_zero_iff.1 (by omega)
    have k4 : Nat.beq (min l2 14) 0 = true := by rw [hz]; rfl
    refine ⟨2, [.t], fun fs Qx kr => ?_⟩
    have hn' := tbBnR r1 b off n cap 0 fs
    simp only [Int.ofNat_eq_natCast, Int.toNat_natCast, dT c1, dT c2, c3, cond_true, cond_false, e0, hu1, ro_RS, ln_RS, cp_RS, bk_RS, of_RS, min14, show ((14 : Nat) : Int) = 14 from rfl, dT p0, k1, k2, k4, e3] at hn'
    exact (hn' _ _ _).trans (qq_ok ⟨rfl, rfl, [], rfl, hTe, .inl ⟨hLe, rfl⟩⟩)
   ·have k4 : Nat.beq (min l2 14) 0 = false := natFx hz
    have k5 : Nat.beq (Nat.sub (min l2 14) 0) 0 = false := natFx (by show min l2 14 - 0 ≠ 0; omega)
    refine ⟨2, [.t], fun fs Qx kr => ?_⟩
    have hn' := tbBnR r1 b off n cap 0 fs
    simp only [Int.ofNat_eq_natCast, Int.toNat_natCast, dT c1, dT c2, c3, cond_true, cond_false, e0, hu1, ro_RS, ln_RS, cp_RS, bk_RS, of_RS, min14, show ((14 : Nat) : Int) = 14 from rfl, dT p0, k1, k2, k3, k4, k5, e3] at hn'
    have hr' : (match Nat.beq (Nat.sub c2' 0) unkE with | true => none | false => takeF (r1 b2) (Nat.add o2 (Nat.mul 0 1)) (Nat.mul (Nat.sub (min l2 14) 0) 1)) = some (boL L) := by
     rw [natFx (show Nat.sub c2' 0 ≠ unkE by unfold unkE; show c2' - 0 ≠ _; omega)]
     show takeF (r1 b2) o2 (Nat.mul (min l2 14) 1) = _
     rw [Nat.mul_eq, Nat.mul_one, ← hrl]
     exact takeF_bo L o2 fun j x hx => hle _ _ _ (hrg j x hx)
    refine (hn' _ _ _).trans ((oc hr' _ _).trans ?_)
    have l1 : Nat.beq (boL L).length (Nat.mul (Nat.sub (min l2 14) 0) 1) = true := by
     rw [boL_len, hrl, show Nat.mul (Nat.sub (min l2 14) 0) 1 = min l2 14 by show (min l2 14 - 0) * 1 = _; omega]
     exact Nat.beq_refl _
    simp only [l1, cond_true, boL_nn, Bool.and_true]
    refine qq_ok ⟨rfl, rfl, [], rfl, hTe, .inr ⟨fun h => by rw [h] at hrl; simp at hrl; omega, ?_⟩⟩
    rw [hrl]; rfl
 ·rw [hTl]
  have tk : takeAt c 0 (Nat.mul k 1) = some c := takeL_row _ _ (by rw [hc.1, hTl]; simp)
  cases hp with
  | nil =>
   refine ⟨1, [.q []], fun fs Qx kr => ?_⟩
   have q0 : isNilS nilT = true := rfl
   have hn' := tbBoN r1 b off n cap k k c fs
   simp only [Int.ofNat_eq_natCast, Int.toNat_natCast, dT c1, dT c2, c3, cond_true, e0, hu1, q0, e3, b3, tk, (s1 c hcn).1, (s1 c hcn).2, Bool.and_true] at hn'
   exact (hn' _ _ _).trans (qq_ok ⟨rfl, rfl, c, hcn, hc, .inl ⟨rfl, rfl⟩⟩)
  | empty =>
   refine ⟨3, [.q []], fun fs Qx kr => ?_⟩
   have q0 : isES (.slice (some ⟨0, 0, none⟩) 0 unkE) = true := rfl
   have hn' := tbBoE r1 b off n cap k k c fs
   simp only [Int.ofNat_eq_natCast, Int.toNat_natCast, dT c1, dT c2, c3, cond_true, e0, hu1, q0, e3, b3, tk, (s1 c hcn).1, (s1 c hcn).2, Bool.and_true] at hn'
   exact (hn' _ _ _).trans (qq_ok ⟨rfl, rfl, c, hcn, hc, .inl ⟨rfl, rfl⟩⟩)
  | row b2 o2 l2 c2' hl hcm h =>
   have hcm' : c2' ≤ 9223372036854775807 := hcm
   have hrl := inRow_len (r := r) b2 o2 l2 c2'
   have hrg := inRow_get hl h
   have k1 : Nat.beq c2' 9223372036854775809 = false := natFx (by omega)
   have k2 : Nat.ble (min l2 14) c2' = true := Nat.ble_eq_true_of_le (by omega)
   have k3 : Nat.ble (Nat.add 0 (Nat.sub (min l2 14) 0)) 1000000 = true := Nat.ble_eq_true_of_le (by show 0 + (min l2 14 - 0) ≤ _; omega)
   have p0 : (0 : Int) ≤ ((min l2 14 : Nat) : Int) := by omega
   generalize hL : inRow r (RS b2 o2 l2 c2') = L at hrl hrg ⊢
   by_cases hz : min l2 14 = 0
   ·have hLe : L = [] := List.length_eq_zero_iff.1 (by omega)
    have k4 : Nat.beq (min l2 14) 0 = true := by rw [hz]; rfl
    refine ⟨2, [.q []], fun fs Qx kr => ?_⟩
    have hn' := tbBoZ r1 b off n cap k k c fs
    simp only [Int.ofNat_eq_natCast, Int.toNat_natCast, dT c1, dT c2, c3, cond_true, cond_false, e0, hu1, ro_RS, ln_RS, cp_RS, bk_RS, of_RS, min14, show ((14 : Nat) : Int) = 14 from rfl, dT p0, k1, k2, k4, e3, b3, tk, (s1 c hcn).1, (s1 c hcn).2, Bool.and_true] at hn'
    exact (hn' _ _ _).trans (qq_ok ⟨rfl, rfl, c, hcn, hc, .inl ⟨hLe, rfl⟩⟩)
   ·have k4 : Nat.beq (min l2 14) 0 = false := natFx hz
    have k5 : Nat.beq (Nat.sub (min l2 14) 0) 0 = false := natFx (by show min l2 14 - 0 ≠ 0; omega)
    refine ⟨2, [.q [1]], fun fs Qx kr => ?_⟩
    have hn' := tbBoR r1 b off n cap k k c fs
    have m1 : Nat.sub (min l2 14) 0 = min l2 14 := rfl
    simp only [Int.ofNat_eq_natCast, Int.toNat_natCast, dT c1, dT c2, c3, cond_true, cond_false, e0, hu1, ro_RS, ln_RS, cp_RS, bk_RS, of_RS, min14, show ((14 : Nat) : Int) = 14 from rfl, dT p0, k1, k2, k3, k4, k5, e3] at hn'
    have hr' : (match Nat.beq (Nat.sub c2' 0) unkE with | true => none | false => takeF (r1 b2) (Nat.add o2 (Nat.mul 0 1)) (Nat.mul (Nat.sub (min l2 14) 0) 1)) = some (boL L) := by
     rw [natFx (show Nat.sub c2' 0 ≠ unkE by unfold unkE; show c2' - 0 ≠ _; omega)]
     show takeF (r1 b2) o2 (Nat.mul (min l2 14) 1) = _
     rw [Nat.mul_eq, Nat.mul_one, ← hrl]
     exact takeF_bo L o2 fun j x hx => hle _ _ _ (hrg j x hx)
    refine (hn' _ _ _).trans ((oc hr' _ _).trans ?_)
    have l1 : Nat.beq (boL L).length (Nat.mul (Nat.sub (min l2 14) 0) 1) = true := by
     rw [boL_len, hrl, show Nat.mul (Nat.sub (min l2 14) 0) 1 = min l2 14 by show (min l2 14 - 0) * 1 = _; omega]
     exact Nat.beq_refl _
    have s2 : m_mvq [3, 1] (c ++ [.slice (some ⟨1, 0, none⟩) (Nat.sub (min l2 14) 0) unk]) = c ++ [.slice (some ⟨1, 0, none⟩) (Nat.sub (min l2 14) 0) unk] := by
     rw [mvq_app, mvq_nn hcn]; rfl
    have s3 : m_nopo (c ++ [.slice (some ⟨1, 0, none⟩) (Nat.sub (min l2 14) 0) unk]) = true := by rw [nopo_app, nopo_nn hcn]; rfl
    simp only [l1, cond_true, boL_nn, Bool.and_true, b3, tk, s2, s3]
    refine qq_ok ⟨rfl, rfl, c, hcn, hc, .inr ⟨fun h => by rw [h] at hrl; simp at hrl; omega, ?_⟩⟩
    rw [hrl]; rfl
end

end Go.Proofs

/- The law's copy of a table: what the call answers. -/
namespace Go.Proofs
open Go Go.Ev Go.Num
set_option linter.unusedVariables false
set_option linter.unusedSimpArgs false
set_option maxRecDepth 100000

theorem frzVs_one (j b o : Nat) (v u : Value) (h : frzV j b o v = some u) : frzVs j b o [v] = some [u] := by simp only [frzVs, h]
section
variable {r : Mem} {b off n cap : Nat}
theorem ta_ok (h1 : 1 ≤ n) (hin : ∀ i, i < min n 14 → ∃ u, r b (off + i) = some u ∧ ArgRow r 1 ArgBool u) : SOkG Tryd.prog r 27 [RS b off n cap] emptyA fun v A r1 => Mem.le r r1 ∧ ∃ c, v = gwT 0 (min n 14) ∧ A = mkA [oTb c 0] ∧ TabC r1 c (inTab r b off (min n 14)) ∧ m_nns c = true := by
 refine callOG SC_ok (by kernel_rfl) ((bodySC r _).trans TB_eq) (nt := 33) (by kernel_rfl) (rs := [.tmp 2]) (by kernel_rfl) 61 rfl ⟨[2], fun r1 vs ms os => ms = [] ∧ Mem.le r r1 ∧ ∃ c, vs = [some (gwT 0 (min n 14))] ∧ os = [oTb c 0] ∧ TabC r1 c (inTab r b off (min n 14)) ∧ m_nns c = true⟩ ?_ fun γ W F kk hwr hF hro h0' => ?_
 ·rintro r1 vs ms os ⟨rfl, hle, c, rfl, rfl, hc, hcn⟩
  exact ⟨_, mkA [oTb c 0], by kernel_rfl, hle, c, rfl, rfl, hc, hcn⟩
 have h0' : ∀ i, 0 ≤ i → γ i = none := h0'
 refine ReachG.after3 (SC_ok r) TOk.nil (tm := .nil) (L := 1) (L' := 1) (d := 1) hF hro h0' (.step (.step .base)) (orr := Outs.no)
  (o1 := ⟨lvTB, [], fun vs ms os => vs = vTB b off n cap nilT 0 ∧ ms = [] ∧ os = []⟩)
  (g2 := ⟨[3], fun r1 vs ms os => TbX r b off n r1 vs ms os⟩) (fun _ _ _ h => h.elim) ?_ ?_ ?_
 ·rintro vs ms os ⟨rfl, rfl, rfl⟩
  refine ReachG.blockC (ReachG.loopC (j := min n 14) (lv := lvTB) (I := fun j r1 vs ms os => ∃ k : Nat, k ≤ min n 14 ∧ j = min n 14 - k ∧ TbI r b off n cap k r1 vs ms os) (fun j r1 vs ms os hI => ?_) ⟨0, by omega, rfl, rfl, Mem.le_refl r, nilT, rfl, .inl ⟨rfl, rfl, rfl⟩⟩)
  obtain ⟨k, hk, rfl, rfl, hle, E, rfl, hT⟩ := hI
  by_cases c : k < min n 14
  ·obtain ⟨u, hu, hp⟩ := hin k c
   obtain ⟨sh, fl, hrun⟩ := tb_run (cap := cap) (show k < n by omega) (by omega) hle hu hp hT
   refine ReachG.segS (C := SS r1 sh) rfl rfl (SS_ok r1 sh) (t := fun _ => none) TOk.nil (tm := .nil) (L' := 1) (d := 1) hF hro h0' [(0, ⟨[3], [], fun _ _ _ => False⟩)] (ox := fun j => if j = 0 then ⟨[3], [], fun _ _ _ => False⟩ else Outs.no) (orr := Outs.no) (fun p hp => by simp only [List.mem_cons, List.not_mem_nil, or_false] at hp; subst hp; rfl) (hrun _ _ _) ?_ ?_ (fun _ _ _ h => h.elim)
   ·rintro vs ms os ⟨rfl, rfl, c0, hcn, hc, hcase⟩
    have hT1 : inTab r b off (k + 1) = inTab r b off k ++ [inRow r u] := by rw [inTab_succ, hu]; rfl
    have hne : inTab r b off (k + 1) ≠ [] := by rw [hT1]; simp
    rcases hcase with ⟨hl, rfl⟩ | ⟨hl, rfl⟩
    ·refine IsG.here ⟨min n 14 - (k + 1), by omega, k + 1, by omega, rfl, rfl, hle, gwT 0 (k + 1), rfl, .inr ⟨hne, c0 ++ [nilT], by rw [inTab_len], rfl, ?_, ?_⟩⟩
     ·rw [hT1]
      exact hc.snoc (.inl ⟨hl, rfl⟩)
     ·rw [nns_app, hcn]; rfl
    ·refine IsG.freeze (os0 := [oTb (c0 ++ [.slice (some ⟨1, 0, none⟩) (inRow r u).length unk]) 0]) (j := 1) h0' rfl (Nat.zero_le _) rfl (boL_nn _) fun b' o' r2 hle2 hrow => ?_
     refine ⟨vTB b off n cap (gwT 0 (k + 1)) (k + 1), [oTb (c0 ++ [RS b' o' (inRow r u).length 0]) 0], rfl, ?_, min n 14 - (k + 1), by omega, k + 1, by omega, rfl, rfl, Mem.le_trans hle hle2, gwT 0 (k + 1), rfl, .inr ⟨hne, c0 ++ [RS b' o' (inRow r u).length 0], by rw [inTab_len], rfl, ?_, ?_⟩⟩
     ·have e1 := frzVs_app 1 b' o' c0 [.slice (some ⟨1, 0, none⟩) (inRow r u).length unk] c0 [RS b' o' (inRow r u).length 0] (frzVs_nn 1 b' o' c0 hcn) (frzVs_one _ _ _ _ _ ?_)
      ·unfold oTb
       simp only [frzAs, frzA, e1]
      ·show (match (Nat.beq (inRow r u).length 0 && Nat.beq unk unkE) with | true => _ | false => _) = _
       rw [show Nat.beq unk unkE = false by decide, Bool.and_false]
       rfl
     ·rw [hT1]
      refine (hc.mono hle2).snoc (.inr ⟨hl, b', o', 0, rfl, fun j x hx => hrow j _ ?_⟩)
      unfold boL
      rw [List.getElem?_map, hx]; rfl
     ·rw [nns_app, hcn]; rfl
   ·intro id vs ms os h
    by_cases e : id = 0
    ·rw [if_pos e] at h; exact h.elim
    ·rw [if_neg e] at h; exact h.elim
  ·obtain rfl : k = min n 14 := by omega
   have hTl := inTab_len r b off (min n 14)
   rcases hT with ⟨t0, _⟩ | ⟨t0, c0, rfl, rfl, hc, hcn⟩
   ·rw [t0] at hTl; simp at hTl; omega
   ·refine ReachG.segS (C := SS r1 1) rfl rfl (SS_ok r1 1) (t := fun _ => none) TOk.nil (tm := .nil) (L' := 1) (d := 1) (n0 := 0) hF hro h0' [(0, ⟨[3], [], fun vs ms os => ms = [] ∧ vs = [some (gwT 0 (min n 14))] ∧ os = [oTb c0 0]⟩)] (on := ⟨lvTB, [.q []], fun _ _ _ => False⟩) (ox := fun j => if j = 0 then ⟨[3], [], fun vs ms os => ms = [] ∧ vs = [some (gwT 0 (min n 14))] ∧ os = [oTb c0 0]⟩ else Outs.no) (orr := Outs.no) (fun p hp => by simp only [List.mem_cons, List.not_mem_nil, or_false] at hp; subst hp; rfl) (L := 1) ?_ (fun _ _ _ h => h.elim) ?_ (fun _ _ _ h => h.elim)
    ·rw [hTl]
     have hn' := tbBoN r1 b off n cap (min n 14) (min n 14) c0
     simp only [Int.ofNat_eq_natCast, hcn, Bool.and_true, cond_true] at hn'
     by_cases q : ((min n 14 : Nat) : Int) < (n : Int)
     ·have q2 : ¬ ((min n 14 : Nat) : Int) < 14 := by omega
      simp only [dT q, dF q2, cond_true, cond_false] at hn'
      exact (hn' _ _ _ _).trans (qq_ok ⟨rfl, rfl, rfl⟩)
     ·simp only [dF q, cond_false] at hn'
      exact (hn' _ _ _ _).trans (qq_ok ⟨rfl, rfl, rfl⟩)
    ·intro id vs ms os h
     by_cases e : id = 0
     ·subst e
      obtain ⟨rfl, rfl, rfl⟩ := h
      exact IsG.here ⟨rfl, hle, gwT 0 (min n 14), rfl, .inr ⟨t0, c0, by rw [hTl], rfl, hc, hcn⟩⟩
     ·rw [if_neg e] at h; exact h.elim
 ·rintro r1 vs ms os ⟨rfl, hle, E, rfl, hT⟩
  have hTl := inTab_len r b off (min n 14)
  rcases hT with ⟨t0, _⟩ | ⟨t0, c0, rfl, rfl, hc, hcn⟩
  ·rw [t0] at hTl; simp at hTl; omega
  ·rw [hTl]
   refine ReachG.segR (SC_ok r1) TOk.nil (tm := .nil) (L := 1) (L' := 1) (d := 1) (n0 := 0) hF hro h0' [] (on := ⟨[2], [], fun _ _ _ => False⟩) (ox := fun _ => Outs.no) (orr := ⟨[2], [], fun vs ms os => ms = [] ∧ vs = [some (gwT 0 (min n 14))] ∧ os = [oTb c0 0]⟩) (fun p hp => nomatch hp) ?_ (fun _ _ _ h => h.elim) (fun _ _ _ _ h => h.elim) ?_
   ·have hn' := tbCo r1 (min n 14) c0
    simp only [hcn, Bool.and_true, cond_true] at hn'
    exact (hn' _ _ _ _).trans (qq_ok ⟨rfl, rfl, rfl⟩)
   ·rintro vs ms os ⟨rfl, rfl, rfl⟩
    exact IsG.here ⟨rfl, hle, c0, rfl, rfl, hc, hcn⟩
 ·exact (tbA r b off n cap _ _ _ _).trans (qq_ok ⟨rfl, rfl, rfl⟩)
end

end Go.Proofs

/- Are these values those? -/
set_option linter.unusedVariables false
set_option linter.unusedSimpArgs false
namespace Go.Proofs
open Go Go.Ev
noncomputable def m_svv (a b : List Value) : Bool := @decide (a = b) (Classical.propDecidable _)
theorem svv_rfl (a : List Value) : m_svv a a = true := @decide_eq_true _ (Classical.propDecidable _) rfl

end Go.Proofs

/- Tables in memory: the caller's own row of rows. -/
namespace Go.Proofs
open Go Go.Ev Go.Num
set_option linter.unusedVariables false
set_option linter.unusedSimpArgs false

def TabM (r : Mem) (b off : Nat) (T : List (List Bool)) : Prop := ∀ (i : Nat) l, T[i]? = some l → ∃ v, r b (off + i) = some v ∧ RowV r v l
theorem memW_row {r : Mem} {γ : Gam} {W : World} (hR : Ro r γ W) {v v' : Value} {l : List Bool} (hv : RowV r v l) (hr : VRel γ v v') : ∃ u, Go.Ev.mark v' = some u ∧ RowV (memW W) u l := by
 rcases hv with ⟨h1, rfl⟩ | ⟨h1, b, o, cap, rfl, h2⟩
 ·cases hr
  exact ⟨nilT, rfl, .inl ⟨h1, rfl⟩⟩
 ·obtain ⟨n, hn⟩ : ∃ n, n = l.length := ⟨_, rfl⟩
  rw [← hn] at hr
  cases hr with
  | sliceE a a' c' => exact absurd (List.length_eq_zero_iff.1 hn.symm) h1
  | sliceRo b k s l' c c' hc hcc =>
   refine ⟨.slice (some ⟨b, o, some 0⟩) n (match Nat.blt c' unk with | true => c' | false => 0), rfl, .inr ⟨h1, b, o, _, by rw [hn], fun j x hx => ?_⟩⟩
   obtain ⟨_, cc, e, fr, u, hb, hu, hrel⟩ := hR _ _ _ (h2 j x hx)
   have := (hrel γ).eq_of_gnd rfl
   subst this
   simp only [memW, hb, hu]
   rfl
theorem own_tab {r : Mem} {γ : Gam} {A : AW} {W : World} (hw : WRel γ A W) (hR : Ro r γ W) {i len cap : Nat} (hcap : Nat.beq cap unkE = false) {c : List Value} {T : List (List Bool)} {e f z : Nat} (hget : A.heap.get i = some (.cells c e f z)) (hT : TabC r c T) {v' : Value} (hv : VRel γ (.slice (some ⟨i, 0, none⟩) len cap) v') :
  ∃ b k', VRel noG (RS b k' len 0) v' ∧ TabM (memW W) b k' T := by
 cases hv with
 | slice k l c0 c' hg hc =>
  rename_i g
  obtain ⟨g', hg', ho⟩ := hw.obj _ _ hget
  rw [hg] at hg'
  cases hg'
  cases ho with
  | cells hb _ _ _ hcs =>
   refine ⟨g.blk, g.off + 0, .sliceRo _ _ _ _ _ _ (by decide) (Nat.zero_le _), fun j l' hl => ?_⟩
   have hj : j < T.length := (List.getElem?_eq_some_iff.1 hl).1
   obtain ⟨w, hcj⟩ : ∃ w, c[j]? = some w := ⟨_, List.getElem?_eq_getElem (by rw [hT.1]; exact hj)⟩
   obtain ⟨v'', h1, h2⟩ := hcs j _ hcj
   obtain ⟨u, h3, h4⟩ := memW_row hR (hT.2 j _ _ hcj hl) h2
   refine ⟨u, ?_, h4⟩
   simp only [memW, hb, Nat.add_zero, h1]
   exact h3
 | sliceE a a' c' => simp at hcap
noncomputable def gTab (m : Nat) (c : List Value) (args : List Value) (A : AW) : Bool := match args with
 | [.slice (some ⟨i, x, none⟩) l p] => match A.heap.get i with
  | some (.cells ci _ _ _) => m_svv [.slice (some ⟨0, x, none⟩) l p, .agg ⟨ci⟩] [gwT 0 m, .agg ⟨c⟩]
  | _ => false
 | _ => false
theorem gTab_use {r : Mem} {m : Nat} {c : List Value} {T : List (List Bool)} {args : List Value} {A : AW} (hT : TabC r c T) (hg : gTab m c args A = true) {γ : Gam} {W : World} (hw : WRel γ A W) (hR : Ro r γ W) {args' : Array Value} (ha : VsRel γ args args'.toList) :
  ∃ b k, VsRel noG [RS b k m 0] args'.toList ∧ TabM (memW W) b k T := by
 unfold gTab at hg
 split at hg
 ·rename_i i x l p
  split at hg
  ·rename_i ci e f zz hi
   have hs := @of_decide_eq_true _ (Classical.propDecidable _) hg
   simp only [List.cons.injEq, Value.slice.injEq, Option.some.injEq, Addr.mk.injEq, Value.agg.injEq, Array.mk.injEq, and_true, true_and] at hs
   obtain ⟨⟨rfl, rfl, rfl⟩, rfl⟩ := hs
   obtain ⟨la⟩ := args'
   cases ha with
   | cons hv hrest =>
   cases hrest
   obtain ⟨b, k, p1, p2⟩ := own_tab hw hR (by decide) hi hT hv
   exact ⟨b, k, .cons p1 .nil, p2⟩
  ·cases hg
 ·cases hg

end Go.Proofs

/- Code whose slices are told; tables by their rows. -/
namespace Go.Proofs
open Go Go.Ev Go.Num
set_option linter.unusedVariables false
set_option linter.unusedSimpArgs false
set_option maxRecDepth 100000

theorem b_bl (x : Bool) : isB (.bool x) = true := rfl
theorem o_bl (x : Bool) : ofB (.bool x) = x := rfl
theorem TOk.sh {r : Mem} {t : Tbl} (sh : Nat) (h : TOk (SC r) t) : TOk (SS r sh) t := h
theorem base_sh {r : Mem} {sh : Nat} {γ0 γ : Gam} {W0 W : World} (h : Base (SC r) γ0 W0 γ W) : Base (SS r sh) γ0 W0 γ W := ⟨h.ext, h.ro⟩
theorem base_hs {r : Mem} {sh : Nat} {γ0 γ : Gam} {W0 W : World} (h : Base (SS r sh) γ0 W0 γ W) : Base (SC r) γ0 W0 γ W := ⟨h.ext, h.ro⟩
theorem is_hs {r : Mem} {sh m n : Nat} {γ0 : Gam} {W0 : World} {o : Outs} {st : St} (h : Is (SS r sh) m n γ0 W0 o st) : Is (SC r) m n γ0 W0 o st := by
 obtain ⟨vs, ms, os, hr, q⟩ := h
 refine ⟨vs, ms, os, fun γ a W hs hb => ?_, q⟩
 obtain ⟨γ1, s1, b1⟩ := hr γ a W hs (base_sh hb)
 exact ⟨γ1, s1, base_hs b1⟩
theorem segSh {r : Mem} {m n : Nat} {F : Fence} {k : Nat} {γ0 : Gam} {W0 : World} {n0 : Nat} {ro : Option Nat} (sh : Nat) {t : Tbl} (ht : TOk (SC r) t) {tm : Tr Nat} {L L' d : Nat} (hF : Wide F) (hro : RoRel γ0 ro F.round) (h0 : ∀ i, n0 ≤ i → γ0 i = none) {c : Code} {s : List (Nat × Value)} {b : Tr Value} {ms : List Nat} {A : AW} {on : Outs} {ox : Nat → Outs} {orr : Outs} (l : List (Nat × Outs)) (hl : ∀ p ∈ l, ox p.1 = p.2)
  (h : run (SS r sh) m n L c (lvlT (SS r sh) t tm L' d) ro (on.ask n0) (Outs.ats n0 l) (orr.ask n0) s b ms A = okR) : Go.Ev.Reach (SC r) m n F k γ0 W0 c ⟨⟨s, b⟩, ms, A⟩ (CanQ (SC r) m n γ0 W0 on ox orr) := by
 have h1 := Go.Ev.Reach.segR (k := k) (W0 := W0) (SS_ok r sh) (TOk.sh sh ht) hF hro h0 (on := on) (ox := ox) (orr := orr) l hl h
 intro γ a W hs hb
 refine wpIn_mono (h1 γ a W hs (base_sh hb)) fun ex a' W' ⟨st', γ', hq, s', b'⟩ => ⟨st', γ', ?_, s', base_hs b'⟩
 cases ex with
 | normal => exact is_hs hq
 | exit id => exact is_hs hq
 | ret => exact is_hs hq
 | _ => exact hq

theorem is_sh {r : Mem} {sh m n : Nat} {γ0 : Gam} {W0 : World} {o : Outs} {st : St} (h : Is (SC r) m n γ0 W0 o st) : Is (SS r sh) m n γ0 W0 o st := by
 obtain ⟨vs, ms, os, hr, q⟩ := h
 refine ⟨vs, ms, os, fun γ a W hs hb => ?_, q⟩
 obtain ⟨γ1, s1, b1⟩ := hr γ a W hs (base_hs hb)
 exact ⟨γ1, s1, base_sh b1⟩
theorem reach_hs {r : Mem} {sh m n : Nat} {F : Fence} {k : Nat} {γ0 : Gam} {W0 : World} {c : Code} {st : St} {on : Outs} {ox : Nat → Outs} {orr : Outs} (h : Go.Ev.Reach (SS r sh) m n F k γ0 W0 c st (CanQ (SS r sh) m n γ0 W0 on ox orr)) : Go.Ev.Reach (SC r) m n F k γ0 W0 c st (CanQ (SC r) m n γ0 W0 on ox orr) := by
 intro γ a W hs hb
 refine wpIn_mono (h γ a W hs (base_sh hb)) fun ex a' W' ⟨st', γ', hq, s', b'⟩ => ⟨st', γ', ?_, s', base_hs b'⟩
 cases ex with
 | normal => exact is_hs hq
 | exit id => exact is_hs hq
 | ret => exact is_hs hq
 | _ => exact hq
theorem reach_sh {r : Mem} {sh m n : Nat} {F : Fence} {k : Nat} {γ0 : Gam} {W0 : World} {c : Code} {st : St} {on : Outs} {ox : Nat → Outs} {orr : Outs} (h : Go.Ev.Reach (SC r) m n F k γ0 W0 c st (CanQ (SC r) m n γ0 W0 on ox orr)) : Go.Ev.Reach (SS r sh) m n F k γ0 W0 c st (CanQ (SS r sh) m n γ0 W0 on ox orr) := by
 intro γ a W hs hb
 refine wpIn_mono (h γ a W hs (base_hs hb)) fun ex a' W' ⟨st', γ', hq, s', b'⟩ => ⟨st', γ', ?_, s', base_sh b'⟩
 cases ex with
 | normal => exact is_sh hq
 | exit id => exact is_sh hq
 | ret => exact is_sh hq
 | _ => exact hq

def gT (T : List (List Bool)) (i k : Nat) : Bool := (T.getD i []).getD k false
def lenN (T : List (List Bool)) : Nat → Bool
 | 0 => true
 | i + 1 => lenN T i && ((T.getD i []).length == T.length)
def badP (T : List (List Bool)) (i k : Nat) : Bool := if i = k then gT T i k else gT T i k == gT T k i
def rowB (T : List (List Bool)) (i : Nat) : Nat → Bool
 | 0 => true
 | k + 1 => rowB T i k && !badP T i k
def fairB (T : List (List Bool)) : Nat → Bool
 | 0 => true
 | i + 1 => fairB T i && rowB T i T.length
def ckT (T : List (List Bool)) : Bool := decide (1 ≤ T.length ∧ T.length ≤ 12) && (lenN T T.length && fairB T T.length)
theorem lenN_get {T : List (List Bool)} : ∀ {n : Nat}, lenN T n = true → ∀ i, i < n → (T.getD i []).length = T.length
 | n + 1, h, i, hi => by
  simp only [lenN, Bool.and_eq_true, beq_iff_eq] at h
  by_cases c : i = n
  ·rw [c]; exact h.2
  ·exact lenN_get h.1 i (by omega)
theorem lenN_no {T : List (List Bool)} : ∀ {n i : Nat}, i < n → (T.getD i []).length ≠ T.length → lenN T n = false
 | n + 1, i, hi, h => by
  simp only [lenN]
  by_cases c : i = n
  ·subst c
   rw [show ((T.getD i []).length == T.length) = false by simpa using h, Bool.and_false]
  ·rw [lenN_no (by omega) h, Bool.false_and]
theorem rowB_no {T : List (List Bool)} {i : Nat} : ∀ {n k : Nat}, k < n → badP T i k = true → rowB T i n = false
 | n + 1, k, hk, h => by
  simp only [rowB]
  by_cases c : k = n
  ·subst c
   rw [h]; simp
  ·rw [rowB_no (by omega) h, Bool.false_and]
theorem fairB_no {T : List (List Bool)} : ∀ {n i : Nat}, i < n → rowB T i T.length = false → fairB T n = false
 | n + 1, i, hi, h => by
  simp only [fairB]
  by_cases c : i = n
  ·subst c
   rw [h, Bool.and_false]
  ·rw [fairB_no (by omega) h, Bool.false_and]

section
variable {r : Mem} {b off : Nat} {T : List (List Bool)}
theorem tab_row (hM : TabM r b off T) {i : Nat} (hi : i < T.length) : ∃ v, r b (off + i) = some v ∧ RowV r v (T.getD i []) := by
 have : T[i]? = some (T.getD i []) := by rw [List.getD_eq_getElem?_getD, List.getElem?_eq_getElem hi]; rfl
 exact hM i _ this
theorem tab_RS (hM : TabM r b off T) {i : Nat} (hi : i < T.length) (hne : (T.getD i []).length ≠ 0) : ∃ b2 o2 c2, r b (off + i) = some (RS b2 o2 (T.getD i []).length c2) ∧ ∀ k, k < (T.getD i []).length → r b2 (o2 + k) = some (.bool (gT T i k)) := by
 obtain ⟨v, hv, h⟩ := tab_row hM hi
 rcases h with ⟨h, _⟩ | ⟨_, b2, o2, c2, rfl, h⟩
 ·rw [h] at hne; exact absurd rfl hne
 ·refine ⟨b2, o2, c2, hv, fun k hk => h k _ ?_⟩
  unfold gT
  generalize T.getD i [] = l at hk
  rw [List.getD_eq_getElem?_getD, List.getElem?_eq_getElem hk]; rfl
end

end Go.Proofs

/- Words as sets; no functions. -/
namespace Go.Proofs
open Go Go.Ev
theorem wrU (v : Int) : IntKind.wrap .u64 v = v % 18446744073709551616 := by simp [IntKind.wrap, IntKind.bits, IntKind.signed]
abbrev U (z : Int) : Value := .int .u64 z
end Go.Proofs
namespace Go.Num
def btN (w j : Nat) : Bool := w / 2 ^ j % 2 == 1
open Go.Proofs

def anN (a b : Nat) : Nat := (a &&& b) ^^^ a
theorem an_zero {a b : Nat} : anN a b = 0 ↔ a &&& b = a := by
 unfold anN
 constructor
 ·intro h
  apply Nat.eq_of_testBit_eq
  intro i
  have := congrArg (fun x => Nat.testBit x i) h
  simp only [Nat.testBit_and, Nat.testBit_xor, Nat.zero_testBit] at this ⊢
  revert this
  cases a.testBit i <;> cases b.testBit i <;> simp
 ·intro h; rw [h]; exact Nat.xor_self a
theorem sub_or {a b y : Nat} : (a ||| b) &&& y = a ||| b ↔ a &&& y = a ∧ b &&& y = b := by
 constructor
 ·intro h
  constructor <;>
  ·apply Nat.eq_of_testBit_eq
   intro i
   have := congrArg (fun x => Nat.testBit x i) h
   simp only [Nat.testBit_and, Nat.testBit_or] at this ⊢
   revert this
   cases a.testBit i <;> cases b.testBit i <;> cases y.testBit i <;> simp
 ·rintro ⟨h1, h2⟩
  apply Nat.eq_of_testBit_eq; intro i
  have h3 := congrArg (fun x => Nat.testBit x i) h1
  have h4 := congrArg (fun x => Nat.testBit x i) h2
  simp only [Nat.testBit_and, Nat.testBit_or] at h3 h4 ⊢
  revert h3 h4
  cases a.testBit i <;> cases b.testBit i <;> cases y.testBit i <;> simp
theorem an_or {a b y : Nat} : anN (a ||| b) y = 0 ↔ anN a y = 0 ∧ anN b y = 0 := by rw [an_zero, an_zero, an_zero, sub_or]
theorem an_all {a m : Nat} : anN a (2 ^ m - 1) = 0 ↔ a < 2 ^ m := by
 rw [an_zero, Nat.and_two_pow_sub_one_eq_mod]
 constructor
 ·intro h
  have := Nat.mod_lt a (Nat.two_pow_pos m)
  omega
 ·exact Nat.mod_eq_of_lt
theorem an_lt {a b k : Nat} (h : a < 2 ^ k) : anN a b < 2 ^ k := Nat.xor_lt_two_pow (Nat.lt_of_le_of_lt Nat.and_le_left h) h
theorem all_lt (m : Nat) : 2 ^ m - 1 < 2 ^ m := by have := Nat.two_pow_pos m; omega
theorem an_in {a x m : Nat} (h : anN a (anN (2 ^ m - 1) x) = 0) : a < 2 ^ m := by
 rw [an_zero] at h
 have h1 : a ≤ anN (2 ^ m - 1) x := by rw [← h]; exact Nat.and_le_right
 have := an_lt (b := x) (all_lt m)
 omega

theorem btN_high {s m k : Nat} (h : s < 2 ^ m) (hk : m ≤ k) : btN s k = false := by
 have : s < 2 ^ k := Nat.lt_of_lt_of_le h (Nat.pow_le_pow_right (by decide) hk)
 unfold btN
 rw [Nat.div_eq_of_lt this]
 rfl
theorem bt_bit (s k : Nat) : btN s k = s.testBit k := by
 unfold btN
 rw [Nat.testBit_eq_decide_div_mod_eq, Bool.eq_iff_iff]
 simp
theorem an_bit (a b i : Nat) : (anN a b).testBit i = (a.testBit i && !b.testBit i) := by
 unfold anN
 rw [Nat.testBit_xor, Nat.testBit_and]
 cases a.testBit i <;> cases b.testBit i <;> rfl
theorem and_ne {a b : Nat} : a &&& b ≠ 0 ↔ ∃ v, a.testBit v = true ∧ b.testBit v = true := by
 constructor
 ·intro h
  obtain ⟨v, hv⟩ := Nat.exists_testBit_of_ne_zero h
  rw [Nat.testBit_and, Bool.and_eq_true] at hv
  exact ⟨v, hv⟩
 ·rintro ⟨v, h1, h2⟩ h
  have := congrArg (fun x => Nat.testBit x v) h
  simp only [Nat.testBit_and, h1, h2, Nat.zero_testBit] at this
  exact nomatch this
theorem and_zero {a b : Nat} : a &&& b = 0 ↔ ∀ v, a.testBit v = true → b.testBit v = false := by
 constructor
 ·intro h v h1
  cases h2 : b.testBit v with
  | false => rfl
  | true => exact absurd h (and_ne.2 ⟨v, h1, h2⟩)
 ·intro h
  by_cases c : a &&& b = 0
  ·exact c
  ·obtain ⟨v, h1, h2⟩ := and_ne.1 c
   rw [h v h1] at h2
   exact nomatch h2
theorem in_bit {a b : Nat} : a &&& b = a ↔ ∀ v, a.testBit v = true → b.testBit v = true := by
 constructor
 ·intro h v h1
  rw [← h, Nat.testBit_and, Bool.and_eq_true] at h1
  exact h1.2
 ·intro h
  apply Nat.eq_of_testBit_eq
  intro i
  rw [Nat.testBit_and]
  cases ha : a.testBit i with
  | false => rfl
  | true => rw [h i ha]; rfl

structure Nbs (w : Nat → Nat) (m : Nat) : Prop where
 low : ∀ i v, (w i).testBit v = true → i < m ∧ v < m
 sym : ∀ i v, (w i).testBit v = true → (w v).testBit i = true

theorem high {x m i : Nat} (h : x < 2 ^ m) (hi : m ≤ i) : x.testBit i = false := Nat.testBit_lt_two_pow (Nat.lt_of_lt_of_le h (Nat.pow_le_pow_right (by decide) hi))

theorem an_an {A x : Nat} (h : x &&& A = x) : anN A (anN A x) = x := by
 apply Nat.eq_of_testBit_eq
 intro i
 rw [an_bit, an_bit]
 have := in_bit.1 h i
 revert this
 cases x.testBit i <;> cases A.testBit i <;> simp
theorem an_sub (A x : Nat) : anN A x &&& A = anN A x := by
 rw [in_bit]
 intro v h
 rw [an_bit, Bool.and_eq_true] at h
 exact h.1
theorem sub_le {a b : Nat} (h : a &&& b = a) : a ≤ b := by rw [← h]; exact Nat.and_le_right
theorem lt_sub {x m : Nat} (h : x < 2 ^ m) : x &&& (2 ^ m - 1) = x := by rw [Nat.and_two_pow_sub_one_eq_mod, Nat.mod_eq_of_lt h]

theorem and_half (a b : Nat) : (a &&& b) / 2 = (a / 2) &&& (b / 2) := Nat.and_div_two
theorem and_odd (a b : Nat) : (a &&& b) % 2 = 1 ↔ a % 2 = 1 ∧ b % 2 = 1 := Nat.and_mod_two_eq_one

theorem in_half {t s : Nat} (h : t &&& s = t) : (t / 2) &&& (s / 2) = t / 2 := by rw [← and_half, h]
theorem in_odd {t s : Nat} (h : t &&& s = t) (ht : t % 2 = 1) : s % 2 = 1 := by
 rw [← h, and_odd] at ht
 exact ht.2


def tzN : Nat → Nat → Nat
 | 0, _ => 0
 | f + 1, s => if s % 2 = 1 then 0 else tzN f (s / 2) + 1

theorem neg_and : ∀ b x, x < 2 ^ b → (2 ^ b - 1 - x) &&& x = 0
 | 0, x, h => by
  obtain rfl : x = 0 := by simpa using h
  exact Nat.and_zero _
 | b + 1, x, h => by
  have hp : 2 ^ (b + 1) = 2 * 2 ^ b := by rw [Nat.pow_succ]; omega
  have ih := neg_and b (x / 2) (by omega)
  generalize hX : 2 ^ (b + 1) - 1 - x = X
  have h1 := and_half X x
  have h2 := and_odd X x
  rw [show X / 2 = 2 ^ b - 1 - x / 2 by omega, ih] at h1
  generalize X &&& x = n at h1 h2
  have : ¬ n % 2 = 1 := fun c => by have := h2.1 c; omega
  omega
theorem low_pow : ∀ b x, x < 2 ^ b → x ≠ 0 → x &&& (2 ^ b - x) = 2 ^ tzN b x
 | 0, x, h, h0 => by exfalso; simp at h; omega
 | b + 1, x, h, h0 => by
  have hp : 2 ^ (b + 1) = 2 * 2 ^ b := by rw [Nat.pow_succ]; omega
  generalize hX : 2 ^ (b + 1) - x = X
  have h1 := and_half x X
  have h2 := and_odd x X
  rw [tzN]
  by_cases c : x % 2 = 1
  ·rw [if_pos c]
   have := neg_and b (x / 2) (by omega)
   rw [show X / 2 = 2 ^ b - 1 - x / 2 by omega, Nat.and_comm (x / 2), this] at h1
   have := h2.2 ⟨c, by omega⟩
   omega
  ·rw [if_neg c, Nat.pow_succ]
   have := low_pow b (x / 2) (by omega) (by omega)
   rw [show X / 2 = 2 ^ b - x / 2 by omega, this] at h1
   have : ¬ (x &&& X) % 2 = 1 := fun c => by have := h2.1 c; omega
   omega
theorem tz_bit : ∀ b x, x < 2 ^ b → x ≠ 0 → tzN b x < b ∧ x.testBit (tzN b x) = true ∧ ∀ i, i < tzN b x → x.testBit i = false
 | 0, x, h, h0 => by exfalso; simp at h; omega
 | b + 1, x, h, h0 => by
  have hp : 2 ^ (b + 1) = 2 * 2 ^ b := by rw [Nat.pow_succ]; omega
  rw [tzN]
  by_cases c : x % 2 = 1
  ·rw [if_pos c]
   exact ⟨by omega, by rw [Nat.testBit_zero]; simpa using c, fun i hi => absurd hi (by omega)⟩
  ·rw [if_neg c]
   obtain ⟨h1, h2, h3⟩ := tz_bit b (x / 2) (by omega) (by omega)
   refine ⟨by omega, by rw [Nat.testBit_succ]; exact h2, fun i hi => ?_⟩
   cases i with
   | zero => rw [Nat.testBit_zero]; simpa using c
   | succ i => rw [Nat.testBit_succ]; exact h3 i (by omega)
theorem clr_bit : ∀ b x, x < 2 ^ b → x ≠ 0 → ∀ i, (x &&& (x - 1)).testBit i = (x.testBit i && !decide (i = tzN b x))
 | 0, x, h, h0, i => by exfalso; simp at h; omega
 | b + 1, x, h, h0, i => by
  have hp : 2 ^ (b + 1) = 2 * 2 ^ b := by rw [Nat.pow_succ]; omega
  rw [tzN, Nat.testBit_and]
  by_cases c : x % 2 = 1
  ·rw [if_pos c]
   cases i with
   | zero =>
    rw [Nat.testBit_zero (x - 1), show ((x - 1) % 2) = 0 by omega]
    simp
   | succ i =>
    rw [Nat.testBit_succ, Nat.testBit_succ, show (x - 1) / 2 = x / 2 by omega]
    simp
  ·rw [if_neg c]
   have ih := clr_bit b (x / 2) (by omega) (by omega)
   cases i with
   | zero =>
    rw [Nat.testBit_zero x, show x % 2 = 0 by omega]
    simp
   | succ i =>
    rw [Nat.testBit_succ, Nat.testBit_succ, show (x - 1) / 2 = x / 2 - 1 by omega]
    have := ih i
    rw [Nat.testBit_and] at this
    rw [this]
    congr 2
    simp

def hiN (s v : Nat) : Nat := s / 2 ^ v * 2 ^ v
theorem hi_bit (s v i : Nat) : (hiN s v).testBit i = (decide (v ≤ i) && s.testBit i) := by
 unfold hiN
 rw [Nat.mul_comm, Nat.testBit_two_pow_mul]
 by_cases c : v ≤ i
 ·rw [decide_eq_true c, Nat.testBit_div_two_pow, Nat.sub_add_cancel c]
 ·simp [c]
theorem hi_le (s v : Nat) : hiN s v ≤ s := Nat.div_mul_le_self s (2 ^ v)
theorem hi_zero (s : Nat) : hiN s 0 = s := by unfold hiN; simp
theorem hi_next {b s v : Nat} (h : s < 2 ^ b) (h0 : hiN s v ≠ 0) : v ≤ tzN b (hiN s v) ∧ tzN b (hiN s v) < b ∧ s.testBit (tzN b (hiN s v)) = true ∧ (∀ i, v ≤ i → i < tzN b (hiN s v) → s.testBit i = false) ∧ hiN s v &&& (hiN s v - 1) = hiN s (tzN b (hiN s v) + 1) := by
 have hh : hiN s v < 2 ^ b := Nat.lt_of_le_of_lt (hi_le s v) h
 obtain ⟨h1, h2, h3⟩ := tz_bit b _ hh h0
 have h4 := clr_bit b _ hh h0
 generalize tzN b (hiN s v) = t at h1 h2 h3 h4
 rw [hi_bit, Bool.and_eq_true, decide_eq_true_eq] at h2
 refine ⟨h2.1, h1, h2.2, fun i hv hi => ?_, ?_⟩
 ·have := h3 i hi
  rw [hi_bit, decide_eq_true hv] at this
  simpa using this
 ·apply Nat.eq_of_testBit_eq
  intro i
  rw [h4, hi_bit, hi_bit]
  by_cases c : t + 1 ≤ i
  ·rw [decide_eq_true c, decide_eq_true (show v ≤ i by omega), decide_eq_false (show ¬ i = t by omega)]
   simp
  ·rw [decide_eq_false c, Bool.false_and]
   by_cases e : i = t
   ·simp [e]
   ·have := h3 i (by omega)
    rw [hi_bit] at this
    rw [this]; rfl
theorem hi_none {s v : Nat} (h : hiN s v = 0) {i : Nat} (hi : v ≤ i) : s.testBit i = false := by
 have := hi_bit s v i
 rw [h, Nat.zero_testBit, decide_eq_true hi] at this
 simpa using this.symm

end Go.Num
namespace Go.Proofs
open Go Go.Ev Go.Num
set_option linter.unusedVariables false
set_option linter.unusedSimpArgs false
set_option maxRecDepth 100000

theorem wrapU' {a : Nat} (h : a < 18446744073709551616) : IntKind.wrap .u64 (a : Int) = (a : Int) := by rw [wrU]; omega
theorem bvU (a : Nat) (h : a < 18446744073709551616) : (BitVec.ofInt 64 (a : Int)).toNat = a := by
 rw [BitVec.ofInt_natCast, BitVec.toNat_ofNat]
 exact Nat.mod_eq_of_lt h
theorem ibO {k : IntKind} (hk : k = .u64 ∨ k = .i64) {a b : Nat} (ha : a < 18446744073709551616) (hb : b < 18446744073709551616) : ibits .or k (a : Int) (b : Int) = k.wrap ((a ||| b : Nat) : Int) ∧ ibits .and k (a : Int) (b : Int) = k.wrap ((a &&& b : Nat) : Int) ∧ ibits .andNot k (a : Int) (b : Int) = k.wrap ((anN a b : Nat) : Int) := by
 have hx : ∀ x y : BitVec 64, x &&& ~~~y = (x &&& y) ^^^ x := fun x y => by
  ext i hi
  simp
  cases x[i] <;> cases y[i] <;> rfl
 have e1 : (BitVec.ofInt 64 (a : Int) ||| BitVec.ofInt 64 (b : Int)).toNat = a ||| b := by rw [BitVec.toNat_or, bvU a ha, bvU b hb]
 have e2 : (BitVec.ofInt 64 (a : Int) &&& BitVec.ofInt 64 (b : Int)).toNat = a &&& b := by rw [BitVec.toNat_and, bvU a ha, bvU b hb]
 have e3 : (BitVec.ofInt 64 (a : Int) &&& ~~~(BitVec.ofInt 64 (b : Int))).toNat = anN a b := by rw [hx, BitVec.toNat_xor, BitVec.toNat_and, bvU a ha, bvU b hb]; rfl
 rcases hk with rfl | rfl
 ·refine ⟨?_, ?_, ?_⟩
  ·show IntKind.wrap .u64 ((BitVec.ofInt 64 (a : Int) ||| BitVec.ofInt 64 (b : Int)).toNat : Int) = _
   rw [e1]
  ·show IntKind.wrap .u64 ((BitVec.ofInt 64 (a : Int) &&& BitVec.ofInt 64 (b : Int)).toNat : Int) = _
   rw [e2]
  ·show IntKind.wrap .u64 ((BitVec.ofInt 64 (a : Int) &&& ~~~(BitVec.ofInt 64 (b : Int))).toNat : Int) = _
   rw [e3]
 ·refine ⟨?_, ?_, ?_⟩
  ·show IntKind.wrap .i64 ((BitVec.ofInt 64 (a : Int) ||| BitVec.ofInt 64 (b : Int)).toNat : Int) = _
   rw [e1]
  ·show IntKind.wrap .i64 ((BitVec.ofInt 64 (a : Int) &&& BitVec.ofInt 64 (b : Int)).toNat : Int) = _
   rw [e2]
  ·show IntKind.wrap .i64 ((BitVec.ofInt 64 (a : Int) &&& ~~~(BitVec.ofInt 64 (b : Int))).toNat : Int) = _
   rw [e3]
theorem uO {a b : Nat} (ha : a < 18446744073709551616) (hb : b < 18446744073709551616) : ibits .or .u64 (a : Int) (b : Int) = ((a ||| b : Nat) : Int) ∧ ibits .and .u64 (a : Int) (b : Int) = ((a &&& b : Nat) : Int) ∧ ibits .andNot .u64 (a : Int) (b : Int) = ((anN a b : Nat) : Int) := by
 have h64 : (18446744073709551616 : Nat) = 2 ^ 64 := by decide
 obtain ⟨h1, h2, h3⟩ := ibO (.inl rfl) ha hb
 refine ⟨h1.trans (wrapU' ?_), h2.trans (wrapU' ?_), h3.trans (wrapU' ?_)⟩
 ·rw [h64] at *; exact Nat.or_lt_two_pow ha hb
 ·rw [h64] at *; exact Nat.and_lt_two_pow _ hb
 ·rw [h64] at *; exact an_lt ha
theorem shl1 {b : Nat} (h : b < 16) : IntKind.wrap IntKind.u64 (Int.ofNat 1 * Int.ofNat 2 ^ min b 64) = ((2 ^ b : Nat) : Int) := by
 have h1 : 2 ^ b < 65536 := Nat.pow_lt_pow_right (n := 16) (by decide) h
 rw [Nat.min_eq_left (by omega), wrU, show (Int.ofNat 1 * Int.ofNat 2 ^ b : Int) = ((2 ^ b : Nat) : Int) by simp]
 generalize 2 ^ b = x at *
 omega

end Go.Proofs

/- Orders' cells: the names. -/
namespace Go.Proofs
open Go Go.Ev Go.Num
set_option linter.unusedVariables false
set_option linter.unusedSimpArgs false
set_option maxRecDepth 100000

abbrev V (z : Int) : Value := .int .u16 z
abbrev pq (i : Nat) : Value := .pointer (some ⟨i, 0, none⟩)
def oOr (c : List Value) (i : Nat) : Option AObj := some (.cells c 56 i 0)
def z25 : List Value := [I 0, V 0, V 0, V 0, V 0, V 0, V 0, V 0, V 0, V 0, V 0, V 0, V 0, V 0, V 0, V 0, V 0, V 0, V 0, V 0, V 0, V 0, V 0, V 0, V 0]

end Go.Proofs

/- Words of sixteen bits. -/
namespace Go.Proofs
open Go Go.Ev Go.Num
set_option linter.unusedVariables false
set_option linter.unusedSimpArgs false

theorem wrV (v : Int) : IntKind.wrap .u16 v = v % 65536 := by simp [IntKind.wrap, IntKind.bits, IntKind.signed]
theorem wrapV {a : Nat} (h : a < 65536) : IntKind.wrap .u16 (a : Int) = (a : Int) := by rw [wrV]; omega
theorem bvV (a : Nat) (h : a < 65536) : (BitVec.ofInt 16 (a : Int)).toNat = a := by
 rw [BitVec.ofInt_natCast, BitVec.toNat_ofNat]
 exact Nat.mod_eq_of_lt h
theorem uV {a b : Nat} (ha : a < 65536) (hb : b < 65536) : ibits .or .u16 (a : Int) (b : Int) = ((a ||| b : Nat) : Int) ∧ ibits .and .u16 (a : Int) (b : Int) = ((a &&& b : Nat) : Int) ∧ ibits .andNot .u16 (a : Int) (b : Int) = ((anN a b : Nat) : Int) := by
 have hx : ∀ x y : BitVec 16, x &&& ~~~y = (x &&& y) ^^^ x := fun x y => by
  ext i hi
  simp
  cases x[i] <;> cases y[i] <;> rfl
 have e1 : (BitVec.ofInt 16 (a : Int) ||| BitVec.ofInt 16 (b : Int)).toNat = a ||| b := by rw [BitVec.toNat_or, bvV a ha, bvV b hb]
 have e2 : (BitVec.ofInt 16 (a : Int) &&& BitVec.ofInt 16 (b : Int)).toNat = a &&& b := by rw [BitVec.toNat_and, bvV a ha, bvV b hb]
 have e3 : (BitVec.ofInt 16 (a : Int) &&& ~~~(BitVec.ofInt 16 (b : Int))).toNat = anN a b := by rw [hx, BitVec.toNat_xor, BitVec.toNat_and, bvV a ha, bvV b hb]; rfl
 have h16 : (65536 : Nat) = 2 ^ 16 := by decide
 refine ⟨?_, ?_, ?_⟩
 ·show IntKind.wrap .u16 ((BitVec.ofInt 16 (a : Int) ||| BitVec.ofInt 16 (b : Int)).toNat : Int) = _
  rw [e1]
  refine wrapV ?_
  rw [h16] at *; exact Nat.or_lt_two_pow ha hb
 ·show IntKind.wrap .u16 ((BitVec.ofInt 16 (a : Int) &&& BitVec.ofInt 16 (b : Int)).toNat : Int) = _
  rw [e2]
  refine wrapV ?_
  rw [h16] at *; exact Nat.and_lt_two_pow _ hb
 ·show IntKind.wrap .u16 ((BitVec.ofInt 16 (a : Int) &&& ~~~(BitVec.ofInt 16 (b : Int))).toNat : Int) = _
  rw [e3]
  refine wrapV ?_
  rw [h16] at *; exact an_lt ha
theorem shlV {b : Nat} (h : b < 16) : IntKind.wrap IntKind.u16 (Int.ofNat 1 * Int.ofNat 2 ^ min b 16) = ((2 ^ b : Nat) : Int) := by
 have h1 : 2 ^ b < 65536 := Nat.pow_lt_pow_right (n := 16) (by decide) h
 rw [Nat.min_eq_left (by omega), wrV, show (Int.ofNat 1 * Int.ofNat 2 ^ b : Int) = ((2 ^ b : Nat) : Int) by simp]
 generalize 2 ^ b = x at *
 omega
theorem isV_V (x : Int) : isI IntKind.u16 (V x) = true := rfl
theorem ofI_V (x : Int) : ofI (V x) = x := rfl
theorem eqv_v (a : Int) : m_eqv (V a) (V a) = true := by simp [m_eqv, veq]

/-! ### an order's cells -/
def orC (n : Nat) (w a : Nat → Nat) : List Value := I (n : Nat) :: ((List.range 12).map (fun j => V ((w j : Nat) : Int)) ++ (List.range 12).map fun j => V ((a j : Nat) : Int))
theorem orC_len (n : Nat) (w a : Nat → Nat) : (orC n w a).length = 25 := rfl
theorem orC_nn (n : Nat) (w a : Nat → Nat) : m_nns (orC n w a) = true := rfl
theorem mp_len (w : Nat → Nat) : ((List.range 12).map fun j => V ((w j : Nat) : Int)).length = 12 := by simp
theorem orC_w {n : Nat} {w a : Nat → Nat} {j : Nat} (h : j < 12) : (orC n w a)[1 + j]? = some (V ((w j : Nat) : Int)) := by
 unfold orC
 rw [show 1 + j = j + 1 by omega, List.getElem?_cons_succ, List.getElem?_append_left (by rw [mp_len]; exact h), List.getElem?_map, List.getElem?_range h]
 rfl
theorem orC_a {n : Nat} {w a : Nat → Nat} {j : Nat} (h : j < 12) : (orC n w a)[13 + j]? = some (V ((a j : Nat) : Int)) := by
 unfold orC
 rw [show 13 + j = (12 + j) + 1 by omega, List.getElem?_cons_succ, List.getElem?_append_right (by rw [mp_len]; omega), mp_len, show 12 + j - 12 = j by omega, List.getElem?_map, List.getElem?_range h]
 rfl
theorem mp_set (w : Nat → Nat) {i x : Nat} (h : i < 12) : ((List.range 12).map fun j => V ((w j : Nat) : Int)).set i (V ((x : Nat) : Int)) = (List.range 12).map fun j => V (((if j = i then x else w j) : Nat) : Int) := by
 apply List.ext_getElem
 ·simp
 ·intro k h1 h2
  rw [List.getElem_set]
  by_cases c : i = k
  ·subst c; simp
  ·rw [if_neg c]
   have : ¬ k = i := fun e => c e.symm
   simp [this]
theorem orC_setw {n : Nat} {w a : Nat → Nat} {i x : Nat} (h : i < 12) : (orC n w a).set (1 + i) (V ((x : Nat) : Int)) = orC n (fun j => if j = i then x else w j) a := by
 unfold orC
 rw [show 1 + i = i + 1 by omega, List.set_cons_succ, List.set_append_left _ _ (by rw [mp_len]; exact h), mp_set w h]
theorem orC_seta {n : Nat} {w a : Nat → Nat} {i x : Nat} (h : i < 12) : (orC n w a).set (13 + i) (V ((x : Nat) : Int)) = orC n w fun j => if j = i then x else a j := by
 unfold orC
 rw [show 13 + i = (12 + i) + 1 by omega, List.set_cons_succ, List.set_append_right _ _ (by rw [mp_len]; omega), mp_len, show 12 + i - 12 = i by omega, mp_set a h]
theorem orC_ext {n : Nat} {w w' a a' : Nat → Nat} (h : ∀ j, j < 12 → w j = w' j) (h2 : ∀ j, j < 12 → a j = a' j) : orC n w a = orC n w' a' := by
 unfold orC
 congr 2
 ·exact List.map_congr_left fun j hj => by rw [h j (by simpa using hj)]
 ·exact List.map_congr_left fun j hj => by rw [h2 j (by simpa using hj)]

/-! ### the words of a table -/
def rwO (T : List (List Bool)) (v : Nat) : Nat → Nat
 | 0 => 0
 | k + 1 => if gT T v k then rwO T v k ||| 2 ^ k else rwO T v k
def clO (T : List (List Bool)) (v : Nat) : Nat → Nat
 | 0 => 0
 | k + 1 => if gT T k v then clO T v k ||| 2 ^ k else clO T v k
theorem rwO_lt (T : List (List Bool)) (v : Nat) : ∀ k, rwO T v k < 2 ^ k
 | 0 => by simp [rwO]
 | k + 1 => by
  have h := rwO_lt T v k
  have h2 : rwO T v k < 2 ^ (k + 1) := Nat.lt_of_lt_of_le h (Nat.pow_le_pow_right (by decide) (by omega))
  rw [rwO]
  split
  ·exact Nat.or_lt_two_pow h2 (Nat.pow_lt_pow_right (by decide) (by omega))
  ·exact h2
theorem clO_lt (T : List (List Bool)) (v : Nat) : ∀ k, clO T v k < 2 ^ k
 | 0 => by simp [clO]
 | k + 1 => by
  have h := clO_lt T v k
  have h2 : clO T v k < 2 ^ (k + 1) := Nat.lt_of_lt_of_le h (Nat.pow_le_pow_right (by decide) (by omega))
  rw [clO]
  split
  ·exact Nat.or_lt_two_pow h2 (Nat.pow_lt_pow_right (by decide) (by omega))
  ·exact h2
theorem clO_bit (T : List (List Bool)) (v : Nat) : ∀ k j, (clO T v k).testBit j = (decide (j < k) && gT T j v)
 | 0, j => by simp [clO]
 | k + 1, j => by
  have ih := clO_bit T v k j
  rw [clO]
  by_cases c : gT T k v = true
  ·rw [if_pos c, Nat.testBit_or, ih, Nat.testBit_two_pow]
   by_cases e : k = j
   ·subst e; simp [c]
   ·by_cases h : j < k
    ·simp [h, e, show j < k + 1 by omega]
    ·simp [h, e, show ¬ j < k + 1 by omega]
  ·rw [if_neg c, ih]
   by_cases e : k = j
   ·subst e; simp at c; simp [c]
   ·by_cases h : j < k
    ·simp [h, show j < k + 1 by omega]
    ·simp [h, show ¬ j < k + 1 by omega]
def wB (T : List (List Bool)) (i k j : Nat) : Nat := if j < k then clO T j (i + 1) else clO T j i
def wA (T : List (List Bool)) (i k j : Nat) : Nat := if j < i then rwO T j T.length else if j = i then rwO T j k else 0
theorem lt12 {x k : Nat} (hk : k ≤ 12) (h : x < 2 ^ k) : x < 4096 := Nat.lt_of_lt_of_le h (Nat.pow_le_pow_right (n := 2) (by decide) hk)
theorem wB_lt {T : List (List Bool)} {i : Nat} (hi : i < 12) (k j : Nat) : wB T i k j < 4096 := by
 unfold wB
 split
 ·exact lt12 (by omega) (clO_lt T j (i + 1))
 ·exact lt12 (by omega) (clO_lt T j i)
theorem wA_lt {T : List (List Bool)} (hT : T.length ≤ 12) {k : Nat} (hk : k ≤ 12) (i j : Nat) : wA T i k j < 4096 := by
 unfold wA
 split
 ·exact lt12 hT (rwO_lt T j _)
 ·split
  ·exact lt12 hk (rwO_lt T j k)
  ·omega
theorem put_ok {T : List (List Bool)} {n i k : Nat} (hi : i < 12) (hk : k < 12) (h : gT T i k = true) : ((orC n (wB T i k) (wA T i k)).set (1 + k) (V ((wB T i k k ||| 2 ^ i : Nat) : Int))).set (13 + i) (V ((wA T i k i ||| 2 ^ k : Nat) : Int)) = orC n (wB T i (k + 1)) (wA T i (k + 1)) := by
 rw [orC_setw hk, orC_seta hi]
 refine orC_ext (fun j hj => ?_) fun j hj => ?_
 ·unfold wB
  by_cases e : j = k
  ·subst e
   rw [if_pos rfl, if_neg (by omega), if_pos (by omega), clO, if_pos h]
  ·rw [if_neg e]
   by_cases c : j < k
   ·rw [if_pos c, if_pos (by omega)]
   ·rw [if_neg c, if_neg (by omega)]
 ·unfold wA
  by_cases e : j = i
  ·subst e
   rw [if_pos rfl, if_neg (by omega), if_pos rfl, if_neg (by omega), if_pos rfl, rwO, if_pos h]
  ·rw [if_neg e, if_neg e, if_neg e]
theorem skip_ok {T : List (List Bool)} {n i k : Nat} (h : gT T i k = false) : orC n (wB T i k) (wA T i k) = orC n (wB T i (k + 1)) (wA T i (k + 1)) := by
 refine orC_ext (fun j hj => ?_) fun j hj => ?_
 ·unfold wB
  by_cases c : j < k
  ·rw [if_pos c, if_pos (by omega)]
  ·rw [if_neg c]
   by_cases e : j = k
   ·subst e
    rw [if_pos (by omega), clO, h]
    rfl
   ·rw [if_neg (by omega)]
 ·unfold wA
  by_cases e : j = i
  ·subst e
   rw [if_neg (by omega), if_pos rfl, if_neg (by omega), if_pos rfl, rwO, h]
   rfl
  ·rw [if_neg e, if_neg e]
theorem next_ok {T : List (List Bool)} {n i : Nat} (hl : (T.getD i []).length = T.length) : orC n (wB T i T.length) (wA T i T.length) = orC n (wB T (i + 1) 0) (wA T (i + 1) 0) := by
 refine orC_ext (fun j hj => ?_) fun j hj => ?_
 ·unfold wB
  rw [if_neg (show ¬ j < 0 by omega)]
  by_cases c : j < T.length
  ·rw [if_pos c]
  ·rw [if_neg c, clO]
   have : gT T i j = false := by
    unfold gT
    rw [List.getD_eq_getElem?_getD, List.getElem?_eq_none (by omega)]
    rfl
   rw [this]
   rfl
 ·unfold wA
  by_cases c : j < i
  ·rw [if_pos c, if_pos (by omega)]
  ·rw [if_neg c]
   by_cases e : j = i
   ·subst e
    rw [if_pos rfl, if_pos (by omega)]
   ·rw [if_neg e, if_neg (by omega)]
    by_cases e2 : j = i + 1
    ·rw [if_pos e2]; rfl
    ·rw [if_neg e2]

end Go.Proofs

/- The least bit of a word of sixteen bits, run. -/
namespace Go.Proofs
open Go Go.Ev Go.Num
set_option linter.unusedVariables false
set_option linter.unusedSimpArgs false
set_option maxRecDepth 100000

abbrev fY (l : Nat) : Value := .func (.yield l) ⟨[]⟩ ⟨[]⟩
def m_tvG (s : Int) : Bool := decide (1 ≤ s ∧ s < 65536)
def m_tv (s : Int) : Int := (tzN 16 s.toNat : Nat)
def eV1 (g : Int → Bool) (v : Int → Value) : Ent := ent (fun args _ => match args with | [.int .u16 a] => g a | _ => false) (fun args _ => match args with | [.int .u16 a] => v a | _ => undef)
theorem eV1_ok {C : Cfg} {f : Nat} {g : Int → Bool} {v : Int → Value} (h : ∀ a, g a = true → GrT C.P C.ro f [.int .u16 a] (v a)) : EOk C f (eV1 g v) := EOk.ent fun args A hg => by
 split at hg
 ·exact (h _ hg).ro rfl A
 ·cases hg
def tEs : Tbl := tcons 65 (eV1 m_tvG fun x => I (m_tv x)) fun _ => none

theorem tvA (r : Mem) (s : Int) : (lvlT (SC r) (fun _ => none) .nil 2 4).call 65 [V s] emptyA fin =
    bif s == Int.ofNat 0 then .ret (I (Int.ofNat 16)) (AW.mk 0 .nil .nil) else bif decide (0 ≤ Int.fdiv (m_mulV (IntKind.wrap .u32 (ibits BinOp.and IntKind.u16 s (IntKind.wrap .u16 (Int.ofNat 0 - s)))) (Int.ofNat 125613361)) (Int.ofNat 134217728)) then bif Nat.blt (Int.toNat (Int.fdiv (m_mulV (IntKind.wrap .u32 (ibits BinOp.and IntKind.u16 s (IntKind.wrap .u16 (Int.ofNat 0 - s)))) (Int.ofNat 125613361)) (Int.ofNat 134217728))) 32 then Option.casesOn (r 0 (Nat.add 0 (Nat.mul (Int.toNat (Int.fdiv (m_mulV (IntKind.wrap .u32 (ibits BinOp.and IntKind.u16 s (IntKind.wrap .u16 (Int.ofNat 0 - s)))) (Int.ofNat 125613361)) (Int.ofNat 134217728))) 1))) (.fail 423) fun val => bif isI IntKind.u8 val then .ret (I (IntKind.wrap .i64 (ofI val))) (AW.mk 0 .nil .nil) else .fail 420 else .fail 420 else .fail 420 := by kernel_rfl

end Go.Proofs

/- The least bit of a word of sixteen bits: what the call answers. -/
namespace Go.Num
open Go Go.Proofs Go.Ev

def tvI (t : Nat) : Int := Int.fdiv (m_mulV ((2 ^ t : Nat) : Int) (Int.ofNat 125613361)) (Int.ofNat 134217728)
def tvC (t : Nat) : Bool := decide (0 ≤ tvI t) && (Nat.blt (tvI t).toNat 32 && match tabM 0 (Nat.add 0 (Nat.mul (tvI t).toNat 1)) with
 | some (.int .u8 z) => decide (z = (t : Int))
 | _ => false)
theorem tvC_all : ∀ t : Fin 16, tvC t.val = true := by decide +kernel

end Go.Num
namespace Go.Proofs
open Go Go.Ev Go.Num
set_option linter.unusedVariables false
set_option linter.unusedSimpArgs false
set_option maxRecDepth 100000

theorem tv_ok (r : Mem) (hm : ∀ b j u, tabM b j = some u → r b j = some u) (s : Nat) (h0 : s ≠ 0) (h : s < 65536) : GrT Tryd.prog r 65 [V (s : Nat)] (I (tzN 16 s : Nat)) :=
 GrT.of (SC_ok r) TOk.nil .nil rfl ⟨2, 4, by
  rw [tvA]
  have c1 : ((s : Int) == Int.ofNat 0) = false := by simp; omega
  have e1 : IntKind.wrap IntKind.u16 (Int.ofNat 0 - (s : Int)) = ((2 ^ 16 - s : Nat) : Int) := by rw [wrV]; simp; omega
  have e2 : ibits BinOp.and IntKind.u16 (s : Int) ((2 ^ 16 - s : Nat) : Int) = ((s &&& (2 ^ 16 - s) : Nat) : Int) := (uV (by omega) (by omega)).2.1
  have ht := (tz_bit 16 s (by omega) h0).1
  have hc := tvC_all ⟨tzN 16 s, ht⟩
  have h2t : 2 ^ tzN 16 s < 65536 := Nat.pow_lt_pow_right (n := 16) (by decide) ht
  have e3 : IntKind.wrap IntKind.u32 ((2 ^ tzN 16 s : Nat) : Int) = ((2 ^ tzN 16 s : Nat) : Int) := by
   rw [show ∀ v, IntKind.wrap IntKind.u32 v = v % 4294967296 from fun v => by simp [IntKind.wrap, IntKind.bits, IntKind.signed]]
   generalize 2 ^ tzN 16 s = x at *
   omega
  rw [c1, cond_false, e1, e2, low_pow 16 s (by omega) h0, e3]
  generalize tzN 16 s = t at ht hc
  unfold tvC at hc
  rw [Bool.and_eq_true, Bool.and_eq_true] at hc
  obtain ⟨d1, d2, d3⟩ := hc
  change decide (0 ≤ tvI t) = true at d1
  change (bif decide (0 ≤ tvI t) then bif Nat.blt (Int.toNat (tvI t)) 32 then Option.casesOn (r 0 (Nat.add 0 (Nat.mul (Int.toNat (tvI t)) 1))) (CR.fail 423) fun val => bif isI IntKind.u8 val then CR.ret (Value.int IntKind.i64 (IntKind.wrap IntKind.i64 (ofI val))) (AW.mk 0 .nil .nil) else CR.fail 420 else CR.fail 420 else CR.fail 420) = _
  rw [d1, cond_true, d2, cond_true]
  split at d3
  ·rename_i z hz
   rw [hm _ _ _ hz]
   have hz' : z = (t : Int) := of_decide_eq_true d3
   subst hz'
   show CR.ret (Value.int IntKind.i64 (IntKind.wrap IntKind.i64 (t : Int))) _ = _
   rw [wrI (by omega)]
   rfl
  ·exact nomatch d3⟩
theorem tEs_ok (r : Mem) (hm : ∀ b j u, tabM b j = some u → r b j = some u) : TOk (SC r) tEs := TOk.cons TOk.nil (eV1_ok fun a ha => by
 have h := of_decide_eq_true ha
 have := tv_ok r hm a.toNat (by omega) (by omega)
 rw [show ((a.toNat : Nat) : Int) = a by omega] at this
 exact this)

end Go.Proofs

/- A walk over the bits of a word, whatever is done in its rounds. -/
namespace Go.Proofs
open Go Go.Ev Go.Num
set_option linter.unusedVariables false
set_option linter.unusedSimpArgs false
set_option maxRecDepth 100000

noncomputable def cEs : Code := bodyOf S0 55
noncomputable def Es_0 : Code := (lc cEs)
noncomputable def Es_1 : Code := (lc (ic (ic (rc cEs))))
noncomputable def Es_2 : Code := (lc (ic (lc (rc (ic (ic (rc cEs)))))))
noncomputable def Es_3 : Code := (rc (ic (lc (rc (ic (ic (rc cEs)))))))
noncomputable def Es_4 : Code := (rc (rc (ic (ic (rc cEs)))))
theorem Es_eq : cEs = (.seq Es_0 (.block 0 (.loop (.seq Es_1 (.seq (.block 1 (.seq Es_2 Es_3)) Es_4))))) := by kernel_rfl
def lvEs : List Nat := [0, 3]
def tEb (l : Nat) (t : Int) : Tr Value := bT lvEs [some (fY l), some (V t)] .nil

theorem ebA (r : Mem) (l p : Nat) (A : AW) (fs : FnsC) (K : KS) (kx : Nat → KS) (kr : KS) : run (SC r) 11 16 1 Es_0 fs none K kx kr (sc0 11 [fY l, .pointer (some ⟨p, 0, none⟩)]) (tr0 11 [fY l, .pointer (some ⟨p, 0, none⟩)]) [] A =
    Option.casesOn (match Tr.get (AW.heap A) p with | some (.cells c elem fam sz) => c[0]? | x => none) (.fail 423) fun val => bif isI IntKind.u16 val then K [(4, .int .u16 (ofI val))] (.node (.node (.node .nil (some (.int .u16 (ofI val))) .nil) (some (.pointer (some ⟨p, 0, none⟩))) .nil) (some (.func (Fn.yield l) ⟨[]⟩ ⟨[]⟩)) .nil) [] A else .fail 420 := by kernel_rfl

theorem ebB (r : Mem) (l : Nat) (t : Int) (A : AW) (fs : FnsC) (K : KS) (kx : Nat → KS) (kr : KS) : run (SC r) 11 16 1 Es_1 fs none K kx kr [] (tEb l t) [] A =
    bif t != Int.ofNat 0 then K [(6, .bool true), (5, .int .u16 t)] (.node (.node (.node .nil (some (.int .u16 t)) .nil) none .nil) (some (.func (Fn.yield l) ⟨[]⟩ ⟨[]⟩)) .nil) [] A else kx 0 [(6, .bool false), (5, .int .u16 t)] (.node (.node (.node .nil (some (.int .u16 t)) .nil) none .nil) (some (.func (Fn.yield l) ⟨[]⟩ ⟨[]⟩)) .nil) [] A := by kernel_rfl

theorem ebC (r : Mem) (l : Nat) (t : Int) (A : AW) (K : KS) : preK (SC r) 11 16 Es_2 3 (lvlT (SC r) tEs .nil 1 2) K [] (tEb l t) [] A =
    bif m_tvG t then K [(13, I (m_tv t)), (12, .int .u16 t), (11, .func (Fn.yield l) ⟨[]⟩ ⟨[]⟩)] (.node (.node (.node .nil (some (.int .u16 t)) .nil) none .nil) (some (.func (Fn.yield l) ⟨[]⟩ ⟨[]⟩)) .nil) [] A else .fail 420 := by kernel_rfl

theorem ebD (r : Mem) (l : Nat) (t u : Int) (v : Bool) (A : AW) (fs : FnsC) (K : KS) (kx : Nat → KS) (kr : KS) : tailK (SC r) 11 16 Es_2 3 fs (run (SC r) 11 16 1 Es_3 fs none (run (SC r) 11 16 1 Es_4 fs none K kx kr) (fun j => match Nat.beq j 1 with | true => run (SC r) 11 16 1 Es_4 fs none K kx kr | false => kx j) kr) (.bool v) [(13, I u), (12, V t), (11, fY l)] (tEb l t) [] A =
    bif v then K [(10, .int .u16 (ibits BinOp.and IntKind.u16 t (IntKind.wrap .u16 (t - Int.ofNat 1)))), (9, .int .u16 (IntKind.wrap .u16 (t - Int.ofNat 1))), (8, .int .u16 t), (7, .int .u16 t)] (.node (.node (.node .nil (some (.int .u16 (ibits BinOp.and IntKind.u16 t (IntKind.wrap .u16 (t - Int.ofNat 1))))) .nil) none .nil) (some (.func (Fn.yield l) ⟨[]⟩ ⟨[]⟩)) .nil) [] A else kr [(15, .bool true), (14, .bool false), (13, I u), (12, .int .u16 t), (11, .func (Fn.yield l) ⟨[]⟩ ⟨[]⟩)] (.node (.node (.node .nil (some (.int .u16 t)) .nil) none .nil) (some (.func (Fn.yield l) ⟨[]⟩ ⟨[]⟩)) .nil) [] A := by kernel_rfl

end Go.Proofs

/- A walk over the bits of a word, whatever is done in its rounds: what the call leaves. -/
namespace Go.Proofs
open Go Go.Ev Go.Num
set_option linter.unusedVariables false
set_option linter.unusedSimpArgs false
set_option maxRecDepth 100000

theorem skipTo {J : Nat → OO → Prop} {s : Nat} (hskip : ∀ v os, v < 16 → s.testBit v = false → J v os → J (v + 1) os) {os : OO} : ∀ d v, J v os → (∀ i, v ≤ i → i < v + d → s.testBit i = false) → v + d ≤ 16 → J (v + d) os
 | 0, v, h, _, _ => h
 | d + 1, v, h, hb, hd => by
  rw [show v + (d + 1) = v + 1 + d by omega]
  exact skipTo hskip d (v + 1) (hskip v os (by omega) (hb v (Nat.le_refl _) (by omega)) h) (fun i h1 h2 => hb i (by omega) (by omega)) (by omega)

theorem each_iter (r : Mem) (hm : ∀ b j u, tabM b j = some u → r b j = some u) {l p : Nat} {fl : List Fl} {s : Nat} (hs : s < 65536) {J : Nat → OO → Prop} {E : OO → Prop} {os0 : OO}
  (hbox : ∃ e f z, (mkA os0).heap.get p = some (.cells [V (s : Nat)] e f z))
  (hskip : ∀ v os, v < 16 → s.testBit v = false → J v os → J (v + 1) os)
  (hY : ∀ v os, v < 16 → s.testBit v = true → J v os → YOk (SC r) l [I (v : Nat)] (mkA os) fun w A' => ∃ os', Cn (mkA os0).next fl A' os' ∧ ((w = .bool true ∧ J (v + 1) os') ∨ (w = .bool false ∧ E os')))
  (hE : ∀ os, J 16 os → E os) (h0 : J 0 os0) (hl : oldV (mkA os0) (fY l) = true) :
  SOk (SC r) 55 [fY l, pq p] (mkA os0) fun v A' => ∃ os, A' = mkA os ∧ E os := by
 obtain ⟨be, bf, bz, hbox⟩ := hbox
 refine callG (SC_ok r) (by kernel_rfl) ((bodySC r _).trans Es_eq) (nt := 16) (by kernel_rfl) (rs := []) (by kernel_rfl) 11 rfl fun γ W F k hw hF hro hfr => ?_
 have ht := TOk.nil (C := SC r)
 have hte := tEs_ok r hm
 have old : ∀ t : Nat, ∀ v, some v ∈ [some (fY l), some (V (t : Nat))] → oldV (mkA os0) v = true := fun t v hv => by
  simp only [List.mem_cons, Option.some.injEq, List.not_mem_nil, or_false] at hv
  rcases hv with rfl | rfl
  ·exact hl
  ·rfl
 refine Go.Ev.Reach.seq (Go.Ev.Reach.mono (Go.Ev.Reach.segP (kn := asks fun st => ∃ sx T, st = ⟨⟨sx, T⟩, [], mkA os0⟩ ∧ lvEs.map T.get = [some (fY l), some (V (s : Nat))]) (kx := fun _ _ _ _ _ => .fail 0) (kr := fun _ _ _ _ => .fail 0) (SC_ok r) ht (tm := .nil) (L := 1) (L' := 1) (d := 1) hF hro ?_) fun ex st hq => ?_)
 ·have hn := ebA r l p (mkA os0)
  simp only [hbox, List.getElem?_cons_zero, show isI IntKind.u16 (V (s : Nat)) = true from rfl, show ofI (V (s : Nat)) = ((s : Nat) : Int) from rfl, cond_true] at hn
  exact (hn _ _ _ _).trans (qq_ok ⟨_, _, rfl, rfl⟩)
 ·cases ex with
  | normal =>
   obtain ⟨sx0, T0, e, hT⟩ : ∃ sx T, st = ⟨⟨sx, T⟩, [], mkA os0⟩ ∧ lvEs.map T.get = [some (fY l), some (V (s : Nat))] := qq_use hq
   subst e
   refine Go.Ev.Reach.block (Go.Ev.Reach.loop (I := fun j st => ∃ v os, j = 16 - v ∧ v ≤ 16 ∧ J v os ∧ Ren (SC r) 11 16 γ W st ⟨⟨[], tEb l (hiN s v : Nat)⟩, [], mkA os⟩) (fun j st ⟨v, os, hj, hv, hJ, hren⟩ => Go.Ev.Reach.pre hren ?_) (j := 16) ⟨0, os0, rfl, by decide, h0, by
    rw [hi_zero]
    exact Ren.world hw (lv := lvEs) (vs := [some (fY l), some (V (s : Nat))]) hT (old _) (RenA.refl _)⟩)
   have hhi : hiN s v < 65536 := Nat.lt_of_le_of_lt (hi_le s v) hs
   refine Go.Ev.Reach.seq (Go.Ev.Reach.mono (Go.Ev.Reach.segP (kn := asks fun st => hiN s v ≠ 0 ∧ ∃ sx, st = ⟨⟨sx, tEb l (hiN s v : Nat)⟩, [], mkA os⟩) (kx := fun i => match i with | 0 => asks fun st => hiN s v = 0 ∧ ∃ sx T, st = ⟨⟨sx, T⟩, [], mkA os⟩ | _ => fun _ _ _ _ => .fail 0) (kr := fun _ _ _ _ => .fail 0) (SC_ok r) ht (tm := .nil) (L := 1) (L' := 1) (d := 1) hF hro ?_) fun ex st hq => ?_)
   ·have hn := ebB r l (hiN s v : Nat) (mkA os)
    by_cases c : hiN s v = 0
    ·have ne : (((hiN s v : Nat) : Int) != Int.ofNat 0) = false := by simp [c]
     simp only [ne, cond_false] at hn
     exact (hn _ _ _ _).trans (qq_ok ⟨c, _, _, rfl⟩)
    ·have ne : (((hiN s v : Nat) : Int) != Int.ofNat 0) = true := by simp [c]
     simp only [ne, cond_true] at hn
     exact (hn _ _ _ _).trans (qq_ok ⟨c, _, rfl⟩)
   ·cases ex with
    | exit i =>
     cases i with
     | zero =>
      obtain ⟨c, sx, T, e⟩ : hiN s v = 0 ∧ ∃ sx T, st = ⟨⟨sx, T⟩, [], mkA os⟩ := qq_use hq
      subst e
      have hE' : E os := hE os (by
       have := skipTo hskip (16 - v) v hJ (fun i h1 _ => hi_none c h1) (by omega)
       rwa [show v + (16 - v) = 16 by omega] at this)
      exact ⟨.inl rfl, _, .tuple ⟨[]⟩, mkA os, Ren.world hw (lv := []) (vs := []) rfl (fun v hv => nomatch hv) (RenA.refl _), rfl, os, rfl, hE'⟩
     | succ i => cases hq
    | normal =>
     obtain ⟨c, sx, e⟩ : hiN s v ≠ 0 ∧ ∃ sx, st = ⟨⟨sx, tEb l (hiN s v : Nat)⟩, [], mkA os⟩ := qq_use hq
     subst e
     obtain ⟨n1, n2, n3, n4, n5⟩ := hi_next (b := 16) (s := s) (v := v) (by omega) c
     have ht16 := (tz_bit 16 _ (show hiN s v < 2 ^ 16 from hhi) c).1
     have e6 : m_tv ((hiN s v : Nat) : Int) = ((tzN 16 (hiN s v) : Nat) : Int) := by unfold m_tv; rw [Int.toNat_natCast]
     have hJt : J (tzN 16 (hiN s v)) os := by
      have := skipTo hskip (tzN 16 (hiN s v) - v) v hJ (fun i h1 h2 => n4 i h1 (by omega)) (by omega)
      rwa [show v + (tzN 16 (hiN s v) - v) = tzN 16 (hiN s v) by omega] at this
     have e7 : ibits .and .u16 ((hiN s v : Nat) : Int) (IntKind.wrap .u16 (((hiN s v : Nat) : Int) - Int.ofNat 1)) = ((hiN s (tzN 16 (hiN s v) + 1) : Nat) : Int) := by
      have : IntKind.wrap .u16 (((hiN s v : Nat) : Int) - Int.ofNat 1) = ((hiN s v - 1 : Nat) : Int) := by rw [wrV]; simp; omega
      rw [this, (uV (by omega) (by omega)).2.1, n5]
     generalize htz : tzN 16 (hiN s v) = t at *
     let Pn : St → Prop := fun st => ∃ sx A', st = ⟨⟨sx, tEb l (hiN s (t + 1) : Nat)⟩, [], A'⟩ ∧ ∃ os', Cn (mkA os0).next fl A' os' ∧ J (t + 1) os'
     let Pr : St → Prop := fun st => ∃ sx T A', st = ⟨⟨sx, T⟩, [], A'⟩ ∧ ∃ os', Cn (mkA os0).next fl A' os' ∧ E os'
     refine Go.Ev.Reach.mono (Go.Ev.Reach.first (kn := asks Pn) (kx := fun _ _ _ _ _ => .fail 0) (kr := asks Pr) (SC_ok r) hte (tm := .nil) (L := 1) (L' := 1) (d := 2) hF hro (.seq (.block (.seq .here))) (Go.Ev.Reach.yieldK (SC_ok r) hF hte (tm := .nil) (L := 1) (d := 2) 3 (s1 := [(13, I (t : Nat)), (12, V (hiN s v : Nat)), (11, fY l)]) (b1 := tEb l (hiN s v : Nat)) (ms1 := []) (A1 := mkA os) (A2 := mkA os) (i := l) (args := [I (t : Nat)]) ?_ (by kernel_rfl) (hY t os ht16 n3 hJt) fun w A' hS => ?_)) fun ex st' hq => ?_
     ·have hn := ebC r l (hiN s v : Nat) (mkA os)
      have c2 : m_tvG ((hiN s v : Nat) : Int) = true := decide_eq_true ⟨by omega, by omega⟩
      simp only [c2, cond_true, e6] at hn
      exact (hn _).trans (qn_ok rfl)
     ·obtain ⟨os', hcn, hv⟩ := hS
      rcases hv with ⟨rfl, hJ'⟩ | ⟨rfl, hE'⟩
      ·have hn := ebD r l (hiN s v : Nat) (t : Nat) true A'
       simp only [cond_true, e7] at hn
       exact (hn _ _ _ _).trans (qq_ok ⟨_, _, rfl, os', hcn, hJ'⟩)
      ·have hn := ebD r l (hiN s v : Nat) (t : Nat) false A'
       simp only [cond_false] at hn
       exact (hn _ _ _ _).trans (qq_ok ⟨_, _, _, rfl, os', hcn, hE'⟩)
     ·cases ex with
      | normal =>
       obtain ⟨sx, A', e, os', hcn, hJ'⟩ : Pn st' := qq_use hq
       subst e
       exact ⟨16 - (t + 1), by omega, t + 1, os', rfl, by omega, hJ', Ren.world hw (lv := lvEs) (vs := [some (fY l), some (V (hiN s (t + 1) : Nat))]) rfl (old _) (hcn.ren hfr)⟩
      | ret =>
       obtain ⟨sx, T, A', e, os', hcn, hE'⟩ : Pr st' := qq_use hq
       subst e
       exact ⟨.inr rfl, _, .tuple ⟨[]⟩, mkA os', Ren.world hw (lv := []) (vs := []) rfl (fun v hv => nomatch hv) (hcn.ren hfr), rfl, os', rfl, hE'⟩
      | exit i => cases hq
      | _ => exact hq.elim
    | ret => cases hq
    | _ => exact hq.elim
  | exit i => cases hq
  | ret => cases hq
  | _ => exact hq.elim

end Go.Proofs

/- Intervals in boats: by rising left, the first free boat. -/
namespace Go.Num
set_option linter.unusedVariables false
set_option linter.unusedSimpArgs false

def fq (q : Nat → Bool) : Nat → Option Nat
 | 0 => none
 | n + 1 => match fq q n with
  | some k => some k
  | none => if q n = true then some n else none
theorem fq_none {q : Nat → Bool} : ∀ {n}, (∀ j, j < n → q j = false) → fq q n = none
 | 0, _ => rfl
 | n + 1, h => by rw [fq, fq_none fun j hj => h j (by omega)]; exact if_neg (by rw [h n (by omega)]; decide)
theorem fq_some {q : Nat → Bool} {k : Nat} (h : ∀ j, j < k → q j = false) (hk : q k = true) : ∀ {n}, k < n → fq q n = some k
 | 0, hn => absurd hn (by omega)
 | n + 1, hn => by
  rw [fq]
  by_cases c : k = n
  ·subst c; rw [fq_none h]; exact if_pos hk
  ·rw [fq_some h hk (n := n) (by omega)]
theorem fq_cases (q : Nat → Bool) : ∀ n, (fq q n = none ∧ ∀ j, j < n → q j = false) ∨ ∃ k, fq q n = some k ∧ k < n ∧ q k = true
 | 0 => .inl ⟨rfl, fun j h => absurd h (by omega)⟩
 | n + 1 => by
  rcases fq_cases q n with ⟨h1, h2⟩ | ⟨k, h1, h2, h3⟩
  ·cases c : q n with
   | true => exact .inr ⟨n, by rw [fq, h1]; exact if_pos c, by omega, c⟩
   | false => exact .inl ⟨by rw [fq, h1]; exact if_neg (by rw [c]; decide), fun j hj => by
     by_cases e : j = n
     ·rw [e]; exact c
     ·exact h2 j (by omega)⟩
  ·exact .inr ⟨k, by rw [fq, h1], by omega, h3⟩

structure PkS where
 ends : List Int
 boat : Nat → Nat
section
variable (A B : Nat → Int)
def pkF (e : List Int) (i : Nat) : Nat := (fq (fun f => decide (e.getD f 0 < A i)) e.length).getD e.length
def pkE (e : List Int) (i : Nat) : List Int := if pkF A e i = e.length then e ++ [B i] else e.set (pkF A e i) (B i)
def pkN (s : PkS) (i : Nat) : PkS := ⟨pkE A B s.ends i, fun j => if j = i then pkF A s.ends i else s.boat j⟩
def pkL : PkS → List Nat → PkS
 | s, [] => s
 | s, i :: l => pkL (pkN A B s i) l
def pkC (k : Int) : List Nat → Nat
 | [] => 0
 | i :: l => pkC k l + if A i ≤ k ∧ k ≤ B i then 1 else 0
theorem pkC_app (k : Int) : ∀ p q : List Nat, pkC A B k (p ++ q) = pkC A B k p + pkC A B k q
 | [], q => by simp [pkC]
 | i :: p, q => by rw [List.cons_append, pkC, pkC, pkC_app k p q]; omega

def pkD (k : Int) : List Int → Nat
 | [] => 0
 | x :: l => pkD k l + if k ≤ x then 1 else 0
theorem pkD_app (k x : Int) : ∀ e : List Int, pkD k (e ++ [x]) = pkD k e + if k ≤ x then 1 else 0
 | [] => by simp [pkD]
 | y :: e => by rw [List.cons_append, pkD, pkD, pkD_app k x e]; omega
theorem pkD_set (k x : Int) : ∀ (e : List Int) (f : Nat), f < e.length → (pkD k (e.set f x) + if k ≤ e.getD f 0 then 1 else 0) = pkD k e + if k ≤ x then 1 else 0
 | [], f, h => absurd h (by simp)
 | y :: e, 0, _ => by
  show (pkD k e + (if k ≤ x then 1 else 0)) + (if k ≤ y then 1 else 0) = (pkD k e + if k ≤ y then 1 else 0) + if k ≤ x then 1 else 0
  omega
 | y :: e, f + 1, h => by
  have ih := pkD_set k x e f (by simpa using h)
  show (pkD k (e.set f x) + (if k ≤ y then 1 else 0)) + (if k ≤ e.getD f 0 then 1 else 0) = (pkD k e + if k ≤ y then 1 else 0) + if k ≤ x then 1 else 0
  omega
theorem pkD_le (k : Int) : ∀ e : List Int, pkD k e ≤ e.length
 | [] => Nat.le_refl _
 | x :: e => by
  have := pkD_le k e
  rw [pkD, List.length_cons]
  split <;> omega
theorem pkD_lt (k : Int) : ∀ (e : List Int) (f : Nat), f < e.length → e.getD f 0 < k → pkD k e < e.length
 | [], f, h, _ => absurd h (by simp)
 | y :: e, 0, _, h => by
  have := pkD_le k e
  have h : y < k := h
  rw [pkD, List.length_cons, if_neg (by omega)]
  omega
 | y :: e, f + 1, h, h2 => by
  have := pkD_lt k e f (by simpa using h) h2
  rw [pkD, List.length_cons]
  split <;> omega
theorem pkD_all (k : Int) : ∀ e : List Int, (∀ f, f < e.length → k ≤ e.getD f 0) → pkD k e = e.length
 | [], _ => rfl
 | y :: e, h => by
  have h0 : k ≤ y := h 0 (by simp)
  rw [pkD, List.length_cons, if_pos h0, pkD_all k e fun f hf => h (f + 1) (by simpa using hf)]
theorem pkC_le (k : Int) (i : Nat) (p : List Nat) : pkC A B k p ≤ pkC A B k (p ++ [i]) := by rw [pkC_app]; omega

structure PkI (p : List Nat) (s : PkS) : Prop where
 eqD : ∀ k, (∀ j, j ∈ p → A j ≤ k) → pkD k s.ends = pkC A B k p
 upper : ∀ k, pkC A B k p ≤ s.ends.length
 le : ∀ i, i ∈ p → s.boat i < s.ends.length ∧ B i ≤ s.ends.getD (s.boat i) 0
 apart : ∀ i j, i ∈ p → j ∈ p → i ≠ j → s.boat i = s.boat j → B i < A j ∨ B j < A i
 most : s.ends.length = 0 ∨ ∃ i, i ∈ p ∧ s.ends.length ≤ pkC A B (A i) p
 top : s.ends.length = 0 ∨ ∃ i, i ∈ p ∧ s.boat i + 1 = s.ends.length

theorem pkF_le (e : List Int) (i : Nat) : pkF A e i ≤ e.length := by
 unfold pkF
 rcases fq_cases (fun f => decide (e.getD f 0 < A i)) e.length with ⟨h, _⟩ | ⟨k, h, h2, _⟩
 ·rw [h]; exact Nat.le_refl _
 ·rw [h]; exact Nat.le_of_lt h2
theorem pkF_lt {e : List Int} {i : Nat} (h : pkF A e i < e.length) : e.getD (pkF A e i) 0 < A i := by
 unfold pkF at h ⊢
 rcases fq_cases (fun f => decide (e.getD f 0 < A i)) e.length with ⟨h1, _⟩ | ⟨k, h1, h2, h3⟩
 ·rw [h1] at h; exact absurd h (Nat.lt_irrefl _)
 ·rw [h1]; exact of_decide_eq_true h3
theorem pkF_eq {e : List Int} {i : Nat} (h : pkF A e i = e.length) : ∀ f, f < e.length → A i ≤ e.getD f 0 := fun f hf => by
 unfold pkF at h
 rcases fq_cases (fun f => decide (e.getD f 0 < A i)) e.length with ⟨_, h2⟩ | ⟨k, h1, h2, _⟩
 ·have := of_decide_eq_false (h2 f hf)
  omega
 ·rw [h1] at h
  have : k = e.length := h
  omega
theorem pkE_len (e : List Int) (i : Nat) : (pkE A B e i).length = if pkF A e i = e.length then e.length + 1 else e.length := by
 unfold pkE
 split
 ·simp
 ·simp
theorem pkE_get (e : List Int) (i f : Nat) (hf : f < (pkE A B e i).length) : (pkE A B e i).getD f 0 = if f = pkF A e i then B i else e.getD f 0 := by
 have hle := pkF_le A e i
 rw [pkE_len] at hf
 unfold pkE
 by_cases c : pkF A e i = e.length
 ·rw [if_pos c] at hf ⊢
  rw [List.getD_eq_getElem?_getD, List.getD_eq_getElem?_getD]
  by_cases d : f = e.length
  ·rw [if_pos (by omega), d, List.getElem?_append_right (Nat.le_refl _), Nat.sub_self]
   rfl
  ·rw [if_neg (by omega), List.getElem?_append_left (by omega)]
 ·rw [if_neg c] at hf ⊢
  rw [List.getD_eq_getElem?_getD, List.getD_eq_getElem?_getD, List.getElem?_set]
  by_cases d : f = pkF A e i
  ·rw [if_pos d.symm, if_pos d, if_pos (by omega)]
   rfl
  ·rw [if_neg (fun h => d h.symm), if_neg d]

theorem pk_step {p : List Nat} {s : PkS} (h : PkI A B p s) {i : Nat} (hi : i ∉ p) (hab : ∀ j, A j ≤ B j) (hs : ∀ j, j ∈ p → A j ≤ A i) : PkI A B (p ++ [i]) (pkN A B s i) := by
 have hle := pkF_le A s.ends i
 have hlen := pkE_len A B s.ends i
 have hnew : (pkN A B s i).ends.length = (pkE A B s.ends i).length := rfl
 have hF : pkF A s.ends i < (pkE A B s.ends i).length := by rw [hlen]; split <;> omega
 have hmono : s.ends.length ≤ (pkE A B s.ends i).length := by rw [hlen]; split <;> omega
 have bi : (pkN A B s i).boat i = pkF A s.ends i := if_pos rfl
 have bj : ∀ j, j ∈ p → (pkN A B s i).boat j = s.boat j := fun j hj => if_neg fun (e : j = i) => hi (e ▸ hj)
 have mem : ∀ j, j ∈ p ++ [i] → j ∈ p ∨ j = i := fun j hj => by simpa using hj
 have ge : ∀ j, j ∈ p → s.ends.getD (s.boat j) 0 ≤ (pkE A B s.ends i).getD (s.boat j) 0 := fun j hj => by
  obtain ⟨h1, h2⟩ := h.le j hj
  rw [pkE_get A B s.ends i _ (by omega)]
  by_cases c : s.boat j = pkF A s.ends i
  ·rw [if_pos c, c]
   have := pkF_lt A (e := s.ends) (i := i) (by omega)
   have := hab i
   omega
  ·rw [if_neg c]
   exact Int.le_refl _
 have one : ∀ k, pkC A B k (p ++ [i]) = pkC A B k p + if A i ≤ k ∧ k ≤ B i then 1 else 0 := fun k => by
  rw [pkC_app]
  show pkC A B k p + (0 + _) = _
  omega
 refine ⟨fun k hk => ?_, fun k => ?_, fun j hj => ?_, fun j k hj hk hjk hb => ?_, .inr ?_, .inr ?_⟩
 ·have hik := hk i (by simp)
  have h0 := h.eqD k fun j hj => hk j (by simp [hj])
  rw [one]
  show pkD k (pkE A B s.ends i) = _
  unfold pkE
  by_cases c : pkF A s.ends i = s.ends.length
  ·rw [if_pos c, pkD_app, h0]
   by_cases d : k ≤ B i
   ·rw [if_pos d, if_pos ⟨hik, d⟩]
   ·rw [if_neg d, if_neg fun h => d h.2]
  ·rw [if_neg c]
   have hlt : pkF A s.ends i < s.ends.length := by omega
   have h1 := pkD_set k (B i) s.ends _ hlt
   have h2 := pkF_lt A hlt
   rw [if_neg (by omega)] at h1
   by_cases d : k ≤ B i
   ·rw [if_pos d] at h1
    rw [if_pos ⟨hik, d⟩]
    omega
   ·rw [if_neg d] at h1
    rw [if_neg fun h => d h.2]
    omega
 ·rw [one]
  show _ ≤ (pkE A B s.ends i).length
  have hu := h.upper k
  by_cases c : A i ≤ k ∧ k ≤ B i
  ·rw [if_pos c, hlen]
   have h0 := h.eqD k fun j hj => by have := hs j hj; omega
   by_cases d : pkF A s.ends i = s.ends.length
   ·rw [if_pos d]
    omega
   ·rw [if_neg d]
    have hlt : pkF A s.ends i < s.ends.length := by omega
    have := pkF_lt A hlt
    have := pkD_lt k s.ends _ hlt (by omega)
    omega
  ·rw [if_neg c]
   omega
 ·rcases mem j hj with hj | rfl
  ·obtain ⟨h1, h2⟩ := h.le j hj
   rw [bj j hj]
   have := ge j hj
   exact ⟨by show s.boat j < (pkE A B s.ends i).length; omega, by show B j ≤ (pkE A B s.ends i).getD (s.boat j) 0; omega⟩
  ·rw [bi]
   refine ⟨hF, ?_⟩
   show B j ≤ (pkE A B s.ends j).getD (pkF A s.ends j) 0
   rw [pkE_get A B s.ends j _ hF, if_pos rfl]
   exact Int.le_refl _
 ·have key : ∀ j, j ∈ p → s.boat j = pkF A s.ends i → B j < A i := fun j hj hb => by
   obtain ⟨h1, h2⟩ := h.le j hj
   have := pkF_lt A (e := s.ends) (i := i) (by omega)
   rw [hb] at h2
   omega
  rcases mem j hj with hj' | rfl
  ·rcases mem k hk with hk' | rfl
   ·rw [bj j hj', bj k hk'] at hb
    exact h.apart j k hj' hk' hjk hb
   ·rw [bj j hj', bi] at hb
    exact .inl (key j hj' hb)
  ·rcases mem k hk with hk' | rfl
   ·rw [bj k hk', bi] at hb
    exact .inr (key k hk' hb.symm)
   ·exact absurd rfl hjk
 ·show ∃ j, j ∈ p ++ [i] ∧ (pkE A B s.ends i).length ≤ pkC A B (A j) (p ++ [i])
  rw [hlen]
  by_cases c : pkF A s.ends i = s.ends.length
  ·rw [if_pos c]
   refine ⟨i, by simp, ?_⟩
   have h1 := pkD_all (A i) s.ends (pkF_eq A c)
   have h2 := h.eqD (A i) hs
   rw [one, if_pos ⟨Int.le_refl _, hab i⟩]
   omega
  ·rw [if_neg c]
   rcases h.most with h0 | ⟨j, h1, h2⟩
   ·omega
   ·have := pkC_le A B (A j) i p
    exact ⟨j, by simp [h1], by omega⟩
 ·show ∃ j, j ∈ p ++ [i] ∧ (pkN A B s i).boat j + 1 = (pkE A B s.ends i).length
  rw [hlen]
  by_cases c : pkF A s.ends i = s.ends.length
  ·rw [if_pos c]
   exact ⟨i, by simp, by rw [bi, c]⟩
  ·rw [if_neg c]
   rcases h.top with h0 | ⟨j, h1, h2⟩
   ·omega
   ·exact ⟨j, by simp [h1], by rw [bj j h1]; exact h2⟩
theorem pk_nil : PkI A B [] ⟨[], fun _ => 0⟩ := ⟨fun k _ => rfl, fun k => Nat.zero_le _, fun i h => (nomatch h), fun i j h => (nomatch h), .inl rfl, .inl rfl⟩
theorem pk_all (hab : ∀ j, A j ≤ B j) : ∀ (l p : List Nat) (s : PkS), PkI A B p s → (∀ i, i ∈ l → i ∉ p) → l.Nodup → (∀ i j, i ∈ p → j ∈ l → A i ≤ A j) → l.Pairwise (fun i j => A i ≤ A j) → PkI A B (p ++ l) (pkL A B s l)
 | [], p, s, h, _, _, _, _ => by rw [List.append_nil]; exact h
 | i :: l, p, s, h, hd, hn, hs, hp => by
  rw [show p ++ i :: l = (p ++ [i]) ++ l by simp]
  have hn := List.nodup_cons.1 hn
  have hp := List.pairwise_cons.1 hp
  refine pk_all hab l (p ++ [i]) _ (pk_step A B h (hd i (by simp)) hab fun j hj => hs j i hj (by simp)) (fun j hj hjp => ?_) hn.2 (fun j k hj hk => ?_) hp.2
  ·rcases List.mem_append.1 hjp with c | c
   ·exact hd j (by simp [hj]) c
   ·have : j = i := by simpa using c
    exact hn.1 (this ▸ hj)
  ·rcases List.mem_append.1 hj with c | c
   ·exact hs j k c (by simp [hk])
   ·have : j = i := by simpa using c
    rw [this]
    exact hp.1 k hk
end

end Go.Num

/- Intervals by their left, the peak: the mathematics. -/
namespace Go.Num
set_option linter.unusedVariables false
set_option linter.unusedSimpArgs false

section
variable (A B : Nat → Int)
def cnN (k : Int) : Nat → Nat
 | 0 => 0
 | n + 1 => cnN k n + if A n ≤ k ∧ k ≤ B n then 1 else 0
theorem pkC_perm (k : Int) {p q : List Nat} (h : p.Perm q) : pkC A B k p = pkC A B k q := by
 induction h with
 | nil => rfl
 | cons x _ ih => rw [pkC, pkC, ih]
 | swap x y l => rw [pkC, pkC, pkC, pkC]; omega
 | trans _ _ ih1 ih2 => exact ih1.trans ih2
theorem cn_pkC (k : Int) : ∀ n, cnN A B k n = pkC A B k (List.range n)
 | 0 => rfl
 | n + 1 => by
  rw [cnN, cn_pkC k n, List.range_succ, pkC_app]
  show _ = _ + (0 + _)
  omega
def pkB (n : Nat) : Nat → Int × Nat
 | 0 => (0, 0)
 | i + 1 => if (pkB n i).2 < cnN A B (A i) n ∨ (cnN A B (A i) n = (pkB n i).2 ∧ A i < (pkB n i).1) then (A i, cnN A B (A i) n) else pkB n i
theorem cn_pos {n i : Nat} (hi : i < n) (hab : ∀ j, A j ≤ B j) : 1 ≤ cnN A B (A i) n := by
 induction n with
 | zero => omega
 | succ n ih =>
  rw [cnN]
  by_cases c : i = n
  ·subst c
   rw [if_pos ⟨Int.le_refl _, hab i⟩]
   omega
  ·have := ih (by omega)
   omega
theorem pkB_ok (n : Nat) : ∀ i, ((pkB A B n i).2 = 0 ∨ cnN A B (pkB A B n i).1 n = (pkB A B n i).2) ∧ ∀ j, j < i → cnN A B (A j) n ≤ (pkB A B n i).2
 | 0 => ⟨.inl rfl, fun j h => absurd h (by omega)⟩
 | i + 1 => by
  obtain ⟨h1, h2⟩ := pkB_ok n i
  rw [pkB]
  split
  ·rename_i c
   refine ⟨.inr rfl, fun j hj => ?_⟩
   show cnN A B (A j) n ≤ cnN A B (A i) n
   by_cases e : j = i
   ·rw [e]; exact Nat.le_refl _
   ·have := h2 j (by omega)
    omega
  ·rename_i c
   refine ⟨h1, fun j hj => ?_⟩
   by_cases e : j = i
   ·rw [e]; omega
   ·exact h2 j (by omega)
theorem pk_law {n : Nat} (hn : 1 ≤ n) (hab : ∀ j, A j ≤ B j) {l : List Nat} (hp : l.Perm (List.range n)) (hs : l.Pairwise fun i j => A i ≤ A j) : (pkL A B ⟨[], fun _ => 0⟩ l).ends.length = cnN A B (pkB A B n n).1 n ∧ PkI A B l (pkL A B ⟨[], fun _ => 0⟩ l) := by
 have hI := pk_all A B hab l [] _ (pk_nil A B) (fun i _ h => nomatch h) (hp.nodup_iff.2 List.nodup_range) (fun i j h => nomatch h) hs
 rw [List.nil_append] at hI
 refine ⟨?_, hI⟩
 obtain ⟨b1, b2⟩ := pkB_ok A B n n
 have hc : ∀ k, pkC A B k l = cnN A B k n := fun k => by rw [cn_pkC]; exact pkC_perm A B k hp
 have h0 := cn_pos A B (n := n) (i := 0) (by omega) hab
 have h0' := b2 0 (by omega)
 have hu := hI.upper (pkB A B n n).1
 rw [hc] at hu
 rcases hI.most with c | ⟨i, c1, c2⟩
 ·have := hI.upper (A 0)
  rw [hc] at this
  omega
 ·rw [hc] at c2
  have := b2 i (List.mem_range.1 ((hp.mem_iff).1 c1))
  omega

def m_cmpI (a b : Int) : Int := if a < b then -1 else if b < a then 1 else 0
def m_cb (i j : Nat) : Int := if m_cmpI (A i) (A j) = 0 then m_cmpI i j else m_cmpI (A i) (A j)
theorem cb_lt (i j : Nat) : m_cb A i j < 0 ↔ A i < A j ∨ (A i = A j ∧ i < j) := by
 unfold m_cb m_cmpI
 by_cases c : A i < A j
 ·simp [c]
 ·by_cases d : A j < A i
  ·simp [c, d]
   omega
  ·simp [c, d]
   have : A i = A j := by omega
   by_cases e : i < j
   ·simp [this, e]
   ·by_cases e2 : j < i <;> simp [this, e, e2]
def srtF (n : Nat) : List (Fin n) := (List.finRange n).mergeSort fun x y => !decide (m_cb A y x < 0)
theorem srtF_perm (n : Nat) : (srtF A n).Perm (List.finRange n) := List.mergeSort_perm _ _
theorem srtF_srt (n : Nat) : (srtF A n).Pairwise fun (x y : Fin n) => decide (m_cb A y x < 0) = false := by
 have h := List.pairwise_mergeSort (le := fun x y : Fin n => !decide (m_cb A y x < 0)) (fun a b c h1 h2 => by
  simp only [Bool.not_eq_true', decide_eq_false_iff_not, cb_lt] at *
  omega) (fun a b => by
  simp only [Bool.or_eq_true, Bool.not_eq_true', decide_eq_false_iff_not, cb_lt]
  omega) (List.finRange n)
 exact h.imp fun h => by simpa using h
theorem srtF_one {n : Nat} {d : List (Fin n)} (hp : d.Perm (List.finRange n)) (hs : d.Pairwise fun (x y : Fin n) => decide (m_cb A y x < 0) = false) : d = srtF A n :=
 (hp.trans (srtF_perm A n).symm).eq_of_pairwise (fun a b _ _ h1 h2 => by
  simp only [decide_eq_false_iff_not, cb_lt] at *
  exact Fin.ext (by omega)) hs (srtF_srt A n)
def srtV (n : Nat) : List Nat := (srtF A n).map Fin.val
theorem finR_val (n : Nat) : (List.finRange n).map Fin.val = List.range n := by
 apply List.ext_getElem
 ·simp
 ·intro i h1 h2
  simp
theorem srtV_perm (n : Nat) : (srtV A n).Perm (List.range n) := by
 have := (srtF_perm A n).map Fin.val
 rwa [finR_val] at this
theorem srtV_srt (n : Nat) : (srtV A n).Pairwise fun i j => A i ≤ A j := by
 unfold srtV
 rw [List.pairwise_map]
 exact (srtF_srt A n).imp fun h => by
  simp only [decide_eq_false_iff_not, cb_lt] at h
  omega
end

end Go.Num

/- Intervals, run: read, counted, the peak. -/
namespace Go.Proofs
open Go Go.Ev Go.Num
set_option linter.unusedVariables false
set_option linter.unusedSimpArgs false
set_option maxRecDepth 100000

noncomputable def m_sv (a b : List Value) : Bool := @decide (a = b) (Classical.propDecidable _)
theorem sv_rfl (a : List Value) : m_sv a a = true := @decide_eq_true _ (Classical.propDecidable _) rfl
noncomputable def eS1 (sl : Value) (v : Int → Value) : Ent := ent (fun args _ => match args with | [s, .int .i64 x] => m_sv [s] [sl] | _ => false) (fun args _ => match args with | [_, .int .i64 x] => v x | _ => undef)
noncomputable def cRI : Code := bodyOf S0 19
noncomputable def RI_0 : Code := (lc cRI)
noncomputable def RI_1 : Code := (lc (rc cRI))
noncomputable def RI_2 : Code := (lc (rc (rc cRI)))
noncomputable def RI_3 : Code := (lc (rc (rc (rc cRI))))
noncomputable def RI_4 : Code := (lc (lc (rc (rc (rc (rc cRI))))))
noncomputable def RI_5 : Code := (ic (ic (rc (lc (rc (rc (rc (rc cRI))))))))
noncomputable def RI_6 : Code := (rc (rc (rc (rc (rc cRI)))))
theorem RI_eq : cRI = (.seq RI_0 (.seq RI_1 (.seq RI_2 (.seq RI_3 (.seq (.seq RI_4 (.block 0 (.loop RI_5))) RI_6))))) := by kernel_rfl
noncomputable def cCA : Code := bodyOf S0 39
noncomputable def CA_0 : Code := (lc cCA)
noncomputable def CA_1 : Code := (lc (rc cCA))
noncomputable def CA_2 : Code := (lc (lc (rc (rc cCA))))
noncomputable def CA_3 : Code := (ic (ic (rc (lc (rc (rc cCA))))))
noncomputable def CA_4 : Code := (rc (rc (rc cCA)))
theorem CA_eq : cCA = (.seq CA_0 (.seq CA_1 (.seq (.seq CA_2 (.block 0 (.loop CA_3))) CA_4))) := by kernel_rfl
noncomputable def cPK : Code := bodyOf S0 23
noncomputable def PK_0 : Code := (lc cPK)
noncomputable def PK_1 : Code := (lc (rc cPK))
noncomputable def PK_2 : Code := (lc (lc (rc (rc cPK))))
noncomputable def PK_3 : Code := (ic (ic (rc (lc (rc (rc cPK))))))
noncomputable def PK_4 : Code := (rc (rc (rc cPK)))
theorem PK_eq : cPK = (.seq PK_0 (.seq PK_1 (.seq (.seq PK_2 (.block 0 (.loop PK_3))) PK_4))) := by kernel_rfl
def lvRI : List Nat := [4, 16, 17, 18]
def vRI (b off n cap i : Nat) : OV := [some (.slice (some ⟨0, 0, none⟩) n n), some (RS2 b off n cap), some (I (n : Nat)), some (I (i : Nat))]
def lvCA : List Nat := [1, 5, 8, 9, 10]
def vCA (b off n cap : Nat) (x k i : Int) : OV := [some (I x), some (I k), some (RS2 b off n cap), some (I (n : Nat)), some (I i)]
def lvPK : List Nat := [0, 3, 4, 8, 9, 10]
def vPK (b off n cap : Nat) (x k i : Int) : OV := [some (RS2 b off n cap), some (I x), some (I k), some (RS2 b off n cap), some (I (n : Nat)), some (I i)]
noncomputable def tCT (sl : Value) (v : Int → Int) : Tbl := tcons 39 (eS1 sl fun x => I (v x)) fun _ => none

theorem riA (r : Mem) (b off n cap : Nat) (fs : FnsC) (K : OV → List Nat → OO → CR) (kx : Nat → KS) (KR : OV → List Nat → OO → CR) : run (SC r) 458877 38 1 (.seq RI_0 (.seq RI_1 (.seq RI_2 (.seq RI_3 RI_4)))) fs none (rbK 0 lvRI [] K) kx (rbK 0 [2, 3] [] KR) (sc0 458877 [RS2 b off n cap]) (tr0 458877 [RS2 b off n cap]) [] emptyA =
    bif decide (Int.ofNat n > 12) then KR [some (.slice none 0 0), some (I (Int.ofNat 2))] [] [] else bif Int.ofNat n == Int.ofNat 0 then KR [some (.slice none 0 0), some (I (Int.ofNat 1))] [] [] else bif Nat.ble (Int.toNat (Int.ofNat n)) (Int.toNat (Int.ofNat n)) then bif Nat.ble (Int.toNat (Int.ofNat n)) 1000000 then bif m_nns (zerosL (Nat.mul (Int.toNat (Int.ofNat n)) 2) [I (Int.ofNat 0), I (Int.ofNat 0)]) && true then K [some (.slice (some ⟨0, 0, none⟩) (Int.toNat (Int.ofNat n)) (Int.toNat (Int.ofNat n))), some (.slice (some ⟨b, off, some 0⟩) n cap), some (I (Int.ofNat n)), some (I (Int.ofNat 0))] [] [some (.cells (zerosL (Nat.mul (Int.toNat (Int.ofNat n)) 2) [I (Int.ofNat 0), I (Int.ofNat 0)]) 75 0 2)] else .fail 420 else .fail 420 else .fail 420 := by kernel_rfl

theorem riN (r : Mem) : (lvlT (SC r) (fun _ => none) .nil 1 2).call 19 [.slice none 0 0] emptyA fin =
    .ret (.tuple ⟨[.slice none 0 0, I (Int.ofNat 1)]⟩) (AW.mk 0 .nil .nil) := by kernel_rfl

theorem riB (r : Mem) (b off n cap i : Nat) (c : List Value) (fs : FnsC) (K : OV → List Nat → OO → CR) (KX : Nat → OV → List Nat → OO → CR) (KR : OV → List Nat → OO → CR) : run (SC r) 458877 38 1 RI_5 fs none (rbK 0 lvRI [] K) (fun j => rbK 0 [4] [] (KX j)) (rbK 0 [2, 3] [] KR) [] (bT lvRI (vRI b off n cap i) .nil) [] (mkA [some (.cells c 75 0 2)]) =
    bif decide (Int.ofNat i < Int.ofNat n) then bif Nat.blt (Int.toNat (Int.ofNat i)) n then Option.casesOn (r b (Nat.add off (Nat.mul (Int.toNat (Int.ofNat i)) 2))) (.fail 423) fun val => bif isI IntKind.i64 val then Option.casesOn (r b (Nat.succ (Nat.add off (Nat.mul (Int.toNat (Int.ofNat i)) 2)))) (.fail 423) fun val_1 => bif isI IntKind.i64 val_1 then bif decide (ofI val > ofI val_1) then KR [some (.slice none 0 0), some (I (Int.ofNat 1))] [] [] else bif Nat.blt (Int.toNat (Int.ofNat i)) n then Option.casesOn (setAt c (Nat.add 0 (Nat.mul (Int.toNat (Int.ofNat i)) 2)) [I (ofI val), I (ofI val_1)]) (.fail 450) fun val => bif m_nns val && true then K [some (.slice (some ⟨0, 0, none⟩) n n), some (.slice (some ⟨b, off, some 0⟩) n cap), some (I (Int.ofNat n)), some (I (IntKind.wrap .i64 (Int.ofNat i + Int.ofNat 1)))] [] [some (.cells val 75 0 2)] else .fail 420 else .fail 420 else .fail 420 else .fail 420 else .fail 420 else bif m_nns c && true then KX 0 [some (.slice (some ⟨0, 0, none⟩) n n)] [] [some (.cells c 75 0 2)] else .fail 420 := by kernel_rfl

theorem riC (r : Mem) (n : Nat) (c : List Value) (fs : FnsC) (K KR : OV → List Nat → OO → CR) (kx : Nat → KS) : run (SC r) 458877 38 1 RI_6 fs none (rbK 0 [2, 3] [] K) kx (rbK 0 [2, 3] [] KR) [] (bT [4] [some (.slice (some ⟨0, 0, none⟩) n n)] .nil) [] (mkA [some (.cells c 75 0 2)]) =
    bif m_nns c && true then KR [some (.slice (some ⟨0, 0, none⟩) n n), some (I (Int.ofNat 0))] [] [some (.cells c 75 0 2)] else .fail 420 := by kernel_rfl

theorem caA (r : Mem) (b off n cap : Nat) (x : Int) (fs : FnsC) (K : OV → List Nat → OO → CR) (kx : Nat → KS) (kr : KS) : run (SC r) 1971 21 1 (.seq CA_0 (.seq CA_1 CA_2)) fs none (rbK 0 lvCA [] K) kx kr (sc0 1971 [RS2 b off n cap, I x]) (tr0 1971 [RS2 b off n cap, I x]) [] emptyA =
    K [some (I x), some (I (Int.ofNat 0)), some (.slice (some ⟨b, off, some 0⟩) n cap), some (I (Int.ofNat n)), some (I (Int.ofNat 0))] [] [] := by kernel_rfl

theorem caB (r : Mem) (b off n cap : Nat) (x k i : Int) (K : OV → List Nat → OO → CR) (KX : Nat → OV → List Nat → OO → CR) (kr : KS) : run (SC r) 1971 21 1 CA_3 (lvlT (SC r) (fun _ => none) .nil 1 3) none (rbK 0 lvCA [] K) (fun j => rbK 0 [5] [] (KX j)) kr [] (bT lvCA (vCA b off n cap x k i) .nil) [] (mkA []) =
    bif decide (i < Int.ofNat n) then bif decide (0 ≤ i) then bif Nat.blt (Int.toNat i) n then Option.casesOn (r b (Nat.add off (Nat.mul (Int.toNat i) 2))) (.fail 423) fun val => bif isI IntKind.i64 val then Option.casesOn (r b (Nat.succ (Nat.add off (Nat.mul (Int.toNat i) 2)))) (.fail 423) fun val_1 => bif isI IntKind.i64 val_1 then bif decide (ofI val ≤ x) then bif decide (x ≤ ofI val_1) then K [some (I x), some (I (IntKind.wrap .i64 (k + Int.ofNat 1))), some (.slice (some ⟨b, off, some 0⟩) n cap), some (I (Int.ofNat n)), some (I (IntKind.wrap .i64 (i + Int.ofNat 1)))] [] [] else K [some (I x), some (I k), some (.slice (some ⟨b, off, some 0⟩) n cap), some (I (Int.ofNat n)), some (I (IntKind.wrap .i64 (i + Int.ofNat 1)))] [] [] else K [some (I x), some (I k), some (.slice (some ⟨b, off, some 0⟩) n cap), some (I (Int.ofNat n)), some (I (IntKind.wrap .i64 (i + Int.ofNat 1)))] [] [] else .fail 420 else .fail 420 else .fail 420 else .fail 420 else KX 0 [some (I k)] [] [] := by kernel_rfl

theorem caC (r : Mem) (k : Int) (fs : FnsC) (K KR : OV → List Nat → OO → CR) (kx : Nat → KS) : run (SC r) 1971 21 1 CA_4 fs none (rbK 0 [4] [] K) kx (rbK 0 [4] [] KR) [] (bT [5] [some (I k)] .nil) [] (mkA []) =
    KR [some (I k)] [] [] := by kernel_rfl

theorem pkY (r : Mem) (b off n cap : Nat) (fs : FnsC) (K : OV → List Nat → OO → CR) (kx : Nat → KS) (kr : KS) : run (SC r) 2013 37 1 (.seq PK_0 (.seq PK_1 PK_2)) fs none (rbK 0 lvPK [] K) kx kr (sc0 2013 [RS2 b off n cap]) (tr0 2013 [RS2 b off n cap]) [] emptyA =
    K [some (.slice (some ⟨b, off, some 0⟩) n cap), some (I (Int.ofNat 0)), some (I (Int.ofNat 0)), some (.slice (some ⟨b, off, some 0⟩) n cap), some (I (Int.ofNat n)), some (I (Int.ofNat 0))] [] [] := by kernel_rfl

theorem pkR (r : Mem) (b off n cap : Nat) (v : Int → Int) (x k i : Int) (K : OV → List Nat → OO → CR) (KX : Nat → OV → List Nat → OO → CR) (kr : KS) : run (SC r) 2013 37 1 PK_3 (lvlT (SC r) (tCT (RS2 b off n cap) v) .nil 1 3) none (rbK 0 lvPK [] K) (fun j => rbK 0 [3] [] (KX j)) kr [] (bT lvPK (vPK b off n cap x k i) .nil) [] (mkA []) =
    bif decide (i < Int.ofNat n) then bif decide (0 ≤ i) then bif Nat.blt (Int.toNat i) n then Option.casesOn (r b (Nat.add off (Nat.mul (Int.toNat i) 2))) (.fail 423) fun val => bif isI IntKind.i64 val then Option.casesOn (r b (Nat.succ (Nat.add off (Nat.mul (Int.toNat i) 2)))) (.fail 423) fun val_1 => bif isI IntKind.i64 val_1 then bif m_sv [.slice (some ⟨b, off, some 0⟩) n cap] [.slice (some ⟨b, off, some 0⟩) n cap] then bif decide (v (ofI val) > k) then K [some (.slice (some ⟨b, off, some 0⟩) n cap), some (I (ofI val)), some (I (v (ofI val))), some (.slice (some ⟨b, off, some 0⟩) n cap), some (I (Int.ofNat n)), some (I (IntKind.wrap .i64 (i + Int.ofNat 1)))] [] [] else bif v (ofI val) == k then bif decide (ofI val < x) then K [some (.slice (some ⟨b, off, some 0⟩) n cap), some (I (ofI val)), some (I (v (ofI val))), some (.slice (some ⟨b, off, some 0⟩) n cap), some (I (Int.ofNat n)), some (I (IntKind.wrap .i64 (i + Int.ofNat 1)))] [] [] else K [some (.slice (some ⟨b, off, some 0⟩) n cap), some (I x), some (I k), some (.slice (some ⟨b, off, some 0⟩) n cap), some (I (Int.ofNat n)), some (I (IntKind.wrap .i64 (i + Int.ofNat 1)))] [] [] else K [some (.slice (some ⟨b, off, some 0⟩) n cap), some (I x), some (I k), some (.slice (some ⟨b, off, some 0⟩) n cap), some (I (Int.ofNat n)), some (I (IntKind.wrap .i64 (i + Int.ofNat 1)))] [] [] else .fail 420 else .fail 420 else .fail 420 else .fail 420 else .fail 420 else KX 0 [some (I x)] [] [] := by kernel_rfl

theorem pkZ (r : Mem) (x : Int) (fs : FnsC) (K KR : OV → List Nat → OO → CR) (kx : Nat → KS) : run (SC r) 2013 37 1 PK_4 fs none (rbK 0 [2] [] K) kx (rbK 0 [2] [] KR) [] (bT [3] [some (I x)] .nil) [] (mkA []) =
    KR [some (I x)] [] [] := by kernel_rfl

end Go.Proofs

/- Intervals: read, counted, the peak: what the calls answer. -/
namespace Go.Proofs
open Go Go.Ev Go.Num
set_option linter.unusedVariables false
set_option linter.unusedSimpArgs false
set_option maxRecDepth 100000

def okS (z : Nat → Int) (n : Nat) : Prop := ∀ i, i < n → ea z i ≤ eb z i
def erS (n : Nat) : Int := if n ≤ 12 then 1 else 2
def oSp (z : Nat → Int) (n i : Nat) : Option AObj := some (.cells (ixN z (2 * n)) 75 i 2)
def zTo (z : Nat → Int) (k j : Nat) : Int := if j < 2 * k then z j else 0
abbrev ow (i n : Nat) : Value := .slice (some ⟨i, 0, none⟩) n n
section
variable {r : Mem} {b off n cap : Nat} {z : Nat → Int}

theorem row_a (hz : rowAt r b off (2 * n) z) {i : Nat} (h : i < n) : r b (Nat.add off (Nat.mul i 2)) = some (I (ea z i)) := by
 have := hz (2 * i) (by omega)
 rw [Nat.add_eq, Nat.mul_eq, Nat.mul_comm]
 exact this
theorem row_b (hz : rowAt r b off (2 * n) z) {i : Nat} (h : i < n) : r b (Nat.succ (Nat.add off (Nat.mul i 2))) = some (I (eb z i)) := by
 have := hz (2 * i + 1) (by omega)
 rw [Nat.add_eq, Nat.mul_eq, Nat.mul_comm]
 exact this

theorem ri_S (hz : rowAt r b off (2 * n) z) : SOk (SC r) 19 [RS2 b off n cap] emptyA fun v A =>
  (1 ≤ n ∧ n ≤ 12 ∧ okS z n ∧ v = .tuple ⟨[ow 0 n, I 0]⟩ ∧ A = mkA [oSp z n 0]) ∨ (¬ (1 ≤ n ∧ n ≤ 12 ∧ okS z n) ∧ v = .tuple ⟨[.slice none 0 0, I (erS n)]⟩ ∧ A = mkA []) := by
 refine callL (SC_ok r) (by kernel_rfl) ((bodySC r _).trans RI_eq) (nt := 38) (by kernel_rfl) (rs := [.tmp 2, .tmp 3]) (by kernel_rfl) 458877 rfl (.step (.step (.step (.step .base)))) TOk.nil (tm := .nil) (L := 1) (d := 1) lvRI []
  (fun j vs ms os => 1 ≤ n ∧ n ≤ 12 ∧ ∃ k, k ≤ n ∧ j = n - k ∧ okS z k ∧ vs = vRI b off n cap k ∧ ms = [] ∧ os = [oSp (zTo z k) n 0])
  ⟨[4], [], fun vs ms os => 1 ≤ n ∧ n ≤ 12 ∧ okS z n ∧ vs = [some (ow 0 n)] ∧ ms = [] ∧ os = [oSp z n 0]⟩
  ⟨[2, 3], [], fun vs ms os => (1 ≤ n ∧ n ≤ 12 ∧ okS z n ∧ vs = [some (ow 0 n), some (I 0)] ∧ ms = [] ∧ os = [oSp z n 0]) ∨ (¬ (1 ≤ n ∧ n ≤ 12 ∧ okS z n) ∧ vs = [some (.slice none 0 0), some (I (erS n))] ∧ ms = [] ∧ os = [])⟩ ?_ ?_ ?_ ?_
 ·have hn := riA r b off n cap
  by_cases c : n ≤ 12
  ·by_cases c0 : n = 0
   ·subst c0
    exact (hn _ _ _ _).trans (qq_ok (.inr ⟨by omega, rfl, rfl, rfl⟩))
   ·have c1 : ¬ (n : Int) > 12 := by omega
    have c2 : (n : Int) ≠ ((0 : Nat) : Int) := by omega
    have c3 : Nat.ble n 1000000 = true := Nat.ble_eq_true_of_le (by omega)
    have c4 : Nat.ble n n = true := Nat.ble_eq_true_of_le (Nat.le_refl _)
    simp only [Int.ofNat_eq_natCast, Int.toNat_natCast] at hn
    simp only [dF c1, eqF c2, cond_false, c3, c4, cond_true] at hn
    have e0 := ix_zero2 n
    simp only [Int.ofNat_eq_natCast] at e0
    simp only [e0, ix_nn, Bool.and_true, cond_true] at hn
    exact (hn _ _ _ _).trans (qq_ok ⟨n, by omega, c, 0, by omega, rfl, fun i h => absurd h (by omega), rfl, rfl, rfl⟩)
  ·have c1 : Int.ofNat n > 12 := by simp; omega
   simp only [dT c1, cond_true] at hn
   exact (hn _ _ _ _).trans (qq_ok (.inr ⟨by omega, by unfold erS; rw [if_neg c]; rfl, rfl, rfl⟩))
 ·rintro j vs ms os ⟨h1, h12, k, hk, rfl, hok, rfl, rfl, rfl⟩
  refine ⟨_, TOk.nil, .nil, 1, 1, 1, ?_⟩
  have hn := riB r b off n cap k (ixN (zTo z k) (2 * n))
  by_cases c : k < n
  ·have c1 : (k : Int) < (n : Int) := by omega
   have c3 : Nat.blt k n = true := Nat.ble_eq_true_of_le (by omega)
   have e5 : setAt (ixN (zTo z k) (2 * n)) (Nat.add 0 (Nat.mul k 2)) [I (ea z k), I (eb z k)] = some (ixN (zTo z (k + 1)) (2 * n)) := by
    rw [Nat.add_eq, Nat.mul_eq, Nat.zero_add, ix_set2 (by omega)]
    refine congrArg some (ix_ext fun j hj => ?_)
    unfold zTo ea eb
    by_cases d : j < 2 * k
    ·rw [if_neg (by omega), if_neg (by omega), if_pos d, if_pos (by omega)]
    ·by_cases d1 : j = k * 2 + 1
     ·rw [if_pos d1, if_pos (by omega), d1, Nat.mul_comm]
     ·by_cases d2 : j = k * 2
      ·rw [if_neg d1, if_pos d2, if_pos (by omega), d2, Nat.mul_comm]
      ·rw [if_neg d1, if_neg d2, if_neg d, if_neg (by omega)]
   simp only [Int.ofNat_eq_natCast, Int.toNat_natCast] at hn
   simp only [dT c1, cond_true, c3, row_a hz c, row_b hz c, isI_I, Bool.and_true] at hn
   dsimp +instances only [ofI_I] at hn
   by_cases d : ea z k > eb z k
   ·simp only [dT d, cond_true] at hn
    exact (hn _ _ _ _).trans (qq_ok (.inr ⟨fun h => by have := h.2.2 k c; omega, by unfold erS; rw [if_pos h12]; rfl, rfl, rfl⟩))
   ·have e3 := inc1' (k := k) (by omega)
    simp only [Int.ofNat_eq_natCast] at e3
    simp only [dF d, cond_false, e3, e5, ix_nn, cond_true] at hn
    exact (hn _ _ _ _).trans (qq_ok ⟨n - (k + 1), by omega, h1, h12, k + 1, c, rfl, fun i hi => by
     by_cases e : i = k
     ·subst e; omega
     ·exact hok i (by omega), rfl, rfl, rfl⟩)
  ·have hkl : k = n := by omega
   subst hkl
   have c1 : ¬ Int.ofNat k < Int.ofNat k := by omega
   simp only [dF c1, cond_false, ix_nn, Bool.and_true, cond_true] at hn
   exact (hn _ _ _ _).trans (qq_ok ⟨h1, h12, hok, rfl, rfl, by
    unfold oSp
    rw [ix_ext (f := zTo z k) (g := z) fun j hj => if_pos hj]⟩)
 ·rintro vs ms os ⟨h1, h12, hok, rfl, rfl, rfl⟩
  have hn := riC r n (ixN z (2 * n))
  simp only [ix_nn, Bool.and_true, cond_true] at hn
  exact ⟨_, TOk.nil, .nil, 1, 1, 1, (hn _ _ _ _).trans (qq_ok (.inl ⟨h1, h12, hok, rfl, rfl, rfl⟩))⟩
 ·rintro vs ms os (⟨h1, h12, hok, rfl, rfl, rfl⟩ | ⟨hno, rfl, rfl, rfl⟩)
  ·exact ⟨_, mkA [oSp z n 0], by kernel_rfl, .inl ⟨h1, h12, hok, rfl, rfl⟩⟩
  ·exact ⟨_, mkA [], by kernel_rfl, .inr ⟨hno, rfl, rfl⟩⟩

theorem ca_ok (hz : rowAt r b off (2 * n) z) (hn12 : n ≤ 1000000) (x : Int) : GrT Tryd.prog r 39 [RS2 b off n cap, I x] (I (cnN (ea z) (eb z) x n : Nat)) := by
 have hle : ∀ k, cnN (ea z) (eb z) x k ≤ k := fun k => by
  induction k with
  | zero => exact Nat.le_refl _
  | succ k ih => rw [cnN]; split <;> omega
 refine GrT.ofS (C := SC r) rfl rfl rfl (callL (SC_ok r) (by kernel_rfl) ((bodySC r _).trans CA_eq) (nt := 21) (by kernel_rfl) (rs := [.tmp 4]) (by kernel_rfl) 1971 rfl (.step (.step .base)) TOk.nil (tm := .nil) (L := 1) (d := 1) lvCA []
  (fun j vs ms os => ∃ k, k ≤ n ∧ j = n - k ∧ vs = vCA b off n cap x (cnN (ea z) (eb z) x k : Nat) (k : Nat) ∧ ms = [] ∧ os = [])
  ⟨[5], [], fun vs ms os => vs = [some (I (cnN (ea z) (eb z) x n : Nat))] ∧ ms = [] ∧ os = []⟩
  ⟨[4], [], fun vs ms os => vs = [some (I (cnN (ea z) (eb z) x n : Nat))] ∧ ms = [] ∧ os = []⟩ ?_ ?_ ?_ ?_)
 ·exact (caA r b off n cap x _ _ _ _).trans (qq_ok ⟨n, 0, Nat.zero_le _, rfl, rfl, rfl, rfl⟩)
 ·rintro j vs ms os ⟨k, hk, rfl, rfl, rfl, rfl⟩
  refine ⟨_, TOk.nil, .nil, 1, 1, 3, ?_⟩
  have hn := caB r b off n cap x (cnN (ea z) (eb z) x k : Nat) (k : Nat)
  by_cases c : k < n
  ·have c1 : (k : Int) < Int.ofNat n := by simp; omega
   have c2 : 0 ≤ (k : Int) := by omega
   have c3 : Nat.blt k n = true := Nat.ble_eq_true_of_le (by omega)
   have e3 := inc1' (k := k) (by omega)
   have e4 := inc1' (k := cnN (ea z) (eb z) x k) (by have := hle k; omega)
   simp only [dT c1, dT c2, cond_true, Int.toNat_natCast, c3, row_a hz c, row_b hz c, isI_I, e3, e4] at hn
   dsimp +instances only [ofI_I] at hn
   by_cases d1 : ea z k ≤ x
   ·by_cases d2 : x ≤ eb z k
    ·simp only [dT d1, dT d2, cond_true] at hn
     exact (hn _ _ _).trans (qq_ok ⟨n - (k + 1), by omega, k + 1, c, rfl, by rw [cnN, if_pos ⟨d1, d2⟩]; rfl, rfl, rfl⟩)
    ·simp only [dT d1, dF d2, cond_true, cond_false] at hn
     exact (hn _ _ _).trans (qq_ok ⟨n - (k + 1), by omega, k + 1, c, rfl, by rw [cnN, if_neg fun h => d2 h.2]; rfl, rfl, rfl⟩)
   ·simp only [dF d1, cond_false] at hn
    exact (hn _ _ _).trans (qq_ok ⟨n - (k + 1), by omega, k + 1, c, rfl, by rw [cnN, if_neg fun h => d1 h.1]; rfl, rfl, rfl⟩)
  ·have hkl : k = n := by omega
   subst hkl
   have c1 : ¬ (k : Int) < Int.ofNat k := by simp
   simp only [dF c1, cond_false] at hn
   exact (hn _ _ _).trans (qq_ok ⟨rfl, rfl, rfl⟩)
 ·rintro vs ms os ⟨rfl, rfl, rfl⟩
  exact ⟨_, TOk.nil, .nil, 1, 1, 1, (caC r _ _ _ _ _).trans (qq_ok ⟨rfl, rfl, rfl⟩)⟩
 ·rintro vs ms os ⟨rfl, rfl, rfl⟩
  exact ⟨_, mkA [], by kernel_rfl, rfl⟩

theorem tCT_ok (hz : rowAt r b off (2 * n) z) (hn12 : n ≤ 1000000) : TOk (SC r) (tCT (RS2 b off n cap) fun x => (cnN (ea z) (eb z) x n : Nat)) := TOk.nil.cons (EOk.ent fun args A hg => by
 split at hg
 ·rename_i s x
  have hs := @of_decide_eq_true _ (Classical.propDecidable _) hg
  simp only [List.cons.injEq, and_true] at hs
  subst hs
  exact (ca_ok hz hn12 x).ro rfl A
 ·cases hg)

theorem pk_ok (hz : rowAt r b off (2 * n) z) (hn12 : n ≤ 1000000) : GrT Tryd.prog r 23 [RS2 b off n cap] (I (pkB (ea z) (eb z) n n).1) := by
 refine GrT.ofS (C := SC r) rfl rfl rfl (callL (SC_ok r) (by kernel_rfl) ((bodySC r _).trans PK_eq) (nt := 37) (by kernel_rfl) (rs := [.tmp 2]) (by kernel_rfl) 2013 rfl (.step (.step .base)) TOk.nil (tm := .nil) (L := 1) (d := 1) lvPK []
  (fun j vs ms os => ∃ k, k ≤ n ∧ j = n - k ∧ vs = vPK b off n cap (pkB (ea z) (eb z) n k).1 ((pkB (ea z) (eb z) n k).2 : Nat) (k : Nat) ∧ ms = [] ∧ os = [])
  ⟨[3], [], fun vs ms os => vs = [some (I (pkB (ea z) (eb z) n n).1)] ∧ ms = [] ∧ os = []⟩
  ⟨[2], [], fun vs ms os => vs = [some (I (pkB (ea z) (eb z) n n).1)] ∧ ms = [] ∧ os = []⟩ ?_ ?_ ?_ ?_)
 ·exact (pkY r b off n cap _ _ _ _).trans (qq_ok ⟨n, 0, Nat.zero_le _, rfl, rfl, rfl, rfl⟩)
 ·rintro j vs ms os ⟨k, hk, rfl, rfl, rfl, rfl⟩
  refine ⟨_, tCT_ok (cap := cap) hz hn12, .nil, 1, 1, 3, ?_⟩
  have hn := pkR r b off n cap (fun x => (cnN (ea z) (eb z) x n : Nat)) (pkB (ea z) (eb z) n k).1 ((pkB (ea z) (eb z) n k).2 : Nat) (k : Nat)
  by_cases c : k < n
  ·have c1 : (k : Int) < Int.ofNat n := by simp; omega
   have c2 : 0 ≤ (k : Int) := by omega
   have c3 : Nat.blt k n = true := Nat.ble_eq_true_of_le (by omega)
   have e3 := inc1' (k := k) (by omega)
   simp only [dT c1, dT c2, cond_true, Int.toNat_natCast, c3, row_a hz c, row_b hz c, isI_I, e3, sv_rfl] at hn
   dsimp +instances only [ofI_I] at hn
   by_cases d1 : (pkB (ea z) (eb z) n k).2 < cnN (ea z) (eb z) (ea z k) n
   ·have d1' : ((cnN (ea z) (eb z) (ea z k) n : Nat) : Int) > ((pkB (ea z) (eb z) n k).2 : Nat) := by omega
    simp only [dT d1', cond_true] at hn
    exact (hn _ _ _).trans (qq_ok ⟨n - (k + 1), by omega, k + 1, c, rfl, by rw [pkB, if_pos (.inl d1)]; rfl, rfl, rfl⟩)
   ·have d1' : ¬ ((cnN (ea z) (eb z) (ea z k) n : Nat) : Int) > ((pkB (ea z) (eb z) n k).2 : Nat) := by omega
    by_cases d2 : cnN (ea z) (eb z) (ea z k) n = (pkB (ea z) (eb z) n k).2
    ·have d2' : ((cnN (ea z) (eb z) (ea z k) n : Nat) : Int) = ((pkB (ea z) (eb z) n k).2 : Nat) := by omega
     by_cases d3 : ea z k < (pkB (ea z) (eb z) n k).1
     ·simp only [dF d1', eqT d2', dT d3, cond_true, cond_false] at hn
      exact (hn _ _ _).trans (qq_ok ⟨n - (k + 1), by omega, k + 1, c, rfl, by rw [pkB, if_pos (.inr ⟨d2, d3⟩)]; rfl, rfl, rfl⟩)
     ·simp only [dF d1', eqT d2', dF d3, cond_true, cond_false] at hn
      exact (hn _ _ _).trans (qq_ok ⟨n - (k + 1), by omega, k + 1, c, rfl, by rw [pkB, if_neg (by omega)]; rfl, rfl, rfl⟩)
    ·have d2' : ((cnN (ea z) (eb z) (ea z k) n : Nat) : Int) ≠ ((pkB (ea z) (eb z) n k).2 : Nat) := by omega
     simp only [dF d1', eqF d2', cond_false] at hn
     exact (hn _ _ _).trans (qq_ok ⟨n - (k + 1), by omega, k + 1, c, rfl, by rw [pkB, if_neg (by omega)]; rfl, rfl, rfl⟩)
  ·have hkl : k = n := by omega
   subst hkl
   have c1 : ¬ (k : Int) < Int.ofNat k := by simp
   simp only [dF c1, cond_false] at hn
   exact (hn _ _ _).trans (qq_ok ⟨rfl, rfl, rfl⟩)
 ·rintro vs ms os ⟨rfl, rfl, rfl⟩
  exact ⟨_, TOk.nil, .nil, 1, 1, 1, (pkZ r _ _ _ _ _).trans (qq_ok ⟨rfl, rfl, rfl⟩)⟩
 ·rintro vs ms os ⟨rfl, rfl, rfl⟩
  exact ⟨_, mkA [], by kernel_rfl, rfl⟩
end

end Go.Proofs

/- Intervals by their left, run: the comparing function, the insertion sort. -/
namespace Go.Proofs
open Go Go.Ev Go.Num
set_option linter.unusedVariables false
set_option linter.unusedSimpArgs false
set_option maxRecDepth 100000

noncomputable def tCmp : Tbl := tcons 51 (eI2 (fun _ _ => true) fun a b => I (m_cmpI a b)) fun _ => none

theorem ccA (r : Mem) (a b : Int) : (lvlT (SC r) (fun _ => none) .nil 1 3).call 51 [I a, I b] emptyA fin =
    bif a != a then bif b != b then .ret (I (Int.ofNat 0)) (AW.mk 0 .nil .nil) else .ret (I (Int.negSucc 0)) (AW.mk 0 .nil .nil) else bif b != b then .ret (I (Int.ofNat 1)) (AW.mk 0 .nil .nil) else bif decide (a < b) then .ret (I (Int.negSucc 0)) (AW.mk 0 .nil .nil) else bif decide (a > b) then .ret (I (Int.ofNat 1)) (AW.mk 0 .nil .nil) else .ret (I (Int.ofNat 0)) (AW.mk 0 .nil .nil) := by kernel_rfl

theorem l1A (r : Mem) (i j : Nat) (bb kk : Nat) : (lvlT (SC r) tCmp .nil 3 3).call 57 [I (i : Nat), I (j : Nat), .pointer (some ⟨bb, kk, some 0⟩)] emptyA fin =
    Option.casesOn (r bb kk) (.fail 423) fun val => bif isNilS val then .fail 31 else bif isRoS val then bif Nat.blt (Int.toNat (Int.ofNat i)) (lnOf val) then Option.casesOn (r (blkOf val) (Nat.add (Nat.add (offOf val) (Nat.mul (Int.toNat (Int.ofNat i)) 2)) 0)) (.fail 423) fun val => bif isI IntKind.i64 val then Option.casesOn (r bb kk) (.fail 423) fun val_1 => bif isNilS val_1 then .fail 31 else bif isRoS val_1 then bif Nat.blt (Int.toNat (Int.ofNat j)) (lnOf val_1) then Option.casesOn (r (blkOf val_1) (Nat.add (Nat.add (offOf val_1) (Nat.mul (Int.toNat (Int.ofNat j)) 2)) 0)) (.fail 423) fun val_2 => bif isI IntKind.i64 val_2 then bif m_cmpI (ofI val) (ofI val_2) != Int.ofNat 0 then .ret (I (m_cmpI (ofI val) (ofI val_2))) (AW.mk 0 .nil .nil) else bif m_cmpI (Int.ofNat i) (Int.ofNat j) != Int.ofNat 0 then .ret (I (m_cmpI (Int.ofNat i) (Int.ofNat j))) (AW.mk 0 .nil .nil) else .ret (I (Int.ofNat 0)) (AW.mk 0 .nil .nil) else .fail 420 else .fail 420 else bif isES val_1 then .fail 420 else bif isOwnS val_1 then bif Nat.blt (Int.toNat (Int.ofNat j)) (lnOf val_1) then .fail 423 else .fail 420 else .fail 424 else .fail 420 else .fail 420 else bif isES val then .fail 420 else bif isOwnS val then bif Nat.blt (Int.toNat (Int.ofNat i)) (lnOf val) then .fail 423 else .fail 420 else .fail 424 := by kernel_rfl

end Go.Proofs

/- slices.SortFunc, by the library's contract, where the comparing function's answers are known by a run: the caller's own row, of one cell each, is sorted in place. -/
namespace Go.Proofs
open Go Go.Ev Go.Shelf Go.RowKit Go.Lib Go.Sort
set_option linter.unusedVariables false
set_option linter.unusedSimpArgs false

theorem mapBlock_setB {W : World} {b : Nat} {cc : Array Value} {e : TypeId} {fr : Nat × Nat} (hb : W.heap[b]? = some (.cells cc e fr)) (f : Array Value → Array Value) : mapBlock W b f = setB W b (.cells (f cc) e fr) := by
 unfold mapBlock setB
 congr 1
 apply Array.ext_getElem?
 intro k
 simp only [Array.getElem?_modify, Array.getElem?_setIfInBounds]
 by_cases hk : b = k
 ·subst hk
  have hlt : b < W.heap.size := by
   rcases Nat.lt_or_ge b W.heap.size with h | h
   ·exact h
   ·rw [Array.getElem?_eq_none h] at hb; cases hb
  rw [if_pos rfl, if_pos rfl, if_pos hlt, hb]
  rfl
 ·rw [if_neg hk, if_neg hk]

theorem WRel.ahead {γ : Gam} {A : AW} {W : World} (h : WRel γ A W) (n : Nat) : WRel γ A (Sort.ahead W n) :=
 ⟨fun i o hi => let ⟨g, hg, hr⟩ := h.obj i o hi; ⟨g, hg, hr.mono γ.le_refl rfl⟩, h.lt, h.fresh, h.sep, h.mem, h.famlt, h.famfresh⟩
theorem Ext.ahead (γ : Gam) (W : World) (n : Nat) : Ext γ W γ (Sort.ahead W n) := ⟨γ.le_refl, fun _ _ h => .inl h, Nat.le_refl _, fun _ _ _ => rfl, rfl, rfl, rfl, Nat.le_add_right _ _⟩
theorem below_grow (W : World) (os : Array Obj) : BelowD W.heap.size W (Sort.grow W os) := by
 refine ⟨⟨rfl, rfl, rfl, by simp [Sort.grow], fun k hk => ?_⟩, Nat.le_refl _⟩
 show (W.heap ++ os)[k]? = _
 rw [Array.getElem?_append_left hk]

theorem _root_.Go.Ev.GrT.callsD {P : Program} {r : Mem} {f : Nat} {args : List Value} {v : Value} (h : GrT P r f args v) {W : World} {args' : Array Value} (hR : Ro r noG W) (ha : VsRel noG args args'.toList) :
  Calls P f args' W fun e W' => e = .returned v ∧ BelowD W.heap.size W W' :=
 callsIn_wide.1 (h.2 Fence.wide ⟨fun _ => trivial, rfl, rfl⟩ 0 W args' hR ha)

theorem _root_.Go.Ev.BelowD.grow {W W' : World} (h : BelowD W.heap.size W W') : ∃ q os', W' = Sort.grow (W.drewN q) os' := by
 refine ⟨W'.drawn - W.drawn, W'.heap.extract W.heap.size W'.heap.size, ?_⟩
 obtain ⟨⟨h1, h2, h3, h4, h5⟩, h6⟩ := h
 obtain ⟨heap, tape, drawn, os, output⟩ := W'
 obtain ⟨heap0, tape0, drawn0, os0, output0⟩ := W
 simp only at h1 h2 h3 h4 h5 h6
 subst h1 h2 h3
 simp only [Sort.grow, World.drewN, World.mk.injEq, true_and, and_true]
 refine ⟨?_, by omega⟩
 apply Array.ext_getElem?
 intro k
 by_cases hk : k < heap0.size
 ·rw [Array.getElem?_append_left hk, h5 k hk]
 ·rw [Array.getElem?_append_right (by omega), Array.getElem?_extract]
  by_cases hk2 : k < heap.size
  ·rw [if_pos (by omega)]
   congr 1
   omega
  ·rw [if_neg (by omega), Array.getElem?_eq_none (by omega)]

theorem cells_enc {α : Type} {enc : α → Value} (hg : ∀ x, gnd (enc x) = true) {γ : Gam} {o : Nat} {zs : List α} {cc : Array Value} (h : CellsRel γ o (zs.map enc) cc) (j : Nat) (hj : j < zs.length) : cc[o + j]? = some (enc zs[j]) := by
 obtain ⟨v', h1, h2⟩ := h j (enc zs[j]) (by simp [hj])
 rw [h1, h2.eq_of_gnd (hg _)]

theorem sortWorld_heap {α : Type} [Inhabited α] {enc : α → Value} {W : World} {blk off m : Nat} {dk : Array α} {os : Array Obj} {k : Nat} (hk : k < W.heap.size) (hne : k ≠ blk) : (sortWorld enc W blk off m dk os).heap[k]? = W.heap[k]? := by
 unfold sortWorld Sort.grow putRow mapBlock
 show ((Sort.ahead W m).heap.modify blk _ ++ os)[k]? = _
 rw [Array.getElem?_append_left (by simpa [Sort.ahead] using hk), Array.getElem?_modify, if_neg (fun e => hne e.symm)]
 rfl

theorem sort_genC {P : Program} {ρ : Shelf.Ren} (L : SlLaysF.n6 P ρ) {α : Type} [Inhabited α] (enc : α → Value) (h1 : OneCell enc) (hgnd : ∀ x, gnd (enc x) = true) (g0 : Nat) (capt : List Value) (cf : α → α → Int) (hO : SWO (ltOf cf))
  (eg : ∀ args w, (callFunc g0 args).run P w = .ok (.enter g0 args) w)
  {C : Cfg} (hP : C.P = P) {A0 : AW} {i cap : Nat} {e : TypeId} {fam z : Nat} {zs R : List α} (hi : A0.heap.get i = some (.cells (zs.map enc) e fam z)) (hsz : zs.length < 4611686018427387904) (hcap : cap ≠ unkE)
  (hcmp : ∀ γ W capt' g, WRel γ A0 W → Ro C.ro γ W → VsRel γ capt capt' → γ i = some g → CmpLays1 P g0 ⟨capt'⟩ enc cf g.blk g.off zs.length W)
  (hR : ∀ d : List α, d.Perm zs → d.Pairwise (fun x y => ltOf cf y x = false) → d = R) :
  ∀ F, Wide F → ∀ k γ W args', WRel γ A0 W → Ro C.ro γ W → VsRel γ [.slice (some ⟨i, 0, none⟩) zs.length cap, .func (.func g0) ⟨[]⟩ ⟨capt⟩] (Array.toList args') →
   CallsIn F k C.P (ρ.f 6) args' W (Go.Ev.Ends γ W (.tuple ⟨[]⟩) (A0.only fam i (.cells (R.map enc) e fam z))) := by
 intro F hF k γ W args' hw hro ha
 subst hP
 obtain ⟨g, hg, ho⟩ := hw.obj _ _ hi
 cases ho with
 | cells hb hf hn hz hc =>
 rename_i cc fr
 obtain ⟨l'⟩ := args'
 cases ha with
 | cons h1' h2 =>
 cases h2 with
 | cons h2 h3 =>
 cases h3
 cases h2 with
 | func q1 q2 q3 =>
 cases q1
 rename_i a1 a2
 obtain ⟨a1⟩ := a1
 obtain ⟨a2⟩ := a2
 cases q2
 generalize hm : zs.length = m at h1'
 cases h1' with
 | sliceE => exact absurd rfl hcap
 | slice _ _ _ c' hg' _ =>
 subst hm
 rw [hg] at hg'
 cases hg'
 have hlt := hw.lt _ _ hg
 have hcz := cells_enc hgnd hc
 have hH : Holds enc W g.blk g.off zs.toArray := fun j hj => by
  have hj' : j < zs.length := by simpa using hj
  have h0 := hcz j hj'
  have hjc : g.off + j < cc.size := by
   rcases Nat.lt_or_ge (g.off + j) cc.size with h | h
   ·exact h
   ·rw [Array.getElem?_eq_none h] at h0; cases h0
  refine ⟨?_, ?_⟩
  ·unfold World.cell?
   rw [hb]
   simp only [Option.isSome_none, Bool.false_eq_true, if_false, h0]
   rw [getElem!_pos _ j (by simpa using hj')]
   simp
  ·unfold World.frozen?
   rw [hb]
   have := hf (g.off + j) hjc
   simp only [Bool.and_eq_false_iff, decide_eq_false_iff_not]
   omega
 have hcr : CmpLays1 C.P g0 ⟨a2⟩ enc cf g.blk g.off zs.toArray.size W := by
  rw [show zs.toArray.size = zs.length by simp]
  exact hcmp γ W a2 g hw hro q3 hg
 have hcon := Any.slices_SortFunc L enc h1 cf hO g0 ⟨a2⟩ g.blk g.off c' zs.toArray W eg hcr hH hlt (by simpa using hsz)
 rw [show zs.toArray.size = zs.length by simp] at hcon
 refine (hF.calls hcon).mono fun e' W' he => ?_
 obtain ⟨rfl, d', n, os, hp, hs, rfl⟩ := he
 have hds : d'.size = zs.length := by simpa using hp.1
 have hd : d'.toList = R := by
  refine hR _ ?_ ?_
  ·have := hp.2.2
   rw [show d'.extract 0 zs.length = d' by rw [← hds]; simp] at this
   simpa using this
  ·rw [List.pairwise_iff_getElem]
   intro a b h1 h2 h3
   have := hs a b (Nat.zero_le _) h3 (by rw [← hds]; simpa using h2)
   rw [getElem!_pos _ b (by simpa using h2), getElem!_pos _ a (by simpa using h1)] at this
   simpa using this
 have hw1 := WRel.ahead hw n
 have hb1 : (Sort.ahead W n).heap[g.blk]? = some (.cells cc e fr) := hb
 have e1 : putRow enc (Sort.ahead W n) g.blk g.off d' = setB (Sort.ahead W n) g.blk (.cells (putCells enc g.off d' cc) e fr) := mapBlock_setB hb1 _
 have hps : (putCells enc g.off d' cc).size = cc.size := by simp [putCells]
 have hor : ORel γ (setB (Sort.ahead W n) g.blk (.cells (putCells enc g.off d' cc) e fr)) g (.cells (R.map enc) e fam z) := by
  refine .cells (setB_same _ hlt) (by rw [hps]; exact hf) (by rw [hps]; exact hn) hz fun k v hk => ?_
  rw [List.getElem?_map] at hk
  cases hr : R[k]? with
  | none => rw [hr] at hk; cases hk
  | some x =>
   rw [hr] at hk
   cases hk
   have hkR : k < R.length := by
    rcases Nat.lt_or_ge k R.length with h | h
    ·exact h
    ·rw [List.getElem?_eq_none h] at hr; cases hr
   have hkd : k < d'.size := by rw [← hd] at hkR; simpa using hkR
   have hkz : k < zs.length := by omega
   refine ⟨enc x, ?_, VRel.of_gnd _ _ (hgnd x)⟩
   have h0 := hcz k hkz
   simp only [putCells, Array.getElem?_mapIdx, h0, Option.map_some]
   rw [if_pos ⟨by omega, by omega⟩, show g.off + k - g.off = k by omega]
   rw [getElem!_pos _ k hkd]
   have : d'.toList[k]? = some x := by rw [hd]; exact hr
   rw [show d'[k] = x by simpa [hkd] using this]
 have hw2 := WRel.setRow hw1 hi hg hor
 have hx2 : Ext γ W γ (setB (Sort.ahead W n) g.blk (.cells (putCells enc g.off d' cc) e fr)) := (Ext.ahead γ W n).trans (Ext.setB _ hg)
 have hbl := below_grow (setB (Sort.ahead W n) g.blk (.cells (putCells enc g.off d' cc) e fr)) os
 obtain ⟨hw3, hx3⟩ := WRel.below hw2 hbl
 refine ⟨.tuple #[], γ, rfl, .tuple .nil, ?_, ?_⟩
 ·unfold sortWorld
  rw [e1]
  exact hw3
 ·unfold sortWorld
  rw [e1]
  exact hx2.trans hx3

theorem sort_gen {P : Program} {ρ : Shelf.Ren} (L : SlLaysF.n6 P ρ) {α : Type} [Inhabited α] (enc : α → Value) (h1 : OneCell enc) (hgnd : ∀ x, gnd (enc x) = true) (g0 : Nat) (cf : α → α → Int) (hO : SWO (ltOf cf))
  (eg : ∀ args w, (callFunc g0 args).run P w = .ok (.enter g0 args) w)
  (hcmp : ∀ x y, GrT P (fun _ _ => none) g0 [enc x, enc y] (.int .i64 (cf x y)))
  {C : Cfg} (hP : C.P = P) {A0 : AW} {i cap : Nat} {e : TypeId} {fam z : Nat} {zs R : List α} (hi : A0.heap.get i = some (.cells (zs.map enc) e fam z)) (hsz : zs.length < 4611686018427387904) (hcap : cap ≠ unkE)
  (hR : ∀ d : List α, d.Perm zs → d.Pairwise (fun x y => ltOf cf y x = false) → d = R) :
  ∀ F, Wide F → ∀ k γ W args', WRel γ A0 W → Ro C.ro γ W → VsRel γ [.slice (some ⟨i, 0, none⟩) zs.length cap, .func (.func g0) #[] #[]] (Array.toList args') →
   CallsIn F k C.P (ρ.f 6) args' W (Go.Ev.Ends γ W (.tuple ⟨[]⟩) (A0.only fam i (.cells (R.map enc) e fam z))) :=
 sort_genC L enc h1 hgnd g0 [] cf hO eg hP hi hsz hcap (fun γ W capt' g _ _ hc _ => by
  cases hc
  exact fun _ _ _ _ x y =>
  (GrT.callsD (hcmp x y) (args' := #[enc x, enc y] ++ #[]) Ro.nought (by simpa using VsRel.of_gnds noG [enc x, enc y] (by simp [gnds, hgnd]))).mono fun _ _ ⟨he, hb⟩ => ⟨he, hb.grow⟩) hR

end Go.Proofs

/- The sort of this program, laid: the numbers of the functions and types. -/
set_option linter.unusedVariables false
set_option linter.unusedSimpArgs false
namespace Go.Proofs
open Go Go.Shelf

noncomputable def nameI (n : Nat) : String := match Tryd.prog.funcs[n]? with
 | some f => f.name
 | none => ""
def Tryd.sortI_ren : Shelf.Ren where
 f := fun x => match x with
  | 6 => 56
  | 15 => 73
  | 14 => 72
  | 28 => 87
  | 29 => 88
  | 20 => 79
  | 21 => 80
  | 22 => 81
  | 23 => 82
  | 24 => 83
  | 25 => 84
  | 26 => 85
  | 27 => 86
  | 46 => 97
  | 47 => 98
  | 48 => 99
  | 49 => 100
  | 50 => 101
  | 57 => 105
  | n => n
 t := fun x => match x with
  | 22 => 28
  | 24 => 3
  | 25 => 91
  | 3 => 3
  | 39 => 110
  | 0 => 0
  | 53 => 113
  | 55 => 126
  | 4 => 4
  | 46 => 118
  | 45 => 117
  | 50 => 122
  | 5 => 5
  | 9 => 9
  | 66 => 132
  | 70 => 136
  | 76 => 140
  | 77 => 33
  | n => n
 g := fun x => x

theorem Tryd.sortI : SlLaysF.n6 Tryd.prog Tryd.sortI_ren where
 mixed := by kernel_rfl
 f6 := ⟨nameI 56, of_decide_eq_true (by kernel_rfl), Tryd.func56.trans (by kernel_rfl)⟩
 f14 := ⟨nameI 72, of_decide_eq_true (by kernel_rfl), Tryd.func72.trans (by kernel_rfl)⟩
 f15 := Tryd.func73.trans (by kernel_rfl)
 f20 := ⟨nameI 79, of_decide_eq_true (by kernel_rfl), Tryd.func79.trans (by kernel_rfl)⟩
 f21 := ⟨nameI 80, of_decide_eq_true (by kernel_rfl), Tryd.func80.trans (by kernel_rfl)⟩
 f22 := ⟨nameI 81, of_decide_eq_true (by kernel_rfl), Tryd.func81.trans (by kernel_rfl)⟩
 f23 := ⟨nameI 82, of_decide_eq_true (by kernel_rfl), Tryd.func82.trans (by kernel_rfl)⟩
 f24 := ⟨nameI 83, of_decide_eq_true (by kernel_rfl), Tryd.func83.trans (by kernel_rfl)⟩
 f25 := ⟨nameI 84, of_decide_eq_true (by kernel_rfl), Tryd.func84.trans (by kernel_rfl)⟩
 f26 := ⟨nameI 85, of_decide_eq_true (by kernel_rfl), Tryd.func85.trans (by kernel_rfl)⟩
 f27 := ⟨nameI 86, of_decide_eq_true (by kernel_rfl), Tryd.func86.trans (by kernel_rfl)⟩
 f28 := Tryd.func87.trans (by kernel_rfl)
 f29 := Tryd.func88.trans (by kernel_rfl)
 f46 := ⟨nameI 97, of_decide_eq_true (by kernel_rfl), Tryd.func97.trans (by kernel_rfl)⟩
 f47 := Tryd.func98.trans (by kernel_rfl)
 f48 := Tryd.func99.trans (by kernel_rfl)
 f49 := ⟨nameI 100, of_decide_eq_true (by kernel_rfl), Tryd.func100.trans (by kernel_rfl)⟩
 f50 := ⟨nameI 101, of_decide_eq_true (by kernel_rfl), Tryd.func101.trans (by kernel_rfl)⟩
 f57 := ⟨nameI 105, of_decide_eq_true (by kernel_rfl), Tryd.func105.trans (by kernel_rfl)⟩
 t0 := Tryd.underlying0
 a0 := Tryd.isAgg0
 z0 := Tryd.sizeOf0
 v0 := Tryd.zeroValue0
 t3 := Tryd.underlying3
 a3 := Tryd.isAgg3
 z3 := Tryd.sizeOf3
 v3 := Tryd.zeroValue3
 t4 := Tryd.underlying4
 a4 := Tryd.isAgg4
 z4 := Tryd.sizeOf4
 v4 := Tryd.zeroValue4
 t5 := Tryd.underlying5
 a5 := Tryd.isAgg5
 z5 := Tryd.sizeOf5
 v5 := Tryd.zeroValue5
 t9 := Tryd.underlying9
 a9 := Tryd.isAgg9
 z9 := Tryd.sizeOf9
 v9 := Tryd.zeroValue9
 t22 := Tryd.underlying28
 a22 := Tryd.isAgg28
 z22 := Tryd.sizeOf28
 v22 := Tryd.zeroValue28
 a24 := Tryd.isAgg3
 z24 := Tryd.sizeOf3
 t25 := Tryd.underlying91
 a25 := Tryd.isAgg91
 z25 := Tryd.sizeOf91
 v25 := Tryd.zeroValue91
 t39 := Tryd.underlying110
 a39 := Tryd.isAgg110
 z39 := Tryd.sizeOf110
 v39 := Tryd.zeroValue110
 t45 := Tryd.underlying117
 a45 := Tryd.isAgg117
 z45 := Tryd.sizeOf117
 v45 := Tryd.zeroValue117
 t46 := Tryd.underlying118
 a46 := Tryd.isAgg118
 z46 := Tryd.sizeOf118
 v46 := Tryd.zeroValue118
 t50 := Tryd.underlying122
 a50 := Tryd.isAgg122
 z50 := Tryd.sizeOf122
 v50 := Tryd.zeroValue122
 t53 := Tryd.underlying113
 a53 := Tryd.isAgg113
 z53 := Tryd.sizeOf113
 v53 := Tryd.zeroValue113
 t55 := Tryd.underlying126
 a55 := Tryd.isAgg126
 z55 := Tryd.sizeOf126
 v55 := Tryd.zeroValue126
 t66 := Tryd.underlying132
 a66 := Tryd.isAgg132
 z66 := Tryd.sizeOf132
 v66 := Tryd.zeroValue132
 t70 := Tryd.underlying136
 a70 := Tryd.isAgg136
 z70 := Tryd.sizeOf136
 v70 := Tryd.zeroValue136
 t76 := Tryd.underlying140
 a76 := Tryd.isAgg140
 z76 := Tryd.sizeOf140
 v76 := Tryd.zeroValue140
 t77 := Tryd.underlying33
 a77 := Tryd.isAgg33
 z77 := Tryd.sizeOf33
 v77 := Tryd.zeroValue33

end Go.Proofs

/- Intervals by their left: the order, what the sort leaves. -/
namespace Go.Proofs
open Go Go.Ev Go.Num Go.Shelf Go.RowKit Go.Lib Go.Sort
set_option linter.unusedVariables false
set_option linter.unusedSimpArgs false
set_option maxRecDepth 100000

theorem cmpI_calls (r : Mem) (x y : Int) : GrT Tryd.prog r 51 [I x, I y] (I (m_cmpI x y)) := by
 refine GrT.of (SC_ok r) TOk.nil .nil rfl ⟨1, 3, ?_⟩
 refine (ccA r x y).trans ?_
 simp only [neF (show x = x from rfl), neF (show y = y from rfl), cond_false, m_cmpI]
 by_cases c : x < y
 ·rw [dT c, if_pos c]; rfl
 ·by_cases d : x > y
  ·rw [dF c, dT d, if_neg c, if_pos d]; rfl
  ·rw [dF c, dF d, if_neg c, if_neg d]; rfl
theorem tCmp_ok (r : Mem) : TOk (SC r) tCmp := TOk.nil.cons (eI2_ok fun x y _ => cmpI_calls r x y)

theorem l1_ok {r : Mem} {b off n cap bb kk : Nat} {z : Nat → Int} (h0 : r bb kk = some (RS2 b off n cap)) (hz : rowAt r b off (2 * n) z) {i j : Nat} (hi : i < n) (hj : j < n) : GrT Tryd.prog r 57 [I (i : Nat), I (j : Nat), .pointer (some ⟨bb, kk, some 0⟩)] (I (m_cb (ea z) i j)) := by
 refine GrT.of (SC_ok r) (tCmp_ok r) .nil rfl ⟨3, 3, ?_⟩
 have hn := l1A r i j bb kk
 have e1 : r b (Nat.add (Nat.add off (Nat.mul i 2)) 0) = some (I (ea z i)) := row_a hz hi
 have e2 : r b (Nat.add (Nat.add off (Nat.mul j 2)) 0) = some (I (ea z j)) := row_a hz hj
 have c3 : Nat.blt i n = true := Nat.ble_eq_true_of_le (by omega)
 have c4 : Nat.blt j n = true := Nat.ble_eq_true_of_le (by omega)
 have q1 : isNilS (RS2 b off n cap) = false := rfl
 have q2 : isRoS (RS2 b off n cap) = true := rfl
 have q3 : blkOf (RS2 b off n cap) = b := rfl
 have q4 : offOf (RS2 b off n cap) = off := rfl
 have q5 : lnOf (RS2 b off n cap) = n := rfl
 have q6 : cpOf (RS2 b off n cap) = cap := rfl
 have eqv : ∀ a : Int, m_eqv (I a) (I a) = true := fun a => by simp [m_eqv, veq]
 have eqs : m_eqv (RS2 b off n cap) (RS2 b off n cap) = true := by simp [m_eqv, veq]
 simp only [h0, q1, q2, q3, q4, q5, q6, cond_false, cond_true, Int.ofNat_eq_natCast, Int.toNat_natCast, c3, c4, e1, e2, isI_I, ofI_I, eqv, eqs] at hn
 refine hn.trans ?_
 unfold m_cb
 by_cases d : m_cmpI (ea z i) (ea z j) = 0
 ·rw [neF (show m_cmpI (ea z i) (ea z j) = ((0 : Nat) : Int) from d), if_pos d, cond_false]
  by_cases d2 : m_cmpI (i : Nat) (j : Nat) = 0
  ·rw [neF (show m_cmpI (i : Nat) (j : Nat) = ((0 : Nat) : Int) from d2), d2]; rfl
  ·rw [neT (show m_cmpI (i : Nat) (j : Nat) ≠ ((0 : Nat) : Int) from d2)]; rfl
 ·rw [neT (show m_cmpI (ea z i) (ea z j) ≠ ((0 : Nat) : Int) from d), if_neg d, cond_true]
  rfl

end Go.Proofs

/- Intervals by their left, run: byLeft. -/
namespace Go.Proofs
open Go Go.Ev Go.Num
set_option linter.unusedVariables false
set_option linter.unusedSimpArgs false
set_option maxRecDepth 100000

abbrev fBL (k : Nat) : Value := .func (.func 57) ⟨[]⟩ ⟨[.pointer (some ⟨k, 0, none⟩)]⟩
def oIn (c : List Value) (i : Nat) : Option AObj := some (.cells c 3 i 1)
def oBx (sl : Value) (i : Nat) : Option AObj := some (.cells [sl] 49 i 0)
noncomputable def cBL : Code := bodyOf S0 36
noncomputable def BL_0 : Code := (lc cBL)
noncomputable def BL_1 : Code := (lc (rc cBL))
noncomputable def BL_2 : Code := (lc (lc (rc (rc cBL))))
noncomputable def BL_3 : Code := (ic (ic (rc (lc (rc (rc cBL))))))
noncomputable def BL_4 : Code := (rc (rc (rc cBL)))
theorem BL_eq : cBL = (.seq BL_0 (.seq BL_1 (.seq (.seq BL_2 (.block 0 (.loop BL_3))) BL_4))) := by kernel_rfl
def lvBL : List Nat := [3, 1, 9, 10]
def vBL (n : Nat) (i : Nat) : OV := [some (ow 0 n), some (.pointer (some ⟨1, 0, none⟩)), some (I (n : Nat)), some (I (i : Nat))]
abbrev P1 : Value := .pointer (some ⟨1, 0, none⟩)
noncomputable def tSI (n : Nat) (A0 A1 : AW) : Tbl := tcons 56 (entAt [ow 0 n, fBL 1] A0 (.tuple ⟨[]⟩) A1) fun _ => none

theorem blA (r : Mem) (b off n cap : Nat) (fs : FnsC) (K : OV → List Nat → OO → CR) (kx : Nat → KS) (kr : KS) : run (SC r) 1567 22 1 (.seq BL_0 (.seq BL_1 BL_2)) fs none (rbK 0 lvBL [.g, .g] K) kx kr (sc0 1567 [RS2 b off n cap]) (tr0 1567 [RS2 b off n cap]) [] emptyA =
    bif Nat.ble (Int.toNat (Int.ofNat n)) (Int.toNat (Int.ofNat n)) then bif Nat.ble (Int.toNat (Int.ofNat n)) 1000000 then bif m_nns (zerosL (Nat.mul (Int.toNat (Int.ofNat n)) 1) [I (Int.ofNat 0)]) && (m_nns [.slice (some ⟨b, off, some 0⟩) n cap] && true) then K [some (.slice (some ⟨0, 0, none⟩) (Int.toNat (Int.ofNat n)) (Int.toNat (Int.ofNat n))), some (.pointer (some ⟨1, 0, none⟩)), some (I (Int.ofNat (Int.toNat (Int.ofNat n)))), some (I (Int.ofNat 0))] [] [some (.cells (zerosL (Nat.mul (Int.toNat (Int.ofNat n)) 1) [I (Int.ofNat 0)]) 3 0 1), some (.cells [.slice (some ⟨b, off, some 0⟩) n cap] 49 1 0)] else .fail 420 else .fail 420 else .fail 420 := by kernel_rfl

theorem blB (r : Mem) (n : Nat) (i : Nat) (c : List Value) (sl : Value) (fs : FnsC) (K : OV → List Nat → OO → CR) (KX : Nat → OV → List Nat → OO → CR) (kr : KS) : run (SC r) 1567 22 1 BL_3 fs none (rbK 0 lvBL [.g, .g] K) (fun j => rbK 0 [3, 1] [.g, .g] (KX j)) kr [] (bT lvBL (vBL n i) .nil) [] (mkA [oIn c 0, oBx sl 1]) =
    bif decide (Int.ofNat i < Int.ofNat n) then bif Nat.blt (Int.toNat (Int.ofNat i)) n then bif Nat.blt (Nat.add 0 (Nat.mul (Int.toNat (Int.ofNat i)) 1)) (List.length c) then bif m_nns (List.set c (Nat.add 0 (Nat.mul (Int.toNat (Int.ofNat i)) 1)) (I (Int.ofNat i))) && (m_nns [sl] && true) then K [some (.slice (some ⟨0, 0, none⟩) n n), some (.pointer (some ⟨1, 0, none⟩)), some (I (Int.ofNat n)), some (I (IntKind.wrap .i64 (Int.ofNat i + Int.ofNat 1)))] [] [some (.cells (List.set c (Nat.add 0 (Nat.mul (Int.toNat (Int.ofNat i)) 1)) (I (Int.ofNat i))) 3 0 1), some (.cells [sl] 49 1 0)] else .fail 420 else .fail 420 else .fail 420 else bif m_nns c && (m_nns [sl] && true) then KX 0 [some (.slice (some ⟨0, 0, none⟩) n n), some (.pointer (some ⟨1, 0, none⟩))] [] [some (.cells c 3 0 1), some (.cells [sl] 49 1 0)] else .fail 420 := by kernel_rfl

theorem blC (r : Mem) (n : Nat) (c c' : List Value) (sl : Value) (K KR : OV → List Nat → OO → CR) (kx : Nat → KS) : run (SC r) 1567 22 1 BL_4 (lvlT (SC r) (tSI n (mkA [oIn c 0, oBx sl 1]) (mkA [oIn c' 0, oBx sl 1])) .nil 1 1) none (rbK 0 [2] [] K) kx (rbK 0 [2] [] KR) [] (bT [3, 1] [some (ow 0 n), some P1] .nil) [] (mkA [oIn c 0, oBx sl 1]) =
    bif m_at [.slice (some ⟨0, 0, none⟩) n n, .func (Fn.func 57) ⟨[]⟩ ⟨[.pointer (some ⟨1, 0, none⟩)]⟩] [.slice (some ⟨0, 0, none⟩) n n, .func (Fn.func 57) ⟨[]⟩ ⟨[.pointer (some ⟨1, 0, none⟩)]⟩] (AW.mk 2 (.node (.node .nil (some (.cells [sl] 49 1 0)) .nil) (some (.cells c 3 0 1)) .nil) .nil) (AW.mk 2 (.node (.node .nil (some (.cells [sl] 49 1 0)) .nil) (some (.cells c 3 0 1)) .nil) .nil) then bif m_nns c' && true then KR [some (.slice (some ⟨0, 0, none⟩) n n)] [] [some (.cells c' 3 0 1)] else .fail 420 else .fail 420 := by kernel_rfl

end Go.Proofs

/- Intervals by their left: what the calls answer. -/
namespace Go.Proofs
open Go Go.Ev Go.Num Go.Shelf Go.RowKit Go.Lib Go.Sort
set_option linter.unusedVariables false
set_option linter.unusedSimpArgs false
set_option maxRecDepth 100000

section
variable {r : Mem} {b off n cap : Nat} {z : Nat → Int}

theorem cb_lays [Inhabited (Fin n)] (h1n : 1 ≤ n) (hz : rowAt r b off (2 * n) z) {c : List Value} {γ : Gam} {W : World} {capt' : List Value} {g : GI} (hw : WRel γ (mkA [oIn c 0, oBx (RS2 b off n cap) 1]) W) (hR : Ro r γ W) (hv : VsRel γ [P1] capt') (hg : γ 0 = some g) :
  CmpLays1 Tryd.prog 57 ⟨capt'⟩ (fun x : Fin n => I (x.val : Nat)) (fun x y => m_cb (ea z) x y) g.blk g.off n W := by
 have h0 : (mkA [oIn c 0, oBx (RS2 b off n cap) 1]).heap.get 0 = some (.cells c 3 0 1) := by kernel_rfl
 have h1 : (mkA [oIn c 0, oBx (RS2 b off n cap) 1]).heap.get 1 = some (.cells [RS2 b off n cap] 49 1 0) := by kernel_rfl
 obtain ⟨g1, hg1, ho1⟩ := hw.obj _ _ h1
 have hne : g1.blk ≠ g.blk := fun hbb => by
  rcases hw.sep 1 0 _ _ g1 g h1 h0 hg1 hg hbb with h | ⟨_, _, _, _, _, _, _, q1, q2⟩
  ·cases h
  ·cases q1
   exact nomatch q2.1
 cases hv with
 | cons hv hrest =>
 cases hrest
 cases hv with
 | ptr k hgk =>
 rw [hg1] at hgk
 cases hgk
 cases ho1 with
 | cells hb1 hf1 hn1 hz1 hc1 =>
 rename_i cc1 fr1
 obtain ⟨u, hu1, hu2⟩ := hc1 0 _ rfl
 cases hu2 with
 | sliceE => omega
 | sliceRo _ _ _ _ _ c' _ _ =>
 let r1 : Mem := fun b' j => if b' = g.blk then none else memW W b' j
 have hro : ∀ (m : Nat) (os : Array Obj) (dk : Array (Fin n)), Ro r1 noG (sortWorld (fun x : Fin n => I (x.val : Nat)) W g.blk g.off m dk os) := fun m os dk b' j v hv => by
  by_cases e : b' = g.blk
  ·simp [r1, e] at hv
  ·have hv : memW W b' j = some v := by simpa [r1, e] using hv
   obtain ⟨_, cc, e', fr, v', q1, q2⟩ := memW_ro W b' j v hv
   refine ⟨fun _ _ h => (nomatch h), cc, e', fr, v', ?_, q2⟩
   have hlt : b' < W.heap.size := by
    rcases Nat.lt_or_ge b' W.heap.size with h | h
    ·exact h
    ·rw [Array.getElem?_eq_none h] at q1; cases q1
   rw [sortWorld_heap hlt e]
   exact q1
 have hbox : r1 g1.blk (g1.off + 0) = some (RS2 b off n (match Nat.blt c' unk with | true => c' | false => 0)) := by
  show (if g1.blk = g.blk then none else memW W g1.blk (g1.off + 0)) = _
  rw [if_neg hne]
  unfold memW
  rw [hb1]
  simp only [hu1, Option.bind_some]
  rfl
 have hrow : rowAt r1 b off (2 * n) z := fun j hj => by
  obtain ⟨hno, cc, e', fr, v', q1, q2, q3⟩ := hR b (off + j) _ (hz j hj)
  show (if b = g.blk then none else memW W b (off + j)) = _
  rw [if_neg fun e => hno 0 g hg e.symm]
  have := (q3 γ).eq_of_gnd rfl
  subst this
  unfold memW
  rw [q1]
  simp only [q2, Option.bind_some]
  exact mark_gnd rfl
 intro m os dk hdk x y
 have hvs : VsRel noG [I (x.val : Nat), I (y.val : Nat), .pointer (some ⟨g1.blk, g1.off + 0, some 0⟩)] (#[I (x.val : Nat), I (y.val : Nat)] ++ (⟨[.pointer (some ⟨g1.blk, g1.off + 0, none⟩)]⟩ : Array Value)).toList := by
  rw [Array.toList_append]
  exact .cons (.int _ _) (.cons (.int _ _) (.cons (.ptrRo _ _ _) .nil))
 have hc := GrT.callsD (l1_ok hbox hrow x.isLt y.isLt) (hro m os dk) hvs
 exact hc.mono fun _ _ ⟨he, hb⟩ => ⟨he, hb.grow⟩

def pkC0 (n : Nat) : List Value := ixN (fun j => (j : Nat)) n
def pkCR (z : Nat → Int) (n : Nat) : List Value := (srtV (ea z) n).map fun (j : Nat) => I (j : Nat)
theorem pkCR_eq (z : Nat → Int) (n : Nat) : (srtF (ea z) n).map (fun x : Fin n => I (x.val : Nat)) = pkCR z n := by
 unfold pkCR srtV
 rw [List.map_map]
 rfl
theorem pkC0_eq (n : Nat) : (List.finRange n).map (fun x : Fin n => I (x.val : Nat)) = pkC0 n := by
 unfold pkC0 ixN
 rw [← finR_val, List.map_map]
 rfl
theorem pkCR_nn (z : Nat → Int) (n : Nat) : m_nns (pkCR z n) = true := by
 unfold pkCR
 generalize srtV (ea z) n = l
 induction l with
 | nil => rfl
 | cons x l ih => exact ih
theorem pkCR_gnd (z : Nat → Int) (n : Nat) : gnds (pkCR z n) = true := by
 unfold pkCR
 generalize srtV (ea z) n = l
 induction l with
 | nil => rfl
 | cons x l ih => exact ih

theorem sortI_e (hz : rowAt r b off (2 * n) z) (h1 : 1 ≤ n) (hn : n ≤ 1000000) : TOk (SC r) (tSI n (mkA [oIn (pkC0 n) 0, oBx (RS2 b off n cap) 1]) (mkA [oIn (pkCR z n) 0, oBx (RS2 b off n cap) 1])) := by
 haveI : Inhabited (Fin n) := ⟨⟨0, h1⟩⟩
 refine TOk.nil.cons (entAt_ok fun F hF k γ W args' hw hR ha => ?_)
 have hlen : (List.finRange n).length = n := List.length_finRange
 have hi : (mkA [oIn (pkC0 n) 0, oBx (RS2 b off n cap) 1]).heap.get 0 = some (.cells ((List.finRange n).map (fun x : Fin n => I (x.val : Nat))) 3 0 1) := by rw [pkC0_eq]; kernel_rfl
 have h := sort_genC Tryd.sortI (fun x : Fin n => I (x.val : Nat)) (fun _ => rfl) (fun _ => rfl) 57 [P1] (fun x y => m_cb (ea z) x y) ⟨fun x => by
   simp only [ltOf, decide_eq_false_iff_not, cb_lt]; omega, fun x y w => by
   simp only [ltOf, decide_eq_true_eq, cb_lt]; omega, fun x y w => by
   simp only [ltOf, decide_eq_false_iff_not, cb_lt]; omega⟩ (fun args w => callFunc_ok (SC_ok r) (by kernel_rfl) args w) (C := SC r) rfl (cap := n) hi (by rw [hlen]; omega) (by unfold unkE; omega)
  (fun γ W capt' g hw hR hc hg => by rw [hlen]; exact cb_lays h1 hz hw hR hc hg) (fun d hp hs => srtF_one (ea z) hp hs)
 rw [hlen] at h
 have h2 := h F hF k γ W args' hw hR ha
 have hA1 : (mkA [oIn (pkC0 n) 0, oBx (RS2 b off n cap) 1]).only 0 0 (.cells ((srtF (ea z) n).map fun x : Fin n => I (x.val : Nat)) 3 0 1) = mkA [oIn (pkCR z n) 0, oBx (RS2 b off n cap) 1] := by rw [pkCR_eq]; kernel_rfl
 rw [hA1] at h2
 exact h2

theorem bl_S (hz : rowAt r b off (2 * n) z) (h1 : 1 ≤ n) (hn : n ≤ 1000000) : SOk (SC r) 36 [RS2 b off n cap] emptyA fun v A => v = ow 0 n ∧ A = mkA [oIn (pkCR z n) 0] := by
 refine callL (SC_ok r) (by kernel_rfl) ((bodySC r _).trans BL_eq) (nt := 22) (by kernel_rfl) (rs := [.tmp 2]) (by kernel_rfl) 1567 rfl (.step (.step .base)) TOk.nil (tm := .nil) (L := 1) (d := 1) lvBL [.g, .g]
  (fun j vs ms os => ∃ k, k ≤ n ∧ j = n - k ∧ vs = vBL n k ∧ ms = [] ∧ os = [oIn (ixN (fun j => if j < k then (j : Nat) else 0) n) 0, oBx (RS2 b off n cap) 1])
  ⟨[3, 1], [.g, .g], fun vs ms os => vs = [some (ow 0 n), some P1] ∧ ms = [] ∧ os = [oIn (pkC0 n) 0, oBx (RS2 b off n cap) 1]⟩
  ⟨[2], [], fun vs ms os => vs = [some (ow 0 n)] ∧ ms = [] ∧ os = [oIn (pkCR z n) 0]⟩ ?_ ?_ ?_ ?_
 ·have hn' := blA r b off n cap
  have c3 : Nat.ble n 1000000 = true := Nat.ble_eq_true_of_le hn
  have c4 : Nat.ble n n = true := Nat.ble_eq_true_of_le (Nat.le_refl _)
  simp only [Int.ofNat_eq_natCast, Int.toNat_natCast, c3, c4, cond_true] at hn'
  have e0 := ix_zero1 n
  simp only [Int.ofNat_eq_natCast] at e0
  simp only [e0, ix_nn, Bool.and_true, cond_true] at hn'
  exact (hn' _ _ _ _).trans (qq_ok ⟨n, 0, Nat.zero_le _, rfl, rfl, rfl, by
   unfold oIn
   rw [ix_ext (f := fun _ => 0) (g := fun j => if j < 0 then ((j : Nat) : Int) else 0) fun j hj => by simp]
   rfl⟩)
 ·rintro j vs ms os ⟨k, hk, rfl, rfl, rfl, rfl⟩
  refine ⟨_, TOk.nil, .nil, 1, 1, 1, ?_⟩
  have hn' := blB r n k (ixN (fun j => if j < k then (j : Nat) else 0) n) (RS2 b off n cap)
  have e9 : m_nns [RS2 b off n cap] = true := rfl
  simp only [Int.ofNat_eq_natCast, Int.toNat_natCast, Nat.add_eq, Nat.mul_eq, Nat.mul_one, Nat.zero_add, ix_len, ix_set, ix_nn, e9, Bool.and_true, cond_true] at hn'
  by_cases c : k < n
  ·have c1 : (k : Int) < (n : Int) := by omega
   have c3 : Nat.blt k n = true := Nat.ble_eq_true_of_le (by omega)
   have e3 := inc1' (k := k) (by omega)
   simp only [Int.ofNat_eq_natCast] at e3
   simp only [dT c1, c3, cond_true, e3] at hn'
   exact (hn' _ _ _ _).trans (qq_ok ⟨n - (k + 1), by omega, k + 1, c, rfl, rfl, rfl, by
    unfold oIn
    rw [ix_ext (g := fun j => if j < k + 1 then ((j : Nat) : Int) else 0) fun j hj => ?_]
    ·rfl
    ·by_cases d : j = k
     ·simp [d]
     ·by_cases d2 : j < k
      ·rw [if_neg d, if_pos d2, if_pos (by omega)]
      ·rw [if_neg d, if_neg d2, if_neg (by omega)]⟩)
  ·have hkl : k = n := by omega
   subst hkl
   have c1 : ¬ (k : Int) < (k : Int) := by omega
   simp only [dF c1, cond_false] at hn'
   exact (hn' _ _ _ _).trans (qq_ok ⟨rfl, rfl, by
    unfold oIn pkC0
    rw [ix_ext (g := fun j => ((j : Nat) : Int)) fun j hj => if_pos hj]
    rfl⟩)
 ·rintro vs ms os ⟨rfl, rfl, rfl⟩
  have hn' := blC r n (pkC0 n) (pkCR z n) (RS2 b off n cap)
  simp only [at_rfl, pkCR_nn, Bool.and_true, cond_true] at hn'
  exact ⟨_, sortI_e hz h1 hn, .nil, 1, 1, 1, (hn' _ _ _).trans (qq_ok ⟨rfl, rfl, rfl⟩)⟩
 ·rintro vs ms os ⟨rfl, rfl, rfl⟩
  exact ⟨_, mkA [oIn (pkCR z n) 0], by kernel_rfl, rfl, rfl⟩
end

end Go.Proofs

/- Boats for intervals, run. -/
namespace Go.Proofs
open Go Go.Ev Go.Num
set_option linter.unusedVariables false
set_option linter.unusedSimpArgs false
set_option maxRecDepth 100000

noncomputable def cBT : Code := bodyOf S0 22
noncomputable def BT_0 : Code := (lc cBT)
noncomputable def BT_1 : Code := (lc (rc cBT))
noncomputable def BT_2 : Code := (lc (rc (rc cBT)))
noncomputable def BT_3 : Code := (lc (lc (rc (rc (rc cBT)))))
noncomputable def BT_4 : Code := (ic (ic (rc (lc (rc (rc (rc cBT)))))))
noncomputable def BT_5 : Code := (rc (rc (rc (rc cBT))))
theorem BT_eq : cBT = (.seq BT_0 (.seq BT_1 (.seq BT_2 (.seq (.seq BT_3 (.block 0 (.loop BT_4))) BT_5)))) := by kernel_rfl
noncomputable def cIX : Code := bodyOf S0 37
noncomputable def IX_0 : Code := (lc cIX)
noncomputable def IX_1 : Code := (lc (lc (rc cIX)))
noncomputable def IX_2 : Code := (ic (ic (rc (lc (rc cIX)))))
noncomputable def IX_3 : Code := (rc (rc cIX))
theorem IX_eq : cIX = (.seq IX_0 (.seq (.seq IX_1 (.block 0 (.loop IX_2))) IX_3)) := by kernel_rfl
abbrev fB1 (i k : Nat) : Value := .func (.func 38) ⟨[]⟩ ⟨[.pointer (some ⟨i, 0, none⟩), .pointer (some ⟨k, 0, none⟩)]⟩
abbrev gw (i n : Nat) : Value := .slice (some ⟨i, 0, none⟩) n unk
def oIb (x : Int) (i : Nat) : Option AObj := some (.cells [I x] 3 i 0)
noncomputable def eRw (sl : Value) (n : Nat) (c : List Value) : Ent := ⟨fun args _ => m_sv args [sl], fun _ _ => true, fun _ A => .slice (some ⟨A.next, 0, none⟩) n n, fun _ A => A.new (.cells c 3 A.next 1), fun _ _ => undef, fun _ A => A⟩
noncomputable def tBL (sl : Value) (n : Nat) (c : List Value) : Tbl := tcons 36 (eRw sl n c) fun _ => none
def lvBT : List Nat := [3, 12, 1, 13, 14, 4]
def vBT (n k : Nat) (e : Value) : OV := [some (ow 0 n), some (ow 1 n), some (.pointer (some ⟨2, 0, none⟩)), some (I (n : Nat)), some (I (k : Nat)), some e]
def lvIX : List Nat := [0, 1, 7, 8]
def vIX (L k : Nat) : OV := [some (gw 3 L), some (fB1 2 4), some (I (L : Nat)), some (I (k : Nat))]
def oB5 (b1 b2 : List Value) (sl : Value) (e : List Value) (i : Int) : OO := [oIn b1 0, oIn b2 1, oBx sl 2, oIn e 3, oIb i 4]
noncomputable def tIX (L : Nat) (A0 : AW) (v : Int) : Tbl := tcons 37 (entAt [gw 3 L, fB1 2 4] A0 (I v) A0) fun _ => none

theorem btA (r : Mem) (b off n cap : Nat) (c : List Value) (K : OV → List Nat → OO → CR) (kx : Nat → KS) (kr : KS) : run (SC r) 28895 42 1 (.seq BT_0 (.seq BT_1 (.seq BT_2 BT_3))) (lvlT (SC r) (tBL (RS2 b off n cap) n c) .nil 1 1) none (rbK 0 lvBT [] K) kx kr (sc0 28895 [RS2 b off n cap]) (tr0 28895 [RS2 b off n cap]) [] emptyA =
    bif Nat.ble (Int.toNat (Int.ofNat n)) (Int.toNat (Int.ofNat n)) then bif Nat.ble (Int.toNat (Int.ofNat n)) 1000000 then bif m_sv [.slice (some ⟨b, off, some 0⟩) n cap] [.slice (some ⟨b, off, some 0⟩) n cap] then bif m_nns (zerosL (Nat.mul (Int.toNat (Int.ofNat n)) 1) [I (Int.ofNat 0)]) && (m_nns c && (m_nns [.slice (some ⟨b, off, some 0⟩) n cap] && true)) then K [some (.slice (some ⟨0, 0, none⟩) (Int.toNat (Int.ofNat n)) (Int.toNat (Int.ofNat n))), some (.slice (some ⟨1, 0, none⟩) n n), some (.pointer (some ⟨2, 0, none⟩)), some (I (Int.ofNat n)), some (I (Int.ofNat 0)), some (.slice none 0 0)] [] [some (.cells (zerosL (Nat.mul (Int.toNat (Int.ofNat n)) 1) [I (Int.ofNat 0)]) 3 0 1), some (.cells c 3 1 1), some (.cells [.slice (some ⟨b, off, some 0⟩) n cap] 49 2 0)] else .fail 420 else .fail 420 else .fail 420 else .fail 420 := by kernel_rfl

theorem btN (r : Mem) (b off n cap k : Nat) (c1 c2 : List Value) (K : OV → List Nat → OO → CR) (KX : Nat → OV → List Nat → OO → CR) (kr : KS) : run (SC r) 28895 42 1 BT_4 (lvlT (SC r) (fun _ => none) .nil 1 3) none (rbK 0 lvBT [] K) (fun j => rbK 0 [3] [] (KX j)) kr [] (bT lvBT (vBT n k (.slice none 0 0)) .nil) [] (mkA [oIn c1 0, oIn c2 1, oBx (RS2 b off n cap) 2]) =
    bif decide (Int.ofNat k < Int.ofNat n) then bif Nat.blt (Int.toNat (Int.ofNat k)) n then Option.casesOn c2[Nat.add 0 (Nat.mul (Int.toNat (Int.ofNat k)) 1)]? (.fail 423) fun val => bif isI IntKind.i64 val then bif decide (0 ≤ ofI val) then bif Nat.blt (Int.toNat (ofI val)) n then Option.casesOn (r b (Nat.add (Nat.add off (Nat.mul (Int.toNat (ofI val)) 2)) 1)) (.fail 423) fun val_1 => bif isI IntKind.i64 val_1 then bif decide (0 ≤ ofI val) then bif Nat.blt (Int.toNat (ofI val)) n then bif Nat.blt (Nat.add 0 (Nat.mul (Int.toNat (ofI val)) 1)) (List.length c1) then bif m_nns (List.set c1 (Nat.add 0 (Nat.mul (Int.toNat (ofI val)) 1)) (I (Int.ofNat 0))) && (m_nns c2 && (m_nns [.slice (some ⟨b, off, some 0⟩) n cap] && (m_nns [I (ofI val_1)] && true))) then K [some (.slice (some ⟨0, 0, none⟩) n n), some (.slice (some ⟨1, 0, none⟩) n n), some (.pointer (some ⟨2, 0, none⟩)), some (I (Int.ofNat n)), some (I (IntKind.wrap .i64 (Int.ofNat k + Int.ofNat 1))), some (.slice (some ⟨3, 0, none⟩) 1 unk)] [] [some (.cells (List.set c1 (Nat.add 0 (Nat.mul (Int.toNat (ofI val)) 1)) (I (Int.ofNat 0))) 3 0 1), some (.cells c2 3 1 1), some (.cells [.slice (some ⟨b, off, some 0⟩) n cap] 49 2 0), some (.cells [I (ofI val_1)] 3 3 1)] else .fail 420 else .fail 420 else .fail 420 else .fail 420 else .fail 420 else .fail 420 else .fail 420 else .fail 420 else .fail 420 else bif m_nns c1 && true then KX 0 [some (.slice (some ⟨0, 0, none⟩) n n)] [] [some (.cells c1 3 0 1)] else .fail 420 := by kernel_rfl

theorem btR (r : Mem) (b off n cap k L : Nat) (c1 c2 e : List Value) (i v : Int) (K : OV → List Nat → OO → CR) (KX : Nat → OV → List Nat → OO → CR) (kr : KS) : run (SC r) 28895 42 1 BT_4 (lvlT (SC r) (tIX L (mkA (oB5 c1 c2 (RS2 b off n cap) e i)) v) .nil 1 3) none (rbK 0 lvBT [] K) (fun j => rbK 0 [3] [] (KX j)) kr [] (bT lvBT (vBT n k (gw 3 L)) .nil) [] (mkA [oIn c1 0, oIn c2 1, oBx (RS2 b off n cap) 2, oIn e 3]) =
    bif decide (Int.ofNat k < Int.ofNat n) then bif Nat.blt (Int.toNat (Int.ofNat k)) n then Option.casesOn c2[Nat.add 0 (Nat.mul (Int.toNat (Int.ofNat k)) 1)]? (.fail 423) fun val => bif isI IntKind.i64 val then bif m_at [.slice (some ⟨3, 0, none⟩) L unk, .func (Fn.func 38) ⟨[]⟩ ⟨[.pointer (some ⟨2, 0, none⟩), .pointer (some ⟨4, 0, none⟩)]⟩] [.slice (some ⟨3, 0, none⟩) L unk, .func (Fn.func 38) ⟨[]⟩ ⟨[.pointer (some ⟨2, 0, none⟩), .pointer (some ⟨4, 0, none⟩)]⟩] (AW.mk 5 (.node (.node (.node .nil (some (.cells e 3 3 1)) .nil) (some (.cells c2 3 1 1)) .nil) (some (.cells c1 3 0 1)) (.node (.node .nil (some (.cells [I (ofI val)] 3 4 0)) .nil) (some (.cells [.slice (some ⟨b, off, some 0⟩) n cap] 49 2 0)) .nil)) .nil) (AW.mk 5 (.node (.node (.node .nil (some (.cells e 3 3 1)) .nil) (some (.cells c2 3 1 1)) .nil) (some (.cells c1 3 0 1)) (.node (.node .nil (some (.cells [I i] 3 4 0)) .nil) (some (.cells [.slice (some ⟨b, off, some 0⟩) n cap] 49 2 0)) .nil)) .nil) then bif decide (v < 0) then bif Nat.ble (Nat.add L 1) 1000000 then Option.casesOn (takeAt e 0 (Nat.mul L 1)) (.fail 439) fun val => bif decide (0 ≤ i) then bif Nat.blt (Int.toNat i) n then Option.casesOn (r b (Nat.add (Nat.add off (Nat.mul (Int.toNat i) 2)) 1)) (.fail 423) fun val_1 => bif isI IntKind.i64 val_1 then bif Nat.blt (Int.toNat (Int.ofNat L)) (Nat.add L 1) then bif Nat.blt (Nat.add 0 (Nat.mul (Int.toNat (Int.ofNat L)) 1)) (List.length (val ++ [I (Int.ofNat 0)])) then bif decide (0 ≤ i) then bif Nat.blt (Int.toNat i) n then bif Nat.blt (Nat.add 0 (Nat.mul (Int.toNat i) 1)) (List.length c1) then bif m_nns (List.set c1 (Nat.add 0 (Nat.mul (Int.toNat i) 1)) (I (Int.ofNat L))) && (m_nns c2 && (m_nns [.slice (some ⟨b, off, some 0⟩) n cap] && (m_nns (List.set (val ++ [I (Int.ofNat 0)]) (Nat.add 0 (Nat.mul (Int.toNat (Int.ofNat L)) 1)) (I (ofI val_1))) && true))) then K [some (.slice (some ⟨0, 0, none⟩) n n), some (.slice (some ⟨1, 0, none⟩) n n), some (.pointer (some ⟨2, 0, none⟩)), some (I (Int.ofNat n)), some (I (IntKind.wrap .i64 (Int.ofNat k + Int.ofNat 1))), some (.slice (some ⟨3, 0, none⟩) (Nat.add L 1) unk)] [] [some (.cells (List.set c1 (Nat.add 0 (Nat.mul (Int.toNat i) 1)) (I (Int.ofNat L))) 3 0 1), some (.cells c2 3 1 1), some (.cells [.slice (some ⟨b, off, some 0⟩) n cap] 49 2 0), some (.cells (List.set (val ++ [I (Int.ofNat 0)]) (Nat.add 0 (Nat.mul (Int.toNat (Int.ofNat L)) 1)) (I (ofI val_1))) 3 3 1)] else .fail 420 else .fail 420 else .fail 420 else .fail 420 else .fail 420 else .fail 420 else .fail 420 else .fail 420 else .fail 420 else .fail 420 else bif decide (0 ≤ i) then bif Nat.blt (Int.toNat i) n then Option.casesOn (r b (Nat.add (Nat.add off (Nat.mul (Int.toNat i) 2)) 1)) (.fail 423) fun val => bif isI IntKind.i64 val then bif decide (0 ≤ v) then bif Nat.blt (Int.toNat v) L then bif Nat.blt (Nat.add 0 (Nat.mul (Int.toNat v) 1)) (List.length e) then bif decide (0 ≤ i) then bif Nat.blt (Int.toNat i) n then bif Nat.blt (Nat.add 0 (Nat.mul (Int.toNat i) 1)) (List.length c1) then bif m_nns (List.set c1 (Nat.add 0 (Nat.mul (Int.toNat i) 1)) (I v)) && (m_nns c2 && (m_nns [.slice (some ⟨b, off, some 0⟩) n cap] && (m_nns (List.set e (Nat.add 0 (Nat.mul (Int.toNat v) 1)) (I (ofI val))) && true))) then K [some (.slice (some ⟨0, 0, none⟩) n n), some (.slice (some ⟨1, 0, none⟩) n n), some (.pointer (some ⟨2, 0, none⟩)), some (I (Int.ofNat n)), some (I (IntKind.wrap .i64 (Int.ofNat k + Int.ofNat 1))), some (.slice (some ⟨3, 0, none⟩) L unk)] [] [some (.cells (List.set c1 (Nat.add 0 (Nat.mul (Int.toNat i) 1)) (I v)) 3 0 1), some (.cells c2 3 1 1), some (.cells [.slice (some ⟨b, off, some 0⟩) n cap] 49 2 0), some (.cells (List.set e (Nat.add 0 (Nat.mul (Int.toNat v) 1)) (I (ofI val))) 3 3 1)] else .fail 420 else .fail 420 else .fail 420 else .fail 420 else .fail 420 else .fail 420 else .fail 420 else .fail 420 else .fail 420 else .fail 420 else .fail 420 else .fail 420 else .fail 420 else bif m_nns c1 && true then KX 0 [some (.slice (some ⟨0, 0, none⟩) n n)] [] [some (.cells c1 3 0 1)] else .fail 420 := by kernel_rfl

theorem btZ (r : Mem) (n : Nat) (c : List Value) (fs : FnsC) (K KR : OV → List Nat → OO → CR) (kx : Nat → KS) : run (SC r) 28895 42 1 BT_5 fs none (rbK 0 [2] [] K) kx (rbK 0 [2] [] KR) [] (bT [3] [some (ow 0 n)] .nil) [] (mkA [oIn c 0]) =
    bif m_nns c && true then KR [some (.slice (some ⟨0, 0, none⟩) n n)] [] [some (.cells c 3 0 1)] else .fail 420 := by kernel_rfl

theorem ixA (r : Mem) (L : Nat) (c1 c2 e : List Value) (sl : Value) (i : Int) (fs : FnsC) (K : OV → List Nat → OO → CR) (kx : Nat → KS) (kr : KS) : run (SC r) 435 19 1 (.seq IX_0 IX_1) fs none (rbK 5 lvIX [] K) kx kr (sc0 435 [gw 3 L, fB1 2 4]) (tr0 435 [gw 3 L, fB1 2 4]) [] (mkA (oB5 c1 c2 sl e i)) =
    bif m_nns c1 && (m_nns c2 && (m_nns [sl] && (m_nns e && (m_nns [I i] && true)))) then K [some (.slice (some ⟨3, 0, none⟩) L unk), some (.func (Fn.func 38) ⟨[]⟩ ⟨[.pointer (some ⟨2, 0, none⟩), .pointer (some ⟨4, 0, none⟩)]⟩), some (I (Int.ofNat L)), some (I (Int.ofNat 0))] [] [some (.cells c1 3 0 1), some (.cells c2 3 1 1), some (.cells [sl] 49 2 0), some (.cells e 3 3 1), some (.cells [I i] 3 4 0)] else .fail 420 := by kernel_rfl

theorem ixB (r : Mem) (b off n cap L k j : Nat) (c1 c2 e : List Value) (K : OV → List Nat → OO → CR) (KX : Nat → OV → List Nat → OO → CR) (KR : OV → List Nat → OO → CR) : run (SC r) 435 19 1 IX_2 (lvlT (SC r) (fun _ => none) .nil 1 3) none (rbK 5 lvIX [] K) (fun j => rbK 5 [] [] (KX j)) (rbK 5 [4] [] KR) [] (bT lvIX (vIX L k) .nil) [] (mkA (oB5 c1 c2 (RS2 b off n cap) e (j : Nat))) =
    bif decide (Int.ofNat k < Int.ofNat L) then bif Nat.blt (Int.toNat (Int.ofNat k)) L then Option.casesOn e[Nat.add 0 (Nat.mul (Int.toNat (Int.ofNat k)) 1)]? (.fail 423) fun val => bif isI IntKind.i64 val then bif Nat.blt (Int.toNat (Int.ofNat j)) n then Option.casesOn (r b (Nat.add (Nat.add off (Nat.mul (Int.toNat (Int.ofNat j)) 2)) 0)) (.fail 423) fun val_1 => bif isI IntKind.i64 val_1 then bif decide (ofI val < ofI val_1) then bif m_nns c1 && (m_nns c2 && (m_nns [.slice (some ⟨b, off, some 0⟩) n cap] && (m_nns e && (m_nns [I (Int.ofNat j)] && true)))) then KR [some (I (Int.ofNat k))] [] [some (.cells c1 3 0 1), some (.cells c2 3 1 1), some (.cells [.slice (some ⟨b, off, some 0⟩) n cap] 49 2 0), some (.cells e 3 3 1), some (.cells [I (Int.ofNat j)] 3 4 0)] else .fail 420 else bif m_nns c1 && (m_nns c2 && (m_nns [.slice (some ⟨b, off, some 0⟩) n cap] && (m_nns e && (m_nns [I (Int.ofNat j)] && true)))) then K [some (.slice (some ⟨3, 0, none⟩) L unk), some (.func (Fn.func 38) ⟨[]⟩ ⟨[.pointer (some ⟨2, 0, none⟩), .pointer (some ⟨4, 0, none⟩)]⟩), some (I (Int.ofNat L)), some (I (IntKind.wrap .i64 (Int.ofNat k + Int.ofNat 1)))] [] [some (.cells c1 3 0 1), some (.cells c2 3 1 1), some (.cells [.slice (some ⟨b, off, some 0⟩) n cap] 49 2 0), some (.cells e 3 3 1), some (.cells [I (Int.ofNat j)] 3 4 0)] else .fail 420 else .fail 420 else .fail 420 else .fail 420 else .fail 420 else bif m_nns c1 && (m_nns c2 && (m_nns [.slice (some ⟨b, off, some 0⟩) n cap] && (m_nns e && (m_nns [I (Int.ofNat j)] && true)))) then KX 0 [] [] [some (.cells c1 3 0 1), some (.cells c2 3 1 1), some (.cells [.slice (some ⟨b, off, some 0⟩) n cap] 49 2 0), some (.cells e 3 3 1), some (.cells [I (Int.ofNat j)] 3 4 0)] else .fail 420 := by kernel_rfl

theorem ixC (r : Mem) (c1 c2 e : List Value) (sl : Value) (i : Int) (fs : FnsC) (K KR : OV → List Nat → OO → CR) (kx : Nat → KS) : run (SC r) 435 19 1 IX_3 fs none (rbK 5 [4] [] K) kx (rbK 5 [4] [] KR) [] (bT [] [] .nil) [] (mkA (oB5 c1 c2 sl e i)) =
    bif m_nns c1 && (m_nns c2 && (m_nns [sl] && (m_nns e && (m_nns [I i] && true)))) then KR [some (I (Int.negSucc 0))] [] [some (.cells c1 3 0 1), some (.cells c2 3 1 1), some (.cells [sl] 49 2 0), some (.cells e 3 3 1), some (.cells [I i] 3 4 0)] else .fail 420 := by kernel_rfl

end Go.Proofs

/- Boats for intervals: what the calls answer. -/
namespace Go.Proofs
open Go Go.Ev Go.Num
set_option linter.unusedVariables false
set_option linter.unusedSimpArgs false
set_option maxRecDepth 100000

def m_ix (A : Nat → Int) (e : List Int) (i : Nat) : Int := match fq (fun f => decide (e.getD f 0 < A i)) e.length with
 | some f => (f : Nat)
 | none => -1
def bts (s : PkS) (n : Nat) : List Value := ixN (fun j => (s.boat j : Nat)) n
theorem bts_set (A B : Nat → Int) (s : PkS) (n i : Nat) {v : Int} (hv : v = (pkF A s.ends i : Nat)) : (bts s n).set i (I v) = bts (pkN A B s i) n := by
 unfold bts
 rw [ix_set]
 refine ix_ext fun j hj => ?_
 subst hv
 show _ = (((if j = i then pkF A s.ends i else s.boat j) : Nat) : Int)
 split <;> rfl
theorem pkL_snoc (A B : Nat → Int) : ∀ (p : List Nat) (s : PkS) (i : Nat), pkL A B s (p ++ [i]) = pkN A B (pkL A B s p) i
 | [], _, _ => rfl
 | x :: p, s, i => pkL_snoc A B p (pkN A B s x) i

section
variable {r : Mem} {b off n cap : Nat} {z : Nat → Int}

theorem row_a0 (hz : rowAt r b off (2 * n) z) {i : Nat} (h : i < n) : r b (Nat.add (Nat.add off (Nat.mul i 2)) 0) = some (I (ea z i)) := row_a hz h
theorem row_b1 (hz : rowAt r b off (2 * n) z) {i : Nat} (h : i < n) : r b (Nat.add (Nat.add off (Nat.mul i 2)) 1) = some (I (eb z i)) := row_b hz h

theorem ix_S (hz : rowAt r b off (2 * n) z) {i : Nat} (hi : i < n) {c1 c2 : List Value} (h1 : m_nns c1 = true) (h2 : m_nns c2 = true) {e : List Int} (he : e.length ≤ 1000000) : SOk (SC r) 37 [gw 3 e.length, fB1 2 4] (mkA (oB5 c1 c2 (RS2 b off n cap) (rowI e) (i : Nat))) fun v A => v = I (m_ix (ea z) e i) ∧ A = mkA (oB5 c1 c2 (RS2 b off n cap) (rowI e) (i : Nat)) := by
 have e9 : m_nns [RS2 b off n cap] = true := rfl
 have e8 : m_nns [I (i : Nat)] = true := rfl
 refine callL (SC_ok r) (by kernel_rfl) ((bodySC r _).trans IX_eq) (nt := 19) (by kernel_rfl) (rs := [.tmp 4]) (by kernel_rfl) 435 rfl (.step .base) TOk.nil (tm := .nil) (L := 1) (d := 1) lvIX []
  (fun j vs ms os => ∃ k, k ≤ e.length ∧ j = e.length - k ∧ (∀ f, f < k → decide (e.getD f 0 < ea z i) = false) ∧ vs = vIX e.length k ∧ ms = [] ∧ os = oB5 c1 c2 (RS2 b off n cap) (rowI e) (i : Nat))
  ⟨[], [], fun vs ms os => (∀ f, f < e.length → decide (e.getD f 0 < ea z i) = false) ∧ vs = [] ∧ ms = [] ∧ os = oB5 c1 c2 (RS2 b off n cap) (rowI e) (i : Nat)⟩
  ⟨[4], [], fun vs ms os => vs = [some (I (m_ix (ea z) e i))] ∧ ms = [] ∧ os = oB5 c1 c2 (RS2 b off n cap) (rowI e) (i : Nat)⟩ ?_ ?_ ?_ ?_
 ·have hn' := ixA r e.length c1 c2 (rowI e) (RS2 b off n cap) (i : Nat)
  simp only [h1, h2, rowI_nn, e9, e8, Bool.and_true, cond_true] at hn'
  exact (hn' _ _ _ _).trans (qq_ok ⟨e.length, 0, Nat.zero_le _, rfl, fun f h => absurd h (by omega), rfl, rfl, rfl⟩)
 ·rintro j vs ms os ⟨k, hk, rfl, hf, rfl, rfl, rfl⟩
  refine ⟨_, TOk.nil, .nil, 1, 1, 3, ?_⟩
  have hn' := ixB r b off n cap e.length k i c1 c2 (rowI e)
  simp only [Int.ofNat_eq_natCast, Int.toNat_natCast] at hn'
  simp only [h1, h2, rowI_nn, e9, e8, Bool.and_true, cond_true] at hn'
  by_cases c : k < e.length
  ·have c1 : (k : Int) < (e.length : Int) := by omega
   have c3 : Nat.blt k e.length = true := Nat.ble_eq_true_of_le (by omega)
   have c4 : Nat.blt i n = true := Nat.ble_eq_true_of_le (by omega)
   have e3 := inc1' (k := k) (by omega)
   have e4 : (rowI e)[Nat.add 0 (Nat.mul k 1)]? = some (I (e.getD k 0)) := by rw [Nat.add_eq, Nat.mul_eq, Nat.zero_add, Nat.mul_one]; exact rowI_get c
   simp only [Int.ofNat_eq_natCast] at e3
   simp only [dT c1, c3, c4, cond_true, e3, e4, row_a0 hz hi, isI_I] at hn'
   dsimp +instances only [ofI_I] at hn'
   by_cases d : e.getD k 0 < ea z i
   ·simp only [dT d, cond_true] at hn'
    exact (hn' _ _ _).trans (qq_ok ⟨by unfold m_ix; rw [fq_some hf (dT d) c], rfl, rfl⟩)
   ·simp only [dF d, cond_false] at hn'
    exact (hn' _ _ _).trans (qq_ok ⟨e.length - (k + 1), by omega, k + 1, c, rfl, fun f hf' => by
     by_cases q : f = k
     ·subst q; exact dF d
     ·exact hf f (by omega), rfl, rfl, rfl⟩)
  ·have hkl : k = e.length := by omega
   subst hkl
   have c1 : ¬ (e.length : Int) < (e.length : Int) := by omega
   simp only [dF c1, cond_false] at hn'
   exact (hn' _ _ _).trans (qq_ok ⟨hf, rfl, rfl, rfl⟩)
 ·rintro vs ms os ⟨hf, rfl, rfl, rfl⟩
  have hn' := ixC r c1 c2 (rowI e) (RS2 b off n cap) (i : Nat)
  simp only [h1, h2, rowI_nn, e9, e8, Bool.and_true, cond_true] at hn'
  exact ⟨_, TOk.nil, .nil, 1, 1, 1, (hn' _ _ _ _).trans (qq_ok ⟨by unfold m_ix; rw [fq_none hf]; rfl, rfl, rfl⟩)⟩
 ·rintro vs ms os ⟨rfl, rfl, rfl⟩
  exact ⟨_, mkA (oB5 c1 c2 (RS2 b off n cap) (rowI e) (i : Nat)), by kernel_rfl, rfl, rfl⟩

theorem tBL_ok (hz : rowAt r b off (2 * n) z) (h1 : 1 ≤ n) (hn : n ≤ 1000000) : TOk (SC r) (tBL (RS2 b off n cap) n (pkCR z n)) := TOk.nil.cons fun args A hgd F hF k γ W args' hw hR ha => by
 refine ⟨fun hcc => ?_, fun h => nomatch h⟩
 have hs := @of_decide_eq_true _ (Classical.propDecidable _) hgd
 subst hs
 have hg : GrM Tryd.prog r 36 [RS2 b off n cap] (ow 0 n) (rowA (pkCR z n) 3 1) := GrM.ofS (C := SC r) rfl rfl (bl_S hz h1 hn)
 have hof : ofV 0 (ow 0 n) = true := by simp [ofV, of1]
 exact hg.ends (γ := γ) (A := A) hof (pkCR_gnd _ _) hF hw (hR.noG noG fun _ => rfl) (ha.of_ros rfl) ha
end

end Go.Proofs

/- Boats for intervals: the whole. -/
namespace Go.Proofs
open Go Go.Ev Go.Num
set_option linter.unusedVariables false
set_option linter.unusedSimpArgs false
set_option maxRecDepth 100000

section
variable {r : Mem} {b off n cap : Nat} {z : Nat → Int}

def pkS0 : PkS := ⟨[], fun _ => 0⟩
def pkSk (z : Nat → Int) (n k : Nat) : PkS := pkL (ea z) (eb z) pkS0 ((srtV (ea z) n).take k)
def vEn (e : List Int) : Value := match e with
 | [] => .slice none 0 0
 | _ => gw 3 e.length
def oEn (e : List Int) : OO := match e with
 | [] => []
 | _ => [oIn (rowI e) 3]
theorem srtV_len (A : Nat → Int) (n : Nat) : (srtV A n).length = n := by rw [(srtV_perm A n).length_eq, List.length_range]
theorem srtV_lt (A : Nat → Int) (n k : Nat) (h : k < n) : (srtV A n).getD k 0 < n := by
 have h1 : k < (srtV A n).length := by rw [srtV_len]; exact h
 have := ((srtV_perm A n).mem_iff (a := (srtV A n).getD k 0)).1 (by
  rw [List.getD_eq_getElem?_getD, List.getElem?_eq_getElem h1]
  exact List.getElem_mem h1)
 exact List.mem_range.1 this
theorem pkSk_next (z : Nat → Int) {n k : Nat} (h : k < n) : pkSk z n (k + 1) = pkN (ea z) (eb z) (pkSk z n k) ((srtV (ea z) n).getD k 0) := by
 unfold pkSk
 have h1 : k < (srtV (ea z) n).length := by rw [srtV_len]; exact h
 rw [List.take_add_one, List.getElem?_eq_getElem h1, List.getD_eq_getElem?_getD, List.getElem?_eq_getElem h1]
 exact pkL_snoc _ _ _ _ _
theorem pkE_le (A B : Nat → Int) (e : List Int) (i : Nat) : (pkE A B e i).length ≤ e.length + 1 := by
 rw [pkE_len]
 split <;> omega
theorem pkSk_le (z : Nat → Int) (n : Nat) : ∀ k, k ≤ n → (pkSk z n k).ends.length ≤ k
 | 0, _ => Nat.le_refl _
 | k + 1, h => by
  rw [pkSk_next z (by omega)]
  have := pkSk_le z n k (by omega)
  have := pkE_le (ea z) (eb z) (pkSk z n k).ends ((srtV (ea z) n).getD k 0)
  show (pkE (ea z) (eb z) (pkSk z n k).ends ((srtV (ea z) n).getD k 0)).length ≤ k + 1
  omega
theorem bts_nn (s : PkS) (n : Nat) : m_nns (bts s n) = true := ix_nn _ _
theorem pkCR_get (z : Nat → Int) {n k : Nat} (h : k < n) : (pkCR z n)[Nat.add 0 (Nat.mul k 1)]? = some (I ((srtV (ea z) n).getD k 0 : Nat)) := by
 have h1 : k < (srtV (ea z) n).length := by rw [srtV_len]; exact h
 rw [Nat.add_eq, Nat.mul_eq, Nat.zero_add, Nat.mul_one]
 unfold pkCR
 rw [List.getElem?_map, List.getD_eq_getElem?_getD, List.getElem?_eq_getElem h1]
 rfl

def bSt (sl : Value) (z : Nat → Int) (n : Nat) (s : PkS) : OO := [oIn (bts s n) 0, oIn (pkCR z n) 1, oBx sl 2] ++ oEn s.ends
theorem oEn_ne {e : List Int} (h : 1 ≤ e.length) : oEn e = [oIn (rowI e) 3] := by
 cases e with
 | nil => simp at h
 | cons x e => rfl
theorem vEn_ne {e : List Int} (h : 1 ≤ e.length) : vEn e = gw 3 e.length := by
 cases e with
 | nil => simp at h
 | cons x e => rfl

theorem bt_nil (hz : rowAt r b off (2 * n) z) {k i : Nat} (hn : n ≤ 1000) (c : k < n) (hi : i < n) (hg : (pkCR z n)[Nat.add 0 (Nat.mul k 1)]? = some (I (i : Nat))) {s : PkS} (hs : s.ends = []) (K : OV → List Nat → OO → CR) (KX : Nat → OV → List Nat → OO → CR) (kr : KS) :
  run (SC r) 28895 42 1 BT_4 (lvlT (SC r) (fun _ => none) .nil 1 3) none (rbK 0 lvBT [] K) (fun j => rbK 0 [3] [] (KX j)) kr [] (bT lvBT (vBT n k (vEn s.ends)) .nil) [] (mkA (bSt (RS2 b off n cap) z n s)) =
   K (vBT n (k + 1) (vEn (pkE (ea z) (eb z) s.ends i))) [] (bSt (RS2 b off n cap) z n (pkN (ea z) (eb z) s i)) := by
 have e9 : m_nns [RS2 b off n cap] = true := rfl
 have e8 : ∀ x : Int, m_nns [I x] = true := fun x => rfl
 have c4 : Nat.blt i n = true := Nat.ble_eq_true_of_le hi
 have e3 := inc1' (k := k) (by omega)
 have ebl : Nat.blt (Nat.add 0 (Nat.mul i 1)) (bts s n).length = Nat.blt i n := by unfold bts; rw [ix_len, Nat.add_eq, Nat.mul_eq, Nat.zero_add, Nat.mul_one]
 have h0i : (0 : Int) ≤ (i : Nat) := by omega
 simp only [Int.ofNat_eq_natCast] at e3
 have hn' := btN r b off n cap k (bts s n) (pkCR z n)
 have c1 : (k : Int) < (n : Int) := by omega
 have c3 : Nat.blt k n = true := Nat.ble_eq_true_of_le (by omega)
 have hF : pkF (ea z) s.ends i = 0 := by rw [hs]; rfl
 simp only [Int.ofNat_eq_natCast, Int.toNat_natCast] at hn'
 simp only [bts_nn, pkCR_nn, e9, e8, Bool.and_true] at hn'
 simp only [dT c1, c3, cond_true, e3, hg, isI_I] at hn'
 dsimp +instances only [ofI_I] at hn'
 simp only [Int.toNat_natCast] at hn'
 simp only [dT h0i, c4, ebl, row_b1 hz hi, isI_I, cond_true] at hn'
 dsimp +instances only [ofI_I] at hn'
 simp only [Nat.add_eq, Nat.mul_eq, Nat.zero_add, Nat.mul_one] at hn'
 simp only [bts_set (ea z) (eb z) s n i (v := ((0 : Nat) : Int)) (by rw [hF]), bts_nn, cond_true] at hn'
 unfold bSt
 rw [show (pkN (ea z) (eb z) s i).ends = pkE (ea z) (eb z) s.ends i from rfl, hs]
 exact hn' K KX kr

theorem bt_none (hz : rowAt r b off (2 * n) z) {k i : Nat} (hn : n ≤ 1000) (c : k < n) (hi : i < n) (hg : (pkCR z n)[Nat.add 0 (Nat.mul k 1)]? = some (I (i : Nat))) {s : PkS} (hp : 1 ≤ s.ends.length) (hl : s.ends.length ≤ k) (hv : m_ix (ea z) s.ends i = -1) (hF : pkF (ea z) s.ends i = s.ends.length) (K : OV → List Nat → OO → CR) (KX : Nat → OV → List Nat → OO → CR) (kr : KS) :
  run (SC r) 28895 42 1 BT_4 (lvlT (SC r) (tIX s.ends.length (mkA (oB5 (bts s n) (pkCR z n) (RS2 b off n cap) (rowI s.ends) (i : Nat))) (m_ix (ea z) s.ends i)) .nil 1 3) none (rbK 0 lvBT [] K) (fun j => rbK 0 [3] [] (KX j)) kr [] (bT lvBT (vBT n k (vEn s.ends)) .nil) [] (mkA (bSt (RS2 b off n cap) z n s)) =
   K (vBT n (k + 1) (vEn (pkE (ea z) (eb z) s.ends i))) [] (bSt (RS2 b off n cap) z n (pkN (ea z) (eb z) s i)) := by
 have e9 : m_nns [RS2 b off n cap] = true := rfl
 have c4 : Nat.blt i n = true := Nat.ble_eq_true_of_le hi
 have e3 := inc1' (k := k) (by omega)
 have ebl : Nat.blt i (bts s n).length = Nat.blt i n := by unfold bts; rw [ix_len]
 have h0i : (0 : Int) ≤ (i : Nat) := by omega
 simp only [Int.ofNat_eq_natCast] at e3
 have c1 : (k : Int) < (n : Int) := by omega
 have c3 : Nat.blt k n = true := Nat.ble_eq_true_of_le (by omega)
 have hn' := btR r b off n cap k s.ends.length (bts s n) (pkCR z n) (rowI s.ends) (i : Nat) (m_ix (ea z) s.ends i)
 rw [hv] at hn' ⊢
 have d1 : (-1 : Int) < 0 := by omega
 have g1 : Nat.ble (s.ends.length + 1) 1000000 = true := Nat.ble_eq_true_of_le (by omega)
 have g2 : takeAt (rowI s.ends) 0 s.ends.length = some (rowI s.ends) := takeL_row _ _ (rowI_len _)
 have g3 : Nat.blt s.ends.length (s.ends.length + 1) = true := Nat.ble_eq_true_of_le (by omega)
 have g4 : Nat.blt s.ends.length (rowI s.ends ++ [I ((0 : Nat) : Int)]).length = true := by rw [List.length_append, rowI_len]; exact g3
 have g5 : (rowI s.ends ++ [I ((0 : Nat) : Int)]).set s.ends.length (I (eb z i)) = rowI (s.ends ++ [eb z i]) := by rw [rowI_app, rowI_set, app_set]
 simp only [Int.ofNat_eq_natCast, Int.toNat_natCast] at hn'
 simp only [dT c1, c3, cond_true, e3, hg, isI_I] at hn'
 dsimp +instances only [ofI_I] at hn'
 simp only [at_rfl, cond_true, dT d1, dT h0i, c4, row_b1 hz hi, isI_I] at hn'
 dsimp +instances only [ofI_I] at hn'
 simp only [Nat.add_eq, Nat.mul_eq, Nat.zero_add, Nat.mul_one] at hn'
 simp only [cond_true, g1, g2, g3, g4, g5, c4, ebl, bts_set (ea z) (eb z) s n i (v := (s.ends.length : Int)) (by rw [hF]), bts_nn, pkCR_nn, e9, rowI_nn, Bool.and_true] at hn'
 unfold bSt
 rw [show (pkN (ea z) (eb z) s i).ends = pkE (ea z) (eb z) s.ends i from rfl, show pkE (ea z) (eb z) s.ends i = s.ends ++ [eb z i] from if_pos hF, vEn_ne hp, oEn_ne hp, vEn_ne (e := s.ends ++ [eb z i]) (by simp), oEn_ne (e := s.ends ++ [eb z i]) (by simp), List.length_append]
 exact hn' K KX kr

theorem bt_some (hz : rowAt r b off (2 * n) z) {k i f : Nat} (hn : n ≤ 1000) (c : k < n) (hi : i < n) (hg : (pkCR z n)[Nat.add 0 (Nat.mul k 1)]? = some (I (i : Nat))) {s : PkS} (hp : 1 ≤ s.ends.length) (hf : f < s.ends.length) (hv : m_ix (ea z) s.ends i = (f : Nat)) (hF : pkF (ea z) s.ends i = f) (K : OV → List Nat → OO → CR) (KX : Nat → OV → List Nat → OO → CR) (kr : KS) :
  run (SC r) 28895 42 1 BT_4 (lvlT (SC r) (tIX s.ends.length (mkA (oB5 (bts s n) (pkCR z n) (RS2 b off n cap) (rowI s.ends) (i : Nat))) (m_ix (ea z) s.ends i)) .nil 1 3) none (rbK 0 lvBT [] K) (fun j => rbK 0 [3] [] (KX j)) kr [] (bT lvBT (vBT n k (vEn s.ends)) .nil) [] (mkA (bSt (RS2 b off n cap) z n s)) =
   K (vBT n (k + 1) (vEn (pkE (ea z) (eb z) s.ends i))) [] (bSt (RS2 b off n cap) z n (pkN (ea z) (eb z) s i)) := by
 have e9 : m_nns [RS2 b off n cap] = true := rfl
 have c4 : Nat.blt i n = true := Nat.ble_eq_true_of_le hi
 have e3 := inc1' (k := k) (by omega)
 have ebl : Nat.blt i (bts s n).length = Nat.blt i n := by unfold bts; rw [ix_len]
 have h0i : (0 : Int) ≤ (i : Nat) := by omega
 simp only [Int.ofNat_eq_natCast] at e3
 have c1 : (k : Int) < (n : Int) := by omega
 have c3 : Nat.blt k n = true := Nat.ble_eq_true_of_le (by omega)
 have hn' := btR r b off n cap k s.ends.length (bts s n) (pkCR z n) (rowI s.ends) (i : Nat) (m_ix (ea z) s.ends i)
 rw [hv] at hn' ⊢
 have d1 : ¬ ((f : Nat) : Int) < 0 := by omega
 have d2 : (0 : Int) ≤ (f : Nat) := by omega
 have g3 : Nat.blt f s.ends.length = true := Nat.ble_eq_true_of_le (by omega)
 have g4 : Nat.blt f (rowI s.ends).length = true := by rw [rowI_len]; exact g3
 simp only [Int.ofNat_eq_natCast, Int.toNat_natCast] at hn'
 simp only [dT c1, c3, cond_true, e3, hg, isI_I] at hn'
 dsimp +instances only [ofI_I] at hn'
 simp only [at_rfl, cond_true, cond_false, dF d1, dT d2, dT h0i, c4, row_b1 hz hi, isI_I] at hn'
 dsimp +instances only [ofI_I] at hn'
 simp only [Nat.add_eq, Nat.mul_eq, Nat.zero_add, Nat.mul_one] at hn'
 simp only [cond_true, g3, g4, c4, ebl, rowI_set, bts_set (ea z) (eb z) s n i (v := (f : Int)) (by rw [hF]), bts_nn, pkCR_nn, e9, rowI_nn, Bool.and_true] at hn'
 have hE2 : pkE (ea z) (eb z) s.ends i = s.ends.set f (eb z i) := by
  unfold pkE
  rw [if_neg (by omega), hF]
 unfold bSt
 rw [show (pkN (ea z) (eb z) s i).ends = pkE (ea z) (eb z) s.ends i from rfl, hE2, vEn_ne hp, oEn_ne hp, vEn_ne (e := s.ends.set f (eb z i)) (by rw [List.length_set]; exact hp), oEn_ne (e := s.ends.set f (eb z i)) (by rw [List.length_set]; exact hp), List.length_set]
 exact hn' K KX kr

theorem bt_S (hz : rowAt r b off (2 * n) z) (h1 : 1 ≤ n) (hn : n ≤ 1000) : SOk (SC r) 22 [RS2 b off n cap] emptyA fun v A => v = ow 0 n ∧ A = mkA [oIn (bts (pkSk z n n) n) 0] := by
 have e9 : m_nns [RS2 b off n cap] = true := rfl
 refine callL (SC_ok r) (by kernel_rfl) ((bodySC r _).trans BT_eq) (nt := 42) (by kernel_rfl) (rs := [.tmp 2]) (by kernel_rfl) 28895 rfl (.step (.step (.step .base))) (tBL_ok (cap := cap) hz h1 (by omega)) (tm := .nil) (L := 1) (d := 1) lvBT []
  (fun j vs ms os => ∃ k, k ≤ n ∧ j = n - k ∧ ∃ s, s = pkSk z n k ∧ vs = vBT n k (vEn s.ends) ∧ ms = [] ∧ os = bSt (RS2 b off n cap) z n s)
  ⟨[3], [], fun vs ms os => vs = [some (ow 0 n)] ∧ ms = [] ∧ os = [oIn (bts (pkSk z n n) n) 0]⟩
  ⟨[2], [], fun vs ms os => vs = [some (ow 0 n)] ∧ ms = [] ∧ os = [oIn (bts (pkSk z n n) n) 0]⟩ ?_ ?_ ?_ ?_
 ·have hn' := btA r b off n cap (pkCR z n)
  have c3 : Nat.ble n 1000000 = true := Nat.ble_eq_true_of_le (by omega)
  have c4 : Nat.ble n n = true := Nat.ble_eq_true_of_le (Nat.le_refl _)
  simp only [Int.ofNat_eq_natCast, Int.toNat_natCast, c3, c4, cond_true, sv_rfl] at hn'
  have e0 := ix_zero1 n
  simp only [Int.ofNat_eq_natCast] at e0
  simp only [e0, ix_nn, e9, pkCR_nn, Bool.and_true, cond_true] at hn'
  exact (hn' _ _ _).trans (qq_ok ⟨n, 0, Nat.zero_le _, rfl, _, rfl, rfl, rfl, rfl⟩)
 ·rintro j vs ms os ⟨k, hk, rfl, s, hs, rfl, rfl, rfl⟩
  have hle : s.ends.length ≤ k := by rw [hs]; exact pkSk_le z n k hk
  by_cases c : k < n
  ·have hi := srtV_lt (ea z) n k c
   have hg := pkCR_get z c
   have hnx := pkSk_next z c
   rw [← hs] at hnx
   generalize (srtV (ea z) n).getD k 0 = i at hi hg hnx
   have fin : qq (∃ j', j' < n - k ∧ ∃ k', k' ≤ n ∧ j' = n - k' ∧ ∃ s', s' = pkSk z n k' ∧ vBT n (k + 1) (vEn (pkE (ea z) (eb z) s.ends i)) = vBT n k' (vEn s'.ends) ∧ ([] : List Nat) = [] ∧ bSt (RS2 b off n cap) z n (pkN (ea z) (eb z) s i) = bSt (RS2 b off n cap) z n s') = okR :=
    qq_ok ⟨n - (k + 1), by omega, k + 1, c, rfl, _, rfl, by rw [hnx]; rfl, rfl, by rw [hnx]⟩
   by_cases h0 : s.ends = []
   ·exact ⟨_, TOk.nil, .nil, 1, 1, 3, (bt_nil hz hn c hi hg h0 _ _ _).trans fin⟩
   ·have hp : 1 ≤ s.ends.length := by
     cases h : s.ends with
     | nil => exact absurd h h0
     | cons => simp
    refine ⟨_, TOk.nil.cons (SOk.at (ix_S (cap := cap) hz hi (bts_nn s n) (pkCR_nn z n) (e := s.ends) (by omega))), .nil, 1, 1, 3, ?_⟩
    rcases fq_cases (fun f => decide (s.ends.getD f 0 < ea z i)) s.ends.length with ⟨hq, _⟩ | ⟨f, hq, hf, _⟩
    ·exact (bt_none hz hn c hi hg hp hle (by unfold m_ix; rw [hq]) (by unfold pkF; rw [hq]; rfl) _ _ _).trans fin
    ·exact (bt_some hz hn c hi hg hp hf (by unfold m_ix; rw [hq]) (by unfold pkF; rw [hq]; rfl) _ _ _).trans fin
  ·have hkl : k = n := by omega
   subst hkl
   have c1 : ¬ (k : Int) < (k : Int) := by omega
   cases hends : s.ends with
   | nil =>
    refine ⟨_, TOk.nil, .nil, 1, 1, 3, ?_⟩
    have hn' := btN r b off k cap k (bts s k) (pkCR z k)
    simp only [Int.ofNat_eq_natCast] at hn'
    simp only [dF c1, cond_false, bts_nn, Bool.and_true, cond_true] at hn'
    have hb : bSt (RS2 b off k cap) z k s = [oIn (bts s k) 0, oIn (pkCR z k) 1, oBx (RS2 b off k cap) 2] := by unfold bSt; rw [hends]; rfl
    have hv : vEn [] = .slice none 0 0 := rfl
    rw [hb, hv]
    exact (hn' _ _ _).trans (qq_ok ⟨rfl, rfl, by rw [← hs]; rfl⟩)
   | cons x e =>
    have hp : 1 ≤ s.ends.length := by rw [hends]; simp
    refine ⟨_, TOk.nil.cons (SOk.at (ix_S (i := 0) (cap := cap) hz (by omega) (bts_nn s k) (pkCR_nn z k) (e := s.ends) (by omega))), .nil, 1, 1, 3, ?_⟩
    have hn' := btR r b off k cap k s.ends.length (bts s k) (pkCR z k) (rowI s.ends) (0 : Nat) (m_ix (ea z) s.ends 0)
    simp only [Int.ofNat_eq_natCast] at hn'
    simp only [dF c1, cond_false, bts_nn, Bool.and_true, cond_true] at hn'
    have hb : bSt (RS2 b off k cap) z k s = [oIn (bts s k) 0, oIn (pkCR z k) 1, oBx (RS2 b off k cap) 2, oIn (rowI s.ends) 3] := by unfold bSt; rw [oEn_ne hp]; rfl
    rw [hb, ← hends, vEn_ne hp]
    exact (hn' _ _ _).trans (qq_ok ⟨rfl, rfl, by rw [← hs]; rfl⟩)
 ·rintro vs ms os ⟨rfl, rfl, rfl⟩
  have hn' := btZ r n (bts (pkSk z n n) n)
  simp only [bts_nn, Bool.and_true, cond_true] at hn'
  exact ⟨_, TOk.nil, .nil, 1, 1, 1, (hn' _ _ _ _).trans (qq_ok ⟨rfl, rfl, rfl⟩)⟩
 ·rintro vs ms os ⟨rfl, rfl, rfl⟩
  exact ⟨_, mkA [oIn (bts (pkSk z n n) n) 0], by kernel_rfl, rfl, rfl⟩
end

end Go.Proofs

