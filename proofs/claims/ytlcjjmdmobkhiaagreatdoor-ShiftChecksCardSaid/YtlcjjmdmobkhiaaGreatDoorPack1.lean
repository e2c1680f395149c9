/- What the claim is proved with, part 1: the evaluator and the contracts of the calls. -/
import Derived.Test.YtlcjjmdmobkhiaaGreatDoorSymBase
import Derived.Test.YtlcjjmdmobkhiaaGreatDoorEvMemOf
import Derived.Test.YtlcjjmdmobkhiaaGreatDoorRows
import Derived.FnData
import Derived.MakeChecks
import Derived.IntWalk
import Derived.Test.YtlcjjmdmobkhiaaGreatDoorEvRd
import Derived.Test.YtlcjjmdmobkhiaaGreatDoorEvOwn
import Derived.Test.YtlcjjmdmobkhiaaGreatDoorEvGp
/- The table of math/bits, as memory. -/
namespace Go.Proofs
open Go Go.Ev
set_option linter.unusedVariables false
set_option linter.unusedSimpArgs false

def u8s (l : List Nat) : List Value := l.map fun n => .int .u8 (Int.ofNat n)
def tab32 : List Nat := [0, 1, 28, 2, 29, 14, 24, 3, 30, 22, 20, 15, 25, 17, 4, 8, 31, 27, 13, 23, 21, 19, 16, 7, 26, 12, 18, 6, 11, 5, 10, 9]

def memL (l : List Value) : Nat → Option Value := fun j => l[j]?
def tabM : Mem := fun b j => match Nat.beq b 0 with
 | true => memL (u8s tab32) j
 | false => none

theorem _root_.Go.Ev.GrT.more {P : Program} {r r' : Mem} {f : Nat} {args : List Value} {v : Value} (h : GrT P r f args v) (hle : ∀ b j u, r b j = some u → r' b j = some u) : GrT P r' f args v :=
 ⟨h.1, fun F hF k W args' hR ha => h.2 F hF k W args' (fun b j u e => hR b j u (hle b j u e)) ha⟩

end Go.Proofs

/- What the listed package variables hold, as memory: from the row's premise to the memory that came in. -/
namespace Go.Proofs
open Go Go.Ev
set_option linter.unusedVariables false
set_option linter.unusedSimpArgs false

theorem tab_cells {H : Type} {enc : TypeId × Value → H} {P : Program} {w : World} {base fuel : Nat} {spare : Nat → Bool} {held : Bool} {t e : TypeId} {n : Nat} {k : IntKind} {cs : List Value} {l : List Int} {p : List MemPlace}
  (ht : P.underlying t = some (.array n e)) (he : P.underlying e = some (.int k)) (ce : P.cellsOf e = 1)
  (h : DataW.trod enc P w base spare held fuel t cs = some (.agg (l.map fun z => .lit (.int k z)), p)) : ∀ (j : Nat) (z : Int), l[j]? = some z → cs[j]? = some (Value.int k z) := by
 obtain ⟨xs, m, _, hx, _, hl, hel⟩ := DataW.trod_array ht h
 have h1 : l.map (fun z => (DataW.lit (.int k z) : DataW H)) = xs.map (·.1) := by
  have := congrArg Prod.fst hx
  simpa using this
 intro j z hz
 have hlen : l.length = xs.length := by
  have := congrArg List.length h1
  simpa using this
 have hj : j < l.length := (List.getElem?_eq_some_iff.1 hz).1
 have h3 := hel j (by omega)
 rw [ce, Nat.mul_one] at h3
 have hxj : xs[j]? = some xs[j] := List.getElem?_eq_getElem (by omega)
 rw [hxj] at h3
 obtain ⟨s, h4, h5, _⟩ := DataW.trod_int he h3
 have h6 : (l.map (fun z => (DataW.lit (.int k z) : DataW H)))[j]? = (xs.map (·.1))[j]? := by rw [h1]
 simp only [List.getElem?_map, hz, hxj, Option.map_some, h5, Option.some.injEq, DataW.lit.injEq, Lit.int.injEq, true_and] at h6
 subst h6
 have h7 := congrArg (fun l : List Value => l[0]?) h4
 simp only [List.getElem?_cons_zero] at h7
 rw [List.getElem?_take_of_lt (by omega), List.getElem?_drop] at h7
 simpa using h7

theorem tab_mem {P : Program} {w : World} {n : String} {g : Nat} {cs : Array Value} {k : IntKind} (hg : P.globalNamed n = some g) (hv : w.var? P n = some cs) {l : List Int} (h : ∀ (j : Nat) (z : Int), l[j]? = some z → cs.toList[j]? = some (Value.int k z)) :
  ∀ (j : Nat) (z : Int), l[j]? = some z → memOf w g j = some (Value.int k z) := fun j z hz => memOf_int (by
 rw [World.var?_cell hg hv j]
 have := h j z hz
 simpa using this)

theorem laid_32 {W : World} {g t f : Nat} {cs : Array Value} {p : List MemPlace} (a1 : Tryz.prog.globalNamed "math/bits.deBruijn32tab" = some g) (a2 : (Tryz.prog.globals[g]?).map (·.type) = some t) (a3 : W.var? Tryz.prog "math/bits.deBruijn32tab" = some cs)
  (a4 : DataW.trod (fun _ => ()) Tryz.prog W 0 (fun _ => true) false f t cs.toList = some (YtlcjjmdmobkhiaaGreatDoor.Rows.laid_math_bits_deBruijn32tab, p)) : ∀ j u, memL (u8s tab32) j = some u → memOf W 0 j = some u := by
 have hg : Tryz.prog.globalNamed "math/bits.deBruijn32tab" = some 0 := by kernel_rfl
 obtain rfl := Option.some.inj (hg.symm.trans a1)
 obtain rfl := Option.some.inj ((show (Tryz.prog.globals[0]?).map (·.type) = some 126 by kernel_rfl).symm.trans a2)
 have h1 := tab_cells (l := tab32.map Int.ofNat) (k := .u8) (t := 126) (n := 32) (e := 5) (by kernel_rfl) (by kernel_rfl) (by kernel_rfl) (a4.trans (by rfl))
 intro j u hu
 simp only [memL, u8s, List.getElem?_map, Option.map_eq_some_iff] at hu
 obtain ⟨z, hz, rfl⟩ := hu
 exact tab_mem hg a3 h1 j _ (by simp [List.getElem?_map, hz])

theorem laid_mem {W : World} {x : String × DataW Unit} (hx : x = ("math/bits.deBruijn32tab", YtlcjjmdmobkhiaaGreatDoor.Rows.laid_math_bits_deBruijn32tab)) (hL : laidMetH Tryz.prog [x] W) : ∀ b j u, tabM b j = some u → memOf W b j = some u := by
 subst hx
 rw [MakeChecks.laidMetH_plain _ _ _ (by kernel_rfl)] at hL
 obtain ⟨ps, ⟨g1, t1, c1, f1, p1, q1, a1, a2, a3, a4, _, _⟩, _⟩ := hL
 intro b j u h
 unfold tabM at h
 split at h
 ·rename_i hb
  have := Nat.eq_of_beq_eq_true hb
  subst this
  exact laid_32 a1 a2 a3 a4 j u h
 ·cases h

end Go.Proofs

/- A slice among the arguments: nil, or a row that came in (an empty one, too). -/
set_option linter.unusedVariables false
set_option linter.unusedSimpArgs false
namespace Go.Ev
open Go

inductive ArgRowT (r : Mem) (n : Nat) (p : Value → Prop) : Value → Prop
 | nil : ArgRowT r n p (.slice none 0 0)
 | row (b off len cap : Nat) (hl : len ≤ cap) (hc : cap ≤ maxLen) (h : ∀ i, i < cap * n → ∃ u, r b (off + i) = some u ∧ p u) : ArgRowT r n p (.slice (some ⟨b, off, some 0⟩) len cap)

theorem okWide_spot {P : Program} {w : World} {r : Go.Reach} {base : Nat} {t e : TypeId} {x : Addr} {len cap : Nat} (ht : P.underlying t = some (.slice e)) (h : Value.okWide P w r base t (.slice (some x) len cap)) : x.spot = none := by
 simp only [Value.okWide, ht, Cell.okWide, Cell.ok] at h
 exact h.2.2.2.1

section
variable {H : Type} {enc : TypeId × Value → H} {P : Program} {w : World} {base : Nat} {held : Bool}

theorem in_rowT {t e : TypeId} {n : Nat} {p : Value → Prop} {v : Value} {d : DataW H} {ps : List MemPlace} (hn : 0 < n) (ht : P.underlying t = some (.slice e)) (ce : P.cellsOf e = n) (hel : El enc P w base held e n p)
  {b0 : Nat} (hval : Value.okWide P w .any b0 t v) (h : DataW.Trod enc P w base (fun _ => true) held t v d ps) : ∃ u, VRel noG u v ∧ ArgRowT (memOf w) n p u := by
 obtain ⟨u, hu, hs⟩ := in_row hn ht ce hel hval h
 obtain ⟨a, len, cap, rfl⟩ := Go.WideShapes.okWide_slice ht hval
 cases hs with
 | nil => exact ⟨_, hu, .nil⟩
 | row b off len cap hl hc h => exact ⟨_, hu, .row b off len cap hl hc h⟩
 | empty =>
  obtain ⟨fuel, hf⟩ := h
  rcases Go.Deep.open_slice ht hf with ⟨h0, _⟩ | ⟨a', len', cap', m, n', D, Pl, h0, _, hl, hm, hmm, _, hx⟩
  ·simp [Value.cells] at h0
   obtain ⟨rfl, rfl, rfl⟩ := h0
   exact ⟨_, .sliceNil, .nil⟩
  ·simp [Value.cells] at h0
   obtain ⟨rfl, rfl, rfl⟩ := h0
   have hsp := okWide_spot ht hval
   obtain ⟨b, off, s⟩ := a'
   subst hsp
   have hlen : len = 0 := by
    cases hu with
    | sliceE => rfl
    | slice _ _ _ _ hg => cases hg
   subst hlen
   exact ⟨_, .sliceRo b off 0 0 0 cap (by decide) (Nat.zero_le _), .row b off 0 0 (Nat.le_refl _) (Nat.zero_le _) fun i hi => by omega⟩

end

end Go.Ev

/- Rules for loops. -/
set_option linter.unusedVariables false
set_option linter.unusedSimpArgs false
namespace Go.Proofs
open Go Go.Ev

theorem fnsSC (r : Mem) : (SC r).fns = S0.fns := by unfold SC Cfg.sym; rfl
theorem bodySC (r : Mem) (f : Nat) : bodyOf (SC r) f = bodyOf S0 f := by unfold bodyOf; rw [fnsSC]

theorem enterN {r : Mem} {t : Tbl} {ms : Tr Nat} {L d f m n : Nat} {args : List Value} {A : AW} {k : KV} {rs : List ResultVar} (c : Code) (hc : c = bodyOf S0 f) (hb : hasBody (SC r) f = true) (hn : ntm (SC r) f = n) (hm : maskFor ms f n = m) (hr : resOf (SC r) f = rs)
  (hl : Nat.ble args.length n = true) (ht : t f = none) :
  (lvlT (SC r) t ms L (d + 1)).call f args A k = run (SC r) m n L c (lvlT (SC r) t ms L d) none (finK (SC r) m rs k) kx242 (finK (SC r) m rs k) (sc0 m args) (tr0 m args) [] A := by
 rw [enter hb hn hm hr hl ht, bodySC, ← hc]

theorem fn_of {C : Cfg} {f : Nat} (h : hasBody C f = true) : ∃ fn, C.fns.get f = some fn ∧ fn.body = some (bodyOf C f) ∧ fn.ntmps = ntm C f ∧ fn.results.toList = resOf C f := by
 unfold hasBody at h
 unfold bodyOf ntm resOf
 split at h
 ·rename_i fn hfn
  split at h
  ·rename_i c hc
   exact ⟨fn, hfn, by simp only [hfn, hc], by simp only [hfn], by simp only [hfn]⟩
  ·cases h
 ·cases h

theorem seqA {C : Cfg} {m n L : Nat} (a b d : Code) : run C m n L (.seq a (.seq b d)) = run C m n L (.seq (.seq a b) d) := rfl

theorem run_while {C : Cfg} {m n L : Nat} {fs : FnsC} {ro : Option Nat} {kn : KS} {kx : Nat → KS} {kr : KS} (a b d : Code) (id : Nat) : run C m n L (.seq a (.seq (.block id (.loop b)) d)) fs ro kn kx kr =
  run C m n L a fs ro (cLoop (fun kl => run C m n L b fs ro kl (fun j => match Nat.beq j id with | true => run C m n L d fs ro kn kx kr | false => kx j) kr) L) kx kr := rfl
theorem run_while0 {C : Cfg} {m n L : Nat} {fs : FnsC} {ro : Option Nat} {kn : KS} {kx : Nat → KS} {kr : KS} (a b : Code) (id : Nat) : run C m n L (.seq a (.block id (.loop b))) fs ro kn kx kr =
  run C m n L a fs ro (cLoop (fun kl => run C m n L b fs ro kl (fun j => match Nat.beq j id with | true => kn | false => kx j) kr) L) kx kr := rfl

theorem run_pre {C : Cfg} {m n L : Nat} (a b d e : Code) : run C m n L (.seq a (.seq (.seq b d) e)) = run C m n L (.seq (.seq a b) (.seq d e)) := rfl

theorem beqD (a b : Int) : (a == b) = decide (a = b) := by by_cases h : a = b <;> simp [h]

theorem dT {p : Prop} [Decidable p] (h : p) : decide p = true := decide_eq_true h
theorem dF {p : Prop} [Decidable p] (h : ¬ p) : decide p = false := decide_eq_false h
theorem eqT {a b : Int} (h : a = b) : (a == b) = true := by simp [h]
theorem eqF {a b : Int} (h : a ≠ b) : (a == b) = false := by simp [h]
theorem neT {a b : Int} (h : a ≠ b) : (a != b) = true := by simp [h]
theorem neF {a b : Int} (h : a = b) : (a != b) = false := by simp [h]
theorem wrI {z : Int} (h : -9223372036854775808 ≤ z ∧ z ≤ 9223372036854775807) : IntKind.wrap .i64 z = z := IntWalk.i64_in z h

/- An entry for one call alone: these arguments, this world; what it answers, and the world behind it. -/
noncomputable def m_at (args args0 : List Value) (A A0 : AW) : Bool := @decide (args = args0 ∧ A = A0) (Classical.propDecidable _)
noncomputable def entAt (args0 : List Value) (A0 : AW) (v : Value) (A1 : AW) : Ent := ⟨fun args A => m_at args args0 A A0, fun _ _ => true, fun _ _ => v, fun _ _ => A1, fun _ _ => v, fun _ _ => A1⟩

theorem at_rfl (args : List Value) (A : AW) : m_at args args A A = true := @decide_eq_true _ (Classical.propDecidable _) ⟨rfl, rfl⟩

theorem entAt_ok {C : Cfg} {f : Nat} {args0 : List Value} {A0 : AW} {v : Value} {A1 : AW}
  (h : ∀ F, Wide F → ∀ k γ W args', WRel γ A0 W → Ro C.ro γ W → VsRel γ args0 (Array.toList args') → CallsIn F k C.P f args' W (Go.Ev.Ends γ W v A1)) : EOk C f (entAt args0 A0 v A1) := fun args A hg F hF k γ W args' hw hR ha => by
 obtain ⟨rfl, rfl⟩ := @of_decide_eq_true _ (Classical.propDecidable _) hg
 exact ⟨fun _ => h F hF k γ W args' hw hR ha, fun _ => h F hF k γ W args' hw hR ha⟩

theorem entAt_run {C : Cfg} (hC : C.Ok) {t : Tbl} (ht : TOk C t) (tm : Tr Nat) {f : Nat} {args0 : List Value} {A0 : AW} {v : Value} {A1 : AW} (h : ∃ L d, (lvlT C t tm L d).call f args0 A0 .ret = .ret v A1) : EOk C f (entAt args0 A0 v A1) :=
 entAt_ok fun F hF k γ W args' hw hR ha => by
  obtain ⟨L, d, hr⟩ := h
  have h1 := (lvlT_le (C := C) t tm L d).call _ _ _ _ _ _ hr
  cases hc : (lvlU C t tm L d).call f args0 A0 with
  | fail w => rw [hc] at h1; cases h1
  | ret u A' =>
   rw [hc] at h1
   cases h1
   exact (lvlU_ok hC ht tm L d).call γ A0 W f args0 args' v A1 hc hw hR ha F hF k

/- Entries of a table, by the shape of the arguments. -/
def eI2 (g : Int → Int → Bool) (v : Int → Int → Value) : Ent := ent (fun args _ => match args with | [.int .i64 a, .int .i64 b] => g a b | _ => false) (fun args _ => match args with | [.int .i64 a, .int .i64 b] => v a b | _ => undef)
def eI4 (g : Int → Int → Int → Int → Bool) (v : Int → Int → Int → Int → Value) : Ent := ent (fun args _ => match args with | [.int .i64 a, .int .i64 b, .int .i64 c, .int .i64 d] => g a b c d | _ => false) (fun args _ => match args with | [.int .i64 a, .int .i64 b, .int .i64 c, .int .i64 d] => v a b c d | _ => undef)
def eA2 (g : Int → Int → Bool) (v : Int → Int → Value) : Ent := ent (fun args _ => match args with | [.agg ⟨[.int .i64 a, .int .i64 b]⟩] => g a b | _ => false) (fun args _ => match args with | [.agg ⟨[.int .i64 a, .int .i64 b]⟩] => v a b | _ => undef)
def eI1 (g : Int → Bool) (v : Int → Value) : Ent := ent (fun args _ => match args with | [.int .i64 a] => g a | _ => false) (fun args _ => match args with | [.int .i64 a] => v a | _ => undef)
def eA1I (g : Int → Int → Int → Bool) (v : Int → Int → Int → Value) : Ent := ent (fun args _ => match args with | [.agg ⟨[.int .i64 a, .int .i64 b]⟩, .int .i64 c] => g a b c | _ => false) (fun args _ => match args with | [.agg ⟨[.int .i64 a, .int .i64 b]⟩, .int .i64 c] => v a b c | _ => undef)
def eAA (g : Int → Int → Int → Int → Bool) (v : Int → Int → Int → Int → Value) : Ent := ent (fun args _ => match args with | [.agg ⟨[.int .i64 a, .int .i64 b]⟩, .agg ⟨[.int .i64 c, .int .i64 d]⟩] => g a b c d | _ => false) (fun args _ => match args with | [.agg ⟨[.int .i64 a, .int .i64 b]⟩, .agg ⟨[.int .i64 c, .int .i64 d]⟩] => v a b c d | _ => undef)
def e0 (v : Value) : Ent := ent (fun args _ => match args with | [] => true | _ => false) (fun _ _ => v)

theorem eI2_ok {C : Cfg} {f : Nat} {g : Int → Int → Bool} {v : Int → Int → Value} (h : ∀ a b, g a b = true → GrT C.P C.ro f [I a, I b] (v a b)) : EOk C f (eI2 g v) := EOk.ent fun args A hg => by
 split at hg
 ·exact (h _ _ hg).ro rfl A
 ·cases hg
theorem eI4_ok {C : Cfg} {f : Nat} {g : Int → Int → Int → Int → Bool} {v : Int → Int → Int → Int → Value} (h : ∀ a b c d, g a b c d = true → GrT C.P C.ro f [I a, I b, I c, I d] (v a b c d)) : EOk C f (eI4 g v) := EOk.ent fun args A hg => by
 split at hg
 ·exact (h _ _ _ _ hg).ro rfl A
 ·cases hg
theorem eA2_ok {C : Cfg} {f : Nat} {g : Int → Int → Bool} {v : Int → Int → Value} (h : ∀ a b, g a b = true → GrT C.P C.ro f [.agg ⟨[I a, I b]⟩] (v a b)) : EOk C f (eA2 g v) := EOk.ent fun args A hg => by
 split at hg
 ·exact (h _ _ hg).ro rfl A
 ·cases hg
theorem eI1_ok {C : Cfg} {f : Nat} {g : Int → Bool} {v : Int → Value} (h : ∀ a, g a = true → GrT C.P C.ro f [I a] (v a)) : EOk C f (eI1 g v) := EOk.ent fun args A hg => by
 split at hg
 ·exact (h _ hg).ro rfl A
 ·cases hg
theorem eA1I_ok {C : Cfg} {f : Nat} {g : Int → Int → Int → Bool} {v : Int → Int → Int → Value} (h : ∀ a b c, g a b c = true → GrT C.P C.ro f [.agg ⟨[I a, I b]⟩, I c] (v a b c)) : EOk C f (eA1I g v) := EOk.ent fun args A hg => by
 split at hg
 ·exact (h _ _ _ hg).ro rfl A
 ·cases hg
theorem eAA_ok {C : Cfg} {f : Nat} {g : Int → Int → Int → Int → Bool} {v : Int → Int → Int → Int → Value} (h : ∀ a b c d, g a b c d = true → GrT C.P C.ro f [.agg ⟨[I a, I b]⟩, .agg ⟨[I c, I d]⟩] (v a b c d)) : EOk C f (eAA g v) := EOk.ent fun args A hg => by
 split at hg
 ·exact (h _ _ _ _ hg).ro rfl A
 ·cases hg
theorem e0_ok {C : Cfg} {f : Nat} {v : Value} (h : GrT C.P C.ro f [] v) : EOk C f (e0 v) := EOk.ent fun args A hg => by
 split at hg
 ·exact h.ro rfl A
 ·cases hg

end Go.Proofs

/- Edges of a graph, as numbers in a row. -/
set_option linter.unusedVariables false
set_option linter.unusedSimpArgs false
namespace Go.Num

def ea (z : Nat → Int) (i : Nat) : Int := z (2 * i)
def eb (z : Nat → Int) (i : Nat) : Int := z (2 * i + 1)
def okAt (n : Int) (z : Nat → Int) (i : Nat) : Bool :=
 decide (0 ≤ ea z i) && decide (ea z i < eb z i) && decide (eb z i < n) && (i == 0 || decide (ea z (i - 1) < ea z i) || (decide (ea z (i - 1) = ea z i) && decide (eb z (i - 1) < eb z i)))
def okFrom (n : Int) (z : Nat → Int) : Nat → Nat → Bool
 | 0, _ => true
 | j + 1, k => okAt n z k && okFrom n z j (k + 1)
def okAll (n : Int) (z : Nat → Int) (m : Nat) : Bool := okFrom n z m 0
def ckG (n : Int) (z : Nat → Int) (m : Nat) : Int := if n < 1 ∨ n > 16 then 1 else if okAll n z m = true then 0 else 40

theorem okFrom_at {n : Int} {z : Nat → Int} : ∀ (j k : Nat), okFrom n z j k = true → ∀ i, k ≤ i → i < k + j → okAt n z i = true
 | 0, _, _, i, h1, h2 => by omega
 | j + 1, k, h, i, h1, h2 => by
  simp only [okFrom, Bool.and_eq_true] at h
  by_cases c : i = k
  ·subst c; exact h.1
  ·exact okFrom_at j (k + 1) h.2 i (by omega) (by omega)
theorem okAll_at {n : Int} {z : Nat → Int} {m : Nat} (h : okAll n z m = true) (i : Nat) (hi : i < m) : 0 ≤ ea z i ∧ ea z i < eb z i ∧ eb z i < n := by
 have := okFrom_at m 0 h i (by omega) (by omega)
 simp only [okAt, Bool.and_eq_true, decide_eq_true_eq] at this
 exact ⟨this.1.1.1, this.1.1.2, this.1.2⟩
theorem ckG_0 {n : Int} {z : Nat → Int} {m : Nat} (h : ckG n z m = 0) : 1 ≤ n ∧ n ≤ 16 ∧ okAll n z m = true := by
 unfold ckG at h
 split at h
 ·cases h
 ·split at h
  ·rename_i h1 h2; exact ⟨by omega, by omega, h2⟩
  ·cases h

end Go.Num

/- The reference's check of a graph, run. -/
set_option linter.unusedVariables false
set_option linter.unusedSimpArgs false
namespace Go.Proofs
open Go Go.Ev Go.Num

abbrev RS2 (b off len cap : Nat) : Value := .slice (some ⟨b, off, some 0⟩) len cap
end Go.Proofs

/- The reference's check of a graph: what the calls answer. -/
set_option linter.unusedVariables false
set_option linter.unusedSimpArgs false
namespace Go.Proofs
open Go Go.Ev Go.Num

def rowAt (r : Mem) (b off m : Nat) (z : Nat → Int) : Prop := ∀ j, j < m → r b (off + j) = some (I (z j))

end Go.Proofs

/- Rows of numbers, by a function. -/
namespace Go.Proofs
open Go Go.Ev Go.Num
set_option linter.unusedVariables false
set_option linter.unusedSimpArgs false
set_option maxRecDepth 100000

def ixN (f : Nat → Int) (m : Nat) : List Value := (List.range m).map fun j => I (f j)
theorem ix_len (f : Nat → Int) (m : Nat) : (ixN f m).length = m := by simp [ixN]
theorem ix_get {f : Nat → Int} {m j : Nat} (h : j < m) : (ixN f m)[j]? = some (I (f j)) := by simp [ixN, h]
theorem ix_nn (f : Nat → Int) (m : Nat) : m_nns (ixN f m) = true := by
 unfold ixN
 generalize List.range m = l
 induction l with
 | nil => rfl
 | cons x l ih => exact ih
theorem ix_gnd (f : Nat → Int) (m : Nat) : gnds (ixN f m) = true := by
 unfold ixN
 generalize List.range m = l
 induction l with
 | nil => rfl
 | cons x l ih => exact ih
theorem ix_ext {f g : Nat → Int} {m : Nat} (h : ∀ j, j < m → f j = g j) : ixN f m = ixN g m := by
 unfold ixN
 exact List.map_congr_left fun j hj => by rw [h j (List.mem_range.1 hj)]
theorem ix_set (f : Nat → Int) (m k : Nat) (v : Int) : (ixN f m).set k (I v) = ixN (fun j => if j = k then v else f j) m := by
 apply List.ext_getElem?
 intro j
 rw [List.getElem?_set]
 by_cases c : j < m
 ·rw [ix_get c, ix_get c, ix_len]
  by_cases d : k = j
  ·subst d; simp [c]
  ·have d' : ¬ j = k := fun e => d e.symm
   simp [d, d']
 ·have h1 : (ixN f m)[j]? = none := List.getElem?_eq_none (by rw [ix_len]; omega)
  have h2 : (ixN (fun j => if j = k then v else f j) m)[j]? = none := List.getElem?_eq_none (by rw [ix_len]; omega)
  rw [h1, h2, ix_len]
  split <;> rename_i e <;> simp [c, e]
theorem ix_set1 {f : Nat → Int} {m k : Nat} {v : Int} (h : k < m) : setAt (ixN f m) k [I v] = some (ixN (fun j => if j = k then v else f j) m) := by
 rw [setAt_one _ _ _ (by rw [ix_len]; exact h), ix_set]
theorem setA0_two : ∀ (c : List Value) (k : Nat) (v w : Value), k + 1 < c.length → setA0 c k [v, w] = some ((c.set k v).set (k + 1) w)
 | [], k, v, w, h => by simp at h
 | [x], k, v, w, h => by simp at h
 | x :: y :: l, 0, v, w, h => by simp [setA0]
 | x :: y :: l, k + 1, v, w, h => by
  have := setA0_two (y :: l) k v w (by simpa using h)
  simp only [setA0, this, List.set_cons_succ]
theorem ix_set2 {f : Nat → Int} {m k : Nat} {v w : Int} (h : k + 1 < m) : setAt (ixN f m) k [I v, I w] = some (ixN (fun j => if j = k + 1 then w else if j = k then v else f j) m) := by
 rw [setAt_old, setA0_two _ _ _ _ (by rw [ix_len]; exact h), ix_set, ix_set]
theorem ix_zero1 (n : Nat) : zerosL (Nat.mul n 1) [I (Int.ofNat 0)] = ixN (fun _ => 0) n := by
 show List.replicate (Nat.mul n 1) (I 0) = _
 rw [Nat.mul_eq, Nat.mul_one]
 apply List.ext_getElem?
 intro j
 by_cases c : j < n
 ·rw [ix_get c, List.getElem?_replicate, if_pos c]
 ·rw [List.getElem?_eq_none (by rw [List.length_replicate]; omega), List.getElem?_eq_none (by rw [ix_len]; omega)]
theorem ix_zero2 (n : Nat) : zerosL (Nat.mul n 2) [I (Int.ofNat 0), I (Int.ofNat 0)] = ixN (fun _ => 0) (2 * n) := by
 show (List.range (Nat.mul n 2)).map (fun j => match [I (Int.ofNat 0), I (Int.ofNat 0)][Nat.mod j 2]? with | some z => z | none => (default : Value)) = _
 unfold ixN
 rw [Nat.mul_eq, Nat.mul_comm]
 refine List.map_congr_left fun j _ => ?_
 have : ∀ k, k < 2 → (match [I (Int.ofNat 0), I (Int.ofNat 0)][k]? with | some z => z | none => (default : Value)) = I 0 := fun k hk => by
  match k, hk with
  | 0, _ => rfl
  | 1, _ => rfl
 exact this _ (Nat.mod_lt _ (by omega))
theorem isI_I (z : Int) : isI .i64 (I z) = true := rfl
theorem ofI_I (z : Int) : ofI (I z) = z := rfl

theorem SOk.mono {C : Cfg} {f : Nat} {args : List Value} {A : AW} {S S' : Value → AW → Prop} (h : SOk C f args A S) (hs : ∀ v A', S v A' → S' v A') : SOk C f args A S' := fun F hF k γ W args' hw hR ha =>
 (h F hF k γ W args' hw hR ha).mono fun e W' he => by
  obtain ⟨v, A', h1, h2⟩ := he
  exact ⟨v, A', hs v A' h1, h2⟩
theorem SOk.at {C : Cfg} {f : Nat} {args : List Value} {A A1 : AW} {v : Value} (h : SOk C f args A fun u B => u = v ∧ B = A1) : EOk C f (entAt args A v A1) := entAt_ok fun F hF k γ W args' hw hR ha => h.one F hF k γ W args' hw hR ha
theorem inc1 {k : Nat} (h : k ≤ 2000000) : IntKind.wrap IntKind.i64 (Int.ofNat k + Int.ofNat 1) = ((k + 1 : Nat) : Int) := by rw [wrI (by simp; omega)]; simp
theorem inc1' {k : Nat} (h : k ≤ 2000000) : IntKind.wrap IntKind.i64 ((k : Int) + Int.ofNat 1) = ((k + 1 : Nat) : Int) := by rw [wrI (by simp; omega)]; simp

def rowI (e : List Int) : List Value := e.map fun x => I x
theorem rowI_len (e : List Int) : (rowI e).length = e.length := by simp [rowI]
theorem rowI_nn (e : List Int) : m_nns (rowI e) = true := by
 induction e with
 | nil => rfl
 | cons x l ih => exact ih
theorem rowI_get {e : List Int} {k : Nat} (h : k < e.length) : (rowI e)[k]? = some (I (e.getD k 0)) := by
 simp [rowI, h, List.getD_eq_getElem?_getD]
theorem rowI_set (e : List Int) (k : Nat) (x : Int) : (rowI e).set k (I x) = rowI (e.set k x) := by simp [rowI, List.map_set]
theorem rowI_app (e : List Int) (x : Int) : rowI e ++ [I x] = rowI (e ++ [x]) := by simp [rowI]
theorem app_set (e : List Int) (x y : Int) : (e ++ [x]).set e.length y = e ++ [y] := by
 rw [List.set_append_right _ _ (Nat.le_refl _)]
 simp
theorem takeL_row (c : List Value) (n : Nat) (h : c.length = n) : takeAt c 0 n = some c := takeAt_all c n 0 c h fun j hj => by rw [Nat.zero_add]
theorem rowI_gnd (e : List Int) : gnds (rowI e) = true := by
 induction e with
 | nil => rfl
 | cons x l ih => exact ih
theorem rowI_ones (e : List Int) : ones (rowI e) = true := by
 induction e with
 | nil => rfl
 | cons x l ih => exact ih
theorem rowI_ix (f : Nat → Int) (m : Nat) : ixN f m = rowI ((List.range m).map f) := by
 unfold ixN rowI
 rw [List.map_map]
 rfl
theorem rowI_take {e : List Int} {j : Nat} (h : j ≤ e.length) : takeAt (rowI e) 0 j = some (rowI (e.take j)) :=
 takeAt_all _ _ _ _ (by rw [rowI_len, List.length_take]; omega) fun i hi => by
  rw [Nat.zero_add]
  unfold rowI
  rw [List.getElem?_map, List.getElem?_map, List.getElem?_take_of_lt hi]
theorem rowI_drop {e : List Int} {j m : Nat} (h : j + m = e.length) : takeAt (rowI e) j m = some (rowI (e.drop j)) :=
 takeAt_all _ _ _ _ (by rw [rowI_len, List.length_drop]; omega) fun i hi => by
  unfold rowI
  rw [List.getElem?_map, List.getElem?_map, List.getElem?_drop]
end Go.Proofs

/- Rows of the caller's, as memory. -/
namespace Go.Proofs
open Go Go.Ev Go.Num
set_option linter.unusedVariables false
set_option linter.unusedSimpArgs false

theorem natFx {i j : Nat} (h : i ≠ j) : Nat.beq i j = false := by
 cases e : Nat.beq i j with
 | false => rfl
 | true => exact absurd (Nat.eq_of_beq_eq_true e) h
theorem own_row {r : Mem} {γ : Gam} {A : AW} {W : World} (hw : WRel γ A W) (hR : Ro r γ W) {i len cap : Nat} (hcap : Nat.beq cap unkE = false) {c : List Value} {e f z : Nat} (hget : A.heap.get i = some (.cells c e f z)) {v' : Value} (hv : VRel γ (.slice (some ⟨i, 0, none⟩) len cap) v') :
  ∃ b k', VRel noG (RS b k' len 0) v' ∧ ∀ j u, c[j]? = some u → gnd u = true → memW W b (k' + j) = some u := by
 obtain ⟨b, k', c', rfl, hrd⟩ := rd_world hw hR hv hcap
 refine ⟨b, k', .sliceRo _ _ _ _ _ _ (by decide) (Nat.zero_le _), fun j u hu hg => hrd j u ?_ hg⟩
 simp only [AW.rd, AW.cell, hget]
 rw [Nat.add_eq, Nat.zero_add]
 exact hu

end Go.Proofs

/- Cut rows of the caller's, as memory. -/
namespace Go.Proofs
open Go Go.Ev Go.Num
set_option linter.unusedVariables false
set_option linter.unusedSimpArgs false

theorem own_cut {r : Mem} {γ : Gam} {A : AW} {W : World} (hw : WRel γ A W) (hR : Ro r γ W) {i k len cap : Nat} (hcap : Nat.beq cap unkE = false) {c : List Value} {e f z : Nat} (hget : A.heap.get i = some (.cells c e f z)) {v' : Value} (hv : VRel γ (.slice (some ⟨i, k, none⟩) len cap) v') :
  ∃ b k', VRel noG (RS b k' len 0) v' ∧ ∀ j u, c[k + j]? = some u → gnd u = true → memW W b (k' + j) = some u := by
 obtain ⟨b, k', c', rfl, hrd⟩ := rd_world hw hR hv hcap
 refine ⟨b, k', .sliceRo _ _ _ _ _ _ (by decide) (Nat.zero_le _), fun j u hu hg => hrd j u ?_ hg⟩
 simp only [AW.rd, AW.cell, hget]
 exact hu

end Go.Proofs

/- The law's copy of a table, run. -/
namespace Go.Proofs
open Go Go.Ev Go.Num
set_option linter.unusedVariables false
set_option linter.unusedSimpArgs false
set_option maxRecDepth 100000

noncomputable def cTB : Code := bodyOf S0 5
noncomputable def TB_0 : Code := (lc cTB)
noncomputable def TB_1 : Code := (lc (rc cTB))
noncomputable def TB_2 : Code := (lc (lc (rc (rc cTB))))
noncomputable def TB_3 : Code := (ic (ic (rc (lc (rc (rc cTB))))))
noncomputable def TB_4 : Code := (rc (rc (rc cTB)))
theorem TB_eq : cTB = (.seq TB_0 (.seq TB_1 (.seq (.seq TB_2 (.block 0 (.loop TB_3))) TB_4))) := by kernel_rfl
abbrev nilT : Value := .slice none 0 0
abbrev gwT (i n : Nat) : Value := .slice (some ⟨i, 0, none⟩) n unk
def oTb (c : List Value) (i : Nat) : Option AObj := some (.cells c 46 i 1)
def oBo (c : List Value) (i : Nat) : Option AObj := some (.cells c 4 i 1)
def lvTB : List Nat := [0, 3, 4]
def vTB (b off n cap : Nat) (E : Value) (k : Nat) : OV := [some (RS b off n cap), some E, some (I (k : Nat))]

theorem tbA (r : Mem) (b off n cap : Nat) (fs : FnsC) (K : OV → List Nat → OO → CR) (kx : Nat → KS) (kr : KS) : run (SC r) 61 33 1 (.seq TB_0 (.seq TB_1 TB_2)) fs none (rbK 0 lvTB [] K) kx kr (sc0 61 [RS b off n cap]) (tr0 61 [RS b off n cap]) [] emptyA =
    K [some (.slice (some ⟨b, off, some 0⟩) n cap), some (.slice none 0 0), some (I (Int.ofNat 0))] [] [] := by kernel_rfl

theorem tbBnN (r : Mem) (b off n cap k : Nat) (fs : FnsC) (K : OV → List Nat → OO → CR) (KX : Nat → OV → List Nat → OO → CR) (kr : KS) : run (SS r 1) 61 33 1 TB_3 fs none (rbK 0 lvTB [.t] K) (fun j => rbK 0 [3] [] (KX j)) kr [] (bT lvTB (vTB b off n cap nilT k) .nil) [] (mkA []) =
    bif decide (Int.ofNat k < Int.ofNat n) then bif decide (Int.ofNat k < 14) then bif Nat.blt (Int.toNat (Int.ofNat k)) n then Option.casesOn (r b (Nat.add off (Nat.mul (Int.toNat (Int.ofNat k)) 1))) (.fail 423) fun val => bif isNilS val then bif Nat.blt (Int.toNat (Int.ofNat k)) n then Option.casesOn (r b (Nat.add off (Nat.mul (Int.toNat (Int.ofNat k)) 1))) (.fail 423) fun val => bif isNilS val then K [some (.slice (some ⟨b, off, some 0⟩) n cap), some (.slice (some ⟨0, 0, none⟩) 1 unk), some (I (IntKind.wrap .i64 (Int.ofNat k + Int.ofNat 1)))] [] [some (.cells [.slice none 0 0] 46 0 1)] else .fail 420 else .fail 420 else .fail 420 else .fail 420 else KX 0 [some (.slice none 0 0)] [] [] else KX 0 [some (.slice none 0 0)] [] [] := by kernel_rfl

theorem tbBoN (r : Mem) (b off n cap k m : Nat) (c : List Value) (fs : FnsC) (K : OV → List Nat → OO → CR) (KX : Nat → OV → List Nat → OO → CR) (kr : KS) : run (SS r 1) 61 33 1 TB_3 fs none (rbK 0 lvTB [.q []] K) (fun j => rbK 0 [3] [] (KX j)) kr [] (bT lvTB (vTB b off n cap (gwT 0 m) k) .nil) [] (mkA [oTb c 0]) =
    bif decide (Int.ofNat k < Int.ofNat n) then bif decide (Int.ofNat k < 14) then bif Nat.blt (Int.toNat (Int.ofNat k)) n then Option.casesOn (r b (Nat.add off (Nat.mul (Int.toNat (Int.ofNat k)) 1))) (.fail 423) fun val => bif isNilS val then bif Nat.blt (Int.toNat (Int.ofNat k)) n then Option.casesOn (r b (Nat.add off (Nat.mul (Int.toNat (Int.ofNat k)) 1))) (.fail 423) fun val => bif isNilS val then bif Nat.ble (Nat.add m 1) 1000000 then Option.casesOn (takeAt c 0 (Nat.mul m 1)) (.fail 439) fun val => bif m_nopo (m_mvq [2] (val ++ [.slice none 0 0])) && true then K [some (.slice (some ⟨b, off, some 0⟩) n cap), some (.slice (some ⟨0, 0, none⟩) (Nat.add m 1) unk), some (I (IntKind.wrap .i64 (Int.ofNat k + Int.ofNat 1)))] [] [some (.cells (m_mvq [2] (val ++ [.slice none 0 0])) 46 0 1)] else .fail 420 else .fail 420 else .fail 420 else .fail 420 else .fail 420 else .fail 420 else bif m_nns c && true then KX 0 [some (.slice (some ⟨0, 0, none⟩) m unk)] [] [some (.cells c 46 0 1)] else .fail 420 else bif m_nns c && true then KX 0 [some (.slice (some ⟨0, 0, none⟩) m unk)] [] [some (.cells c 46 0 1)] else .fail 420 := by kernel_rfl

theorem tbBnR (r : Mem) (b off n cap k : Nat) (fs : FnsC) (K : OV → List Nat → OO → CR) (KX : Nat → OV → List Nat → OO → CR) (kr : KS) : run (SS r 2) 61 33 1 TB_3 fs none (rbK 0 lvTB [.t] K) (fun j => rbK 0 [3] [] (KX j)) kr [] (bT lvTB (vTB b off n cap nilT k) .nil) [] (mkA []) =
    bif decide (Int.ofNat k < Int.ofNat n) then bif decide (Int.ofNat k < 14) then bif Nat.blt (Int.toNat (Int.ofNat k)) n then Option.casesOn (r b (Nat.add off (Nat.mul (Int.toNat (Int.ofNat k)) 1))) (.fail 423) fun val => bif isRoS val then bif Nat.blt (Int.toNat (Int.ofNat k)) n then Option.casesOn (r b (Nat.add off (Nat.mul (Int.toNat (Int.ofNat k)) 1))) (.fail 423) fun val_1 => bif isRoS val_1 then bif decide (0 ≤ bif decide (14 < Int.ofNat (lnOf val_1)) then Int.ofNat 14 else Int.ofNat (lnOf val_1)) then bif Nat.beq (cpOf val) 9223372036854775809 then .fail 435 else bif Nat.ble (Int.toNat (bif decide (14 < Int.ofNat (lnOf val_1)) then Int.ofNat 14 else Int.ofNat (lnOf val_1))) (cpOf val) then bif Nat.beq (Int.toNat (bif decide (14 < Int.ofNat (lnOf val_1)) then Int.ofNat 14 else Int.ofNat (lnOf val_1))) 0 then K [some (.slice (some ⟨b, off, some 0⟩) n cap), some (.slice (some ⟨0, 0, none⟩) 1 unk), some (I (IntKind.wrap .i64 (Int.ofNat k + Int.ofNat 1)))] [] [some (.cells [.slice none 0 0] 46 0 1)] else bif Nat.ble (Nat.add 0 (Nat.sub (Int.toNat (bif decide (14 < Int.ofNat (lnOf val_1)) then Int.ofNat 14 else Int.ofNat (lnOf val_1))) 0)) 1000000 then Option.casesOn (match Nat.beq (Nat.sub (cpOf val) 0) unkE with | true => none | false => takeF (Cfg.ro (SS r 2) (blkOf val)) (Nat.add (offOf val) (Nat.mul 0 (TypeInfo.size Tryz.t4))) (Nat.mul (Nat.sub (Int.toNat (bif decide (14 < Int.ofNat (lnOf val_1)) then 14 else Int.ofNat (lnOf val_1))) 0) (TypeInfo.size Tryz.t4))) (.fail 443) fun val => bif Nat.beq (List.length val) (Nat.mul (Nat.sub (Int.toNat (bif decide (14 < Int.ofNat (lnOf val_1)) then Int.ofNat 14 else Int.ofNat (lnOf val_1))) 0) 1) then bif Nat.beq (Nat.sub (Int.toNat (bif decide (14 < Int.ofNat (lnOf val_1)) then Int.ofNat 14 else Int.ofNat (lnOf val_1))) 0) 0 then K [some (.slice (some ⟨b, off, some 0⟩) n cap), some (.slice (some ⟨0, 0, none⟩) 1 unk), some (I (IntKind.wrap .i64 (Int.ofNat k + Int.ofNat 1)))] [] [some (.cells [.slice none 0 0] 46 0 1)] else bif true && (m_nns val && true) then K [some (.slice (some ⟨b, off, some 0⟩) n cap), some (.slice (some ⟨0, 0, none⟩) 1 unk), some (I (IntKind.wrap .i64 (Int.ofNat k + Int.ofNat 1)))] [] [some (.cells [.slice (some ⟨1, 0, none⟩) (Nat.sub (Int.toNat (bif decide (14 < Int.ofNat (lnOf val_1)) then Int.ofNat 14 else Int.ofNat (lnOf val_1))) 0) unk] 46 0 1), some (.cells val 4 1 1)] else .fail 420 else .fail 420 else .fail 420 else .fail 420 else .fail 420 else .fail 420 else .fail 420 else .fail 420 else .fail 420 else KX 0 [some (.slice none 0 0)] [] [] else KX 0 [some (.slice none 0 0)] [] [] := by kernel_rfl

theorem tbBoR (r : Mem) (b off n cap k m : Nat) (c : List Value) (fs : FnsC) (K : OV → List Nat → OO → CR) (KX : Nat → OV → List Nat → OO → CR) (kr : KS) : run (SS r 2) 61 33 1 TB_3 fs none (rbK 0 lvTB [.q [1]] K) (fun j => rbK 0 [3] [] (KX j)) kr [] (bT lvTB (vTB b off n cap (gwT 0 m) k) .nil) [] (mkA [oTb c 0]) =
    bif decide (Int.ofNat k < Int.ofNat n) then bif decide (Int.ofNat k < 14) then bif Nat.blt (Int.toNat (Int.ofNat k)) n then Option.casesOn (r b (Nat.add off (Nat.mul (Int.toNat (Int.ofNat k)) 1))) (.fail 423) fun val => bif isRoS val then bif Nat.blt (Int.toNat (Int.ofNat k)) n then Option.casesOn (r b (Nat.add off (Nat.mul (Int.toNat (Int.ofNat k)) 1))) (.fail 423) fun val_1 => bif isRoS val_1 then bif decide (0 ≤ bif decide (14 < Int.ofNat (lnOf val_1)) then Int.ofNat 14 else Int.ofNat (lnOf val_1)) then bif Nat.beq (cpOf val) 9223372036854775809 then .fail 435 else bif Nat.ble (Int.toNat (bif decide (14 < Int.ofNat (lnOf val_1)) then Int.ofNat 14 else Int.ofNat (lnOf val_1))) (cpOf val) then bif Nat.beq (Int.toNat (bif decide (14 < Int.ofNat (lnOf val_1)) then Int.ofNat 14 else Int.ofNat (lnOf val_1))) 0 then bif Nat.ble (Nat.add m 1) 1000000 then Option.casesOn (takeAt c 0 (Nat.mul m 1)) (.fail 439) fun val => bif m_nopo (m_mvq [2, 1] (val ++ [.slice none 0 0])) && (m_nns [.slice none 0 0] && true) then K [some (.slice (some ⟨b, off, some 0⟩) n cap), some (.slice (some ⟨0, 0, none⟩) (Nat.add m 1) unk), some (I (IntKind.wrap .i64 (Int.ofNat k + Int.ofNat 1)))] [] [some (.cells (m_mvq [2, 1] (val ++ [.slice none 0 0])) 46 0 1), some (.cells [.slice none 0 0] 46 1 1)] else .fail 420 else .fail 420 else bif Nat.ble (Nat.add 0 (Nat.sub (Int.toNat (bif decide (14 < Int.ofNat (lnOf val_1)) then Int.ofNat 14 else Int.ofNat (lnOf val_1))) 0)) 1000000 then Option.casesOn (match Nat.beq (Nat.sub (cpOf val) 0) unkE with | true => none | false => takeF (Cfg.ro (SS r 2) (blkOf val)) (Nat.add (offOf val) (Nat.mul 0 (TypeInfo.size Tryz.t4))) (Nat.mul (Nat.sub (Int.toNat (bif decide (14 < Int.ofNat (lnOf val_1)) then 14 else Int.ofNat (lnOf val_1))) 0) (TypeInfo.size Tryz.t4))) (.fail 443) fun val => bif Nat.beq (List.length val) (Nat.mul (Nat.sub (Int.toNat (bif decide (14 < Int.ofNat (lnOf val_1)) then Int.ofNat 14 else Int.ofNat (lnOf val_1))) 0) 1) then bif Nat.beq (Nat.sub (Int.toNat (bif decide (14 < Int.ofNat (lnOf val_1)) then Int.ofNat 14 else Int.ofNat (lnOf val_1))) 0) 0 then bif Nat.ble (Nat.add m 1) 1000000 then Option.casesOn (takeAt c 0 (Nat.mul m 1)) (.fail 439) fun val => bif m_nopo (m_mvq [2, 1] (val ++ [.slice none 0 0])) && (m_nns [.slice none 0 0] && true) then K [some (.slice (some ⟨b, off, some 0⟩) n cap), some (.slice (some ⟨0, 0, none⟩) (Nat.add m 1) unk), some (I (IntKind.wrap .i64 (Int.ofNat k + Int.ofNat 1)))] [] [some (.cells (m_mvq [2, 1] (val ++ [.slice none 0 0])) 46 0 1), some (.cells [.slice none 0 0] 46 1 1)] else .fail 420 else .fail 420 else bif Nat.ble (Nat.add m 1) 1000000 then Option.casesOn (takeAt c 0 (Nat.mul m 1)) (.fail 439) fun val_2 => bif m_nopo (m_mvq [3, 1] (val_2 ++ [.slice (some ⟨1, 0, none⟩) (Nat.sub (Int.toNat (bif decide (14 < Int.ofNat (lnOf val_1)) then Int.ofNat 14 else Int.ofNat (lnOf val_1))) 0) unk])) && (m_nns val && true) then K [some (.slice (some ⟨b, off, some 0⟩) n cap), some (.slice (some ⟨0, 0, none⟩) (Nat.add m 1) unk), some (I (IntKind.wrap .i64 (Int.ofNat k + Int.ofNat 1)))] [] [some (.cells (m_mvq [3, 1] (val_2 ++ [.slice (some ⟨1, 0, none⟩) (Nat.sub (Int.toNat (bif decide (14 < Int.ofNat (lnOf val_1)) then Int.ofNat 14 else Int.ofNat (lnOf val_1))) 0) unk])) 46 0 1), some (.cells val 4 1 1)] else .fail 420 else .fail 420 else .fail 420 else .fail 420 else .fail 420 else .fail 420 else .fail 420 else .fail 420 else .fail 420 else .fail 420 else bif m_nns c && true then KX 0 [some (.slice (some ⟨0, 0, none⟩) m unk)] [] [some (.cells c 46 0 1)] else .fail 420 else bif m_nns c && true then KX 0 [some (.slice (some ⟨0, 0, none⟩) m unk)] [] [some (.cells c 46 0 1)] else .fail 420 := by kernel_rfl

theorem tbBoZ (r : Mem) (b off n cap k m : Nat) (c : List Value) (fs : FnsC) (K : OV → List Nat → OO → CR) (KX : Nat → OV → List Nat → OO → CR) (kr : KS) : run (SS r 2) 61 33 1 TB_3 fs none (rbK 0 lvTB [.q []] K) (fun j => rbK 0 [3] [] (KX j)) kr [] (bT lvTB (vTB b off n cap (gwT 0 m) k) .nil) [] (mkA [oTb c 0]) =
    bif decide (Int.ofNat k < Int.ofNat n) then bif decide (Int.ofNat k < 14) then bif Nat.blt (Int.toNat (Int.ofNat k)) n then Option.casesOn (r b (Nat.add off (Nat.mul (Int.toNat (Int.ofNat k)) 1))) (.fail 423) fun val => bif isRoS val then bif Nat.blt (Int.toNat (Int.ofNat k)) n then Option.casesOn (r b (Nat.add off (Nat.mul (Int.toNat (Int.ofNat k)) 1))) (.fail 423) fun val_1 => bif isRoS val_1 then bif decide (0 ≤ bif decide (14 < Int.ofNat (lnOf val_1)) then Int.ofNat 14 else Int.ofNat (lnOf val_1)) then bif Nat.beq (cpOf val) 9223372036854775809 then .fail 435 else bif Nat.ble (Int.toNat (bif decide (14 < Int.ofNat (lnOf val_1)) then Int.ofNat 14 else Int.ofNat (lnOf val_1))) (cpOf val) then bif Nat.beq (Int.toNat (bif decide (14 < Int.ofNat (lnOf val_1)) then Int.ofNat 14 else Int.ofNat (lnOf val_1))) 0 then bif Nat.ble (Nat.add m 1) 1000000 then Option.casesOn (takeAt c 0 (Nat.mul m 1)) (.fail 439) fun val => bif m_nopo (m_mvq [2] (val ++ [.slice none 0 0])) && true then K [some (.slice (some ⟨b, off, some 0⟩) n cap), some (.slice (some ⟨0, 0, none⟩) (Nat.add m 1) unk), some (I (IntKind.wrap .i64 (Int.ofNat k + Int.ofNat 1)))] [] [some (.cells (m_mvq [2] (val ++ [.slice none 0 0])) 46 0 1)] else .fail 420 else .fail 420 else bif Nat.ble (Nat.add 0 (Nat.sub (Int.toNat (bif decide (14 < Int.ofNat (lnOf val_1)) then Int.ofNat 14 else Int.ofNat (lnOf val_1))) 0)) 1000000 then Option.casesOn (match Nat.beq (Nat.sub (cpOf val) 0) unkE with | true => none | false => takeF (Cfg.ro (SS r 2) (blkOf val)) (Nat.add (offOf val) (Nat.mul 0 (TypeInfo.size Tryz.t4))) (Nat.mul (Nat.sub (Int.toNat (bif decide (14 < Int.ofNat (lnOf val_1)) then 14 else Int.ofNat (lnOf val_1))) 0) (TypeInfo.size Tryz.t4))) (.fail 443) fun val => bif Nat.beq (List.length val) (Nat.mul (Nat.sub (Int.toNat (bif decide (14 < Int.ofNat (lnOf val_1)) then Int.ofNat 14 else Int.ofNat (lnOf val_1))) 0) 1) then bif Nat.beq (Nat.sub (Int.toNat (bif decide (14 < Int.ofNat (lnOf val_1)) then Int.ofNat 14 else Int.ofNat (lnOf val_1))) 0) 0 then bif Nat.ble (Nat.add m 1) 1000000 then Option.casesOn (takeAt c 0 (Nat.mul m 1)) (.fail 439) fun val => bif m_nopo (m_mvq [2] (val ++ [.slice none 0 0])) && true then K [some (.slice (some ⟨b, off, some 0⟩) n cap), some (.slice (some ⟨0, 0, none⟩) (Nat.add m 1) unk), some (I (IntKind.wrap .i64 (Int.ofNat k + Int.ofNat 1)))] [] [some (.cells (m_mvq [2] (val ++ [.slice none 0 0])) 46 0 1)] else .fail 420 else .fail 420 else bif Nat.ble (Nat.add m 1) 1000000 then Option.casesOn (takeAt c 0 (Nat.mul m 1)) (.fail 439) fun val => bif m_nopo (m_mvq [3] (val ++ [.slice (some ⟨1, 0, none⟩) (Nat.sub (Int.toNat (bif decide (14 < Int.ofNat (lnOf val_1)) then Int.ofNat 14 else Int.ofNat (lnOf val_1))) 0) unk])) && true then K [some (.slice (some ⟨b, off, some 0⟩) n cap), some (.slice (some ⟨0, 0, none⟩) (Nat.add m 1) unk), some (I (IntKind.wrap .i64 (Int.ofNat k + Int.ofNat 1)))] [] [some (.cells (m_mvq [3] (val ++ [.slice (some ⟨1, 0, none⟩) (Nat.sub (Int.toNat (bif decide (14 < Int.ofNat (lnOf val_1)) then Int.ofNat 14 else Int.ofNat (lnOf val_1))) 0) unk])) 46 0 1)] else .fail 420 else .fail 420 else .fail 420 else .fail 420 else .fail 420 else .fail 420 else .fail 420 else .fail 420 else .fail 420 else .fail 420 else bif m_nns c && true then KX 0 [some (.slice (some ⟨0, 0, none⟩) m unk)] [] [some (.cells c 46 0 1)] else .fail 420 else bif m_nns c && true then KX 0 [some (.slice (some ⟨0, 0, none⟩) m unk)] [] [some (.cells c 46 0 1)] else .fail 420 := by kernel_rfl

theorem tbBnE (r : Mem) (b off n cap k : Nat) (fs : FnsC) (K : OV → List Nat → OO → CR) (KX : Nat → OV → List Nat → OO → CR) (kr : KS) : run (SS r 3) 61 33 1 TB_3 fs none (rbK 0 lvTB [.t] K) (fun j => rbK 0 [3] [] (KX j)) kr [] (bT lvTB (vTB b off n cap nilT k) .nil) [] (mkA []) =
    bif decide (Int.ofNat k < Int.ofNat n) then bif decide (Int.ofNat k < 14) then bif Nat.blt (Int.toNat (Int.ofNat k)) n then Option.casesOn (r b (Nat.add off (Nat.mul (Int.toNat (Int.ofNat k)) 1))) (.fail 423) fun val => bif isES val then bif Nat.blt (Int.toNat (Int.ofNat k)) n then Option.casesOn (r b (Nat.add off (Nat.mul (Int.toNat (Int.ofNat k)) 1))) (.fail 423) fun val => bif isES val then K [some (.slice (some ⟨b, off, some 0⟩) n cap), some (.slice (some ⟨0, 0, none⟩) 1 unk), some (I (IntKind.wrap .i64 (Int.ofNat k + Int.ofNat 1)))] [] [some (.cells [.slice none 0 0] 46 0 1)] else .fail 420 else .fail 420 else .fail 420 else .fail 420 else KX 0 [some (.slice none 0 0)] [] [] else KX 0 [some (.slice none 0 0)] [] [] := by kernel_rfl

theorem tbBoE (r : Mem) (b off n cap k m : Nat) (c : List Value) (fs : FnsC) (K : OV → List Nat → OO → CR) (KX : Nat → OV → List Nat → OO → CR) (kr : KS) : run (SS r 3) 61 33 1 TB_3 fs none (rbK 0 lvTB [.q []] K) (fun j => rbK 0 [3] [] (KX j)) kr [] (bT lvTB (vTB b off n cap (gwT 0 m) k) .nil) [] (mkA [oTb c 0]) =
    bif decide (Int.ofNat k < Int.ofNat n) then bif decide (Int.ofNat k < 14) then bif Nat.blt (Int.toNat (Int.ofNat k)) n then Option.casesOn (r b (Nat.add off (Nat.mul (Int.toNat (Int.ofNat k)) 1))) (.fail 423) fun val => bif isES val then bif Nat.blt (Int.toNat (Int.ofNat k)) n then Option.casesOn (r b (Nat.add off (Nat.mul (Int.toNat (Int.ofNat k)) 1))) (.fail 423) fun val => bif isES val then bif Nat.ble (Nat.add m 1) 1000000 then Option.casesOn (takeAt c 0 (Nat.mul m 1)) (.fail 439) fun val => bif m_nopo (m_mvq [2] (val ++ [.slice none 0 0])) && true then K [some (.slice (some ⟨b, off, some 0⟩) n cap), some (.slice (some ⟨0, 0, none⟩) (Nat.add m 1) unk), some (I (IntKind.wrap .i64 (Int.ofNat k + Int.ofNat 1)))] [] [some (.cells (m_mvq [2] (val ++ [.slice none 0 0])) 46 0 1)] else .fail 420 else .fail 420 else .fail 420 else .fail 420 else .fail 420 else .fail 420 else bif m_nns c && true then KX 0 [some (.slice (some ⟨0, 0, none⟩) m unk)] [] [some (.cells c 46 0 1)] else .fail 420 else bif m_nns c && true then KX 0 [some (.slice (some ⟨0, 0, none⟩) m unk)] [] [some (.cells c 46 0 1)] else .fail 420 := by kernel_rfl

theorem tbCn (r : Mem) (fs : FnsC) (K KR : OV → List Nat → OO → CR) (kx : Nat → KS) : run (SC r) 61 33 1 TB_4 fs none (rbK 0 [2] [] K) kx (rbK 0 [2] [] KR) [] (bT [3] [some nilT] .nil) [] (mkA []) =
    KR [some (.slice none 0 0)] [] [] := by kernel_rfl

theorem tbCo (r : Mem) (m : Nat) (c : List Value) (fs : FnsC) (K KR : OV → List Nat → OO → CR) (kx : Nat → KS) : run (SC r) 61 33 1 TB_4 fs none (rbK 0 [2] [] K) kx (rbK 0 [2] [] KR) [] (bT [3] [some (gwT 0 m)] .nil) [] (mkA [oTb c 0]) =
    bif m_nns c && true then KR [some (.slice (some ⟨0, 0, none⟩) m unk)] [] [some (.cells c 46 0 1)] else .fail 420 := by kernel_rfl

end Go.Proofs

/- A condition between pieces of code. -/
set_option linter.unusedVariables false
set_option linter.unusedSimpArgs false
namespace Go.Ev
open Go

theorem Reach.condT {C : Cfg} {m n : Nat} {F : Fence} {k : Nat} {γ0 : Gam} {W0 : World} {c : Operand} {x y : Code} {st : St} {Q : Exit → St → Prop} (h : opd m st.en c = some (.bool true)) (hx : Reach C m n F k γ0 W0 x st Q) : Reach C m n F k γ0 W0 (.cond c x y) st Q := fun γ a W hs hb => by
 have hv := opd_rel hs.tm h
 refine wpIn_cond_true (c := c) ?_ (hx γ a W hs hb)
 generalize a.eval c = v at hv
 cases hv
 rfl
theorem Reach.condF {C : Cfg} {m n : Nat} {F : Fence} {k : Nat} {γ0 : Gam} {W0 : World} {c : Operand} {x y : Code} {st : St} {Q : Exit → St → Prop} (h : opd m st.en c = some (.bool false)) (hx : Reach C m n F k γ0 W0 y st Q) : Reach C m n F k γ0 W0 (.cond c x y) st Q := fun γ a W hs hb => by
 have hv := opd_rel hs.tm h
 refine wpIn_cond_false (c := c) ?_ (hx γ a W hs hb)
 generalize a.eval c = v at hv
 cases hv
 rfl
end Go.Ev

