/- What the claim is proved with, part 1: the evaluator and the contracts of the calls. -/
import Derived.Test.YtfikcdiijalniaaGreatDoorSymBase
import Derived.Test.YtfikcdiijalniaaGreatDoorEvMemOf
import Derived.Test.YtfikcdiijalniaaGreatDoorRows
import Derived.FnData
import Derived.MakeChecks
import Derived.IntWalk
import Derived.Test.YtfikcdiijalniaaGreatDoorEvRd
import Derived.Test.YtfikcdiijalniaaGreatDoorEvOwn
/- The tables of math/bits, as memory. -/
set_option linter.unusedVariables false
set_option linter.unusedSimpArgs false
namespace Go.Proofs
open Go Go.Ev

def u8s (l : List Nat) : List Value := l.map fun n => .int .u8 (Int.ofNat n)
def tab32 : List Nat := [0, 1, 28, 2, 29, 14, 24, 3, 30, 22, 20, 15, 25, 17, 4, 8, 31, 27, 13, 23, 21, 19, 16, 7, 26, 12, 18, 6, 11, 5, 10, 9]
def tab64 : List Nat := [0, 1, 56, 2, 57, 49, 28, 3, 61, 58, 42, 50, 38, 29, 17, 4, 62, 47, 59, 36, 45, 43, 51, 22, 53, 39, 33, 30, 24, 18, 12, 5, 63, 55, 48, 27, 60, 41, 37, 16, 46, 35, 44, 21, 52, 32, 23, 11, 54, 26, 40, 15, 34, 20, 31, 10, 25, 14, 19, 9, 13, 8, 7, 6]

def memL (l : List Value) : Nat → Option Value := fun j => l[j]?
def tabM : Mem := fun b j => match Nat.beq b 1 with
 | true => memL (u8s tab64) j
 | false => match Nat.beq b 0 with
  | true => memL (u8s tab32) j
  | false => none

end Go.Proofs

/- What the listed package variables hold, as memory: from the row's premise to the memory that came in. -/
set_option linter.unusedVariables false
set_option linter.unusedSimpArgs false
namespace Go.Proofs
open Go Go.Ev

theorem tab_cells {H : Type} {enc : TypeId × Value → H} {P : Program} {w : World} {base fuel : Nat} {spare : Nat → Bool} {held : Bool} {t e : TypeId} {n : Nat} {k : IntKind} {cs : List Value} {l : List Int} {p : List MemPlace}
  (ht : P.underlying t = some (.array n e)) (he : P.underlying e = some (.int k)) (ce : P.cellsOf e = 1)
  (h : DataW.trod enc P w base spare held fuel t cs = some (.agg (l.map fun z => .lit (.int k z)), p)) : ∀ (j : Nat) (z : Int), l[j]? = some z → cs[j]? = some (Value.int k z) := by
 obtain ⟨xs, m, _, hx, _, hl, hel⟩ := DataW.trod_array ht h
 have h1 : l.map (fun z => (DataW.lit (.int k z) : DataW H)) = xs.map (·.1) := by
  have := congrArg Prod.fst hx
  simpa using this
 intro j z hz
 have hlen : l.length = xs.length := by
  have := congrArg List.length h1
  simpa using this
 have hj : j < l.length := (List.getElem?_eq_some_iff.1 hz).1
 have h3 := hel j (by omega)
 rw [ce, Nat.mul_one] at h3
 have hxj : xs[j]? = some xs[j] := List.getElem?_eq_getElem (by omega)
 rw [hxj] at h3
 obtain ⟨s, h4, h5, _⟩ := DataW.trod_int he h3
 have h6 : (l.map (fun z => (DataW.lit (.int k z) : DataW H)))[j]? = (xs.map (·.1))[j]? := by rw [h1]
 simp only [List.getElem?_map, hz, hxj, Option.map_some, h5, Option.some.injEq, DataW.lit.injEq, Lit.int.injEq, true_and] at h6
 subst h6
 have h7 := congrArg (fun l : List Value => l[0]?) h4
 simp only [List.getElem?_cons_zero] at h7
 rw [List.getElem?_take_of_lt (by omega), List.getElem?_drop] at h7
 simpa using h7

theorem tab_mem {P : Program} {w : World} {n : String} {g : Nat} {cs : Array Value} {k : IntKind} (hg : P.globalNamed n = some g) (hv : w.var? P n = some cs) {l : List Int} (h : ∀ (j : Nat) (z : Int), l[j]? = some z → cs.toList[j]? = some (Value.int k z)) :
  ∀ (j : Nat) (z : Int), l[j]? = some z → memOf w g j = some (Value.int k z) := fun j z hz => memOf_int (by
 rw [World.var?_cell hg hv j]
 have := h j z hz
 simpa using this)

theorem laid_32 {W : World} {g t f : Nat} {cs : Array Value} {p : List MemPlace} (a1 : Tryz.prog.globalNamed "math/bits.deBruijn32tab" = some g) (a2 : (Tryz.prog.globals[g]?).map (·.type) = some t) (a3 : W.var? Tryz.prog "math/bits.deBruijn32tab" = some cs)
  (a4 : DataW.trod (fun _ => ()) Tryz.prog W 0 (fun _ => true) false f t cs.toList = some (YtfikcdiijalniaaGreatDoor.Rows.laid_math_bits_deBruijn32tab, p)) : ∀ j u, memL (u8s tab32) j = some u → memOf W 0 j = some u := by
 have hg : Tryz.prog.globalNamed "math/bits.deBruijn32tab" = some 0 := by kernel_rfl
 obtain rfl := Option.some.inj (hg.symm.trans a1)
 obtain rfl := Option.some.inj ((show (Tryz.prog.globals[0]?).map (·.type) = some 134 by kernel_rfl).symm.trans a2)
 have h1 := tab_cells (l := tab32.map Int.ofNat) (k := .u8) (t := 134) (n := 32) (e := 5) (by kernel_rfl) (by kernel_rfl) (by kernel_rfl) (a4.trans (by rfl))
 intro j u hu
 simp only [memL, u8s, List.getElem?_map, Option.map_eq_some_iff] at hu
 obtain ⟨z, hz, rfl⟩ := hu
 exact tab_mem hg a3 h1 j _ (by simp [List.getElem?_map, hz])

theorem laid_64 {W : World} {g t f : Nat} {cs : Array Value} {p : List MemPlace} (a1 : Tryz.prog.globalNamed "math/bits.deBruijn64tab" = some g) (a2 : (Tryz.prog.globals[g]?).map (·.type) = some t) (a3 : W.var? Tryz.prog "math/bits.deBruijn64tab" = some cs)
  (a4 : DataW.trod (fun _ => ()) Tryz.prog W 0 (fun _ => true) false f t cs.toList = some (YtfikcdiijalniaaGreatDoor.Rows.laid_math_bits_deBruijn64tab, p)) : ∀ j u, memL (u8s tab64) j = some u → memOf W 1 j = some u := by
 have hg : Tryz.prog.globalNamed "math/bits.deBruijn64tab" = some 1 := by kernel_rfl
 obtain rfl := Option.some.inj (hg.symm.trans a1)
 obtain rfl := Option.some.inj ((show (Tryz.prog.globals[1]?).map (·.type) = some 135 by kernel_rfl).symm.trans a2)
 have h1 := tab_cells (l := tab64.map Int.ofNat) (k := .u8) (t := 135) (n := 64) (e := 5) (by kernel_rfl) (by kernel_rfl) (by kernel_rfl) (a4.trans (by rfl))
 intro j u hu
 simp only [memL, u8s, List.getElem?_map, Option.map_eq_some_iff] at hu
 obtain ⟨z, hz, rfl⟩ := hu
 exact tab_mem hg a3 h1 j _ (by simp [List.getElem?_map, hz])

theorem laid_mem {W : World} {x : String × DataW Unit} (hx : x = ("math/bits.deBruijn32tab", YtfikcdiijalniaaGreatDoor.Rows.laid_math_bits_deBruijn32tab)) {y : String × DataW Unit} (hy : y = ("math/bits.deBruijn64tab", YtfikcdiijalniaaGreatDoor.Rows.laid_math_bits_deBruijn64tab)) (hL : laidMetH Tryz.prog [x, y] W) : ∀ b j u, tabM b j = some u → memOf W b j = some u := by
 subst hx hy
 rw [MakeChecks.laidMetH_plain _ _ _ (by kernel_rfl)] at hL
 obtain ⟨ps, ⟨g1, t1, c1, f1, p1, q1, a1, a2, a3, a4, ⟨g2, t2, c2, f2, p2, q2, b1, b2, b3, b4, _, _⟩, _⟩, _⟩ := hL
 intro b j u h
 unfold tabM at h
 split at h
 ·rename_i hb
  have := Nat.eq_of_beq_eq_true hb
  subst this
  exact laid_64 b1 b2 b3 b4 j u h
 ·split at h
  ·rename_i hb
   have := Nat.eq_of_beq_eq_true hb
   subst this
   exact laid_32 a1 a2 a3 a4 j u h
  ·cases h

end Go.Proofs

/- A slice among the arguments: nil, or a row that came in (an empty one, too). -/
set_option linter.unusedVariables false
set_option linter.unusedSimpArgs false
namespace Go.Ev
open Go

inductive ArgRowT (r : Mem) (n : Nat) (p : Value → Prop) : Value → Prop
 | nil : ArgRowT r n p (.slice none 0 0)
 | row (b off len cap : Nat) (hl : len ≤ cap) (hc : cap ≤ maxLen) (h : ∀ i, i < cap * n → ∃ u, r b (off + i) = some u ∧ p u) : ArgRowT r n p (.slice (some ⟨b, off, some 0⟩) len cap)

theorem okWide_spot {P : Program} {w : World} {r : Go.Reach} {base : Nat} {t e : TypeId} {x : Addr} {len cap : Nat} (ht : P.underlying t = some (.slice e)) (h : Value.okWide P w r base t (.slice (some x) len cap)) : x.spot = none := by
 simp only [Value.okWide, ht, Cell.okWide, Cell.ok] at h
 exact h.2.2.2.1

section
variable {H : Type} {enc : TypeId × Value → H} {P : Program} {w : World} {base : Nat} {held : Bool}

theorem in_rowT {t e : TypeId} {n : Nat} {p : Value → Prop} {v : Value} {d : DataW H} {ps : List MemPlace} (hn : 0 < n) (ht : P.underlying t = some (.slice e)) (ce : P.cellsOf e = n) (hel : El enc P w base held e n p)
  {b0 : Nat} (hval : Value.okWide P w .any b0 t v) (h : DataW.Trod enc P w base (fun _ => true) held t v d ps) : ∃ u, VRel noG u v ∧ ArgRowT (memOf w) n p u := by
 obtain ⟨u, hu, hs⟩ := in_row hn ht ce hel hval h
 obtain ⟨a, len, cap, rfl⟩ := Go.WideShapes.okWide_slice ht hval
 cases hs with
 | nil => exact ⟨_, hu, .nil⟩
 | row b off len cap hl hc h => exact ⟨_, hu, .row b off len cap hl hc h⟩
 | empty =>
  obtain ⟨fuel, hf⟩ := h
  rcases Go.Deep.open_slice ht hf with ⟨h0, _⟩ | ⟨a', len', cap', m, n', D, Pl, h0, _, hl, hm, hmm, _, hx⟩
  ·simp [Value.cells] at h0
   obtain ⟨rfl, rfl, rfl⟩ := h0
   exact ⟨_, .sliceNil, .nil⟩
  ·simp [Value.cells] at h0
   obtain ⟨rfl, rfl, rfl⟩ := h0
   have hsp := okWide_spot ht hval
   obtain ⟨b, off, s⟩ := a'
   subst hsp
   have hlen : len = 0 := by
    cases hu with
    | sliceE => rfl
    | slice _ _ _ _ hg => cases hg
   subst hlen
   exact ⟨_, .sliceRo b off 0 0 0 cap (by decide) (Nat.zero_le _), .row b off 0 0 (Nat.le_refl _) (Nat.zero_le _) fun i hi => by omega⟩

end

end Go.Ev

/- Rules for loops. -/
set_option linter.unusedVariables false
set_option linter.unusedSimpArgs false
namespace Go.Proofs
open Go Go.Ev

theorem fnsSC (r : Mem) : (SC r).fns = S0.fns := by unfold SC Cfg.sym; rfl
theorem bodySC (r : Mem) (f : Nat) : bodyOf (SC r) f = bodyOf S0 f := by unfold bodyOf; rw [fnsSC]

theorem enterN {r : Mem} {t : Tbl} {ms : Tr Nat} {L d f m n : Nat} {args : List Value} {A : AW} {k : KV} {rs : List ResultVar} (c : Code) (hc : c = bodyOf S0 f) (hb : hasBody (SC r) f = true) (hn : ntm (SC r) f = n) (hm : maskFor ms f n = m) (hr : resOf (SC r) f = rs)
  (hl : Nat.ble args.length n = true) (ht : t f = none) :
  (lvlT (SC r) t ms L (d + 1)).call f args A k = run (SC r) m n L c (lvlT (SC r) t ms L d) none (finK (SC r) m rs k) kx242 (finK (SC r) m rs k) (sc0 m args) (tr0 m args) [] A := by
 rw [enter hb hn hm hr hl ht, bodySC, ← hc]

theorem fn_of {C : Cfg} {f : Nat} (h : hasBody C f = true) : ∃ fn, C.fns.get f = some fn ∧ fn.body = some (bodyOf C f) ∧ fn.ntmps = ntm C f ∧ fn.results.toList = resOf C f := by
 unfold hasBody at h
 unfold bodyOf ntm resOf
 split at h
 ·rename_i fn hfn
  split at h
  ·rename_i c hc
   exact ⟨fn, hfn, by simp only [hfn, hc], by simp only [hfn], by simp only [hfn]⟩
  ·cases h
 ·cases h

theorem seqA {C : Cfg} {m n L : Nat} (a b d : Code) : run C m n L (.seq a (.seq b d)) = run C m n L (.seq (.seq a b) d) := rfl

theorem run_while {C : Cfg} {m n L : Nat} {fs : FnsC} {ro : Option Nat} {kn : KS} {kx : Nat → KS} {kr : KS} (a b d : Code) (id : Nat) : run C m n L (.seq a (.seq (.block id (.loop b)) d)) fs ro kn kx kr =
  run C m n L a fs ro (cLoop (fun kl => run C m n L b fs ro kl (fun j => match Nat.beq j id with | true => run C m n L d fs ro kn kx kr | false => kx j) kr) L) kx kr := rfl
theorem run_while0 {C : Cfg} {m n L : Nat} {fs : FnsC} {ro : Option Nat} {kn : KS} {kx : Nat → KS} {kr : KS} (a b : Code) (id : Nat) : run C m n L (.seq a (.block id (.loop b))) fs ro kn kx kr =
  run C m n L a fs ro (cLoop (fun kl => run C m n L b fs ro kl (fun j => match Nat.beq j id with | true => kn | false => kx j) kr) L) kx kr := rfl

theorem run_pre {C : Cfg} {m n L : Nat} (a b d e : Code) : run C m n L (.seq a (.seq (.seq b d) e)) = run C m n L (.seq (.seq a b) (.seq d e)) := rfl

theorem beqD (a b : Int) : (a == b) = decide (a = b) := by by_cases h : a = b <;> simp [h]

theorem dT {p : Prop} [Decidable p] (h : p) : decide p = true := decide_eq_true h
theorem dF {p : Prop} [Decidable p] (h : ¬ p) : decide p = false := decide_eq_false h
theorem eqT {a b : Int} (h : a = b) : (a == b) = true := by simp [h]
theorem eqF {a b : Int} (h : a ≠ b) : (a == b) = false := by simp [h]
theorem neT {a b : Int} (h : a ≠ b) : (a != b) = true := by simp [h]
theorem neF {a b : Int} (h : a = b) : (a != b) = false := by simp [h]
theorem wrI {z : Int} (h : -9223372036854775808 ≤ z ∧ z ≤ 9223372036854775807) : IntKind.wrap .i64 z = z := IntWalk.i64_in z h

/- An entry for one call alone: these arguments, this world; what it answers, and the world behind it. -/
noncomputable def m_at (args args0 : List Value) (A A0 : AW) : Bool := @decide (args = args0 ∧ A = A0) (Classical.propDecidable _)
noncomputable def entAt (args0 : List Value) (A0 : AW) (v : Value) (A1 : AW) : Ent := ⟨fun args A => m_at args args0 A A0, fun _ _ => true, fun _ _ => v, fun _ _ => A1, fun _ _ => v, fun _ _ => A1⟩

theorem at_rfl (args : List Value) (A : AW) : m_at args args A A = true := @decide_eq_true _ (Classical.propDecidable _) ⟨rfl, rfl⟩

theorem entAt_ok {C : Cfg} {f : Nat} {args0 : List Value} {A0 : AW} {v : Value} {A1 : AW}
  (h : ∀ F, Wide F → ∀ k γ W args', WRel γ A0 W → Ro C.ro γ W → VsRel γ args0 (Array.toList args') → CallsIn F k C.P f args' W (Go.Ev.Ends γ W v A1)) : EOk C f (entAt args0 A0 v A1) := fun args A hg F hF k γ W args' hw hR ha => by
 obtain ⟨rfl, rfl⟩ := @of_decide_eq_true _ (Classical.propDecidable _) hg
 exact ⟨fun _ => h F hF k γ W args' hw hR ha, fun _ => h F hF k γ W args' hw hR ha⟩

theorem entAt_run {C : Cfg} (hC : C.Ok) {t : Tbl} (ht : TOk C t) (tm : Tr Nat) {f : Nat} {args0 : List Value} {A0 : AW} {v : Value} {A1 : AW} (h : ∃ L d, (lvlT C t tm L d).call f args0 A0 .ret = .ret v A1) : EOk C f (entAt args0 A0 v A1) :=
 entAt_ok fun F hF k γ W args' hw hR ha => by
  obtain ⟨L, d, hr⟩ := h
  have h1 := (lvlT_le (C := C) t tm L d).call _ _ _ _ _ _ hr
  cases hc : (lvlU C t tm L d).call f args0 A0 with
  | fail w => rw [hc] at h1; cases h1
  | ret u A' =>
   rw [hc] at h1
   cases h1
   exact (lvlU_ok hC ht tm L d).call γ A0 W f args0 args' v A1 hc hw hR ha F hF k

/- Entries of a table, by the shape of the arguments. -/
def eI2 (g : Int → Int → Bool) (v : Int → Int → Value) : Ent := ent (fun args _ => match args with | [.int .i64 a, .int .i64 b] => g a b | _ => false) (fun args _ => match args with | [.int .i64 a, .int .i64 b] => v a b | _ => undef)
def eI4 (g : Int → Int → Int → Int → Bool) (v : Int → Int → Int → Int → Value) : Ent := ent (fun args _ => match args with | [.int .i64 a, .int .i64 b, .int .i64 c, .int .i64 d] => g a b c d | _ => false) (fun args _ => match args with | [.int .i64 a, .int .i64 b, .int .i64 c, .int .i64 d] => v a b c d | _ => undef)
def eA2 (g : Int → Int → Bool) (v : Int → Int → Value) : Ent := ent (fun args _ => match args with | [.agg ⟨[.int .i64 a, .int .i64 b]⟩] => g a b | _ => false) (fun args _ => match args with | [.agg ⟨[.int .i64 a, .int .i64 b]⟩] => v a b | _ => undef)
def eI1 (g : Int → Bool) (v : Int → Value) : Ent := ent (fun args _ => match args with | [.int .i64 a] => g a | _ => false) (fun args _ => match args with | [.int .i64 a] => v a | _ => undef)
def eA1I (g : Int → Int → Int → Bool) (v : Int → Int → Int → Value) : Ent := ent (fun args _ => match args with | [.agg ⟨[.int .i64 a, .int .i64 b]⟩, .int .i64 c] => g a b c | _ => false) (fun args _ => match args with | [.agg ⟨[.int .i64 a, .int .i64 b]⟩, .int .i64 c] => v a b c | _ => undef)
def eAA (g : Int → Int → Int → Int → Bool) (v : Int → Int → Int → Int → Value) : Ent := ent (fun args _ => match args with | [.agg ⟨[.int .i64 a, .int .i64 b]⟩, .agg ⟨[.int .i64 c, .int .i64 d]⟩] => g a b c d | _ => false) (fun args _ => match args with | [.agg ⟨[.int .i64 a, .int .i64 b]⟩, .agg ⟨[.int .i64 c, .int .i64 d]⟩] => v a b c d | _ => undef)
def e0 (v : Value) : Ent := ent (fun args _ => match args with | [] => true | _ => false) (fun _ _ => v)

theorem eI2_ok {C : Cfg} {f : Nat} {g : Int → Int → Bool} {v : Int → Int → Value} (h : ∀ a b, g a b = true → GrT C.P C.ro f [I a, I b] (v a b)) : EOk C f (eI2 g v) := EOk.ent fun args A hg => by
 split at hg
 ·exact (h _ _ hg).ro rfl A
 ·cases hg
theorem eI4_ok {C : Cfg} {f : Nat} {g : Int → Int → Int → Int → Bool} {v : Int → Int → Int → Int → Value} (h : ∀ a b c d, g a b c d = true → GrT C.P C.ro f [I a, I b, I c, I d] (v a b c d)) : EOk C f (eI4 g v) := EOk.ent fun args A hg => by
 split at hg
 ·exact (h _ _ _ _ hg).ro rfl A
 ·cases hg
theorem eA2_ok {C : Cfg} {f : Nat} {g : Int → Int → Bool} {v : Int → Int → Value} (h : ∀ a b, g a b = true → GrT C.P C.ro f [.agg ⟨[I a, I b]⟩] (v a b)) : EOk C f (eA2 g v) := EOk.ent fun args A hg => by
 split at hg
 ·exact (h _ _ hg).ro rfl A
 ·cases hg
theorem eI1_ok {C : Cfg} {f : Nat} {g : Int → Bool} {v : Int → Value} (h : ∀ a, g a = true → GrT C.P C.ro f [I a] (v a)) : EOk C f (eI1 g v) := EOk.ent fun args A hg => by
 split at hg
 ·exact (h _ hg).ro rfl A
 ·cases hg
theorem eA1I_ok {C : Cfg} {f : Nat} {g : Int → Int → Int → Bool} {v : Int → Int → Int → Value} (h : ∀ a b c, g a b c = true → GrT C.P C.ro f [.agg ⟨[I a, I b]⟩, I c] (v a b c)) : EOk C f (eA1I g v) := EOk.ent fun args A hg => by
 split at hg
 ·exact (h _ _ _ hg).ro rfl A
 ·cases hg
theorem eAA_ok {C : Cfg} {f : Nat} {g : Int → Int → Int → Int → Bool} {v : Int → Int → Int → Int → Value} (h : ∀ a b c d, g a b c d = true → GrT C.P C.ro f [.agg ⟨[I a, I b]⟩, .agg ⟨[I c, I d]⟩] (v a b c d)) : EOk C f (eAA g v) := EOk.ent fun args A hg => by
 split at hg
 ·exact (h _ _ _ _ hg).ro rfl A
 ·cases hg
theorem e0_ok {C : Cfg} {f : Nat} {v : Value} (h : GrT C.P C.ro f [] v) : EOk C f (e0 v) := EOk.ent fun args A hg => by
 split at hg
 ·exact h.ro rfl A
 ·cases hg

end Go.Proofs

/- Edges of a graph, as numbers in a row. -/
set_option linter.unusedVariables false
set_option linter.unusedSimpArgs false
namespace Go.Num

def ea (z : Nat → Int) (i : Nat) : Int := z (2 * i)
def eb (z : Nat → Int) (i : Nat) : Int := z (2 * i + 1)
def okAt (n : Int) (z : Nat → Int) (i : Nat) : Bool :=
 decide (0 ≤ ea z i) && decide (ea z i < eb z i) && decide (eb z i < n) && (i == 0 || decide (ea z (i - 1) < ea z i) || (decide (ea z (i - 1) = ea z i) && decide (eb z (i - 1) < eb z i)))
def okFrom (n : Int) (z : Nat → Int) : Nat → Nat → Bool
 | 0, _ => true
 | j + 1, k => okAt n z k && okFrom n z j (k + 1)
def okAll (n : Int) (z : Nat → Int) (m : Nat) : Bool := okFrom n z m 0
def ckG (n : Int) (z : Nat → Int) (m : Nat) : Int := if n < 1 ∨ n > 16 then 1 else if okAll n z m = true then 0 else 40

theorem okFrom_at {n : Int} {z : Nat → Int} : ∀ (j k : Nat), okFrom n z j k = true → ∀ i, k ≤ i → i < k + j → okAt n z i = true
 | 0, _, _, i, h1, h2 => by omega
 | j + 1, k, h, i, h1, h2 => by
  simp only [okFrom, Bool.and_eq_true] at h
  by_cases c : i = k
  ·subst c; exact h.1
  ·exact okFrom_at j (k + 1) h.2 i (by omega) (by omega)
theorem okAll_at {n : Int} {z : Nat → Int} {m : Nat} (h : okAll n z m = true) (i : Nat) (hi : i < m) : 0 ≤ ea z i ∧ ea z i < eb z i ∧ eb z i < n := by
 have := okFrom_at m 0 h i (by omega) (by omega)
 simp only [okAt, Bool.and_eq_true, decide_eq_true_eq] at this
 exact ⟨this.1.1.1, this.1.1.2, this.1.2⟩
theorem ckG_0 {n : Int} {z : Nat → Int} {m : Nat} (h : ckG n z m = 0) : 1 ≤ n ∧ n ≤ 16 ∧ okAll n z m = true := by
 unfold ckG at h
 split at h
 ·cases h
 ·split at h
  ·rename_i h1 h2; exact ⟨by omega, by omega, h2⟩
  ·cases h

end Go.Num

/- The reference's check of a graph, run. -/
set_option linter.unusedVariables false
set_option linter.unusedSimpArgs false
namespace Go.Proofs
open Go Go.Ev Go.Num

noncomputable def cGh : Code := bodyOf S0 21
abbrev RS2 (b off len cap : Nat) : Value := .slice (some ⟨b, off, some 0⟩) len cap
def TGh (n : Int) (sl : Value) (i : Int) (l3 r6 : Tr Value) : Tr Value := .node (.node l3 (some sl) (.node .nil (some (I i)) .nil)) (some (I n)) (.node (.node .nil (some (.bool false)) .nil) none r6)
def oG7 (v : Value) : Tr Value := .node (.node .nil (some v) .nil) none .nil
def oG6 (v : Value) : Tr Value := .node .nil (some v) .nil

theorem ghA (r : Mem) (L : Nat) (fs : FnsC) (n : Int) (b off len cap : Nat) (kn : KS) (kx : Nat → KS) (kr : KS) : run (SC r) 243 70 L (.seq (lc cGh) (lc (lc (rc cGh)))) fs none kn kx kr (sc0 243 [I n, RS2 b off len cap]) (tr0 243 [I n, RS2 b off len cap]) [] emptyA =
    kn [] (.node (.node .nil (some (.slice (some ⟨b, off, some 0⟩) len cap)) (.node .nil (some (I (Int.ofNat 0))) .nil)) (some (I n)) (.node (.node .nil (some (.bool false)) .nil) none .nil)) [] (AW.mk 0 .nil .nil) := by kernel_rfl

theorem ghB1 (r : Mem) (L : Nat) (fs : FnsC) (n : Int) (b off len cap : Nat) (i : Int) (s : List (Nat × Value)) (kn : KS) (kx : Nat → KS) (kr : KS) : run (SC r) 243 70 L (ic (ic (rc (lc (rc cGh))))) fs none kn kx kr s (TGh n (RS2 b off len cap) i .nil .nil) [] emptyA =
    bif decide (i < Int.ofNat len) then bif decide (0 ≤ i) then bif Nat.blt (Int.toNat i) len then Option.casesOn (r b (Nat.add (Nat.add off (Nat.mul (Int.toNat i) 2)) 0)) (.fail 423) fun val => bif isI IntKind.i64 val then bif decide (0 ≤ i) then bif Nat.blt (Int.toNat i) len then Option.casesOn (r b (Nat.add (Nat.add off (Nat.mul (Int.toNat i) 2)) 1)) (.fail 423) fun val_1 => bif isI IntKind.i64 val_1 then bif decide (ofI val < 0) then kr [] (.node (.node (.node (.node .nil (some (I (ofI val_1))) .nil) none .nil) (some (.slice (some ⟨b, off, some 0⟩) len cap)) (.node .nil (some (I i)) .nil)) (some (I n)) (.node (.node .nil (some (.bool false)) .nil) none (.node .nil (some (I (ofI val))) .nil))) [] (AW.mk 0 .nil .nil) else bif decide (ofI val ≥ ofI val_1) then kr [] (.node (.node (.node (.node .nil (some (I (ofI val_1))) .nil) none .nil) (some (.slice (some ⟨b, off, some 0⟩) len cap)) (.node .nil (some (I i)) .nil)) (some (I n)) (.node (.node .nil (some (.bool false)) .nil) none (.node .nil (some (I (ofI val))) .nil))) [] (AW.mk 0 .nil .nil) else bif decide (ofI val_1 ≥ n) then kr [] (.node (.node (.node (.node .nil (some (I (ofI val_1))) .nil) none .nil) (some (.slice (some ⟨b, off, some 0⟩) len cap)) (.node .nil (some (I i)) .nil)) (some (I n)) (.node (.node .nil (some (.bool false)) .nil) none (.node .nil (some (I (ofI val))) .nil))) [] (AW.mk 0 .nil .nil) else bif decide (i > 0) then bif decide (0 ≤ IntKind.wrap .i64 (i - Int.ofNat 1)) then bif Nat.blt (Int.toNat (IntKind.wrap .i64 (i - Int.ofNat 1))) len then Option.casesOn (r b (Nat.add (Nat.add off (Nat.mul (Int.toNat (IntKind.wrap .i64 (i - Int.ofNat 1))) 2)) 0)) (.fail 423) fun val_2 => bif isI IntKind.i64 val_2 then bif decide (ofI val_2 > ofI val) then kr [] (.node (.node (.node (.node .nil (some (I (ofI val_1))) .nil) none .nil) (some (.slice (some ⟨b, off, some 0⟩) len cap)) (.node .nil (some (I i)) .nil)) (some (I n)) (.node (.node .nil (some (.bool false)) .nil) none (.node .nil (some (I (ofI val))) .nil))) [] (AW.mk 0 .nil .nil) else bif decide (0 ≤ IntKind.wrap .i64 (i - Int.ofNat 1)) then bif Nat.blt (Int.toNat (IntKind.wrap .i64 (i - Int.ofNat 1))) len then Option.casesOn (r b (Nat.add (Nat.add off (Nat.mul (Int.toNat (IntKind.wrap .i64 (i - Int.ofNat 1))) 2)) 0)) (.fail 423) fun val_3 => bif isI IntKind.i64 val_3 then bif ofI val_3 == ofI val then bif decide (0 ≤ IntKind.wrap .i64 (i - Int.ofNat 1)) then bif Nat.blt (Int.toNat (IntKind.wrap .i64 (i - Int.ofNat 1))) len then Option.casesOn (r b (Nat.add (Nat.add off (Nat.mul (Int.toNat (IntKind.wrap .i64 (i - Int.ofNat 1))) 2)) 1)) (.fail 423) fun val_4 => bif isI IntKind.i64 val_4 then bif decide (ofI val_4 ≥ ofI val_1) then kr [] (.node (.node (.node (.node .nil (some (I (ofI val_1))) .nil) none .nil) (some (.slice (some ⟨b, off, some 0⟩) len cap)) (.node .nil (some (I i)) .nil)) (some (I n)) (.node (.node .nil (some (.bool false)) .nil) none (.node .nil (some (I (ofI val))) .nil))) [] (AW.mk 0 .nil .nil) else kn [(13, I (IntKind.wrap .i64 (i + Int.ofNat 1))), (12, I i)] (.node (.node (.node (.node .nil (some (I (ofI val_1))) .nil) none .nil) (some (.slice (some ⟨b, off, some 0⟩) len cap)) (.node .nil (some (I (IntKind.wrap .i64 (i + Int.ofNat 1)))) .nil)) (some (I n)) (.node (.node .nil (some (.bool false)) .nil) none (.node .nil (some (I (ofI val))) .nil))) [] (AW.mk 0 .nil .nil) else .fail 420 else .fail 420 else .fail 420 else kn [(13, I (IntKind.wrap .i64 (i + Int.ofNat 1))), (12, I i)] (.node (.node (.node (.node .nil (some (I (ofI val_1))) .nil) none .nil) (some (.slice (some ⟨b, off, some 0⟩) len cap)) (.node .nil (some (I (IntKind.wrap .i64 (i + Int.ofNat 1)))) .nil)) (some (I n)) (.node (.node .nil (some (.bool false)) .nil) none (.node .nil (some (I (ofI val))) .nil))) [] (AW.mk 0 .nil .nil) else .fail 420 else .fail 420 else .fail 420 else .fail 420 else .fail 420 else .fail 420 else kn [(13, I (IntKind.wrap .i64 (i + Int.ofNat 1))), (12, I i)] (.node (.node (.node (.node .nil (some (I (ofI val_1))) .nil) none .nil) (some (.slice (some ⟨b, off, some 0⟩) len cap)) (.node .nil (some (I (IntKind.wrap .i64 (i + Int.ofNat 1)))) .nil)) (some (I n)) (.node (.node .nil (some (.bool false)) .nil) none (.node .nil (some (I (ofI val))) .nil))) [] (AW.mk 0 .nil .nil) else .fail 420 else .fail 420 else .fail 420 else .fail 420 else .fail 420 else .fail 420 else kx 0 [(11, .bool false), (10, I (Int.ofNat len)), (9, .slice (some ⟨b, off, some 0⟩) len cap), (8, I i)] (.node (.node .nil (some (.slice (some ⟨b, off, some 0⟩) len cap)) (.node .nil (some (I i)) .nil)) (some (I n)) (.node (.node .nil (some (.bool false)) .nil) none .nil)) [] (AW.mk 0 .nil .nil) := by kernel_rfl

theorem ghB2 (r : Mem) (L : Nat) (fs : FnsC) (n : Int) (b off len cap : Nat) (i : Int) (v6 v7 : Value) (s : List (Nat × Value)) (kn : KS) (kx : Nat → KS) (kr : KS) : run (SC r) 243 70 L (ic (ic (rc (lc (rc cGh))))) fs none kn kx kr s (TGh n (RS2 b off len cap) i (oG7 v7) (oG6 v6)) [] emptyA =
    bif decide (i < Int.ofNat len) then bif decide (0 ≤ i) then bif Nat.blt (Int.toNat i) len then Option.casesOn (r b (Nat.add (Nat.add off (Nat.mul (Int.toNat i) 2)) 0)) (.fail 423) fun val => bif isI IntKind.i64 val then bif decide (0 ≤ i) then bif Nat.blt (Int.toNat i) len then Option.casesOn (r b (Nat.add (Nat.add off (Nat.mul (Int.toNat i) 2)) 1)) (.fail 423) fun val_1 => bif isI IntKind.i64 val_1 then bif decide (ofI val < 0) then kr [] (.node (.node (.node (.node .nil (some (I (ofI val_1))) .nil) none .nil) (some (.slice (some ⟨b, off, some 0⟩) len cap)) (.node .nil (some (I i)) .nil)) (some (I n)) (.node (.node .nil (some (.bool false)) .nil) none (.node .nil (some (I (ofI val))) .nil))) [] (AW.mk 0 .nil .nil) else bif decide (ofI val ≥ ofI val_1) then kr [] (.node (.node (.node (.node .nil (some (I (ofI val_1))) .nil) none .nil) (some (.slice (some ⟨b, off, some 0⟩) len cap)) (.node .nil (some (I i)) .nil)) (some (I n)) (.node (.node .nil (some (.bool false)) .nil) none (.node .nil (some (I (ofI val))) .nil))) [] (AW.mk 0 .nil .nil) else bif decide (ofI val_1 ≥ n) then kr [] (.node (.node (.node (.node .nil (some (I (ofI val_1))) .nil) none .nil) (some (.slice (some ⟨b, off, some 0⟩) len cap)) (.node .nil (some (I i)) .nil)) (some (I n)) (.node (.node .nil (some (.bool false)) .nil) none (.node .nil (some (I (ofI val))) .nil))) [] (AW.mk 0 .nil .nil) else bif decide (i > 0) then bif decide (0 ≤ IntKind.wrap .i64 (i - Int.ofNat 1)) then bif Nat.blt (Int.toNat (IntKind.wrap .i64 (i - Int.ofNat 1))) len then Option.casesOn (r b (Nat.add (Nat.add off (Nat.mul (Int.toNat (IntKind.wrap .i64 (i - Int.ofNat 1))) 2)) 0)) (.fail 423) fun val_2 => bif isI IntKind.i64 val_2 then bif decide (ofI val_2 > ofI val) then kr [] (.node (.node (.node (.node .nil (some (I (ofI val_1))) .nil) none .nil) (some (.slice (some ⟨b, off, some 0⟩) len cap)) (.node .nil (some (I i)) .nil)) (some (I n)) (.node (.node .nil (some (.bool false)) .nil) none (.node .nil (some (I (ofI val))) .nil))) [] (AW.mk 0 .nil .nil) else bif decide (0 ≤ IntKind.wrap .i64 (i - Int.ofNat 1)) then bif Nat.blt (Int.toNat (IntKind.wrap .i64 (i - Int.ofNat 1))) len then Option.casesOn (r b (Nat.add (Nat.add off (Nat.mul (Int.toNat (IntKind.wrap .i64 (i - Int.ofNat 1))) 2)) 0)) (.fail 423) fun val_3 => bif isI IntKind.i64 val_3 then bif ofI val_3 == ofI val then bif decide (0 ≤ IntKind.wrap .i64 (i - Int.ofNat 1)) then bif Nat.blt (Int.toNat (IntKind.wrap .i64 (i - Int.ofNat 1))) len then Option.casesOn (r b (Nat.add (Nat.add off (Nat.mul (Int.toNat (IntKind.wrap .i64 (i - Int.ofNat 1))) 2)) 1)) (.fail 423) fun val_4 => bif isI IntKind.i64 val_4 then bif decide (ofI val_4 ≥ ofI val_1) then kr [] (.node (.node (.node (.node .nil (some (I (ofI val_1))) .nil) none .nil) (some (.slice (some ⟨b, off, some 0⟩) len cap)) (.node .nil (some (I i)) .nil)) (some (I n)) (.node (.node .nil (some (.bool false)) .nil) none (.node .nil (some (I (ofI val))) .nil))) [] (AW.mk 0 .nil .nil) else kn [(13, I (IntKind.wrap .i64 (i + Int.ofNat 1))), (12, I i)] (.node (.node (.node (.node .nil (some (I (ofI val_1))) .nil) none .nil) (some (.slice (some ⟨b, off, some 0⟩) len cap)) (.node .nil (some (I (IntKind.wrap .i64 (i + Int.ofNat 1)))) .nil)) (some (I n)) (.node (.node .nil (some (.bool false)) .nil) none (.node .nil (some (I (ofI val))) .nil))) [] (AW.mk 0 .nil .nil) else .fail 420 else .fail 420 else .fail 420 else kn [(13, I (IntKind.wrap .i64 (i + Int.ofNat 1))), (12, I i)] (.node (.node (.node (.node .nil (some (I (ofI val_1))) .nil) none .nil) (some (.slice (some ⟨b, off, some 0⟩) len cap)) (.node .nil (some (I (IntKind.wrap .i64 (i + Int.ofNat 1)))) .nil)) (some (I n)) (.node (.node .nil (some (.bool false)) .nil) none (.node .nil (some (I (ofI val))) .nil))) [] (AW.mk 0 .nil .nil) else .fail 420 else .fail 420 else .fail 420 else .fail 420 else .fail 420 else .fail 420 else kn [(13, I (IntKind.wrap .i64 (i + Int.ofNat 1))), (12, I i)] (.node (.node (.node (.node .nil (some (I (ofI val_1))) .nil) none .nil) (some (.slice (some ⟨b, off, some 0⟩) len cap)) (.node .nil (some (I (IntKind.wrap .i64 (i + Int.ofNat 1)))) .nil)) (some (I n)) (.node (.node .nil (some (.bool false)) .nil) none (.node .nil (some (I (ofI val))) .nil))) [] (AW.mk 0 .nil .nil) else .fail 420 else .fail 420 else .fail 420 else .fail 420 else .fail 420 else .fail 420 else kx 0 [(11, .bool false), (10, I (Int.ofNat len)), (9, .slice (some ⟨b, off, some 0⟩) len cap), (8, I i)] (.node (.node (.node (.node .nil (some v7) .nil) none .nil) (some (.slice (some ⟨b, off, some 0⟩) len cap)) (.node .nil (some (I i)) .nil)) (some (I n)) (.node (.node .nil (some (.bool false)) .nil) none (.node .nil (some v6) .nil))) [] (AW.mk 0 .nil .nil) := by kernel_rfl

theorem ghC (r : Mem) (L : Nat) (fs : FnsC) (n : Int) (sl : Value) (i : Int) (l3 r6 : Tr Value) (s : List (Nat × Value)) (kn : KS) (kx : Nat → KS) (kr : KS) : run (SC r) 243 70 L (rc (rc cGh)) fs none kn kx kr s (TGh n sl i l3 r6) [] emptyA =
    kr [] (.node (.node l3 (some sl) (.node .nil (some (I i)) .nil)) (some (I n)) (.node (.node .nil (some (.bool true)) .nil) none r6)) [] (AW.mk 0 .nil .nil) := by kernel_rfl

end Go.Proofs

/- The reference's check of a graph: what the calls answer. -/
set_option linter.unusedVariables false
set_option linter.unusedSimpArgs false
namespace Go.Proofs
open Go Go.Ev Go.Num

def rowAt (r : Mem) (b off m : Nat) (z : Nat → Int) : Prop := ∀ j, j < m → r b (off + j) = some (I (z j))

theorem gh_round1 (r : Mem) (L : Nat) (fs : FnsC) (n : Int) (b off len cap : Nat) (z : Nat → Int) (hz : rowAt r b off (2 * len) z) (hl : len ≤ 1000000) (k : Nat) (hk : k < len) (s : List (Nat × Value)) (kn : KS) (kx : Nat → KS) (kr : KS) (R : CR)
  (hF : okAt n z k = false → ∀ s l3 r6, kr s (TGh n (RS2 b off len cap) k l3 r6) [] emptyA = R) (hT : okAt n z k = true → ∀ s v6 v7, kn s (TGh n (RS2 b off len cap) ((k + 1 : Nat) : Int) (oG7 v7) (oG6 v6)) [] emptyA = R) :
  run (SC r) 243 70 L (ic (ic (rc (lc (rc cGh))))) fs none kn kx kr s (TGh n (RS2 b off len cap) k .nil .nil) [] emptyA = R := by
 rw [ghB1]
 have c1 : (k : Int) < Int.ofNat len := by simp; omega
 have c2 : 0 ≤ (k : Int) := by omega
 have c3 : Nat.blt k len = true := Nat.ble_eq_true_of_le (by omega)
 have l0 : r b (Nat.add (Nat.add off (Nat.mul k 2)) 0) = some (I (ea z k)) := by
  have := hz (2 * k) (by omega)
  rw [show Nat.add (Nat.add off (Nat.mul k 2)) 0 = off + 2 * k by simp [Nat.mul_comm]]
  exact this
 have l1 : r b (Nat.add (Nat.add off (Nat.mul k 2)) 1) = some (I (eb z k)) := by
  have := hz (2 * k + 1) (by omega)
  rw [show Nat.add (Nat.add off (Nat.mul k 2)) 1 = off + (2 * k + 1) by simp [Nat.mul_comm]; omega]
  exact this
 have w : IntKind.wrap IntKind.i64 ((k : Int) + Int.ofNat 1) = ((k + 1 : Nat) : Int) := by rw [wrI (by simp; omega)]; simp
 have ii : ∀ x, isI IntKind.i64 (I x) = true := fun _ => rfl
 have oo : ∀ x, ofI (I x) = x := fun _ => rfl
 simp only [dT c1, dT c2, c3, cond_true, Int.toNat_natCast, l0, l1, ii, oo, w]
 by_cases d1 : ea z k < 0
 ·simp only [dT d1, cond_true]
  exact hF (by simp [okAt, show ¬ 0 ≤ ea z k by omega]) _ _ _
 ·simp only [dF d1, cond_false]
  by_cases d2 : ea z k ≥ eb z k
  ·simp only [dT d2, cond_true]
   exact hF (by simp [okAt, show ¬ ea z k < eb z k by omega]) _ _ _
  ·simp only [dF d2, cond_false]
   by_cases d3 : eb z k ≥ n
   ·simp only [dT d3, cond_true]
    exact hF (by simp [okAt, show ¬ eb z k < n by omega]) _ _ _
   ·simp only [dF d3, cond_false]
    have b1 : 0 ≤ ea z k := by omega
    have b2 : ea z k < eb z k := by omega
    have b3 : eb z k < n := by omega
    by_cases d4 : (k : Int) > 0
    ·have w1 : IntKind.wrap IntKind.i64 ((k : Int) - Int.ofNat 1) = ((k - 1 : Nat) : Int) := by rw [wrI (by simp; omega)]; simp; omega
     have c4 : 0 ≤ ((k - 1 : Nat) : Int) := by omega
     have c5 : Nat.blt (k - 1) len = true := Nat.ble_eq_true_of_le (by omega)
     have p0 : r b (Nat.add (Nat.add off (Nat.mul (k - 1) 2)) 0) = some (I (ea z (k - 1))) := by
      have := hz (2 * (k - 1)) (by omega)
      rw [show Nat.add (Nat.add off (Nat.mul (k - 1) 2)) 0 = off + 2 * (k - 1) by simp [Nat.mul_comm]]
      exact this
     have p1 : r b (Nat.add (Nat.add off (Nat.mul (k - 1) 2)) 1) = some (I (eb z (k - 1))) := by
      have := hz (2 * (k - 1) + 1) (by omega)
      rw [show Nat.add (Nat.add off (Nat.mul (k - 1) 2)) 1 = off + (2 * (k - 1) + 1) by simp [Nat.mul_comm]; omega]
      exact this
     have k0 : (k == 0) = false := by simp; omega
     simp only [dT d4, cond_true, w1, dT c4, Int.toNat_natCast, c5, p0, p1, ii, oo]
     by_cases d5 : ea z (k - 1) > ea z k
     ·simp only [dT d5, cond_true]
      exact hF (by simp [okAt, k0, show ¬ ea z (k - 1) < ea z k by omega, show ¬ ea z (k - 1) = ea z k by omega]) _ _ _
     ·simp only [dF d5, cond_false]
      by_cases d6 : ea z (k - 1) = ea z k
      ·simp only [eqT d6, cond_true]
       by_cases d7 : eb z (k - 1) ≥ eb z k
       ·simp only [dT d7, cond_true]
        exact hF (by simp [okAt, k0, d6, show ¬ eb z (k - 1) < eb z k by omega]) _ _ _
       ·simp only [dF d7, cond_false]
        exact hT (by simp [okAt, k0, d6, b1, b2, b3]; omega) _ _ _
      ·simp only [eqF d6, cond_false]
       exact hT (by simp [okAt, k0, b1, b2, b3]; omega) _ _ _
    ·have k0 : k = 0 := by omega
     simp only [dF d4, cond_false]
     exact hT (by subst k0; simp [okAt, b1, b2, b3]) _ _ _
theorem gh_round2 (r : Mem) (L : Nat) (fs : FnsC) (n : Int) (b off len cap : Nat) (z : Nat → Int) (hz : rowAt r b off (2 * len) z) (hl : len ≤ 1000000) (k : Nat) (hk : k < len) (v6' v7' : Value) (s : List (Nat × Value)) (kn : KS) (kx : Nat → KS) (kr : KS) (R : CR)
  (hF : okAt n z k = false → ∀ s l3 r6, kr s (TGh n (RS2 b off len cap) k l3 r6) [] emptyA = R) (hT : okAt n z k = true → ∀ s v6 v7, kn s (TGh n (RS2 b off len cap) ((k + 1 : Nat) : Int) (oG7 v7) (oG6 v6)) [] emptyA = R) :
  run (SC r) 243 70 L (ic (ic (rc (lc (rc cGh))))) fs none kn kx kr s (TGh n (RS2 b off len cap) k (oG7 v7') (oG6 v6')) [] emptyA = R := by
 rw [ghB2]
 have c1 : (k : Int) < Int.ofNat len := by simp; omega
 have c2 : 0 ≤ (k : Int) := by omega
 have c3 : Nat.blt k len = true := Nat.ble_eq_true_of_le (by omega)
 have l0 : r b (Nat.add (Nat.add off (Nat.mul k 2)) 0) = some (I (ea z k)) := by
  have := hz (2 * k) (by omega)
  rw [show Nat.add (Nat.add off (Nat.mul k 2)) 0 = off + 2 * k by simp [Nat.mul_comm]]
  exact this
 have l1 : r b (Nat.add (Nat.add off (Nat.mul k 2)) 1) = some (I (eb z k)) := by
  have := hz (2 * k + 1) (by omega)
  rw [show Nat.add (Nat.add off (Nat.mul k 2)) 1 = off + (2 * k + 1) by simp [Nat.mul_comm]; omega]
  exact this
 have w : IntKind.wrap IntKind.i64 ((k : Int) + Int.ofNat 1) = ((k + 1 : Nat) : Int) := by rw [wrI (by simp; omega)]; simp
 have ii : ∀ x, isI IntKind.i64 (I x) = true := fun _ => rfl
 have oo : ∀ x, ofI (I x) = x := fun _ => rfl
 simp only [dT c1, dT c2, c3, cond_true, Int.toNat_natCast, l0, l1, ii, oo, w]
 by_cases d1 : ea z k < 0
 ·simp only [dT d1, cond_true]
  exact hF (by simp [okAt, show ¬ 0 ≤ ea z k by omega]) _ _ _
 ·simp only [dF d1, cond_false]
  by_cases d2 : ea z k ≥ eb z k
  ·simp only [dT d2, cond_true]
   exact hF (by simp [okAt, show ¬ ea z k < eb z k by omega]) _ _ _
  ·simp only [dF d2, cond_false]
   by_cases d3 : eb z k ≥ n
   ·simp only [dT d3, cond_true]
    exact hF (by simp [okAt, show ¬ eb z k < n by omega]) _ _ _
   ·simp only [dF d3, cond_false]
    have b1 : 0 ≤ ea z k := by omega
    have b2 : ea z k < eb z k := by omega
    have b3 : eb z k < n := by omega
    by_cases d4 : (k : Int) > 0
    ·have w1 : IntKind.wrap IntKind.i64 ((k : Int) - Int.ofNat 1) = ((k - 1 : Nat) : Int) := by rw [wrI (by simp; omega)]; simp; omega
     have c4 : 0 ≤ ((k - 1 : Nat) : Int) := by omega
     have c5 : Nat.blt (k - 1) len = true := Nat.ble_eq_true_of_le (by omega)
     have p0 : r b (Nat.add (Nat.add off (Nat.mul (k - 1) 2)) 0) = some (I (ea z (k - 1))) := by
      have := hz (2 * (k - 1)) (by omega)
      rw [show Nat.add (Nat.add off (Nat.mul (k - 1) 2)) 0 = off + 2 * (k - 1) by simp [Nat.mul_comm]]
      exact this
     have p1 : r b (Nat.add (Nat.add off (Nat.mul (k - 1) 2)) 1) = some (I (eb z (k - 1))) := by
      have := hz (2 * (k - 1) + 1) (by omega)
      rw [show Nat.add (Nat.add off (Nat.mul (k - 1) 2)) 1 = off + (2 * (k - 1) + 1) by simp [Nat.mul_comm]; omega]
      exact this
     have k0 : (k == 0) = false := by simp; omega
     simp only [dT d4, cond_true, w1, dT c4, Int.toNat_natCast, c5, p0, p1, ii, oo]
     by_cases d5 : ea z (k - 1) > ea z k
     ·simp only [dT d5, cond_true]
      exact hF (by simp [okAt, k0, show ¬ ea z (k - 1) < ea z k by omega, show ¬ ea z (k - 1) = ea z k by omega]) _ _ _
     ·simp only [dF d5, cond_false]
      by_cases d6 : ea z (k - 1) = ea z k
      ·simp only [eqT d6, cond_true]
       by_cases d7 : eb z (k - 1) ≥ eb z k
       ·simp only [dT d7, cond_true]
        exact hF (by simp [okAt, k0, d6, show ¬ eb z (k - 1) < eb z k by omega]) _ _ _
       ·simp only [dF d7, cond_false]
        exact hT (by simp [okAt, k0, d6, b1, b2, b3]; omega) _ _ _
      ·simp only [eqF d6, cond_false]
       exact hT (by simp [okAt, k0, b1, b2, b3]; omega) _ _ _
    ·have k0 : k = 0 := by omega
     simp only [dF d4, cond_false]
     exact hT (by subst k0; simp [okAt, b1, b2, b3]) _ _ _

theorem gh_loop (r : Mem) (L : Nat) (fs : FnsC) (kx : Nat → KS) (kr : KS) (n : Int) (b off len cap : Nat) (z : Nat → Int) (hz : rowAt r b off (2 * len) z) (hl : len ≤ 1000000) (V : Bool) (R : CR)
  (hT : V = true → ∀ s i l3 r6, kx 0 s (TGh n (RS2 b off len cap) i l3 r6) [] emptyA = R) (hF : V = false → ∀ s i l3 r6, kr s (TGh n (RS2 b off len cap) i l3 r6) [] emptyA = R) :
  ∀ (j k : Nat) (s : List (Nat × Value)), k ≤ len → len - k < j → okFrom n z (len - k) k = V →
  cLoop (fun kl => run (SC r) 243 70 L (ic (ic (rc (lc (rc cGh))))) fs none kl kx kr) j s (TGh n (RS2 b off len cap) k .nil .nil) [] emptyA = R ∧
  ∀ v6 v7, cLoop (fun kl => run (SC r) 243 70 L (ic (ic (rc (lc (rc cGh))))) fs none kl kx kr) j s (TGh n (RS2 b off len cap) k (oG7 v7) (oG6 v6)) [] emptyA = R := by
 intro j
 induction j with
 | zero => intro k s _ h; omega
 | succ j ih =>
  intro k s hk hj hV
  rw [cLoop_succ]
  by_cases c : k < len
  ·have e : len - k = (len - (k + 1)) + 1 := by omega
   rw [e, okFrom] at hV
   have f1 : okAt n z k = false → V = false := fun h => by rw [h, Bool.false_and] at hV; exact hV.symm
   have f2 : okAt n z k = true → okFrom n z (len - (k + 1)) (k + 1) = V := fun h => by rw [h, Bool.true_and] at hV; exact hV
   refine ⟨?_, fun v6 v7 => ?_⟩
   ·exact gh_round1 r L fs n b off len cap z hz hl k c s _ _ _ R (fun h s l3 r6 => hF (f1 h) s _ l3 r6) fun h s v6 v7 => (ih (k + 1) s (by omega) (by omega) (f2 h)).2 v6 v7
   ·exact gh_round2 r L fs n b off len cap z hz hl k c v6 v7 s _ _ _ R (fun h s l3 r6 => hF (f1 h) s _ l3 r6) fun h s v6 v7 => (ih (k + 1) s (by omega) (by omega) (f2 h)).2 v6 v7
  ·have c1 : ¬ (k : Int) < Int.ofNat len := by simp; omega
   have e : len - k = 0 := by omega
   rw [e, okFrom] at hV
   refine ⟨?_, fun v6 v7 => ?_⟩
   ·rw [ghB1, dF c1, cond_false]
    exact hT hV.symm _ _ .nil .nil
   ·rw [ghB2, dF c1, cond_false]
    exact hT hV.symm _ _ (oG7 v7) (oG6 v6)

theorem cGh_eq : cGh = .seq (lc cGh) (.seq (.seq (lc (lc (rc cGh))) (.block 0 (.loop (ic (ic (rc (lc (rc cGh)))))))) (rc (rc cGh))) := by kernel_rfl
def mskGh : Tr Nat := Tr.nil.put 21 (some 243)

theorem edges_ok (r : Mem) (n : Int) (b off len cap : Nat) (z : Nat → Int) (hz : rowAt r b off (2 * len) z) (hl : len ≤ 1000000) : GrT Tryz.prog r 21 [I n, RS2 b off len cap] (.bool (okAll n z len)) := by
 refine GrT.of (SC_ok r) TOk.nil mskGh rfl ⟨len + 1, 1, ?_⟩
 rw [enterN (m := 243) (n := 70) (rs := [.tmp 4]) cGh rfl (by kernel_rfl) (by kernel_rfl) (by kernel_rfl) (by kernel_rfl) (by kernel_rfl) rfl]
 generalize hk : finK (SC r) 243 [.tmp 4] fin = kr
 rw [cGh_eq, run_pre, run_while, ghA]
 refine (gh_loop r _ _ _ _ n b off len cap z hz hl (okAll n z len) _ ?_ ?_ _ 0 _ (by omega) (by omega) rfl).1
 ·intro hV s i l3 r6
  refine (ghC r _ _ n _ i l3 r6 s _ _ _).trans ?_
  rw [hV, ← hk]; rfl
 ·intro hV s i l3 r6
  rw [hV, ← hk]; rfl

end Go.Proofs

/- Rows of numbers, by a function. -/
namespace Go.Proofs
open Go Go.Ev Go.Num
set_option linter.unusedVariables false
set_option linter.unusedSimpArgs false
set_option maxRecDepth 100000

def ixN (f : Nat → Int) (m : Nat) : List Value := (List.range m).map fun j => I (f j)
theorem ix_len (f : Nat → Int) (m : Nat) : (ixN f m).length = m := by simp [ixN]
theorem ix_get {f : Nat → Int} {m j : Nat} (h : j < m) : (ixN f m)[j]? = some (I (f j)) := by simp [ixN, h]
theorem ix_nn (f : Nat → Int) (m : Nat) : m_nns (ixN f m) = true := by
 unfold ixN
 generalize List.range m = l
 induction l with
 | nil => rfl
 | cons x l ih => exact ih
theorem ix_gnd (f : Nat → Int) (m : Nat) : gnds (ixN f m) = true := by
 unfold ixN
 generalize List.range m = l
 induction l with
 | nil => rfl
 | cons x l ih => exact ih
theorem ix_ext {f g : Nat → Int} {m : Nat} (h : ∀ j, j < m → f j = g j) : ixN f m = ixN g m := by
 unfold ixN
 exact List.map_congr_left fun j hj => by rw [h j (List.mem_range.1 hj)]
theorem ix_set (f : Nat → Int) (m k : Nat) (v : Int) : (ixN f m).set k (I v) = ixN (fun j => if j = k then v else f j) m := by
 apply List.ext_getElem?
 intro j
 rw [List.getElem?_set]
 by_cases c : j < m
 ·rw [ix_get c, ix_get c, ix_len]
  by_cases d : k = j
  ·subst d; simp [c]
  ·have d' : ¬ j = k := fun e => d e.symm
   simp [d, d']
 ·have h1 : (ixN f m)[j]? = none := List.getElem?_eq_none (by rw [ix_len]; omega)
  have h2 : (ixN (fun j => if j = k then v else f j) m)[j]? = none := List.getElem?_eq_none (by rw [ix_len]; omega)
  rw [h1, h2, ix_len]
  split <;> rename_i e <;> simp [c, e]
theorem ix_set1 {f : Nat → Int} {m k : Nat} {v : Int} (h : k < m) : setAt (ixN f m) k [I v] = some (ixN (fun j => if j = k then v else f j) m) := by
 rw [setAt_one _ _ _ (by rw [ix_len]; exact h), ix_set]
theorem setA0_two : ∀ (c : List Value) (k : Nat) (v w : Value), k + 1 < c.length → setA0 c k [v, w] = some ((c.set k v).set (k + 1) w)
 | [], k, v, w, h => by simp at h
 | [x], k, v, w, h => by simp at h
 | x :: y :: l, 0, v, w, h => by simp [setA0]
 | x :: y :: l, k + 1, v, w, h => by
  have := setA0_two (y :: l) k v w (by simpa using h)
  simp only [setA0, this, List.set_cons_succ]
theorem ix_set2 {f : Nat → Int} {m k : Nat} {v w : Int} (h : k + 1 < m) : setAt (ixN f m) k [I v, I w] = some (ixN (fun j => if j = k + 1 then w else if j = k then v else f j) m) := by
 rw [setAt_old, setA0_two _ _ _ _ (by rw [ix_len]; exact h), ix_set, ix_set]
theorem ix_zero1 (n : Nat) : zerosL (Nat.mul n 1) [I (Int.ofNat 0)] = ixN (fun _ => 0) n := by
 show List.replicate (Nat.mul n 1) (I 0) = _
 rw [Nat.mul_eq, Nat.mul_one]
 apply List.ext_getElem?
 intro j
 by_cases c : j < n
 ·rw [ix_get c, List.getElem?_replicate, if_pos c]
 ·rw [List.getElem?_eq_none (by rw [List.length_replicate]; omega), List.getElem?_eq_none (by rw [ix_len]; omega)]
theorem ix_zero2 (n : Nat) : zerosL (Nat.mul n 2) [I (Int.ofNat 0), I (Int.ofNat 0)] = ixN (fun _ => 0) (2 * n) := by
 show (List.range (Nat.mul n 2)).map (fun j => match [I (Int.ofNat 0), I (Int.ofNat 0)][Nat.mod j 2]? with | some z => z | none => (default : Value)) = _
 unfold ixN
 rw [Nat.mul_eq, Nat.mul_comm]
 refine List.map_congr_left fun j _ => ?_
 have : ∀ k, k < 2 → (match [I (Int.ofNat 0), I (Int.ofNat 0)][k]? with | some z => z | none => (default : Value)) = I 0 := fun k hk => by
  match k, hk with
  | 0, _ => rfl
  | 1, _ => rfl
 exact this _ (Nat.mod_lt _ (by omega))
theorem isI_I (z : Int) : isI .i64 (I z) = true := rfl
theorem ofI_I (z : Int) : ofI (I z) = z := rfl

theorem SOk.mono {C : Cfg} {f : Nat} {args : List Value} {A : AW} {S S' : Value → AW → Prop} (h : SOk C f args A S) (hs : ∀ v A', S v A' → S' v A') : SOk C f args A S' := fun F hF k γ W args' hw hR ha =>
 (h F hF k γ W args' hw hR ha).mono fun e W' he => by
  obtain ⟨v, A', h1, h2⟩ := he
  exact ⟨v, A', hs v A' h1, h2⟩
theorem SOk.at {C : Cfg} {f : Nat} {args : List Value} {A A1 : AW} {v : Value} (h : SOk C f args A fun u B => u = v ∧ B = A1) : EOk C f (entAt args A v A1) := entAt_ok fun F hF k γ W args' hw hR ha => h.one F hF k γ W args' hw hR ha
theorem inc1 {k : Nat} (h : k ≤ 2000000) : IntKind.wrap IntKind.i64 (Int.ofNat k + Int.ofNat 1) = ((k + 1 : Nat) : Int) := by rw [wrI (by simp; omega)]; simp
theorem inc1' {k : Nat} (h : k ≤ 2000000) : IntKind.wrap IntKind.i64 ((k : Int) + Int.ofNat 1) = ((k + 1 : Nat) : Int) := by rw [wrI (by simp; omega)]; simp

def rowI (e : List Int) : List Value := e.map fun x => I x
theorem rowI_len (e : List Int) : (rowI e).length = e.length := by simp [rowI]
theorem rowI_nn (e : List Int) : m_nns (rowI e) = true := by
 induction e with
 | nil => rfl
 | cons x l ih => exact ih
theorem rowI_get {e : List Int} {k : Nat} (h : k < e.length) : (rowI e)[k]? = some (I (e.getD k 0)) := by
 simp [rowI, h, List.getD_eq_getElem?_getD]
theorem rowI_set (e : List Int) (k : Nat) (x : Int) : (rowI e).set k (I x) = rowI (e.set k x) := by simp [rowI, List.map_set]
theorem rowI_app (e : List Int) (x : Int) : rowI e ++ [I x] = rowI (e ++ [x]) := by simp [rowI]
theorem app_set (e : List Int) (x y : Int) : (e ++ [x]).set e.length y = e ++ [y] := by
 rw [List.set_append_right _ _ (Nat.le_refl _)]
 simp
theorem takeL_row (c : List Value) (n : Nat) (h : c.length = n) : takeAt c 0 n = some c := takeAt_all c n 0 c h fun j hj => by rw [Nat.zero_add]
theorem rowI_gnd (e : List Int) : gnds (rowI e) = true := by
 induction e with
 | nil => rfl
 | cons x l ih => exact ih
theorem rowI_ones (e : List Int) : ones (rowI e) = true := by
 induction e with
 | nil => rfl
 | cons x l ih => exact ih
theorem rowI_ix (f : Nat → Int) (m : Nat) : ixN f m = rowI ((List.range m).map f) := by
 unfold ixN rowI
 rw [List.map_map]
 rfl
theorem rowI_take {e : List Int} {j : Nat} (h : j ≤ e.length) : takeAt (rowI e) 0 j = some (rowI (e.take j)) :=
 takeAt_all _ _ _ _ (by rw [rowI_len, List.length_take]; omega) fun i hi => by
  rw [Nat.zero_add]
  unfold rowI
  rw [List.getElem?_map, List.getElem?_map, List.getElem?_take_of_lt hi]
theorem rowI_drop {e : List Int} {j m : Nat} (h : j + m = e.length) : takeAt (rowI e) j m = some (rowI (e.drop j)) :=
 takeAt_all _ _ _ _ (by rw [rowI_len, List.length_drop]; omega) fun i hi => by
  unfold rowI
  rw [List.getElem?_map, List.getElem?_map, List.getElem?_drop]
end Go.Proofs

/- An entry for some arguments alone (for seats without a graph's join). -/
set_option linter.unusedVariables false
set_option linter.unusedSimpArgs false
namespace Go.Proofs
open Go Go.Ev Go.Num

noncomputable def m_same (a b : List Value) : Bool := @decide (a = b) (Classical.propDecidable _)
noncomputable def entV (args0 : List Value) (v : Value) : Ent := ent (fun args _ => m_same args args0) (fun _ _ => v)
theorem same_rfl (a : List Value) : m_same a a = true := @decide_eq_true _ (Classical.propDecidable _) rfl
theorem entV_ok {C : Cfg} {f : Nat} {args0 : List Value} {v : Value} (h : GrT C.P C.ro f args0 v) (hr : roVs args0 = true) : EOk C f (entV args0 v) := EOk.ent fun args A hg => by
 have := @of_decide_eq_true _ (Classical.propDecidable _) hg
 subst this
 exact h.ro hr A

end Go.Proofs

/- The reference's graph of edges, run. -/
set_option linter.unusedVariables false
set_option linter.unusedSimpArgs false
namespace Go.Proofs
open Go Go.Ev Go.Num

noncomputable def cOf : Code := bodyOf S0 22
def TOf (n : Int) (sl : Value) (m : Nat) (i : Int) (l7 l8 : Tr Value) : Tr Value := .node (.node l7 (some sl) (.node .nil (some (.slice (some ⟨0, 0, none⟩) m m)) .nil)) (some (I n)) (.node (.node l8 (some (.slice none 0 0)) .nil) none (.node .nil (some (I i)) .nil))
def oO7 (v : Value) : Tr Value := .node (.node .nil (some v) .nil) none .nil
def oO8 (v : Value) : Tr Value := .node .nil (some v) .nil
def AOf (g : List Value) : AW := AW.mk 1 (.node .nil (some (.cells g 3 0 1)) .nil) .nil

theorem ofA (r : Mem) (L : Nat) (fs : FnsC) (n : Int) (b off len cap : Nat) (kn : KS) (kx : Nat → KS) (kr : KS) : run (SC r) 499 48 L (.seq (.seq (lc cOf) (lc (rc cOf))) (lc (lc (rc (rc cOf))))) fs none kn kx kr (sc0 499 [I n, RS2 b off len cap]) (tr0 499 [I n, RS2 b off len cap]) [] emptyA =
    bif decide (0 ≤ n) then bif decide (0 ≤ n) then bif Nat.ble (Int.toNat n) (Int.toNat n) then bif Nat.ble (Int.toNat n) 1000000 then kn [] (.node (.node .nil (some (.slice (some ⟨b, off, some 0⟩) len cap)) (.node .nil (some (.slice (some ⟨0, 0, none⟩) (Int.toNat n) (Int.toNat n))) .nil)) (some (I n)) (.node (.node .nil (some (.slice none 0 0)) .nil) none (.node .nil (some (I (Int.ofNat 0))) .nil))) [] (AW.mk 1 (.node .nil (some (.cells (zerosL (Nat.mul (Int.toNat n) 1) [I (Int.ofNat 0)]) 3 0 1)) .nil) .nil) else .fail 420 else .fail 420 else .fail 420 else .fail 420 := by kernel_rfl

theorem ofB1 (r : Mem) (L : Nat) (fs : FnsC) (n : Int) (b off len cap m : Nat) (i : Int) (g : List Value) (s : List (Nat × Value)) (kn : KS) (kx : Nat → KS) (kr : KS) : run (SC r) 499 48 L (ic (ic (rc (lc (rc (rc cOf)))))) fs none kn kx kr s (TOf n (RS2 b off len cap) m i .nil .nil) [] (AOf g) =
    bif decide (i < Int.ofNat len) then bif decide (0 ≤ i) then bif Nat.blt (Int.toNat i) len then Option.casesOn (r b (Nat.add (Nat.add off (Nat.mul (Int.toNat i) 2)) 0)) (.fail 423) fun val => bif isI IntKind.i64 val then bif decide (0 ≤ i) then bif Nat.blt (Int.toNat i) len then Option.casesOn (r b (Nat.add (Nat.add off (Nat.mul (Int.toNat i) 2)) 1)) (.fail 423) fun val_1 => bif isI IntKind.i64 val_1 then bif decide (0 ≤ ofI val) then bif Nat.blt (Int.toNat (ofI val)) m then Option.casesOn g[Nat.add 0 (Nat.mul (Int.toNat (ofI val)) 1)]? (.fail 423) fun val_2 => bif isI IntKind.i64 val_2 then bif !decide (ofI val_1 < 0) then bif decide (0 ≤ ofI val) then bif Nat.blt (Int.toNat (ofI val)) m then bif Nat.blt (Nat.add 0 (Nat.mul (Int.toNat (ofI val)) 1)) (List.length g) then Option.casesOn g[Nat.add 0 (Nat.mul (Int.toNat (ofI val)) 1)]? (.fail 423) fun val_3 => bif isI IntKind.i64 val_3 then bif m_eqv (I (ofI val_3)) (I (ofI val_2)) then bif decide (0 ≤ ofI val_1) then bif Nat.blt (Int.toNat (ofI val_1)) m then Option.casesOn (List.set g (Nat.add 0 (Nat.mul (Int.toNat (ofI val)) 1)) (I (ibits BinOp.or IntKind.i64 (ofI val_2) (IntKind.wrap .i64 (Int.ofNat 1 * Int.ofNat 2 ^ min (Int.toNat (ofI val_1)) 64)))))[Nat.add 0 (Nat.mul (Int.toNat (ofI val_1)) 1)]? (.fail 423) fun val_4 => bif isI IntKind.i64 val_4 then bif !decide (ofI val < 0) then bif decide (0 ≤ ofI val_1) then bif Nat.blt (Int.toNat (ofI val_1)) m then bif Nat.blt (Nat.add 0 (Nat.mul (Int.toNat (ofI val_1)) 1)) (List.length (List.set g (Nat.add 0 (Nat.mul (Int.toNat (ofI val)) 1)) (I (ibits BinOp.or IntKind.i64 (ofI val_2) (IntKind.wrap .i64 (Int.ofNat 1 * Int.ofNat 2 ^ min (Int.toNat (ofI val_1)) 64)))))) then Option.casesOn (List.set g (Nat.add 0 (Nat.mul (Int.toNat (ofI val)) 1)) (I (ibits BinOp.or IntKind.i64 (ofI val_2) (IntKind.wrap .i64 (Int.ofNat 1 * Int.ofNat 2 ^ min (Int.toNat (ofI val_1)) 64)))))[Nat.add 0 (Nat.mul (Int.toNat (ofI val_1)) 1)]? (.fail 423) fun val_5 => bif isI IntKind.i64 val_5 then bif m_eqv (I (ofI val_5)) (I (ofI val_4)) then kn [(16, I (IntKind.wrap .i64 (i + Int.ofNat 1))), (15, I i)] (.node (.node (.node (.node .nil (some (I (ofI val))) .nil) none .nil) (some (.slice (some ⟨b, off, some 0⟩) len cap)) (.node .nil (some (.slice (some ⟨0, 0, none⟩) m m)) .nil)) (some (I n)) (.node (.node (.node .nil (some (I (ofI val_1))) .nil) (some (.slice none 0 0)) .nil) none (.node .nil (some (I (IntKind.wrap .i64 (i + Int.ofNat 1)))) .nil))) [] (AW.mk 1 (.node .nil (some (.cells (List.set (List.set g (Nat.add 0 (Nat.mul (Int.toNat (ofI val)) 1)) (I (ibits BinOp.or IntKind.i64 (ofI val_2) (IntKind.wrap .i64 (Int.ofNat 1 * Int.ofNat 2 ^ min (Int.toNat (ofI val_1)) 64))))) (Nat.add 0 (Nat.mul (Int.toNat (ofI val_1)) 1)) (I (ibits BinOp.or IntKind.i64 (ofI val_4) (IntKind.wrap .i64 (Int.ofNat 1 * Int.ofNat 2 ^ min (Int.toNat (ofI val)) 64))))) 3 0 1)) .nil) .nil) else .fail 420 else .fail 420 else .fail 420 else .fail 420 else .fail 420 else .fail 420 else .fail 420 else .fail 420 else .fail 420 else .fail 420 else .fail 420 else .fail 420 else .fail 420 else .fail 420 else .fail 420 else .fail 420 else .fail 420 else .fail 420 else .fail 420 else .fail 420 else .fail 420 else .fail 420 else .fail 420 else .fail 420 else kx 0 [(14, .bool false), (13, I (Int.ofNat len)), (12, .slice (some ⟨b, off, some 0⟩) len cap), (11, I i)] (.node (.node .nil (some (.slice (some ⟨b, off, some 0⟩) len cap)) (.node .nil (some (.slice (some ⟨0, 0, none⟩) m m)) .nil)) (some (I n)) (.node (.node .nil (some (.slice none 0 0)) .nil) none (.node .nil (some (I i)) .nil))) [] (AW.mk 1 (.node .nil (some (.cells g 3 0 1)) .nil) .nil) := by kernel_rfl

theorem ofB2 (r : Mem) (L : Nat) (fs : FnsC) (n : Int) (b off len cap m : Nat) (i : Int) (g : List Value) (v7 v8 : Value) (s : List (Nat × Value)) (kn : KS) (kx : Nat → KS) (kr : KS) : run (SC r) 499 48 L (ic (ic (rc (lc (rc (rc cOf)))))) fs none kn kx kr s (TOf n (RS2 b off len cap) m i (oO7 v7) (oO8 v8)) [] (AOf g) =
    bif decide (i < Int.ofNat len) then bif decide (0 ≤ i) then bif Nat.blt (Int.toNat i) len then Option.casesOn (r b (Nat.add (Nat.add off (Nat.mul (Int.toNat i) 2)) 0)) (.fail 423) fun val => bif isI IntKind.i64 val then bif decide (0 ≤ i) then bif Nat.blt (Int.toNat i) len then Option.casesOn (r b (Nat.add (Nat.add off (Nat.mul (Int.toNat i) 2)) 1)) (.fail 423) fun val_1 => bif isI IntKind.i64 val_1 then bif decide (0 ≤ ofI val) then bif Nat.blt (Int.toNat (ofI val)) m then Option.casesOn g[Nat.add 0 (Nat.mul (Int.toNat (ofI val)) 1)]? (.fail 423) fun val_2 => bif isI IntKind.i64 val_2 then bif !decide (ofI val_1 < 0) then bif decide (0 ≤ ofI val) then bif Nat.blt (Int.toNat (ofI val)) m then bif Nat.blt (Nat.add 0 (Nat.mul (Int.toNat (ofI val)) 1)) (List.length g) then Option.casesOn g[Nat.add 0 (Nat.mul (Int.toNat (ofI val)) 1)]? (.fail 423) fun val_3 => bif isI IntKind.i64 val_3 then bif m_eqv (I (ofI val_3)) (I (ofI val_2)) then bif decide (0 ≤ ofI val_1) then bif Nat.blt (Int.toNat (ofI val_1)) m then Option.casesOn (List.set g (Nat.add 0 (Nat.mul (Int.toNat (ofI val)) 1)) (I (ibits BinOp.or IntKind.i64 (ofI val_2) (IntKind.wrap .i64 (Int.ofNat 1 * Int.ofNat 2 ^ min (Int.toNat (ofI val_1)) 64)))))[Nat.add 0 (Nat.mul (Int.toNat (ofI val_1)) 1)]? (.fail 423) fun val_4 => bif isI IntKind.i64 val_4 then bif !decide (ofI val < 0) then bif decide (0 ≤ ofI val_1) then bif Nat.blt (Int.toNat (ofI val_1)) m then bif Nat.blt (Nat.add 0 (Nat.mul (Int.toNat (ofI val_1)) 1)) (List.length (List.set g (Nat.add 0 (Nat.mul (Int.toNat (ofI val)) 1)) (I (ibits BinOp.or IntKind.i64 (ofI val_2) (IntKind.wrap .i64 (Int.ofNat 1 * Int.ofNat 2 ^ min (Int.toNat (ofI val_1)) 64)))))) then Option.casesOn (List.set g (Nat.add 0 (Nat.mul (Int.toNat (ofI val)) 1)) (I (ibits BinOp.or IntKind.i64 (ofI val_2) (IntKind.wrap .i64 (Int.ofNat 1 * Int.ofNat 2 ^ min (Int.toNat (ofI val_1)) 64)))))[Nat.add 0 (Nat.mul (Int.toNat (ofI val_1)) 1)]? (.fail 423) fun val_5 => bif isI IntKind.i64 val_5 then bif m_eqv (I (ofI val_5)) (I (ofI val_4)) then kn [(16, I (IntKind.wrap .i64 (i + Int.ofNat 1))), (15, I i)] (.node (.node (.node (.node .nil (some (I (ofI val))) .nil) none .nil) (some (.slice (some ⟨b, off, some 0⟩) len cap)) (.node .nil (some (.slice (some ⟨0, 0, none⟩) m m)) .nil)) (some (I n)) (.node (.node (.node .nil (some (I (ofI val_1))) .nil) (some (.slice none 0 0)) .nil) none (.node .nil (some (I (IntKind.wrap .i64 (i + Int.ofNat 1)))) .nil))) [] (AW.mk 1 (.node .nil (some (.cells (List.set (List.set g (Nat.add 0 (Nat.mul (Int.toNat (ofI val)) 1)) (I (ibits BinOp.or IntKind.i64 (ofI val_2) (IntKind.wrap .i64 (Int.ofNat 1 * Int.ofNat 2 ^ min (Int.toNat (ofI val_1)) 64))))) (Nat.add 0 (Nat.mul (Int.toNat (ofI val_1)) 1)) (I (ibits BinOp.or IntKind.i64 (ofI val_4) (IntKind.wrap .i64 (Int.ofNat 1 * Int.ofNat 2 ^ min (Int.toNat (ofI val)) 64))))) 3 0 1)) .nil) .nil) else .fail 420 else .fail 420 else .fail 420 else .fail 420 else .fail 420 else .fail 420 else .fail 420 else .fail 420 else .fail 420 else .fail 420 else .fail 420 else .fail 420 else .fail 420 else .fail 420 else .fail 420 else .fail 420 else .fail 420 else .fail 420 else .fail 420 else .fail 420 else .fail 420 else .fail 420 else .fail 420 else .fail 420 else kx 0 [(14, .bool false), (13, I (Int.ofNat len)), (12, .slice (some ⟨b, off, some 0⟩) len cap), (11, I i)] (.node (.node (.node (.node .nil (some v7) .nil) none .nil) (some (.slice (some ⟨b, off, some 0⟩) len cap)) (.node .nil (some (.slice (some ⟨0, 0, none⟩) m m)) .nil)) (some (I n)) (.node (.node (.node .nil (some v8) .nil) (some (.slice none 0 0)) .nil) none (.node .nil (some (I i)) .nil))) [] (AW.mk 1 (.node .nil (some (.cells g 3 0 1)) .nil) .nil) := by kernel_rfl

theorem ofC (r : Mem) (L : Nat) (fs : FnsC) (n : Int) (sl : Value) (m : Nat) (i : Int) (l7 l8 : Tr Value) (g : List Value) (s : List (Nat × Value)) (kn : KS) (kx : Nat → KS) (kr : KS) : run (SC r) 499 48 L (rc (rc (rc cOf))) fs none kn kx kr s (TOf n sl m i l7 l8) [] (AOf g) =
    kr [(47, .slice (some ⟨0, 0, none⟩) m m)] (.node (.node l7 (some sl) (.node .nil (some (.slice (some ⟨0, 0, none⟩) m m)) .nil)) (some (I n)) (.node (.node l8 (some (.slice (some ⟨0, 0, none⟩) m m)) .nil) none (.node .nil (some (I i)) .nil))) [] (AW.mk 1 (.node .nil (some (.cells g 3 0 1)) .nil) .nil) := by kernel_rfl

end Go.Proofs

/- The reference's graph of edges: what the call answers. -/
set_option linter.unusedVariables false
set_option linter.unusedSimpArgs false
namespace Go.Num

def orN (ws : List Nat) (i b : Nat) : List Nat := ws.set i (ws.getD i 0 ||| 2 ^ b)
def jnN (ws : List Nat) (i j : Nat) : List Nat := orN (orN ws i j) j i
def nbN (m : Nat) (z : Nat → Int) : Nat → List Nat
 | 0 => List.replicate m 0
 | k + 1 => jnN (nbN m z k) (ea z k).toNat (eb z k).toNat
theorem orN_len (ws : List Nat) (i b : Nat) : (orN ws i b).length = ws.length := List.length_set ..
theorem nbN_len (m : Nat) (z : Nat → Int) : ∀ k, (nbN m z k).length = m
 | 0 => List.length_replicate ..
 | k + 1 => by rw [nbN, jnN, orN_len, orN_len]; exact nbN_len m z k
theorem or16 {a b : Nat} (ha : a < 65536) (hb : b < 65536) : a ||| b < 65536 := Nat.or_lt_two_pow (n := 16) ha hb
theorem bit16 {b : Nat} (hb : b < 16) : 2 ^ b < 65536 := Nat.pow_lt_pow_right (a := 2) (by decide) hb
theorem getD_lt {ws : List Nat} (h : ∀ w ∈ ws, w < 65536) (i : Nat) : ws.getD i 0 < 65536 := by
 rw [List.getD_eq_getElem?_getD]
 cases e : ws[i]? with
 | none => simp
 | some w => exact h w (List.mem_of_getElem? e)
theorem orN_lt {ws : List Nat} (h : ∀ w ∈ ws, w < 65536) (i : Nat) {b : Nat} (hb : b < 16) : ∀ w ∈ orN ws i b, w < 65536 := fun w hw => by
 unfold orN at hw
 rcases List.mem_or_eq_of_mem_set hw with hw | rfl
 ·exact h w hw
 ·exact or16 (getD_lt h i) (bit16 hb)
theorem nbN_lt (m : Nat) (z : Nat → Int) {n : Int} (hn : n ≤ 16) : ∀ k, (∀ i, i < k → 0 ≤ ea z i ∧ ea z i < eb z i ∧ eb z i < n) → ∀ w ∈ nbN m z k, w < 65536
 | 0, _ => fun w hw => by
  rw [nbN] at hw
  rw [List.eq_of_mem_replicate hw]
  decide
 | k + 1, h => by
  have := h k (by omega)
  exact orN_lt (orN_lt (nbN_lt m z hn k fun i hi => h i (by omega)) _ (by omega)) _ (by omega)

end Go.Num
namespace Go.Proofs
open Go Go.Ev Go.Num

theorem or_nat {k : IntKind} (hk : k = .u64 ∨ k = .i64) {a b : Nat} (ha : a < 65536) (hb : b < 65536) : ibits BinOp.or k (a : Int) (b : Int) = ((a ||| b : Nat) : Int) := by
 have h1 := or16 ha hb
 have e : ((BitVec.ofInt 64 (a : Int) ||| BitVec.ofInt 64 (b : Int)).toNat : Int) = ((a ||| b : Nat) : Int) := by
  rw [BitVec.ofInt_natCast, BitVec.ofInt_natCast, BitVec.toNat_or, BitVec.toNat_ofNat, BitVec.toNat_ofNat, Nat.mod_eq_of_lt (by omega), Nat.mod_eq_of_lt (by omega)]
 rcases hk with rfl | rfl
 ·show IntKind.wrap .u64 ((BitVec.ofInt 64 (a : Int) ||| BitVec.ofInt 64 (b : Int)).toNat : Int) = _
  rw [e]
  simp [IntKind.wrap, IntKind.bits, IntKind.signed]
  omega
 ·show IntKind.wrap .i64 ((BitVec.ofInt 64 (a : Int) ||| BitVec.ofInt 64 (b : Int)).toNat : Int) = _
  rw [e]
  exact wrI (by omega)

def m_ws (ws : List Nat) : List Value := ws.map fun (w : Nat) => I (w : Int)
theorem ws_len (ws : List Nat) : (m_ws ws).length = ws.length := List.length_map ..
theorem ws_gnd (ws : List Nat) : gnds (m_ws ws) = true := by
 unfold m_ws
 induction ws with
 | nil => rfl
 | cons w l ih => simp only [List.map_cons, gnds, gnd, ih, Bool.and_self, I]
theorem ws_get {ws : List Nat} {k : Nat} (h : k < ws.length) : (m_ws ws)[Nat.add 0 (Nat.mul k 1)]? = some (I ((ws.getD k 0 : Nat) : Int)) := by
 rw [show Nat.add 0 (Nat.mul k 1) = k by simp, List.getD_eq_getElem?_getD, List.getElem?_eq_getElem h]
 simp [m_ws, h]
theorem ws_set (ws : List Nat) (k w : Nat) : (m_ws ws).set (Nat.add 0 (Nat.mul k 1)) (I (w : Int)) = m_ws (ws.set k w) := by
 rw [show Nat.add 0 (Nat.mul k 1) = k by simp]
 simp [m_ws, List.map_set]

theorem shl_bit {b : Nat} (hb : b < 16) : IntKind.wrap IntKind.i64 (Int.ofNat 1 * Int.ofNat 2 ^ min b 64) = ((2 ^ b : Nat) : Int) := by
 have : ∀ j : Fin 16, IntKind.wrap IntKind.i64 (Int.ofNat 1 * Int.ofNat 2 ^ min j.val 64) = ((2 ^ j.val : Nat) : Int) := by decide
 exact this ⟨b, hb⟩

theorem of_round1 (r : Mem) (L : Nat) (fs : FnsC) (n : Int) (b off len cap m : Nat) (hm : m ≤ 16) (z : Nat → Int) (hz : rowAt r b off (2 * len) z) (hl : len ≤ 1000000) (k : Nat) (hk : k < len) (x y : Nat) (hx : ea z k = x) (hy : eb z k = y) (hxy : x < y) (hym : y < m) (ws : List Nat) (hl' : ws.length = m) (hw : ∀ w ∈ ws, w < 65536)
  (s : List (Nat × Value)) (kn : KS) (kx : Nat → KS) (kr : KS) (R : CR) (h : ∀ s v7 v8, kn s (TOf n (RS2 b off len cap) m ((k + 1 : Nat) : Int) (oO7 v7) (oO8 v8)) [] (AOf (m_ws (jnN ws x y))) = R) :
  run (SC r) 499 48 L (ic (ic (rc (lc (rc (rc cOf)))))) fs none kn kx kr s (TOf n (RS2 b off len cap) m k .nil .nil) [] (AOf (m_ws ws)) = R := by
 rw [ofB1]
 have c1 : (k : Int) < Int.ofNat len := by simp; omega
 have c2 : 0 ≤ (k : Int) := by omega
 have c3 : Nat.blt k len = true := Nat.ble_eq_true_of_le (by omega)
 have l0 : r b (Nat.add (Nat.add off (Nat.mul k 2)) 0) = some (I (x : Int)) := by
  have := hz (2 * k) (by omega)
  rw [show Nat.add (Nat.add off (Nat.mul k 2)) 0 = off + 2 * k by simp [Nat.mul_comm], ← hx]
  exact this
 have l1 : r b (Nat.add (Nat.add off (Nat.mul k 2)) 1) = some (I (y : Int)) := by
  have := hz (2 * k + 1) (by omega)
  rw [show Nat.add (Nat.add off (Nat.mul k 2)) 1 = off + (2 * k + 1) by simp [Nat.mul_comm]; omega, ← hy]
  exact this
 have w : IntKind.wrap IntKind.i64 ((k : Int) + Int.ofNat 1) = ((k + 1 : Nat) : Int) := by rw [wrI (by simp; omega)]; simp
 have ii : ∀ x, isI IntKind.i64 (I x) = true := fun _ => rfl
 have oo : ∀ x, ofI (I x) = x := fun _ => rfl
 have x0 : 0 ≤ (x : Int) := by omega
 have y0 : 0 ≤ (y : Int) := by omega
 have x1 : ¬ (x : Int) < 0 := by omega
 have y1 : ¬ (y : Int) < 0 := by omega
 have xm : Nat.blt x m = true := Nat.ble_eq_true_of_le (by omega)
 have ym : Nat.blt y m = true := Nat.ble_eq_true_of_le (by omega)
 have xl : Nat.blt (Nat.add 0 (Nat.mul x 1)) (m_ws ws).length = true := Nat.ble_eq_true_of_le (by rw [ws_len, hl']; simp; omega)
 have yl : Nat.blt (Nat.add 0 (Nat.mul y 1)) (m_ws (orN ws x y)).length = true := Nat.ble_eq_true_of_le (by rw [ws_len, orN_len, hl']; simp; omega)
 have vv : ∀ z : Int, m_eqv (.int .i64 z) (.int .i64 z) = true := fun z => by simp [m_eqv, veq]
 have e1 : ibits BinOp.or IntKind.i64 ((ws.getD x 0 : Nat) : Int) ((2 ^ y : Nat) : Int) = ((ws.getD x 0 ||| 2 ^ y : Nat) : Int) := or_nat (.inr rfl) (getD_lt hw x) (bit16 (by omega))
 have e2 : ibits BinOp.or IntKind.i64 (((orN ws x y).getD y 0 : Nat) : Int) ((2 ^ x : Nat) : Int) = (((orN ws x y).getD y 0 ||| 2 ^ x : Nat) : Int) := or_nat (.inr rfl) (getD_lt (orN_lt hw x (by omega)) y) (bit16 (by omega))
 have s1 : ws.set x (ws.getD x 0 ||| 2 ^ y) = orN ws x y := rfl
 have s2 : (orN ws x y).set y ((orN ws x y).getD y 0 ||| 2 ^ x) = jnN ws x y := rfl
 have p1 := ws_get (ws := ws) (k := x) (by omega)
 have p2 := ws_get (ws := orN ws x y) (k := y) (by rw [orN_len]; omega)
 have q1 : (m_ws ws).set (Nat.add 0 (Nat.mul x 1)) (.int .i64 ((ws.getD x 0 ||| 2 ^ y : Nat) : Int)) = m_ws (orN ws x y) := ws_set ws x _
 have q2 : (m_ws (orN ws x y)).set (Nat.add 0 (Nat.mul y 1)) (.int .i64 (((orN ws x y).getD y 0 ||| 2 ^ x : Nat) : Int)) = m_ws (jnN ws x y) := ws_set (orN ws x y) y _
 have sx := shl_bit (b := x) (by omega)
 have sy := shl_bit (b := y) (by omega)
 simp only [dT c1, dT c2, c3, cond_true, Int.toNat_natCast, l0, l1, ii, oo, dT x0, dT y0, dF x1, dF y1, Bool.not_false, xm, ym, p1, xl, vv, sy, sx, e1, q1, p2, yl, e2, q2, w]
 exact h _ _ _
theorem of_round2 (r : Mem) (L : Nat) (fs : FnsC) (n : Int) (b off len cap m : Nat) (hm : m ≤ 16) (z : Nat → Int) (hz : rowAt r b off (2 * len) z) (hl : len ≤ 1000000) (k : Nat) (hk : k < len) (x y : Nat) (hx : ea z k = x) (hy : eb z k = y) (hxy : x < y) (hym : y < m) (ws : List Nat) (hl' : ws.length = m) (hw : ∀ w ∈ ws, w < 65536)
  (v7 v8 : Value) (s : List (Nat × Value)) (kn : KS) (kx : Nat → KS) (kr : KS) (R : CR) (h : ∀ s v7 v8, kn s (TOf n (RS2 b off len cap) m ((k + 1 : Nat) : Int) (oO7 v7) (oO8 v8)) [] (AOf (m_ws (jnN ws x y))) = R) :
  run (SC r) 499 48 L (ic (ic (rc (lc (rc (rc cOf)))))) fs none kn kx kr s (TOf n (RS2 b off len cap) m k (oO7 v7) (oO8 v8)) [] (AOf (m_ws ws)) = R := by
 rw [ofB2]
 have c1 : (k : Int) < Int.ofNat len := by simp; omega
 have c2 : 0 ≤ (k : Int) := by omega
 have c3 : Nat.blt k len = true := Nat.ble_eq_true_of_le (by omega)
 have l0 : r b (Nat.add (Nat.add off (Nat.mul k 2)) 0) = some (I (x : Int)) := by
  have := hz (2 * k) (by omega)
  rw [show Nat.add (Nat.add off (Nat.mul k 2)) 0 = off + 2 * k by simp [Nat.mul_comm], ← hx]
  exact this
 have l1 : r b (Nat.add (Nat.add off (Nat.mul k 2)) 1) = some (I (y : Int)) := by
  have := hz (2 * k + 1) (by omega)
  rw [show Nat.add (Nat.add off (Nat.mul k 2)) 1 = off + (2 * k + 1) by simp [Nat.mul_comm]; omega, ← hy]
  exact this
 have w : IntKind.wrap IntKind.i64 ((k : Int) + Int.ofNat 1) = ((k + 1 : Nat) : Int) := by rw [wrI (by simp; omega)]; simp
 have ii : ∀ x, isI IntKind.i64 (I x) = true := fun _ => rfl
 have oo : ∀ x, ofI (I x) = x := fun _ => rfl
 have x0 : 0 ≤ (x : Int) := by omega
 have y0 : 0 ≤ (y : Int) := by omega
 have x1 : ¬ (x : Int) < 0 := by omega
 have y1 : ¬ (y : Int) < 0 := by omega
 have xm : Nat.blt x m = true := Nat.ble_eq_true_of_le (by omega)
 have ym : Nat.blt y m = true := Nat.ble_eq_true_of_le (by omega)
 have xl : Nat.blt (Nat.add 0 (Nat.mul x 1)) (m_ws ws).length = true := Nat.ble_eq_true_of_le (by rw [ws_len, hl']; simp; omega)
 have yl : Nat.blt (Nat.add 0 (Nat.mul y 1)) (m_ws (orN ws x y)).length = true := Nat.ble_eq_true_of_le (by rw [ws_len, orN_len, hl']; simp; omega)
 have vv : ∀ z : Int, m_eqv (.int .i64 z) (.int .i64 z) = true := fun z => by simp [m_eqv, veq]
 have e1 : ibits BinOp.or IntKind.i64 ((ws.getD x 0 : Nat) : Int) ((2 ^ y : Nat) : Int) = ((ws.getD x 0 ||| 2 ^ y : Nat) : Int) := or_nat (.inr rfl) (getD_lt hw x) (bit16 (by omega))
 have e2 : ibits BinOp.or IntKind.i64 (((orN ws x y).getD y 0 : Nat) : Int) ((2 ^ x : Nat) : Int) = (((orN ws x y).getD y 0 ||| 2 ^ x : Nat) : Int) := or_nat (.inr rfl) (getD_lt (orN_lt hw x (by omega)) y) (bit16 (by omega))
 have s1 : ws.set x (ws.getD x 0 ||| 2 ^ y) = orN ws x y := rfl
 have s2 : (orN ws x y).set y ((orN ws x y).getD y 0 ||| 2 ^ x) = jnN ws x y := rfl
 have p1 := ws_get (ws := ws) (k := x) (by omega)
 have p2 := ws_get (ws := orN ws x y) (k := y) (by rw [orN_len]; omega)
 have q1 : (m_ws ws).set (Nat.add 0 (Nat.mul x 1)) (.int .i64 ((ws.getD x 0 ||| 2 ^ y : Nat) : Int)) = m_ws (orN ws x y) := ws_set ws x _
 have q2 : (m_ws (orN ws x y)).set (Nat.add 0 (Nat.mul y 1)) (.int .i64 (((orN ws x y).getD y 0 ||| 2 ^ x : Nat) : Int)) = m_ws (jnN ws x y) := ws_set (orN ws x y) y _
 have sx := shl_bit (b := x) (by omega)
 have sy := shl_bit (b := y) (by omega)
 simp only [dT c1, dT c2, c3, cond_true, Int.toNat_natCast, l0, l1, ii, oo, dT x0, dT y0, dF x1, dF y1, Bool.not_false, xm, ym, p1, xl, vv, sy, sx, e1, q1, p2, yl, e2, q2, w]
 exact h _ _ _

end Go.Proofs

/- The reference's graph of edges: the loop, the call. -/
set_option linter.unusedVariables false
set_option linter.unusedSimpArgs false
namespace Go.Proofs
open Go Go.Ev Go.Num

theorem of_loop (r : Mem) (L : Nat) (fs : FnsC) (kx : Nat → KS) (kr : KS) (n : Int) (b off len cap m : Nat) (hn : n = m) (hm : m ≤ 16) (z : Nat → Int) (hz : rowAt r b off (2 * len) z) (hl : len ≤ 1000000) (hok : okAll n z len = true) (R : CR)
  (hX : ∀ s i l7 l8, kx 0 s (TOf n (RS2 b off len cap) m i l7 l8) [] (AOf (m_ws (nbN m z len))) = R) :
  ∀ (j k : Nat) (s : List (Nat × Value)), k ≤ len → len - k < j →
  cLoop (fun kl => run (SC r) 499 48 L (ic (ic (rc (lc (rc (rc cOf)))))) fs none kl kx kr) j s (TOf n (RS2 b off len cap) m k .nil .nil) [] (AOf (m_ws (nbN m z k))) = R ∧
  ∀ v7 v8, cLoop (fun kl => run (SC r) 499 48 L (ic (ic (rc (lc (rc (rc cOf)))))) fs none kl kx kr) j s (TOf n (RS2 b off len cap) m k (oO7 v7) (oO8 v8)) [] (AOf (m_ws (nbN m z k))) = R := by
 intro j
 induction j with
 | zero => intro k s _ h; omega
 | succ j ih =>
  intro k s hk hj
  rw [cLoop_succ]
  by_cases c : k < len
  ·have h3 := okAll_at hok
   obtain ⟨b1, b2, b3⟩ := h3 k c
   have hx : ea z k = ((ea z k).toNat : Int) := by omega
   have hy : eb z k = ((eb z k).toNat : Int) := by omega
   have hw := nbN_lt m z (n := n) (by omega) k fun i hi => h3 i (by omega)
   have hi := fun s => (ih (k + 1) s (by omega) (by omega)).2
   refine ⟨?_, fun v7 v8 => ?_⟩
   ·exact of_round1 r L fs n b off len cap m hm z hz hl k c _ _ hx hy (by omega) (by omega) _ (nbN_len m z k) hw s _ _ _ R fun s v7 v8 => hi s v7 v8
   ·exact of_round2 r L fs n b off len cap m hm z hz hl k c _ _ hx hy (by omega) (by omega) _ (nbN_len m z k) hw v7 v8 s _ _ _ R fun s v7 v8 => hi s v7 v8
  ·have c1 : ¬ (k : Int) < Int.ofNat len := by simp; omega
   have e : k = len := by omega
   subst e
   refine ⟨?_, fun v7 v8 => ?_⟩
   ·rw [ofB1, dF c1, cond_false]
    exact hX _ _ .nil .nil
   ·rw [ofB2, dF c1, cond_false]
    exact hX _ _ (oO7 v7) (oO8 v8)

theorem cOf_eq : cOf = .seq (lc cOf) (.seq (lc (rc cOf)) (.seq (.seq (lc (lc (rc (rc cOf)))) (.block 0 (.loop (ic (ic (rc (lc (rc (rc cOf))))))))) (rc (rc (rc cOf))))) := by kernel_rfl
def mskOf : Tr Nat := Tr.nil.put 22 (some 499)

theorem of_ok (r : Mem) (m : Nat) (h1 : 1 ≤ m) (hm : m ≤ 16) (b off len cap : Nat) (z : Nat → Int) (hz : rowAt r b off (2 * len) z) (hl : len ≤ 1000000) (hok : okAll m z len = true) :
  GrM Tryz.prog r 22 [I m, RS2 b off len cap] (.slice (some ⟨0, 0, none⟩) m m) (rowA (m_ws (nbN m z len)) 3 1) := by
 refine GrM.of (SC_ok r) TOk.nil mskOf ⟨len + 1, 1, ?_⟩
 rw [enterN (m := 499) (n := 48) (rs := [.tmp 4]) cOf rfl (by kernel_rfl) (by kernel_rfl) (by kernel_rfl) (by kernel_rfl) (by kernel_rfl) rfl]
 generalize hk : finK (SC r) 499 [.tmp 4] finM = kr
 have c0 : 0 ≤ (m : Int) := by omega
 have c1 : Nat.ble m m = true := Nat.ble_eq_true_of_le (Nat.le_refl _)
 have c2 : Nat.ble m 1000000 = true := Nat.ble_eq_true_of_le (by omega)
 rw [cOf_eq, seqA, run_pre, run_while, ofA, dT c0, cond_true, cond_true, Int.toNat_natCast, c1, cond_true, c2, cond_true]
 have e0 : zerosL (Nat.mul m 1) [Value.int IntKind.i64 (Int.ofNat 0)] = m_ws (nbN m z 0) := by
  show List.replicate (Nat.mul m 1) _ = m_ws (List.replicate m 0)
  simp [m_ws]
 rw [e0]
 refine (of_loop r _ _ _ _ m b off len cap m rfl hm z hz hl hok _ (fun s i l7 l8 => ?_) _ 0 _ (Nat.zero_le _) (by omega)).1
 refine (ofC r _ _ m _ m i l7 l8 _ s _ _ _).trans ?_
 rw [← hk]
 have hg := ws_gnd (nbN m z len)
 have hu : Nat.beq m unkE = false := by
  cases e : Nat.beq m unkE with
  | false => rfl
  | true =>
   have := Nat.eq_of_beq_eq_true e
   unfold unkE at this
   omega
 show finM (.slice (some ⟨0, 0, none⟩) m m) (AOf (m_ws (nbN m z len))) = _
 have e1 : rowOf (.slice (some ⟨0, 0, none⟩) m m) = some 0 := by simp only [rowOf, row1, hu, Bool.false_and]
 unfold finM
 rw [e1]
 show guardK (gnds (m_ws (nbN m z len))) _ = _
 rw [hg]
 rfl

end Go.Proofs

/- Sums of numbers in halves: mathematics. -/
namespace Go.Num
set_option linter.unusedVariables false
set_option linter.unusedSimpArgs false

def m_cmpI (a b : Int) : Int := if a < b then -1 else if b < a then 1 else 0
def m_ph (h l x : Int) : Int := h + x / 4294967296 + (l + x % 4294967296) / 4294967296
def m_pl (h l x : Int) : Int := (l + x % 4294967296) % 4294967296

def s64 (x : Int) : Prop := -9223372036854775808 ≤ x ∧ x ≤ 9223372036854775807
noncomputable def m_okP (h l x : Int) : Bool := @decide (-1000000000000 ≤ h ∧ h ≤ 1000000000000 ∧ 0 ≤ l ∧ l < 4294967296 ∧ s64 x) (Classical.propDecidable _)
def suN (f : Nat → Int) : Nat → Int
 | 0 => 0
 | n + 1 => suN f n + f n
theorem su_ext {f g : Nat → Int} : ∀ {n}, (∀ j, j < n → f j = g j) → suN f n = suN g n
 | 0, _ => rfl
 | n + 1, h => by rw [suN, suN, su_ext fun j hj => h j (by omega), h n (by omega)]
theorem su_hi {z : Nat → Int} : ∀ {n}, (∀ j, j < n → s64 (z j)) → -2147483648 * (n : Int) ≤ suN (fun j => z j / 4294967296) n ∧ suN (fun j => z j / 4294967296) n ≤ 2147483648 * (n : Int)
 | 0, _ => by simp [suN]
 | n + 1, h => by
  have ih := su_hi (n := n) fun j hj => h j (by omega)
  have := h n (by omega)
  unfold s64 at this
  rw [suN]
  omega
theorem su_lo (z : Nat → Int) : ∀ n : Nat, 0 ≤ suN (fun j => z j % 4294967296) n ∧ suN (fun j => z j % 4294967296) n ≤ 4294967296 * (n : Int)
 | 0 => by simp [suN]
 | n + 1 => by
  have ih := su_lo z n
  rw [suN]
  omega
theorem su_both (z : Nat → Int) : ∀ n : Nat, suN z n = 4294967296 * suN (fun j => z j / 4294967296) n + suN (fun j => z j % 4294967296) n
 | 0 => by simp [suN]
 | n + 1 => by
  have ih := su_both z n
  rw [suN, suN, suN]
  omega
theorem su_bd {z : Nat → Int} {n : Nat} (h : ∀ j, j < n → s64 (z j)) (hn : n ≤ 100) : -1000000000000 * 4294967296 ≤ suN z n ∧ suN z n ≤ 1000000000000 * 4294967296 := by
 have h1 := su_hi h
 have h2 := su_lo z n
 rw [su_both]
 omega
theorem ph_eq (S x : Int) : m_ph (S / 4294967296) (S % 4294967296) x = (S + x) / 4294967296 := by
 unfold m_ph
 omega
theorem pl_eq (S x : Int) : m_pl (S / 4294967296) (S % 4294967296) x = (S + x) % 4294967296 := by
 unfold m_pl
 omega
theorem okP_of {S x : Int} (hS : -1000000000000 * 4294967296 ≤ S ∧ S ≤ 1000000000000 * 4294967296) (hx : s64 x) : m_okP (S / 4294967296) (S % 4294967296) x = true :=
 @decide_eq_true _ (Classical.propDecidable _) ⟨by omega, by omega, by omega, by omega, hx⟩
theorem less_eq (S T : Int) : (S / 4294967296 < T / 4294967296 ∨ (S / 4294967296 = T / 4294967296 ∧ S % 4294967296 < T % 4294967296)) ↔ S < T := by omega
theorem cmp_halves (u l S T : Int) (h : S - T = 4294967296 * u + l) : (if m_cmpI (u + l / 4294967296) 0 = 0 then m_cmpI (l % 4294967296) 0 else m_cmpI (u + l / 4294967296) 0) = m_cmpI S T := by
 unfold m_cmpI
 by_cases c : u + l / 4294967296 < 0
 ·rw [if_pos c, if_neg (by decide), if_pos (by omega)]
 ·by_cases d : 0 < u + l / 4294967296
  ·rw [if_neg c, if_pos d, if_neg (by decide), if_neg (by omega), if_pos (by omega)]
  ·rw [if_neg c, if_neg d, if_pos rfl]
   by_cases e : 0 < l % 4294967296
   ·rw [if_neg (by omega), if_pos e, if_neg (by omega), if_pos (by omega)]
   ·rw [if_neg (by omega), if_neg e, if_neg (by omega), if_neg (by omega)]

end Go.Num
namespace Go.Proofs
open Go Go.Ev Go.Num

theorem fdiv32 (x : Int) : Int.fdiv x (Int.ofNat 4294967296) = x / 4294967296 := Int.fdiv_eq_ediv_of_nonneg _ (by decide)
theorem toNat64 (x : Int) : ((BitVec.ofInt 64 x).toNat : Int) = x % 18446744073709551616 := by
 rw [BitVec.toNat_ofInt]
 exact Int.toNat_of_nonneg (Int.emod_nonneg _ (by decide))
theorem andPow (x : Int) (k : Nat) (hk : k ≤ 62) : ibits BinOp.and IntKind.i64 x ((2 ^ k - 1 : Nat) : Int) = x % ((2 ^ k : Nat) : Int) := by
 have e0 : (BitVec.ofInt 64 ((2 ^ k - 1 : Nat) : Int)).toNat = 2 ^ k - 1 := by
  rw [BitVec.ofInt_natCast, BitVec.toNat_ofNat]
  apply Nat.mod_eq_of_lt
  have : 2 ^ k ≤ 2 ^ 62 := Nat.pow_le_pow_right (by decide) hk
  omega
 have e1 : (BitVec.ofInt 64 x &&& BitVec.ofInt 64 ((2 ^ k - 1 : Nat) : Int)).toNat = (BitVec.ofInt 64 x).toNat % 2 ^ k := by
  rw [BitVec.toNat_and, e0]
  exact Nat.and_two_pow_sub_one_eq_mod _ k
 show IntKind.wrap .i64 ((BitVec.ofInt 64 x &&& BitVec.ofInt 64 ((2 ^ k - 1 : Nat) : Int)).toNat : Int) = _
 rw [e1]
 have hlt : (BitVec.ofInt 64 x).toNat % 2 ^ k < 2 ^ k := Nat.mod_lt _ (Nat.two_pow_pos k)
 have h62 : 2 ^ k ≤ 2 ^ 62 := Nat.pow_le_pow_right (by decide) hk
 rw [wrI (by omega)]
 rw [Int.natCast_emod, toNat64, show (18446744073709551616 : Int) = ((2 ^ k : Nat) : Int) * ((2 ^ (64 - k) : Nat) : Int) by
  rw [← Int.natCast_mul, ← Nat.pow_add, show k + (64 - k) = 64 by omega]
  rfl]
 exact Int.emod_emod_of_dvd _ ⟨_, rfl⟩
theorem and32 (x : Int) : ibits BinOp.and IntKind.i64 x (Int.ofNat 4294967295) = x % 4294967296 := andPow x 32 (by decide)
theorem and1 (x : Int) : ibits BinOp.and IntKind.i64 x (Int.ofNat 1) = x % 2 := andPow x 1 (by decide)
theorem xor1 (a b : Int) : ibits BinOp.xor IntKind.i64 (a % 2) (b % 2) = (a + b) % 2 := by
 have key : ∀ p q : Fin 2, ibits BinOp.xor IntKind.i64 (Int.ofNat p.val) (Int.ofNat q.val) = Int.ofNat ((p.val + q.val) % 2) := by decide +kernel
 have ha : 0 ≤ a % 2 ∧ a % 2 < 2 := by omega
 have hb : 0 ≤ b % 2 ∧ b % 2 < 2 := by omega
 obtain ⟨m, hm⟩ := Int.eq_ofNat_of_zero_le ha.1
 obtain ⟨n, hn⟩ := Int.eq_ofNat_of_zero_le hb.1
 have := key ⟨m, by omega⟩ ⟨n, by omega⟩
 simp only at this
 rw [hm, hn]
 refine this.trans ?_
 show (((m + n) % 2 : Nat) : Int) = _
 omega

end Go.Proofs

