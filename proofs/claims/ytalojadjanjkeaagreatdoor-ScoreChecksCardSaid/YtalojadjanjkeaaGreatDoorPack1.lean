/- What the claim is proved with, part 1: the evaluator and the contracts of the calls. -/
import Derived.Test.YtalojadjanjkeaaGreatDoorSymBase
import Derived.Test.YtalojadjanjkeaaGreatDoorEvMemOf
import Derived.Test.YtalojadjanjkeaaGreatDoorRows
import Derived.FnData
import Derived.MakeChecks
import Derived.IntWalk
import Derived.Test.YtalojadjanjkeaaGreatDoorEvRd
import Derived.Test.YtalojadjanjkeaaGreatDoorEvOwn
import Derived.Test.YtalojadjanjkeaaGreatDoorEvGp
import Derived.Test.YtalojadjanjkeaaGreatDoorEvSym
/- The tables of math/bits, as memory. -/
set_option linter.unusedVariables false
set_option linter.unusedSimpArgs false
namespace Go.Proofs
open Go Go.Ev

def u8s (l : List Nat) : List Value := l.map fun n => .int .u8 (Int.ofNat n)
def tab32 : List Nat := [0, 1, 28, 2, 29, 14, 24, 3, 30, 22, 20, 15, 25, 17, 4, 8, 31, 27, 13, 23, 21, 19, 16, 7, 26, 12, 18, 6, 11, 5, 10, 9]
def tab64 : List Nat := [0, 1, 56, 2, 57, 49, 28, 3, 61, 58, 42, 50, 38, 29, 17, 4, 62, 47, 59, 36, 45, 43, 51, 22, 53, 39, 33, 30, 24, 18, 12, 5, 63, 55, 48, 27, 60, 41, 37, 16, 46, 35, 44, 21, 52, 32, 23, 11, 54, 26, 40, 15, 34, 20, 31, 10, 25, 14, 19, 9, 13, 8, 7, 6]

def memL (l : List Value) : Nat → Option Value := fun j => l[j]?
def tabM : Mem := fun b j => match Nat.beq b 1 with
 | true => memL (u8s tab64) j
 | false => match Nat.beq b 0 with
  | true => memL (u8s tab32) j
  | false => none

end Go.Proofs

/- What the listed package variables hold, as memory: from the row's premise to the memory that came in. -/
set_option linter.unusedVariables false
set_option linter.unusedSimpArgs false
namespace Go.Proofs
open Go Go.Ev

theorem tab_cells {H : Type} {enc : TypeId × Value → H} {P : Program} {w : World} {base fuel : Nat} {spare : Nat → Bool} {held : Bool} {t e : TypeId} {n : Nat} {k : IntKind} {cs : List Value} {l : List Int} {p : List MemPlace}
  (ht : P.underlying t = some (.array n e)) (he : P.underlying e = some (.int k)) (ce : P.cellsOf e = 1)
  (h : DataW.trod enc P w base spare held fuel t cs = some (.agg (l.map fun z => .lit (.int k z)), p)) : ∀ (j : Nat) (z : Int), l[j]? = some z → cs[j]? = some (Value.int k z) := by
 obtain ⟨xs, m, _, hx, _, hl, hel⟩ := DataW.trod_array ht h
 have h1 : l.map (fun z => (DataW.lit (.int k z) : DataW H)) = xs.map (·.1) := by
  have := congrArg Prod.fst hx
  simpa using this
 intro j z hz
 have hlen : l.length = xs.length := by
  have := congrArg List.length h1
  simpa using this
 have hj : j < l.length := (List.getElem?_eq_some_iff.1 hz).1
 have h3 := hel j (by omega)
 rw [ce, Nat.mul_one] at h3
 have hxj : xs[j]? = some xs[j] := List.getElem?_eq_getElem (by omega)
 rw [hxj] at h3
 obtain ⟨s, h4, h5, _⟩ := DataW.trod_int he h3
 have h6 : (l.map (fun z => (DataW.lit (.int k z) : DataW H)))[j]? = (xs.map (·.1))[j]? := by rw [h1]
 simp only [List.getElem?_map, hz, hxj, Option.map_some, h5, Option.some.injEq, DataW.lit.injEq, Lit.int.injEq, true_and] at h6
 subst h6
 have h7 := congrArg (fun l : List Value => l[0]?) h4
 simp only [List.getElem?_cons_zero] at h7
 rw [List.getElem?_take_of_lt (by omega), List.getElem?_drop] at h7
 simpa using h7

theorem tab_mem {P : Program} {w : World} {n : String} {g : Nat} {cs : Array Value} {k : IntKind} (hg : P.globalNamed n = some g) (hv : w.var? P n = some cs) {l : List Int} (h : ∀ (j : Nat) (z : Int), l[j]? = some z → cs.toList[j]? = some (Value.int k z)) :
  ∀ (j : Nat) (z : Int), l[j]? = some z → memOf w g j = some (Value.int k z) := fun j z hz => memOf_int (by
 rw [World.var?_cell hg hv j]
 have := h j z hz
 simpa using this)

theorem laid_32 {W : World} {g t f : Nat} {cs : Array Value} {p : List MemPlace} (a1 : Tryz.prog.globalNamed "math/bits.deBruijn32tab" = some g) (a2 : (Tryz.prog.globals[g]?).map (·.type) = some t) (a3 : W.var? Tryz.prog "math/bits.deBruijn32tab" = some cs)
  (a4 : DataW.trod (fun _ => ()) Tryz.prog W 0 (fun _ => true) false f t cs.toList = some (YtalojadjanjkeaaGreatDoor.Rows.laid_math_bits_deBruijn32tab, p)) : ∀ j u, memL (u8s tab32) j = some u → memOf W 0 j = some u := by
 have hg : Tryz.prog.globalNamed "math/bits.deBruijn32tab" = some 0 := by kernel_rfl
 obtain rfl := Option.some.inj (hg.symm.trans a1)
 obtain rfl := Option.some.inj ((show (Tryz.prog.globals[0]?).map (·.type) = some 146 by kernel_rfl).symm.trans a2)
 have h1 := tab_cells (l := tab32.map Int.ofNat) (k := .u8) (t := 146) (n := 32) (e := 5) (by kernel_rfl) (by kernel_rfl) (by kernel_rfl) (a4.trans (by rfl))
 intro j u hu
 simp only [memL, u8s, List.getElem?_map, Option.map_eq_some_iff] at hu
 obtain ⟨z, hz, rfl⟩ := hu
 exact tab_mem hg a3 h1 j _ (by simp [List.getElem?_map, hz])

theorem laid_64 {W : World} {g t f : Nat} {cs : Array Value} {p : List MemPlace} (a1 : Tryz.prog.globalNamed "math/bits.deBruijn64tab" = some g) (a2 : (Tryz.prog.globals[g]?).map (·.type) = some t) (a3 : W.var? Tryz.prog "math/bits.deBruijn64tab" = some cs)
  (a4 : DataW.trod (fun _ => ()) Tryz.prog W 0 (fun _ => true) false f t cs.toList = some (YtalojadjanjkeaaGreatDoor.Rows.laid_math_bits_deBruijn64tab, p)) : ∀ j u, memL (u8s tab64) j = some u → memOf W 1 j = some u := by
 have hg : Tryz.prog.globalNamed "math/bits.deBruijn64tab" = some 1 := by kernel_rfl
 obtain rfl := Option.some.inj (hg.symm.trans a1)
 obtain rfl := Option.some.inj ((show (Tryz.prog.globals[1]?).map (·.type) = some 147 by kernel_rfl).symm.trans a2)
 have h1 := tab_cells (l := tab64.map Int.ofNat) (k := .u8) (t := 147) (n := 64) (e := 5) (by kernel_rfl) (by kernel_rfl) (by kernel_rfl) (a4.trans (by rfl))
 intro j u hu
 simp only [memL, u8s, List.getElem?_map, Option.map_eq_some_iff] at hu
 obtain ⟨z, hz, rfl⟩ := hu
 exact tab_mem hg a3 h1 j _ (by simp [List.getElem?_map, hz])

theorem laid_mem {W : World} {x : String × DataW Unit} (hx : x = ("math/bits.deBruijn32tab", YtalojadjanjkeaaGreatDoor.Rows.laid_math_bits_deBruijn32tab)) {y : String × DataW Unit} (hy : y = ("math/bits.deBruijn64tab", YtalojadjanjkeaaGreatDoor.Rows.laid_math_bits_deBruijn64tab)) (hL : laidMetH Tryz.prog [x, y] W) : ∀ b j u, tabM b j = some u → memOf W b j = some u := by
 subst hx hy
 rw [MakeChecks.laidMetH_plain _ _ _ (by kernel_rfl)] at hL
 obtain ⟨ps, ⟨g1, t1, c1, f1, p1, q1, a1, a2, a3, a4, ⟨g2, t2, c2, f2, p2, q2, b1, b2, b3, b4, _, _⟩, _⟩, _⟩ := hL
 intro b j u h
 unfold tabM at h
 split at h
 ·rename_i hb
  have := Nat.eq_of_beq_eq_true hb
  subst this
  exact laid_64 b1 b2 b3 b4 j u h
 ·split at h
  ·rename_i hb
   have := Nat.eq_of_beq_eq_true hb
   subst this
   exact laid_32 a1 a2 a3 a4 j u h
  ·cases h

end Go.Proofs

/- A slice among the arguments: nil, or a row that came in (an empty one, too). -/
set_option linter.unusedVariables false
set_option linter.unusedSimpArgs false
namespace Go.Ev
open Go

inductive ArgRowT (r : Mem) (n : Nat) (p : Value → Prop) : Value → Prop
 | nil : ArgRowT r n p (.slice none 0 0)
 | row (b off len cap : Nat) (hl : len ≤ cap) (hc : cap ≤ maxLen) (h : ∀ i, i < cap * n → ∃ u, r b (off + i) = some u ∧ p u) : ArgRowT r n p (.slice (some ⟨b, off, some 0⟩) len cap)

theorem okWide_spot {P : Program} {w : World} {r : Go.Reach} {base : Nat} {t e : TypeId} {x : Addr} {len cap : Nat} (ht : P.underlying t = some (.slice e)) (h : Value.okWide P w r base t (.slice (some x) len cap)) : x.spot = none := by
 simp only [Value.okWide, ht, Cell.okWide, Cell.ok] at h
 exact h.2.2.2.1

section
variable {H : Type} {enc : TypeId × Value → H} {P : Program} {w : World} {base : Nat} {held : Bool}

theorem in_rowT {t e : TypeId} {n : Nat} {p : Value → Prop} {v : Value} {d : DataW H} {ps : List MemPlace} (hn : 0 < n) (ht : P.underlying t = some (.slice e)) (ce : P.cellsOf e = n) (hel : El enc P w base held e n p)
  {b0 : Nat} (hval : Value.okWide P w .any b0 t v) (h : DataW.Trod enc P w base (fun _ => true) held t v d ps) : ∃ u, VRel noG u v ∧ ArgRowT (memOf w) n p u := by
 obtain ⟨u, hu, hs⟩ := in_row hn ht ce hel hval h
 obtain ⟨a, len, cap, rfl⟩ := Go.WideShapes.okWide_slice ht hval
 cases hs with
 | nil => exact ⟨_, hu, .nil⟩
 | row b off len cap hl hc h => exact ⟨_, hu, .row b off len cap hl hc h⟩
 | empty =>
  obtain ⟨fuel, hf⟩ := h
  rcases Go.Deep.open_slice ht hf with ⟨h0, _⟩ | ⟨a', len', cap', m, n', D, Pl, h0, _, hl, hm, hmm, _, hx⟩
  ·simp [Value.cells] at h0
   obtain ⟨rfl, rfl, rfl⟩ := h0
   exact ⟨_, .sliceNil, .nil⟩
  ·simp [Value.cells] at h0
   obtain ⟨rfl, rfl, rfl⟩ := h0
   have hsp := okWide_spot ht hval
   obtain ⟨b, off, s⟩ := a'
   subst hsp
   have hlen : len = 0 := by
    cases hu with
    | sliceE => rfl
    | slice _ _ _ _ hg => cases hg
   subst hlen
   exact ⟨_, .sliceRo b off 0 0 0 cap (by decide) (Nat.zero_le _), .row b off 0 0 (Nat.le_refl _) (Nat.zero_le _) fun i hi => by omega⟩

end

end Go.Ev

/- Rules for loops. -/
set_option linter.unusedVariables false
set_option linter.unusedSimpArgs false
namespace Go.Proofs
open Go Go.Ev

theorem fnsSC (r : Mem) : (SC r).fns = S0.fns := by unfold SC Cfg.sym; rfl
theorem bodySC (r : Mem) (f : Nat) : bodyOf (SC r) f = bodyOf S0 f := by unfold bodyOf; rw [fnsSC]

theorem enterN {r : Mem} {t : Tbl} {ms : Tr Nat} {L d f m n : Nat} {args : List Value} {A : AW} {k : KV} {rs : List ResultVar} (c : Code) (hc : c = bodyOf S0 f) (hb : hasBody (SC r) f = true) (hn : ntm (SC r) f = n) (hm : maskFor ms f n = m) (hr : resOf (SC r) f = rs)
  (hl : Nat.ble args.length n = true) (ht : t f = none) :
  (lvlT (SC r) t ms L (d + 1)).call f args A k = run (SC r) m n L c (lvlT (SC r) t ms L d) none (finK (SC r) m rs k) kx242 (finK (SC r) m rs k) (sc0 m args) (tr0 m args) [] A := by
 rw [enter hb hn hm hr hl ht, bodySC, ← hc]

theorem fn_of {C : Cfg} {f : Nat} (h : hasBody C f = true) : ∃ fn, C.fns.get f = some fn ∧ fn.body = some (bodyOf C f) ∧ fn.ntmps = ntm C f ∧ fn.results.toList = resOf C f := by
 unfold hasBody at h
 unfold bodyOf ntm resOf
 split at h
 ·rename_i fn hfn
  split at h
  ·rename_i c hc
   exact ⟨fn, hfn, by simp only [hfn, hc], by simp only [hfn], by simp only [hfn]⟩
  ·cases h
 ·cases h

theorem seqA {C : Cfg} {m n L : Nat} (a b d : Code) : run C m n L (.seq a (.seq b d)) = run C m n L (.seq (.seq a b) d) := rfl

theorem run_while {C : Cfg} {m n L : Nat} {fs : FnsC} {ro : Option Nat} {kn : KS} {kx : Nat → KS} {kr : KS} (a b d : Code) (id : Nat) : run C m n L (.seq a (.seq (.block id (.loop b)) d)) fs ro kn kx kr =
  run C m n L a fs ro (cLoop (fun kl => run C m n L b fs ro kl (fun j => match Nat.beq j id with | true => run C m n L d fs ro kn kx kr | false => kx j) kr) L) kx kr := rfl
theorem run_while0 {C : Cfg} {m n L : Nat} {fs : FnsC} {ro : Option Nat} {kn : KS} {kx : Nat → KS} {kr : KS} (a b : Code) (id : Nat) : run C m n L (.seq a (.block id (.loop b))) fs ro kn kx kr =
  run C m n L a fs ro (cLoop (fun kl => run C m n L b fs ro kl (fun j => match Nat.beq j id with | true => kn | false => kx j) kr) L) kx kr := rfl

theorem run_pre {C : Cfg} {m n L : Nat} (a b d e : Code) : run C m n L (.seq a (.seq (.seq b d) e)) = run C m n L (.seq (.seq a b) (.seq d e)) := rfl

theorem beqD (a b : Int) : (a == b) = decide (a = b) := by by_cases h : a = b <;> simp [h]

theorem dT {p : Prop} [Decidable p] (h : p) : decide p = true := decide_eq_true h
theorem dF {p : Prop} [Decidable p] (h : ¬ p) : decide p = false := decide_eq_false h
theorem eqT {a b : Int} (h : a = b) : (a == b) = true := by simp [h]
theorem eqF {a b : Int} (h : a ≠ b) : (a == b) = false := by simp [h]
theorem neT {a b : Int} (h : a ≠ b) : (a != b) = true := by simp [h]
theorem neF {a b : Int} (h : a = b) : (a != b) = false := by simp [h]
theorem wrI {z : Int} (h : -9223372036854775808 ≤ z ∧ z ≤ 9223372036854775807) : IntKind.wrap .i64 z = z := IntWalk.i64_in z h

/- An entry for one call alone: these arguments, this world; what it answers, and the world behind it. -/
noncomputable def m_at (args args0 : List Value) (A A0 : AW) : Bool := @decide (args = args0 ∧ A = A0) (Classical.propDecidable _)
noncomputable def entAt (args0 : List Value) (A0 : AW) (v : Value) (A1 : AW) : Ent := ⟨fun args A => m_at args args0 A A0, fun _ _ => true, fun _ _ => v, fun _ _ => A1, fun _ _ => v, fun _ _ => A1⟩

theorem at_rfl (args : List Value) (A : AW) : m_at args args A A = true := @decide_eq_true _ (Classical.propDecidable _) ⟨rfl, rfl⟩

theorem entAt_ok {C : Cfg} {f : Nat} {args0 : List Value} {A0 : AW} {v : Value} {A1 : AW}
  (h : ∀ F, Wide F → ∀ k γ W args', WRel γ A0 W → Ro C.ro γ W → VsRel γ args0 (Array.toList args') → CallsIn F k C.P f args' W (Go.Ev.Ends γ W v A1)) : EOk C f (entAt args0 A0 v A1) := fun args A hg F hF k γ W args' hw hR ha => by
 obtain ⟨rfl, rfl⟩ := @of_decide_eq_true _ (Classical.propDecidable _) hg
 exact ⟨fun _ => h F hF k γ W args' hw hR ha, fun _ => h F hF k γ W args' hw hR ha⟩

theorem entAt_run {C : Cfg} (hC : C.Ok) {t : Tbl} (ht : TOk C t) (tm : Tr Nat) {f : Nat} {args0 : List Value} {A0 : AW} {v : Value} {A1 : AW} (h : ∃ L d, (lvlT C t tm L d).call f args0 A0 .ret = .ret v A1) : EOk C f (entAt args0 A0 v A1) :=
 entAt_ok fun F hF k γ W args' hw hR ha => by
  obtain ⟨L, d, hr⟩ := h
  have h1 := (lvlT_le (C := C) t tm L d).call _ _ _ _ _ _ hr
  cases hc : (lvlU C t tm L d).call f args0 A0 with
  | fail w => rw [hc] at h1; cases h1
  | ret u A' =>
   rw [hc] at h1
   cases h1
   exact (lvlU_ok hC ht tm L d).call γ A0 W f args0 args' v A1 hc hw hR ha F hF k

/- Entries of a table, by the shape of the arguments. -/
def eI2 (g : Int → Int → Bool) (v : Int → Int → Value) : Ent := ent (fun args _ => match args with | [.int .i64 a, .int .i64 b] => g a b | _ => false) (fun args _ => match args with | [.int .i64 a, .int .i64 b] => v a b | _ => undef)
def eI4 (g : Int → Int → Int → Int → Bool) (v : Int → Int → Int → Int → Value) : Ent := ent (fun args _ => match args with | [.int .i64 a, .int .i64 b, .int .i64 c, .int .i64 d] => g a b c d | _ => false) (fun args _ => match args with | [.int .i64 a, .int .i64 b, .int .i64 c, .int .i64 d] => v a b c d | _ => undef)
def eA2 (g : Int → Int → Bool) (v : Int → Int → Value) : Ent := ent (fun args _ => match args with | [.agg ⟨[.int .i64 a, .int .i64 b]⟩] => g a b | _ => false) (fun args _ => match args with | [.agg ⟨[.int .i64 a, .int .i64 b]⟩] => v a b | _ => undef)
def eI1 (g : Int → Bool) (v : Int → Value) : Ent := ent (fun args _ => match args with | [.int .i64 a] => g a | _ => false) (fun args _ => match args with | [.int .i64 a] => v a | _ => undef)
def eA1I (g : Int → Int → Int → Bool) (v : Int → Int → Int → Value) : Ent := ent (fun args _ => match args with | [.agg ⟨[.int .i64 a, .int .i64 b]⟩, .int .i64 c] => g a b c | _ => false) (fun args _ => match args with | [.agg ⟨[.int .i64 a, .int .i64 b]⟩, .int .i64 c] => v a b c | _ => undef)
def eAA (g : Int → Int → Int → Int → Bool) (v : Int → Int → Int → Int → Value) : Ent := ent (fun args _ => match args with | [.agg ⟨[.int .i64 a, .int .i64 b]⟩, .agg ⟨[.int .i64 c, .int .i64 d]⟩] => g a b c d | _ => false) (fun args _ => match args with | [.agg ⟨[.int .i64 a, .int .i64 b]⟩, .agg ⟨[.int .i64 c, .int .i64 d]⟩] => v a b c d | _ => undef)
def e0 (v : Value) : Ent := ent (fun args _ => match args with | [] => true | _ => false) (fun _ _ => v)

theorem eI2_ok {C : Cfg} {f : Nat} {g : Int → Int → Bool} {v : Int → Int → Value} (h : ∀ a b, g a b = true → GrT C.P C.ro f [I a, I b] (v a b)) : EOk C f (eI2 g v) := EOk.ent fun args A hg => by
 split at hg
 ·exact (h _ _ hg).ro rfl A
 ·cases hg
theorem eI4_ok {C : Cfg} {f : Nat} {g : Int → Int → Int → Int → Bool} {v : Int → Int → Int → Int → Value} (h : ∀ a b c d, g a b c d = true → GrT C.P C.ro f [I a, I b, I c, I d] (v a b c d)) : EOk C f (eI4 g v) := EOk.ent fun args A hg => by
 split at hg
 ·exact (h _ _ _ _ hg).ro rfl A
 ·cases hg
theorem eA2_ok {C : Cfg} {f : Nat} {g : Int → Int → Bool} {v : Int → Int → Value} (h : ∀ a b, g a b = true → GrT C.P C.ro f [.agg ⟨[I a, I b]⟩] (v a b)) : EOk C f (eA2 g v) := EOk.ent fun args A hg => by
 split at hg
 ·exact (h _ _ hg).ro rfl A
 ·cases hg
theorem eI1_ok {C : Cfg} {f : Nat} {g : Int → Bool} {v : Int → Value} (h : ∀ a, g a = true → GrT C.P C.ro f [I a] (v a)) : EOk C f (eI1 g v) := EOk.ent fun args A hg => by
 split at hg
 ·exact (h _ hg).ro rfl A
 ·cases hg
theorem eA1I_ok {C : Cfg} {f : Nat} {g : Int → Int → Int → Bool} {v : Int → Int → Int → Value} (h : ∀ a b c, g a b c = true → GrT C.P C.ro f [.agg ⟨[I a, I b]⟩, I c] (v a b c)) : EOk C f (eA1I g v) := EOk.ent fun args A hg => by
 split at hg
 ·exact (h _ _ _ hg).ro rfl A
 ·cases hg
theorem eAA_ok {C : Cfg} {f : Nat} {g : Int → Int → Int → Int → Bool} {v : Int → Int → Int → Int → Value} (h : ∀ a b c d, g a b c d = true → GrT C.P C.ro f [.agg ⟨[I a, I b]⟩, .agg ⟨[I c, I d]⟩] (v a b c d)) : EOk C f (eAA g v) := EOk.ent fun args A hg => by
 split at hg
 ·exact (h _ _ _ _ hg).ro rfl A
 ·cases hg
theorem e0_ok {C : Cfg} {f : Nat} {v : Value} (h : GrT C.P C.ro f [] v) : EOk C f (e0 v) := EOk.ent fun args A hg => by
 split at hg
 ·exact h.ro rfl A
 ·cases hg

end Go.Proofs

/- Edges of a graph, as numbers in a row. -/
set_option linter.unusedVariables false
set_option linter.unusedSimpArgs false
namespace Go.Num

def ea (z : Nat → Int) (i : Nat) : Int := z (2 * i)
def eb (z : Nat → Int) (i : Nat) : Int := z (2 * i + 1)
def okAt (n : Int) (z : Nat → Int) (i : Nat) : Bool :=
 decide (0 ≤ ea z i) && decide (ea z i < eb z i) && decide (eb z i < n) && (i == 0 || decide (ea z (i - 1) < ea z i) || (decide (ea z (i - 1) = ea z i) && decide (eb z (i - 1) < eb z i)))
def okFrom (n : Int) (z : Nat → Int) : Nat → Nat → Bool
 | 0, _ => true
 | j + 1, k => okAt n z k && okFrom n z j (k + 1)
def okAll (n : Int) (z : Nat → Int) (m : Nat) : Bool := okFrom n z m 0
def ckG (n : Int) (z : Nat → Int) (m : Nat) : Int := if n < 1 ∨ n > 16 then 1 else if okAll n z m = true then 0 else 40

theorem okFrom_at {n : Int} {z : Nat → Int} : ∀ (j k : Nat), okFrom n z j k = true → ∀ i, k ≤ i → i < k + j → okAt n z i = true
 | 0, _, _, i, h1, h2 => by omega
 | j + 1, k, h, i, h1, h2 => by
  simp only [okFrom, Bool.and_eq_true] at h
  by_cases c : i = k
  ·subst c; exact h.1
  ·exact okFrom_at j (k + 1) h.2 i (by omega) (by omega)
theorem okAll_at {n : Int} {z : Nat → Int} {m : Nat} (h : okAll n z m = true) (i : Nat) (hi : i < m) : 0 ≤ ea z i ∧ ea z i < eb z i ∧ eb z i < n := by
 have := okFrom_at m 0 h i (by omega) (by omega)
 simp only [okAt, Bool.and_eq_true, decide_eq_true_eq] at this
 exact ⟨this.1.1.1, this.1.1.2, this.1.2⟩
theorem ckG_0 {n : Int} {z : Nat → Int} {m : Nat} (h : ckG n z m = 0) : 1 ≤ n ∧ n ≤ 16 ∧ okAll n z m = true := by
 unfold ckG at h
 split at h
 ·cases h
 ·split at h
  ·rename_i h1 h2; exact ⟨by omega, by omega, h2⟩
  ·cases h

end Go.Num

/- The reference's check of a graph, run. -/
set_option linter.unusedVariables false
set_option linter.unusedSimpArgs false
namespace Go.Proofs
open Go Go.Ev Go.Num

abbrev RS2 (b off len cap : Nat) : Value := .slice (some ⟨b, off, some 0⟩) len cap
end Go.Proofs

/- The reference's check of a graph: what the calls answer. -/
set_option linter.unusedVariables false
set_option linter.unusedSimpArgs false
namespace Go.Proofs
open Go Go.Ev Go.Num

def rowAt (r : Mem) (b off m : Nat) (z : Nat → Int) : Prop := ∀ j, j < m → r b (off + j) = some (I (z j))

end Go.Proofs

/- Rows of numbers, by a function. -/
namespace Go.Proofs
open Go Go.Ev Go.Num
set_option linter.unusedVariables false
set_option linter.unusedSimpArgs false
set_option maxRecDepth 100000

def ixN (f : Nat → Int) (m : Nat) : List Value := (List.range m).map fun j => I (f j)
theorem ix_len (f : Nat → Int) (m : Nat) : (ixN f m).length = m := by simp [ixN]
theorem ix_get {f : Nat → Int} {m j : Nat} (h : j < m) : (ixN f m)[j]? = some (I (f j)) := by simp [ixN, h]
theorem ix_nn (f : Nat → Int) (m : Nat) : m_nns (ixN f m) = true := by
 unfold ixN
 generalize List.range m = l
 induction l with
 | nil => rfl
 | cons x l ih => exact ih
theorem ix_gnd (f : Nat → Int) (m : Nat) : gnds (ixN f m) = true := by
 unfold ixN
 generalize List.range m = l
 induction l with
 | nil => rfl
 | cons x l ih => exact ih
theorem ix_ext {f g : Nat → Int} {m : Nat} (h : ∀ j, j < m → f j = g j) : ixN f m = ixN g m := by
 unfold ixN
 exact List.map_congr_left fun j hj => by rw [h j (List.mem_range.1 hj)]
theorem ix_set (f : Nat → Int) (m k : Nat) (v : Int) : (ixN f m).set k (I v) = ixN (fun j => if j = k then v else f j) m := by
 apply List.ext_getElem?
 intro j
 rw [List.getElem?_set]
 by_cases c : j < m
 ·rw [ix_get c, ix_get c, ix_len]
  by_cases d : k = j
  ·subst d; simp [c]
  ·have d' : ¬ j = k := fun e => d e.symm
   simp [d, d']
 ·have h1 : (ixN f m)[j]? = none := List.getElem?_eq_none (by rw [ix_len]; omega)
  have h2 : (ixN (fun j => if j = k then v else f j) m)[j]? = none := List.getElem?_eq_none (by rw [ix_len]; omega)
  rw [h1, h2, ix_len]
  split <;> rename_i e <;> simp [c, e]
theorem ix_set1 {f : Nat → Int} {m k : Nat} {v : Int} (h : k < m) : setAt (ixN f m) k [I v] = some (ixN (fun j => if j = k then v else f j) m) := by
 rw [setAt_one _ _ _ (by rw [ix_len]; exact h), ix_set]
theorem setA0_two : ∀ (c : List Value) (k : Nat) (v w : Value), k + 1 < c.length → setA0 c k [v, w] = some ((c.set k v).set (k + 1) w)
 | [], k, v, w, h => by simp at h
 | [x], k, v, w, h => by simp at h
 | x :: y :: l, 0, v, w, h => by simp [setA0]
 | x :: y :: l, k + 1, v, w, h => by
  have := setA0_two (y :: l) k v w (by simpa using h)
  simp only [setA0, this, List.set_cons_succ]
theorem ix_set2 {f : Nat → Int} {m k : Nat} {v w : Int} (h : k + 1 < m) : setAt (ixN f m) k [I v, I w] = some (ixN (fun j => if j = k + 1 then w else if j = k then v else f j) m) := by
 rw [setAt_old, setA0_two _ _ _ _ (by rw [ix_len]; exact h), ix_set, ix_set]
theorem ix_zero1 (n : Nat) : zerosL (Nat.mul n 1) [I (Int.ofNat 0)] = ixN (fun _ => 0) n := by
 show List.replicate (Nat.mul n 1) (I 0) = _
 rw [Nat.mul_eq, Nat.mul_one]
 apply List.ext_getElem?
 intro j
 by_cases c : j < n
 ·rw [ix_get c, List.getElem?_replicate, if_pos c]
 ·rw [List.getElem?_eq_none (by rw [List.length_replicate]; omega), List.getElem?_eq_none (by rw [ix_len]; omega)]
theorem ix_zero2 (n : Nat) : zerosL (Nat.mul n 2) [I (Int.ofNat 0), I (Int.ofNat 0)] = ixN (fun _ => 0) (2 * n) := by
 show (List.range (Nat.mul n 2)).map (fun j => match [I (Int.ofNat 0), I (Int.ofNat 0)][Nat.mod j 2]? with | some z => z | none => (default : Value)) = _
 unfold ixN
 rw [Nat.mul_eq, Nat.mul_comm]
 refine List.map_congr_left fun j _ => ?_
 have : ∀ k, k < 2 → (match [I (Int.ofNat 0), I (Int.ofNat 0)][k]? with | some z => z | none => (default : Value)) = I 0 := fun k hk => by
  match k, hk with
  | 0, _ => rfl
  | 1, _ => rfl
 exact this _ (Nat.mod_lt _ (by omega))
theorem isI_I (z : Int) : isI .i64 (I z) = true := rfl
theorem ofI_I (z : Int) : ofI (I z) = z := rfl

theorem SOk.mono {C : Cfg} {f : Nat} {args : List Value} {A : AW} {S S' : Value → AW → Prop} (h : SOk C f args A S) (hs : ∀ v A', S v A' → S' v A') : SOk C f args A S' := fun F hF k γ W args' hw hR ha =>
 (h F hF k γ W args' hw hR ha).mono fun e W' he => by
  obtain ⟨v, A', h1, h2⟩ := he
  exact ⟨v, A', hs v A' h1, h2⟩
theorem SOk.at {C : Cfg} {f : Nat} {args : List Value} {A A1 : AW} {v : Value} (h : SOk C f args A fun u B => u = v ∧ B = A1) : EOk C f (entAt args A v A1) := entAt_ok fun F hF k γ W args' hw hR ha => h.one F hF k γ W args' hw hR ha
theorem inc1 {k : Nat} (h : k ≤ 2000000) : IntKind.wrap IntKind.i64 (Int.ofNat k + Int.ofNat 1) = ((k + 1 : Nat) : Int) := by rw [wrI (by simp; omega)]; simp
theorem inc1' {k : Nat} (h : k ≤ 2000000) : IntKind.wrap IntKind.i64 ((k : Int) + Int.ofNat 1) = ((k + 1 : Nat) : Int) := by rw [wrI (by simp; omega)]; simp

def rowI (e : List Int) : List Value := e.map fun x => I x
theorem rowI_len (e : List Int) : (rowI e).length = e.length := by simp [rowI]
theorem rowI_nn (e : List Int) : m_nns (rowI e) = true := by
 induction e with
 | nil => rfl
 | cons x l ih => exact ih
theorem rowI_get {e : List Int} {k : Nat} (h : k < e.length) : (rowI e)[k]? = some (I (e.getD k 0)) := by
 simp [rowI, h, List.getD_eq_getElem?_getD]
theorem rowI_set (e : List Int) (k : Nat) (x : Int) : (rowI e).set k (I x) = rowI (e.set k x) := by simp [rowI, List.map_set]
theorem rowI_app (e : List Int) (x : Int) : rowI e ++ [I x] = rowI (e ++ [x]) := by simp [rowI]
theorem app_set (e : List Int) (x y : Int) : (e ++ [x]).set e.length y = e ++ [y] := by
 rw [List.set_append_right _ _ (Nat.le_refl _)]
 simp
theorem takeL_row (c : List Value) (n : Nat) (h : c.length = n) : takeAt c 0 n = some c := takeAt_all c n 0 c h fun j hj => by rw [Nat.zero_add]
theorem rowI_gnd (e : List Int) : gnds (rowI e) = true := by
 induction e with
 | nil => rfl
 | cons x l ih => exact ih
theorem rowI_ones (e : List Int) : ones (rowI e) = true := by
 induction e with
 | nil => rfl
 | cons x l ih => exact ih
theorem rowI_ix (f : Nat → Int) (m : Nat) : ixN f m = rowI ((List.range m).map f) := by
 unfold ixN rowI
 rw [List.map_map]
 rfl
theorem rowI_take {e : List Int} {j : Nat} (h : j ≤ e.length) : takeAt (rowI e) 0 j = some (rowI (e.take j)) :=
 takeAt_all _ _ _ _ (by rw [rowI_len, List.length_take]; omega) fun i hi => by
  rw [Nat.zero_add]
  unfold rowI
  rw [List.getElem?_map, List.getElem?_map, List.getElem?_take_of_lt hi]
theorem rowI_drop {e : List Int} {j m : Nat} (h : j + m = e.length) : takeAt (rowI e) j m = some (rowI (e.drop j)) :=
 takeAt_all _ _ _ _ (by rw [rowI_len, List.length_drop]; omega) fun i hi => by
  unfold rowI
  rw [List.getElem?_map, List.getElem?_map, List.getElem?_drop]
end Go.Proofs

/- Rows of the caller's, as memory. -/
namespace Go.Proofs
open Go Go.Ev Go.Num
set_option linter.unusedVariables false
set_option linter.unusedSimpArgs false

theorem natFx {i j : Nat} (h : i ≠ j) : Nat.beq i j = false := by
 cases e : Nat.beq i j with
 | false => rfl
 | true => exact absurd (Nat.eq_of_beq_eq_true e) h
theorem own_row {r : Mem} {γ : Gam} {A : AW} {W : World} (hw : WRel γ A W) (hR : Ro r γ W) {i len cap : Nat} (hcap : Nat.beq cap unkE = false) {c : List Value} {e f z : Nat} (hget : A.heap.get i = some (.cells c e f z)) {v' : Value} (hv : VRel γ (.slice (some ⟨i, 0, none⟩) len cap) v') :
  ∃ b k', VRel noG (RS b k' len 0) v' ∧ ∀ j u, c[j]? = some u → gnd u = true → memW W b (k' + j) = some u := by
 obtain ⟨b, k', c', rfl, hrd⟩ := rd_world hw hR hv hcap
 refine ⟨b, k', .sliceRo _ _ _ _ _ _ (by decide) (Nat.zero_le _), fun j u hu hg => hrd j u ?_ hg⟩
 simp only [AW.rd, AW.cell, hget]
 rw [Nat.add_eq, Nat.zero_add]
 exact hu

end Go.Proofs

/- Cut rows of the caller's, as memory. -/
namespace Go.Proofs
open Go Go.Ev Go.Num
set_option linter.unusedVariables false
set_option linter.unusedSimpArgs false

theorem own_cut {r : Mem} {γ : Gam} {A : AW} {W : World} (hw : WRel γ A W) (hR : Ro r γ W) {i k len cap : Nat} (hcap : Nat.beq cap unkE = false) {c : List Value} {e f z : Nat} (hget : A.heap.get i = some (.cells c e f z)) {v' : Value} (hv : VRel γ (.slice (some ⟨i, k, none⟩) len cap) v') :
  ∃ b k', VRel noG (RS b k' len 0) v' ∧ ∀ j u, c[k + j]? = some u → gnd u = true → memW W b (k' + j) = some u := by
 obtain ⟨b, k', c', rfl, hrd⟩ := rd_world hw hR hv hcap
 refine ⟨b, k', .sliceRo _ _ _ _ _ _ (by decide) (Nat.zero_le _), fun j u hu hg => hrd j u ?_ hg⟩
 simp only [AW.rd, AW.cell, hget]
 exact hu

end Go.Proofs

/- The law's copy of a table, run. -/
namespace Go.Proofs
open Go Go.Ev Go.Num
set_option linter.unusedVariables false
set_option linter.unusedSimpArgs false
set_option maxRecDepth 100000

noncomputable def cTB : Code := bodyOf S0 12
noncomputable def TB_0 : Code := (lc cTB)
noncomputable def TB_1 : Code := (lc (rc cTB))
noncomputable def TB_2 : Code := (lc (lc (rc (rc cTB))))
noncomputable def TB_3 : Code := (ic (ic (rc (lc (rc (rc cTB))))))
noncomputable def TB_4 : Code := (rc (rc (rc cTB)))
theorem TB_eq : cTB = (.seq TB_0 (.seq TB_1 (.seq (.seq TB_2 (.block 0 (.loop TB_3))) TB_4))) := by kernel_rfl
abbrev nilT : Value := .slice none 0 0
abbrev gwT (i n : Nat) : Value := .slice (some ⟨i, 0, none⟩) n unk
def oTb (c : List Value) (i : Nat) : Option AObj := some (.cells c 69 i 1)
def oBo (c : List Value) (i : Nat) : Option AObj := some (.cells c 4 i 1)
def lvTB : List Nat := [0, 3, 4]
def vTB (b off n cap : Nat) (E : Value) (k : Nat) : OV := [some (RS b off n cap), some E, some (I (k : Nat))]

theorem tbA (r : Mem) (b off n cap : Nat) (fs : FnsC) (K : OV → List Nat → OO → CR) (kx : Nat → KS) (kr : KS) : run (SC r) 61 33 1 (.seq TB_0 (.seq TB_1 TB_2)) fs none (rbK 0 lvTB [] K) kx kr (sc0 61 [RS b off n cap]) (tr0 61 [RS b off n cap]) [] emptyA =
    K [some (.slice (some ⟨b, off, some 0⟩) n cap), some (.slice none 0 0), some (I (Int.ofNat 0))] [] [] := by kernel_rfl

theorem tbBnN (r : Mem) (b off n cap k : Nat) (fs : FnsC) (K : OV → List Nat → OO → CR) (KX : Nat → OV → List Nat → OO → CR) (kr : KS) : run (SS r 1) 61 33 1 TB_3 fs none (rbK 0 lvTB [.t] K) (fun j => rbK 0 [3] [] (KX j)) kr [] (bT lvTB (vTB b off n cap nilT k) .nil) [] (mkA []) =
    bif decide (Int.ofNat k < Int.ofNat n) then bif decide (Int.ofNat k < 14) then bif Nat.blt (Int.toNat (Int.ofNat k)) n then Option.casesOn (r b (Nat.add off (Nat.mul (Int.toNat (Int.ofNat k)) 1))) (.fail 423) fun val => bif isNilS val then bif Nat.blt (Int.toNat (Int.ofNat k)) n then Option.casesOn (r b (Nat.add off (Nat.mul (Int.toNat (Int.ofNat k)) 1))) (.fail 423) fun val => bif isNilS val then K [some (.slice (some ⟨b, off, some 0⟩) n cap), some (.slice (some ⟨0, 0, none⟩) 1 unk), some (I (IntKind.wrap .i64 (Int.ofNat k + Int.ofNat 1)))] [] [some (.cells [.slice none 0 0] 69 0 1)] else .fail 420 else .fail 420 else .fail 420 else .fail 420 else KX 0 [some (.slice none 0 0)] [] [] else KX 0 [some (.slice none 0 0)] [] [] := by kernel_rfl

theorem tbBoN (r : Mem) (b off n cap k m : Nat) (c : List Value) (fs : FnsC) (K : OV → List Nat → OO → CR) (KX : Nat → OV → List Nat → OO → CR) (kr : KS) : run (SS r 1) 61 33 1 TB_3 fs none (rbK 0 lvTB [.q []] K) (fun j => rbK 0 [3] [] (KX j)) kr [] (bT lvTB (vTB b off n cap (gwT 0 m) k) .nil) [] (mkA [oTb c 0]) =
    bif decide (Int.ofNat k < Int.ofNat n) then bif decide (Int.ofNat k < 14) then bif Nat.blt (Int.toNat (Int.ofNat k)) n then Option.casesOn (r b (Nat.add off (Nat.mul (Int.toNat (Int.ofNat k)) 1))) (.fail 423) fun val => bif isNilS val then bif Nat.blt (Int.toNat (Int.ofNat k)) n then Option.casesOn (r b (Nat.add off (Nat.mul (Int.toNat (Int.ofNat k)) 1))) (.fail 423) fun val => bif isNilS val then bif Nat.ble (Nat.add m 1) 1000000 then Option.casesOn (takeAt c 0 (Nat.mul m 1)) (.fail 439) fun val => bif m_nopo (m_mvq [2] (val ++ [.slice none 0 0])) && true then K [some (.slice (some ⟨b, off, some 0⟩) n cap), some (.slice (some ⟨0, 0, none⟩) (Nat.add m 1) unk), some (I (IntKind.wrap .i64 (Int.ofNat k + Int.ofNat 1)))] [] [some (.cells (m_mvq [2] (val ++ [.slice none 0 0])) 69 0 1)] else .fail 420 else .fail 420 else .fail 420 else .fail 420 else .fail 420 else .fail 420 else bif m_nns c && true then KX 0 [some (.slice (some ⟨0, 0, none⟩) m unk)] [] [some (.cells c 69 0 1)] else .fail 420 else bif m_nns c && true then KX 0 [some (.slice (some ⟨0, 0, none⟩) m unk)] [] [some (.cells c 69 0 1)] else .fail 420 := by kernel_rfl

theorem tbBnR (r : Mem) (b off n cap k : Nat) (fs : FnsC) (K : OV → List Nat → OO → CR) (KX : Nat → OV → List Nat → OO → CR) (kr : KS) : run (SS r 2) 61 33 1 TB_3 fs none (rbK 0 lvTB [.t] K) (fun j => rbK 0 [3] [] (KX j)) kr [] (bT lvTB (vTB b off n cap nilT k) .nil) [] (mkA []) =
    bif decide (Int.ofNat k < Int.ofNat n) then bif decide (Int.ofNat k < 14) then bif Nat.blt (Int.toNat (Int.ofNat k)) n then Option.casesOn (r b (Nat.add off (Nat.mul (Int.toNat (Int.ofNat k)) 1))) (.fail 423) fun val => bif isRoS val then bif Nat.blt (Int.toNat (Int.ofNat k)) n then Option.casesOn (r b (Nat.add off (Nat.mul (Int.toNat (Int.ofNat k)) 1))) (.fail 423) fun val_1 => bif isRoS val_1 then bif decide (0 ≤ bif decide (14 < Int.ofNat (lnOf val_1)) then Int.ofNat 14 else Int.ofNat (lnOf val_1)) then bif Nat.beq (cpOf val) 9223372036854775809 then .fail 435 else bif Nat.ble (Int.toNat (bif decide (14 < Int.ofNat (lnOf val_1)) then Int.ofNat 14 else Int.ofNat (lnOf val_1))) (cpOf val) then bif Nat.beq (Int.toNat (bif decide (14 < Int.ofNat (lnOf val_1)) then Int.ofNat 14 else Int.ofNat (lnOf val_1))) 0 then K [some (.slice (some ⟨b, off, some 0⟩) n cap), some (.slice (some ⟨0, 0, none⟩) 1 unk), some (I (IntKind.wrap .i64 (Int.ofNat k + Int.ofNat 1)))] [] [some (.cells [.slice none 0 0] 69 0 1)] else bif Nat.ble (Nat.add 0 (Nat.sub (Int.toNat (bif decide (14 < Int.ofNat (lnOf val_1)) then Int.ofNat 14 else Int.ofNat (lnOf val_1))) 0)) 1000000 then Option.casesOn (match Nat.beq (Nat.sub (cpOf val) 0) unkE with | true => none | false => takeF (Cfg.ro (SS r 2) (blkOf val)) (Nat.add (offOf val) (Nat.mul 0 (TypeInfo.size Tryz.t4))) (Nat.mul (Nat.sub (Int.toNat (bif decide (14 < Int.ofNat (lnOf val_1)) then 14 else Int.ofNat (lnOf val_1))) 0) (TypeInfo.size Tryz.t4))) (.fail 443) fun val => bif Nat.beq (List.length val) (Nat.mul (Nat.sub (Int.toNat (bif decide (14 < Int.ofNat (lnOf val_1)) then Int.ofNat 14 else Int.ofNat (lnOf val_1))) 0) 1) then bif Nat.beq (Nat.sub (Int.toNat (bif decide (14 < Int.ofNat (lnOf val_1)) then Int.ofNat 14 else Int.ofNat (lnOf val_1))) 0) 0 then K [some (.slice (some ⟨b, off, some 0⟩) n cap), some (.slice (some ⟨0, 0, none⟩) 1 unk), some (I (IntKind.wrap .i64 (Int.ofNat k + Int.ofNat 1)))] [] [some (.cells [.slice none 0 0] 69 0 1)] else bif true && (m_nns val && true) then K [some (.slice (some ⟨b, off, some 0⟩) n cap), some (.slice (some ⟨0, 0, none⟩) 1 unk), some (I (IntKind.wrap .i64 (Int.ofNat k + Int.ofNat 1)))] [] [some (.cells [.slice (some ⟨1, 0, none⟩) (Nat.sub (Int.toNat (bif decide (14 < Int.ofNat (lnOf val_1)) then Int.ofNat 14 else Int.ofNat (lnOf val_1))) 0) unk] 69 0 1), some (.cells val 4 1 1)] else .fail 420 else .fail 420 else .fail 420 else .fail 420 else .fail 420 else .fail 420 else .fail 420 else .fail 420 else .fail 420 else KX 0 [some (.slice none 0 0)] [] [] else KX 0 [some (.slice none 0 0)] [] [] := by kernel_rfl

theorem tbBoR (r : Mem) (b off n cap k m : Nat) (c : List Value) (fs : FnsC) (K : OV → List Nat → OO → CR) (KX : Nat → OV → List Nat → OO → CR) (kr : KS) : run (SS r 2) 61 33 1 TB_3 fs none (rbK 0 lvTB [.q [1]] K) (fun j => rbK 0 [3] [] (KX j)) kr [] (bT lvTB (vTB b off n cap (gwT 0 m) k) .nil) [] (mkA [oTb c 0]) =
    bif decide (Int.ofNat k < Int.ofNat n) then bif decide (Int.ofNat k < 14) then bif Nat.blt (Int.toNat (Int.ofNat k)) n then Option.casesOn (r b (Nat.add off (Nat.mul (Int.toNat (Int.ofNat k)) 1))) (.fail 423) fun val => bif isRoS val then bif Nat.blt (Int.toNat (Int.ofNat k)) n then Option.casesOn (r b (Nat.add off (Nat.mul (Int.toNat (Int.ofNat k)) 1))) (.fail 423) fun val_1 => bif isRoS val_1 then bif decide (0 ≤ bif decide (14 < Int.ofNat (lnOf val_1)) then Int.ofNat 14 else Int.ofNat (lnOf val_1)) then bif Nat.beq (cpOf val) 9223372036854775809 then .fail 435 else bif Nat.ble (Int.toNat (bif decide (14 < Int.ofNat (lnOf val_1)) then Int.ofNat 14 else Int.ofNat (lnOf val_1))) (cpOf val) then bif Nat.beq (Int.toNat (bif decide (14 < Int.ofNat (lnOf val_1)) then Int.ofNat 14 else Int.ofNat (lnOf val_1))) 0 then bif Nat.ble (Nat.add m 1) 1000000 then Option.casesOn (takeAt c 0 (Nat.mul m 1)) (.fail 439) fun val => bif m_nopo (m_mvq [2, 1] (val ++ [.slice none 0 0])) && (m_nns [.slice none 0 0] && true) then K [some (.slice (some ⟨b, off, some 0⟩) n cap), some (.slice (some ⟨0, 0, none⟩) (Nat.add m 1) unk), some (I (IntKind.wrap .i64 (Int.ofNat k + Int.ofNat 1)))] [] [some (.cells (m_mvq [2, 1] (val ++ [.slice none 0 0])) 69 0 1), some (.cells [.slice none 0 0] 69 1 1)] else .fail 420 else .fail 420 else bif Nat.ble (Nat.add 0 (Nat.sub (Int.toNat (bif decide (14 < Int.ofNat (lnOf val_1)) then Int.ofNat 14 else Int.ofNat (lnOf val_1))) 0)) 1000000 then Option.casesOn (match Nat.beq (Nat.sub (cpOf val) 0) unkE with | true => none | false => takeF (Cfg.ro (SS r 2) (blkOf val)) (Nat.add (offOf val) (Nat.mul 0 (TypeInfo.size Tryz.t4))) (Nat.mul (Nat.sub (Int.toNat (bif decide (14 < Int.ofNat (lnOf val_1)) then 14 else Int.ofNat (lnOf val_1))) 0) (TypeInfo.size Tryz.t4))) (.fail 443) fun val => bif Nat.beq (List.length val) (Nat.mul (Nat.sub (Int.toNat (bif decide (14 < Int.ofNat (lnOf val_1)) then Int.ofNat 14 else Int.ofNat (lnOf val_1))) 0) 1) then bif Nat.beq (Nat.sub (Int.toNat (bif decide (14 < Int.ofNat (lnOf val_1)) then Int.ofNat 14 else Int.ofNat (lnOf val_1))) 0) 0 then bif Nat.ble (Nat.add m 1) 1000000 then Option.casesOn (takeAt c 0 (Nat.mul m 1)) (.fail 439) fun val => bif m_nopo (m_mvq [2, 1] (val ++ [.slice none 0 0])) && (m_nns [.slice none 0 0] && true) then K [some (.slice (some ⟨b, off, some 0⟩) n cap), some (.slice (some ⟨0, 0, none⟩) (Nat.add m 1) unk), some (I (IntKind.wrap .i64 (Int.ofNat k + Int.ofNat 1)))] [] [some (.cells (m_mvq [2, 1] (val ++ [.slice none 0 0])) 69 0 1), some (.cells [.slice none 0 0] 69 1 1)] else .fail 420 else .fail 420 else bif Nat.ble (Nat.add m 1) 1000000 then Option.casesOn (takeAt c 0 (Nat.mul m 1)) (.fail 439) fun val_2 => bif m_nopo (m_mvq [3, 1] (val_2 ++ [.slice (some ⟨1, 0, none⟩) (Nat.sub (Int.toNat (bif decide (14 < Int.ofNat (lnOf val_1)) then Int.ofNat 14 else Int.ofNat (lnOf val_1))) 0) unk])) && (m_nns val && true) then K [some (.slice (some ⟨b, off, some 0⟩) n cap), some (.slice (some ⟨0, 0, none⟩) (Nat.add m 1) unk), some (I (IntKind.wrap .i64 (Int.ofNat k + Int.ofNat 1)))] [] [some (.cells (m_mvq [3, 1] (val_2 ++ [.slice (some ⟨1, 0, none⟩) (Nat.sub (Int.toNat (bif decide (14 < Int.ofNat (lnOf val_1)) then Int.ofNat 14 else Int.ofNat (lnOf val_1))) 0) unk])) 69 0 1), some (.cells val 4 1 1)] else .fail 420 else .fail 420 else .fail 420 else .fail 420 else .fail 420 else .fail 420 else .fail 420 else .fail 420 else .fail 420 else .fail 420 else bif m_nns c && true then KX 0 [some (.slice (some ⟨0, 0, none⟩) m unk)] [] [some (.cells c 69 0 1)] else .fail 420 else bif m_nns c && true then KX 0 [some (.slice (some ⟨0, 0, none⟩) m unk)] [] [some (.cells c 69 0 1)] else .fail 420 := by kernel_rfl

theorem tbBoZ (r : Mem) (b off n cap k m : Nat) (c : List Value) (fs : FnsC) (K : OV → List Nat → OO → CR) (KX : Nat → OV → List Nat → OO → CR) (kr : KS) : run (SS r 2) 61 33 1 TB_3 fs none (rbK 0 lvTB [.q []] K) (fun j => rbK 0 [3] [] (KX j)) kr [] (bT lvTB (vTB b off n cap (gwT 0 m) k) .nil) [] (mkA [oTb c 0]) =
    bif decide (Int.ofNat k < Int.ofNat n) then bif decide (Int.ofNat k < 14) then bif Nat.blt (Int.toNat (Int.ofNat k)) n then Option.casesOn (r b (Nat.add off (Nat.mul (Int.toNat (Int.ofNat k)) 1))) (.fail 423) fun val => bif isRoS val then bif Nat.blt (Int.toNat (Int.ofNat k)) n then Option.casesOn (r b (Nat.add off (Nat.mul (Int.toNat (Int.ofNat k)) 1))) (.fail 423) fun val_1 => bif isRoS val_1 then bif decide (0 ≤ bif decide (14 < Int.ofNat (lnOf val_1)) then Int.ofNat 14 else Int.ofNat (lnOf val_1)) then bif Nat.beq (cpOf val) 9223372036854775809 then .fail 435 else bif Nat.ble (Int.toNat (bif decide (14 < Int.ofNat (lnOf val_1)) then Int.ofNat 14 else Int.ofNat (lnOf val_1))) (cpOf val) then bif Nat.beq (Int.toNat (bif decide (14 < Int.ofNat (lnOf val_1)) then Int.ofNat 14 else Int.ofNat (lnOf val_1))) 0 then bif Nat.ble (Nat.add m 1) 1000000 then Option.casesOn (takeAt c 0 (Nat.mul m 1)) (.fail 439) fun val => bif m_nopo (m_mvq [2] (val ++ [.slice none 0 0])) && true then K [some (.slice (some ⟨b, off, some 0⟩) n cap), some (.slice (some ⟨0, 0, none⟩) (Nat.add m 1) unk), some (I (IntKind.wrap .i64 (Int.ofNat k + Int.ofNat 1)))] [] [some (.cells (m_mvq [2] (val ++ [.slice none 0 0])) 69 0 1)] else .fail 420 else .fail 420 else bif Nat.ble (Nat.add 0 (Nat.sub (Int.toNat (bif decide (14 < Int.ofNat (lnOf val_1)) then Int.ofNat 14 else Int.ofNat (lnOf val_1))) 0)) 1000000 then Option.casesOn (match Nat.beq (Nat.sub (cpOf val) 0) unkE with | true => none | false => takeF (Cfg.ro (SS r 2) (blkOf val)) (Nat.add (offOf val) (Nat.mul 0 (TypeInfo.size Tryz.t4))) (Nat.mul (Nat.sub (Int.toNat (bif decide (14 < Int.ofNat (lnOf val_1)) then 14 else Int.ofNat (lnOf val_1))) 0) (TypeInfo.size Tryz.t4))) (.fail 443) fun val => bif Nat.beq (List.length val) (Nat.mul (Nat.sub (Int.toNat (bif decide (14 < Int.ofNat (lnOf val_1)) then Int.ofNat 14 else Int.ofNat (lnOf val_1))) 0) 1) then bif Nat.beq (Nat.sub (Int.toNat (bif decide (14 < Int.ofNat (lnOf val_1)) then Int.ofNat 14 else Int.ofNat (lnOf val_1))) 0) 0 then bif Nat.ble (Nat.add m 1) 1000000 then Option.casesOn (takeAt c 0 (Nat.mul m 1)) (.fail 439) fun val => bif m_nopo (m_mvq [2] (val ++ [.slice none 0 0])) && true then K [some (.slice (some ⟨b, off, some 0⟩) n cap), some (.slice (some ⟨0, 0, none⟩) (Nat.add m 1) unk), some (I (IntKind.wrap .i64 (Int.ofNat k + Int.ofNat 1)))] [] [some (.cells (m_mvq [2] (val ++ [.slice none 0 0])) 69 0 1)] else .fail 420 else .fail 420 else bif Nat.ble (Nat.add m 1) 1000000 then Option.casesOn (takeAt c 0 (Nat.mul m 1)) (.fail 439) fun val => bif m_nopo (m_mvq [3] (val ++ [.slice (some ⟨1, 0, none⟩) (Nat.sub (Int.toNat (bif decide (14 < Int.ofNat (lnOf val_1)) then Int.ofNat 14 else Int.ofNat (lnOf val_1))) 0) unk])) && true then K [some (.slice (some ⟨b, off, some 0⟩) n cap), some (.slice (some ⟨0, 0, none⟩) (Nat.add m 1) unk), some (I (IntKind.wrap .i64 (Int.ofNat k + Int.ofNat 1)))] [] [some (.cells (m_mvq [3] (val ++ [.slice (some ⟨1, 0, none⟩) (Nat.sub (Int.toNat (bif decide (14 < Int.ofNat (lnOf val_1)) then Int.ofNat 14 else Int.ofNat (lnOf val_1))) 0) unk])) 69 0 1)] else .fail 420 else .fail 420 else .fail 420 else .fail 420 else .fail 420 else .fail 420 else .fail 420 else .fail 420 else .fail 420 else .fail 420 else bif m_nns c && true then KX 0 [some (.slice (some ⟨0, 0, none⟩) m unk)] [] [some (.cells c 69 0 1)] else .fail 420 else bif m_nns c && true then KX 0 [some (.slice (some ⟨0, 0, none⟩) m unk)] [] [some (.cells c 69 0 1)] else .fail 420 := by kernel_rfl

theorem tbBnE (r : Mem) (b off n cap k : Nat) (fs : FnsC) (K : OV → List Nat → OO → CR) (KX : Nat → OV → List Nat → OO → CR) (kr : KS) : run (SS r 3) 61 33 1 TB_3 fs none (rbK 0 lvTB [.t] K) (fun j => rbK 0 [3] [] (KX j)) kr [] (bT lvTB (vTB b off n cap nilT k) .nil) [] (mkA []) =
    bif decide (Int.ofNat k < Int.ofNat n) then bif decide (Int.ofNat k < 14) then bif Nat.blt (Int.toNat (Int.ofNat k)) n then Option.casesOn (r b (Nat.add off (Nat.mul (Int.toNat (Int.ofNat k)) 1))) (.fail 423) fun val => bif isES val then bif Nat.blt (Int.toNat (Int.ofNat k)) n then Option.casesOn (r b (Nat.add off (Nat.mul (Int.toNat (Int.ofNat k)) 1))) (.fail 423) fun val => bif isES val then K [some (.slice (some ⟨b, off, some 0⟩) n cap), some (.slice (some ⟨0, 0, none⟩) 1 unk), some (I (IntKind.wrap .i64 (Int.ofNat k + Int.ofNat 1)))] [] [some (.cells [.slice none 0 0] 69 0 1)] else .fail 420 else .fail 420 else .fail 420 else .fail 420 else KX 0 [some (.slice none 0 0)] [] [] else KX 0 [some (.slice none 0 0)] [] [] := by kernel_rfl

theorem tbBoE (r : Mem) (b off n cap k m : Nat) (c : List Value) (fs : FnsC) (K : OV → List Nat → OO → CR) (KX : Nat → OV → List Nat → OO → CR) (kr : KS) : run (SS r 3) 61 33 1 TB_3 fs none (rbK 0 lvTB [.q []] K) (fun j => rbK 0 [3] [] (KX j)) kr [] (bT lvTB (vTB b off n cap (gwT 0 m) k) .nil) [] (mkA [oTb c 0]) =
    bif decide (Int.ofNat k < Int.ofNat n) then bif decide (Int.ofNat k < 14) then bif Nat.blt (Int.toNat (Int.ofNat k)) n then Option.casesOn (r b (Nat.add off (Nat.mul (Int.toNat (Int.ofNat k)) 1))) (.fail 423) fun val => bif isES val then bif Nat.blt (Int.toNat (Int.ofNat k)) n then Option.casesOn (r b (Nat.add off (Nat.mul (Int.toNat (Int.ofNat k)) 1))) (.fail 423) fun val => bif isES val then bif Nat.ble (Nat.add m 1) 1000000 then Option.casesOn (takeAt c 0 (Nat.mul m 1)) (.fail 439) fun val => bif m_nopo (m_mvq [2] (val ++ [.slice none 0 0])) && true then K [some (.slice (some ⟨b, off, some 0⟩) n cap), some (.slice (some ⟨0, 0, none⟩) (Nat.add m 1) unk), some (I (IntKind.wrap .i64 (Int.ofNat k + Int.ofNat 1)))] [] [some (.cells (m_mvq [2] (val ++ [.slice none 0 0])) 69 0 1)] else .fail 420 else .fail 420 else .fail 420 else .fail 420 else .fail 420 else .fail 420 else bif m_nns c && true then KX 0 [some (.slice (some ⟨0, 0, none⟩) m unk)] [] [some (.cells c 69 0 1)] else .fail 420 else bif m_nns c && true then KX 0 [some (.slice (some ⟨0, 0, none⟩) m unk)] [] [some (.cells c 69 0 1)] else .fail 420 := by kernel_rfl

theorem tbCn (r : Mem) (fs : FnsC) (K KR : OV → List Nat → OO → CR) (kx : Nat → KS) : run (SC r) 61 33 1 TB_4 fs none (rbK 0 [2] [] K) kx (rbK 0 [2] [] KR) [] (bT [3] [some nilT] .nil) [] (mkA []) =
    KR [some (.slice none 0 0)] [] [] := by kernel_rfl

theorem tbCo (r : Mem) (m : Nat) (c : List Value) (fs : FnsC) (K KR : OV → List Nat → OO → CR) (kx : Nat → KS) : run (SC r) 61 33 1 TB_4 fs none (rbK 0 [2] [] K) kx (rbK 0 [2] [] KR) [] (bT [3] [some (gwT 0 m)] .nil) [] (mkA [oTb c 0]) =
    bif m_nns c && true then KR [some (.slice (some ⟨0, 0, none⟩) m unk)] [] [some (.cells c 69 0 1)] else .fail 420 := by kernel_rfl

end Go.Proofs

/- A condition between pieces of code. -/
set_option linter.unusedVariables false
set_option linter.unusedSimpArgs false
namespace Go.Ev
open Go

theorem Reach.condT {C : Cfg} {m n : Nat} {F : Fence} {k : Nat} {γ0 : Gam} {W0 : World} {c : Operand} {x y : Code} {st : St} {Q : Exit → St → Prop} (h : opd m st.en c = some (.bool true)) (hx : Reach C m n F k γ0 W0 x st Q) : Reach C m n F k γ0 W0 (.cond c x y) st Q := fun γ a W hs hb => by
 have hv := opd_rel hs.tm h
 refine wpIn_cond_true (c := c) ?_ (hx γ a W hs hb)
 generalize a.eval c = v at hv
 cases hv
 rfl
theorem Reach.condF {C : Cfg} {m n : Nat} {F : Fence} {k : Nat} {γ0 : Gam} {W0 : World} {c : Operand} {x y : Code} {st : St} {Q : Exit → St → Prop} (h : opd m st.en c = some (.bool false)) (hx : Reach C m n F k γ0 W0 y st Q) : Reach C m n F k γ0 W0 (.cond c x y) st Q := fun γ a W hs hb => by
 have hv := opd_rel hs.tm h
 refine wpIn_cond_false (c := c) ?_ (hx γ a W hs hb)
 generalize a.eval c = v at hv
 cases hv
 rfl
end Go.Ev

/- The law's copy of a table: what the call answers. -/
namespace Go.Proofs
open Go Go.Ev Go.Num
set_option linter.unusedVariables false
set_option linter.unusedSimpArgs false
set_option maxRecDepth 100000

mutual
theorem gnd_nn : (v : Value) → gnd v = true → nn v = true
 | .bool _, _ => rfl
 | .int _ _, _ => rfl
 | .float _ _, _ => rfl
 | .complex _ _ _, _ => rfl
 | .string _, _ => rfl
 | .pointer none, _ => rfl
 | .pointer (some ⟨_, _, none⟩), h => by simp [gnd] at h
 | .pointer (some ⟨_, _, some _⟩), _ => rfl
 | .slice none l c, h => h
 | .slice (some ⟨_, _, none⟩) _ _, h => by simp [gnd] at h
 | .slice (some ⟨_, _, some _⟩) _ _, _ => rfl
 | .map none, _ => rfl
 | .map (some _), h => by simp [gnd] at h
 | .chan none, _ => rfl
 | .chan (some _), h => by simp [gnd] at h
 | .func _ _ _, h => h
 | .nilFunc, _ => rfl
 | .iface t v, h => gnd_nn v h
 | .nilIface, _ => rfl
 | .agg ⟨l⟩, h => gnds_nns l h
 | .tuple ⟨l⟩, h => h
theorem gnds_nns : (l : List Value) → gnds l = true → nns l = true
 | [], _ => rfl
 | v :: l, h => by
  simp only [gnds, Bool.and_eq_true] at h
  simp only [nns, gnd_nn v h.1, gnds_nns l h.2, Bool.and_self]
end
mutual
theorem mvV_nn {ns : List Nat} : (v : Value) → nn v = true → mvV ns v = (ns, v)
 | .bool _, _ => rfl
 | .int _ _, _ => rfl
 | .float _ _, _ => rfl
 | .complex _ _ _, _ => rfl
 | .string _, _ => rfl
 | .pointer none, _ => rfl
 | .pointer (some ⟨_, _, none⟩), h => by simp [nn, gnd] at h
 | .pointer (some ⟨_, _, some _⟩), _ => rfl
 | .slice none l c, h => rfl
 | .slice (some ⟨_, _, none⟩) _ _, h => by simp [nn, gnd] at h
 | .slice (some ⟨_, _, some _⟩) _ _, _ => rfl
 | .map none, _ => rfl
 | .map (some _), h => by simp [nn, gnd] at h
 | .chan _, _ => rfl
 | .func (.func f) ⟨a⟩ ⟨c⟩, h => by
  have h' : (gnds a && gnds c) = true := h
  simp only [Bool.and_eq_true] at h'
  simp only [mvV, mvVs_nn a (gnds_nns a h'.1), mvVs_nn c (gnds_nns c h'.2)]
 | .func (.method _) _ _, h => by simp [nn, gnd] at h
 | .func (.methodOf _ _) _ _, h => by simp [nn, gnd] at h
 | .func (.via _ _ _ _) _ _, h => by simp [nn, gnd] at h
 | .func (.yield _) _ _, h => by simp [nn, gnd] at h
 | .nilFunc, _ => rfl
 | .iface t v, h => by simp only [mvV, mvV_nn v h]
 | .nilIface, _ => rfl
 | .agg ⟨l⟩, h => by simp only [mvV, mvVs_nn l h]
 | .tuple ⟨l⟩, h => by simp only [mvV, mvVs_nn l (gnds_nns l h)]
theorem mvVs_nn {ns : List Nat} : (l : List Value) → nns l = true → mvVs ns l = (ns, l)
 | [], _ => rfl
 | v :: l, h => by
  simp only [nns, Bool.and_eq_true] at h
  simp only [mvVs, mvV_nn v h.1, mvVs_nn l h.2]
end
theorem mvq_nn {ns : List Nat} : ∀ {c : List Value}, m_nns c = true → m_mvq ns c = c
 | [], _ => rfl
 | v :: c, h => by
  have h' : (nn v && nns c) = true := h
  simp only [Bool.and_eq_true] at h'
  have ih := mvq_nn (ns := ns) (c := c) h'.2
  unfold m_mvq at ih ⊢
  rw [List.map_cons, ih]
  have : mvV ns v = (ns, v) := mvV_nn v h'.1
  unfold mvq1
  rw [this]
  simp only [Nat.beq_refl]
theorem mvq_app (ns : List Nat) (c d : List Value) : m_mvq ns (c ++ d) = m_mvq ns c ++ m_mvq ns d := by unfold m_mvq; rw [List.map_append]
theorem nopo_nn : ∀ {c : List Value}, m_nns c = true → m_nopo c = true
 | [], _ => rfl
 | v :: c, h => by
  have h' : (nn v && nns c) = true := h
  simp only [Bool.and_eq_true] at h'
  have ih := nopo_nn (c := c) h'.2
  unfold m_nopo at ih ⊢
  rw [List.all_cons, ih, Bool.and_true]
  cases v with
  | chan o => cases o with
   | none => rfl
   | some x => simp [nn, gnd] at h'
  | _ => rfl
theorem nopo_app (c d : List Value) : m_nopo (c ++ d) = (m_nopo c && m_nopo d) := by unfold m_nopo; rw [List.all_append]
theorem nns_app : ∀ (c d : List Value), m_nns (c ++ d) = (m_nns c && m_nns d)
 | [], d => rfl
 | v :: c, d => by
  have ih := nns_app c d
  unfold m_nns at ih ⊢
  rw [List.cons_append, nns, nns, ih, Bool.and_assoc]

def boL (l : List Bool) : List Value := l.map .bool
theorem boL_len (l : List Bool) : (boL l).length = l.length := by simp [boL]
theorem boL_nn : ∀ l : List Bool, m_nns (boL l) = true
 | [] => rfl
 | b :: l => by
  have ih := boL_nn l
  unfold m_nns boL at ih ⊢
  rw [List.map_cons, nns, ih]
  rfl
def RowV (r : Mem) (v : Value) (l : List Bool) : Prop := (l = [] ∧ v = nilT) ∨ (l ≠ [] ∧ ∃ b o cap, v = RS b o l.length cap ∧ ∀ j x, l[j]? = some x → r b (o + j) = some (.bool x))
theorem RowV.mono {r r' : Mem} (hle : Mem.le r r') {v : Value} {l : List Bool} (h : RowV r v l) : RowV r' v l := by
 rcases h with h | ⟨h1, b, o, cap, h2, h3⟩
 ·exact .inl h
 ·exact .inr ⟨h1, b, o, cap, h2, fun j x hx => hle _ _ _ (h3 j x hx)⟩
def TabC (r : Mem) (c : List Value) (T : List (List Bool)) : Prop := c.length = T.length ∧ ∀ (i : Nat) v l, c[i]? = some v → T[i]? = some l → RowV r v l
theorem TabC.mono {r r' : Mem} (hle : Mem.le r r') {c : List Value} {T : List (List Bool)} (h : TabC r c T) : TabC r' c T := ⟨h.1, fun i v l h1 h2 => (h.2 i v l h1 h2).mono hle⟩
theorem TabC.snoc {r : Mem} {c : List Value} {T : List (List Bool)} (h : TabC r c T) {v : Value} {l : List Bool} (hv : RowV r v l) : TabC r (c ++ [v]) (T ++ [l]) := by
 refine ⟨by simp [h.1], fun i u m h1 h2 => ?_⟩
 by_cases hi : i < c.length
 ·rw [List.getElem?_append_left hi] at h1
  rw [List.getElem?_append_left (by rw [← h.1]; exact hi)] at h2
  exact h.2 i u m h1 h2
 ·rw [List.getElem?_append_right (by omega)] at h1
  rw [List.getElem?_append_right (by rw [← h.1]; omega), ← h.1] at h2
  cases hk : i - c.length with
  | zero =>
   rw [hk] at h1 h2
   simp at h1 h2
   subst h1 h2
   exact hv
  | succ j => rw [hk] at h1; simp at h1
noncomputable def inRow (r : Mem) (u : Value) : List Bool := match u with
 | .slice (some ⟨b, o, some _⟩) l _ => (List.range (min l 14)).map fun j => ofB ((r b (o + j)).getD undef)
 | _ => []
noncomputable def inTab (r : Mem) (b off m : Nat) : List (List Bool) := (List.range m).map fun i => inRow r ((r b (off + i)).getD undef)
theorem inTab_len (r : Mem) (b off m : Nat) : (inTab r b off m).length = m := by simp [inTab]
theorem inTab_succ (r : Mem) (b off m : Nat) : inTab r b off (m + 1) = inTab r b off m ++ [inRow r ((r b (off + m)).getD undef)] := by
 unfold inTab
 rw [List.range_succ, List.map_append]
 rfl
def TbO (r1 : Mem) (T : List (List Bool)) (E : Value) (os : OO) : Prop := (T = [] ∧ E = nilT ∧ os = []) ∨ (T ≠ [] ∧ ∃ c, E = gwT 0 T.length ∧ os = [oTb c 0] ∧ TabC r1 c T ∧ m_nns c = true)
def TbI (r : Mem) (b off n cap : Nat) (k : Nat) (r1 : Mem) (vs : OV) (ms : List Nat) (os : OO) : Prop := ms = [] ∧ Mem.le r r1 ∧ ∃ E, vs = vTB b off n cap E k ∧ TbO r1 (inTab r b off k) E os
def TbX (r : Mem) (b off n : Nat) (r1 : Mem) (vs : OV) (ms : List Nat) (os : OO) : Prop := ms = [] ∧ Mem.le r r1 ∧ ∃ E, vs = [some E] ∧ TbO r1 (inTab r b off (min n 14)) E os

end Go.Proofs

/- The law's copy of a table: a round. -/
namespace Go.Proofs
open Go Go.Ev Go.Num
set_option linter.unusedVariables false
set_option linter.unusedSimpArgs false
set_option maxRecDepth 100000

theorem ro_RS (b o l c : Nat) : isRoS (RS b o l c) = true := rfl
theorem ln_RS (b o l c : Nat) : lnOf (RS b o l c) = l := rfl
theorem cp_RS (b o l c : Nat) : cpOf (RS b o l c) = c := rfl
theorem bk_RS (b o l c : Nat) : blkOf (RS b o l c) = b := rfl
theorem of_RS (b o l c : Nat) : offOf (RS b o l c) = o := rfl
theorem min14 (l : Nat) : (bif decide ((14 : Int) < (l : Int)) then (14 : Int) else (l : Int)) = ((min l 14 : Nat) : Int) := by
 by_cases h : (14 : Int) < (l : Int)
 ·rw [dT h, cond_true]; omega
 ·rw [dF h, cond_false]; omega
theorem takeF_bo {f : Nat → Option Value} : ∀ (l : List Bool) (k : Nat), (∀ j x, l[j]? = some x → f (k + j) = some (.bool x)) → takeF f k l.length = some (boL l)
 | [], k, _ => rfl
 | x :: l, k, h => by
  have h0 := h 0 x rfl
  rw [Nat.add_zero] at h0
  have ih := takeF_bo l (k + 1) fun j y hy => by
   have := h (j + 1) y (by simpa using hy)
   rw [show k + (j + 1) = k + 1 + j by omega] at this
   exact this
  show takeF f k (l.length + 1) = _
  simp only [takeF, h0, ih]
  rfl
section
variable {r : Mem} {b off n cap : Nat}
theorem inRow_get {b2 o2 l2 c2 : Nat} (hl : l2 ≤ c2) (h : ∀ i, i < c2 * 1 → ∃ u, r b2 (o2 + i) = some u ∧ ArgBool u) : ∀ j x, (inRow r (RS b2 o2 l2 c2))[j]? = some x → r b2 (o2 + j) = some (.bool x) := fun j x hx => by
 have hx' : ((List.range (min l2 14)).map fun j => ofB ((r b2 (o2 + j)).getD undef))[j]? = some x := hx
 rw [List.getElem?_map] at hx'
 by_cases hj : j < min l2 14
 ·rw [List.getElem?_range hj] at hx'
  obtain ⟨u, hu, y, rfl⟩ := h j (by omega)
  simp only [Option.map_some, Option.some.injEq, hu, Option.getD_some] at hx'
  have hx2 : y = x := hx'
  rw [hu, hx2]
 ·rw [List.getElem?_eq_none (by simp; omega)] at hx'
  cases hx'
theorem inRow_len (b2 o2 l2 c2 : Nat) : (inRow r (RS b2 o2 l2 c2)).length = min l2 14 := by
 show ((List.range (min l2 14)).map _).length = _
 simp

def TbR (r : Mem) (b off n cap k : Nat) (r1 : Mem) (T : List (List Bool)) (l : List Bool) (vs : OV) (ms : List Nat) (os : OO) : Prop :=
 ms = [] ∧ vs = vTB b off n cap (gwT 0 (k + 1)) (k + 1) ∧ ∃ c, m_nns c = true ∧ TabC r1 c T ∧ ((l = [] ∧ os = [oTb (c ++ [nilT]) 0]) ∨ (l ≠ [] ∧ os = [oTb (c ++ [.slice (some ⟨1, 0, none⟩) l.length unk]) 0, oBo (boL l) 1]))

theorem tb_run {r1 : Mem} {k : Nat} (hk : k < n) (k14 : k < 14) (hle : Mem.le r r1) {u : Value} (hu : r b (off + k) = some u) (hp : ArgRow r 1 ArgBool u) {E : Value} {os : OO} (hT : TbO r1 (inTab r b off k) E os) :
  ∃ sh fl, ∀ (fs : FnsC) (Qx : OV → List Nat → OO → Prop) (kr : KS), run (SS r1 sh) 61 33 1 TB_3 fs none (Outs.ask 0 ⟨lvTB, fl, fun vs ms os => TbR r b off n cap k r1 (inTab r b off k) (inRow r u) vs ms os⟩) (Outs.ats 0 [(0, ⟨[3], [], Qx⟩)]) kr [] (bT lvTB (vTB b off n cap E k) .nil) [] (mkA os) = okR := by
 have hu1 : r1 b (off + k) = some u := hle _ _ _ hu
 have c1 : (k : Int) < (n : Int) := by omega
 have c2 : (k : Int) < 14 := by omega
 have c3 : Nat.blt k n = true := Nat.ble_eq_true_of_le (by omega)
 have e0 : Nat.add off (Nat.mul k 1) = off + k := by simp
 have e3 : IntKind.wrap IntKind.i64 ((k : Int) + Int.ofNat 1) = ((k + 1 : Nat) : Int) := inc1' (by omega)
 simp only [Int.ofNat_eq_natCast] at e3
 have hTl := inTab_len r b off k
 have tab0 : inTab r b off k = [] → k = 0 := fun h => by rw [h] at hTl; exact hTl.symm
 have b3 : Nat.ble (Nat.add k 1) 1000000 = true := Nat.ble_eq_true_of_le (by simp; omega)
 have s1 : ∀ c : List Value, m_nns c = true → m_nopo (c ++ [nilT]) = true ∧ m_mvq [2] (c ++ [nilT]) = c ++ [nilT] := fun c hc => by
  have hn : m_nns (c ++ [nilT]) = true := by rw [nns_app, hc]; rfl
  rw [mvq_nn hn]
  exact ⟨nopo_nn hn, rfl⟩
 have oc : ∀ {o : Option (List Value)} {c : List Value} (h : o = some c) (a : CR) (F : List Value → CR), (Option.casesOn o a F : CR) = F c := fun h a F => by rw [h]
 rcases hT with ⟨t0, rfl, rfl⟩ | ⟨t0, c, rfl, rfl, hc, hcn⟩
 ·have k0 := tab0 t0
  subst k0
  have hTe : TabC r1 [] (inTab r b off 0) := ⟨rfl, fun i v l h => by simp at h⟩
  cases hp with
  | nil =>
   refine ⟨1, [.t], fun fs Qx kr => ?_⟩
   have q0 : isNilS nilT = true := rfl
   have hn' := tbBnN r1 b off n cap 0 fs
   simp only [Int.ofNat_eq_natCast, Int.toNat_natCast, dT c1, dT c2, c3, cond_true, e0, hu1, q0, e3] at hn'
   exact (hn' _ _ _).trans (qq_ok ⟨rfl, rfl, [], rfl, hTe, .inl ⟨rfl, rfl⟩⟩)
  | empty =>
   refine ⟨3, [.t], fun fs Qx kr => ?_⟩
   have q0 : isES (.slice (some ⟨0, 0, none⟩) 0 unkE) = true := rfl
   have hn' := tbBnE r1 b off n cap 0 fs
   simp only [Int.ofNat_eq_natCast, Int.toNat_natCast, dT c1, dT c2, c3, cond_true, e0, hu1, q0, e3] at hn'
   exact (hn' _ _ _).trans (qq_ok ⟨rfl, rfl, [], rfl, hTe, .inl ⟨rfl, rfl⟩⟩)
  | row b2 o2 l2 c2' hl hcm h =>
   have hcm' : c2' ≤ 9223372036854775807 := hcm
   have hrl := inRow_len (r := r) b2 o2 l2 c2'
   have hrg := inRow_get hl h
   have k1 : Nat.beq c2' 9223372036854775809 = false := natFx (by omega)
   have k2 : Nat.ble (min l2 14) c2' = true := Nat.ble_eq_true_of_le (by omega)
   have k3 : Nat.ble (Nat.add 0 (Nat.sub (min l2 14) 0)) 1000000 = true := Nat.ble_eq_true_of_le (by show 0 + (min l2 14 - 0) ≤ _; omega)
   have p0 : (0 : Int) ≤ ((min l2 14 : Nat) : Int) := by omega
   generalize hL : inRow r (RS b2 o2 l2 c2') = L at hrl hrg ⊢
   by_cases hz : min l2 14 = 0
   ·have hLe : L = [] := List.length_eq_zero_iff.1 (by omega)
    have k4 : Nat.beq (min l2 14) 0 = true := by rw [hz]; rfl
    refine ⟨2, [.t], fun fs Qx kr => ?_⟩
    have hn' := tbBnR r1 b off n cap 0 fs
    simp only [Int.ofNat_eq_natCast, Int.toNat_natCast, dT c1, dT c2, c3, cond_true, cond_false, e0, hu1, ro_RS, ln_RS, cp_RS, bk_RS, of_RS, min14, show ((14 : Nat) : Int) = 14 from rfl, dT p0, k1, k2, k4, e3] at hn'
    exact (hn' _ _ _).trans (qq_ok ⟨rfl, rfl, [], rfl, hTe, .inl ⟨hLe, rfl⟩⟩)
   ·have k4 : Nat.beq (min l2 14) 0 = false := natFx hz
    have k5 : Nat.beq (Nat.sub (min l2 14) 0) 0 = false := natFx (by show min l2 14 - 0 ≠ 0; omega)
    refine ⟨2, [.t], fun fs Qx kr => ?_⟩
    have hn' := tbBnR r1 b off n cap 0 fs
    simp only [Int.ofNat_eq_natCast, Int.toNat_natCast, dT c1, dT c2, c3, cond_true, cond_false, e0, hu1, ro_RS, ln_RS, cp_RS, bk_RS, of_RS, min14, show ((14 : Nat) : Int) = 14 from rfl, dT p0, k1, k2, k3, k4, k5, e3] at hn'
    have hr' : (match Nat.beq (Nat.sub c2' 0) unkE with | true => none | false => takeF (r1 b2) (Nat.add o2 (Nat.mul 0 1)) (Nat.mul (Nat.sub (min l2 14) 0) 1)) = some (boL L) := by
     rw [natFx (show Nat.sub c2' 0 ≠ unkE by unfold unkE; show c2' - 0 ≠ _; omega)]
     show takeF (r1 b2) o2 (Nat.mul (min l2 14) 1) = _
     rw [Nat.mul_eq, Nat.mul_one, ← hrl]
     exact takeF_bo L o2 fun j x hx => hle _ _ _ (hrg j x hx)
    refine (hn' _ _ _).trans ((oc hr' _ _).trans ?_)
    have l1 : Nat.beq (boL L).length (Nat.mul (Nat.sub (min l2 14) 0) 1) = true := by
     rw [boL_len, hrl, show Nat.mul (Nat.sub (min l2 14) 0) 1 = min l2 14 by show (min l2 14 - 0) * 1 = _; omega]
     exact Nat.beq_refl _
    simp only [l1, cond_true, boL_nn, Bool.and_true]
    refine qq_ok ⟨rfl, rfl, [], rfl, hTe, .inr ⟨fun h => by rw [h] at hrl; simp at hrl; omega, ?_⟩⟩
    rw [hrl]; rfl
 ·rw [hTl]
  have tk : takeAt c 0 (Nat.mul k 1) = some c := takeL_row _ _ (by rw [hc.1, hTl]; simp)
  cases hp with
  | nil =>
   refine ⟨1, [.q []], fun fs Qx kr => ?_⟩
   have q0 : isNilS nilT = true := rfl
   have hn' := tbBoN r1 b off n cap k k c fs
   simp only [Int.ofNat_eq_natCast, Int.toNat_natCast, dT c1, dT c2, c3, cond_true, e0, hu1, q0, e3, b3, tk, (s1 c hcn).1, (s1 c hcn).2, Bool.and_true] at hn'
   exact (hn' _ _ _).trans (qq_ok ⟨rfl, rfl, c, hcn, hc, .inl ⟨rfl, rfl⟩⟩)
  | empty =>
   refine ⟨3, [.q []], fun fs Qx kr => ?_⟩
   have q0 : isES (.slice (some ⟨0, 0, none⟩) 0 unkE) = true := rfl
   have hn' := tbBoE r1 b off n cap k k c fs
   simp only [Int.ofNat_eq_natCast, Int.toNat_natCast, dT c1, dT c2, c3, cond_true, e0, hu1, q0, e3, b3, tk, (s1 c hcn).1, (s1 c hcn).2, Bool.and_true] at hn'
   exact (hn' _ _ _).trans (qq_ok ⟨rfl, rfl, c, hcn, hc, .inl ⟨rfl, rfl⟩⟩)
  | row b2 o2 l2 c2' hl hcm h =>
   have hcm' : c2' ≤ 9223372036854775807 := hcm
   have hrl := inRow_len (r := r) b2 o2 l2 c2'
   have hrg := inRow_get hl h
   have k1 : Nat.beq c2' 9223372036854775809 = false := natFx (by omega)
   have k2 : Nat.ble (min l2 14) c2' = true := Nat.ble_eq_true_of_le (by omega)
   have k3 : Nat.ble (Nat.add 0 (Nat.sub (min l2 14) 0)) 1000000 = true := Nat.ble_eq_true_of_le (by show 0 + (min l2 14 - 0) ≤ _; omega)
   have p0 : (0 : Int) ≤ ((min l2 14 : Nat) : Int) := by omega
   generalize hL : inRow r (RS b2 o2 l2 c2') = L at hrl hrg ⊢
   by_cases hz : min l2 14 = 0
   ·have hLe : L = [] := List.length_eq_zero_iff.1 (by omega)
    have k4 : Nat.beq (min l2 14) 0 = true := by rw [hz]; rfl
    refine ⟨2, [.q []], fun fs Qx kr => ?_⟩
    have hn' := tbBoZ r1 b off n cap k k c fs
    simp only [Int.ofNat_eq_natCast, Int.toNat_natCast, dT c1, dT c2, c3, cond_true, cond_false, e0, hu1, ro_RS, ln_RS, cp_RS, bk_RS, of_RS, min14, show ((14 : Nat) : Int) = 14 from rfl, dT p0, k1, k2, k4, e3, b3, tk, (s1 c hcn).1, (s1 c hcn).2, Bool.and_true] at hn'
    exact (hn' _ _ _).trans (qq_ok ⟨rfl, rfl, c, hcn, hc, .inl ⟨hLe, rfl⟩⟩)
   ·have k4 : Nat.beq (min l2 14) 0 = false := natFx hz
    have k5 : Nat.beq (Nat.sub (min l2 14) 0) 0 = false := natFx (by show min l2 14 - 0 ≠ 0; omega)
    refine ⟨2, [.q [1]], fun fs Qx kr => ?_⟩
    have hn' := tbBoR r1 b off n cap k k c fs
    have m1 : Nat.sub (min l2 14) 0 = min l2 14 := rfl
    simp only [Int.ofNat_eq_natCast, Int.toNat_natCast, dT c1, dT c2, c3, cond_true, cond_false, e0, hu1, ro_RS, ln_RS, cp_RS, bk_RS, of_RS, min14, show ((14 : Nat) : Int) = 14 from rfl, dT p0, k1, k2, k3, k4, k5, e3] at hn'
    have hr' : (match Nat.beq (Nat.sub c2' 0) unkE with | true => none | false => takeF (r1 b2) (Nat.add o2 (Nat.mul 0 1)) (Nat.mul (Nat.sub (min l2 14) 0) 1)) = some (boL L) := by
     rw [natFx (show Nat.sub c2' 0 ≠ unkE by unfold unkE; show c2' - 0 ≠ _; omega)]
     show takeF (r1 b2) o2 (Nat.mul (min l2 14) 1) = _
     rw [Nat.mul_eq, Nat.mul_one, ← hrl]
     exact takeF_bo L o2 fun j x hx => hle _ _ _ (hrg j x hx)
    refine (hn' _ _ _).trans ((oc hr' _ _).trans ?_)
    have l1 : Nat.beq (boL L).length (Nat.mul (Nat.sub (min l2 14) 0) 1) = true := by
     rw [boL_len, hrl, show Nat.mul (Nat.sub (min l2 14) 0) 1 = min l2 14 by show (min l2 14 - 0) * 1 = _; omega]
     exact Nat.beq_refl _
    have s2 : m_mvq [3, 1] (c ++ [.slice (some ⟨1, 0, none⟩) (Nat.sub (min l2 14) 0) unk]) = c ++ [.slice (some ⟨1, 0, none⟩) (Nat.sub (min l2 14) 0) unk] := by
     rw [mvq_app, mvq_nn hcn]; rfl
    have s3 : m_nopo (c ++ [.slice (some ⟨1, 0, none⟩) (Nat.sub (min l2 14) 0) unk]) = true := by rw [nopo_app, nopo_nn hcn]; rfl
    simp only [l1, cond_true, boL_nn, Bool.and_true, b3, tk, s2, s3]
    refine qq_ok ⟨rfl, rfl, c, hcn, hc, .inr ⟨fun h => by rw [h] at hrl; simp at hrl; omega, ?_⟩⟩
    rw [hrl]; rfl
end

end Go.Proofs

/- The law's copy of a table: what the call answers. -/
namespace Go.Proofs
open Go Go.Ev Go.Num
set_option linter.unusedVariables false
set_option linter.unusedSimpArgs false
set_option maxRecDepth 100000

theorem frzVs_one (j b o : Nat) (v u : Value) (h : frzV j b o v = some u) : frzVs j b o [v] = some [u] := by simp only [frzVs, h]
section
variable {r : Mem} {b off n cap : Nat}
theorem ta_ok (h1 : 1 ≤ n) (hin : ∀ i, i < min n 14 → ∃ u, r b (off + i) = some u ∧ ArgRow r 1 ArgBool u) : SOkG Tryz.prog r 12 [RS b off n cap] emptyA fun v A r1 => Mem.le r r1 ∧ ∃ c, v = gwT 0 (min n 14) ∧ A = mkA [oTb c 0] ∧ TabC r1 c (inTab r b off (min n 14)) ∧ m_nns c = true := by
 refine callOG SC_ok (by kernel_rfl) ((bodySC r _).trans TB_eq) (nt := 33) (by kernel_rfl) (rs := [.tmp 2]) (by kernel_rfl) 61 rfl ⟨[2], fun r1 vs ms os => ms = [] ∧ Mem.le r r1 ∧ ∃ c, vs = [some (gwT 0 (min n 14))] ∧ os = [oTb c 0] ∧ TabC r1 c (inTab r b off (min n 14)) ∧ m_nns c = true⟩ ?_ fun γ W F kk hwr hF hro h0' => ?_
 ·rintro r1 vs ms os ⟨rfl, hle, c, rfl, rfl, hc, hcn⟩
  exact ⟨_, mkA [oTb c 0], by kernel_rfl, hle, c, rfl, rfl, hc, hcn⟩
 have h0' : ∀ i, 0 ≤ i → γ i = none := h0'
 refine ReachG.after3 (SC_ok r) TOk.nil (tm := .nil) (L := 1) (L' := 1) (d := 1) hF hro h0' (.step (.step .base)) (orr := Outs.no)
  (o1 := ⟨lvTB, [], fun vs ms os => vs = vTB b off n cap nilT 0 ∧ ms = [] ∧ os = []⟩)
  (g2 := ⟨[3], fun r1 vs ms os => TbX r b off n r1 vs ms os⟩) (fun _ _ _ h => h.elim) ?_ ?_ ?_
 ·rintro vs ms os ⟨rfl, rfl, rfl⟩
  refine ReachG.blockC (ReachG.loopC (j := min n 14) (lv := lvTB) (I := fun j r1 vs ms os => ∃ k : Nat, k ≤ min n 14 ∧ j = min n 14 - k ∧ TbI r b off n cap k r1 vs ms os) (fun j r1 vs ms os hI => ?_) ⟨0, by omega, rfl, rfl, Mem.le_refl r, nilT, rfl, .inl ⟨rfl, rfl, rfl⟩⟩)
  obtain ⟨k, hk, rfl, rfl, hle, E, rfl, hT⟩ := hI
  by_cases c : k < min n 14
  ·obtain ⟨u, hu, hp⟩ := hin k c
   obtain ⟨sh, fl, hrun⟩ := tb_run (cap := cap) (show k < n by omega) (by omega) hle hu hp hT
   refine ReachG.segS (C := SS r1 sh) rfl rfl (SS_ok r1 sh) (t := fun _ => none) TOk.nil (tm := .nil) (L' := 1) (d := 1) hF hro h0' [(0, ⟨[3], [], fun _ _ _ => False⟩)] (ox := fun j => if j = 0 then ⟨[3], [], fun _ _ _ => False⟩ else Outs.no) (orr := Outs.no) (fun p hp => by simp only [List.mem_cons, List.not_mem_nil, or_false] at hp; subst hp; rfl) (hrun _ _ _) ?_ ?_ (fun _ _ _ h => h.elim)
   ·rintro vs ms os ⟨rfl, rfl, c0, hcn, hc, hcase⟩
    have hT1 : inTab r b off (k + 1) = inTab r b off k ++ [inRow r u] := by rw [inTab_succ, hu]; rfl
    have hne : inTab r b off (k + 1) ≠ [] := by rw [hT1]; simp
    rcases hcase with ⟨hl, rfl⟩ | ⟨hl, rfl⟩
    ·refine IsG.here ⟨min n 14 - (k + 1), by omega, k + 1, by omega, rfl, rfl, hle, gwT 0 (k + 1), rfl, .inr ⟨hne, c0 ++ [nilT], by rw [inTab_len], rfl, ?_, ?_⟩⟩
     ·rw [hT1]
      exact hc.snoc (.inl ⟨hl, rfl⟩)
     ·rw [nns_app, hcn]; rfl
    ·refine IsG.freeze (os0 := [oTb (c0 ++ [.slice (some ⟨1, 0, none⟩) (inRow r u).length unk]) 0]) (j := 1) h0' rfl (Nat.zero_le _) rfl (boL_nn _) fun b' o' r2 hle2 hrow => ?_
     refine ⟨vTB b off n cap (gwT 0 (k + 1)) (k + 1), [oTb (c0 ++ [RS b' o' (inRow r u).length 0]) 0], rfl, ?_, min n 14 - (k + 1), by omega, k + 1, by omega, rfl, rfl, Mem.le_trans hle hle2, gwT 0 (k + 1), rfl, .inr ⟨hne, c0 ++ [RS b' o' (inRow r u).length 0], by rw [inTab_len], rfl, ?_, ?_⟩⟩
     ·have e1 := frzVs_app 1 b' o' c0 [.slice (some ⟨1, 0, none⟩) (inRow r u).length unk] c0 [RS b' o' (inRow r u).length 0] (frzVs_nn 1 b' o' c0 hcn) (frzVs_one _ _ _ _ _ ?_)
      ·unfold oTb
       simp only [frzAs, frzA, e1]
      ·show (match (Nat.beq (inRow r u).length 0 && Nat.beq unk unkE) with | true => _ | false => _) = _
       rw [show Nat.beq unk unkE = false by decide, Bool.and_false]
       rfl
     ·rw [hT1]
      refine (hc.mono hle2).snoc (.inr ⟨hl, b', o', 0, rfl, fun j x hx => hrow j _ ?_⟩)
      unfold boL
      rw [List.getElem?_map, hx]; rfl
     ·rw [nns_app, hcn]; rfl
   ·intro id vs ms os h
    by_cases e : id = 0
    ·rw [if_pos e] at h; exact h.elim
    ·rw [if_neg e] at h; exact h.elim
  ·obtain rfl : k = min n 14 := by omega
   have hTl := inTab_len r b off (min n 14)
   rcases hT with ⟨t0, _⟩ | ⟨t0, c0, rfl, rfl, hc, hcn⟩
   ·rw [t0] at hTl; simp at hTl; omega
   ·refine ReachG.segS (C := SS r1 1) rfl rfl (SS_ok r1 1) (t := fun _ => none) TOk.nil (tm := .nil) (L' := 1) (d := 1) (n0 := 0) hF hro h0' [(0, ⟨[3], [], fun vs ms os => ms = [] ∧ vs = [some (gwT 0 (min n 14))] ∧ os = [oTb c0 0]⟩)] (on := ⟨lvTB, [.q []], fun _ _ _ => False⟩) (ox := fun j => if j = 0 then ⟨[3], [], fun vs ms os => ms = [] ∧ vs = [some (gwT 0 (min n 14))] ∧ os = [oTb c0 0]⟩ else Outs.no) (orr := Outs.no) (fun p hp => by simp only [List.mem_cons, List.not_mem_nil, or_false] at hp; subst hp; rfl) (L := 1) ?_ (fun _ _ _ h => h.elim) ?_ (fun _ _ _ h => h.elim)
    ·rw [hTl]
     have hn' := tbBoN r1 b off n cap (min n 14) (min n 14) c0
     simp only [Int.ofNat_eq_natCast, hcn, Bool.and_true, cond_true] at hn'
     by_cases q : ((min n 14 : Nat) : Int) < (n : Int)
     ·have q2 : ¬ ((min n 14 : Nat) : Int) < 14 := by omega
      simp only [dT q, dF q2, cond_true, cond_false] at hn'
      exact (hn' _ _ _ _).trans (qq_ok ⟨rfl, rfl, rfl⟩)
     ·simp only [dF q, cond_false] at hn'
      exact (hn' _ _ _ _).trans (qq_ok ⟨rfl, rfl, rfl⟩)
    ·intro id vs ms os h
     by_cases e : id = 0
     ·subst e
      obtain ⟨rfl, rfl, rfl⟩ := h
      exact IsG.here ⟨rfl, hle, gwT 0 (min n 14), rfl, .inr ⟨t0, c0, by rw [hTl], rfl, hc, hcn⟩⟩
     ·rw [if_neg e] at h; exact h.elim
 ·rintro r1 vs ms os ⟨rfl, hle, E, rfl, hT⟩
  have hTl := inTab_len r b off (min n 14)
  rcases hT with ⟨t0, _⟩ | ⟨t0, c0, rfl, rfl, hc, hcn⟩
  ·rw [t0] at hTl; simp at hTl; omega
  ·rw [hTl]
   refine ReachG.segR (SC_ok r1) TOk.nil (tm := .nil) (L := 1) (L' := 1) (d := 1) (n0 := 0) hF hro h0' [] (on := ⟨[2], [], fun _ _ _ => False⟩) (ox := fun _ => Outs.no) (orr := ⟨[2], [], fun vs ms os => ms = [] ∧ vs = [some (gwT 0 (min n 14))] ∧ os = [oTb c0 0]⟩) (fun p hp => nomatch hp) ?_ (fun _ _ _ h => h.elim) (fun _ _ _ _ h => h.elim) ?_
   ·have hn' := tbCo r1 (min n 14) c0
    simp only [hcn, Bool.and_true, cond_true] at hn'
    exact (hn' _ _ _ _).trans (qq_ok ⟨rfl, rfl, rfl⟩)
   ·rintro vs ms os ⟨rfl, rfl, rfl⟩
    exact IsG.here ⟨rfl, hle, c0, rfl, rfl, hc, hcn⟩
 ·exact (tbA r b off n cap _ _ _ _).trans (qq_ok ⟨rfl, rfl, rfl⟩)
end

end Go.Proofs

/- Are these values those? -/
set_option linter.unusedVariables false
set_option linter.unusedSimpArgs false
namespace Go.Proofs
open Go Go.Ev
noncomputable def m_svv (a b : List Value) : Bool := @decide (a = b) (Classical.propDecidable _)
theorem svv_rfl (a : List Value) : m_svv a a = true := @decide_eq_true _ (Classical.propDecidable _) rfl

end Go.Proofs

/- Tables in memory: the caller's own row of rows. -/
namespace Go.Proofs
open Go Go.Ev Go.Num
set_option linter.unusedVariables false
set_option linter.unusedSimpArgs false

def TabM (r : Mem) (b off : Nat) (T : List (List Bool)) : Prop := ∀ (i : Nat) l, T[i]? = some l → ∃ v, r b (off + i) = some v ∧ RowV r v l
theorem memW_row {r : Mem} {γ : Gam} {W : World} (hR : Ro r γ W) {v v' : Value} {l : List Bool} (hv : RowV r v l) (hr : VRel γ v v') : ∃ u, Go.Ev.mark v' = some u ∧ RowV (memW W) u l := by
 rcases hv with ⟨h1, rfl⟩ | ⟨h1, b, o, cap, rfl, h2⟩
 ·cases hr
  exact ⟨nilT, rfl, .inl ⟨h1, rfl⟩⟩
 ·obtain ⟨n, hn⟩ : ∃ n, n = l.length := ⟨_, rfl⟩
  rw [← hn] at hr
  cases hr with
  | sliceE a a' c' => exact absurd (List.length_eq_zero_iff.1 hn.symm) h1
  | sliceRo b k s l' c c' hc hcc =>
   refine ⟨.slice (some ⟨b, o, some 0⟩) n (match Nat.blt c' unk with | true => c' | false => 0), rfl, .inr ⟨h1, b, o, _, by rw [hn], fun j x hx => ?_⟩⟩
   obtain ⟨_, cc, e, fr, u, hb, hu, hrel⟩ := hR _ _ _ (h2 j x hx)
   have := (hrel γ).eq_of_gnd rfl
   subst this
   simp only [memW, hb, hu]
   rfl
theorem own_tab {r : Mem} {γ : Gam} {A : AW} {W : World} (hw : WRel γ A W) (hR : Ro r γ W) {i len cap : Nat} (hcap : Nat.beq cap unkE = false) {c : List Value} {T : List (List Bool)} {e f z : Nat} (hget : A.heap.get i = some (.cells c e f z)) (hT : TabC r c T) {v' : Value} (hv : VRel γ (.slice (some ⟨i, 0, none⟩) len cap) v') :
  ∃ b k', VRel noG (RS b k' len 0) v' ∧ TabM (memW W) b k' T := by
 cases hv with
 | slice k l c0 c' hg hc =>
  rename_i g
  obtain ⟨g', hg', ho⟩ := hw.obj _ _ hget
  rw [hg] at hg'
  cases hg'
  cases ho with
  | cells hb _ _ _ hcs =>
   refine ⟨g.blk, g.off + 0, .sliceRo _ _ _ _ _ _ (by decide) (Nat.zero_le _), fun j l' hl => ?_⟩
   have hj : j < T.length := (List.getElem?_eq_some_iff.1 hl).1
   obtain ⟨w, hcj⟩ : ∃ w, c[j]? = some w := ⟨_, List.getElem?_eq_getElem (by rw [hT.1]; exact hj)⟩
   obtain ⟨v'', h1, h2⟩ := hcs j _ hcj
   obtain ⟨u, h3, h4⟩ := memW_row hR (hT.2 j _ _ hcj hl) h2
   refine ⟨u, ?_, h4⟩
   simp only [memW, hb, Nat.add_zero, h1]
   exact h3
 | sliceE a a' c' => simp at hcap
noncomputable def gTab (m : Nat) (c : List Value) (args : List Value) (A : AW) : Bool := match args with
 | [.slice (some ⟨i, x, none⟩) l p] => match A.heap.get i with
  | some (.cells ci _ _ _) => m_svv [.slice (some ⟨0, x, none⟩) l p, .agg ⟨ci⟩] [gwT 0 m, .agg ⟨c⟩]
  | _ => false
 | _ => false
theorem gTab_use {r : Mem} {m : Nat} {c : List Value} {T : List (List Bool)} {args : List Value} {A : AW} (hT : TabC r c T) (hg : gTab m c args A = true) {γ : Gam} {W : World} (hw : WRel γ A W) (hR : Ro r γ W) {args' : Array Value} (ha : VsRel γ args args'.toList) :
  ∃ b k, VsRel noG [RS b k m 0] args'.toList ∧ TabM (memW W) b k T := by
 unfold gTab at hg
 split at hg
 ·rename_i i x l p
  split at hg
  ·rename_i ci e f zz hi
   have hs := @of_decide_eq_true _ (Classical.propDecidable _) hg
   simp only [List.cons.injEq, Value.slice.injEq, Option.some.injEq, Addr.mk.injEq, Value.agg.injEq, Array.mk.injEq, and_true, true_and] at hs
   obtain ⟨⟨rfl, rfl, rfl⟩, rfl⟩ := hs
   obtain ⟨la⟩ := args'
   cases ha with
   | cons hv hrest =>
   cases hrest
   obtain ⟨b, k, p1, p2⟩ := own_tab hw hR (by decide) hi hT hv
   exact ⟨b, k, .cons p1 .nil, p2⟩
  ·cases hg
 ·cases hg

end Go.Proofs

/- The reference's check of a table, run. -/
namespace Go.Proofs
open Go Go.Ev Go.Num
set_option linter.unusedVariables false
set_option linter.unusedSimpArgs false
set_option maxRecDepth 100000

noncomputable def cRCk : Code := bodyOf S0 13
noncomputable def RCk_0 : Code := (lc cRCk)
noncomputable def RCk_1 : Code := (lc (rc cRCk))
noncomputable def RCk_2 : Code := (lc (rc (rc cRCk)))
noncomputable def RCk_3 : Code := (lc (lc (rc (rc (rc cRCk)))))
noncomputable def RCk_4 : Code := (ic (ic (rc (lc (rc (rc (rc cRCk)))))))
noncomputable def RCk_5 : Code := (lc (lc (rc (rc (rc (rc cRCk))))))
noncomputable def RCk_6 : Code := (lc (ic (ic (rc (lc (rc (rc (rc (rc cRCk)))))))))
noncomputable def RCk_7 : Code := (lc (ic (lc (rc (ic (ic (rc (lc (rc (rc (rc (rc cRCk))))))))))))
noncomputable def RCk_8 : Code := (ic (ic (rc (ic (lc (rc (ic (ic (rc (lc (rc (rc (rc (rc cRCk))))))))))))))
noncomputable def RCk_9 : Code := (rc (rc (ic (ic (rc (lc (rc (rc (rc (rc cRCk))))))))))
noncomputable def RCk_10 : Code := (rc (rc (rc (rc (rc cRCk)))))
theorem RCk_eq : cRCk = (.seq RCk_0 (.seq RCk_1 (.seq RCk_2 (.seq (.seq RCk_3 (.block 0 (.loop RCk_4))) (.seq (.seq RCk_5 (.block 2 (.loop (.seq RCk_6 (.seq (.block 3 (.seq RCk_7 (.block 4 (.loop RCk_8)))) RCk_9))))) RCk_10))))) := by kernel_rfl
def vK3 (b off n cap k : Nat) : OV := [some (RS b off n cap), some (I (n : Nat)), some (I (k : Nat))]
def vK4 (b off n cap i k : Nat) : OV := [some (RS b off n cap), some (I (n : Nat)), some (I (i : Nat)), some (I (k : Nat))]

theorem ckA (r : Mem) (b off n cap : Nat) (fs : FnsC) (K : OV → List Nat → OO → CR) (kx : Nat → KS) (KR : OV → List Nat → OO → CR) : run (SC r) 125 71 1 (.seq RCk_0 (.seq RCk_1 (.seq RCk_2 RCk_3))) fs none (rbK 0 [0, 3, 4] [] K) kx (rbK 0 [2] [] KR) (sc0 125 [RS b off n cap]) (tr0 125 [RS b off n cap]) [] emptyA =
    bif decide (Int.ofNat n < 1) then KR [some (I (Int.ofNat 50))] [] [] else bif decide (Int.ofNat n > 12) then KR [some (I (Int.ofNat 50))] [] [] else K [some (.slice (some ⟨b, off, some 0⟩) n cap), some (I (Int.ofNat n)), some (I (Int.ofNat 0))] [] [] := by kernel_rfl

theorem ckBN (r : Mem) (b off n cap k : Nat) (fs : FnsC) (K : OV → List Nat → OO → CR) (KX : Nat → OV → List Nat → OO → CR) (KR : OV → List Nat → OO → CR) : run (SS r 1) 125 71 1 RCk_4 fs none (rbK 0 [0, 3, 4] [] K) (fun j => rbK 0 [0, 3] [] (KX j)) (rbK 0 [2] [] KR) [] (bT [0, 3, 4] (vK3 b off n cap k) .nil) [] (mkA []) =
    bif decide (Int.ofNat k < Int.ofNat n) then bif Nat.blt (Int.toNat (Int.ofNat k)) n then Option.casesOn (r b (Nat.add off (Nat.mul (Int.toNat (Int.ofNat k)) 1))) (.fail 423) fun val => bif isNilS val then bif Int.ofNat 0 != Int.ofNat n then KR [some (I (Int.ofNat 50))] [] [] else K [some (.slice (some ⟨b, off, some 0⟩) n cap), some (I (Int.ofNat n)), some (I (IntKind.wrap .i64 (Int.ofNat k + Int.ofNat 1)))] [] [] else .fail 420 else .fail 420 else KX 0 [some (.slice (some ⟨b, off, some 0⟩) n cap), some (I (Int.ofNat n))] [] [] := by kernel_rfl

theorem ckBR (r : Mem) (b off n cap k : Nat) (fs : FnsC) (K : OV → List Nat → OO → CR) (KX : Nat → OV → List Nat → OO → CR) (KR : OV → List Nat → OO → CR) : run (SS r 2) 125 71 1 RCk_4 fs none (rbK 0 [0, 3, 4] [] K) (fun j => rbK 0 [0, 3] [] (KX j)) (rbK 0 [2] [] KR) [] (bT [0, 3, 4] (vK3 b off n cap k) .nil) [] (mkA []) =
    bif decide (Int.ofNat k < Int.ofNat n) then bif Nat.blt (Int.toNat (Int.ofNat k)) n then Option.casesOn (r b (Nat.add off (Nat.mul (Int.toNat (Int.ofNat k)) 1))) (.fail 423) fun val => bif isRoS val then bif Int.ofNat (lnOf val) != Int.ofNat n then KR [some (I (Int.ofNat 50))] [] [] else K [some (.slice (some ⟨b, off, some 0⟩) n cap), some (I (Int.ofNat n)), some (I (IntKind.wrap .i64 (Int.ofNat k + Int.ofNat 1)))] [] [] else .fail 420 else .fail 420 else KX 0 [some (.slice (some ⟨b, off, some 0⟩) n cap), some (I (Int.ofNat n))] [] [] := by kernel_rfl

theorem ckC (r : Mem) (b off n cap : Nat) (fs : FnsC) (K : OV → List Nat → OO → CR) (kx : Nat → KS) (kr : KS) : run (SC r) 125 71 1 RCk_5 fs none (rbK 0 [0, 3, 5] [] K) kx kr [] (bT [0, 3] [some (RS b off n cap), some (I (n : Nat))] .nil) [] (mkA []) =
    K [some (.slice (some ⟨b, off, some 0⟩) n cap), some (I (Int.ofNat n)), some (I (Int.ofNat 0))] [] [] := by kernel_rfl

theorem ckD (r : Mem) (b off n cap k : Nat) (fs : FnsC) (K : OV → List Nat → OO → CR) (KX : Nat → OV → List Nat → OO → CR) (kr : KS) : run (SC r) 125 71 1 RCk_6 fs none (rbK 0 [0, 3, 5] [] K) (fun j => rbK 0 [] [] (KX j)) kr [] (bT [0, 3, 5] (vK3 b off n cap k) .nil) [] (mkA []) =
    bif decide (Int.ofNat k < Int.ofNat n) then K [some (.slice (some ⟨b, off, some 0⟩) n cap), some (I (Int.ofNat n)), some (I (Int.ofNat k))] [] [] else KX 2 [] [] [] := by kernel_rfl

theorem ckD7 (r : Mem) (b off n cap k : Nat) (fs : FnsC) (K : OV → List Nat → OO → CR) (kx : Nat → KS) (kr : KS) : run (SC r) 125 71 1 RCk_7 fs none (rbK 0 [0, 3, 5, 6] [] K) kx kr [] (bT [0, 3, 5] (vK3 b off n cap k) .nil) [] (mkA []) =
    K [some (.slice (some ⟨b, off, some 0⟩) n cap), some (I (Int.ofNat n)), some (I (Int.ofNat k)), some (I (Int.ofNat 0))] [] [] := by kernel_rfl

theorem ckE (r : Mem) (b off n cap i k : Nat) (fs : FnsC) (K : OV → List Nat → OO → CR) (KX : Nat → OV → List Nat → OO → CR) (KR : OV → List Nat → OO → CR) : run (SS r 2) 125 71 1 RCk_8 fs none (rbK 0 [0, 3, 5, 6] [] K) (fun j => rbK 0 [0, 3, 5] [] (KX j)) (rbK 0 [2] [] KR) [] (bT [0, 3, 5, 6] (vK4 b off n cap i k) .nil) [] (mkA []) =
    bif decide (Int.ofNat k < Int.ofNat n) then bif Int.ofNat i == Int.ofNat k then bif Nat.blt (Int.toNat (Int.ofNat i)) n then Option.casesOn (r b (Nat.add off (Nat.mul (Int.toNat (Int.ofNat i)) 1))) (.fail 423) fun val => bif isRoS val then bif Nat.blt (Int.toNat (Int.ofNat k)) (lnOf val) then Option.casesOn (r (blkOf val) (Nat.add (offOf val) (Nat.mul (Int.toNat (Int.ofNat k)) 1))) (.fail 423) fun val => bif isB val then bif ofB val then KR [some (I (Int.ofNat 50))] [] [] else bif Int.ofNat i != Int.ofNat k then bif Nat.blt (Int.toNat (Int.ofNat i)) n then Option.casesOn (r b (Nat.add off (Nat.mul (Int.toNat (Int.ofNat i)) 1))) (.fail 423) fun val => bif isRoS val then bif Nat.blt (Int.toNat (Int.ofNat k)) (lnOf val) then Option.casesOn (r (blkOf val) (Nat.add (offOf val) (Nat.mul (Int.toNat (Int.ofNat k)) 1))) (.fail 423) fun val => bif isB val then bif ofB val then bif Nat.blt (Int.toNat (Int.ofNat k)) n then Option.casesOn (r b (Nat.add off (Nat.mul (Int.toNat (Int.ofNat k)) 1))) (.fail 423) fun val => bif isRoS val then bif Nat.blt (Int.toNat (Int.ofNat i)) (lnOf val) then Option.casesOn (r (blkOf val) (Nat.add (offOf val) (Nat.mul (Int.toNat (Int.ofNat i)) 1))) (.fail 423) fun val => bif isB val then bif ofB val then KR [some (I (Int.ofNat 50))] [] [] else K [some (.slice (some ⟨b, off, some 0⟩) n cap), some (I (Int.ofNat n)), some (I (Int.ofNat i)), some (I (IntKind.wrap .i64 (Int.ofNat k + Int.ofNat 1)))] [] [] else .fail 420 else .fail 420 else .fail 420 else .fail 420 else bif Nat.blt (Int.toNat (Int.ofNat k)) n then Option.casesOn (r b (Nat.add off (Nat.mul (Int.toNat (Int.ofNat k)) 1))) (.fail 423) fun val => bif isRoS val then bif Nat.blt (Int.toNat (Int.ofNat i)) (lnOf val) then Option.casesOn (r (blkOf val) (Nat.add (offOf val) (Nat.mul (Int.toNat (Int.ofNat i)) 1))) (.fail 423) fun val => bif isB val then bif ofB val then K [some (.slice (some ⟨b, off, some 0⟩) n cap), some (I (Int.ofNat n)), some (I (Int.ofNat i)), some (I (IntKind.wrap .i64 (Int.ofNat k + Int.ofNat 1)))] [] [] else KR [some (I (Int.ofNat 50))] [] [] else .fail 420 else .fail 420 else .fail 420 else .fail 420 else .fail 420 else .fail 420 else .fail 420 else .fail 420 else K [some (.slice (some ⟨b, off, some 0⟩) n cap), some (I (Int.ofNat n)), some (I (Int.ofNat i)), some (I (IntKind.wrap .i64 (Int.ofNat k + Int.ofNat 1)))] [] [] else .fail 420 else .fail 420 else .fail 420 else .fail 420 else bif Int.ofNat i != Int.ofNat k then bif Nat.blt (Int.toNat (Int.ofNat i)) n then Option.casesOn (r b (Nat.add off (Nat.mul (Int.toNat (Int.ofNat i)) 1))) (.fail 423) fun val => bif isRoS val then bif Nat.blt (Int.toNat (Int.ofNat k)) (lnOf val) then Option.casesOn (r (blkOf val) (Nat.add (offOf val) (Nat.mul (Int.toNat (Int.ofNat k)) 1))) (.fail 423) fun val => bif isB val then bif ofB val then bif Nat.blt (Int.toNat (Int.ofNat k)) n then Option.casesOn (r b (Nat.add off (Nat.mul (Int.toNat (Int.ofNat k)) 1))) (.fail 423) fun val => bif isRoS val then bif Nat.blt (Int.toNat (Int.ofNat i)) (lnOf val) then Option.casesOn (r (blkOf val) (Nat.add (offOf val) (Nat.mul (Int.toNat (Int.ofNat i)) 1))) (.fail 423) fun val => bif isB val then bif ofB val then KR [some (I (Int.ofNat 50))] [] [] else K [some (.slice (some ⟨b, off, some 0⟩) n cap), some (I (Int.ofNat n)), some (I (Int.ofNat i)), some (I (IntKind.wrap .i64 (Int.ofNat k + Int.ofNat 1)))] [] [] else .fail 420 else .fail 420 else .fail 420 else .fail 420 else bif Nat.blt (Int.toNat (Int.ofNat k)) n then Option.casesOn (r b (Nat.add off (Nat.mul (Int.toNat (Int.ofNat k)) 1))) (.fail 423) fun val => bif isRoS val then bif Nat.blt (Int.toNat (Int.ofNat i)) (lnOf val) then Option.casesOn (r (blkOf val) (Nat.add (offOf val) (Nat.mul (Int.toNat (Int.ofNat i)) 1))) (.fail 423) fun val => bif isB val then bif ofB val then K [some (.slice (some ⟨b, off, some 0⟩) n cap), some (I (Int.ofNat n)), some (I (Int.ofNat i)), some (I (IntKind.wrap .i64 (Int.ofNat k + Int.ofNat 1)))] [] [] else KR [some (I (Int.ofNat 50))] [] [] else .fail 420 else .fail 420 else .fail 420 else .fail 420 else .fail 420 else .fail 420 else .fail 420 else .fail 420 else K [some (.slice (some ⟨b, off, some 0⟩) n cap), some (I (Int.ofNat n)), some (I (Int.ofNat i)), some (I (IntKind.wrap .i64 (Int.ofNat k + Int.ofNat 1)))] [] [] else KX 4 [some (.slice (some ⟨b, off, some 0⟩) n cap), some (I (Int.ofNat n)), some (I (Int.ofNat i))] [] [] := by kernel_rfl

theorem ckF (r : Mem) (b off n cap k : Nat) (fs : FnsC) (K : OV → List Nat → OO → CR) (kx : Nat → KS) (kr : KS) : run (SC r) 125 71 1 RCk_9 fs none (rbK 0 [0, 3, 5] [] K) kx kr [] (bT [0, 3, 5] (vK3 b off n cap k) .nil) [] (mkA []) =
    K [some (.slice (some ⟨b, off, some 0⟩) n cap), some (I (Int.ofNat n)), some (I (IntKind.wrap .i64 (Int.ofNat k + Int.ofNat 1)))] [] [] := by kernel_rfl

theorem ckG (r : Mem) (fs : FnsC) (K KR : OV → List Nat → OO → CR) (kx : Nat → KS) : run (SC r) 125 71 1 RCk_10 fs none (rbK 0 [2] [] K) kx (rbK 0 [2] [] KR) [] (bT [] [] .nil) [] (mkA []) =
    KR [some (I (Int.ofNat 0))] [] [] := by kernel_rfl

end Go.Proofs

/- Code whose slices are told; tables by their rows. -/
namespace Go.Proofs
open Go Go.Ev Go.Num
set_option linter.unusedVariables false
set_option linter.unusedSimpArgs false
set_option maxRecDepth 100000

theorem b_bl (x : Bool) : isB (.bool x) = true := rfl
theorem o_bl (x : Bool) : ofB (.bool x) = x := rfl
theorem TOk.sh {r : Mem} {t : Tbl} (sh : Nat) (h : TOk (SC r) t) : TOk (SS r sh) t := h
theorem base_sh {r : Mem} {sh : Nat} {γ0 γ : Gam} {W0 W : World} (h : Base (SC r) γ0 W0 γ W) : Base (SS r sh) γ0 W0 γ W := ⟨h.ext, h.ro⟩
theorem base_hs {r : Mem} {sh : Nat} {γ0 γ : Gam} {W0 W : World} (h : Base (SS r sh) γ0 W0 γ W) : Base (SC r) γ0 W0 γ W := ⟨h.ext, h.ro⟩
theorem is_hs {r : Mem} {sh m n : Nat} {γ0 : Gam} {W0 : World} {o : Outs} {st : St} (h : Is (SS r sh) m n γ0 W0 o st) : Is (SC r) m n γ0 W0 o st := by
 obtain ⟨vs, ms, os, hr, q⟩ := h
 refine ⟨vs, ms, os, fun γ a W hs hb => ?_, q⟩
 obtain ⟨γ1, s1, b1⟩ := hr γ a W hs (base_sh hb)
 exact ⟨γ1, s1, base_hs b1⟩
theorem segSh {r : Mem} {m n : Nat} {F : Fence} {k : Nat} {γ0 : Gam} {W0 : World} {n0 : Nat} {ro : Option Nat} (sh : Nat) {t : Tbl} (ht : TOk (SC r) t) {tm : Tr Nat} {L L' d : Nat} (hF : Wide F) (hro : RoRel γ0 ro F.round) (h0 : ∀ i, n0 ≤ i → γ0 i = none) {c : Code} {s : List (Nat × Value)} {b : Tr Value} {ms : List Nat} {A : AW} {on : Outs} {ox : Nat → Outs} {orr : Outs} (l : List (Nat × Outs)) (hl : ∀ p ∈ l, ox p.1 = p.2)
  (h : run (SS r sh) m n L c (lvlT (SS r sh) t tm L' d) ro (on.ask n0) (Outs.ats n0 l) (orr.ask n0) s b ms A = okR) : Go.Ev.Reach (SC r) m n F k γ0 W0 c ⟨⟨s, b⟩, ms, A⟩ (CanQ (SC r) m n γ0 W0 on ox orr) := by
 have h1 := Go.Ev.Reach.segR (k := k) (W0 := W0) (SS_ok r sh) (TOk.sh sh ht) hF hro h0 (on := on) (ox := ox) (orr := orr) l hl h
 intro γ a W hs hb
 refine wpIn_mono (h1 γ a W hs (base_sh hb)) fun ex a' W' ⟨st', γ', hq, s', b'⟩ => ⟨st', γ', ?_, s', base_hs b'⟩
 cases ex with
 | normal => exact is_hs hq
 | exit id => exact is_hs hq
 | ret => exact is_hs hq
 | _ => exact hq

theorem is_sh {r : Mem} {sh m n : Nat} {γ0 : Gam} {W0 : World} {o : Outs} {st : St} (h : Is (SC r) m n γ0 W0 o st) : Is (SS r sh) m n γ0 W0 o st := by
 obtain ⟨vs, ms, os, hr, q⟩ := h
 refine ⟨vs, ms, os, fun γ a W hs hb => ?_, q⟩
 obtain ⟨γ1, s1, b1⟩ := hr γ a W hs (base_hs hb)
 exact ⟨γ1, s1, base_sh b1⟩
theorem reach_hs {r : Mem} {sh m n : Nat} {F : Fence} {k : Nat} {γ0 : Gam} {W0 : World} {c : Code} {st : St} {on : Outs} {ox : Nat → Outs} {orr : Outs} (h : Go.Ev.Reach (SS r sh) m n F k γ0 W0 c st (CanQ (SS r sh) m n γ0 W0 on ox orr)) : Go.Ev.Reach (SC r) m n F k γ0 W0 c st (CanQ (SC r) m n γ0 W0 on ox orr) := by
 intro γ a W hs hb
 refine wpIn_mono (h γ a W hs (base_sh hb)) fun ex a' W' ⟨st', γ', hq, s', b'⟩ => ⟨st', γ', ?_, s', base_hs b'⟩
 cases ex with
 | normal => exact is_hs hq
 | exit id => exact is_hs hq
 | ret => exact is_hs hq
 | _ => exact hq
theorem reach_sh {r : Mem} {sh m n : Nat} {F : Fence} {k : Nat} {γ0 : Gam} {W0 : World} {c : Code} {st : St} {on : Outs} {ox : Nat → Outs} {orr : Outs} (h : Go.Ev.Reach (SC r) m n F k γ0 W0 c st (CanQ (SC r) m n γ0 W0 on ox orr)) : Go.Ev.Reach (SS r sh) m n F k γ0 W0 c st (CanQ (SS r sh) m n γ0 W0 on ox orr) := by
 intro γ a W hs hb
 refine wpIn_mono (h γ a W hs (base_hs hb)) fun ex a' W' ⟨st', γ', hq, s', b'⟩ => ⟨st', γ', ?_, s', base_sh b'⟩
 cases ex with
 | normal => exact is_sh hq
 | exit id => exact is_sh hq
 | ret => exact is_sh hq
 | _ => exact hq

def gT (T : List (List Bool)) (i k : Nat) : Bool := (T.getD i []).getD k false
def lenN (T : List (List Bool)) : Nat → Bool
 | 0 => true
 | i + 1 => lenN T i && ((T.getD i []).length == T.length)
def badP (T : List (List Bool)) (i k : Nat) : Bool := if i = k then gT T i k else gT T i k == gT T k i
def rowB (T : List (List Bool)) (i : Nat) : Nat → Bool
 | 0 => true
 | k + 1 => rowB T i k && !badP T i k
def fairB (T : List (List Bool)) : Nat → Bool
 | 0 => true
 | i + 1 => fairB T i && rowB T i T.length
def ckT (T : List (List Bool)) : Bool := decide (1 ≤ T.length ∧ T.length ≤ 12) && (lenN T T.length && fairB T T.length)
theorem lenN_get {T : List (List Bool)} : ∀ {n : Nat}, lenN T n = true → ∀ i, i < n → (T.getD i []).length = T.length
 | n + 1, h, i, hi => by
  simp only [lenN, Bool.and_eq_true, beq_iff_eq] at h
  by_cases c : i = n
  ·rw [c]; exact h.2
  ·exact lenN_get h.1 i (by omega)
theorem lenN_no {T : List (List Bool)} : ∀ {n i : Nat}, i < n → (T.getD i []).length ≠ T.length → lenN T n = false
 | n + 1, i, hi, h => by
  simp only [lenN]
  by_cases c : i = n
  ·subst c
   rw [show ((T.getD i []).length == T.length) = false by simpa using h, Bool.and_false]
  ·rw [lenN_no (by omega) h, Bool.false_and]
theorem rowB_no {T : List (List Bool)} {i : Nat} : ∀ {n k : Nat}, k < n → badP T i k = true → rowB T i n = false
 | n + 1, k, hk, h => by
  simp only [rowB]
  by_cases c : k = n
  ·subst c
   rw [h]; simp
  ·rw [rowB_no (by omega) h, Bool.false_and]
theorem fairB_no {T : List (List Bool)} : ∀ {n i : Nat}, i < n → rowB T i T.length = false → fairB T n = false
 | n + 1, i, hi, h => by
  simp only [fairB]
  by_cases c : i = n
  ·subst c
   rw [h, Bool.and_false]
  ·rw [fairB_no (by omega) h, Bool.false_and]

section
variable {r : Mem} {b off : Nat} {T : List (List Bool)}
theorem tab_row (hM : TabM r b off T) {i : Nat} (hi : i < T.length) : ∃ v, r b (off + i) = some v ∧ RowV r v (T.getD i []) := by
 have : T[i]? = some (T.getD i []) := by rw [List.getD_eq_getElem?_getD, List.getElem?_eq_getElem hi]; rfl
 exact hM i _ this
theorem tab_RS (hM : TabM r b off T) {i : Nat} (hi : i < T.length) (hne : (T.getD i []).length ≠ 0) : ∃ b2 o2 c2, r b (off + i) = some (RS b2 o2 (T.getD i []).length c2) ∧ ∀ k, k < (T.getD i []).length → r b2 (o2 + k) = some (.bool (gT T i k)) := by
 obtain ⟨v, hv, h⟩ := tab_row hM hi
 rcases h with ⟨h, _⟩ | ⟨_, b2, o2, c2, rfl, h⟩
 ·rw [h] at hne; exact absurd rfl hne
 ·refine ⟨b2, o2, c2, hv, fun k hk => h k _ ?_⟩
  unfold gT
  generalize T.getD i [] = l at hk
  rw [List.getD_eq_getElem?_getD, List.getElem?_eq_getElem hk]; rfl
end

end Go.Proofs

/- Words as sets; no functions. -/
namespace Go.Proofs
open Go Go.Ev
theorem wrU (v : Int) : IntKind.wrap .u64 v = v % 18446744073709551616 := by simp [IntKind.wrap, IntKind.bits, IntKind.signed]
abbrev U (z : Int) : Value := .int .u64 z
end Go.Proofs
namespace Go.Num
def btN (w j : Nat) : Bool := w / 2 ^ j % 2 == 1
open Go.Proofs

def anN (a b : Nat) : Nat := (a &&& b) ^^^ a
theorem an_zero {a b : Nat} : anN a b = 0 ↔ a &&& b = a := by
 unfold anN
 constructor
 ·intro h
  apply Nat.eq_of_testBit_eq
  intro i
  have := congrArg (fun x => Nat.testBit x i) h
  simp only [Nat.testBit_and, Nat.testBit_xor, Nat.zero_testBit] at this ⊢
  revert this
  cases a.testBit i <;> cases b.testBit i <;> simp
 ·intro h; rw [h]; exact Nat.xor_self a
theorem sub_or {a b y : Nat} : (a ||| b) &&& y = a ||| b ↔ a &&& y = a ∧ b &&& y = b := by
 constructor
 ·intro h
  constructor <;>
  ·apply Nat.eq_of_testBit_eq
   intro i
   have := congrArg (fun x => Nat.testBit x i) h
   simp only [Nat.testBit_and, Nat.testBit_or] at this ⊢
   revert this
   cases a.testBit i <;> cases b.testBit i <;> cases y.testBit i <;> simp
 ·rintro ⟨h1, h2⟩
  apply Nat.eq_of_testBit_eq; intro i
  have h3 := congrArg (fun x => Nat.testBit x i) h1
  have h4 := congrArg (fun x => Nat.testBit x i) h2
  simp only [Nat.testBit_and, Nat.testBit_or] at h3 h4 ⊢
  revert h3 h4
  cases a.testBit i <;> cases b.testBit i <;> cases y.testBit i <;> simp
theorem an_or {a b y : Nat} : anN (a ||| b) y = 0 ↔ anN a y = 0 ∧ anN b y = 0 := by rw [an_zero, an_zero, an_zero, sub_or]
theorem an_all {a m : Nat} : anN a (2 ^ m - 1) = 0 ↔ a < 2 ^ m := by
 rw [an_zero, Nat.and_two_pow_sub_one_eq_mod]
 constructor
 ·intro h
  have := Nat.mod_lt a (Nat.two_pow_pos m)
  omega
 ·exact Nat.mod_eq_of_lt
theorem an_lt {a b k : Nat} (h : a < 2 ^ k) : anN a b < 2 ^ k := Nat.xor_lt_two_pow (Nat.lt_of_le_of_lt Nat.and_le_left h) h
theorem all_lt (m : Nat) : 2 ^ m - 1 < 2 ^ m := by have := Nat.two_pow_pos m; omega
theorem an_in {a x m : Nat} (h : anN a (anN (2 ^ m - 1) x) = 0) : a < 2 ^ m := by
 rw [an_zero] at h
 have h1 : a ≤ anN (2 ^ m - 1) x := by rw [← h]; exact Nat.and_le_right
 have := an_lt (b := x) (all_lt m)
 omega

theorem btN_high {s m k : Nat} (h : s < 2 ^ m) (hk : m ≤ k) : btN s k = false := by
 have : s < 2 ^ k := Nat.lt_of_lt_of_le h (Nat.pow_le_pow_right (by decide) hk)
 unfold btN
 rw [Nat.div_eq_of_lt this]
 rfl
theorem bt_bit (s k : Nat) : btN s k = s.testBit k := by
 unfold btN
 rw [Nat.testBit_eq_decide_div_mod_eq, Bool.eq_iff_iff]
 simp
theorem an_bit (a b i : Nat) : (anN a b).testBit i = (a.testBit i && !b.testBit i) := by
 unfold anN
 rw [Nat.testBit_xor, Nat.testBit_and]
 cases a.testBit i <;> cases b.testBit i <;> rfl
theorem and_ne {a b : Nat} : a &&& b ≠ 0 ↔ ∃ v, a.testBit v = true ∧ b.testBit v = true := by
 constructor
 ·intro h
  obtain ⟨v, hv⟩ := Nat.exists_testBit_of_ne_zero h
  rw [Nat.testBit_and, Bool.and_eq_true] at hv
  exact ⟨v, hv⟩
 ·rintro ⟨v, h1, h2⟩ h
  have := congrArg (fun x => Nat.testBit x v) h
  simp only [Nat.testBit_and, h1, h2, Nat.zero_testBit] at this
  exact nomatch this
theorem and_zero {a b : Nat} : a &&& b = 0 ↔ ∀ v, a.testBit v = true → b.testBit v = false := by
 constructor
 ·intro h v h1
  cases h2 : b.testBit v with
  | false => rfl
  | true => exact absurd h (and_ne.2 ⟨v, h1, h2⟩)
 ·intro h
  by_cases c : a &&& b = 0
  ·exact c
  ·obtain ⟨v, h1, h2⟩ := and_ne.1 c
   rw [h v h1] at h2
   exact nomatch h2
theorem in_bit {a b : Nat} : a &&& b = a ↔ ∀ v, a.testBit v = true → b.testBit v = true := by
 constructor
 ·intro h v h1
  rw [← h, Nat.testBit_and, Bool.and_eq_true] at h1
  exact h1.2
 ·intro h
  apply Nat.eq_of_testBit_eq
  intro i
  rw [Nat.testBit_and]
  cases ha : a.testBit i with
  | false => rfl
  | true => rw [h i ha]; rfl

structure Nbs (w : Nat → Nat) (m : Nat) : Prop where
 low : ∀ i v, (w i).testBit v = true → i < m ∧ v < m
 sym : ∀ i v, (w i).testBit v = true → (w v).testBit i = true

theorem high {x m i : Nat} (h : x < 2 ^ m) (hi : m ≤ i) : x.testBit i = false := Nat.testBit_lt_two_pow (Nat.lt_of_lt_of_le h (Nat.pow_le_pow_right (by decide) hi))

theorem an_an {A x : Nat} (h : x &&& A = x) : anN A (anN A x) = x := by
 apply Nat.eq_of_testBit_eq
 intro i
 rw [an_bit, an_bit]
 have := in_bit.1 h i
 revert this
 cases x.testBit i <;> cases A.testBit i <;> simp
theorem an_sub (A x : Nat) : anN A x &&& A = anN A x := by
 rw [in_bit]
 intro v h
 rw [an_bit, Bool.and_eq_true] at h
 exact h.1
theorem sub_le {a b : Nat} (h : a &&& b = a) : a ≤ b := by rw [← h]; exact Nat.and_le_right
theorem lt_sub {x m : Nat} (h : x < 2 ^ m) : x &&& (2 ^ m - 1) = x := by rw [Nat.and_two_pow_sub_one_eq_mod, Nat.mod_eq_of_lt h]

theorem and_half (a b : Nat) : (a &&& b) / 2 = (a / 2) &&& (b / 2) := Nat.and_div_two
theorem and_odd (a b : Nat) : (a &&& b) % 2 = 1 ↔ a % 2 = 1 ∧ b % 2 = 1 := Nat.and_mod_two_eq_one

theorem in_half {t s : Nat} (h : t &&& s = t) : (t / 2) &&& (s / 2) = t / 2 := by rw [← and_half, h]
theorem in_odd {t s : Nat} (h : t &&& s = t) (ht : t % 2 = 1) : s % 2 = 1 := by
 rw [← h, and_odd] at ht
 exact ht.2


def tzN : Nat → Nat → Nat
 | 0, _ => 0
 | f + 1, s => if s % 2 = 1 then 0 else tzN f (s / 2) + 1

theorem neg_and : ∀ b x, x < 2 ^ b → (2 ^ b - 1 - x) &&& x = 0
 | 0, x, h => by
  obtain rfl : x = 0 := by simpa using h
  exact Nat.and_zero _
 | b + 1, x, h => by
  have hp : 2 ^ (b + 1) = 2 * 2 ^ b := by rw [Nat.pow_succ]; omega
  have ih := neg_and b (x / 2) (by omega)
  generalize hX : 2 ^ (b + 1) - 1 - x = X
  have h1 := and_half X x
  have h2 := and_odd X x
  rw [show X / 2 = 2 ^ b - 1 - x / 2 by omega, ih] at h1
  generalize X &&& x = n at h1 h2
  have : ¬ n % 2 = 1 := fun c => by have := h2.1 c; omega
  omega
theorem low_pow : ∀ b x, x < 2 ^ b → x ≠ 0 → x &&& (2 ^ b - x) = 2 ^ tzN b x
 | 0, x, h, h0 => by exfalso; simp at h; omega
 | b + 1, x, h, h0 => by
  have hp : 2 ^ (b + 1) = 2 * 2 ^ b := by rw [Nat.pow_succ]; omega
  generalize hX : 2 ^ (b + 1) - x = X
  have h1 := and_half x X
  have h2 := and_odd x X
  rw [tzN]
  by_cases c : x % 2 = 1
  ·rw [if_pos c]
   have := neg_and b (x / 2) (by omega)
   rw [show X / 2 = 2 ^ b - 1 - x / 2 by omega, Nat.and_comm (x / 2), this] at h1
   have := h2.2 ⟨c, by omega⟩
   omega
  ·rw [if_neg c, Nat.pow_succ]
   have := low_pow b (x / 2) (by omega) (by omega)
   rw [show X / 2 = 2 ^ b - x / 2 by omega, this] at h1
   have : ¬ (x &&& X) % 2 = 1 := fun c => by have := h2.1 c; omega
   omega
theorem tz_bit : ∀ b x, x < 2 ^ b → x ≠ 0 → tzN b x < b ∧ x.testBit (tzN b x) = true ∧ ∀ i, i < tzN b x → x.testBit i = false
 | 0, x, h, h0 => by exfalso; simp at h; omega
 | b + 1, x, h, h0 => by
  have hp : 2 ^ (b + 1) = 2 * 2 ^ b := by rw [Nat.pow_succ]; omega
  rw [tzN]
  by_cases c : x % 2 = 1
  ·rw [if_pos c]
   exact ⟨by omega, by rw [Nat.testBit_zero]; simpa using c, fun i hi => absurd hi (by omega)⟩
  ·rw [if_neg c]
   obtain ⟨h1, h2, h3⟩ := tz_bit b (x / 2) (by omega) (by omega)
   refine ⟨by omega, by rw [Nat.testBit_succ]; exact h2, fun i hi => ?_⟩
   cases i with
   | zero => rw [Nat.testBit_zero]; simpa using c
   | succ i => rw [Nat.testBit_succ]; exact h3 i (by omega)
theorem clr_bit : ∀ b x, x < 2 ^ b → x ≠ 0 → ∀ i, (x &&& (x - 1)).testBit i = (x.testBit i && !decide (i = tzN b x))
 | 0, x, h, h0, i => by exfalso; simp at h; omega
 | b + 1, x, h, h0, i => by
  have hp : 2 ^ (b + 1) = 2 * 2 ^ b := by rw [Nat.pow_succ]; omega
  rw [tzN, Nat.testBit_and]
  by_cases c : x % 2 = 1
  ·rw [if_pos c]
   cases i with
   | zero =>
    rw [Nat.testBit_zero (x - 1), show ((x - 1) % 2) = 0 by omega]
    simp
   | succ i =>
    rw [Nat.testBit_succ, Nat.testBit_succ, show (x - 1) / 2 = x / 2 by omega]
    simp
  ·rw [if_neg c]
   have ih := clr_bit b (x / 2) (by omega) (by omega)
   cases i with
   | zero =>
    rw [Nat.testBit_zero x, show x % 2 = 0 by omega]
    simp
   | succ i =>
    rw [Nat.testBit_succ, Nat.testBit_succ, show (x - 1) / 2 = x / 2 - 1 by omega]
    have := ih i
    rw [Nat.testBit_and] at this
    rw [this]
    congr 2
    simp

def hiN (s v : Nat) : Nat := s / 2 ^ v * 2 ^ v
theorem hi_bit (s v i : Nat) : (hiN s v).testBit i = (decide (v ≤ i) && s.testBit i) := by
 unfold hiN
 rw [Nat.mul_comm, Nat.testBit_two_pow_mul]
 by_cases c : v ≤ i
 ·rw [decide_eq_true c, Nat.testBit_div_two_pow, Nat.sub_add_cancel c]
 ·simp [c]
theorem hi_le (s v : Nat) : hiN s v ≤ s := Nat.div_mul_le_self s (2 ^ v)
theorem hi_zero (s : Nat) : hiN s 0 = s := by unfold hiN; simp
theorem hi_next {b s v : Nat} (h : s < 2 ^ b) (h0 : hiN s v ≠ 0) : v ≤ tzN b (hiN s v) ∧ tzN b (hiN s v) < b ∧ s.testBit (tzN b (hiN s v)) = true ∧ (∀ i, v ≤ i → i < tzN b (hiN s v) → s.testBit i = false) ∧ hiN s v &&& (hiN s v - 1) = hiN s (tzN b (hiN s v) + 1) := by
 have hh : hiN s v < 2 ^ b := Nat.lt_of_le_of_lt (hi_le s v) h
 obtain ⟨h1, h2, h3⟩ := tz_bit b _ hh h0
 have h4 := clr_bit b _ hh h0
 generalize tzN b (hiN s v) = t at h1 h2 h3 h4
 rw [hi_bit, Bool.and_eq_true, decide_eq_true_eq] at h2
 refine ⟨h2.1, h1, h2.2, fun i hv hi => ?_, ?_⟩
 ·have := h3 i hi
  rw [hi_bit, decide_eq_true hv] at this
  simpa using this
 ·apply Nat.eq_of_testBit_eq
  intro i
  rw [h4, hi_bit, hi_bit]
  by_cases c : t + 1 ≤ i
  ·rw [decide_eq_true c, decide_eq_true (show v ≤ i by omega), decide_eq_false (show ¬ i = t by omega)]
   simp
  ·rw [decide_eq_false c, Bool.false_and]
   by_cases e : i = t
   ·simp [e]
   ·have := h3 i (by omega)
    rw [hi_bit] at this
    rw [this]; rfl
theorem hi_none {s v : Nat} (h : hiN s v = 0) {i : Nat} (hi : v ≤ i) : s.testBit i = false := by
 have := hi_bit s v i
 rw [h, Nat.zero_testBit, decide_eq_true hi] at this
 simpa using this.symm

end Go.Num
namespace Go.Proofs
open Go Go.Ev Go.Num
set_option linter.unusedVariables false
set_option linter.unusedSimpArgs false
set_option maxRecDepth 100000

theorem wrapU' {a : Nat} (h : a < 18446744073709551616) : IntKind.wrap .u64 (a : Int) = (a : Int) := by rw [wrU]; omega
theorem bvU (a : Nat) (h : a < 18446744073709551616) : (BitVec.ofInt 64 (a : Int)).toNat = a := by
 rw [BitVec.ofInt_natCast, BitVec.toNat_ofNat]
 exact Nat.mod_eq_of_lt h
theorem ibO {k : IntKind} (hk : k = .u64 ∨ k = .i64) {a b : Nat} (ha : a < 18446744073709551616) (hb : b < 18446744073709551616) : ibits .or k (a : Int) (b : Int) = k.wrap ((a ||| b : Nat) : Int) ∧ ibits .and k (a : Int) (b : Int) = k.wrap ((a &&& b : Nat) : Int) ∧ ibits .andNot k (a : Int) (b : Int) = k.wrap ((anN a b : Nat) : Int) := by
 have hx : ∀ x y : BitVec 64, x &&& ~~~y = (x &&& y) ^^^ x := fun x y => by
  ext i hi
  simp
  cases x[i] <;> cases y[i] <;> rfl
 have e1 : (BitVec.ofInt 64 (a : Int) ||| BitVec.ofInt 64 (b : Int)).toNat = a ||| b := by rw [BitVec.toNat_or, bvU a ha, bvU b hb]
 have e2 : (BitVec.ofInt 64 (a : Int) &&& BitVec.ofInt 64 (b : Int)).toNat = a &&& b := by rw [BitVec.toNat_and, bvU a ha, bvU b hb]
 have e3 : (BitVec.ofInt 64 (a : Int) &&& ~~~(BitVec.ofInt 64 (b : Int))).toNat = anN a b := by rw [hx, BitVec.toNat_xor, BitVec.toNat_and, bvU a ha, bvU b hb]; rfl
 rcases hk with rfl | rfl
 ·refine ⟨?_, ?_, ?_⟩
  ·show IntKind.wrap .u64 ((BitVec.ofInt 64 (a : Int) ||| BitVec.ofInt 64 (b : Int)).toNat : Int) = _
   rw [e1]
  ·show IntKind.wrap .u64 ((BitVec.ofInt 64 (a : Int) &&& BitVec.ofInt 64 (b : Int)).toNat : Int) = _
   rw [e2]
  ·show IntKind.wrap .u64 ((BitVec.ofInt 64 (a : Int) &&& ~~~(BitVec.ofInt 64 (b : Int))).toNat : Int) = _
   rw [e3]
 ·refine ⟨?_, ?_, ?_⟩
  ·show IntKind.wrap .i64 ((BitVec.ofInt 64 (a : Int) ||| BitVec.ofInt 64 (b : Int)).toNat : Int) = _
   rw [e1]
  ·show IntKind.wrap .i64 ((BitVec.ofInt 64 (a : Int) &&& BitVec.ofInt 64 (b : Int)).toNat : Int) = _
   rw [e2]
  ·show IntKind.wrap .i64 ((BitVec.ofInt 64 (a : Int) &&& ~~~(BitVec.ofInt 64 (b : Int))).toNat : Int) = _
   rw [e3]
theorem uO {a b : Nat} (ha : a < 18446744073709551616) (hb : b < 18446744073709551616) : ibits .or .u64 (a : Int) (b : Int) = ((a ||| b : Nat) : Int) ∧ ibits .and .u64 (a : Int) (b : Int) = ((a &&& b : Nat) : Int) ∧ ibits .andNot .u64 (a : Int) (b : Int) = ((anN a b : Nat) : Int) := by
 have h64 : (18446744073709551616 : Nat) = 2 ^ 64 := by decide
 obtain ⟨h1, h2, h3⟩ := ibO (.inl rfl) ha hb
 refine ⟨h1.trans (wrapU' ?_), h2.trans (wrapU' ?_), h3.trans (wrapU' ?_)⟩
 ·rw [h64] at *; exact Nat.or_lt_two_pow ha hb
 ·rw [h64] at *; exact Nat.and_lt_two_pow _ hb
 ·rw [h64] at *; exact an_lt ha
theorem shl1 {b : Nat} (h : b < 16) : IntKind.wrap IntKind.u64 (Int.ofNat 1 * Int.ofNat 2 ^ min b 64) = ((2 ^ b : Nat) : Int) := by
 have h1 : 2 ^ b < 65536 := Nat.pow_lt_pow_right (n := 16) (by decide) h
 rw [Nat.min_eq_left (by omega), wrU, show (Int.ofNat 1 * Int.ofNat 2 ^ b : Int) = ((2 ^ b : Nat) : Int) by simp]
 generalize 2 ^ b = x at *
 omega

end Go.Proofs

/- read, of a table: run. -/
namespace Go.Proofs
open Go Go.Ev Go.Num
set_option linter.unusedVariables false
set_option linter.unusedSimpArgs false
set_option maxRecDepth 100000

noncomputable def cRD : Code := bodyOf S0 37
noncomputable def RD_0 : Code := (lc cRD)
noncomputable def RD_1 : Code := (lc (rc cRD))
noncomputable def RD_2 : Code := (lc (rc (rc cRD)))
noncomputable def RD_3 : Code := (lc (rc (rc (rc cRD))))
noncomputable def RD_4 : Code := (lc (lc (rc (rc (rc (rc cRD))))))
noncomputable def RD_5 : Code := (lc (ic (ic (rc (lc (rc (rc (rc (rc cRD)))))))))
noncomputable def RD_6 : Code := (lc (rc (ic (ic (rc (lc (rc (rc (rc (rc cRD))))))))))
noncomputable def RD_7 : Code := (lc (ic (lc (rc (rc (ic (ic (rc (lc (rc (rc (rc (rc cRD)))))))))))))
noncomputable def RD_8 : Code := (lc (rc (ic (lc (rc (rc (ic (ic (rc (lc (rc (rc (rc (rc cRD))))))))))))))
noncomputable def RD_9 : Code := (lc (rc (rc (ic (lc (rc (rc (ic (ic (rc (lc (rc (rc (rc (rc cRD)))))))))))))))
noncomputable def RD_10 : Code := (ic (ic (rc (rc (rc (ic (lc (rc (rc (ic (ic (rc (lc (rc (rc (rc (rc cRD)))))))))))))))))
noncomputable def RD_11 : Code := (rc (rc (rc (ic (ic (rc (lc (rc (rc (rc (rc cRD)))))))))))
noncomputable def RD_12 : Code := (rc (rc (rc (rc (rc cRD)))))
theorem RD_eq : cRD = (.seq RD_0 (.seq RD_1 (.seq RD_2 (.seq RD_3 (.seq (.seq RD_4 (.block 0 (.loop (.seq RD_5 (.seq RD_6 (.seq (.block 1 (.seq RD_7 (.seq RD_8 (.seq RD_9 (.block 2 (.loop RD_10)))))) RD_11)))))) RD_12))))) := by kernel_rfl
abbrev pq (i : Nat) : Value := .pointer (some ⟨i, 0, none⟩)
def oRg (c : List Value) (i : Nat) : Option AObj := some (.cells c 61 i 0)
def z13 : List Value := [I 0, U 0, U 0, U 0, U 0, U 0, U 0, U 0, U 0, U 0, U 0, U 0, U 0]
def mRD : Nat := 60144223229
def lvD : List Nat := [2, 4, 5, 21, 22, 23]
def vD (b off n cap i : Nat) : OV := [some (pq 0), some (I (n : Nat)), some (pq 1), some (RS b off n cap), some (I (n : Nat)), some (I (i : Nat))]
def lvE : List Nat := [2, 4, 5, 6, 21, 22, 23, 33, 34, 35]
def vE (b off n cap i b2 o2 l c2 k : Nat) : OV := [some (pq 0), some (I (n : Nat)), some (pq 1), some (I (i : Nat)), some (RS b off n cap), some (I (n : Nat)), some (I (i : Nat)), some (RS b2 o2 l c2), some (I (l : Nat)), some (I (k : Nat))]
noncomputable def eFair (c : List Value) (v : Bool) : Ent := ent (fun args _ => m_svv args [.agg ⟨c⟩]) fun _ _ => .bool v
noncomputable def tFair (c : List Value) (v : Bool) : Tbl := tcons 56 (eFair c v) fun _ => none

theorem rdA (r : Mem) (b off n cap : Nat) (fs : FnsC) (K : OV → List Nat → OO → CR) (kx : Nat → KS) (KR : OV → List Nat → OO → CR) : run (SC r) 60144223229 57 1 (.seq RD_0 (.seq RD_1 (.seq RD_2 (.seq RD_3 RD_4)))) fs none (rbK 0 lvD [] K) kx (rbK 0 [2, 3] [] KR) (sc0 60144223229 [RS b off n cap]) (tr0 60144223229 [RS b off n cap]) [] emptyA =
    bif decide (Int.ofNat n < 1) then KR [some (.pointer (some ⟨0, 0, none⟩)), some (I (Int.ofNat 50))] [] [some (.cells [I (Int.ofNat 0), U (Int.ofNat 0), U (Int.ofNat 0), U (Int.ofNat 0), U (Int.ofNat 0), U (Int.ofNat 0), U (Int.ofNat 0), U (Int.ofNat 0), U (Int.ofNat 0), U (Int.ofNat 0), U (Int.ofNat 0), U (Int.ofNat 0), U (Int.ofNat 0)] 61 0 0)] else bif decide (Int.ofNat n > 12) then KR [some (.pointer (some ⟨0, 0, none⟩)), some (I (Int.ofNat 50))] [] [some (.cells [I (Int.ofNat 0), U (Int.ofNat 0), U (Int.ofNat 0), U (Int.ofNat 0), U (Int.ofNat 0), U (Int.ofNat 0), U (Int.ofNat 0), U (Int.ofNat 0), U (Int.ofNat 0), U (Int.ofNat 0), U (Int.ofNat 0), U (Int.ofNat 0), U (Int.ofNat 0)] 61 0 0)] else K [some (.pointer (some ⟨0, 0, none⟩)), some (I (Int.ofNat n)), some (.pointer (some ⟨1, 0, none⟩)), some (.slice (some ⟨b, off, some 0⟩) n cap), some (I (Int.ofNat n)), some (I (Int.ofNat 0))] [] [some (.cells [I (Int.ofNat 0), U (Int.ofNat 0), U (Int.ofNat 0), U (Int.ofNat 0), U (Int.ofNat 0), U (Int.ofNat 0), U (Int.ofNat 0), U (Int.ofNat 0), U (Int.ofNat 0), U (Int.ofNat 0), U (Int.ofNat 0), U (Int.ofNat 0), U (Int.ofNat 0)] 61 0 0), some (.cells [I (Int.ofNat n), U (Int.ofNat 0), U (Int.ofNat 0), U (Int.ofNat 0), U (Int.ofNat 0), U (Int.ofNat 0), U (Int.ofNat 0), U (Int.ofNat 0), U (Int.ofNat 0), U (Int.ofNat 0), U (Int.ofNat 0), U (Int.ofNat 0), U (Int.ofNat 0)] 61 1 0)] := by kernel_rfl

theorem rdA0 (r : Mem) (fs : FnsC) (K : OV → List Nat → OO → CR) (kx : Nat → KS) (KR : OV → List Nat → OO → CR) : run (SC r) 60144223229 57 1 (.seq RD_0 (.seq RD_1 (.seq RD_2 (.seq RD_3 RD_4)))) fs none (rbK 0 lvD [] K) kx (rbK 0 [2, 3] [] KR) (sc0 60144223229 [.slice none 0 0]) (tr0 60144223229 [.slice none 0 0]) [] emptyA =
    KR [some (.pointer (some ⟨0, 0, none⟩)), some (I (Int.ofNat 50))] [] [some (.cells [I (Int.ofNat 0), U (Int.ofNat 0), U (Int.ofNat 0), U (Int.ofNat 0), U (Int.ofNat 0), U (Int.ofNat 0), U (Int.ofNat 0), U (Int.ofNat 0), U (Int.ofNat 0), U (Int.ofNat 0), U (Int.ofNat 0), U (Int.ofNat 0), U (Int.ofNat 0)] 61 0 0)] := by kernel_rfl

theorem rdB (r : Mem) (b off n cap i : Nat) (c : List Value) (fs : FnsC) (K : OV → List Nat → OO → CR) (KX : Nat → OV → List Nat → OO → CR) (kr : KS) : run (SC r) 60144223229 57 1 (.seq RD_5 RD_6) fs none (rbK 0 lvD [] K) (fun j => rbK 0 [2, 5] [] (KX j)) kr [] (bT lvD (vD b off n cap i) .nil) [] (mkA [oRg z13 0, oRg c 1]) =
    bif decide (Int.ofNat i < Int.ofNat n) then bif true && (m_nns c && true) then K [some (.pointer (some ⟨0, 0, none⟩)), some (I (Int.ofNat n)), some (.pointer (some ⟨1, 0, none⟩)), some (.slice (some ⟨b, off, some 0⟩) n cap), some (I (Int.ofNat n)), some (I (Int.ofNat i))] [] [some (.cells [I (Int.ofNat 0), U (Int.ofNat 0), U (Int.ofNat 0), U (Int.ofNat 0), U (Int.ofNat 0), U (Int.ofNat 0), U (Int.ofNat 0), U (Int.ofNat 0), U (Int.ofNat 0), U (Int.ofNat 0), U (Int.ofNat 0), U (Int.ofNat 0), U (Int.ofNat 0)] 61 0 0), some (.cells c 61 1 0)] else .fail 420 else bif true && (m_nns c && true) then KX 0 [some (.pointer (some ⟨0, 0, none⟩)), some (.pointer (some ⟨1, 0, none⟩))] [] [some (.cells [I (Int.ofNat 0), U (Int.ofNat 0), U (Int.ofNat 0), U (Int.ofNat 0), U (Int.ofNat 0), U (Int.ofNat 0), U (Int.ofNat 0), U (Int.ofNat 0), U (Int.ofNat 0), U (Int.ofNat 0), U (Int.ofNat 0), U (Int.ofNat 0), U (Int.ofNat 0)] 61 0 0), some (.cells c 61 1 0)] else .fail 420 := by kernel_rfl

theorem rdCN (r : Mem) (b off n cap i : Nat) (c : List Value) (fs : FnsC) (K : OV → List Nat → OO → CR) (kx : Nat → KS) (KR : OV → List Nat → OO → CR) : run (SS r 1) 60144223229 57 1 (.seq RD_7 (.seq RD_8 RD_9)) fs none (rbK 0 lvE [] K) kx (rbK 0 [2, 3] [] KR) [] (bT lvD (vD b off n cap i) .nil) [] (mkA [oRg z13 0, oRg c 1]) =
    bif Nat.blt (Int.toNat (Int.ofNat i)) n then Option.casesOn (r b (Nat.add off (Nat.mul (Int.toNat (Int.ofNat i)) 1))) (.fail 423) fun val => bif isNilS val then bif Int.ofNat 0 != Int.ofNat n then KR [some (.pointer (some ⟨0, 0, none⟩)), some (I (Int.ofNat 50))] [] [some (.cells [I (Int.ofNat 0), U (Int.ofNat 0), U (Int.ofNat 0), U (Int.ofNat 0), U (Int.ofNat 0), U (Int.ofNat 0), U (Int.ofNat 0), U (Int.ofNat 0), U (Int.ofNat 0), U (Int.ofNat 0), U (Int.ofNat 0), U (Int.ofNat 0), U (Int.ofNat 0)] 61 0 0)] else bif true && (m_nns c && true) then K [some (.pointer (some ⟨0, 0, none⟩)), some (I (Int.ofNat n)), some (.pointer (some ⟨1, 0, none⟩)), some (I (Int.ofNat i)), some (.slice (some ⟨b, off, some 0⟩) n cap), some (I (Int.ofNat n)), some (I (Int.ofNat i)), some (.slice none 0 0), some (I (Int.ofNat 0)), some (I (Int.ofNat 0))] [] [some (.cells [I (Int.ofNat 0), U (Int.ofNat 0), U (Int.ofNat 0), U (Int.ofNat 0), U (Int.ofNat 0), U (Int.ofNat 0), U (Int.ofNat 0), U (Int.ofNat 0), U (Int.ofNat 0), U (Int.ofNat 0), U (Int.ofNat 0), U (Int.ofNat 0), U (Int.ofNat 0)] 61 0 0), some (.cells c 61 1 0)] else .fail 420 else .fail 420 else .fail 420 := by kernel_rfl

theorem rdCR (r : Mem) (b off n cap i : Nat) (c : List Value) (fs : FnsC) (K : OV → List Nat → OO → CR) (kx : Nat → KS) (KR : OV → List Nat → OO → CR) : run (SS r 2) 60144223229 57 1 (.seq RD_7 (.seq RD_8 RD_9)) fs none (rbK 0 lvE [] K) kx (rbK 0 [2, 3] [] KR) [] (bT lvD (vD b off n cap i) .nil) [] (mkA [oRg z13 0, oRg c 1]) =
    bif Nat.blt (Int.toNat (Int.ofNat i)) n then Option.casesOn (r b (Nat.add off (Nat.mul (Int.toNat (Int.ofNat i)) 1))) (.fail 423) fun val => bif isRoS val then bif Int.ofNat (lnOf val) != Int.ofNat n then KR [some (.pointer (some ⟨0, 0, none⟩)), some (I (Int.ofNat 50))] [] [some (.cells [I (Int.ofNat 0), U (Int.ofNat 0), U (Int.ofNat 0), U (Int.ofNat 0), U (Int.ofNat 0), U (Int.ofNat 0), U (Int.ofNat 0), U (Int.ofNat 0), U (Int.ofNat 0), U (Int.ofNat 0), U (Int.ofNat 0), U (Int.ofNat 0), U (Int.ofNat 0)] 61 0 0)] else bif true && (m_nns c && true) then K [some (.pointer (some ⟨0, 0, none⟩)), some (I (Int.ofNat n)), some (.pointer (some ⟨1, 0, none⟩)), some (I (Int.ofNat i)), some (.slice (some ⟨b, off, some 0⟩) n cap), some (I (Int.ofNat n)), some (I (Int.ofNat i)), some (.slice (some ⟨(blkOf val), (offOf val), some 0⟩) (lnOf val) (cpOf val)), some (I (Int.ofNat (lnOf val))), some (I (Int.ofNat 0))] [] [some (.cells [I (Int.ofNat 0), U (Int.ofNat 0), U (Int.ofNat 0), U (Int.ofNat 0), U (Int.ofNat 0), U (Int.ofNat 0), U (Int.ofNat 0), U (Int.ofNat 0), U (Int.ofNat 0), U (Int.ofNat 0), U (Int.ofNat 0), U (Int.ofNat 0), U (Int.ofNat 0)] 61 0 0), some (.cells c 61 1 0)] else .fail 420 else .fail 420 else .fail 420 := by kernel_rfl

theorem rdD (r : Mem) (b off n cap i b2 o2 l c2 k : Nat) (c : List Value) (K : OV → List Nat → OO → CR) (KX : Nat → OV → List Nat → OO → CR) (kr : KS) : run (SC r) 60144223229 57 1 RD_10 (lvlT (SC r) (fun _ => none) .nil 1 2) none (rbK 0 lvE [] K) (fun j => rbK 0 lvD [] (KX j)) kr [] (bT lvE (vE b off n cap i b2 o2 l c2 k) .nil) [] (mkA [oRg z13 0, oRg c 1]) =
    bif decide (Int.ofNat k < Int.ofNat l) then bif Nat.blt (Int.toNat (Int.ofNat k)) l then Option.casesOn (r b2 (Nat.add o2 (Nat.mul (Int.toNat (Int.ofNat k)) 1))) (.fail 423) fun val => bif isB val then bif ofB val then bif Nat.blt (Int.toNat (Int.ofNat i)) 12 then Option.casesOn c[Nat.add 1 (Nat.mul (Int.toNat (Int.ofNat i)) 1)]? (.fail 423) fun val => bif isI IntKind.u64 val then bif Nat.blt (Int.toNat (Int.ofNat i)) 12 then bif Nat.blt (Nat.add 1 (Nat.mul (Int.toNat (Int.ofNat i)) 1)) (List.length c) then Option.casesOn c[Nat.add 1 (Nat.mul (Int.toNat (Int.ofNat i)) 1)]? (.fail 423) fun val_1 => bif isI IntKind.u64 val_1 then bif m_eqv (U (ofI val_1)) (U (ofI val)) then Option.casesOn c[Nat.add 1 (Nat.mul (Int.toNat (Int.ofNat i)) 1)]? (.fail 423) fun val_2 => bif isI IntKind.u64 val_2 then bif m_eqv (U (ofI val_2)) (U (ofI val)) then bif true && (m_nns (List.set c (Nat.add 1 (Nat.mul (Int.toNat (Int.ofNat i)) 1)) (U (ibits BinOp.or IntKind.u64 (ofI val) (IntKind.wrap .u64 (Int.ofNat 1 * Int.ofNat 2 ^ min (Int.toNat (Int.ofNat k)) 64))))) && true) then K [some (.pointer (some ⟨0, 0, none⟩)), some (I (Int.ofNat n)), some (.pointer (some ⟨1, 0, none⟩)), some (I (Int.ofNat i)), some (.slice (some ⟨b, off, some 0⟩) n cap), some (I (Int.ofNat n)), some (I (Int.ofNat i)), some (.slice (some ⟨b2, o2, some 0⟩) l c2), some (I (Int.ofNat l)), some (I (IntKind.wrap .i64 (Int.ofNat k + Int.ofNat 1)))] [] [some (.cells [I (Int.ofNat 0), U (Int.ofNat 0), U (Int.ofNat 0), U (Int.ofNat 0), U (Int.ofNat 0), U (Int.ofNat 0), U (Int.ofNat 0), U (Int.ofNat 0), U (Int.ofNat 0), U (Int.ofNat 0), U (Int.ofNat 0), U (Int.ofNat 0), U (Int.ofNat 0)] 61 0 0), some (.cells (List.set c (Nat.add 1 (Nat.mul (Int.toNat (Int.ofNat i)) 1)) (U (ibits BinOp.or IntKind.u64 (ofI val) (IntKind.wrap .u64 (Int.ofNat 1 * Int.ofNat 2 ^ min (Int.toNat (Int.ofNat k)) 64))))) 61 1 0)] else .fail 420 else .fail 420 else .fail 420 else .fail 420 else .fail 420 else .fail 420 else .fail 420 else .fail 420 else .fail 420 else bif true && (m_nns c && true) then K [some (.pointer (some ⟨0, 0, none⟩)), some (I (Int.ofNat n)), some (.pointer (some ⟨1, 0, none⟩)), some (I (Int.ofNat i)), some (.slice (some ⟨b, off, some 0⟩) n cap), some (I (Int.ofNat n)), some (I (Int.ofNat i)), some (.slice (some ⟨b2, o2, some 0⟩) l c2), some (I (Int.ofNat l)), some (I (IntKind.wrap .i64 (Int.ofNat k + Int.ofNat 1)))] [] [some (.cells [I (Int.ofNat 0), U (Int.ofNat 0), U (Int.ofNat 0), U (Int.ofNat 0), U (Int.ofNat 0), U (Int.ofNat 0), U (Int.ofNat 0), U (Int.ofNat 0), U (Int.ofNat 0), U (Int.ofNat 0), U (Int.ofNat 0), U (Int.ofNat 0), U (Int.ofNat 0)] 61 0 0), some (.cells c 61 1 0)] else .fail 420 else .fail 420 else .fail 420 else bif true && (m_nns c && true) then KX 2 [some (.pointer (some ⟨0, 0, none⟩)), some (I (Int.ofNat n)), some (.pointer (some ⟨1, 0, none⟩)), some (.slice (some ⟨b, off, some 0⟩) n cap), some (I (Int.ofNat n)), some (I (Int.ofNat i))] [] [some (.cells [I (Int.ofNat 0), U (Int.ofNat 0), U (Int.ofNat 0), U (Int.ofNat 0), U (Int.ofNat 0), U (Int.ofNat 0), U (Int.ofNat 0), U (Int.ofNat 0), U (Int.ofNat 0), U (Int.ofNat 0), U (Int.ofNat 0), U (Int.ofNat 0), U (Int.ofNat 0)] 61 0 0), some (.cells c 61 1 0)] else .fail 420 := by kernel_rfl

theorem rdE (r : Mem) (b off n cap i : Nat) (c : List Value) (fs : FnsC) (K : OV → List Nat → OO → CR) (kx : Nat → KS) (kr : KS) : run (SC r) 60144223229 57 1 RD_11 fs none (rbK 0 lvD [] K) kx kr [] (bT lvD (vD b off n cap i) .nil) [] (mkA [oRg z13 0, oRg c 1]) =
    bif true && (m_nns c && true) then K [some (.pointer (some ⟨0, 0, none⟩)), some (I (Int.ofNat n)), some (.pointer (some ⟨1, 0, none⟩)), some (.slice (some ⟨b, off, some 0⟩) n cap), some (I (Int.ofNat n)), some (I (IntKind.wrap .i64 (Int.ofNat i + Int.ofNat 1)))] [] [some (.cells [I (Int.ofNat 0), U (Int.ofNat 0), U (Int.ofNat 0), U (Int.ofNat 0), U (Int.ofNat 0), U (Int.ofNat 0), U (Int.ofNat 0), U (Int.ofNat 0), U (Int.ofNat 0), U (Int.ofNat 0), U (Int.ofNat 0), U (Int.ofNat 0), U (Int.ofNat 0)] 61 0 0), some (.cells c 61 1 0)] else .fail 420 := by kernel_rfl


theorem rdF (r : Mem) (c : List Value) (v : Bool) (K KR : OV → List Nat → OO → CR) (kx : Nat → KS) : run (SC r) 60144223229 57 1 RD_12 (lvlT (SC r) (tFair c v) .nil 1 1) none (rbK 0 [2, 3] [] K) kx (rbK 0 [2, 3] [] KR) [] (bT [2, 5] [some (pq 0), some (pq 1)] .nil) [] (mkA [oRg z13 0, oRg c 1]) =
    Option.casesOn c[0]? (.fail 423) fun val => bif isI IntKind.i64 val then Option.casesOn c[1]? (.fail 423) fun val_1 => bif isI IntKind.u64 val_1 then Option.casesOn c[2]? (.fail 423) fun val_2 => bif isI IntKind.u64 val_2 then Option.casesOn c[3]? (.fail 423) fun val_3 => bif isI IntKind.u64 val_3 then Option.casesOn c[4]? (.fail 423) fun val_4 => bif isI IntKind.u64 val_4 then Option.casesOn c[5]? (.fail 423) fun val_5 => bif isI IntKind.u64 val_5 then Option.casesOn c[6]? (.fail 423) fun val_6 => bif isI IntKind.u64 val_6 then Option.casesOn c[7]? (.fail 423) fun val_7 => bif isI IntKind.u64 val_7 then Option.casesOn c[8]? (.fail 423) fun val_8 => bif isI IntKind.u64 val_8 then Option.casesOn c[9]? (.fail 423) fun val_9 => bif isI IntKind.u64 val_9 then Option.casesOn c[10]? (.fail 423) fun val_10 => bif isI IntKind.u64 val_10 then Option.casesOn c[11]? (.fail 423) fun val_11 => bif isI IntKind.u64 val_11 then Option.casesOn c[12]? (.fail 423) fun val_12 => bif isI IntKind.u64 val_12 then bif m_svv [.agg ⟨[I (ofI val), U (ofI val_1), U (ofI val_2), U (ofI val_3), U (ofI val_4), U (ofI val_5), U (ofI val_6), U (ofI val_7), U (ofI val_8), U (ofI val_9), U (ofI val_10), U (ofI val_11), U (ofI val_12)]⟩] [.agg ⟨c⟩] then bif v then Option.casesOn c[0]? (.fail 423) fun val => bif isI IntKind.i64 val then Option.casesOn c[1]? (.fail 423) fun val_13 => bif isI IntKind.u64 val_13 then Option.casesOn c[2]? (.fail 423) fun val_14 => bif isI IntKind.u64 val_14 then Option.casesOn c[3]? (.fail 423) fun val_15 => bif isI IntKind.u64 val_15 then Option.casesOn c[4]? (.fail 423) fun val_16 => bif isI IntKind.u64 val_16 then Option.casesOn c[5]? (.fail 423) fun val_17 => bif isI IntKind.u64 val_17 then Option.casesOn c[6]? (.fail 423) fun val_18 => bif isI IntKind.u64 val_18 then Option.casesOn c[7]? (.fail 423) fun val_19 => bif isI IntKind.u64 val_19 then Option.casesOn c[8]? (.fail 423) fun val_20 => bif isI IntKind.u64 val_20 then Option.casesOn c[9]? (.fail 423) fun val_21 => bif isI IntKind.u64 val_21 then Option.casesOn c[10]? (.fail 423) fun val_22 => bif isI IntKind.u64 val_22 then Option.casesOn c[11]? (.fail 423) fun val_23 => bif isI IntKind.u64 val_23 then Option.casesOn c[12]? (.fail 423) fun val_24 => bif isI IntKind.u64 val_24 then KR [some (.pointer (some ⟨0, 0, none⟩)), some (I (Int.ofNat 0))] [] [some (.cells [I (ofI val), U (ofI val_13), U (ofI val_14), U (ofI val_15), U (ofI val_16), U (ofI val_17), U (ofI val_18), U (ofI val_19), U (ofI val_20), U (ofI val_21), U (ofI val_22), U (ofI val_23), U (ofI val_24)] 61 0 0)] else .fail 420 else .fail 420 else .fail 420 else .fail 420 else .fail 420 else .fail 420 else .fail 420 else .fail 420 else .fail 420 else .fail 420 else .fail 420 else .fail 420 else .fail 420 else KR [some (.pointer (some ⟨0, 0, none⟩)), some (I (Int.ofNat 50))] [] [some (.cells [I (Int.ofNat 0), U (Int.ofNat 0), U (Int.ofNat 0), U (Int.ofNat 0), U (Int.ofNat 0), U (Int.ofNat 0), U (Int.ofNat 0), U (Int.ofNat 0), U (Int.ofNat 0), U (Int.ofNat 0), U (Int.ofNat 0), U (Int.ofNat 0), U (Int.ofNat 0)] 61 0 0)] else .fail 420 else .fail 420 else .fail 420 else .fail 420 else .fail 420 else .fail 420 else .fail 420 else .fail 420 else .fail 420 else .fail 420 else .fail 420 else .fail 420 else .fail 420 else .fail 420 := by kernel_rfl


end Go.Proofs

/- A regatta is fair: run. -/
namespace Go.Proofs
open Go Go.Ev Go.Num
set_option linter.unusedVariables false
set_option linter.unusedSimpArgs false
set_option maxRecDepth 100000

noncomputable def cIF : Code := bodyOf S0 56
noncomputable def IF_0 : Code := (lc cIF)
noncomputable def IF_1 : Code := (lc (lc (rc cIF)))
noncomputable def IF_2 : Code := (lc (ic (ic (rc (lc (rc cIF))))))
noncomputable def IF_3 : Code := (lc (rc (ic (ic (rc (lc (rc cIF)))))))
noncomputable def IF_4 : Code := (lc (ic (lc (rc (rc (ic (ic (rc (lc (rc cIF))))))))))
noncomputable def IF_5 : Code := (lc (lc (rc (ic (lc (rc (rc (ic (ic (rc (lc (rc cIF))))))))))))
noncomputable def IF_6 : Code := (ic (ic (rc (lc (rc (ic (lc (rc (rc (ic (ic (rc (lc (rc cIF))))))))))))))
noncomputable def IF_7 : Code := (rc (rc (ic (lc (rc (rc (ic (ic (rc (lc (rc cIF)))))))))))
noncomputable def IF_8 : Code := (rc (rc (rc (ic (ic (rc (lc (rc cIF))))))))
noncomputable def IF_9 : Code := (rc (rc cIF))
theorem IF_eq : cIF = (.seq IF_0 (.seq (.seq IF_1 (.block 0 (.loop (.seq IF_2 (.seq IF_3 (.seq (.block 1 (.seq IF_4 (.seq (.seq IF_5 (.block 2 (.loop IF_6))) IF_7))) IF_8)))))) IF_9)) := by kernel_rfl
def vI3 (n i : Nat) : OV := [some (pq 0), some (I (n : Nat)), some (I (i : Nat))]
def vI6 (n i k : Nat) : OV := [some (pq 0), some (I (i : Nat)), some (I (n : Nat)), some (I (i : Nat)), some (I (i : Nat)), some (I (k : Nat))]

theorem ifA (r : Mem) (c : List Value) (fs : FnsC) (K : OV → List Nat → OO → CR) (kx : Nat → KS) (kr : KS) : run (SC r) 3295 35 1 (.seq IF_0 IF_1) fs none (rbK 0 [1, 6, 7] [] K) kx kr (sc0 3295 [.agg ⟨c⟩]) (tr0 3295 [.agg ⟨c⟩]) [] emptyA =
    Option.casesOn c[0]? (.fail 423) fun val => bif isI IntKind.i64 val then bif m_nns c && true then K [some (.pointer (some ⟨0, 0, none⟩)), some (I (ofI val)), some (I (Int.ofNat 0))] [] [some (.cells c 61 0 0)] else .fail 420 else .fail 420 := by kernel_rfl

theorem ifB (r : Mem) (n i : Nat) (c : List Value) (fs : FnsC) (K : OV → List Nat → OO → CR) (KX : Nat → OV → List Nat → OO → CR) (kr : KS) : run (SC r) 3295 35 1 (.seq IF_2 IF_3) fs none (rbK 0 [1, 6, 7] [] K) (fun j => rbK 0 [] [] (KX j)) kr [] (bT [1, 6, 7] (vI3 n i) .nil) [] (mkA [oRg c 0]) =
    bif decide (Int.ofNat i < Int.ofNat n) then bif m_nns c && true then K [some (.pointer (some ⟨0, 0, none⟩)), some (I (Int.ofNat n)), some (I (Int.ofNat i))] [] [some (.cells c 61 0 0)] else .fail 420 else KX 0 [] [] [] := by kernel_rfl

theorem ifD (r : Mem) (n i : Nat) (c : List Value) (fs : FnsC) (K : OV → List Nat → OO → CR) (kx : Nat → KS) (kr : KS) : run (SC r) 3295 35 1 (.seq IF_4 IF_5) fs none (rbK 0 [1, 3, 6, 7, 10, 11] [] K) kx kr [] (bT [1, 6, 7] (vI3 n i) .nil) [] (mkA [oRg c 0]) =
    bif m_nns c && true then K [some (.pointer (some ⟨0, 0, none⟩)), some (I (Int.ofNat i)), some (I (Int.ofNat n)), some (I (Int.ofNat i)), some (I (Int.ofNat i)), some (I (Int.ofNat 0))] [] [some (.cells c 61 0 0)] else .fail 420 := by kernel_rfl

theorem ifE (r : Mem) (n i k : Nat) (c : List Value) (K : OV → List Nat → OO → CR) (KX : Nat → OV → List Nat → OO → CR) (KR : OV → List Nat → OO → CR) : run (SC r) 3295 35 1 IF_6 (lvlT (SC r) (fun _ => none) .nil 1 2) none (rbK 0 [1, 3, 6, 7, 10, 11] [] K) (fun j => rbK 0 [1, 3, 6, 7] [] (KX j)) (rbK 0 [2] [] KR) [] (bT [1, 3, 6, 7, 10, 11] (vI6 n i k) .nil) [] (mkA [oRg c 0]) =
    bif decide (Int.ofNat k < Int.ofNat i) then bif Nat.blt (Int.toNat (Int.ofNat i)) 12 then Option.casesOn c[Nat.add 1 (Nat.mul (Int.toNat (Int.ofNat i)) 1)]? (.fail 423) fun val => bif isI IntKind.u64 val then bif ibits BinOp.and IntKind.u64 (Int.fdiv (ofI val) (Int.ofNat 2 ^ min (Int.toNat (Int.ofNat k)) 64)) (Int.ofNat 1) == Int.ofNat 1 then bif Nat.blt (Int.toNat (Int.ofNat k)) 12 then Option.casesOn c[Nat.add 1 (Nat.mul (Int.toNat (Int.ofNat k)) 1)]? (.fail 423) fun val_1 => bif isI IntKind.u64 val_1 then bif ibits BinOp.and IntKind.u64 (Int.fdiv (ofI val_1) (Int.ofNat 2 ^ min (Int.toNat (Int.ofNat i)) 64)) (Int.ofNat 1) == Int.ofNat 1 then Option.casesOn c[Nat.add 1 (Nat.mul (Int.toNat (Int.ofNat k)) 1)]? (.fail 423) fun val_2 => bif isI IntKind.u64 val_2 then bif m_eqv (.int .u64 (ofI val_2)) (.int .u64 (ofI val_1)) then Option.casesOn c[Nat.add 1 (Nat.mul (Int.toNat (Int.ofNat k)) 1)]? (.fail 423) fun val_3 => bif isI IntKind.u64 val_3 then bif m_eqv (.int .u64 (ofI val_3)) (.int .u64 (ofI val_1)) then Option.casesOn c[Nat.add 1 (Nat.mul (Int.toNat (Int.ofNat i)) 1)]? (.fail 423) fun val_4 => bif isI IntKind.u64 val_4 then bif m_eqv (.int .u64 (ofI val_4)) (.int .u64 (ofI val)) then KR [some (.bool false)] [] [] else .fail 420 else .fail 420 else .fail 420 else .fail 420 else .fail 420 else .fail 420 else Option.casesOn c[Nat.add 1 (Nat.mul (Int.toNat (Int.ofNat k)) 1)]? (.fail 423) fun val_2 => bif isI IntKind.u64 val_2 then bif m_eqv (.int .u64 (ofI val_2)) (.int .u64 (ofI val_1)) then Option.casesOn c[Nat.add 1 (Nat.mul (Int.toNat (Int.ofNat k)) 1)]? (.fail 423) fun val_3 => bif isI IntKind.u64 val_3 then bif m_eqv (.int .u64 (ofI val_3)) (.int .u64 (ofI val_1)) then Option.casesOn c[Nat.add 1 (Nat.mul (Int.toNat (Int.ofNat i)) 1)]? (.fail 423) fun val_4 => bif isI IntKind.u64 val_4 then bif m_eqv (.int .u64 (ofI val_4)) (.int .u64 (ofI val)) then bif m_nns c && true then K [some (.pointer (some ⟨0, 0, none⟩)), some (I (Int.ofNat i)), some (I (Int.ofNat n)), some (I (Int.ofNat i)), some (I (Int.ofNat i)), some (I (IntKind.wrap .i64 (Int.ofNat k + Int.ofNat 1)))] [] [some (.cells c 61 0 0)] else .fail 420 else .fail 420 else .fail 420 else .fail 420 else .fail 420 else .fail 420 else .fail 420 else .fail 420 else .fail 420 else bif Nat.blt (Int.toNat (Int.ofNat k)) 12 then Option.casesOn c[Nat.add 1 (Nat.mul (Int.toNat (Int.ofNat k)) 1)]? (.fail 423) fun val_1 => bif isI IntKind.u64 val_1 then bif ibits BinOp.and IntKind.u64 (Int.fdiv (ofI val_1) (Int.ofNat 2 ^ min (Int.toNat (Int.ofNat i)) 64)) (Int.ofNat 1) == Int.ofNat 1 then Option.casesOn c[Nat.add 1 (Nat.mul (Int.toNat (Int.ofNat k)) 1)]? (.fail 423) fun val_2 => bif isI IntKind.u64 val_2 then bif m_eqv (.int .u64 (ofI val_2)) (.int .u64 (ofI val_1)) then Option.casesOn c[Nat.add 1 (Nat.mul (Int.toNat (Int.ofNat k)) 1)]? (.fail 423) fun val_3 => bif isI IntKind.u64 val_3 then bif m_eqv (.int .u64 (ofI val_3)) (.int .u64 (ofI val_1)) then Option.casesOn c[Nat.add 1 (Nat.mul (Int.toNat (Int.ofNat i)) 1)]? (.fail 423) fun val_4 => bif isI IntKind.u64 val_4 then bif m_eqv (.int .u64 (ofI val_4)) (.int .u64 (ofI val)) then bif m_nns c && true then K [some (.pointer (some ⟨0, 0, none⟩)), some (I (Int.ofNat i)), some (I (Int.ofNat n)), some (I (Int.ofNat i)), some (I (Int.ofNat i)), some (I (IntKind.wrap .i64 (Int.ofNat k + Int.ofNat 1)))] [] [some (.cells c 61 0 0)] else .fail 420 else .fail 420 else .fail 420 else .fail 420 else .fail 420 else .fail 420 else .fail 420 else Option.casesOn c[Nat.add 1 (Nat.mul (Int.toNat (Int.ofNat k)) 1)]? (.fail 423) fun val_2 => bif isI IntKind.u64 val_2 then bif m_eqv (.int .u64 (ofI val_2)) (.int .u64 (ofI val_1)) then Option.casesOn c[Nat.add 1 (Nat.mul (Int.toNat (Int.ofNat k)) 1)]? (.fail 423) fun val_3 => bif isI IntKind.u64 val_3 then bif m_eqv (.int .u64 (ofI val_3)) (.int .u64 (ofI val_1)) then Option.casesOn c[Nat.add 1 (Nat.mul (Int.toNat (Int.ofNat i)) 1)]? (.fail 423) fun val_4 => bif isI IntKind.u64 val_4 then bif m_eqv (.int .u64 (ofI val_4)) (.int .u64 (ofI val)) then KR [some (.bool false)] [] [] else .fail 420 else .fail 420 else .fail 420 else .fail 420 else .fail 420 else .fail 420 else .fail 420 else .fail 420 else .fail 420 else .fail 420 else bif m_nns c && true then KX 2 [some (.pointer (some ⟨0, 0, none⟩)), some (I (Int.ofNat i)), some (I (Int.ofNat n)), some (I (Int.ofNat i))] [] [some (.cells c 61 0 0)] else .fail 420 := by kernel_rfl

theorem ifF (r : Mem) (n i : Nat) (c : List Value) (K : OV → List Nat → OO → CR) (kx : Nat → KS) (KR : OV → List Nat → OO → CR) : run (SC r) 3295 35 1 IF_7 (lvlT (SC r) (fun _ => none) .nil 1 2) none (rbK 0 [1, 6, 7] [] K) kx (rbK 0 [2] [] KR) [] (bT [1, 3, 6, 7] [some (pq 0), some (I (i : Nat)), some (I (n : Nat)), some (I (i : Nat))] .nil) [] (mkA [oRg c 0]) =
    bif Nat.blt (Int.toNat (Int.ofNat i)) 12 then Option.casesOn c[Nat.add 1 (Nat.mul (Int.toNat (Int.ofNat i)) 1)]? (.fail 423) fun val => bif isI IntKind.u64 val then bif ibits BinOp.and IntKind.u64 (Int.fdiv (ofI val) (Int.ofNat 2 ^ min (Int.toNat (Int.ofNat i)) 64)) (Int.ofNat 1) == Int.ofNat 1 then KR [some (.bool false)] [] [] else bif m_nns c && true then K [some (.pointer (some ⟨0, 0, none⟩)), some (I (Int.ofNat n)), some (I (Int.ofNat i))] [] [some (.cells c 61 0 0)] else .fail 420 else .fail 420 else .fail 420 := by kernel_rfl

theorem ifG (r : Mem) (n i : Nat) (c : List Value) (fs : FnsC) (K : OV → List Nat → OO → CR) (kx : Nat → KS) (kr : KS) : run (SC r) 3295 35 1 IF_8 fs none (rbK 0 [1, 6, 7] [] K) kx kr [] (bT [1, 6, 7] (vI3 n i) .nil) [] (mkA [oRg c 0]) =
    bif m_nns c && true then K [some (.pointer (some ⟨0, 0, none⟩)), some (I (Int.ofNat n)), some (I (IntKind.wrap .i64 (Int.ofNat i + Int.ofNat 1)))] [] [some (.cells c 61 0 0)] else .fail 420 := by kernel_rfl

theorem ifH (r : Mem) (fs : FnsC) (K KR : OV → List Nat → OO → CR) (kx : Nat → KS) : run (SC r) 3295 35 1 IF_9 fs none (rbK 0 [2] [] K) kx (rbK 0 [2] [] KR) [] (bT [] [] .nil) [] (mkA []) =
    KR [some (.bool true)] [] [] := by kernel_rfl


end Go.Proofs

/- The reference's size of a set, run. -/
set_option linter.unusedVariables false
set_option linter.unusedSimpArgs false
namespace Go.Proofs
open Go Go.Ev

end Go.Proofs

/- The reference's size of a set: what the call answers. -/
set_option linter.unusedVariables false
set_option linter.unusedSimpArgs false
namespace Go.Num

def popN : Nat → Nat → Nat
 | 0, _ => 0
 | f + 1, m => if m = 0 then 0 else m % 2 + popN f (m / 2)
theorem popN_le : ∀ f m, popN f m ≤ f
 | 0, _ => Nat.le_refl _
 | f + 1, m => by
  rw [popN]
  have := popN_le f (m / 2)
  split <;> omega
theorem popN_zero (f : Nat) : popN f 0 = 0 := by cases f <;> rfl

end Go.Num
namespace Go.Proofs
open Go Go.Ev Go.Num

theorem shr_nat (m i : Nat) (h : i ≤ 64) : Int.fdiv (m : Int) (Int.ofNat 2 ^ min i 64) = ((m / 2 ^ i : Nat) : Int) := by
 rw [Nat.min_eq_left h, Int.fdiv_eq_ediv_of_nonneg _ (by exact Int.pow_nonneg (by decide))]
 have : (Int.ofNat 2 ^ i : Int) = ((2 ^ i : Nat) : Int) := by simp
 rw [this]
 exact (Int.natCast_ediv m (2 ^ i)).symm

abbrev P0 (i : Nat) : Value := .pointer (some ⟨i, 0, none⟩)
def eU1 (g : Int → Bool) (v : Int → Value) : Ent := ent (fun args _ => match args with | [.int .u64 a] => g a | _ => false) (fun args _ => match args with | [.int .u64 a] => v a | _ => undef)
theorem eU1_ok {C : Cfg} {f : Nat} {g : Int → Bool} {v : Int → Value} (h : ∀ a, g a = true → GrT C.P C.ro f [.int .u64 a] (v a)) : EOk C f (eU1 g v) := EOk.ent fun args A hg => by
 split at hg
 ·exact (h _ hg).ro rfl A
 ·cases hg

end Go.Proofs

/- Tables as words. Mathematics. -/
namespace Go.Proofs
open Go Go.Ev Go.Num
set_option linter.unusedVariables false
set_option linter.unusedSimpArgs false

def wdR (T : List (List Bool)) (v : Nat) : Nat → Nat
 | 0 => 0
 | k + 1 => if gT T v k then wdR T v k ||| 2 ^ k else wdR T v k
theorem wdR_lt (T : List (List Bool)) (v : Nat) : ∀ k, wdR T v k < 2 ^ k
 | 0 => by simp [wdR]
 | k + 1 => by
  have h := wdR_lt T v k
  have h2 : wdR T v k < 2 ^ (k + 1) := Nat.lt_of_lt_of_le h (Nat.pow_le_pow_right (by decide) (by omega))
  rw [wdR]
  split
  ·exact Nat.or_lt_two_pow h2 (Nat.pow_lt_pow_right (by decide) (by omega))
  ·exact h2
theorem wdR_bit (T : List (List Bool)) (v : Nat) : ∀ k j, (wdR T v k).testBit j = (decide (j < k) && gT T v j)
 | 0, j => by simp [wdR]
 | k + 1, j => by
  have ih := wdR_bit T v k j
  rw [wdR]
  by_cases c : gT T v k = true
  ·rw [if_pos c, Nat.testBit_or, ih, Nat.testBit_two_pow]
   by_cases e : k = j
   ·subst e; simp [c]
   ·by_cases h : j < k
    ·simp [h, e, show j < k + 1 by omega]
    ·simp [h, e, show ¬ j < k + 1 by omega]
  ·rw [if_neg c, ih]
   by_cases e : k = j
   ·subst e; simp at c; simp [c]
   ·by_cases h : j < k
    ·simp [h, show j < k + 1 by omega]
    ·simp [h, show ¬ j < k + 1 by omega]
def wdP (T : List (List Bool)) (i k : Nat) (j : Nat) : Nat := if j < i then wdR T j T.length else if j = i then wdR T j k else 0
theorem wdP_next (T : List (List Bool)) (i : Nat) : wdP T i T.length = wdP T (i + 1) 0 := funext fun j => by
 unfold wdP
 by_cases h : j < i
 ·rw [if_pos h, if_pos (by omega)]
 ·by_cases e : j = i
  ·subst e
   rw [if_neg (by omega), if_pos rfl, if_pos (by omega)]
  ·rw [if_neg h, if_neg e, if_neg (by omega)]
   by_cases e2 : j = i + 1
   ·rw [if_pos e2]; rfl
   ·rw [if_neg e2]
theorem wdP_lt {T : List (List Bool)} (hT : T.length ≤ 12) {i k : Nat} (hk : k ≤ 12) (j : Nat) : wdP T i k j < 4096 := by
 have h1 := wdR_lt T j T.length
 have h2 := wdR_lt T j k
 have h3 : 2 ^ T.length ≤ 2 ^ 12 := Nat.pow_le_pow_right (by decide) hT
 have h4 : 2 ^ k ≤ 2 ^ 12 := Nat.pow_le_pow_right (by decide) hk
 unfold wdP
 split
 ·omega
 ·split
  ·omega
  ·omega
def rgC (n : Nat) (w : Nat → Nat) : List Value := I (n : Nat) :: (List.range 12).map fun j => U ((w j : Nat) : Int)
theorem rgC_len (n : Nat) (w : Nat → Nat) : (rgC n w).length = 13 := rfl
theorem rgC_get {n : Nat} {w : Nat → Nat} {j : Nat} (h : j < 12) : (rgC n w)[1 + j]? = some (U ((w j : Nat) : Int)) := by
 unfold rgC
 rw [show 1 + j = j + 1 by omega, List.getElem?_cons_succ, List.getElem?_map, List.getElem?_range h]
 rfl
theorem rgC_set {n : Nat} {w : Nat → Nat} {i x : Nat} (h : i < 12) : (rgC n w).set (1 + i) (U ((x : Nat) : Int)) = rgC n fun j => if j = i then x else w j := by
 unfold rgC
 rw [show 1 + i = i + 1 by omega, List.set_cons_succ]
 congr 1
 apply List.ext_getElem
 ·simp
 ·intro k h1 h2
  rw [List.getElem_set]
  by_cases c : i = k
  ·subst c; simp
  ·rw [if_neg c]
   have : ¬ k = i := fun e => c e.symm
   simp [this]
theorem rgC_nn (n : Nat) (w : Nat → Nat) : m_nns (rgC n w) = true := rfl
theorem rgC_ext {n : Nat} {w w' : Nat → Nat} (h : ∀ j, j < 12 → w j = w' j) : rgC n w = rgC n w' := by
 unfold rgC
 congr 1
 exact List.map_congr_left fun j hj => by rw [h j (by simpa using hj)]
theorem has_bit {w k : Nat} (hw : w < 4096) (hk : k ≤ 16) : (ibits BinOp.and IntKind.u64 (Int.fdiv ((w : Nat) : Int) (Int.ofNat 2 ^ min k 64)) (Int.ofNat 1) == Int.ofNat 1) = w.testBit k := by
 rw [shr_nat w k (by omega)]
 have h1 : w / 2 ^ k < 18446744073709551616 := Nat.lt_of_le_of_lt (Nat.div_le_self _ _) (by omega)
 have h2 := (uO h1 (show 1 < 18446744073709551616 by decide)).2.1
 rw [show (Int.ofNat 1 : Int) = ((1 : Nat) : Int) from rfl, h2, Nat.and_one_is_mod, Nat.testBit_eq_decide_div_mod_eq]
 by_cases c : w / 2 ^ k % 2 = 1
 ·rw [c]; rfl
 ·rw [show w / 2 ^ k % 2 = 0 by omega]; rfl

/-! ### fair -/
def ifR (T : List (List Bool)) (v : Nat) : Nat → Bool
 | 0 => true
 | w + 1 => ifR T v w && !(gT T v w == gT T w v)
def ifO (T : List (List Bool)) : Nat → Bool
 | 0 => true
 | v + 1 => ifO T v && (ifR T v v && !gT T v v)
theorem ifR_all {T : List (List Bool)} {v : Nat} : ∀ {m : Nat}, ifR T v m = true ↔ ∀ w, w < m → (gT T v w == gT T w v) = false
 | 0 => ⟨fun _ w h => by omega, fun _ => rfl⟩
 | m + 1 => by
  rw [ifR, Bool.and_eq_true, ifR_all (m := m), Bool.not_eq_true']
  exact ⟨fun ⟨h1, h2⟩ w hw => by
   by_cases e : w = m
   ·rw [e]; exact h2
   ·exact h1 w (by omega), fun h => ⟨fun w hw => h w (by omega), h m (by omega)⟩⟩
theorem ifO_all {T : List (List Bool)} : ∀ {m : Nat}, ifO T m = true ↔ ∀ v, v < m → (∀ w, w < v → (gT T v w == gT T w v) = false) ∧ gT T v v = false
 | 0 => ⟨fun _ w h => by omega, fun _ => rfl⟩
 | m + 1 => by
  rw [ifO, Bool.and_eq_true, Bool.and_eq_true, ifO_all (m := m), ifR_all, Bool.not_eq_true']
  exact ⟨fun ⟨h1, h2, h3⟩ v hv => by
   by_cases e : v = m
   ·rw [e]; exact ⟨h2, h3⟩
   ·exact h1 v (by omega), fun h => ⟨fun v hv => h v (by omega), (h m (by omega)).1, (h m (by omega)).2⟩⟩
theorem rowB_all {T : List (List Bool)} {i : Nat} : ∀ {m : Nat}, rowB T i m = true ↔ ∀ k, k < m → badP T i k = false
 | 0 => ⟨fun _ w h => by omega, fun _ => rfl⟩
 | m + 1 => by
  rw [rowB, Bool.and_eq_true, rowB_all (m := m), Bool.not_eq_true']
  exact ⟨fun ⟨h1, h2⟩ w hw => by
   by_cases e : w = m
   ·rw [e]; exact h2
   ·exact h1 w (by omega), fun h => ⟨fun w hw => h w (by omega), h m (by omega)⟩⟩
theorem fairB_all {T : List (List Bool)} : ∀ {m : Nat}, fairB T m = true ↔ ∀ i, i < m → ∀ k, k < T.length → badP T i k = false
 | 0 => ⟨fun _ w h => by omega, fun _ => rfl⟩
 | m + 1 => by
  rw [fairB, Bool.and_eq_true, fairB_all (m := m), rowB_all]
  exact ⟨fun ⟨h1, h2⟩ v hv => by
   by_cases e : v = m
   ·rw [e]; exact h2
   ·exact h1 v (by omega), fun h => ⟨fun v hv => h v (by omega), h m (by omega)⟩⟩
theorem if_fair (T : List (List Bool)) : ifO T T.length = fairB T T.length := by
 have key : ifO T T.length = true ↔ fairB T T.length = true := by
  rw [ifO_all, fairB_all]
  have sym : ∀ a b : Bool, (a == b) = (b == a) := fun a b => by cases a <;> cases b <;> rfl
  constructor
  ·intro h i hi k hk
   unfold badP
   by_cases e : i = k
   ·rw [if_pos e, ← e]; exact (h i hi).2
   ·rw [if_neg e]
    by_cases c : k < i
    ·exact (h i hi).1 k c
    ·rw [sym]; exact (h k hk).1 i (by omega)
  ·intro h v hv
   refine ⟨fun w hw => ?_, ?_⟩
   ·have := h v hv w (by omega)
    unfold badP at this
    rwa [if_neg (by omega)] at this
   ·have := h v hv v hv
    unfold badP at this
    rwa [if_pos rfl] at this
 cases h1 : ifO T T.length with
 | true => exact (key.1 h1).symm
 | false =>
  cases h2 : fairB T T.length with
  | false => rfl
  | true => rw [key.2 h2] at h1; cases h1

end Go.Proofs

