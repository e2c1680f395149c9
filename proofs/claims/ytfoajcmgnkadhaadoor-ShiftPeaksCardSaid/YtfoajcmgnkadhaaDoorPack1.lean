/- What the claim is proved with, part 1: the evaluator and the contracts of the calls. -/
import Derived.Test.YtfoajcmgnkadhaaDoorSymBase
import Derived.Test.YtfoajcmgnkadhaaDoorEvMemOf
import Derived.Test.YtfoajcmgnkadhaaDoorRows
import Derived.FnData
import Derived.MakeChecks
import Derived.IntWalk
/- The table of math/bits, as memory. -/
namespace Go.Proofs
open Go Go.Ev
set_option linter.unusedVariables false
set_option linter.unusedSimpArgs false

def u8s (l : List Nat) : List Value := l.map fun n => .int .u8 (Int.ofNat n)
def tab32 : List Nat := [0, 1, 28, 2, 29, 14, 24, 3, 30, 22, 20, 15, 25, 17, 4, 8, 31, 27, 13, 23, 21, 19, 16, 7, 26, 12, 18, 6, 11, 5, 10, 9]

def memL (l : List Value) : Nat → Option Value := fun j => l[j]?
def tabM : Mem := fun b j => match Nat.beq b 0 with
 | true => memL (u8s tab32) j
 | false => none

theorem _root_.Go.Ev.GrT.more {P : Program} {r r' : Mem} {f : Nat} {args : List Value} {v : Value} (h : GrT P r f args v) (hle : ∀ b j u, r b j = some u → r' b j = some u) : GrT P r' f args v :=
 ⟨h.1, fun F hF k W args' hR ha => h.2 F hF k W args' (fun b j u e => hR b j u (hle b j u e)) ha⟩

end Go.Proofs

/- What the listed package variables hold, as memory: from the row's premise to the memory that came in. -/
namespace Go.Proofs
open Go Go.Ev
set_option linter.unusedVariables false
set_option linter.unusedSimpArgs false

theorem tab_cells {H : Type} {enc : TypeId × Value → H} {P : Program} {w : World} {base fuel : Nat} {spare : Nat → Bool} {held : Bool} {t e : TypeId} {n : Nat} {k : IntKind} {cs : List Value} {l : List Int} {p : List MemPlace}
  (ht : P.underlying t = some (.array n e)) (he : P.underlying e = some (.int k)) (ce : P.cellsOf e = 1)
  (h : DataW.trod enc P w base spare held fuel t cs = some (.agg (l.map fun z => .lit (.int k z)), p)) : ∀ (j : Nat) (z : Int), l[j]? = some z → cs[j]? = some (Value.int k z) := by
 obtain ⟨xs, m, _, hx, _, hl, hel⟩ := DataW.trod_array ht h
 have h1 : l.map (fun z => (DataW.lit (.int k z) : DataW H)) = xs.map (·.1) := by
  have := congrArg Prod.fst hx
  simpa using this
 intro j z hz
 have hlen : l.length = xs.length := by
  have := congrArg List.length h1
  simpa using this
 have hj : j < l.length := (List.getElem?_eq_some_iff.1 hz).1
 have h3 := hel j (by omega)
 rw [ce, Nat.mul_one] at h3
 have hxj : xs[j]? = some xs[j] := List.getElem?_eq_getElem (by omega)
 rw [hxj] at h3
 obtain ⟨s, h4, h5, _⟩ := DataW.trod_int he h3
 have h6 : (l.map (fun z => (DataW.lit (.int k z) : DataW H)))[j]? = (xs.map (·.1))[j]? := by rw [h1]
 simp only [List.getElem?_map, hz, hxj, Option.map_some, h5, Option.some.injEq, DataW.lit.injEq, Lit.int.injEq, true_and] at h6
 subst h6
 have h7 := congrArg (fun l : List Value => l[0]?) h4
 simp only [List.getElem?_cons_zero] at h7
 rw [List.getElem?_take_of_lt (by omega), List.getElem?_drop] at h7
 simpa using h7

theorem tab_mem {P : Program} {w : World} {n : String} {g : Nat} {cs : Array Value} {k : IntKind} (hg : P.globalNamed n = some g) (hv : w.var? P n = some cs) {l : List Int} (h : ∀ (j : Nat) (z : Int), l[j]? = some z → cs.toList[j]? = some (Value.int k z)) :
  ∀ (j : Nat) (z : Int), l[j]? = some z → memOf w g j = some (Value.int k z) := fun j z hz => memOf_int (by
 rw [World.var?_cell hg hv j]
 have := h j z hz
 simpa using this)

theorem laid_32 {W : World} {g t f : Nat} {cs : Array Value} {p : List MemPlace} (a1 : Tryd.prog.globalNamed "math/bits.deBruijn32tab" = some g) (a2 : (Tryd.prog.globals[g]?).map (·.type) = some t) (a3 : W.var? Tryd.prog "math/bits.deBruijn32tab" = some cs)
  (a4 : DataW.trod (fun _ => ()) Tryd.prog W 0 (fun _ => true) false f t cs.toList = some (YtfoajcmgnkadhaaDoor.Rows.laid_math_bits_deBruijn32tab, p)) : ∀ j u, memL (u8s tab32) j = some u → memOf W 0 j = some u := by
 have hg : Tryd.prog.globalNamed "math/bits.deBruijn32tab" = some 0 := by kernel_rfl
 obtain rfl := Option.some.inj (hg.symm.trans a1)
 obtain rfl := Option.some.inj ((show (Tryd.prog.globals[0]?).map (·.type) = some 115 by kernel_rfl).symm.trans a2)
 have h1 := tab_cells (l := tab32.map Int.ofNat) (k := .u8) (t := 115) (n := 32) (e := 5) (by kernel_rfl) (by kernel_rfl) (by kernel_rfl) (a4.trans (by rfl))
 intro j u hu
 simp only [memL, u8s, List.getElem?_map, Option.map_eq_some_iff] at hu
 obtain ⟨z, hz, rfl⟩ := hu
 exact tab_mem hg a3 h1 j _ (by simp [List.getElem?_map, hz])

theorem laid_mem {W : World} {x : String × DataW Unit} (hx : x = ("math/bits.deBruijn32tab", YtfoajcmgnkadhaaDoor.Rows.laid_math_bits_deBruijn32tab)) (hL : laidMetH Tryd.prog [x] W) : ∀ b j u, tabM b j = some u → memOf W b j = some u := by
 subst hx
 rw [MakeChecks.laidMetH_plain _ _ _ (by kernel_rfl)] at hL
 obtain ⟨ps, ⟨g1, t1, c1, f1, p1, q1, a1, a2, a3, a4, _, _⟩, _⟩ := hL
 intro b j u h
 unfold tabM at h
 split at h
 ·rename_i hb
  have := Nat.eq_of_beq_eq_true hb
  subst this
  exact laid_32 a1 a2 a3 a4 j u h
 ·cases h

end Go.Proofs

/- A slice among the arguments: nil, or a row that came in (an empty one, too). -/
set_option linter.unusedVariables false
set_option linter.unusedSimpArgs false
namespace Go.Ev
open Go

inductive ArgRowT (r : Mem) (n : Nat) (p : Value → Prop) : Value → Prop
 | nil : ArgRowT r n p (.slice none 0 0)
 | row (b off len cap : Nat) (hl : len ≤ cap) (hc : cap ≤ maxLen) (h : ∀ i, i < cap * n → ∃ u, r b (off + i) = some u ∧ p u) : ArgRowT r n p (.slice (some ⟨b, off, some 0⟩) len cap)

theorem okWide_spot {P : Program} {w : World} {r : Go.Reach} {base : Nat} {t e : TypeId} {x : Addr} {len cap : Nat} (ht : P.underlying t = some (.slice e)) (h : Value.okWide P w r base t (.slice (some x) len cap)) : x.spot = none := by
 simp only [Value.okWide, ht, Cell.okWide, Cell.ok] at h
 exact h.2.2.2.1

section
variable {H : Type} {enc : TypeId × Value → H} {P : Program} {w : World} {base : Nat} {held : Bool}

theorem in_rowT {t e : TypeId} {n : Nat} {p : Value → Prop} {v : Value} {d : DataW H} {ps : List MemPlace} (hn : 0 < n) (ht : P.underlying t = some (.slice e)) (ce : P.cellsOf e = n) (hel : El enc P w base held e n p)
  {b0 : Nat} (hval : Value.okWide P w .any b0 t v) (h : DataW.Trod enc P w base (fun _ => true) held t v d ps) : ∃ u, VRel noG u v ∧ ArgRowT (memOf w) n p u := by
 obtain ⟨u, hu, hs⟩ := in_row hn ht ce hel hval h
 obtain ⟨a, len, cap, rfl⟩ := Go.WideShapes.okWide_slice ht hval
 cases hs with
 | nil => exact ⟨_, hu, .nil⟩
 | row b off len cap hl hc h => exact ⟨_, hu, .row b off len cap hl hc h⟩
 | empty =>
  obtain ⟨fuel, hf⟩ := h
  rcases Go.Deep.open_slice ht hf with ⟨h0, _⟩ | ⟨a', len', cap', m, n', D, Pl, h0, _, hl, hm, hmm, _, hx⟩
  ·simp [Value.cells] at h0
   obtain ⟨rfl, rfl, rfl⟩ := h0
   exact ⟨_, .sliceNil, .nil⟩
  ·simp [Value.cells] at h0
   obtain ⟨rfl, rfl, rfl⟩ := h0
   have hsp := okWide_spot ht hval
   obtain ⟨b, off, s⟩ := a'
   subst hsp
   have hlen : len = 0 := by
    cases hu with
    | sliceE => rfl
    | slice _ _ _ _ hg => cases hg
   subst hlen
   exact ⟨_, .sliceRo b off 0 0 0 cap (by decide) (Nat.zero_le _), .row b off 0 0 (Nat.le_refl _) (Nat.zero_le _) fun i hi => by omega⟩

end

end Go.Ev

/- Rules for loops. -/
set_option linter.unusedVariables false
set_option linter.unusedSimpArgs false
namespace Go.Proofs
open Go Go.Ev

theorem fnsSC (r : Mem) : (SC r).fns = S0.fns := by unfold SC Cfg.sym; rfl
theorem bodySC (r : Mem) (f : Nat) : bodyOf (SC r) f = bodyOf S0 f := by unfold bodyOf; rw [fnsSC]

theorem enterN {r : Mem} {t : Tbl} {ms : Tr Nat} {L d f m n : Nat} {args : List Value} {A : AW} {k : KV} {rs : List ResultVar} (c : Code) (hc : c = bodyOf S0 f) (hb : hasBody (SC r) f = true) (hn : ntm (SC r) f = n) (hm : maskFor ms f n = m) (hr : resOf (SC r) f = rs)
  (hl : Nat.ble args.length n = true) (ht : t f = none) :
  (lvlT (SC r) t ms L (d + 1)).call f args A k = run (SC r) m n L c (lvlT (SC r) t ms L d) none (finK (SC r) m rs k) kx242 (finK (SC r) m rs k) (sc0 m args) (tr0 m args) [] A := by
 rw [enter hb hn hm hr hl ht, bodySC, ← hc]

theorem fn_of {C : Cfg} {f : Nat} (h : hasBody C f = true) : ∃ fn, C.fns.get f = some fn ∧ fn.body = some (bodyOf C f) ∧ fn.ntmps = ntm C f ∧ fn.results.toList = resOf C f := by
 unfold hasBody at h
 unfold bodyOf ntm resOf
 split at h
 ·rename_i fn hfn
  split at h
  ·rename_i c hc
   exact ⟨fn, hfn, by simp only [hfn, hc], by simp only [hfn], by simp only [hfn]⟩
  ·cases h
 ·cases h

theorem seqA {C : Cfg} {m n L : Nat} (a b d : Code) : run C m n L (.seq a (.seq b d)) = run C m n L (.seq (.seq a b) d) := rfl

theorem run_while {C : Cfg} {m n L : Nat} {fs : FnsC} {ro : Option Nat} {kn : KS} {kx : Nat → KS} {kr : KS} (a b d : Code) (id : Nat) : run C m n L (.seq a (.seq (.block id (.loop b)) d)) fs ro kn kx kr =
  run C m n L a fs ro (cLoop (fun kl => run C m n L b fs ro kl (fun j => match Nat.beq j id with | true => run C m n L d fs ro kn kx kr | false => kx j) kr) L) kx kr := rfl
theorem run_while0 {C : Cfg} {m n L : Nat} {fs : FnsC} {ro : Option Nat} {kn : KS} {kx : Nat → KS} {kr : KS} (a b : Code) (id : Nat) : run C m n L (.seq a (.block id (.loop b))) fs ro kn kx kr =
  run C m n L a fs ro (cLoop (fun kl => run C m n L b fs ro kl (fun j => match Nat.beq j id with | true => kn | false => kx j) kr) L) kx kr := rfl

theorem run_pre {C : Cfg} {m n L : Nat} (a b d e : Code) : run C m n L (.seq a (.seq (.seq b d) e)) = run C m n L (.seq (.seq a b) (.seq d e)) := rfl

theorem beqD (a b : Int) : (a == b) = decide (a = b) := by by_cases h : a = b <;> simp [h]

theorem dT {p : Prop} [Decidable p] (h : p) : decide p = true := decide_eq_true h
theorem dF {p : Prop} [Decidable p] (h : ¬ p) : decide p = false := decide_eq_false h
theorem eqT {a b : Int} (h : a = b) : (a == b) = true := by simp [h]
theorem eqF {a b : Int} (h : a ≠ b) : (a == b) = false := by simp [h]
theorem neT {a b : Int} (h : a ≠ b) : (a != b) = true := by simp [h]
theorem neF {a b : Int} (h : a = b) : (a != b) = false := by simp [h]
theorem wrI {z : Int} (h : -9223372036854775808 ≤ z ∧ z ≤ 9223372036854775807) : IntKind.wrap .i64 z = z := IntWalk.i64_in z h

/- An entry for one call alone: these arguments, this world; what it answers, and the world behind it. -/
noncomputable def m_at (args args0 : List Value) (A A0 : AW) : Bool := @decide (args = args0 ∧ A = A0) (Classical.propDecidable _)
noncomputable def entAt (args0 : List Value) (A0 : AW) (v : Value) (A1 : AW) : Ent := ⟨fun args A => m_at args args0 A A0, fun _ _ => true, fun _ _ => v, fun _ _ => A1, fun _ _ => v, fun _ _ => A1⟩

theorem at_rfl (args : List Value) (A : AW) : m_at args args A A = true := @decide_eq_true _ (Classical.propDecidable _) ⟨rfl, rfl⟩

theorem entAt_ok {C : Cfg} {f : Nat} {args0 : List Value} {A0 : AW} {v : Value} {A1 : AW}
  (h : ∀ F, Wide F → ∀ k γ W args', WRel γ A0 W → Ro C.ro γ W → VsRel γ args0 (Array.toList args') → CallsIn F k C.P f args' W (Go.Ev.Ends γ W v A1)) : EOk C f (entAt args0 A0 v A1) := fun args A hg F hF k γ W args' hw hR ha => by
 obtain ⟨rfl, rfl⟩ := @of_decide_eq_true _ (Classical.propDecidable _) hg
 exact ⟨fun _ => h F hF k γ W args' hw hR ha, fun _ => h F hF k γ W args' hw hR ha⟩

theorem entAt_run {C : Cfg} (hC : C.Ok) {t : Tbl} (ht : TOk C t) (tm : Tr Nat) {f : Nat} {args0 : List Value} {A0 : AW} {v : Value} {A1 : AW} (h : ∃ L d, (lvlT C t tm L d).call f args0 A0 .ret = .ret v A1) : EOk C f (entAt args0 A0 v A1) :=
 entAt_ok fun F hF k γ W args' hw hR ha => by
  obtain ⟨L, d, hr⟩ := h
  have h1 := (lvlT_le (C := C) t tm L d).call _ _ _ _ _ _ hr
  cases hc : (lvlU C t tm L d).call f args0 A0 with
  | fail w => rw [hc] at h1; cases h1
  | ret u A' =>
   rw [hc] at h1
   cases h1
   exact (lvlU_ok hC ht tm L d).call γ A0 W f args0 args' v A1 hc hw hR ha F hF k

/- Entries of a table, by the shape of the arguments. -/
def eI2 (g : Int → Int → Bool) (v : Int → Int → Value) : Ent := ent (fun args _ => match args with | [.int .i64 a, .int .i64 b] => g a b | _ => false) (fun args _ => match args with | [.int .i64 a, .int .i64 b] => v a b | _ => undef)
def eI4 (g : Int → Int → Int → Int → Bool) (v : Int → Int → Int → Int → Value) : Ent := ent (fun args _ => match args with | [.int .i64 a, .int .i64 b, .int .i64 c, .int .i64 d] => g a b c d | _ => false) (fun args _ => match args with | [.int .i64 a, .int .i64 b, .int .i64 c, .int .i64 d] => v a b c d | _ => undef)
def eA2 (g : Int → Int → Bool) (v : Int → Int → Value) : Ent := ent (fun args _ => match args with | [.agg ⟨[.int .i64 a, .int .i64 b]⟩] => g a b | _ => false) (fun args _ => match args with | [.agg ⟨[.int .i64 a, .int .i64 b]⟩] => v a b | _ => undef)
def eI1 (g : Int → Bool) (v : Int → Value) : Ent := ent (fun args _ => match args with | [.int .i64 a] => g a | _ => false) (fun args _ => match args with | [.int .i64 a] => v a | _ => undef)
def eA1I (g : Int → Int → Int → Bool) (v : Int → Int → Int → Value) : Ent := ent (fun args _ => match args with | [.agg ⟨[.int .i64 a, .int .i64 b]⟩, .int .i64 c] => g a b c | _ => false) (fun args _ => match args with | [.agg ⟨[.int .i64 a, .int .i64 b]⟩, .int .i64 c] => v a b c | _ => undef)
def eAA (g : Int → Int → Int → Int → Bool) (v : Int → Int → Int → Int → Value) : Ent := ent (fun args _ => match args with | [.agg ⟨[.int .i64 a, .int .i64 b]⟩, .agg ⟨[.int .i64 c, .int .i64 d]⟩] => g a b c d | _ => false) (fun args _ => match args with | [.agg ⟨[.int .i64 a, .int .i64 b]⟩, .agg ⟨[.int .i64 c, .int .i64 d]⟩] => v a b c d | _ => undef)
def e0 (v : Value) : Ent := ent (fun args _ => match args with | [] => true | _ => false) (fun _ _ => v)

theorem eI2_ok {C : Cfg} {f : Nat} {g : Int → Int → Bool} {v : Int → Int → Value} (h : ∀ a b, g a b = true → GrT C.P C.ro f [I a, I b] (v a b)) : EOk C f (eI2 g v) := EOk.ent fun args A hg => by
 split at hg
 ·exact (h _ _ hg).ro rfl A
 ·cases hg
theorem eI4_ok {C : Cfg} {f : Nat} {g : Int → Int → Int → Int → Bool} {v : Int → Int → Int → Int → Value} (h : ∀ a b c d, g a b c d = true → GrT C.P C.ro f [I a, I b, I c, I d] (v a b c d)) : EOk C f (eI4 g v) := EOk.ent fun args A hg => by
 split at hg
 ·exact (h _ _ _ _ hg).ro rfl A
 ·cases hg
theorem eA2_ok {C : Cfg} {f : Nat} {g : Int → Int → Bool} {v : Int → Int → Value} (h : ∀ a b, g a b = true → GrT C.P C.ro f [.agg ⟨[I a, I b]⟩] (v a b)) : EOk C f (eA2 g v) := EOk.ent fun args A hg => by
 split at hg
 ·exact (h _ _ hg).ro rfl A
 ·cases hg
theorem eI1_ok {C : Cfg} {f : Nat} {g : Int → Bool} {v : Int → Value} (h : ∀ a, g a = true → GrT C.P C.ro f [I a] (v a)) : EOk C f (eI1 g v) := EOk.ent fun args A hg => by
 split at hg
 ·exact (h _ hg).ro rfl A
 ·cases hg
theorem eA1I_ok {C : Cfg} {f : Nat} {g : Int → Int → Int → Bool} {v : Int → Int → Int → Value} (h : ∀ a b c, g a b c = true → GrT C.P C.ro f [.agg ⟨[I a, I b]⟩, I c] (v a b c)) : EOk C f (eA1I g v) := EOk.ent fun args A hg => by
 split at hg
 ·exact (h _ _ _ hg).ro rfl A
 ·cases hg
theorem eAA_ok {C : Cfg} {f : Nat} {g : Int → Int → Int → Int → Bool} {v : Int → Int → Int → Int → Value} (h : ∀ a b c d, g a b c d = true → GrT C.P C.ro f [.agg ⟨[I a, I b]⟩, .agg ⟨[I c, I d]⟩] (v a b c d)) : EOk C f (eAA g v) := EOk.ent fun args A hg => by
 split at hg
 ·exact (h _ _ _ _ hg).ro rfl A
 ·cases hg
theorem e0_ok {C : Cfg} {f : Nat} {v : Value} (h : GrT C.P C.ro f [] v) : EOk C f (e0 v) := EOk.ent fun args A hg => by
 split at hg
 ·exact h.ro rfl A
 ·cases hg

end Go.Proofs

/- Intervals in boats: by rising left, the first free boat. -/
namespace Go.Num
set_option linter.unusedVariables false
set_option linter.unusedSimpArgs false

def fq (q : Nat → Bool) : Nat → Option Nat
 | 0 => none
 | n + 1 => match fq q n with
  | some k => some k
  | none => if q n = true then some n else none
theorem fq_none {q : Nat → Bool} : ∀ {n}, (∀ j, j < n → q j = false) → fq q n = none
 | 0, _ => rfl
 | n + 1, h => by rw [fq, fq_none fun j hj => h j (by omega)]; exact if_neg (by rw [h n (by omega)]; decide)
theorem fq_some {q : Nat → Bool} {k : Nat} (h : ∀ j, j < k → q j = false) (hk : q k = true) : ∀ {n}, k < n → fq q n = some k
 | 0, hn => absurd hn (by omega)
 | n + 1, hn => by
  rw [fq]
  by_cases c : k = n
  ·subst c; rw [fq_none h]; exact if_pos hk
  ·rw [fq_some h hk (n := n) (by omega)]
theorem fq_cases (q : Nat → Bool) : ∀ n, (fq q n = none ∧ ∀ j, j < n → q j = false) ∨ ∃ k, fq q n = some k ∧ k < n ∧ q k = true
 | 0 => .inl ⟨rfl, fun j h => absurd h (by omega)⟩
 | n + 1 => by
  rcases fq_cases q n with ⟨h1, h2⟩ | ⟨k, h1, h2, h3⟩
  ·cases c : q n with
   | true => exact .inr ⟨n, by rw [fq, h1]; exact if_pos c, by omega, c⟩
   | false => exact .inl ⟨by rw [fq, h1]; exact if_neg (by rw [c]; decide), fun j hj => by
     by_cases e : j = n
     ·rw [e]; exact c
     ·exact h2 j (by omega)⟩
  ·exact .inr ⟨k, by rw [fq, h1], by omega, h3⟩

structure PkS where
 ends : List Int
 boat : Nat → Nat
section
variable (A B : Nat → Int)
def pkF (e : List Int) (i : Nat) : Nat := (fq (fun f => decide (e.getD f 0 < A i)) e.length).getD e.length
def pkE (e : List Int) (i : Nat) : List Int := if pkF A e i = e.length then e ++ [B i] else e.set (pkF A e i) (B i)
def pkN (s : PkS) (i : Nat) : PkS := ⟨pkE A B s.ends i, fun j => if j = i then pkF A s.ends i else s.boat j⟩
def pkL : PkS → List Nat → PkS
 | s, [] => s
 | s, i :: l => pkL (pkN A B s i) l
def pkC (k : Int) : List Nat → Nat
 | [] => 0
 | i :: l => pkC k l + if A i ≤ k ∧ k ≤ B i then 1 else 0
theorem pkC_app (k : Int) : ∀ p q : List Nat, pkC A B k (p ++ q) = pkC A B k p + pkC A B k q
 | [], q => by simp [pkC]
 | i :: p, q => by rw [List.cons_append, pkC, pkC, pkC_app k p q]; omega

def pkD (k : Int) : List Int → Nat
 | [] => 0
 | x :: l => pkD k l + if k ≤ x then 1 else 0
theorem pkD_app (k x : Int) : ∀ e : List Int, pkD k (e ++ [x]) = pkD k e + if k ≤ x then 1 else 0
 | [] => by simp [pkD]
 | y :: e => by rw [List.cons_append, pkD, pkD, pkD_app k x e]; omega
theorem pkD_set (k x : Int) : ∀ (e : List Int) (f : Nat), f < e.length → (pkD k (e.set f x) + if k ≤ e.getD f 0 then 1 else 0) = pkD k e + if k ≤ x then 1 else 0
 | [], f, h => absurd h (by simp)
 | y :: e, 0, _ => by
  show (pkD k e + (if k ≤ x then 1 else 0)) + (if k ≤ y then 1 else 0) = (pkD k e + if k ≤ y then 1 else 0) + if k ≤ x then 1 else 0
  omega
 | y :: e, f + 1, h => by
  have ih := pkD_set k x e f (by simpa using h)
  show (pkD k (e.set f x) + (if k ≤ y then 1 else 0)) + (if k ≤ e.getD f 0 then 1 else 0) = (pkD k e + if k ≤ y then 1 else 0) + if k ≤ x then 1 else 0
  omega
theorem pkD_le (k : Int) : ∀ e : List Int, pkD k e ≤ e.length
 | [] => Nat.le_refl _
 | x :: e => by
  have := pkD_le k e
  rw [pkD, List.length_cons]
  split <;> omega
theorem pkD_lt (k : Int) : ∀ (e : List Int) (f : Nat), f < e.length → e.getD f 0 < k → pkD k e < e.length
 | [], f, h, _ => absurd h (by simp)
 | y :: e, 0, _, h => by
  have := pkD_le k e
  have h : y < k := h
  rw [pkD, List.length_cons, if_neg (by omega)]
  omega
 | y :: e, f + 1, h, h2 => by
  have := pkD_lt k e f (by simpa using h) h2
  rw [pkD, List.length_cons]
  split <;> omega
theorem pkD_all (k : Int) : ∀ e : List Int, (∀ f, f < e.length → k ≤ e.getD f 0) → pkD k e = e.length
 | [], _ => rfl
 | y :: e, h => by
  have h0 : k ≤ y := h 0 (by simp)
  rw [pkD, List.length_cons, if_pos h0, pkD_all k e fun f hf => h (f + 1) (by simpa using hf)]
theorem pkC_le (k : Int) (i : Nat) (p : List Nat) : pkC A B k p ≤ pkC A B k (p ++ [i]) := by rw [pkC_app]; omega

structure PkI (p : List Nat) (s : PkS) : Prop where
 eqD : ∀ k, (∀ j, j ∈ p → A j ≤ k) → pkD k s.ends = pkC A B k p
 upper : ∀ k, pkC A B k p ≤ s.ends.length
 le : ∀ i, i ∈ p → s.boat i < s.ends.length ∧ B i ≤ s.ends.getD (s.boat i) 0
 apart : ∀ i j, i ∈ p → j ∈ p → i ≠ j → s.boat i = s.boat j → B i < A j ∨ B j < A i
 most : s.ends.length = 0 ∨ ∃ i, i ∈ p ∧ s.ends.length ≤ pkC A B (A i) p
 top : s.ends.length = 0 ∨ ∃ i, i ∈ p ∧ s.boat i + 1 = s.ends.length

theorem pkF_le (e : List Int) (i : Nat) : pkF A e i ≤ e.length := by
 unfold pkF
 rcases fq_cases (fun f => decide (e.getD f 0 < A i)) e.length with ⟨h, _⟩ | ⟨k, h, h2, _⟩
 ·rw [h]; exact Nat.le_refl _
 ·rw [h]; exact Nat.le_of_lt h2
theorem pkF_lt {e : List Int} {i : Nat} (h : pkF A e i < e.length) : e.getD (pkF A e i) 0 < A i := by
 unfold pkF at h ⊢
 rcases fq_cases (fun f => decide (e.getD f 0 < A i)) e.length with ⟨h1, _⟩ | ⟨k, h1, h2, h3⟩
 ·rw [h1] at h; exact absurd h (Nat.lt_irrefl _)
 ·rw [h1]; exact of_decide_eq_true h3
theorem pkF_eq {e : List Int} {i : Nat} (h : pkF A e i = e.length) : ∀ f, f < e.length → A i ≤ e.getD f 0 := fun f hf => by
 unfold pkF at h
 rcases fq_cases (fun f => decide (e.getD f 0 < A i)) e.length with ⟨_, h2⟩ | ⟨k, h1, h2, _⟩
 ·have := of_decide_eq_false (h2 f hf)
  omega
 ·rw [h1] at h
  have : k = e.length := h
  omega
theorem pkE_len (e : List Int) (i : Nat) : (pkE A B e i).length = if pkF A e i = e.length then e.length + 1 else e.length := by
 unfold pkE
 split
 ·simp
 ·simp
theorem pkE_get (e : List Int) (i f : Nat) (hf : f < (pkE A B e i).length) : (pkE A B e i).getD f 0 = if f = pkF A e i then B i else e.getD f 0 := by
 have hle := pkF_le A e i
 rw [pkE_len] at hf
 unfold pkE
 by_cases c : pkF A e i = e.length
 ·rw [if_pos c] at hf ⊢
  rw [List.getD_eq_getElem?_getD, List.getD_eq_getElem?_getD]
  by_cases d : f = e.length
  ·rw [if_pos (by omega), d, List.getElem?_append_right (Nat.le_refl _), Nat.sub_self]
   rfl
  ·rw [if_neg (by omega), List.getElem?_append_left (by omega)]
 ·rw [if_neg c] at hf ⊢
  rw [List.getD_eq_getElem?_getD, List.getD_eq_getElem?_getD, List.getElem?_set]
  by_cases d : f = pkF A e i
  ·rw [if_pos d.symm, if_pos d, if_pos (by omega)]
   rfl
  ·rw [if_neg (fun h => d h.symm), if_neg d]

theorem pk_step {p : List Nat} {s : PkS} (h : PkI A B p s) {i : Nat} (hi : i ∉ p) (hab : ∀ j, A j ≤ B j) (hs : ∀ j, j ∈ p → A j ≤ A i) : PkI A B (p ++ [i]) (pkN A B s i) := by
 have hle := pkF_le A s.ends i
 have hlen := pkE_len A B s.ends i
 have hnew : (pkN A B s i).ends.length = (pkE A B s.ends i).length := rfl
 have hF : pkF A s.ends i < (pkE A B s.ends i).length := by rw [hlen]; split <;> omega
 have hmono : s.ends.length ≤ (pkE A B s.ends i).length := by rw [hlen]; split <;> omega
 have bi : (pkN A B s i).boat i = pkF A s.ends i := if_pos rfl
 have bj : ∀ j, j ∈ p → (pkN A B s i).boat j = s.boat j := fun j hj => if_neg fun (e : j = i) => hi (e ▸ hj)
 have mem : ∀ j, j ∈ p ++ [i] → j ∈ p ∨ j = i := fun j hj => by simpa using hj
 have ge : ∀ j, j ∈ p → s.ends.getD (s.boat j) 0 ≤ (pkE A B s.ends i).getD (s.boat j) 0 := fun j hj => by
  obtain ⟨h1, h2⟩ := h.le j hj
  rw [pkE_get A B s.ends i _ (by omega)]
  by_cases c : s.boat j = pkF A s.ends i
  ·rw [if_pos c, c]
   have := pkF_lt A (e := s.ends) (i := i) (by omega)
   have := hab i
   omega
  ·rw [if_neg c]
   exact Int.le_refl _
 have one : ∀ k, pkC A B k (p ++ [i]) = pkC A B k p + if A i ≤ k ∧ k ≤ B i then 1 else 0 := fun k => by
  rw [pkC_app]
  show pkC A B k p + (0 + _) = _
  omega
 refine ⟨fun k hk => ?_, fun k => ?_, fun j hj => ?_, fun j k hj hk hjk hb => ?_, .inr ?_, .inr ?_⟩
 ·have hik := hk i (by simp)
  have h0 := h.eqD k fun j hj => hk j (by simp [hj])
  rw [one]
  show pkD k (pkE A B s.ends i) = _
  unfold pkE
  by_cases c : pkF A s.ends i = s.ends.length
  ·rw [if_pos c, pkD_app, h0]
   by_cases d : k ≤ B i
   ·rw [if_pos d, if_pos ⟨hik, d⟩]
   ·rw [if_neg d, if_neg fun h => d h.2]
  ·rw [if_neg c]
   have hlt : pkF A s.ends i < s.ends.length := by omega
   have h1 := pkD_set k (B i) s.ends _ hlt
   have h2 := pkF_lt A hlt
   rw [if_neg (by omega)] at h1
   by_cases d : k ≤ B i
   ·rw [if_pos d] at h1
    rw [if_pos ⟨hik, d⟩]
    omega
   ·rw [if_neg d] at h1
    rw [if_neg fun h => d h.2]
    omega
 ·rw [one]
  show _ ≤ (pkE A B s.ends i).length
  have hu := h.upper k
  by_cases c : A i ≤ k ∧ k ≤ B i
  ·rw [if_pos c, hlen]
   have h0 := h.eqD k fun j hj => by have := hs j hj; omega
   by_cases d : pkF A s.ends i = s.ends.length
   ·rw [if_pos d]
    omega
   ·rw [if_neg d]
    have hlt : pkF A s.ends i < s.ends.length := by omega
    have := pkF_lt A hlt
    have := pkD_lt k s.ends _ hlt (by omega)
    omega
  ·rw [if_neg c]
   omega
 ·rcases mem j hj with hj | rfl
  ·obtain ⟨h1, h2⟩ := h.le j hj
   rw [bj j hj]
   have := ge j hj
   exact ⟨by show s.boat j < (pkE A B s.ends i).length; omega, by show B j ≤ (pkE A B s.ends i).getD (s.boat j) 0; omega⟩
  ·rw [bi]
   refine ⟨hF, ?_⟩
   show B j ≤ (pkE A B s.ends j).getD (pkF A s.ends j) 0
   rw [pkE_get A B s.ends j _ hF, if_pos rfl]
   exact Int.le_refl _
 ·have key : ∀ j, j ∈ p → s.boat j = pkF A s.ends i → B j < A i := fun j hj hb => by
   obtain ⟨h1, h2⟩ := h.le j hj
   have := pkF_lt A (e := s.ends) (i := i) (by omega)
   rw [hb] at h2
   omega
  rcases mem j hj with hj' | rfl
  ·rcases mem k hk with hk' | rfl
   ·rw [bj j hj', bj k hk'] at hb
    exact h.apart j k hj' hk' hjk hb
   ·rw [bj j hj', bi] at hb
    exact .inl (key j hj' hb)
  ·rcases mem k hk with hk' | rfl
   ·rw [bj k hk', bi] at hb
    exact .inr (key k hk' hb.symm)
   ·exact absurd rfl hjk
 ·show ∃ j, j ∈ p ++ [i] ∧ (pkE A B s.ends i).length ≤ pkC A B (A j) (p ++ [i])
  rw [hlen]
  by_cases c : pkF A s.ends i = s.ends.length
  ·rw [if_pos c]
   refine ⟨i, by simp, ?_⟩
   have h1 := pkD_all (A i) s.ends (pkF_eq A c)
   have h2 := h.eqD (A i) hs
   rw [one, if_pos ⟨Int.le_refl _, hab i⟩]
   omega
  ·rw [if_neg c]
   rcases h.most with h0 | ⟨j, h1, h2⟩
   ·omega
   ·have := pkC_le A B (A j) i p
    exact ⟨j, by simp [h1], by omega⟩
 ·show ∃ j, j ∈ p ++ [i] ∧ (pkN A B s i).boat j + 1 = (pkE A B s.ends i).length
  rw [hlen]
  by_cases c : pkF A s.ends i = s.ends.length
  ·rw [if_pos c]
   exact ⟨i, by simp, by rw [bi, c]⟩
  ·rw [if_neg c]
   rcases h.top with h0 | ⟨j, h1, h2⟩
   ·omega
   ·exact ⟨j, by simp [h1], by rw [bj j h1]; exact h2⟩
theorem pk_nil : PkI A B [] ⟨[], fun _ => 0⟩ := ⟨fun k _ => rfl, fun k => Nat.zero_le _, fun i h => (nomatch h), fun i j h => (nomatch h), .inl rfl, .inl rfl⟩
theorem pk_all (hab : ∀ j, A j ≤ B j) : ∀ (l p : List Nat) (s : PkS), PkI A B p s → (∀ i, i ∈ l → i ∉ p) → l.Nodup → (∀ i j, i ∈ p → j ∈ l → A i ≤ A j) → l.Pairwise (fun i j => A i ≤ A j) → PkI A B (p ++ l) (pkL A B s l)
 | [], p, s, h, _, _, _, _ => by rw [List.append_nil]; exact h
 | i :: l, p, s, h, hd, hn, hs, hp => by
  rw [show p ++ i :: l = (p ++ [i]) ++ l by simp]
  have hn := List.nodup_cons.1 hn
  have hp := List.pairwise_cons.1 hp
  refine pk_all hab l (p ++ [i]) _ (pk_step A B h (hd i (by simp)) hab fun j hj => hs j i hj (by simp)) (fun j hj hjp => ?_) hn.2 (fun j k hj hk => ?_) hp.2
  ·rcases List.mem_append.1 hjp with c | c
   ·exact hd j (by simp [hj]) c
   ·have : j = i := by simpa using c
    exact hn.1 (this ▸ hj)
  ·rcases List.mem_append.1 hj with c | c
   ·exact hs j k c (by simp [hk])
   ·have : j = i := by simpa using c
    rw [this]
    exact hp.1 k hk
end

end Go.Num

/- Intervals by their left, the peak: the mathematics. -/
namespace Go.Num
set_option linter.unusedVariables false
set_option linter.unusedSimpArgs false

section
variable (A B : Nat → Int)
def cnN (k : Int) : Nat → Nat
 | 0 => 0
 | n + 1 => cnN k n + if A n ≤ k ∧ k ≤ B n then 1 else 0
theorem pkC_perm (k : Int) {p q : List Nat} (h : p.Perm q) : pkC A B k p = pkC A B k q := by
 induction h with
 | nil => rfl
 | cons x _ ih => rw [pkC, pkC, ih]
 | swap x y l => rw [pkC, pkC, pkC, pkC]; omega
 | trans _ _ ih1 ih2 => exact ih1.trans ih2
theorem cn_pkC (k : Int) : ∀ n, cnN A B k n = pkC A B k (List.range n)
 | 0 => rfl
 | n + 1 => by
  rw [cnN, cn_pkC k n, List.range_succ, pkC_app]
  show _ = _ + (0 + _)
  omega
def pkB (n : Nat) : Nat → Int × Nat
 | 0 => (0, 0)
 | i + 1 => if (pkB n i).2 < cnN A B (A i) n ∨ (cnN A B (A i) n = (pkB n i).2 ∧ A i < (pkB n i).1) then (A i, cnN A B (A i) n) else pkB n i
theorem cn_pos {n i : Nat} (hi : i < n) (hab : ∀ j, A j ≤ B j) : 1 ≤ cnN A B (A i) n := by
 induction n with
 | zero => omega
 | succ n ih =>
  rw [cnN]
  by_cases c : i = n
  ·subst c
   rw [if_pos ⟨Int.le_refl _, hab i⟩]
   omega
  ·have := ih (by omega)
   omega
theorem pkB_ok (n : Nat) : ∀ i, ((pkB A B n i).2 = 0 ∨ cnN A B (pkB A B n i).1 n = (pkB A B n i).2) ∧ ∀ j, j < i → cnN A B (A j) n ≤ (pkB A B n i).2
 | 0 => ⟨.inl rfl, fun j h => absurd h (by omega)⟩
 | i + 1 => by
  obtain ⟨h1, h2⟩ := pkB_ok n i
  rw [pkB]
  split
  ·rename_i c
   refine ⟨.inr rfl, fun j hj => ?_⟩
   show cnN A B (A j) n ≤ cnN A B (A i) n
   by_cases e : j = i
   ·rw [e]; exact Nat.le_refl _
   ·have := h2 j (by omega)
    omega
  ·rename_i c
   refine ⟨h1, fun j hj => ?_⟩
   by_cases e : j = i
   ·rw [e]; omega
   ·exact h2 j (by omega)
theorem pk_law {n : Nat} (hn : 1 ≤ n) (hab : ∀ j, A j ≤ B j) {l : List Nat} (hp : l.Perm (List.range n)) (hs : l.Pairwise fun i j => A i ≤ A j) : (pkL A B ⟨[], fun _ => 0⟩ l).ends.length = cnN A B (pkB A B n n).1 n ∧ PkI A B l (pkL A B ⟨[], fun _ => 0⟩ l) := by
 have hI := pk_all A B hab l [] _ (pk_nil A B) (fun i _ h => nomatch h) (hp.nodup_iff.2 List.nodup_range) (fun i j h => nomatch h) hs
 rw [List.nil_append] at hI
 refine ⟨?_, hI⟩
 obtain ⟨b1, b2⟩ := pkB_ok A B n n
 have hc : ∀ k, pkC A B k l = cnN A B k n := fun k => by rw [cn_pkC]; exact pkC_perm A B k hp
 have h0 := cn_pos A B (n := n) (i := 0) (by omega) hab
 have h0' := b2 0 (by omega)
 have hu := hI.upper (pkB A B n n).1
 rw [hc] at hu
 rcases hI.most with c | ⟨i, c1, c2⟩
 ·have := hI.upper (A 0)
  rw [hc] at this
  omega
 ·rw [hc] at c2
  have := b2 i (List.mem_range.1 ((hp.mem_iff).1 c1))
  omega

def m_cmpI (a b : Int) : Int := if a < b then -1 else if b < a then 1 else 0
def m_cb (i j : Nat) : Int := if m_cmpI (A i) (A j) = 0 then m_cmpI i j else m_cmpI (A i) (A j)
theorem cb_lt (i j : Nat) : m_cb A i j < 0 ↔ A i < A j ∨ (A i = A j ∧ i < j) := by
 unfold m_cb m_cmpI
 by_cases c : A i < A j
 ·simp [c]
 ·by_cases d : A j < A i
  ·simp [c, d]
   omega
  ·simp [c, d]
   have : A i = A j := by omega
   by_cases e : i < j
   ·simp [this, e]
   ·by_cases e2 : j < i <;> simp [this, e, e2]
def srtF (n : Nat) : List (Fin n) := (List.finRange n).mergeSort fun x y => !decide (m_cb A y x < 0)
theorem srtF_perm (n : Nat) : (srtF A n).Perm (List.finRange n) := List.mergeSort_perm _ _
theorem srtF_srt (n : Nat) : (srtF A n).Pairwise fun (x y : Fin n) => decide (m_cb A y x < 0) = false := by
 have h := List.pairwise_mergeSort (le := fun x y : Fin n => !decide (m_cb A y x < 0)) (fun a b c h1 h2 => by
  simp only [Bool.not_eq_true', decide_eq_false_iff_not, cb_lt] at *
  omega) (fun a b => by
  simp only [Bool.or_eq_true, Bool.not_eq_true', decide_eq_false_iff_not, cb_lt]
  omega) (List.finRange n)
 exact h.imp fun h => by simpa using h
theorem srtF_one {n : Nat} {d : List (Fin n)} (hp : d.Perm (List.finRange n)) (hs : d.Pairwise fun (x y : Fin n) => decide (m_cb A y x < 0) = false) : d = srtF A n :=
 (hp.trans (srtF_perm A n).symm).eq_of_pairwise (fun a b _ _ h1 h2 => by
  simp only [decide_eq_false_iff_not, cb_lt] at *
  exact Fin.ext (by omega)) hs (srtF_srt A n)
def srtV (n : Nat) : List Nat := (srtF A n).map Fin.val
theorem finR_val (n : Nat) : (List.finRange n).map Fin.val = List.range n := by
 apply List.ext_getElem
 ·simp
 ·intro i h1 h2
  simp
theorem srtV_perm (n : Nat) : (srtV A n).Perm (List.range n) := by
 have := (srtF_perm A n).map Fin.val
 rwa [finR_val] at this
theorem srtV_srt (n : Nat) : (srtV A n).Pairwise fun i j => A i ≤ A j := by
 unfold srtV
 rw [List.pairwise_map]
 exact (srtF_srt A n).imp fun h => by
  simp only [decide_eq_false_iff_not, cb_lt] at h
  omega
end

end Go.Num

/- Edges of a graph, as numbers in a row. -/
set_option linter.unusedVariables false
set_option linter.unusedSimpArgs false
namespace Go.Num

def ea (z : Nat → Int) (i : Nat) : Int := z (2 * i)
def eb (z : Nat → Int) (i : Nat) : Int := z (2 * i + 1)
def okAt (n : Int) (z : Nat → Int) (i : Nat) : Bool :=
 decide (0 ≤ ea z i) && decide (ea z i < eb z i) && decide (eb z i < n) && (i == 0 || decide (ea z (i - 1) < ea z i) || (decide (ea z (i - 1) = ea z i) && decide (eb z (i - 1) < eb z i)))
def okFrom (n : Int) (z : Nat → Int) : Nat → Nat → Bool
 | 0, _ => true
 | j + 1, k => okAt n z k && okFrom n z j (k + 1)
def okAll (n : Int) (z : Nat → Int) (m : Nat) : Bool := okFrom n z m 0
def ckG (n : Int) (z : Nat → Int) (m : Nat) : Int := if n < 1 ∨ n > 16 then 1 else if okAll n z m = true then 0 else 40

theorem okFrom_at {n : Int} {z : Nat → Int} : ∀ (j k : Nat), okFrom n z j k = true → ∀ i, k ≤ i → i < k + j → okAt n z i = true
 | 0, _, _, i, h1, h2 => by omega
 | j + 1, k, h, i, h1, h2 => by
  simp only [okFrom, Bool.and_eq_true] at h
  by_cases c : i = k
  ·subst c; exact h.1
  ·exact okFrom_at j (k + 1) h.2 i (by omega) (by omega)
theorem okAll_at {n : Int} {z : Nat → Int} {m : Nat} (h : okAll n z m = true) (i : Nat) (hi : i < m) : 0 ≤ ea z i ∧ ea z i < eb z i ∧ eb z i < n := by
 have := okFrom_at m 0 h i (by omega) (by omega)
 simp only [okAt, Bool.and_eq_true, decide_eq_true_eq] at this
 exact ⟨this.1.1.1, this.1.1.2, this.1.2⟩
theorem ckG_0 {n : Int} {z : Nat → Int} {m : Nat} (h : ckG n z m = 0) : 1 ≤ n ∧ n ≤ 16 ∧ okAll n z m = true := by
 unfold ckG at h
 split at h
 ·cases h
 ·split at h
  ·rename_i h1 h2; exact ⟨by omega, by omega, h2⟩
  ·cases h

end Go.Num

/- The reference's check of a graph, run. -/
set_option linter.unusedVariables false
set_option linter.unusedSimpArgs false
namespace Go.Proofs
open Go Go.Ev Go.Num

abbrev RS2 (b off len cap : Nat) : Value := .slice (some ⟨b, off, some 0⟩) len cap
end Go.Proofs

/- The reference's check of a graph: what the calls answer. -/
set_option linter.unusedVariables false
set_option linter.unusedSimpArgs false
namespace Go.Proofs
open Go Go.Ev Go.Num

def rowAt (r : Mem) (b off m : Nat) (z : Nat → Int) : Prop := ∀ j, j < m → r b (off + j) = some (I (z j))

end Go.Proofs

