/- What the claim is proved with, part 1: the evaluator and the contracts of the calls. -/
import Derived.Test.YtffcidnblfckcaaGreatDoorSymBase
import Derived.Test.YtffcidnblfckcaaGreatDoorEvMemOf
import Derived.Test.YtffcidnblfckcaaGreatDoorRows
import Derived.FnData
import Derived.MakeChecks
import Derived.IntWalk
import Derived.Test.YtffcidnblfckcaaGreatDoorEvRen
/- The tables of math/bits, as memory. -/
namespace Go.Proofs
open Go Go.Ev
set_option linter.unusedVariables false
set_option linter.unusedSimpArgs false

def u8s (l : List Nat) : List Value := l.map fun n => .int .u8 (Int.ofNat n)
def tab32 : List Nat := [0, 1, 28, 2, 29, 14, 24, 3, 30, 22, 20, 15, 25, 17, 4, 8, 31, 27, 13, 23, 21, 19, 16, 7, 26, 12, 18, 6, 11, 5, 10, 9]
def tab64 : List Nat := [0, 1, 56, 2, 57, 49, 28, 3, 61, 58, 42, 50, 38, 29, 17, 4, 62, 47, 59, 36, 45, 43, 51, 22, 53, 39, 33, 30, 24, 18, 12, 5, 63, 55, 48, 27, 60, 41, 37, 16, 46, 35, 44, 21, 52, 32, 23, 11, 54, 26, 40, 15, 34, 20, 31, 10, 25, 14, 19, 9, 13, 8, 7, 6]

/-- What two lists hold, laid at two blocks. -/
def memL (l : List Value) : Nat → Option Value := fun j => l[j]?
def tabM : Mem := fun b j => match Nat.beq b 1 with
  | true => memL (u8s tab64) j
  | false => match Nat.beq b 0 with
    | true => memL (u8s tab32) j
    | false => none

end Go.Proofs

/- What the listed package variables hold, as memory: from the row's premise to the memory that came in. -/
namespace Go.Proofs
open Go Go.Ev
set_option linter.unusedVariables false
set_option linter.unusedSimpArgs false

theorem tab_cells {H : Type} {enc : TypeId × Value → H} {P : Program} {w : World} {base fuel : Nat} {spare : Nat → Bool} {held : Bool} {t e : TypeId} {n : Nat} {k : IntKind} {cs : List Value} {l : List Int} {p : List MemPlace}
    (ht : P.underlying t = some (.array n e)) (he : P.underlying e = some (.int k)) (ce : P.cellsOf e = 1)
    (h : DataW.trod enc P w base spare held fuel t cs = some (.agg (l.map fun z => .lit (.int k z)), p)) : ∀ (j : Nat) (z : Int), l[j]? = some z → cs[j]? = some (Value.int k z) := by
  obtain ⟨xs, m, _, hx, _, hl, hel⟩ := DataW.trod_array ht h
  have h1 : l.map (fun z => (DataW.lit (.int k z) : DataW H)) = xs.map (·.1) := by
    have := congrArg Prod.fst hx
    simpa using this
  intro j z hz
  have hlen : l.length = xs.length := by
    have := congrArg List.length h1
    simpa using this
  have hj : j < l.length := (List.getElem?_eq_some_iff.1 hz).1
  have h3 := hel j (by omega)
  rw [ce, Nat.mul_one] at h3
  have hxj : xs[j]? = some xs[j] := List.getElem?_eq_getElem (by omega)
  rw [hxj] at h3
  obtain ⟨s, h4, h5, _⟩ := DataW.trod_int he h3
  have h6 : (l.map (fun z => (DataW.lit (.int k z) : DataW H)))[j]? = (xs.map (·.1))[j]? := by rw [h1]
  simp only [List.getElem?_map, hz, hxj, Option.map_some, h5, Option.some.injEq, DataW.lit.injEq, Lit.int.injEq, true_and] at h6
  subst h6
  have h7 := congrArg (fun l : List Value => l[0]?) h4
  simp only [List.getElem?_cons_zero] at h7
  rw [List.getElem?_take_of_lt (by omega), List.getElem?_drop] at h7
  simpa using h7

theorem tab_mem {P : Program} {w : World} {n : String} {g : Nat} {cs : Array Value} {k : IntKind} (hg : P.globalNamed n = some g) (hv : w.var? P n = some cs) {l : List Int} (h : ∀ (j : Nat) (z : Int), l[j]? = some z → cs.toList[j]? = some (Value.int k z)) :
    ∀ (j : Nat) (z : Int), l[j]? = some z → memOf w g j = some (Value.int k z) := fun j z hz => memOf_int (by
  rw [World.var?_cell hg hv j]
  have := h j z hz
  simpa using this)

theorem laid_32 {W : World} {g t f : Nat} {cs : Array Value} {p : List MemPlace} (a1 : Tryz.prog.globalNamed "math/bits.deBruijn32tab" = some g) (a2 : (Tryz.prog.globals[g]?).map (·.type) = some t) (a3 : W.var? Tryz.prog "math/bits.deBruijn32tab" = some cs)
    (a4 : DataW.trod (fun _ => ()) Tryz.prog W 0 (fun _ => true) false f t cs.toList = some (YtffcidnblfckcaaGreatDoor.Rows.laid_math_bits_deBruijn32tab, p)) : ∀ j u, memL (u8s tab32) j = some u → memOf W 0 j = some u := by
  have hg : Tryz.prog.globalNamed "math/bits.deBruijn32tab" = some 0 := by kernel_rfl
  obtain rfl := Option.some.inj (hg.symm.trans a1)
  obtain rfl := Option.some.inj ((show (Tryz.prog.globals[0]?).map (·.type) = some 151 by kernel_rfl).symm.trans a2)
  have h1 := tab_cells (l := tab32.map Int.ofNat) (k := .u8) (t := 151) (n := 32) (e := 5) (by kernel_rfl) (by kernel_rfl) (by kernel_rfl) (a4.trans (by rfl))
  intro j u hu
  simp only [memL, u8s, List.getElem?_map, Option.map_eq_some_iff] at hu
  obtain ⟨z, hz, rfl⟩ := hu
  exact tab_mem hg a3 h1 j _ (by simp [List.getElem?_map, hz])

theorem laid_64 {W : World} {g t f : Nat} {cs : Array Value} {p : List MemPlace} (a1 : Tryz.prog.globalNamed "math/bits.deBruijn64tab" = some g) (a2 : (Tryz.prog.globals[g]?).map (·.type) = some t) (a3 : W.var? Tryz.prog "math/bits.deBruijn64tab" = some cs)
    (a4 : DataW.trod (fun _ => ()) Tryz.prog W 0 (fun _ => true) false f t cs.toList = some (YtffcidnblfckcaaGreatDoor.Rows.laid_math_bits_deBruijn64tab, p)) : ∀ j u, memL (u8s tab64) j = some u → memOf W 1 j = some u := by
  have hg : Tryz.prog.globalNamed "math/bits.deBruijn64tab" = some 1 := by kernel_rfl
  obtain rfl := Option.some.inj (hg.symm.trans a1)
  obtain rfl := Option.some.inj ((show (Tryz.prog.globals[1]?).map (·.type) = some 152 by kernel_rfl).symm.trans a2)
  have h1 := tab_cells (l := tab64.map Int.ofNat) (k := .u8) (t := 152) (n := 64) (e := 5) (by kernel_rfl) (by kernel_rfl) (by kernel_rfl) (a4.trans (by rfl))
  intro j u hu
  simp only [memL, u8s, List.getElem?_map, Option.map_eq_some_iff] at hu
  obtain ⟨z, hz, rfl⟩ := hu
  exact tab_mem hg a3 h1 j _ (by simp [List.getElem?_map, hz])

theorem laid_mem {W : World} {x : String × DataW Unit} (hx : x = ("math/bits.deBruijn32tab", YtffcidnblfckcaaGreatDoor.Rows.laid_math_bits_deBruijn32tab)) {y : String × DataW Unit} (hy : y = ("math/bits.deBruijn64tab", YtffcidnblfckcaaGreatDoor.Rows.laid_math_bits_deBruijn64tab)) (hL : laidMetH Tryz.prog [x, y] W) : ∀ b j u, tabM b j = some u → memOf W b j = some u := by
  subst hx hy
  rw [MakeChecks.laidMetH_plain _ _ _ (by kernel_rfl)] at hL
  obtain ⟨ps, ⟨g1, t1, c1, f1, p1, q1, a1, a2, a3, a4, ⟨g2, t2, c2, f2, p2, q2, b1, b2, b3, b4, _, _⟩, _⟩, _⟩ := hL
  intro b j u h
  unfold tabM at h
  split at h
  · rename_i hb
    have := Nat.eq_of_beq_eq_true hb
    subst this
    exact laid_64 b1 b2 b3 b4 j u h
  · split at h
    · rename_i hb
      have := Nat.eq_of_beq_eq_true hb
      subst this
      exact laid_32 a1 a2 a3 a4 j u h
    · cases h

end Go.Proofs

/- A slice among the arguments: nil, or a row that came in (an empty one, too). -/
namespace Go.Ev
open Go
set_option linter.unusedVariables false
set_option linter.unusedSimpArgs false

inductive ArgRowT (r : Mem) (n : Nat) (p : Value → Prop) : Value → Prop
  | nil : ArgRowT r n p (.slice none 0 0)
  | row (b off len cap : Nat) (hl : len ≤ cap) (hc : cap ≤ maxLen) (h : ∀ i, i < cap * n → ∃ u, r b (off + i) = some u ∧ p u) : ArgRowT r n p (.slice (some ⟨b, off, some 0⟩) len cap)

theorem okWide_spot {P : Program} {w : World} {r : Go.Reach} {base : Nat} {t e : TypeId} {x : Addr} {len cap : Nat} (ht : P.underlying t = some (.slice e)) (h : Value.okWide P w r base t (.slice (some x) len cap)) : x.spot = none := by
  simp only [Value.okWide, ht, Cell.okWide, Cell.ok] at h
  exact h.2.2.2.1

section
variable {H : Type} {enc : TypeId × Value → H} {P : Program} {w : World} {base : Nat} {held : Bool}

theorem in_rowT {t e : TypeId} {n : Nat} {p : Value → Prop} {v : Value} {d : DataW H} {ps : List MemPlace} (hn : 0 < n) (ht : P.underlying t = some (.slice e)) (ce : P.cellsOf e = n) (hel : El enc P w base held e n p)
    {b0 : Nat} (hval : Value.okWide P w .any b0 t v) (h : DataW.Trod enc P w base (fun _ => true) held t v d ps) : ∃ u, VRel noG u v ∧ ArgRowT (memOf w) n p u := by
  obtain ⟨u, hu, hs⟩ := in_row hn ht ce hel hval h
  obtain ⟨a, len, cap, rfl⟩ := Go.WideShapes.okWide_slice ht hval
  cases hs with
  | nil => exact ⟨_, hu, .nil⟩
  | row b off len cap hl hc h => exact ⟨_, hu, .row b off len cap hl hc h⟩
  | empty =>
    obtain ⟨fuel, hf⟩ := h
    rcases Go.Deep.open_slice ht hf with ⟨h0, _⟩ | ⟨a', len', cap', m, n', D, Pl, h0, _, hl, hm, hmm, _, hx⟩
    · simp [Value.cells] at h0
      obtain ⟨rfl, rfl, rfl⟩ := h0
      exact ⟨_, .sliceNil, .nil⟩
    · simp [Value.cells] at h0
      obtain ⟨rfl, rfl, rfl⟩ := h0
      have hsp := okWide_spot ht hval
      obtain ⟨b, off, s⟩ := a'
      subst hsp
      have hlen : len = 0 := by
        cases hu with
        | sliceE => rfl
        | slice _ _ _ _ hg => cases hg
      subst hlen
      exact ⟨_, .sliceRo b off 0 0 0 cap (by decide) (Nat.zero_le _), .row b off 0 0 (Nat.le_refl _) (Nat.zero_le _) fun i hi => by omega⟩

end

end Go.Ev

/- Rules for loops. -/
namespace Go.Proofs
open Go Go.Ev
set_option linter.unusedVariables false
set_option linter.unusedSimpArgs false

theorem fnsSC (r : Mem) : (SC r).fns = S0.fns := by unfold SC Cfg.sym; rfl
theorem bodySC (r : Mem) (f : Nat) : bodyOf (SC r) f = bodyOf S0 f := by unfold bodyOf; rw [fnsSC]

/-- Into a function whose body has this name. -/
theorem enterN {r : Mem} {t : Tbl} {ms : Tr Nat} {L d f m n : Nat} {args : List Value} {A : AW} {k : KV} {rs : List ResultVar} (c : Code) (hc : c = bodyOf S0 f) (hb : hasBody (SC r) f = true) (hn : ntm (SC r) f = n) (hm : maskFor ms f n = m) (hr : resOf (SC r) f = rs)
    (hl : Nat.ble args.length n = true) (ht : t f = none) :
    (lvlT (SC r) t ms L (d + 1)).call f args A k = run (SC r) m n L c (lvlT (SC r) t ms L d) none (finK (SC r) m rs k) kx242 (finK (SC r) m rs k) (sc0 m args) (tr0 m args) [] A := by
  rw [enter hb hn hm hr hl ht, bodySC, ← hc]

theorem fn_of {C : Cfg} {f : Nat} (h : hasBody C f = true) : ∃ fn, C.fns.get f = some fn ∧ fn.body = some (bodyOf C f) ∧ fn.ntmps = ntm C f ∧ fn.results.toList = resOf C f := by
  unfold hasBody at h
  unfold bodyOf ntm resOf
  split at h
  · rename_i fn hfn
    split at h
    · rename_i c hc
      exact ⟨fn, hfn, by simp only [hfn, hc], by simp only [hfn], by simp only [hfn]⟩
    · cases h
  · cases h

/-- Rows of code, taken together from the left. -/
theorem seqA {C : Cfg} {m n L : Nat} (a b d : Code) : run C m n L (.seq a (.seq b d)) = run C m n L (.seq (.seq a b) d) := rfl

theorem run_while {C : Cfg} {m n L : Nat} {fs : FnsC} {ro : Option Nat} {kn : KS} {kx : Nat → KS} {kr : KS} (a b d : Code) (id : Nat) : run C m n L (.seq a (.seq (.block id (.loop b)) d)) fs ro kn kx kr =
    run C m n L a fs ro (cLoop (fun kl => run C m n L b fs ro kl (fun j => match Nat.beq j id with | true => run C m n L d fs ro kn kx kr | false => kx j) kr) L) kx kr := rfl
theorem run_while0 {C : Cfg} {m n L : Nat} {fs : FnsC} {ro : Option Nat} {kn : KS} {kx : Nat → KS} {kr : KS} (a b : Code) (id : Nat) : run C m n L (.seq a (.block id (.loop b))) fs ro kn kx kr =
    run C m n L a fs ro (cLoop (fun kl => run C m n L b fs ro kl (fun j => match Nat.beq j id with | true => kn | false => kx j) kr) L) kx kr := rfl

theorem run_pre {C : Cfg} {m n L : Nat} (a b d e : Code) : run C m n L (.seq a (.seq (.seq b d) e)) = run C m n L (.seq (.seq a b) (.seq d e)) := rfl

theorem beqD (a b : Int) : (a == b) = decide (a = b) := by by_cases h : a = b <;> simp [h]

theorem dT {p : Prop} [Decidable p] (h : p) : decide p = true := decide_eq_true h
theorem dF {p : Prop} [Decidable p] (h : ¬ p) : decide p = false := decide_eq_false h
theorem eqT {a b : Int} (h : a = b) : (a == b) = true := by simp [h]
theorem eqF {a b : Int} (h : a ≠ b) : (a == b) = false := by simp [h]
theorem neT {a b : Int} (h : a ≠ b) : (a != b) = true := by simp [h]
theorem neF {a b : Int} (h : a = b) : (a != b) = false := by simp [h]
theorem wrI {z : Int} (h : -9223372036854775808 ≤ z ∧ z ≤ 9223372036854775807) : IntKind.wrap .i64 z = z := IntWalk.i64_in z h

/- An entry for one call alone: these arguments, this world; what it answers, and the world behind it. -/
noncomputable def m_at (args args0 : List Value) (A A0 : AW) : Bool := @decide (args = args0 ∧ A = A0) (Classical.propDecidable _)
noncomputable def entAt (args0 : List Value) (A0 : AW) (v : Value) (A1 : AW) : Ent := ⟨fun args A => m_at args args0 A A0, fun _ _ => true, fun _ _ => v, fun _ _ => A1, fun _ _ => v, fun _ _ => A1⟩

theorem at_rfl (args : List Value) (A : AW) : m_at args args A A = true := @decide_eq_true _ (Classical.propDecidable _) ⟨rfl, rfl⟩

theorem entAt_ok {C : Cfg} {f : Nat} {args0 : List Value} {A0 : AW} {v : Value} {A1 : AW}
    (h : ∀ F, Wide F → ∀ k γ W args', WRel γ A0 W → Ro C.ro γ W → VsRel γ args0 (Array.toList args') → CallsIn F k C.P f args' W (Go.Ev.Ends γ W v A1)) : EOk C f (entAt args0 A0 v A1) := fun args A hg F hF k γ W args' hw hR ha => by
  obtain ⟨rfl, rfl⟩ := @of_decide_eq_true _ (Classical.propDecidable _) hg
  exact ⟨fun _ => h F hF k γ W args' hw hR ha, fun _ => h F hF k γ W args' hw hR ha⟩

/-- The same, by a run. -/
theorem entAt_run {C : Cfg} (hC : C.Ok) {t : Tbl} (ht : TOk C t) (tm : Tr Nat) {f : Nat} {args0 : List Value} {A0 : AW} {v : Value} {A1 : AW} (h : ∃ L d, (lvlT C t tm L d).call f args0 A0 .ret = .ret v A1) : EOk C f (entAt args0 A0 v A1) :=
  entAt_ok fun F hF k γ W args' hw hR ha => by
    obtain ⟨L, d, hr⟩ := h
    have h1 := (lvlT_le (C := C) t tm L d).call _ _ _ _ _ _ hr
    cases hc : (lvlU C t tm L d).call f args0 A0 with
    | fail w => rw [hc] at h1; cases h1
    | ret u A' =>
      rw [hc] at h1
      cases h1
      exact (lvlU_ok hC ht tm L d).call γ A0 W f args0 args' v A1 hc hw hR ha F hF k

/- Entries of a table, by the shape of the arguments. -/
def eI2 (g : Int → Int → Bool) (v : Int → Int → Value) : Ent := ent (fun args _ => match args with | [.int .i64 a, .int .i64 b] => g a b | _ => false) (fun args _ => match args with | [.int .i64 a, .int .i64 b] => v a b | _ => undef)
def eI4 (g : Int → Int → Int → Int → Bool) (v : Int → Int → Int → Int → Value) : Ent := ent (fun args _ => match args with | [.int .i64 a, .int .i64 b, .int .i64 c, .int .i64 d] => g a b c d | _ => false) (fun args _ => match args with | [.int .i64 a, .int .i64 b, .int .i64 c, .int .i64 d] => v a b c d | _ => undef)
def eA2 (g : Int → Int → Bool) (v : Int → Int → Value) : Ent := ent (fun args _ => match args with | [.agg ⟨[.int .i64 a, .int .i64 b]⟩] => g a b | _ => false) (fun args _ => match args with | [.agg ⟨[.int .i64 a, .int .i64 b]⟩] => v a b | _ => undef)
def eI1 (g : Int → Bool) (v : Int → Value) : Ent := ent (fun args _ => match args with | [.int .i64 a] => g a | _ => false) (fun args _ => match args with | [.int .i64 a] => v a | _ => undef)
def eA1I (g : Int → Int → Int → Bool) (v : Int → Int → Int → Value) : Ent := ent (fun args _ => match args with | [.agg ⟨[.int .i64 a, .int .i64 b]⟩, .int .i64 c] => g a b c | _ => false) (fun args _ => match args with | [.agg ⟨[.int .i64 a, .int .i64 b]⟩, .int .i64 c] => v a b c | _ => undef)
def eAA (g : Int → Int → Int → Int → Bool) (v : Int → Int → Int → Int → Value) : Ent := ent (fun args _ => match args with | [.agg ⟨[.int .i64 a, .int .i64 b]⟩, .agg ⟨[.int .i64 c, .int .i64 d]⟩] => g a b c d | _ => false) (fun args _ => match args with | [.agg ⟨[.int .i64 a, .int .i64 b]⟩, .agg ⟨[.int .i64 c, .int .i64 d]⟩] => v a b c d | _ => undef)
def e0 (v : Value) : Ent := ent (fun args _ => match args with | [] => true | _ => false) (fun _ _ => v)

theorem eI2_ok {C : Cfg} {f : Nat} {g : Int → Int → Bool} {v : Int → Int → Value} (h : ∀ a b, g a b = true → GrT C.P C.ro f [I a, I b] (v a b)) : EOk C f (eI2 g v) := EOk.ent fun args A hg => by
  split at hg
  · exact (h _ _ hg).ro rfl A
  · cases hg
theorem eI4_ok {C : Cfg} {f : Nat} {g : Int → Int → Int → Int → Bool} {v : Int → Int → Int → Int → Value} (h : ∀ a b c d, g a b c d = true → GrT C.P C.ro f [I a, I b, I c, I d] (v a b c d)) : EOk C f (eI4 g v) := EOk.ent fun args A hg => by
  split at hg
  · exact (h _ _ _ _ hg).ro rfl A
  · cases hg
theorem eA2_ok {C : Cfg} {f : Nat} {g : Int → Int → Bool} {v : Int → Int → Value} (h : ∀ a b, g a b = true → GrT C.P C.ro f [.agg ⟨[I a, I b]⟩] (v a b)) : EOk C f (eA2 g v) := EOk.ent fun args A hg => by
  split at hg
  · exact (h _ _ hg).ro rfl A
  · cases hg
theorem eI1_ok {C : Cfg} {f : Nat} {g : Int → Bool} {v : Int → Value} (h : ∀ a, g a = true → GrT C.P C.ro f [I a] (v a)) : EOk C f (eI1 g v) := EOk.ent fun args A hg => by
  split at hg
  · exact (h _ hg).ro rfl A
  · cases hg
theorem eA1I_ok {C : Cfg} {f : Nat} {g : Int → Int → Int → Bool} {v : Int → Int → Int → Value} (h : ∀ a b c, g a b c = true → GrT C.P C.ro f [.agg ⟨[I a, I b]⟩, I c] (v a b c)) : EOk C f (eA1I g v) := EOk.ent fun args A hg => by
  split at hg
  · exact (h _ _ _ hg).ro rfl A
  · cases hg
theorem eAA_ok {C : Cfg} {f : Nat} {g : Int → Int → Int → Int → Bool} {v : Int → Int → Int → Int → Value} (h : ∀ a b c d, g a b c d = true → GrT C.P C.ro f [.agg ⟨[I a, I b]⟩, .agg ⟨[I c, I d]⟩] (v a b c d)) : EOk C f (eAA g v) := EOk.ent fun args A hg => by
  split at hg
  · exact (h _ _ _ _ hg).ro rfl A
  · cases hg
theorem e0_ok {C : Cfg} {f : Nat} {v : Value} (h : GrT C.P C.ro f [] v) : EOk C f (e0 v) := EOk.ent fun args A hg => by
  split at hg
  · exact h.ro rfl A
  · cases hg

end Go.Proofs

/- Edges of a graph, as numbers in a row. -/
namespace Go.Num

/-- The edge i of the numbers z, two for each. -/
def ea (z : Nat → Int) (i : Nat) : Int := z (2 * i)
def eb (z : Nat → Int) (i : Nat) : Int := z (2 * i + 1)
/-- Is it right, behind the one before it? -/
def okAt (n : Int) (z : Nat → Int) (i : Nat) : Bool :=
  decide (0 ≤ ea z i) && decide (ea z i < eb z i) && decide (eb z i < n) && (i == 0 || decide (ea z (i - 1) < ea z i) || (decide (ea z (i - 1) = ea z i) && decide (eb z (i - 1) < eb z i)))
/-- All from k on, up to m. -/
def okFrom (n : Int) (z : Nat → Int) : Nat → Nat → Bool
  | 0, _ => true
  | j + 1, k => okAt n z k && okFrom n z j (k + 1)
def okAll (n : Int) (z : Nat → Int) (m : Nat) : Bool := okFrom n z m 0
/-- The check of a graph. -/
def ckG (n : Int) (z : Nat → Int) (m : Nat) : Int := if n < 1 ∨ n > 16 then 1 else if okAll n z m = true then 0 else 40

theorem okFrom_at {n : Int} {z : Nat → Int} : ∀ (j k : Nat), okFrom n z j k = true → ∀ i, k ≤ i → i < k + j → okAt n z i = true
  | 0, _, _, i, h1, h2 => by omega
  | j + 1, k, h, i, h1, h2 => by
    simp only [okFrom, Bool.and_eq_true] at h
    by_cases c : i = k
    · subst c; exact h.1
    · exact okFrom_at j (k + 1) h.2 i (by omega) (by omega)
theorem okAll_at {n : Int} {z : Nat → Int} {m : Nat} (h : okAll n z m = true) (i : Nat) (hi : i < m) : 0 ≤ ea z i ∧ ea z i < eb z i ∧ eb z i < n := by
  have := okFrom_at m 0 h i (by omega) (by omega)
  simp only [okAt, Bool.and_eq_true, decide_eq_true_eq] at this
  exact ⟨this.1.1.1, this.1.1.2, this.1.2⟩
theorem ckG_0 {n : Int} {z : Nat → Int} {m : Nat} (h : ckG n z m = 0) : 1 ≤ n ∧ n ≤ 16 ∧ okAll n z m = true := by
  unfold ckG at h
  split at h
  · cases h
  · split at h
    · rename_i h1 h2; exact ⟨by omega, by omega, h2⟩
    · cases h

end Go.Num

/- The reference's check of a graph, run. -/
namespace Go.Proofs
open Go Go.Ev Go.Num
set_option linter.unusedVariables false
set_option linter.unusedSimpArgs false

noncomputable def cGh : Code := bodyOf S0 18
abbrev RS2 (b off len cap : Nat) : Value := .slice (some ⟨b, off, some 0⟩) len cap
def TGh (n : Int) (sl : Value) (i : Int) (l3 r6 : Tr Value) : Tr Value := .node (.node l3 (some sl) (.node .nil (some (I i)) .nil)) (some (I n)) (.node (.node .nil (some (.bool false)) .nil) none r6)
def oG7 (v : Value) : Tr Value := .node (.node .nil (some v) .nil) none .nil
def oG6 (v : Value) : Tr Value := .node .nil (some v) .nil

theorem ghA (r : Mem) (L : Nat) (fs : FnsC) (n : Int) (b off len cap : Nat) (kn : KS) (kx : Nat → KS) (kr : KS) : run (SC r) 243 70 L (.seq (lc cGh) (lc (lc (rc cGh)))) fs none kn kx kr (sc0 243 [I n, RS2 b off len cap]) (tr0 243 [I n, RS2 b off len cap]) [] emptyA =
    kn [] (Tr.node (Tr.node Tr.nil (some (Value.slice (some (Addr.mk b off (some 0))) len cap)) (Tr.node Tr.nil (some (Value.int IntKind.i64 (Int.ofNat 0))) Tr.nil)) (some (Value.int IntKind.i64 n)) (Tr.node (Tr.node Tr.nil (some (Value.bool false)) Tr.nil) none Tr.nil)) [] (AW.mk 0 Tr.nil Tr.nil) := by kernel_rfl

theorem ghB1 (r : Mem) (L : Nat) (fs : FnsC) (n : Int) (b off len cap : Nat) (i : Int) (s : List (Nat × Value)) (kn : KS) (kx : Nat → KS) (kr : KS) : run (SC r) 243 70 L (ic (ic (rc (lc (rc cGh))))) fs none kn kx kr s (TGh n (RS2 b off len cap) i .nil .nil) [] emptyA =
    bif decide (i < Int.ofNat len) then bif decide (0 ≤ i) then bif Nat.blt (Int.toNat i) len then Option.casesOn (r b (Nat.add (Nat.add off (Nat.mul (Int.toNat i) 2)) 0)) (CR.fail 423) fun val => bif isI IntKind.i64 val then bif decide (0 ≤ i) then bif Nat.blt (Int.toNat i) len then Option.casesOn (r b (Nat.add (Nat.add off (Nat.mul (Int.toNat i) 2)) 1)) (CR.fail 423) fun val_1 => bif isI IntKind.i64 val_1 then bif decide (ofI val < 0) then kr [] (Tr.node (Tr.node (Tr.node (Tr.node Tr.nil (some (Value.int IntKind.i64 (ofI val_1))) Tr.nil) none Tr.nil) (some (Value.slice (some (Addr.mk b off (some 0))) len cap)) (Tr.node Tr.nil (some (Value.int IntKind.i64 i)) Tr.nil)) (some (Value.int IntKind.i64 n)) (Tr.node (Tr.node Tr.nil (some (Value.bool false)) Tr.nil) none (Tr.node Tr.nil (some (Value.int IntKind.i64 (ofI val))) Tr.nil))) [] (AW.mk 0 Tr.nil Tr.nil) else bif decide (ofI val ≥ ofI val_1) then kr [] (Tr.node (Tr.node (Tr.node (Tr.node Tr.nil (some (Value.int IntKind.i64 (ofI val_1))) Tr.nil) none Tr.nil) (some (Value.slice (some (Addr.mk b off (some 0))) len cap)) (Tr.node Tr.nil (some (Value.int IntKind.i64 i)) Tr.nil)) (some (Value.int IntKind.i64 n)) (Tr.node (Tr.node Tr.nil (some (Value.bool false)) Tr.nil) none (Tr.node Tr.nil (some (Value.int IntKind.i64 (ofI val))) Tr.nil))) [] (AW.mk 0 Tr.nil Tr.nil) else bif decide (ofI val_1 ≥ n) then kr [] (Tr.node (Tr.node (Tr.node (Tr.node Tr.nil (some (Value.int IntKind.i64 (ofI val_1))) Tr.nil) none Tr.nil) (some (Value.slice (some (Addr.mk b off (some 0))) len cap)) (Tr.node Tr.nil (some (Value.int IntKind.i64 i)) Tr.nil)) (some (Value.int IntKind.i64 n)) (Tr.node (Tr.node Tr.nil (some (Value.bool false)) Tr.nil) none (Tr.node Tr.nil (some (Value.int IntKind.i64 (ofI val))) Tr.nil))) [] (AW.mk 0 Tr.nil Tr.nil) else bif decide (i > 0) then bif decide (0 ≤ IntKind.wrap IntKind.i64 (i - Int.ofNat 1)) then bif Nat.blt (Int.toNat (IntKind.wrap IntKind.i64 (i - Int.ofNat 1))) len then Option.casesOn (r b (Nat.add (Nat.add off (Nat.mul (Int.toNat (IntKind.wrap IntKind.i64 (i - Int.ofNat 1))) 2)) 0)) (CR.fail 423) fun val_2 => bif isI IntKind.i64 val_2 then bif decide (ofI val_2 > ofI val) then kr [] (Tr.node (Tr.node (Tr.node (Tr.node Tr.nil (some (Value.int IntKind.i64 (ofI val_1))) Tr.nil) none Tr.nil) (some (Value.slice (some (Addr.mk b off (some 0))) len cap)) (Tr.node Tr.nil (some (Value.int IntKind.i64 i)) Tr.nil)) (some (Value.int IntKind.i64 n)) (Tr.node (Tr.node Tr.nil (some (Value.bool false)) Tr.nil) none (Tr.node Tr.nil (some (Value.int IntKind.i64 (ofI val))) Tr.nil))) [] (AW.mk 0 Tr.nil Tr.nil) else bif decide (0 ≤ IntKind.wrap IntKind.i64 (i - Int.ofNat 1)) then bif Nat.blt (Int.toNat (IntKind.wrap IntKind.i64 (i - Int.ofNat 1))) len then Option.casesOn (r b (Nat.add (Nat.add off (Nat.mul (Int.toNat (IntKind.wrap IntKind.i64 (i - Int.ofNat 1))) 2)) 0)) (CR.fail 423) fun val_3 => bif isI IntKind.i64 val_3 then bif ofI val_3 == ofI val then bif decide (0 ≤ IntKind.wrap IntKind.i64 (i - Int.ofNat 1)) then bif Nat.blt (Int.toNat (IntKind.wrap IntKind.i64 (i - Int.ofNat 1))) len then Option.casesOn (r b (Nat.add (Nat.add off (Nat.mul (Int.toNat (IntKind.wrap IntKind.i64 (i - Int.ofNat 1))) 2)) 1)) (CR.fail 423) fun val_4 => bif isI IntKind.i64 val_4 then bif decide (ofI val_4 ≥ ofI val_1) then kr [] (Tr.node (Tr.node (Tr.node (Tr.node Tr.nil (some (Value.int IntKind.i64 (ofI val_1))) Tr.nil) none Tr.nil) (some (Value.slice (some (Addr.mk b off (some 0))) len cap)) (Tr.node Tr.nil (some (Value.int IntKind.i64 i)) Tr.nil)) (some (Value.int IntKind.i64 n)) (Tr.node (Tr.node Tr.nil (some (Value.bool false)) Tr.nil) none (Tr.node Tr.nil (some (Value.int IntKind.i64 (ofI val))) Tr.nil))) [] (AW.mk 0 Tr.nil Tr.nil) else kn [(13, Value.int IntKind.i64 (IntKind.wrap IntKind.i64 (i + Int.ofNat 1))), (12, Value.int IntKind.i64 i)] (Tr.node (Tr.node (Tr.node (Tr.node Tr.nil (some (Value.int IntKind.i64 (ofI val_1))) Tr.nil) none Tr.nil) (some (Value.slice (some (Addr.mk b off (some 0))) len cap)) (Tr.node Tr.nil (some (Value.int IntKind.i64 (IntKind.wrap IntKind.i64 (i + Int.ofNat 1)))) Tr.nil)) (some (Value.int IntKind.i64 n)) (Tr.node (Tr.node Tr.nil (some (Value.bool false)) Tr.nil) none (Tr.node Tr.nil (some (Value.int IntKind.i64 (ofI val))) Tr.nil))) [] (AW.mk 0 Tr.nil Tr.nil) else CR.fail 420 else CR.fail 420 else CR.fail 420 else kn [(13, Value.int IntKind.i64 (IntKind.wrap IntKind.i64 (i + Int.ofNat 1))), (12, Value.int IntKind.i64 i)] (Tr.node (Tr.node (Tr.node (Tr.node Tr.nil (some (Value.int IntKind.i64 (ofI val_1))) Tr.nil) none Tr.nil) (some (Value.slice (some (Addr.mk b off (some 0))) len cap)) (Tr.node Tr.nil (some (Value.int IntKind.i64 (IntKind.wrap IntKind.i64 (i + Int.ofNat 1)))) Tr.nil)) (some (Value.int IntKind.i64 n)) (Tr.node (Tr.node Tr.nil (some (Value.bool false)) Tr.nil) none (Tr.node Tr.nil (some (Value.int IntKind.i64 (ofI val))) Tr.nil))) [] (AW.mk 0 Tr.nil Tr.nil) else CR.fail 420 else CR.fail 420 else CR.fail 420 else CR.fail 420 else CR.fail 420 else CR.fail 420 else kn [(13, Value.int IntKind.i64 (IntKind.wrap IntKind.i64 (i + Int.ofNat 1))), (12, Value.int IntKind.i64 i)] (Tr.node (Tr.node (Tr.node (Tr.node Tr.nil (some (Value.int IntKind.i64 (ofI val_1))) Tr.nil) none Tr.nil) (some (Value.slice (some (Addr.mk b off (some 0))) len cap)) (Tr.node Tr.nil (some (Value.int IntKind.i64 (IntKind.wrap IntKind.i64 (i + Int.ofNat 1)))) Tr.nil)) (some (Value.int IntKind.i64 n)) (Tr.node (Tr.node Tr.nil (some (Value.bool false)) Tr.nil) none (Tr.node Tr.nil (some (Value.int IntKind.i64 (ofI val))) Tr.nil))) [] (AW.mk 0 Tr.nil Tr.nil) else CR.fail 420 else CR.fail 420 else CR.fail 420 else CR.fail 420 else CR.fail 420 else CR.fail 420 else kx 0 [(11, Value.bool false), (10, Value.int IntKind.i64 (Int.ofNat len)), (9, Value.slice (some (Addr.mk b off (some 0))) len cap), (8, Value.int IntKind.i64 i)] (Tr.node (Tr.node Tr.nil (some (Value.slice (some (Addr.mk b off (some 0))) len cap)) (Tr.node Tr.nil (some (Value.int IntKind.i64 i)) Tr.nil)) (some (Value.int IntKind.i64 n)) (Tr.node (Tr.node Tr.nil (some (Value.bool false)) Tr.nil) none Tr.nil)) [] (AW.mk 0 Tr.nil Tr.nil) := by kernel_rfl

theorem ghB2 (r : Mem) (L : Nat) (fs : FnsC) (n : Int) (b off len cap : Nat) (i : Int) (v6 v7 : Value) (s : List (Nat × Value)) (kn : KS) (kx : Nat → KS) (kr : KS) : run (SC r) 243 70 L (ic (ic (rc (lc (rc cGh))))) fs none kn kx kr s (TGh n (RS2 b off len cap) i (oG7 v7) (oG6 v6)) [] emptyA =
    bif decide (i < Int.ofNat len) then bif decide (0 ≤ i) then bif Nat.blt (Int.toNat i) len then Option.casesOn (r b (Nat.add (Nat.add off (Nat.mul (Int.toNat i) 2)) 0)) (CR.fail 423) fun val => bif isI IntKind.i64 val then bif decide (0 ≤ i) then bif Nat.blt (Int.toNat i) len then Option.casesOn (r b (Nat.add (Nat.add off (Nat.mul (Int.toNat i) 2)) 1)) (CR.fail 423) fun val_1 => bif isI IntKind.i64 val_1 then bif decide (ofI val < 0) then kr [] (Tr.node (Tr.node (Tr.node (Tr.node Tr.nil (some (Value.int IntKind.i64 (ofI val_1))) Tr.nil) none Tr.nil) (some (Value.slice (some (Addr.mk b off (some 0))) len cap)) (Tr.node Tr.nil (some (Value.int IntKind.i64 i)) Tr.nil)) (some (Value.int IntKind.i64 n)) (Tr.node (Tr.node Tr.nil (some (Value.bool false)) Tr.nil) none (Tr.node Tr.nil (some (Value.int IntKind.i64 (ofI val))) Tr.nil))) [] (AW.mk 0 Tr.nil Tr.nil) else bif decide (ofI val ≥ ofI val_1) then kr [] (Tr.node (Tr.node (Tr.node (Tr.node Tr.nil (some (Value.int IntKind.i64 (ofI val_1))) Tr.nil) none Tr.nil) (some (Value.slice (some (Addr.mk b off (some 0))) len cap)) (Tr.node Tr.nil (some (Value.int IntKind.i64 i)) Tr.nil)) (some (Value.int IntKind.i64 n)) (Tr.node (Tr.node Tr.nil (some (Value.bool false)) Tr.nil) none (Tr.node Tr.nil (some (Value.int IntKind.i64 (ofI val))) Tr.nil))) [] (AW.mk 0 Tr.nil Tr.nil) else bif decide (ofI val_1 ≥ n) then kr [] (Tr.node (Tr.node (Tr.node (Tr.node Tr.nil (some (Value.int IntKind.i64 (ofI val_1))) Tr.nil) none Tr.nil) (some (Value.slice (some (Addr.mk b off (some 0))) len cap)) (Tr.node Tr.nil (some (Value.int IntKind.i64 i)) Tr.nil)) (some (Value.int IntKind.i64 n)) (Tr.node (Tr.node Tr.nil (some (Value.bool false)) Tr.nil) none (Tr.node Tr.nil (some (Value.int IntKind.i64 (ofI val))) Tr.nil))) [] (AW.mk 0 Tr.nil Tr.nil) else bif decide (i > 0) then bif decide (0 ≤ IntKind.wrap IntKind.i64 (i - Int.ofNat 1)) then bif Nat.blt (Int.toNat (IntKind.wrap IntKind.i64 (i - Int.ofNat 1))) len then Option.casesOn (r b (Nat.add (Nat.add off (Nat.mul (Int.toNat (IntKind.wrap IntKind.i64 (i - Int.ofNat 1))) 2)) 0)) (CR.fail 423) fun val_2 => bif isI IntKind.i64 val_2 then bif decide (ofI val_2 > ofI val) then kr [] (Tr.node (Tr.node (Tr.node (Tr.node Tr.nil (some (Value.int IntKind.i64 (ofI val_1))) Tr.nil) none Tr.nil) (some (Value.slice (some (Addr.mk b off (some 0))) len cap)) (Tr.node Tr.nil (some (Value.int IntKind.i64 i)) Tr.nil)) (some (Value.int IntKind.i64 n)) (Tr.node (Tr.node Tr.nil (some (Value.bool false)) Tr.nil) none (Tr.node Tr.nil (some (Value.int IntKind.i64 (ofI val))) Tr.nil))) [] (AW.mk 0 Tr.nil Tr.nil) else bif decide (0 ≤ IntKind.wrap IntKind.i64 (i - Int.ofNat 1)) then bif Nat.blt (Int.toNat (IntKind.wrap IntKind.i64 (i - Int.ofNat 1))) len then Option.casesOn (r b (Nat.add (Nat.add off (Nat.mul (Int.toNat (IntKind.wrap IntKind.i64 (i - Int.ofNat 1))) 2)) 0)) (CR.fail 423) fun val_3 => bif isI IntKind.i64 val_3 then bif ofI val_3 == ofI val then bif decide (0 ≤ IntKind.wrap IntKind.i64 (i - Int.ofNat 1)) then bif Nat.blt (Int.toNat (IntKind.wrap IntKind.i64 (i - Int.ofNat 1))) len then Option.casesOn (r b (Nat.add (Nat.add off (Nat.mul (Int.toNat (IntKind.wrap IntKind.i64 (i - Int.ofNat 1))) 2)) 1)) (CR.fail 423) fun val_4 => bif isI IntKind.i64 val_4 then bif decide (ofI val_4 ≥ ofI val_1) then kr [] (Tr.node (Tr.node (Tr.node (Tr.node Tr.nil (some (Value.int IntKind.i64 (ofI val_1))) Tr.nil) none Tr.nil) (some (Value.slice (some (Addr.mk b off (some 0))) len cap)) (Tr.node Tr.nil (some (Value.int IntKind.i64 i)) Tr.nil)) (some (Value.int IntKind.i64 n)) (Tr.node (Tr.node Tr.nil (some (Value.bool false)) Tr.nil) none (Tr.node Tr.nil (some (Value.int IntKind.i64 (ofI val))) Tr.nil))) [] (AW.mk 0 Tr.nil Tr.nil) else kn [(13, Value.int IntKind.i64 (IntKind.wrap IntKind.i64 (i + Int.ofNat 1))), (12, Value.int IntKind.i64 i)] (Tr.node (Tr.node (Tr.node (Tr.node Tr.nil (some (Value.int IntKind.i64 (ofI val_1))) Tr.nil) none Tr.nil) (some (Value.slice (some (Addr.mk b off (some 0))) len cap)) (Tr.node Tr.nil (some (Value.int IntKind.i64 (IntKind.wrap IntKind.i64 (i + Int.ofNat 1)))) Tr.nil)) (some (Value.int IntKind.i64 n)) (Tr.node (Tr.node Tr.nil (some (Value.bool false)) Tr.nil) none (Tr.node Tr.nil (some (Value.int IntKind.i64 (ofI val))) Tr.nil))) [] (AW.mk 0 Tr.nil Tr.nil) else CR.fail 420 else CR.fail 420 else CR.fail 420 else kn [(13, Value.int IntKind.i64 (IntKind.wrap IntKind.i64 (i + Int.ofNat 1))), (12, Value.int IntKind.i64 i)] (Tr.node (Tr.node (Tr.node (Tr.node Tr.nil (some (Value.int IntKind.i64 (ofI val_1))) Tr.nil) none Tr.nil) (some (Value.slice (some (Addr.mk b off (some 0))) len cap)) (Tr.node Tr.nil (some (Value.int IntKind.i64 (IntKind.wrap IntKind.i64 (i + Int.ofNat 1)))) Tr.nil)) (some (Value.int IntKind.i64 n)) (Tr.node (Tr.node Tr.nil (some (Value.bool false)) Tr.nil) none (Tr.node Tr.nil (some (Value.int IntKind.i64 (ofI val))) Tr.nil))) [] (AW.mk 0 Tr.nil Tr.nil) else CR.fail 420 else CR.fail 420 else CR.fail 420 else CR.fail 420 else CR.fail 420 else CR.fail 420 else kn [(13, Value.int IntKind.i64 (IntKind.wrap IntKind.i64 (i + Int.ofNat 1))), (12, Value.int IntKind.i64 i)] (Tr.node (Tr.node (Tr.node (Tr.node Tr.nil (some (Value.int IntKind.i64 (ofI val_1))) Tr.nil) none Tr.nil) (some (Value.slice (some (Addr.mk b off (some 0))) len cap)) (Tr.node Tr.nil (some (Value.int IntKind.i64 (IntKind.wrap IntKind.i64 (i + Int.ofNat 1)))) Tr.nil)) (some (Value.int IntKind.i64 n)) (Tr.node (Tr.node Tr.nil (some (Value.bool false)) Tr.nil) none (Tr.node Tr.nil (some (Value.int IntKind.i64 (ofI val))) Tr.nil))) [] (AW.mk 0 Tr.nil Tr.nil) else CR.fail 420 else CR.fail 420 else CR.fail 420 else CR.fail 420 else CR.fail 420 else CR.fail 420 else kx 0 [(11, Value.bool false), (10, Value.int IntKind.i64 (Int.ofNat len)), (9, Value.slice (some (Addr.mk b off (some 0))) len cap), (8, Value.int IntKind.i64 i)] (Tr.node (Tr.node (Tr.node (Tr.node Tr.nil (some v7) Tr.nil) none Tr.nil) (some (Value.slice (some (Addr.mk b off (some 0))) len cap)) (Tr.node Tr.nil (some (Value.int IntKind.i64 i)) Tr.nil)) (some (Value.int IntKind.i64 n)) (Tr.node (Tr.node Tr.nil (some (Value.bool false)) Tr.nil) none (Tr.node Tr.nil (some v6) Tr.nil))) [] (AW.mk 0 Tr.nil Tr.nil) := by kernel_rfl

theorem ghC (r : Mem) (L : Nat) (fs : FnsC) (n : Int) (sl : Value) (i : Int) (l3 r6 : Tr Value) (s : List (Nat × Value)) (kn : KS) (kx : Nat → KS) (kr : KS) : run (SC r) 243 70 L (rc (rc cGh)) fs none kn kx kr s (TGh n sl i l3 r6) [] emptyA =
    kr [] (Tr.node (Tr.node l3 (some sl) (Tr.node Tr.nil (some (Value.int IntKind.i64 i)) Tr.nil)) (some (Value.int IntKind.i64 n)) (Tr.node (Tr.node Tr.nil (some (Value.bool true)) Tr.nil) none r6)) [] (AW.mk 0 Tr.nil Tr.nil) := by kernel_rfl

end Go.Proofs

/- The reference's check of a graph: what the calls answer. -/
namespace Go.Proofs
open Go Go.Ev Go.Num
set_option linter.unusedVariables false
set_option linter.unusedSimpArgs false

/-- A row of numbers in memory that came in. -/
def rowAt (r : Mem) (b off m : Nat) (z : Nat → Int) : Prop := ∀ j, j < m → r b (off + j) = some (I (z j))

theorem gh_round1 (r : Mem) (L : Nat) (fs : FnsC) (n : Int) (b off len cap : Nat) (z : Nat → Int) (hz : rowAt r b off (2 * len) z) (hl : len ≤ 1000000) (k : Nat) (hk : k < len) (s : List (Nat × Value)) (kn : KS) (kx : Nat → KS) (kr : KS) (R : CR)
    (hF : okAt n z k = false → ∀ s l3 r6, kr s (TGh n (RS2 b off len cap) k l3 r6) [] emptyA = R) (hT : okAt n z k = true → ∀ s v6 v7, kn s (TGh n (RS2 b off len cap) ((k + 1 : Nat) : Int) (oG7 v7) (oG6 v6)) [] emptyA = R) :
    run (SC r) 243 70 L (ic (ic (rc (lc (rc cGh))))) fs none kn kx kr s (TGh n (RS2 b off len cap) k .nil .nil) [] emptyA = R := by
  rw [ghB1]
  have c1 : (k : Int) < Int.ofNat len := by simp; omega
  have c2 : 0 ≤ (k : Int) := by omega
  have c3 : Nat.blt k len = true := Nat.ble_eq_true_of_le (by omega)
  have l0 : r b (Nat.add (Nat.add off (Nat.mul k 2)) 0) = some (I (ea z k)) := by
    have := hz (2 * k) (by omega)
    rw [show Nat.add (Nat.add off (Nat.mul k 2)) 0 = off + 2 * k by simp [Nat.mul_comm]]
    exact this
  have l1 : r b (Nat.add (Nat.add off (Nat.mul k 2)) 1) = some (I (eb z k)) := by
    have := hz (2 * k + 1) (by omega)
    rw [show Nat.add (Nat.add off (Nat.mul k 2)) 1 = off + (2 * k + 1) by simp [Nat.mul_comm]; omega]
    exact this
  have w : IntKind.wrap IntKind.i64 ((k : Int) + Int.ofNat 1) = ((k + 1 : Nat) : Int) := by rw [wrI (by simp; omega)]; simp
  have ii : ∀ x, isI IntKind.i64 (I x) = true := fun _ => rfl
  have oo : ∀ x, ofI (I x) = x := fun _ => rfl
  simp only [dT c1, dT c2, c3, cond_true, Int.toNat_natCast, l0, l1, ii, oo, w]
  by_cases d1 : ea z k < 0
  · simp only [dT d1, cond_true]
    exact hF (by simp [okAt, show ¬ 0 ≤ ea z k by omega]) _ _ _
  · simp only [dF d1, cond_false]
    by_cases d2 : ea z k ≥ eb z k
    · simp only [dT d2, cond_true]
      exact hF (by simp [okAt, show ¬ ea z k < eb z k by omega]) _ _ _
    · simp only [dF d2, cond_false]
      by_cases d3 : eb z k ≥ n
      · simp only [dT d3, cond_true]
        exact hF (by simp [okAt, show ¬ eb z k < n by omega]) _ _ _
      · simp only [dF d3, cond_false]
        have b1 : 0 ≤ ea z k := by omega
        have b2 : ea z k < eb z k := by omega
        have b3 : eb z k < n := by omega
        by_cases d4 : (k : Int) > 0
        · have w1 : IntKind.wrap IntKind.i64 ((k : Int) - Int.ofNat 1) = ((k - 1 : Nat) : Int) := by rw [wrI (by simp; omega)]; simp; omega
          have c4 : 0 ≤ ((k - 1 : Nat) : Int) := by omega
          have c5 : Nat.blt (k - 1) len = true := Nat.ble_eq_true_of_le (by omega)
          have p0 : r b (Nat.add (Nat.add off (Nat.mul (k - 1) 2)) 0) = some (I (ea z (k - 1))) := by
            have := hz (2 * (k - 1)) (by omega)
            rw [show Nat.add (Nat.add off (Nat.mul (k - 1) 2)) 0 = off + 2 * (k - 1) by simp [Nat.mul_comm]]
            exact this
          have p1 : r b (Nat.add (Nat.add off (Nat.mul (k - 1) 2)) 1) = some (I (eb z (k - 1))) := by
            have := hz (2 * (k - 1) + 1) (by omega)
            rw [show Nat.add (Nat.add off (Nat.mul (k - 1) 2)) 1 = off + (2 * (k - 1) + 1) by simp [Nat.mul_comm]; omega]
            exact this
          have k0 : (k == 0) = false := by simp; omega
          simp only [dT d4, cond_true, w1, dT c4, Int.toNat_natCast, c5, p0, p1, ii, oo]
          by_cases d5 : ea z (k - 1) > ea z k
          · simp only [dT d5, cond_true]
            exact hF (by simp [okAt, k0, show ¬ ea z (k - 1) < ea z k by omega, show ¬ ea z (k - 1) = ea z k by omega]) _ _ _
          · simp only [dF d5, cond_false]
            by_cases d6 : ea z (k - 1) = ea z k
            · simp only [eqT d6, cond_true]
              by_cases d7 : eb z (k - 1) ≥ eb z k
              · simp only [dT d7, cond_true]
                exact hF (by simp [okAt, k0, d6, show ¬ eb z (k - 1) < eb z k by omega]) _ _ _
              · simp only [dF d7, cond_false]
                exact hT (by simp [okAt, k0, d6, b1, b2, b3]; omega) _ _ _
            · simp only [eqF d6, cond_false]
              exact hT (by simp [okAt, k0, b1, b2, b3]; omega) _ _ _
        · have k0 : k = 0 := by omega
          simp only [dF d4, cond_false]
          exact hT (by subst k0; simp [okAt, b1, b2, b3]) _ _ _
theorem gh_round2 (r : Mem) (L : Nat) (fs : FnsC) (n : Int) (b off len cap : Nat) (z : Nat → Int) (hz : rowAt r b off (2 * len) z) (hl : len ≤ 1000000) (k : Nat) (hk : k < len) (v6' v7' : Value) (s : List (Nat × Value)) (kn : KS) (kx : Nat → KS) (kr : KS) (R : CR)
    (hF : okAt n z k = false → ∀ s l3 r6, kr s (TGh n (RS2 b off len cap) k l3 r6) [] emptyA = R) (hT : okAt n z k = true → ∀ s v6 v7, kn s (TGh n (RS2 b off len cap) ((k + 1 : Nat) : Int) (oG7 v7) (oG6 v6)) [] emptyA = R) :
    run (SC r) 243 70 L (ic (ic (rc (lc (rc cGh))))) fs none kn kx kr s (TGh n (RS2 b off len cap) k (oG7 v7') (oG6 v6')) [] emptyA = R := by
  rw [ghB2]
  have c1 : (k : Int) < Int.ofNat len := by simp; omega
  have c2 : 0 ≤ (k : Int) := by omega
  have c3 : Nat.blt k len = true := Nat.ble_eq_true_of_le (by omega)
  have l0 : r b (Nat.add (Nat.add off (Nat.mul k 2)) 0) = some (I (ea z k)) := by
    have := hz (2 * k) (by omega)
    rw [show Nat.add (Nat.add off (Nat.mul k 2)) 0 = off + 2 * k by simp [Nat.mul_comm]]
    exact this
  have l1 : r b (Nat.add (Nat.add off (Nat.mul k 2)) 1) = some (I (eb z k)) := by
    have := hz (2 * k + 1) (by omega)
    rw [show Nat.add (Nat.add off (Nat.mul k 2)) 1 = off + (2 * k + 1) by simp [Nat.mul_comm]; omega]
    exact this
  have w : IntKind.wrap IntKind.i64 ((k : Int) + Int.ofNat 1) = ((k + 1 : Nat) : Int) := by rw [wrI (by simp; omega)]; simp
  have ii : ∀ x, isI IntKind.i64 (I x) = true := fun _ => rfl
  have oo : ∀ x, ofI (I x) = x := fun _ => rfl
  simp only [dT c1, dT c2, c3, cond_true, Int.toNat_natCast, l0, l1, ii, oo, w]
  by_cases d1 : ea z k < 0
  · simp only [dT d1, cond_true]
    exact hF (by simp [okAt, show ¬ 0 ≤ ea z k by omega]) _ _ _
  · simp only [dF d1, cond_false]
    by_cases d2 : ea z k ≥ eb z k
    · simp only [dT d2, cond_true]
      exact hF (by simp [okAt, show ¬ ea z k < eb z k by omega]) _ _ _
    · simp only [dF d2, cond_false]
      by_cases d3 : eb z k ≥ n
      · simp only [dT d3, cond_true]
        exact hF (by simp [okAt, show ¬ eb z k < n by omega]) _ _ _
      · simp only [dF d3, cond_false]
        have b1 : 0 ≤ ea z k := by omega
        have b2 : ea z k < eb z k := by omega
        have b3 : eb z k < n := by omega
        by_cases d4 : (k : Int) > 0
        · have w1 : IntKind.wrap IntKind.i64 ((k : Int) - Int.ofNat 1) = ((k - 1 : Nat) : Int) := by rw [wrI (by simp; omega)]; simp; omega
          have c4 : 0 ≤ ((k - 1 : Nat) : Int) := by omega
          have c5 : Nat.blt (k - 1) len = true := Nat.ble_eq_true_of_le (by omega)
          have p0 : r b (Nat.add (Nat.add off (Nat.mul (k - 1) 2)) 0) = some (I (ea z (k - 1))) := by
            have := hz (2 * (k - 1)) (by omega)
            rw [show Nat.add (Nat.add off (Nat.mul (k - 1) 2)) 0 = off + 2 * (k - 1) by simp [Nat.mul_comm]]
            exact this
          have p1 : r b (Nat.add (Nat.add off (Nat.mul (k - 1) 2)) 1) = some (I (eb z (k - 1))) := by
            have := hz (2 * (k - 1) + 1) (by omega)
            rw [show Nat.add (Nat.add off (Nat.mul (k - 1) 2)) 1 = off + (2 * (k - 1) + 1) by simp [Nat.mul_comm]; omega]
            exact this
          have k0 : (k == 0) = false := by simp; omega
          simp only [dT d4, cond_true, w1, dT c4, Int.toNat_natCast, c5, p0, p1, ii, oo]
          by_cases d5 : ea z (k - 1) > ea z k
          · simp only [dT d5, cond_true]
            exact hF (by simp [okAt, k0, show ¬ ea z (k - 1) < ea z k by omega, show ¬ ea z (k - 1) = ea z k by omega]) _ _ _
          · simp only [dF d5, cond_false]
            by_cases d6 : ea z (k - 1) = ea z k
            · simp only [eqT d6, cond_true]
              by_cases d7 : eb z (k - 1) ≥ eb z k
              · simp only [dT d7, cond_true]
                exact hF (by simp [okAt, k0, d6, show ¬ eb z (k - 1) < eb z k by omega]) _ _ _
              · simp only [dF d7, cond_false]
                exact hT (by simp [okAt, k0, d6, b1, b2, b3]; omega) _ _ _
            · simp only [eqF d6, cond_false]
              exact hT (by simp [okAt, k0, b1, b2, b3]; omega) _ _ _
        · have k0 : k = 0 := by omega
          simp only [dF d4, cond_false]
          exact hT (by subst k0; simp [okAt, b1, b2, b3]) _ _ _

theorem gh_loop (r : Mem) (L : Nat) (fs : FnsC) (kx : Nat → KS) (kr : KS) (n : Int) (b off len cap : Nat) (z : Nat → Int) (hz : rowAt r b off (2 * len) z) (hl : len ≤ 1000000) (V : Bool) (R : CR)
    (hT : V = true → ∀ s i l3 r6, kx 0 s (TGh n (RS2 b off len cap) i l3 r6) [] emptyA = R) (hF : V = false → ∀ s i l3 r6, kr s (TGh n (RS2 b off len cap) i l3 r6) [] emptyA = R) :
    ∀ (j k : Nat) (s : List (Nat × Value)), k ≤ len → len - k < j → okFrom n z (len - k) k = V →
    cLoop (fun kl => run (SC r) 243 70 L (ic (ic (rc (lc (rc cGh))))) fs none kl kx kr) j s (TGh n (RS2 b off len cap) k .nil .nil) [] emptyA = R ∧
    ∀ v6 v7, cLoop (fun kl => run (SC r) 243 70 L (ic (ic (rc (lc (rc cGh))))) fs none kl kx kr) j s (TGh n (RS2 b off len cap) k (oG7 v7) (oG6 v6)) [] emptyA = R := by
  intro j
  induction j with
  | zero => intro k s _ h; omega
  | succ j ih =>
    intro k s hk hj hV
    rw [cLoop_succ]
    by_cases c : k < len
    · have e : len - k = (len - (k + 1)) + 1 := by omega
      rw [e, okFrom] at hV
      have f1 : okAt n z k = false → V = false := fun h => by rw [h, Bool.false_and] at hV; exact hV.symm
      have f2 : okAt n z k = true → okFrom n z (len - (k + 1)) (k + 1) = V := fun h => by rw [h, Bool.true_and] at hV; exact hV
      refine ⟨?_, fun v6 v7 => ?_⟩
      · exact gh_round1 r L fs n b off len cap z hz hl k c s _ _ _ R (fun h s l3 r6 => hF (f1 h) s _ l3 r6) fun h s v6 v7 => (ih (k + 1) s (by omega) (by omega) (f2 h)).2 v6 v7
      · exact gh_round2 r L fs n b off len cap z hz hl k c v6 v7 s _ _ _ R (fun h s l3 r6 => hF (f1 h) s _ l3 r6) fun h s v6 v7 => (ih (k + 1) s (by omega) (by omega) (f2 h)).2 v6 v7
    · have c1 : ¬ (k : Int) < Int.ofNat len := by simp; omega
      have e : len - k = 0 := by omega
      rw [e, okFrom] at hV
      refine ⟨?_, fun v6 v7 => ?_⟩
      · rw [ghB1, dF c1, cond_false]
        exact hT hV.symm _ _ .nil .nil
      · rw [ghB2, dF c1, cond_false]
        exact hT hV.symm _ _ (oG7 v7) (oG6 v6)

theorem cGh_eq : cGh = .seq (lc cGh) (.seq (.seq (lc (lc (rc cGh))) (.block 0 (.loop (ic (ic (rc (lc (rc cGh)))))))) (rc (rc cGh))) := by kernel_rfl
def mskGh : Tr Nat := Tr.nil.put 18 (some 243)

/-- Whether a row is the edges of a graph. -/
theorem edges_ok (r : Mem) (n : Int) (b off len cap : Nat) (z : Nat → Int) (hz : rowAt r b off (2 * len) z) (hl : len ≤ 1000000) : GrT Tryz.prog r 18 [I n, RS2 b off len cap] (.bool (okAll n z len)) := by
  refine GrT.of (SC_ok r) TOk.nil mskGh rfl ⟨len + 1, 1, ?_⟩
  rw [enterN (m := 243) (n := 70) (rs := [.tmp 4]) cGh rfl (by kernel_rfl) (by kernel_rfl) (by kernel_rfl) (by kernel_rfl) (by kernel_rfl) rfl]
  generalize hk : finK (SC r) 243 [.tmp 4] fin = kr
  rw [cGh_eq, run_pre, run_while, ghA]
  refine (gh_loop r _ _ _ _ n b off len cap z hz hl (okAll n z len) _ ?_ ?_ _ 0 _ (by omega) (by omega) rfl).1
  · intro hV s i l3 r6
    refine (ghC r _ _ n _ i l3 r6 s _ _ _).trans ?_
    rw [hV, ← hk]; rfl
  · intro hV s i l3 r6
    rw [hV, ← hk]; rfl

end Go.Proofs

/- Edges added to a graph, run. -/
namespace Go.Proofs
open Go Go.Ev Go.Num
set_option linter.unusedVariables false
set_option linter.unusedSimpArgs false

def rfAs : Code → Code
  | .rangeFunc _ _ a _ => a
  | c => c
def rfBd : Code → Code
  | .rangeFunc _ _ _ b => b
  | c => c
noncomputable def cJn : Code := bodyOf S0 37
noncomputable def k_ja : Code := rfAs (ic (rc (lc (rc cJn))))
noncomputable def k_jb : Code := rfBd (ic (rc (lc (rc cJn))))
noncomputable def k_jc : Code := rfAs (ic (rc (rc (rc cJn))))
noncomputable def k_jd : Code := rfBd (ic (rc (rc (rc cJn))))
abbrev U (z : Int) : Value := .int .u64 z
def m_tz (x : Int) : Int := if x = 1 then 0 else if x = 2 then 1 else if x = 4 then 2 else if x = 8 then 3 else if x = 16 then 4 else if x = 32 then 5 else if x = 64 then 6 else if x = 128 then 7 else if x = 256 then 8 else if x = 512 then 9 else if x = 1024 then 10 else if x = 2048 then 11 else if x = 4096 then 12 else if x = 8192 then 13 else if x = 16384 then 14 else 15
def m_tzG (x : Int) : Bool := decide (∃ i : Fin 16, x = 2 ^ i.val)
/-- The world in which a graph is read: the answer's place, the graph, the edge. -/
def ARd2 (g : List Value) (a b : Int) : AW := AW.mk 3 (Tr.node (Tr.node Tr.nil (some (.cells g 53 1 0)) Tr.nil) (some (.cells (I 0 :: List.replicate 16 (U 0)) 53 0 0)) (Tr.node Tr.nil (some (.cells [I a, I b] 56 2 0)) Tr.nil)) Tr.nil
def tJn : Tbl := tcons 48 (ent (fun args _ => match args with | [.int .u64 x] => m_tzG x | _ => false) (fun args _ => match args with | [.int .u64 x] => I (m_tz x) | _ => undef)) fun _ => none

theorem jnA1 (r : Mem) (g : List Value) (a b s t : Int) (kn : KS) (kx : Nat → KS) (kr : KS) : run (SC r) 16778495 36 4 (.seq (.seq (lc cJn) (lc (lc (rc cJn)))) (rc (lc (rc cJn)))) (lvlT (SC r) tJn .nil 2 6) none kn kx kr (sc0 16778495 [.pointer (some ⟨1, 0, none⟩), U s, U t]) (tr0 16778495 [.pointer (some ⟨1, 0, none⟩), U s, U t]) [] (ARd2 g a b) =
    bif s != Int.ofNat 0 then bif m_tzG s then bif decide (0 ≤ m_tz s) then bif Nat.blt (Int.toNat (m_tz s)) 16 then Option.casesOn g[Nat.add 1 (Nat.mul (Int.toNat (m_tz s)) 1)]? (CR.fail 423) fun val => bif isI IntKind.u64 val then bif decide (0 ≤ m_tz s) then bif Nat.blt (Int.toNat (m_tz s)) 16 then bif Nat.blt (Nat.add 1 (Nat.mul (Int.toNat (m_tz s)) 1)) (List.length g) then bif m_eqv (Value.int IntKind.u64 t) (Value.int IntKind.u64 t) then Option.casesOn g[Nat.add 1 (Nat.mul (Int.toNat (m_tz s)) 1)]? (CR.fail 423) fun val_1 => bif isI IntKind.u64 val_1 then bif m_eqv (Value.int IntKind.u64 (ofI val_1)) (Value.int IntKind.u64 (ofI val)) then bif ibits BinOp.and IntKind.u64 s (IntKind.wrap IntKind.u64 (s - Int.ofNat 1)) != Int.ofNat 0 then bif m_tzG (ibits BinOp.and IntKind.u64 s (IntKind.wrap IntKind.u64 (s - Int.ofNat 1))) then bif decide (0 ≤ m_tz (ibits BinOp.and IntKind.u64 s (IntKind.wrap IntKind.u64 (s - Int.ofNat 1)))) then bif Nat.blt (Int.toNat (m_tz (ibits BinOp.and IntKind.u64 s (IntKind.wrap IntKind.u64 (s - Int.ofNat 1))))) 16 then Option.casesOn (List.set g (Nat.add 1 (Nat.mul (Int.toNat (m_tz s)) 1)) (Value.int IntKind.u64 (ibits BinOp.or IntKind.u64 (ofI val) t)))[Nat.add 1 (Nat.mul (Int.toNat (m_tz (ibits BinOp.and IntKind.u64 s (IntKind.wrap IntKind.u64 (s - Int.ofNat 1))))) 1)]? (CR.fail 423) fun val_2 => bif isI IntKind.u64 val_2 then bif decide (0 ≤ m_tz (ibits BinOp.and IntKind.u64 s (IntKind.wrap IntKind.u64 (s - Int.ofNat 1)))) then bif Nat.blt (Int.toNat (m_tz (ibits BinOp.and IntKind.u64 s (IntKind.wrap IntKind.u64 (s - Int.ofNat 1))))) 16 then bif Nat.blt (Nat.add 1 (Nat.mul (Int.toNat (m_tz (ibits BinOp.and IntKind.u64 s (IntKind.wrap IntKind.u64 (s - Int.ofNat 1))))) 1)) (List.length (List.set g (Nat.add 1 (Nat.mul (Int.toNat (m_tz s)) 1)) (Value.int IntKind.u64 (ibits BinOp.or IntKind.u64 (ofI val) t)))) then bif m_eqv (Value.int IntKind.u64 t) (Value.int IntKind.u64 t) then Option.casesOn (List.set g (Nat.add 1 (Nat.mul (Int.toNat (m_tz s)) 1)) (Value.int IntKind.u64 (ibits BinOp.or IntKind.u64 (ofI val) t)))[Nat.add 1 (Nat.mul (Int.toNat (m_tz (ibits BinOp.and IntKind.u64 s (IntKind.wrap IntKind.u64 (s - Int.ofNat 1))))) 1)]? (CR.fail 423) fun val => bif isI IntKind.u64 val then bif m_eqv (Value.int IntKind.u64 (ofI val)) (Value.int IntKind.u64 (ofI val_2)) then CR.fail 230 else CR.fail 420 else CR.fail 420 else CR.fail 420 else CR.fail 420 else CR.fail 420 else CR.fail 420 else CR.fail 420 else CR.fail 420 else CR.fail 420 else CR.fail 420 else kn [(9, Value.func (Fn.func 68) (Array.mk []) (Array.mk [Value.pointer (some (Addr.mk 6 0 none))])), (8, Value.int IntKind.u64 s)] (Tr.node (Tr.node (Tr.node Tr.nil (some (Value.pointer (some (Addr.mk 3 0 none)))) Tr.nil) (some (Value.int IntKind.u64 s)) (Tr.node Tr.nil (some (Value.pointer (some (Addr.mk 5 0 none)))) Tr.nil)) (some (Value.pointer (some (Addr.mk 1 0 none)))) (Tr.node (Tr.node Tr.nil (some (Value.pointer (some (Addr.mk 4 0 none)))) Tr.nil) (some (Value.int IntKind.u64 t)) Tr.nil)) [7] (AW.mk 9 (Tr.node (Tr.node (Tr.node (Tr.node Tr.nil (some AObj.defd) Tr.nil) (some (AObj.cells [Value.pointer (some (Addr.mk 1 0 none))] 102 3 0)) Tr.nil) (some (AObj.cells (List.set g (Nat.add 1 (Nat.mul (Int.toNat (m_tz s)) 1)) (Value.int IntKind.u64 (ibits BinOp.or IntKind.u64 (ofI val) t))) 53 1 0)) (Tr.node Tr.nil (some (AObj.cells [Value.int IntKind.u64 t] 50 5 0)) Tr.nil)) (some (AObj.cells [Value.int IntKind.i64 (Int.ofNat 0), Value.int IntKind.u64 (Int.ofNat 0), Value.int IntKind.u64 (Int.ofNat 0), Value.int IntKind.u64 (Int.ofNat 0), Value.int IntKind.u64 (Int.ofNat 0), Value.int IntKind.u64 (Int.ofNat 0), Value.int IntKind.u64 (Int.ofNat 0), Value.int IntKind.u64 (Int.ofNat 0), Value.int IntKind.u64 (Int.ofNat 0), Value.int IntKind.u64 (Int.ofNat 0), Value.int IntKind.u64 (Int.ofNat 0), Value.int IntKind.u64 (Int.ofNat 0), Value.int IntKind.u64 (Int.ofNat 0), Value.int IntKind.u64 (Int.ofNat 0), Value.int IntKind.u64 (Int.ofNat 0), Value.int IntKind.u64 (Int.ofNat 0), Value.int IntKind.u64 (Int.ofNat 0)] 53 0 0)) (Tr.node (Tr.node (Tr.node Tr.nil (some (AObj.loop LoopState.exhausted none 16778495 (En.mk [(9, Value.func (Fn.func 68) (Array.mk []) (Array.mk [Value.pointer (some (Addr.mk 6 0 none))])), (8, Value.int IntKind.u64 s)] (Tr.node (Tr.node (Tr.node Tr.nil (some (Value.pointer (some (Addr.mk 3 0 none)))) Tr.nil) (some (Value.int IntKind.u64 s)) (Tr.node Tr.nil (some (Value.pointer (some (Addr.mk 5 0 none)))) Tr.nil)) (some (Value.pointer (some (Addr.mk 1 0 none)))) (Tr.node (Tr.node Tr.nil (some (Value.pointer (some (Addr.mk 4 0 none)))) Tr.nil) (some (Value.int IntKind.u64 t)) Tr.nil))) 36 (Array.mk [10]) k_ja k_jb 7)) Tr.nil) (some (AObj.cells [Value.int IntKind.u64 s] 50 4 0)) Tr.nil) (some (AObj.cells [Value.int IntKind.i64 a, Value.int IntKind.i64 b] 56 2 0)) (Tr.node Tr.nil (some (AObj.cells [Value.int IntKind.u64 s] 50 6 0)) Tr.nil))) Tr.nil) else CR.fail 420 else CR.fail 420 else CR.fail 420 else CR.fail 420 else CR.fail 420 else CR.fail 420 else CR.fail 420 else CR.fail 420 else CR.fail 420 else CR.fail 420 else kn [(9, Value.func (Fn.func 68) (Array.mk []) (Array.mk [Value.pointer (some (Addr.mk 6 0 none))])), (8, Value.int IntKind.u64 s)] (Tr.node (Tr.node (Tr.node Tr.nil (some (Value.pointer (some (Addr.mk 3 0 none)))) Tr.nil) (some (Value.int IntKind.u64 s)) (Tr.node Tr.nil (some (Value.pointer (some (Addr.mk 5 0 none)))) Tr.nil)) (some (Value.pointer (some (Addr.mk 1 0 none)))) (Tr.node (Tr.node Tr.nil (some (Value.pointer (some (Addr.mk 4 0 none)))) Tr.nil) (some (Value.int IntKind.u64 t)) Tr.nil)) [7] (AW.mk 9 (Tr.node (Tr.node (Tr.node (Tr.node Tr.nil (some AObj.defd) Tr.nil) (some (AObj.cells [Value.pointer (some (Addr.mk 1 0 none))] 102 3 0)) Tr.nil) (some (AObj.cells g 53 1 0)) (Tr.node Tr.nil (some (AObj.cells [Value.int IntKind.u64 t] 50 5 0)) Tr.nil)) (some (AObj.cells [Value.int IntKind.i64 (Int.ofNat 0), Value.int IntKind.u64 (Int.ofNat 0), Value.int IntKind.u64 (Int.ofNat 0), Value.int IntKind.u64 (Int.ofNat 0), Value.int IntKind.u64 (Int.ofNat 0), Value.int IntKind.u64 (Int.ofNat 0), Value.int IntKind.u64 (Int.ofNat 0), Value.int IntKind.u64 (Int.ofNat 0), Value.int IntKind.u64 (Int.ofNat 0), Value.int IntKind.u64 (Int.ofNat 0), Value.int IntKind.u64 (Int.ofNat 0), Value.int IntKind.u64 (Int.ofNat 0), Value.int IntKind.u64 (Int.ofNat 0), Value.int IntKind.u64 (Int.ofNat 0), Value.int IntKind.u64 (Int.ofNat 0), Value.int IntKind.u64 (Int.ofNat 0), Value.int IntKind.u64 (Int.ofNat 0)] 53 0 0)) (Tr.node (Tr.node (Tr.node Tr.nil (some (AObj.loop LoopState.exhausted none 16778495 (En.mk [(9, Value.func (Fn.func 68) (Array.mk []) (Array.mk [Value.pointer (some (Addr.mk 6 0 none))])), (8, Value.int IntKind.u64 s)] (Tr.node (Tr.node (Tr.node Tr.nil (some (Value.pointer (some (Addr.mk 3 0 none)))) Tr.nil) (some (Value.int IntKind.u64 s)) (Tr.node Tr.nil (some (Value.pointer (some (Addr.mk 5 0 none)))) Tr.nil)) (some (Value.pointer (some (Addr.mk 1 0 none)))) (Tr.node (Tr.node Tr.nil (some (Value.pointer (some (Addr.mk 4 0 none)))) Tr.nil) (some (Value.int IntKind.u64 t)) Tr.nil))) 36 (Array.mk [10]) k_ja k_jb 7)) Tr.nil) (some (AObj.cells [Value.int IntKind.u64 s] 50 4 0)) Tr.nil) (some (AObj.cells [Value.int IntKind.i64 a, Value.int IntKind.i64 b] 56 2 0)) (Tr.node Tr.nil (some (AObj.cells [Value.int IntKind.u64 s] 50 6 0)) Tr.nil))) Tr.nil) := by kernel_rfl

def resG : List Value := I 0 :: List.replicate 16 (U 0)
def TJn (s t : Int) : Tr Value := (Tr.node (Tr.node (Tr.node Tr.nil (some (Value.pointer (some (Addr.mk 3 0 none)))) Tr.nil) (some (Value.int IntKind.u64 s)) (Tr.node Tr.nil (some (Value.pointer (some (Addr.mk 5 0 none)))) Tr.nil)) (some (Value.pointer (some (Addr.mk 1 0 none)))) (Tr.node (Tr.node Tr.nil (some (Value.pointer (some (Addr.mk 4 0 none)))) Tr.nil) (some (Value.int IntKind.u64 t)) Tr.nil))
/-- Between the two halves. -/
noncomputable def AJx (g : List Value) (a b s t : Int) : AW := AW.mk 9 (Tr.node (Tr.node (Tr.node (Tr.node Tr.nil (some AObj.defd) Tr.nil) (some (AObj.cells [Value.pointer (some (Addr.mk 1 0 none))] 102 3 0)) Tr.nil) (some (AObj.cells g 53 1 0)) (Tr.node Tr.nil (some (AObj.cells [U t] 50 5 0)) Tr.nil)) (some (AObj.cells resG 53 0 0)) (Tr.node (Tr.node (Tr.node Tr.nil (some (AObj.loop LoopState.exhausted none 16778495 (En.mk [(9, Value.func (Fn.func 68) (Array.mk []) (Array.mk [Value.pointer (some (Addr.mk 6 0 none))])), (8, U s)] (TJn s t)) 36 (Array.mk [10]) k_ja k_jb 7)) Tr.nil) (some (AObj.cells [U s] 50 4 0)) Tr.nil) (some (AObj.cells [I a, I b] 56 2 0)) (Tr.node Tr.nil (some (AObj.cells [U s] 50 6 0)) Tr.nil))) Tr.nil

theorem jnA2 (r : Mem) (g : List Value) (a b s t : Int) (sc : List (Nat × Value)) (kn : KS) (kx : Nat → KS) (kr : KS) : run (SC r) 16778495 36 4 (rc (rc cJn)) (lvlT (SC r) tJn .nil 2 6) none kn kx kr sc (TJn s t) [7] (AJx g a b s t) =
    bif t != Int.ofNat 0 then bif m_tzG t then bif decide (0 ≤ m_tz t) then bif Nat.blt (Int.toNat (m_tz t)) 16 then Option.casesOn g[Nat.add 1 (Nat.mul (Int.toNat (m_tz t)) 1)]? (CR.fail 423) fun val => bif isI IntKind.u64 val then bif decide (0 ≤ m_tz t) then bif Nat.blt (Int.toNat (m_tz t)) 16 then bif Nat.blt (Nat.add 1 (Nat.mul (Int.toNat (m_tz t)) 1)) (List.length g) then bif m_eqv (Value.int IntKind.u64 s) (Value.int IntKind.u64 s) then Option.casesOn g[Nat.add 1 (Nat.mul (Int.toNat (m_tz t)) 1)]? (CR.fail 423) fun val_1 => bif isI IntKind.u64 val_1 then bif m_eqv (Value.int IntKind.u64 (ofI val_1)) (Value.int IntKind.u64 (ofI val)) then bif ibits BinOp.and IntKind.u64 t (IntKind.wrap IntKind.u64 (t - Int.ofNat 1)) != Int.ofNat 0 then bif m_tzG (ibits BinOp.and IntKind.u64 t (IntKind.wrap IntKind.u64 (t - Int.ofNat 1))) then bif decide (0 ≤ m_tz (ibits BinOp.and IntKind.u64 t (IntKind.wrap IntKind.u64 (t - Int.ofNat 1)))) then bif Nat.blt (Int.toNat (m_tz (ibits BinOp.and IntKind.u64 t (IntKind.wrap IntKind.u64 (t - Int.ofNat 1))))) 16 then Option.casesOn (List.set g (Nat.add 1 (Nat.mul (Int.toNat (m_tz t)) 1)) (Value.int IntKind.u64 (ibits BinOp.or IntKind.u64 (ofI val) s)))[Nat.add 1 (Nat.mul (Int.toNat (m_tz (ibits BinOp.and IntKind.u64 t (IntKind.wrap IntKind.u64 (t - Int.ofNat 1))))) 1)]? (CR.fail 423) fun val_2 => bif isI IntKind.u64 val_2 then bif decide (0 ≤ m_tz (ibits BinOp.and IntKind.u64 t (IntKind.wrap IntKind.u64 (t - Int.ofNat 1)))) then bif Nat.blt (Int.toNat (m_tz (ibits BinOp.and IntKind.u64 t (IntKind.wrap IntKind.u64 (t - Int.ofNat 1))))) 16 then bif Nat.blt (Nat.add 1 (Nat.mul (Int.toNat (m_tz (ibits BinOp.and IntKind.u64 t (IntKind.wrap IntKind.u64 (t - Int.ofNat 1))))) 1)) (List.length (List.set g (Nat.add 1 (Nat.mul (Int.toNat (m_tz t)) 1)) (Value.int IntKind.u64 (ibits BinOp.or IntKind.u64 (ofI val) s)))) then bif m_eqv (Value.int IntKind.u64 s) (Value.int IntKind.u64 s) then Option.casesOn (List.set g (Nat.add 1 (Nat.mul (Int.toNat (m_tz t)) 1)) (Value.int IntKind.u64 (ibits BinOp.or IntKind.u64 (ofI val) s)))[Nat.add 1 (Nat.mul (Int.toNat (m_tz (ibits BinOp.and IntKind.u64 t (IntKind.wrap IntKind.u64 (t - Int.ofNat 1))))) 1)]? (CR.fail 423) fun val => bif isI IntKind.u64 val then bif m_eqv (Value.int IntKind.u64 (ofI val)) (Value.int IntKind.u64 (ofI val_2)) then CR.fail 230 else CR.fail 420 else CR.fail 420 else CR.fail 420 else CR.fail 420 else CR.fail 420 else CR.fail 420 else CR.fail 420 else CR.fail 420 else CR.fail 420 else CR.fail 420 else kn [(23, Value.func (Fn.func 68) (Array.mk []) (Array.mk [Value.pointer (some (Addr.mk 9 0 none))])), (22, Value.int IntKind.u64 t)] (Tr.node (Tr.node (Tr.node Tr.nil (some (Value.pointer (some (Addr.mk 3 0 none)))) Tr.nil) (some (Value.int IntKind.u64 s)) (Tr.node Tr.nil (some (Value.pointer (some (Addr.mk 5 0 none)))) Tr.nil)) (some (Value.pointer (some (Addr.mk 1 0 none)))) (Tr.node (Tr.node Tr.nil (some (Value.pointer (some (Addr.mk 4 0 none)))) Tr.nil) (some (Value.int IntKind.u64 t)) Tr.nil)) [10, 7] (AW.mk 12 (Tr.node (Tr.node (Tr.node (Tr.node Tr.nil (some AObj.defd) Tr.nil) (some (AObj.cells [Value.pointer (some (Addr.mk 1 0 none))] 102 3 0)) (Tr.node Tr.nil (some (AObj.loop LoopState.exhausted none 16778495 (En.mk [(23, Value.func (Fn.func 68) (Array.mk []) (Array.mk [Value.pointer (some (Addr.mk 9 0 none))])), (22, Value.int IntKind.u64 t)] (Tr.node (Tr.node (Tr.node Tr.nil (some (Value.pointer (some (Addr.mk 3 0 none)))) Tr.nil) (some (Value.int IntKind.u64 s)) (Tr.node Tr.nil (some (Value.pointer (some (Addr.mk 5 0 none)))) Tr.nil)) (some (Value.pointer (some (Addr.mk 1 0 none)))) (Tr.node (Tr.node Tr.nil (some (Value.pointer (some (Addr.mk 4 0 none)))) Tr.nil) (some (Value.int IntKind.u64 t)) Tr.nil))) 36 (Array.mk [24]) k_jc k_jd 10)) Tr.nil)) (some (AObj.cells (List.set g (Nat.add 1 (Nat.mul (Int.toNat (m_tz t)) 1)) (Value.int IntKind.u64 (ibits BinOp.or IntKind.u64 (ofI val) s))) 53 1 0)) (Tr.node (Tr.node Tr.nil (some (AObj.cells [Value.int IntKind.u64 t] 50 9 0)) Tr.nil) (some (AObj.cells [Value.int IntKind.u64 t] 50 5 0)) Tr.nil)) (some (AObj.cells [Value.int IntKind.i64 (Int.ofNat 0), Value.int IntKind.u64 (Int.ofNat 0), Value.int IntKind.u64 (Int.ofNat 0), Value.int IntKind.u64 (Int.ofNat 0), Value.int IntKind.u64 (Int.ofNat 0), Value.int IntKind.u64 (Int.ofNat 0), Value.int IntKind.u64 (Int.ofNat 0), Value.int IntKind.u64 (Int.ofNat 0), Value.int IntKind.u64 (Int.ofNat 0), Value.int IntKind.u64 (Int.ofNat 0), Value.int IntKind.u64 (Int.ofNat 0), Value.int IntKind.u64 (Int.ofNat 0), Value.int IntKind.u64 (Int.ofNat 0), Value.int IntKind.u64 (Int.ofNat 0), Value.int IntKind.u64 (Int.ofNat 0), Value.int IntKind.u64 (Int.ofNat 0), Value.int IntKind.u64 (Int.ofNat 0)] 53 0 0)) (Tr.node (Tr.node (Tr.node Tr.nil (some (AObj.loop LoopState.exhausted none 16778495 (En.mk [(9, Value.func (Fn.func 68) (Array.mk []) (Array.mk [Value.pointer (some (Addr.mk 6 0 none))])), (8, Value.int IntKind.u64 s)] (Tr.node (Tr.node (Tr.node Tr.nil (some (Value.pointer (some (Addr.mk 3 0 none)))) Tr.nil) (some (Value.int IntKind.u64 s)) (Tr.node Tr.nil (some (Value.pointer (some (Addr.mk 5 0 none)))) Tr.nil)) (some (Value.pointer (some (Addr.mk 1 0 none)))) (Tr.node (Tr.node Tr.nil (some (Value.pointer (some (Addr.mk 4 0 none)))) Tr.nil) (some (Value.int IntKind.u64 t)) Tr.nil))) 36 (Array.mk [10]) k_ja k_jb 7)) Tr.nil) (some (AObj.cells [Value.int IntKind.u64 s] 50 4 0)) Tr.nil) (some (AObj.cells [Value.int IntKind.i64 a, Value.int IntKind.i64 b] 56 2 0)) (Tr.node (Tr.node Tr.nil (some AObj.defd) Tr.nil) (some (AObj.cells [Value.int IntKind.u64 s] 50 6 0)) Tr.nil))) Tr.nil) else CR.fail 420 else CR.fail 420 else CR.fail 420 else CR.fail 420 else CR.fail 420 else CR.fail 420 else CR.fail 420 else CR.fail 420 else CR.fail 420 else CR.fail 420 else kn [(23, Value.func (Fn.func 68) (Array.mk []) (Array.mk [Value.pointer (some (Addr.mk 9 0 none))])), (22, Value.int IntKind.u64 t)] (Tr.node (Tr.node (Tr.node Tr.nil (some (Value.pointer (some (Addr.mk 3 0 none)))) Tr.nil) (some (Value.int IntKind.u64 s)) (Tr.node Tr.nil (some (Value.pointer (some (Addr.mk 5 0 none)))) Tr.nil)) (some (Value.pointer (some (Addr.mk 1 0 none)))) (Tr.node (Tr.node Tr.nil (some (Value.pointer (some (Addr.mk 4 0 none)))) Tr.nil) (some (Value.int IntKind.u64 t)) Tr.nil)) [10, 7] (AW.mk 12 (Tr.node (Tr.node (Tr.node (Tr.node Tr.nil (some AObj.defd) Tr.nil) (some (AObj.cells [Value.pointer (some (Addr.mk 1 0 none))] 102 3 0)) (Tr.node Tr.nil (some (AObj.loop LoopState.exhausted none 16778495 (En.mk [(23, Value.func (Fn.func 68) (Array.mk []) (Array.mk [Value.pointer (some (Addr.mk 9 0 none))])), (22, Value.int IntKind.u64 t)] (Tr.node (Tr.node (Tr.node Tr.nil (some (Value.pointer (some (Addr.mk 3 0 none)))) Tr.nil) (some (Value.int IntKind.u64 s)) (Tr.node Tr.nil (some (Value.pointer (some (Addr.mk 5 0 none)))) Tr.nil)) (some (Value.pointer (some (Addr.mk 1 0 none)))) (Tr.node (Tr.node Tr.nil (some (Value.pointer (some (Addr.mk 4 0 none)))) Tr.nil) (some (Value.int IntKind.u64 t)) Tr.nil))) 36 (Array.mk [24]) k_jc k_jd 10)) Tr.nil)) (some (AObj.cells g 53 1 0)) (Tr.node (Tr.node Tr.nil (some (AObj.cells [Value.int IntKind.u64 t] 50 9 0)) Tr.nil) (some (AObj.cells [Value.int IntKind.u64 t] 50 5 0)) Tr.nil)) (some (AObj.cells [Value.int IntKind.i64 (Int.ofNat 0), Value.int IntKind.u64 (Int.ofNat 0), Value.int IntKind.u64 (Int.ofNat 0), Value.int IntKind.u64 (Int.ofNat 0), Value.int IntKind.u64 (Int.ofNat 0), Value.int IntKind.u64 (Int.ofNat 0), Value.int IntKind.u64 (Int.ofNat 0), Value.int IntKind.u64 (Int.ofNat 0), Value.int IntKind.u64 (Int.ofNat 0), Value.int IntKind.u64 (Int.ofNat 0), Value.int IntKind.u64 (Int.ofNat 0), Value.int IntKind.u64 (Int.ofNat 0), Value.int IntKind.u64 (Int.ofNat 0), Value.int IntKind.u64 (Int.ofNat 0), Value.int IntKind.u64 (Int.ofNat 0), Value.int IntKind.u64 (Int.ofNat 0), Value.int IntKind.u64 (Int.ofNat 0)] 53 0 0)) (Tr.node (Tr.node (Tr.node Tr.nil (some (AObj.loop LoopState.exhausted none 16778495 (En.mk [(9, Value.func (Fn.func 68) (Array.mk []) (Array.mk [Value.pointer (some (Addr.mk 6 0 none))])), (8, Value.int IntKind.u64 s)] (Tr.node (Tr.node (Tr.node Tr.nil (some (Value.pointer (some (Addr.mk 3 0 none)))) Tr.nil) (some (Value.int IntKind.u64 s)) (Tr.node Tr.nil (some (Value.pointer (some (Addr.mk 5 0 none)))) Tr.nil)) (some (Value.pointer (some (Addr.mk 1 0 none)))) (Tr.node (Tr.node Tr.nil (some (Value.pointer (some (Addr.mk 4 0 none)))) Tr.nil) (some (Value.int IntKind.u64 t)) Tr.nil))) 36 (Array.mk [10]) k_ja k_jb 7)) Tr.nil) (some (AObj.cells [Value.int IntKind.u64 s] 50 4 0)) Tr.nil) (some (AObj.cells [Value.int IntKind.i64 a, Value.int IntKind.i64 b] 56 2 0)) (Tr.node (Tr.node Tr.nil (some AObj.defd) Tr.nil) (some (AObj.cells [Value.int IntKind.u64 s] 50 6 0)) Tr.nil))) Tr.nil) := by kernel_rfl

end Go.Proofs

/- Edges added to a graph: what the call leaves. -/
namespace Go.Proofs
open Go Go.Ev Go.Num
set_option linter.unusedVariables false
set_option linter.unusedSimpArgs false


/-- A word with one bit. -/
def bit (i : Nat) : Int := 2 ^ i
theorem tz_use {x : Int} (h : m_tzG x = true) : ∃ i : Fin 16, x = bit i.val := of_decide_eq_true h

theorem least_ok (r : Mem) (hm : ∀ b j u, tabM b j = some u → r b j = some u) (i : Fin 16) : GrT Tryz.prog r 48 [U (bit i.val)] (I (m_tz (bit i.val))) := by
  match i with
  | ⟨0, _⟩ => exact (GrT.closedRo evMixed evNames tabM .nil 40 20 (by kernel_rfl)).less hm
  | ⟨1, _⟩ => exact (GrT.closedRo evMixed evNames tabM .nil 40 20 (by kernel_rfl)).less hm
  | ⟨2, _⟩ => exact (GrT.closedRo evMixed evNames tabM .nil 40 20 (by kernel_rfl)).less hm
  | ⟨3, _⟩ => exact (GrT.closedRo evMixed evNames tabM .nil 40 20 (by kernel_rfl)).less hm
  | ⟨4, _⟩ => exact (GrT.closedRo evMixed evNames tabM .nil 40 20 (by kernel_rfl)).less hm
  | ⟨5, _⟩ => exact (GrT.closedRo evMixed evNames tabM .nil 40 20 (by kernel_rfl)).less hm
  | ⟨6, _⟩ => exact (GrT.closedRo evMixed evNames tabM .nil 40 20 (by kernel_rfl)).less hm
  | ⟨7, _⟩ => exact (GrT.closedRo evMixed evNames tabM .nil 40 20 (by kernel_rfl)).less hm
  | ⟨8, _⟩ => exact (GrT.closedRo evMixed evNames tabM .nil 40 20 (by kernel_rfl)).less hm
  | ⟨9, _⟩ => exact (GrT.closedRo evMixed evNames tabM .nil 40 20 (by kernel_rfl)).less hm
  | ⟨10, _⟩ => exact (GrT.closedRo evMixed evNames tabM .nil 40 20 (by kernel_rfl)).less hm
  | ⟨11, _⟩ => exact (GrT.closedRo evMixed evNames tabM .nil 40 20 (by kernel_rfl)).less hm
  | ⟨12, _⟩ => exact (GrT.closedRo evMixed evNames tabM .nil 40 20 (by kernel_rfl)).less hm
  | ⟨13, _⟩ => exact (GrT.closedRo evMixed evNames tabM .nil 40 20 (by kernel_rfl)).less hm
  | ⟨14, _⟩ => exact (GrT.closedRo evMixed evNames tabM .nil 40 20 (by kernel_rfl)).less hm
  | ⟨15, _⟩ => exact (GrT.closedRo evMixed evNames tabM .nil 40 20 (by kernel_rfl)).less hm
  | ⟨n + 16, h⟩ => exact absurd h (by omega)
theorem tJn_ok (r : Mem) (hm : ∀ b j u, tabM b j = some u → r b j = some u) : TOk (SC r) tJn := TOk.cons TOk.nil (EOk.ent fun args A hg => by
  split at hg
  · obtain ⟨i, rfl⟩ := tz_use hg
    exact (least_ok r hm i).ro rfl A
  · cases hg)

theorem bit_facts (i : Fin 16) : (bit i.val != Int.ofNat 0) = true ∧ m_tzG (bit i.val) = true ∧ m_tz (bit i.val) = i.val ∧ (ibits BinOp.and IntKind.u64 (bit i.val) (IntKind.wrap IntKind.u64 (bit i.val - Int.ofNat 1)) != Int.ofNat 0) = false := by
  refine ⟨?_, decide_eq_true ⟨i, rfl⟩, ?_, ?_⟩
  · revert i; decide
  · revert i; decide
  · revert i; decide

end Go.Proofs

/- Edges added to a graph: the call. -/
namespace Go.Proofs
open Go Go.Ev Go.Num
set_option linter.unusedVariables false
set_option linter.unusedSimpArgs false

/-- A graph's cells: n, and the words of neighbours. -/
def m_g (n : Int) (zs : List Int) : List Value := I n :: zs.map U
theorem g_gnd (n : Int) (zs : List Int) : ∀ v ∈ m_g n zs, gnd v = true := fun v hv => by
  rcases List.mem_cons.1 hv with rfl | h
  · rfl
  · obtain ⟨z, _, rfl⟩ := List.mem_map.1 h
    rfl
theorem g_get {n : Int} {zs : List Int} {k : Nat} (h : k < zs.length) : (m_g n zs)[Nat.add 1 (Nat.mul k 1)]? = some (U zs[k]) := by
  rw [show Nat.add 1 (Nat.mul k 1) = k + 1 by simp [Nat.add_comm]]
  simp [m_g, h]
theorem g_set (n : Int) (zs : List Int) (k : Nat) (z : Int) : (m_g n zs).set (Nat.add 1 (Nat.mul k 1)) (U z) = m_g n (zs.set k z) := by
  rw [show Nat.add 1 (Nat.mul k 1) = k + 1 by simp [Nat.add_comm]]
  simp [m_g, List.map_set]
theorem g_len (n : Int) (zs : List Int) : (m_g n zs).length = zs.length + 1 := by simp [m_g]

/-- A bit more in a word. -/
def orB (z s : Int) : Int := ibits BinOp.or IntKind.u64 z s
def addB (zs : List Int) (i : Nat) (s : Int) : List Int := zs.set i (orB (zs.getD i 0) s)
/-- An edge more. -/
def jnZ (zs : List Int) (i j : Nat) : List Int := addB (addB zs i (bit j)) j (bit i)
theorem addB_len (zs : List Int) (i : Nat) (s : Int) : (addB zs i s).length = zs.length := List.length_set ..

def AJf (g : List Value) (a b : Int) : AW := AW.mk 5 (Tr.node (Tr.node (Tr.node Tr.nil (some .defd) Tr.nil) (some (.cells g 53 1 0)) Tr.nil) (some (.cells resG 53 0 0)) (Tr.node (Tr.node Tr.nil (some .defd) Tr.nil) (some (.cells [I a, I b] 56 2 0)) Tr.nil)) Tr.nil
def AJe (g : List Value) (a b : Int) : AW := AW.mk 5 (((AJf g a b).heap.put 4 none).put 3 none) Tr.nil

theorem veq_u (z : Int) : m_eqv (U z) (U z) = true := by simp [m_eqv, veq, U]
theorem isI_u (z : Int) : isI IntKind.u64 (U z) = true := rfl
theorem ofI_u (z : Int) : ofI (U z) = z := rfl

noncomputable def AJy (g : List Value) (a b s t : Int) : AW := AW.mk 12 (Tr.node (Tr.node (Tr.node (Tr.node Tr.nil (some AObj.defd) Tr.nil) (some (AObj.cells [Value.pointer (some (Addr.mk 1 0 none))] 102 3 0)) (Tr.node Tr.nil (some (AObj.loop LoopState.exhausted none 16778495 (En.mk [(23, Value.func (Fn.func 68) (Array.mk []) (Array.mk [Value.pointer (some (Addr.mk 9 0 none))])), (22, U t)] (TJn s t)) 36 (Array.mk [24]) k_jc k_jd 10)) Tr.nil)) (some (AObj.cells g 53 1 0)) (Tr.node (Tr.node Tr.nil (some (AObj.cells [U t] 50 9 0)) Tr.nil) (some (AObj.cells [U t] 50 5 0)) Tr.nil)) (some (AObj.cells resG 53 0 0)) (Tr.node (Tr.node (Tr.node Tr.nil (some (AObj.loop LoopState.exhausted none 16778495 (En.mk [(9, Value.func (Fn.func 68) (Array.mk []) (Array.mk [Value.pointer (some (Addr.mk 6 0 none))])), (8, U s)] (TJn s t)) 36 (Array.mk [10]) k_ja k_jb 7)) Tr.nil) (some (AObj.cells [U s] 50 4 0)) Tr.nil) (some (AObj.cells [I a, I b] 56 2 0)) (Tr.node (Tr.node Tr.nil (some AObj.defd) Tr.nil) (some (AObj.cells [U s] 50 6 0)) Tr.nil))) Tr.nil

theorem jn_half1 (r : Mem) (n : Int) (zs : List Int) (hl : zs.length = 16) (i j : Fin 16) (a b : Int) (kn : KS) (kx : Nat → KS) (kr : KS) (R : CR)
    (h : ∀ s, kn s (TJn (bit i.val) (bit j.val)) [7] (AJx (m_g n (addB zs i.val (bit j.val))) a b (bit i.val) (bit j.val)) = R) :
    run (SC r) 16778495 36 4 (.seq (.seq (lc cJn) (lc (lc (rc cJn)))) (rc (lc (rc cJn)))) (lvlT (SC r) tJn .nil 2 6) none kn kx kr (sc0 16778495 [.pointer (some ⟨1, 0, none⟩), U (bit i.val), U (bit j.val)]) (tr0 16778495 [.pointer (some ⟨1, 0, none⟩), U (bit i.val), U (bit j.val)]) [] (ARd2 (m_g n zs) a b) = R := by
  have hi : i.val < zs.length := by omega
  have c1 : 0 ≤ (i.val : Int) := by omega
  have c2 : Nat.blt i.val 16 = true := Nat.ble_eq_true_of_le i.isLt
  have c3 : Nat.blt (Nat.add 1 (Nat.mul i.val 1)) (m_g n zs).length = true := Nat.ble_eq_true_of_le (by rw [g_len]; simp [Nat.add_comm]; omega)
  obtain ⟨f1, f2, f3, f4⟩ := bit_facts i
  rw [jnA1, f1, cond_true, f2, cond_true, f3, dT c1, cond_true, Int.toNat_natCast, c2, cond_true, g_get hi]
  dsimp only
  rw [isI_u, cond_true, cond_true, cond_true, c3, cond_true, veq_u, cond_true]
  rw [cond_true, ofI_u, veq_u, cond_true, f4, cond_false, g_set]
  have e : zs.set i.val (ibits BinOp.or IntKind.u64 zs[i.val] (bit j.val)) = addB zs i.val (bit j.val) := by
    unfold addB orB
    rw [List.getD_eq_getElem?_getD, List.getElem?_eq_getElem hi]; rfl
  rw [e]
  exact h _
theorem jn_half2 (r : Mem) (n : Int) (zs : List Int) (hl : zs.length = 16) (k i : Fin 16) (a b : Int) (sc : List (Nat × Value)) (kn : KS) (kx : Nat → KS) (kr : KS) (R : CR)
    (h : ∀ s, kn s (TJn (bit k.val) (bit i.val)) [10, 7] (AJy (m_g n (addB zs i.val (bit k.val))) a b (bit k.val) (bit i.val)) = R) :
    run (SC r) 16778495 36 4 (rc (rc cJn)) (lvlT (SC r) tJn .nil 2 6) none kn kx kr sc (TJn (bit k.val) (bit i.val)) [7] (AJx (m_g n zs) a b (bit k.val) (bit i.val)) = R := by
  have hi : i.val < zs.length := by omega
  have c1 : 0 ≤ (i.val : Int) := by omega
  have c2 : Nat.blt i.val 16 = true := Nat.ble_eq_true_of_le i.isLt
  have c3 : Nat.blt (Nat.add 1 (Nat.mul i.val 1)) (m_g n zs).length = true := Nat.ble_eq_true_of_le (by rw [g_len]; simp [Nat.add_comm]; omega)
  obtain ⟨f1, f2, f3, f4⟩ := bit_facts i
  rw [jnA2, f1, cond_true, f2, cond_true, f3, dT c1, cond_true, Int.toNat_natCast, c2, cond_true, g_get hi]
  dsimp only
  rw [isI_u, cond_true, cond_true, cond_true, c3, cond_true, veq_u, cond_true]
  rw [cond_true, ofI_u, veq_u, cond_true, f4, cond_false, g_set]
  have e : zs.set i.val (ibits BinOp.or IntKind.u64 zs[i.val] (bit k.val)) = addB zs i.val (bit k.val) := by
    unfold addB orB
    rw [List.getD_eq_getElem?_getD, List.getElem?_eq_getElem hi]; rfl
  rw [e]
  exact h _

theorem cJn_eq : cJn = .seq (lc cJn) (.seq (.seq (lc (lc (rc cJn))) (rc (lc (rc cJn)))) (rc (rc cJn))) := by kernel_rfl
theorem run_jn {C : Cfg} {m n L : Nat} (a b c d : Code) (fs : FnsC) (ro : Option Nat) (kn : KS) (kx : Nat → KS) (kr : KS) : run C m n L (.seq a (.seq (.seq b c) d)) fs ro kn kx kr = run C m n L (.seq (.seq a b) c) fs ro (run C m n L d fs ro kn kx kr) kx kr := rfl

theorem join_calls (r : Mem) (hm : ∀ b j u, tabM b j = some u → r b j = some u) (n : Int) (zs : List Int) (hl : zs.length = 16) (i j : Fin 16) (a b : Int) (F : Fence) (hF : Wide F) (k' : Nat) (γ : Gam) (W : World) (args' : Array Value) (hw : WRel γ (ARd2 (m_g n zs) a b) W) (hR : Ro (SC r).ro γ W) (ha : VsRel γ [.pointer (some ⟨1, 0, none⟩), U (bit i.val), U (bit j.val)] args'.toList) :
    CallsIn F k' (SC r).P 37 args' W (Go.Ev.Ends γ W (.tuple ⟨[]⟩) (AJe (m_g n (jnZ zs i.val j.val)) a b)) := by
  obtain ⟨fn, h1, h2, h3, h4⟩ := fn_of (C := SC r) (f := 37) (by kernel_rfl)
  have hn : fn.ntmps = 36 := h3.trans (by kernel_rfl)
  have hr : fn.results.toList = [] := h4.trans (by kernel_rfl)
  rw [bodySC] at h2
  refine call_reach (SC_ok r) h1 h2 16778495 (by rw [hn]; rfl) (fun F k hF hro => ?_) hw hR ha hF k'
  rw [hn, hr]
  have h0 : ∀ i, 3 ≤ i → γ i = none := hw.fresh
  show Go.Ev.Reach (SC r) 16778495 36 F k γ W cJn _ _
  refine Go.Ev.Reach.seg (SC_ok r) (tJn_ok r hm) (tm := .nil) (L := 4) (L' := 2) (d := 6) hF hro ?_
  rw [cJn_eq, run_jn]
  refine jn_half1 r n zs hl i j a b _ _ _ _ fun s => ?_
  refine jn_half2 r n (addB zs i.val (bit j.val)) (by rw [addB_len]; exact hl) i j a b s _ _ _ _ fun s => ?_
  refine qn_ok ⟨.inl rfl, ⟨⟨[], .nil⟩, [4, 3], AJf (m_g n (jnZ zs i.val j.val)) a b⟩, ?_, rfl⟩
  refine Ren.of (fun i => bif Nat.beq i 3 then 7 else bif Nat.beq i 4 then 10 else i) 3 rfl h0 (Nat.le_of_ble_eq_true rfl) (fun i hi => by match i, hi with | 0, _ => rfl | 1, _ => rfl | 2, _ => rfl) ?_ rfl ?_ trivial
  · simp only [Tr.All, AJf]
    repeat' (first | exact trivial | apply And.intro)
    all_goals exact ⟨_, rfl, rfl⟩
  · simp only [Tr.All, AJf, resG]
    repeat' (first | exact trivial | apply And.intro)
    all_goals first | rfl | exact .head _ | exact ⟨_, rfl, .defd⟩ | exact ⟨_, rfl, .cells rfl⟩ | exact ⟨_, rfl, .plain (g_gnd _ _)⟩ | skip

end Go.Proofs

/- The program's reading of a graph, run. -/
namespace Go.Proofs
open Go Go.Ev Go.Num
set_option linter.unusedVariables false
set_option linter.unusedSimpArgs false

noncomputable def cGp : Code := bodyOf S0 19
def m_bit (v : Int) : Int := 2 ^ v.toNat
def m_vG (v : Int) : Bool := decide (0 ≤ v) && decide (v < 16)
def eSg : Ent := eI1 m_vG fun v => U (m_bit v)
def m_cmp (a b : Int) : Int := if a < b then -1 else if a > b then 1 else 0
def eCmp : Ent := eI2 (fun _ _ => true) fun a b => I (m_cmp a b)
noncomputable def tGp (g g' : List Value) (a b : Int) : Tbl := tcons 56 eCmp (tcons 31 eSg (tcons 37 (entAt [.pointer (some ⟨1, 0, none⟩), U (m_bit a), U (m_bit b)] (ARd2 g a b) (.tuple ⟨[]⟩) (AJe g' a b)) fun _ => none))

theorem cmA (r : Mem) (a b : Int) : (lvlT (SC r) (fun _ => none) .nil 1 2).call 56 [I a, I b] emptyA fin =
    bif a != a then bif b != b then CR.ret (Value.int IntKind.i64 (Int.ofNat 0)) (AW.mk 0 Tr.nil Tr.nil) else CR.ret (Value.int IntKind.i64 (Int.negSucc 0)) (AW.mk 0 Tr.nil Tr.nil) else bif b != b then CR.ret (Value.int IntKind.i64 (Int.ofNat 1)) (AW.mk 0 Tr.nil Tr.nil) else bif decide (a < b) then CR.ret (Value.int IntKind.i64 (Int.negSucc 0)) (AW.mk 0 Tr.nil Tr.nil) else bif decide (a > b) then CR.ret (Value.int IntKind.i64 (Int.ofNat 1)) (AW.mk 0 Tr.nil Tr.nil) else CR.ret (Value.int IntKind.i64 (Int.ofNat 0)) (AW.mk 0 Tr.nil Tr.nil) := by kernel_rfl

theorem sgA (r : Mem) (v : Int) : (lvlT (SC r) (fun _ => none) .nil 1 1).call 31 [I v] emptyA fin =
    bif !decide (v < 0) then CR.ret (Value.int IntKind.u64 (IntKind.wrap IntKind.u64 (Int.ofNat 1 * Int.ofNat 2 ^ min (Int.toNat v) 64))) (AW.mk 0 Tr.nil Tr.nil) else CR.fail 420 := by kernel_rfl

theorem gpA (r : Mem) (L : Nat) (n : Int) (sl : Nat × Nat × Nat × Nat) (kn : KS) (kx : Nat → KS) (kr : KS) : run (SC r) 7342067 64 L (.seq (.seq (.seq (lc cGp) (lc (rc cGp))) (lc (rc (rc cGp)))) (lc (lc (rc (rc (rc cGp)))))) (lvlT (SC r) (fun _ => none) .nil 1 1) none kn kx kr (sc0 7342067 [I n, RS2 sl.1 sl.2.1 sl.2.2.1 sl.2.2.2]) (tr0 7342067 [I n, RS2 sl.1 sl.2.1 sl.2.2.1 sl.2.2.2]) [] emptyA =
    bif decide (n < 1) then kr [(17, Value.agg (Array.mk [Value.int IntKind.i64 (Int.ofNat 0), Value.int IntKind.u64 (Int.ofNat 0), Value.int IntKind.u64 (Int.ofNat 0), Value.int IntKind.u64 (Int.ofNat 0), Value.int IntKind.u64 (Int.ofNat 0), Value.int IntKind.u64 (Int.ofNat 0), Value.int IntKind.u64 (Int.ofNat 0), Value.int IntKind.u64 (Int.ofNat 0), Value.int IntKind.u64 (Int.ofNat 0), Value.int IntKind.u64 (Int.ofNat 0), Value.int IntKind.u64 (Int.ofNat 0), Value.int IntKind.u64 (Int.ofNat 0), Value.int IntKind.u64 (Int.ofNat 0), Value.int IntKind.u64 (Int.ofNat 0), Value.int IntKind.u64 (Int.ofNat 0), Value.int IntKind.u64 (Int.ofNat 0), Value.int IntKind.u64 (Int.ofNat 0)]))] (Tr.node (Tr.node Tr.nil (some (Value.slice (some (Addr.mk sl.1 (Prod.snd sl).1 (some 0))) (Prod.snd (Prod.snd sl)).1 (Prod.snd (Prod.snd sl)).2)) (Tr.node Tr.nil (some (Value.int IntKind.i64 (Int.ofNat 1))) Tr.nil)) (some (Value.int IntKind.i64 n)) (Tr.node (Tr.node Tr.nil (some (Value.pointer (some (Addr.mk 0 0 none)))) Tr.nil) none Tr.nil)) [] (AW.mk 1 (Tr.node Tr.nil (some (AObj.cells [Value.int IntKind.i64 (Int.ofNat 0), Value.int IntKind.u64 (Int.ofNat 0), Value.int IntKind.u64 (Int.ofNat 0), Value.int IntKind.u64 (Int.ofNat 0), Value.int IntKind.u64 (Int.ofNat 0), Value.int IntKind.u64 (Int.ofNat 0), Value.int IntKind.u64 (Int.ofNat 0), Value.int IntKind.u64 (Int.ofNat 0), Value.int IntKind.u64 (Int.ofNat 0), Value.int IntKind.u64 (Int.ofNat 0), Value.int IntKind.u64 (Int.ofNat 0), Value.int IntKind.u64 (Int.ofNat 0), Value.int IntKind.u64 (Int.ofNat 0), Value.int IntKind.u64 (Int.ofNat 0), Value.int IntKind.u64 (Int.ofNat 0), Value.int IntKind.u64 (Int.ofNat 0), Value.int IntKind.u64 (Int.ofNat 0)] 53 0 0)) Tr.nil) Tr.nil) else bif decide (n > 16) then kr [(17, Value.agg (Array.mk [Value.int IntKind.i64 (Int.ofNat 0), Value.int IntKind.u64 (Int.ofNat 0), Value.int IntKind.u64 (Int.ofNat 0), Value.int IntKind.u64 (Int.ofNat 0), Value.int IntKind.u64 (Int.ofNat 0), Value.int IntKind.u64 (Int.ofNat 0), Value.int IntKind.u64 (Int.ofNat 0), Value.int IntKind.u64 (Int.ofNat 0), Value.int IntKind.u64 (Int.ofNat 0), Value.int IntKind.u64 (Int.ofNat 0), Value.int IntKind.u64 (Int.ofNat 0), Value.int IntKind.u64 (Int.ofNat 0), Value.int IntKind.u64 (Int.ofNat 0), Value.int IntKind.u64 (Int.ofNat 0), Value.int IntKind.u64 (Int.ofNat 0), Value.int IntKind.u64 (Int.ofNat 0), Value.int IntKind.u64 (Int.ofNat 0)]))] (Tr.node (Tr.node Tr.nil (some (Value.slice (some (Addr.mk sl.1 (Prod.snd sl).1 (some 0))) (Prod.snd (Prod.snd sl)).1 (Prod.snd (Prod.snd sl)).2)) (Tr.node Tr.nil (some (Value.int IntKind.i64 (Int.ofNat 1))) Tr.nil)) (some (Value.int IntKind.i64 n)) (Tr.node (Tr.node Tr.nil (some (Value.pointer (some (Addr.mk 0 0 none)))) Tr.nil) none Tr.nil)) [] (AW.mk 1 (Tr.node Tr.nil (some (AObj.cells [Value.int IntKind.i64 (Int.ofNat 0), Value.int IntKind.u64 (Int.ofNat 0), Value.int IntKind.u64 (Int.ofNat 0), Value.int IntKind.u64 (Int.ofNat 0), Value.int IntKind.u64 (Int.ofNat 0), Value.int IntKind.u64 (Int.ofNat 0), Value.int IntKind.u64 (Int.ofNat 0), Value.int IntKind.u64 (Int.ofNat 0), Value.int IntKind.u64 (Int.ofNat 0), Value.int IntKind.u64 (Int.ofNat 0), Value.int IntKind.u64 (Int.ofNat 0), Value.int IntKind.u64 (Int.ofNat 0), Value.int IntKind.u64 (Int.ofNat 0), Value.int IntKind.u64 (Int.ofNat 0), Value.int IntKind.u64 (Int.ofNat 0), Value.int IntKind.u64 (Int.ofNat 0), Value.int IntKind.u64 (Int.ofNat 0)] 53 0 0)) Tr.nil) Tr.nil) else kn [] (Tr.node (Tr.node Tr.nil (some (Value.slice (some (Addr.mk sl.1 (Prod.snd sl).1 (some 0))) (Prod.snd (Prod.snd sl)).1 (Prod.snd (Prod.snd sl)).2)) (Tr.node Tr.nil (some (Value.int IntKind.i64 (Int.ofNat 0))) (Tr.node (Tr.node Tr.nil (some (Value.int IntKind.i64 (Int.ofNat (Prod.snd (Prod.snd sl)).1))) Tr.nil) none Tr.nil))) (some (Value.int IntKind.i64 n)) (Tr.node (Tr.node Tr.nil (some (Value.pointer (some (Addr.mk 0 0 none)))) (Tr.node (Tr.node Tr.nil (some (Value.slice (some (Addr.mk sl.1 (Prod.snd sl).1 (some 0))) (Prod.snd (Prod.snd sl)).1 (Prod.snd (Prod.snd sl)).2)) Tr.nil) none Tr.nil)) none (Tr.node Tr.nil (some (Value.pointer (some (Addr.mk 1 0 none)))) (Tr.node (Tr.node Tr.nil (some (Value.int IntKind.i64 (Int.ofNat 0))) Tr.nil) none Tr.nil)))) [] (AW.mk 2 (Tr.node (Tr.node Tr.nil (some (AObj.cells [Value.int IntKind.i64 n, Value.int IntKind.u64 (Int.ofNat 0), Value.int IntKind.u64 (Int.ofNat 0), Value.int IntKind.u64 (Int.ofNat 0), Value.int IntKind.u64 (Int.ofNat 0), Value.int IntKind.u64 (Int.ofNat 0), Value.int IntKind.u64 (Int.ofNat 0), Value.int IntKind.u64 (Int.ofNat 0), Value.int IntKind.u64 (Int.ofNat 0), Value.int IntKind.u64 (Int.ofNat 0), Value.int IntKind.u64 (Int.ofNat 0), Value.int IntKind.u64 (Int.ofNat 0), Value.int IntKind.u64 (Int.ofNat 0), Value.int IntKind.u64 (Int.ofNat 0), Value.int IntKind.u64 (Int.ofNat 0), Value.int IntKind.u64 (Int.ofNat 0), Value.int IntKind.u64 (Int.ofNat 0)] 53 1 0)) Tr.nil) (some (AObj.cells [Value.int IntKind.i64 (Int.ofNat 0), Value.int IntKind.u64 (Int.ofNat 0), Value.int IntKind.u64 (Int.ofNat 0), Value.int IntKind.u64 (Int.ofNat 0), Value.int IntKind.u64 (Int.ofNat 0), Value.int IntKind.u64 (Int.ofNat 0), Value.int IntKind.u64 (Int.ofNat 0), Value.int IntKind.u64 (Int.ofNat 0), Value.int IntKind.u64 (Int.ofNat 0), Value.int IntKind.u64 (Int.ofNat 0), Value.int IntKind.u64 (Int.ofNat 0), Value.int IntKind.u64 (Int.ofNat 0), Value.int IntKind.u64 (Int.ofNat 0), Value.int IntKind.u64 (Int.ofNat 0), Value.int IntKind.u64 (Int.ofNat 0), Value.int IntKind.u64 (Int.ofNat 0), Value.int IntKind.u64 (Int.ofNat 0)] 53 0 0)) Tr.nil) Tr.nil) := by kernel_rfl

def TGp (n : Int) (sl : Value) (len : Nat) (i : Int) : Tr Value := (Tr.node (Tr.node Tr.nil (some sl) (Tr.node Tr.nil (some (I 0)) (Tr.node (Tr.node Tr.nil (some (I (Int.ofNat len))) Tr.nil) none Tr.nil))) (some (I n)) (Tr.node (Tr.node Tr.nil (some (.pointer (some ⟨0, 0, none⟩))) (Tr.node (Tr.node Tr.nil (some sl) Tr.nil) none Tr.nil)) none (Tr.node Tr.nil (some (.pointer (some ⟨1, 0, none⟩))) (Tr.node (Tr.node Tr.nil (some (I i)) Tr.nil) none Tr.nil))))
def AGp (g : List Value) : AW := AW.mk 2 (Tr.node (Tr.node Tr.nil (some (.cells g 53 1 0)) Tr.nil) (some (.cells resG 53 0 0)) Tr.nil) Tr.nil

theorem gpB (r : Mem) (L : Nat) (n : Int) (b off len cap : Nat) (i : Int) (g g' : List Value) (x y : Int) (s : List (Nat × Value)) (kn : KS) (kx : Nat → KS) (kr : KS) : run (SC r) 7342067 64 L (ic (ic (rc (lc (rc (rc (rc cGp))))))) (lvlT (SC r) (tGp g g' x y) .nil 4 4) none kn kx kr s (TGp n (RS2 b off len cap) len i) [] (AGp g) =
    bif decide (i < Int.ofNat len) then bif decide (0 ≤ i) then bif Nat.blt (Int.toNat i) len then Option.casesOn (r b (Nat.add off (Nat.mul (Int.toNat i) 2))) (CR.fail 423) fun val => bif isI IntKind.i64 val then Option.casesOn (r b (Nat.succ (Nat.add off (Nat.mul (Int.toNat i) 2)))) (CR.fail 423) fun val_1 => bif isI IntKind.i64 val_1 then bif decide (ofI val < 0) then kr [(43, Value.agg (Array.mk [Value.int IntKind.i64 (Int.ofNat 0), Value.int IntKind.u64 (Int.ofNat 0), Value.int IntKind.u64 (Int.ofNat 0), Value.int IntKind.u64 (Int.ofNat 0), Value.int IntKind.u64 (Int.ofNat 0), Value.int IntKind.u64 (Int.ofNat 0), Value.int IntKind.u64 (Int.ofNat 0), Value.int IntKind.u64 (Int.ofNat 0), Value.int IntKind.u64 (Int.ofNat 0), Value.int IntKind.u64 (Int.ofNat 0), Value.int IntKind.u64 (Int.ofNat 0), Value.int IntKind.u64 (Int.ofNat 0), Value.int IntKind.u64 (Int.ofNat 0), Value.int IntKind.u64 (Int.ofNat 0), Value.int IntKind.u64 (Int.ofNat 0), Value.int IntKind.u64 (Int.ofNat 0), Value.int IntKind.u64 (Int.ofNat 0)]))] (Tr.node (Tr.node (Tr.node (Tr.node Tr.nil (some (Value.int IntKind.i64 i)) Tr.nil) none Tr.nil) (some (Value.slice (some (Addr.mk b off (some 0))) len cap)) (Tr.node (Tr.node Tr.nil (some (Value.int IntKind.i64 (ofI val))) Tr.nil) (some (Value.int IntKind.i64 (Int.ofNat 40))) (Tr.node (Tr.node Tr.nil (some (Value.int IntKind.i64 (Int.ofNat len))) Tr.nil) none Tr.nil))) (some (Value.int IntKind.i64 n)) (Tr.node (Tr.node (Tr.node Tr.nil (some (Value.pointer (some (Addr.mk 2 0 none)))) Tr.nil) (some (Value.pointer (some (Addr.mk 0 0 none)))) (Tr.node (Tr.node Tr.nil (some (Value.slice (some (Addr.mk b off (some 0))) len cap)) Tr.nil) none Tr.nil)) none (Tr.node (Tr.node Tr.nil (some (Value.int IntKind.i64 (ofI val_1))) Tr.nil) (some (Value.pointer (some (Addr.mk 1 0 none)))) (Tr.node (Tr.node Tr.nil (some (Value.int IntKind.i64 i)) Tr.nil) none Tr.nil)))) [] (AW.mk 3 (Tr.node (Tr.node Tr.nil (some (AObj.cells g 53 1 0)) Tr.nil) (some (AObj.cells [Value.int IntKind.i64 (Int.ofNat 0), Value.int IntKind.u64 (Int.ofNat 0), Value.int IntKind.u64 (Int.ofNat 0), Value.int IntKind.u64 (Int.ofNat 0), Value.int IntKind.u64 (Int.ofNat 0), Value.int IntKind.u64 (Int.ofNat 0), Value.int IntKind.u64 (Int.ofNat 0), Value.int IntKind.u64 (Int.ofNat 0), Value.int IntKind.u64 (Int.ofNat 0), Value.int IntKind.u64 (Int.ofNat 0), Value.int IntKind.u64 (Int.ofNat 0), Value.int IntKind.u64 (Int.ofNat 0), Value.int IntKind.u64 (Int.ofNat 0), Value.int IntKind.u64 (Int.ofNat 0), Value.int IntKind.u64 (Int.ofNat 0), Value.int IntKind.u64 (Int.ofNat 0), Value.int IntKind.u64 (Int.ofNat 0)] 53 0 0)) (Tr.node Tr.nil (some (AObj.cells [Value.int IntKind.i64 (ofI val), Value.int IntKind.i64 (ofI val_1)] 56 2 0)) Tr.nil)) Tr.nil) else bif decide (ofI val ≥ ofI val_1) then kr [(43, Value.agg (Array.mk [Value.int IntKind.i64 (Int.ofNat 0), Value.int IntKind.u64 (Int.ofNat 0), Value.int IntKind.u64 (Int.ofNat 0), Value.int IntKind.u64 (Int.ofNat 0), Value.int IntKind.u64 (Int.ofNat 0), Value.int IntKind.u64 (Int.ofNat 0), Value.int IntKind.u64 (Int.ofNat 0), Value.int IntKind.u64 (Int.ofNat 0), Value.int IntKind.u64 (Int.ofNat 0), Value.int IntKind.u64 (Int.ofNat 0), Value.int IntKind.u64 (Int.ofNat 0), Value.int IntKind.u64 (Int.ofNat 0), Value.int IntKind.u64 (Int.ofNat 0), Value.int IntKind.u64 (Int.ofNat 0), Value.int IntKind.u64 (Int.ofNat 0), Value.int IntKind.u64 (Int.ofNat 0), Value.int IntKind.u64 (Int.ofNat 0)]))] (Tr.node (Tr.node (Tr.node (Tr.node Tr.nil (some (Value.int IntKind.i64 i)) Tr.nil) none Tr.nil) (some (Value.slice (some (Addr.mk b off (some 0))) len cap)) (Tr.node (Tr.node Tr.nil (some (Value.int IntKind.i64 (ofI val))) Tr.nil) (some (Value.int IntKind.i64 (Int.ofNat 40))) (Tr.node (Tr.node Tr.nil (some (Value.int IntKind.i64 (Int.ofNat len))) Tr.nil) none Tr.nil))) (some (Value.int IntKind.i64 n)) (Tr.node (Tr.node (Tr.node Tr.nil (some (Value.pointer (some (Addr.mk 2 0 none)))) Tr.nil) (some (Value.pointer (some (Addr.mk 0 0 none)))) (Tr.node (Tr.node Tr.nil (some (Value.slice (some (Addr.mk b off (some 0))) len cap)) Tr.nil) none Tr.nil)) none (Tr.node (Tr.node Tr.nil (some (Value.int IntKind.i64 (ofI val_1))) Tr.nil) (some (Value.pointer (some (Addr.mk 1 0 none)))) (Tr.node (Tr.node Tr.nil (some (Value.int IntKind.i64 i)) Tr.nil) none Tr.nil)))) [] (AW.mk 3 (Tr.node (Tr.node Tr.nil (some (AObj.cells g 53 1 0)) Tr.nil) (some (AObj.cells [Value.int IntKind.i64 (Int.ofNat 0), Value.int IntKind.u64 (Int.ofNat 0), Value.int IntKind.u64 (Int.ofNat 0), Value.int IntKind.u64 (Int.ofNat 0), Value.int IntKind.u64 (Int.ofNat 0), Value.int IntKind.u64 (Int.ofNat 0), Value.int IntKind.u64 (Int.ofNat 0), Value.int IntKind.u64 (Int.ofNat 0), Value.int IntKind.u64 (Int.ofNat 0), Value.int IntKind.u64 (Int.ofNat 0), Value.int IntKind.u64 (Int.ofNat 0), Value.int IntKind.u64 (Int.ofNat 0), Value.int IntKind.u64 (Int.ofNat 0), Value.int IntKind.u64 (Int.ofNat 0), Value.int IntKind.u64 (Int.ofNat 0), Value.int IntKind.u64 (Int.ofNat 0), Value.int IntKind.u64 (Int.ofNat 0)] 53 0 0)) (Tr.node Tr.nil (some (AObj.cells [Value.int IntKind.i64 (ofI val), Value.int IntKind.i64 (ofI val_1)] 56 2 0)) Tr.nil)) Tr.nil) else bif decide (ofI val_1 ≥ n) then kr [(43, Value.agg (Array.mk [Value.int IntKind.i64 (Int.ofNat 0), Value.int IntKind.u64 (Int.ofNat 0), Value.int IntKind.u64 (Int.ofNat 0), Value.int IntKind.u64 (Int.ofNat 0), Value.int IntKind.u64 (Int.ofNat 0), Value.int IntKind.u64 (Int.ofNat 0), Value.int IntKind.u64 (Int.ofNat 0), Value.int IntKind.u64 (Int.ofNat 0), Value.int IntKind.u64 (Int.ofNat 0), Value.int IntKind.u64 (Int.ofNat 0), Value.int IntKind.u64 (Int.ofNat 0), Value.int IntKind.u64 (Int.ofNat 0), Value.int IntKind.u64 (Int.ofNat 0), Value.int IntKind.u64 (Int.ofNat 0), Value.int IntKind.u64 (Int.ofNat 0), Value.int IntKind.u64 (Int.ofNat 0), Value.int IntKind.u64 (Int.ofNat 0)]))] (Tr.node (Tr.node (Tr.node (Tr.node Tr.nil (some (Value.int IntKind.i64 i)) Tr.nil) none Tr.nil) (some (Value.slice (some (Addr.mk b off (some 0))) len cap)) (Tr.node (Tr.node Tr.nil (some (Value.int IntKind.i64 (ofI val))) Tr.nil) (some (Value.int IntKind.i64 (Int.ofNat 40))) (Tr.node (Tr.node Tr.nil (some (Value.int IntKind.i64 (Int.ofNat len))) Tr.nil) none Tr.nil))) (some (Value.int IntKind.i64 n)) (Tr.node (Tr.node (Tr.node Tr.nil (some (Value.pointer (some (Addr.mk 2 0 none)))) Tr.nil) (some (Value.pointer (some (Addr.mk 0 0 none)))) (Tr.node (Tr.node Tr.nil (some (Value.slice (some (Addr.mk b off (some 0))) len cap)) Tr.nil) none Tr.nil)) none (Tr.node (Tr.node Tr.nil (some (Value.int IntKind.i64 (ofI val_1))) Tr.nil) (some (Value.pointer (some (Addr.mk 1 0 none)))) (Tr.node (Tr.node Tr.nil (some (Value.int IntKind.i64 i)) Tr.nil) none Tr.nil)))) [] (AW.mk 3 (Tr.node (Tr.node Tr.nil (some (AObj.cells g 53 1 0)) Tr.nil) (some (AObj.cells [Value.int IntKind.i64 (Int.ofNat 0), Value.int IntKind.u64 (Int.ofNat 0), Value.int IntKind.u64 (Int.ofNat 0), Value.int IntKind.u64 (Int.ofNat 0), Value.int IntKind.u64 (Int.ofNat 0), Value.int IntKind.u64 (Int.ofNat 0), Value.int IntKind.u64 (Int.ofNat 0), Value.int IntKind.u64 (Int.ofNat 0), Value.int IntKind.u64 (Int.ofNat 0), Value.int IntKind.u64 (Int.ofNat 0), Value.int IntKind.u64 (Int.ofNat 0), Value.int IntKind.u64 (Int.ofNat 0), Value.int IntKind.u64 (Int.ofNat 0), Value.int IntKind.u64 (Int.ofNat 0), Value.int IntKind.u64 (Int.ofNat 0), Value.int IntKind.u64 (Int.ofNat 0), Value.int IntKind.u64 (Int.ofNat 0)] 53 0 0)) (Tr.node Tr.nil (some (AObj.cells [Value.int IntKind.i64 (ofI val), Value.int IntKind.i64 (ofI val_1)] 56 2 0)) Tr.nil)) Tr.nil) else bif decide (i > 0) then bif decide (0 ≤ IntKind.wrap IntKind.i64 (i - Int.ofNat 1)) then bif Nat.blt (Int.toNat (IntKind.wrap IntKind.i64 (i - Int.ofNat 1))) len then Option.casesOn (r b (Nat.add (Nat.add off (Nat.mul (Int.toNat (IntKind.wrap IntKind.i64 (i - Int.ofNat 1))) 2)) 0)) (CR.fail 423) fun val_2 => bif isI IntKind.i64 val_2 then bif m_cmp (ofI val_2) (ofI val) != Int.ofNat 0 then bif decide (m_cmp (ofI val_2) (ofI val) ≥ 0) then bif m_eqv (Value.slice (some (Addr.mk b (Nat.add off (Nat.mul (Int.toNat (IntKind.wrap IntKind.i64 (i - Int.ofNat 1))) 2)) (some 0))) 2 2) (Value.slice (some (Addr.mk b (Nat.add off (Nat.mul (Int.toNat (IntKind.wrap IntKind.i64 (i - Int.ofNat 1))) 2)) (some 0))) 2 2) then kr [(56, Value.agg (Array.mk [Value.int IntKind.i64 (Int.ofNat 0), Value.int IntKind.u64 (Int.ofNat 0), Value.int IntKind.u64 (Int.ofNat 0), Value.int IntKind.u64 (Int.ofNat 0), Value.int IntKind.u64 (Int.ofNat 0), Value.int IntKind.u64 (Int.ofNat 0), Value.int IntKind.u64 (Int.ofNat 0), Value.int IntKind.u64 (Int.ofNat 0), Value.int IntKind.u64 (Int.ofNat 0), Value.int IntKind.u64 (Int.ofNat 0), Value.int IntKind.u64 (Int.ofNat 0), Value.int IntKind.u64 (Int.ofNat 0), Value.int IntKind.u64 (Int.ofNat 0), Value.int IntKind.u64 (Int.ofNat 0), Value.int IntKind.u64 (Int.ofNat 0), Value.int IntKind.u64 (Int.ofNat 0), Value.int IntKind.u64 (Int.ofNat 0)]))] (Tr.node (Tr.node (Tr.node (Tr.node Tr.nil (some (Value.int IntKind.i64 i)) Tr.nil) none Tr.nil) (some (Value.slice (some (Addr.mk b off (some 0))) len cap)) (Tr.node (Tr.node Tr.nil (some (Value.int IntKind.i64 (ofI val))) Tr.nil) (some (Value.int IntKind.i64 (Int.ofNat 40))) (Tr.node (Tr.node Tr.nil (some (Value.int IntKind.i64 (Int.ofNat len))) Tr.nil) none Tr.nil))) (some (Value.int IntKind.i64 n)) (Tr.node (Tr.node (Tr.node Tr.nil (some (Value.pointer (some (Addr.mk 2 0 none)))) Tr.nil) (some (Value.pointer (some (Addr.mk 0 0 none)))) (Tr.node (Tr.node Tr.nil (some (Value.slice (some (Addr.mk b off (some 0))) len cap)) Tr.nil) none Tr.nil)) none (Tr.node (Tr.node Tr.nil (some (Value.int IntKind.i64 (ofI val_1))) Tr.nil) (some (Value.pointer (some (Addr.mk 1 0 none)))) (Tr.node (Tr.node Tr.nil (some (Value.int IntKind.i64 i)) Tr.nil) none Tr.nil)))) [] (AW.mk 3 (Tr.node (Tr.node Tr.nil (some (AObj.cells g 53 1 0)) Tr.nil) (some (AObj.cells [Value.int IntKind.i64 (Int.ofNat 0), Value.int IntKind.u64 (Int.ofNat 0), Value.int IntKind.u64 (Int.ofNat 0), Value.int IntKind.u64 (Int.ofNat 0), Value.int IntKind.u64 (Int.ofNat 0), Value.int IntKind.u64 (Int.ofNat 0), Value.int IntKind.u64 (Int.ofNat 0), Value.int IntKind.u64 (Int.ofNat 0), Value.int IntKind.u64 (Int.ofNat 0), Value.int IntKind.u64 (Int.ofNat 0), Value.int IntKind.u64 (Int.ofNat 0), Value.int IntKind.u64 (Int.ofNat 0), Value.int IntKind.u64 (Int.ofNat 0), Value.int IntKind.u64 (Int.ofNat 0), Value.int IntKind.u64 (Int.ofNat 0), Value.int IntKind.u64 (Int.ofNat 0), Value.int IntKind.u64 (Int.ofNat 0)] 53 0 0)) (Tr.node Tr.nil (some (AObj.cells [Value.int IntKind.i64 (ofI val), Value.int IntKind.i64 (ofI val_1)] 56 2 0)) Tr.nil)) Tr.nil) else CR.fail 420 else bif m_eqv (Value.slice (some (Addr.mk b (Nat.add off (Nat.mul (Int.toNat (IntKind.wrap IntKind.i64 (i - Int.ofNat 1))) 2)) (some 0))) 2 2) (Value.slice (some (Addr.mk b (Nat.add off (Nat.mul (Int.toNat (IntKind.wrap IntKind.i64 (i - Int.ofNat 1))) 2)) (some 0))) 2 2) then bif m_vG (ofI val) then bif m_vG (ofI val_1) then bif m_at [Value.pointer (some (Addr.mk 1 0 none)), Value.int IntKind.u64 (m_bit (ofI val)), Value.int IntKind.u64 (m_bit (ofI val_1))] [Value.pointer (some (Addr.mk 1 0 none)), Value.int IntKind.u64 (m_bit x), Value.int IntKind.u64 (m_bit y)] (AW.mk 3 (Tr.node (Tr.node Tr.nil (some (AObj.cells g 53 1 0)) Tr.nil) (some (AObj.cells [Value.int IntKind.i64 (Int.ofNat 0), Value.int IntKind.u64 (Int.ofNat 0), Value.int IntKind.u64 (Int.ofNat 0), Value.int IntKind.u64 (Int.ofNat 0), Value.int IntKind.u64 (Int.ofNat 0), Value.int IntKind.u64 (Int.ofNat 0), Value.int IntKind.u64 (Int.ofNat 0), Value.int IntKind.u64 (Int.ofNat 0), Value.int IntKind.u64 (Int.ofNat 0), Value.int IntKind.u64 (Int.ofNat 0), Value.int IntKind.u64 (Int.ofNat 0), Value.int IntKind.u64 (Int.ofNat 0), Value.int IntKind.u64 (Int.ofNat 0), Value.int IntKind.u64 (Int.ofNat 0), Value.int IntKind.u64 (Int.ofNat 0), Value.int IntKind.u64 (Int.ofNat 0), Value.int IntKind.u64 (Int.ofNat 0)] 53 0 0)) (Tr.node Tr.nil (some (AObj.cells [Value.int IntKind.i64 (ofI val), Value.int IntKind.i64 (ofI val_1)] 56 2 0)) Tr.nil)) Tr.nil) (AW.mk 3 (Tr.node (Tr.node Tr.nil (some (AObj.cells g 53 1 0)) Tr.nil) (some (AObj.cells [Value.int IntKind.i64 (Int.ofNat 0), Value.int IntKind.u64 (Int.ofNat 0), Value.int IntKind.u64 (Int.ofNat 0), Value.int IntKind.u64 (Int.ofNat 0), Value.int IntKind.u64 (Int.ofNat 0), Value.int IntKind.u64 (Int.ofNat 0), Value.int IntKind.u64 (Int.ofNat 0), Value.int IntKind.u64 (Int.ofNat 0), Value.int IntKind.u64 (Int.ofNat 0), Value.int IntKind.u64 (Int.ofNat 0), Value.int IntKind.u64 (Int.ofNat 0), Value.int IntKind.u64 (Int.ofNat 0), Value.int IntKind.u64 (Int.ofNat 0), Value.int IntKind.u64 (Int.ofNat 0), Value.int IntKind.u64 (Int.ofNat 0), Value.int IntKind.u64 (Int.ofNat 0), Value.int IntKind.u64 (Int.ofNat 0)] 53 0 0)) (Tr.node Tr.nil (some (AObj.cells [Value.int IntKind.i64 x, Value.int IntKind.i64 y] 56 2 0)) Tr.nil)) Tr.nil) then kn [(62, Value.int IntKind.i64 (IntKind.wrap IntKind.i64 (i + Int.ofNat 1)))] (Tr.node (Tr.node (Tr.node (Tr.node Tr.nil (some (Value.int IntKind.i64 i)) Tr.nil) none Tr.nil) (some (Value.slice (some (Addr.mk b off (some 0))) len cap)) (Tr.node (Tr.node Tr.nil (some (Value.int IntKind.i64 (ofI val))) Tr.nil) (some (Value.int IntKind.i64 (Int.ofNat 0))) (Tr.node (Tr.node Tr.nil (some (Value.int IntKind.i64 (Int.ofNat len))) Tr.nil) none Tr.nil))) (some (Value.int IntKind.i64 n)) (Tr.node (Tr.node (Tr.node Tr.nil (some (Value.pointer (some (Addr.mk 2 0 none)))) Tr.nil) (some (Value.pointer (some (Addr.mk 0 0 none)))) (Tr.node (Tr.node Tr.nil (some (Value.slice (some (Addr.mk b off (some 0))) len cap)) Tr.nil) none Tr.nil)) none (Tr.node (Tr.node Tr.nil (some (Value.int IntKind.i64 (ofI val_1))) Tr.nil) (some (Value.pointer (some (Addr.mk 1 0 none)))) (Tr.node (Tr.node Tr.nil (some (Value.int IntKind.i64 (IntKind.wrap IntKind.i64 (i + Int.ofNat 1)))) Tr.nil) none Tr.nil)))) [] (AW.mk 5 (Tr.node (Tr.node (Tr.node Tr.nil none Tr.nil) (some (AObj.cells g' 53 1 0)) Tr.nil) (some (AObj.cells [Value.int IntKind.i64 (Int.ofNat 0), Value.int IntKind.u64 (Int.ofNat 0), Value.int IntKind.u64 (Int.ofNat 0), Value.int IntKind.u64 (Int.ofNat 0), Value.int IntKind.u64 (Int.ofNat 0), Value.int IntKind.u64 (Int.ofNat 0), Value.int IntKind.u64 (Int.ofNat 0), Value.int IntKind.u64 (Int.ofNat 0), Value.int IntKind.u64 (Int.ofNat 0), Value.int IntKind.u64 (Int.ofNat 0), Value.int IntKind.u64 (Int.ofNat 0), Value.int IntKind.u64 (Int.ofNat 0), Value.int IntKind.u64 (Int.ofNat 0), Value.int IntKind.u64 (Int.ofNat 0), Value.int IntKind.u64 (Int.ofNat 0), Value.int IntKind.u64 (Int.ofNat 0), Value.int IntKind.u64 (Int.ofNat 0)] 53 0 0)) (Tr.node (Tr.node Tr.nil none Tr.nil) (some (AObj.cells [Value.int IntKind.i64 x, Value.int IntKind.i64 y] 56 2 0)) Tr.nil)) Tr.nil) else CR.fail 420 else CR.fail 420 else CR.fail 420 else CR.fail 420 else Option.casesOn (r b (Nat.add (Nat.add off (Nat.mul (Int.toNat (IntKind.wrap IntKind.i64 (i - Int.ofNat 1))) 2)) 1)) (CR.fail 423) fun val_3 => bif isI IntKind.i64 val_3 then bif m_cmp (ofI val_3) (ofI val_1) != Int.ofNat 0 then bif decide (m_cmp (ofI val_3) (ofI val_1) ≥ 0) then bif m_eqv (Value.slice (some (Addr.mk b (Nat.add off (Nat.mul (Int.toNat (IntKind.wrap IntKind.i64 (i - Int.ofNat 1))) 2)) (some 0))) 2 2) (Value.slice (some (Addr.mk b (Nat.add off (Nat.mul (Int.toNat (IntKind.wrap IntKind.i64 (i - Int.ofNat 1))) 2)) (some 0))) 2 2) then kr [(56, Value.agg (Array.mk [Value.int IntKind.i64 (Int.ofNat 0), Value.int IntKind.u64 (Int.ofNat 0), Value.int IntKind.u64 (Int.ofNat 0), Value.int IntKind.u64 (Int.ofNat 0), Value.int IntKind.u64 (Int.ofNat 0), Value.int IntKind.u64 (Int.ofNat 0), Value.int IntKind.u64 (Int.ofNat 0), Value.int IntKind.u64 (Int.ofNat 0), Value.int IntKind.u64 (Int.ofNat 0), Value.int IntKind.u64 (Int.ofNat 0), Value.int IntKind.u64 (Int.ofNat 0), Value.int IntKind.u64 (Int.ofNat 0), Value.int IntKind.u64 (Int.ofNat 0), Value.int IntKind.u64 (Int.ofNat 0), Value.int IntKind.u64 (Int.ofNat 0), Value.int IntKind.u64 (Int.ofNat 0), Value.int IntKind.u64 (Int.ofNat 0)]))] (Tr.node (Tr.node (Tr.node (Tr.node Tr.nil (some (Value.int IntKind.i64 i)) Tr.nil) none Tr.nil) (some (Value.slice (some (Addr.mk b off (some 0))) len cap)) (Tr.node (Tr.node Tr.nil (some (Value.int IntKind.i64 (ofI val))) Tr.nil) (some (Value.int IntKind.i64 (Int.ofNat 40))) (Tr.node (Tr.node Tr.nil (some (Value.int IntKind.i64 (Int.ofNat len))) Tr.nil) none Tr.nil))) (some (Value.int IntKind.i64 n)) (Tr.node (Tr.node (Tr.node Tr.nil (some (Value.pointer (some (Addr.mk 2 0 none)))) Tr.nil) (some (Value.pointer (some (Addr.mk 0 0 none)))) (Tr.node (Tr.node Tr.nil (some (Value.slice (some (Addr.mk b off (some 0))) len cap)) Tr.nil) none Tr.nil)) none (Tr.node (Tr.node Tr.nil (some (Value.int IntKind.i64 (ofI val_1))) Tr.nil) (some (Value.pointer (some (Addr.mk 1 0 none)))) (Tr.node (Tr.node Tr.nil (some (Value.int IntKind.i64 i)) Tr.nil) none Tr.nil)))) [] (AW.mk 3 (Tr.node (Tr.node Tr.nil (some (AObj.cells g 53 1 0)) Tr.nil) (some (AObj.cells [Value.int IntKind.i64 (Int.ofNat 0), Value.int IntKind.u64 (Int.ofNat 0), Value.int IntKind.u64 (Int.ofNat 0), Value.int IntKind.u64 (Int.ofNat 0), Value.int IntKind.u64 (Int.ofNat 0), Value.int IntKind.u64 (Int.ofNat 0), Value.int IntKind.u64 (Int.ofNat 0), Value.int IntKind.u64 (Int.ofNat 0), Value.int IntKind.u64 (Int.ofNat 0), Value.int IntKind.u64 (Int.ofNat 0), Value.int IntKind.u64 (Int.ofNat 0), Value.int IntKind.u64 (Int.ofNat 0), Value.int IntKind.u64 (Int.ofNat 0), Value.int IntKind.u64 (Int.ofNat 0), Value.int IntKind.u64 (Int.ofNat 0), Value.int IntKind.u64 (Int.ofNat 0), Value.int IntKind.u64 (Int.ofNat 0)] 53 0 0)) (Tr.node Tr.nil (some (AObj.cells [Value.int IntKind.i64 (ofI val), Value.int IntKind.i64 (ofI val_1)] 56 2 0)) Tr.nil)) Tr.nil) else CR.fail 420 else bif m_eqv (Value.slice (some (Addr.mk b (Nat.add off (Nat.mul (Int.toNat (IntKind.wrap IntKind.i64 (i - Int.ofNat 1))) 2)) (some 0))) 2 2) (Value.slice (some (Addr.mk b (Nat.add off (Nat.mul (Int.toNat (IntKind.wrap IntKind.i64 (i - Int.ofNat 1))) 2)) (some 0))) 2 2) then bif m_vG (ofI val) then bif m_vG (ofI val_1) then bif m_at [Value.pointer (some (Addr.mk 1 0 none)), Value.int IntKind.u64 (m_bit (ofI val)), Value.int IntKind.u64 (m_bit (ofI val_1))] [Value.pointer (some (Addr.mk 1 0 none)), Value.int IntKind.u64 (m_bit x), Value.int IntKind.u64 (m_bit y)] (AW.mk 3 (Tr.node (Tr.node Tr.nil (some (AObj.cells g 53 1 0)) Tr.nil) (some (AObj.cells [Value.int IntKind.i64 (Int.ofNat 0), Value.int IntKind.u64 (Int.ofNat 0), Value.int IntKind.u64 (Int.ofNat 0), Value.int IntKind.u64 (Int.ofNat 0), Value.int IntKind.u64 (Int.ofNat 0), Value.int IntKind.u64 (Int.ofNat 0), Value.int IntKind.u64 (Int.ofNat 0), Value.int IntKind.u64 (Int.ofNat 0), Value.int IntKind.u64 (Int.ofNat 0), Value.int IntKind.u64 (Int.ofNat 0), Value.int IntKind.u64 (Int.ofNat 0), Value.int IntKind.u64 (Int.ofNat 0), Value.int IntKind.u64 (Int.ofNat 0), Value.int IntKind.u64 (Int.ofNat 0), Value.int IntKind.u64 (Int.ofNat 0), Value.int IntKind.u64 (Int.ofNat 0), Value.int IntKind.u64 (Int.ofNat 0)] 53 0 0)) (Tr.node Tr.nil (some (AObj.cells [Value.int IntKind.i64 (ofI val), Value.int IntKind.i64 (ofI val_1)] 56 2 0)) Tr.nil)) Tr.nil) (AW.mk 3 (Tr.node (Tr.node Tr.nil (some (AObj.cells g 53 1 0)) Tr.nil) (some (AObj.cells [Value.int IntKind.i64 (Int.ofNat 0), Value.int IntKind.u64 (Int.ofNat 0), Value.int IntKind.u64 (Int.ofNat 0), Value.int IntKind.u64 (Int.ofNat 0), Value.int IntKind.u64 (Int.ofNat 0), Value.int IntKind.u64 (Int.ofNat 0), Value.int IntKind.u64 (Int.ofNat 0), Value.int IntKind.u64 (Int.ofNat 0), Value.int IntKind.u64 (Int.ofNat 0), Value.int IntKind.u64 (Int.ofNat 0), Value.int IntKind.u64 (Int.ofNat 0), Value.int IntKind.u64 (Int.ofNat 0), Value.int IntKind.u64 (Int.ofNat 0), Value.int IntKind.u64 (Int.ofNat 0), Value.int IntKind.u64 (Int.ofNat 0), Value.int IntKind.u64 (Int.ofNat 0), Value.int IntKind.u64 (Int.ofNat 0)] 53 0 0)) (Tr.node Tr.nil (some (AObj.cells [Value.int IntKind.i64 x, Value.int IntKind.i64 y] 56 2 0)) Tr.nil)) Tr.nil) then kn [(62, Value.int IntKind.i64 (IntKind.wrap IntKind.i64 (i + Int.ofNat 1)))] (Tr.node (Tr.node (Tr.node (Tr.node Tr.nil (some (Value.int IntKind.i64 i)) Tr.nil) none Tr.nil) (some (Value.slice (some (Addr.mk b off (some 0))) len cap)) (Tr.node (Tr.node Tr.nil (some (Value.int IntKind.i64 (ofI val))) Tr.nil) (some (Value.int IntKind.i64 (Int.ofNat 0))) (Tr.node (Tr.node Tr.nil (some (Value.int IntKind.i64 (Int.ofNat len))) Tr.nil) none Tr.nil))) (some (Value.int IntKind.i64 n)) (Tr.node (Tr.node (Tr.node Tr.nil (some (Value.pointer (some (Addr.mk 2 0 none)))) Tr.nil) (some (Value.pointer (some (Addr.mk 0 0 none)))) (Tr.node (Tr.node Tr.nil (some (Value.slice (some (Addr.mk b off (some 0))) len cap)) Tr.nil) none Tr.nil)) none (Tr.node (Tr.node Tr.nil (some (Value.int IntKind.i64 (ofI val_1))) Tr.nil) (some (Value.pointer (some (Addr.mk 1 0 none)))) (Tr.node (Tr.node Tr.nil (some (Value.int IntKind.i64 (IntKind.wrap IntKind.i64 (i + Int.ofNat 1)))) Tr.nil) none Tr.nil)))) [] (AW.mk 5 (Tr.node (Tr.node (Tr.node Tr.nil none Tr.nil) (some (AObj.cells g' 53 1 0)) Tr.nil) (some (AObj.cells [Value.int IntKind.i64 (Int.ofNat 0), Value.int IntKind.u64 (Int.ofNat 0), Value.int IntKind.u64 (Int.ofNat 0), Value.int IntKind.u64 (Int.ofNat 0), Value.int IntKind.u64 (Int.ofNat 0), Value.int IntKind.u64 (Int.ofNat 0), Value.int IntKind.u64 (Int.ofNat 0), Value.int IntKind.u64 (Int.ofNat 0), Value.int IntKind.u64 (Int.ofNat 0), Value.int IntKind.u64 (Int.ofNat 0), Value.int IntKind.u64 (Int.ofNat 0), Value.int IntKind.u64 (Int.ofNat 0), Value.int IntKind.u64 (Int.ofNat 0), Value.int IntKind.u64 (Int.ofNat 0), Value.int IntKind.u64 (Int.ofNat 0), Value.int IntKind.u64 (Int.ofNat 0), Value.int IntKind.u64 (Int.ofNat 0)] 53 0 0)) (Tr.node (Tr.node Tr.nil none Tr.nil) (some (AObj.cells [Value.int IntKind.i64 x, Value.int IntKind.i64 y] 56 2 0)) Tr.nil)) Tr.nil) else CR.fail 420 else CR.fail 420 else CR.fail 420 else CR.fail 420 else bif m_eqv (Value.slice (some (Addr.mk b (Nat.add off (Nat.mul (Int.toNat (IntKind.wrap IntKind.i64 (i - Int.ofNat 1))) 2)) (some 0))) 2 2) (Value.slice (some (Addr.mk b (Nat.add off (Nat.mul (Int.toNat (IntKind.wrap IntKind.i64 (i - Int.ofNat 1))) 2)) (some 0))) 2 2) then kr [(56, Value.agg (Array.mk [Value.int IntKind.i64 (Int.ofNat 0), Value.int IntKind.u64 (Int.ofNat 0), Value.int IntKind.u64 (Int.ofNat 0), Value.int IntKind.u64 (Int.ofNat 0), Value.int IntKind.u64 (Int.ofNat 0), Value.int IntKind.u64 (Int.ofNat 0), Value.int IntKind.u64 (Int.ofNat 0), Value.int IntKind.u64 (Int.ofNat 0), Value.int IntKind.u64 (Int.ofNat 0), Value.int IntKind.u64 (Int.ofNat 0), Value.int IntKind.u64 (Int.ofNat 0), Value.int IntKind.u64 (Int.ofNat 0), Value.int IntKind.u64 (Int.ofNat 0), Value.int IntKind.u64 (Int.ofNat 0), Value.int IntKind.u64 (Int.ofNat 0), Value.int IntKind.u64 (Int.ofNat 0), Value.int IntKind.u64 (Int.ofNat 0)]))] (Tr.node (Tr.node (Tr.node (Tr.node Tr.nil (some (Value.int IntKind.i64 i)) Tr.nil) none Tr.nil) (some (Value.slice (some (Addr.mk b off (some 0))) len cap)) (Tr.node (Tr.node Tr.nil (some (Value.int IntKind.i64 (ofI val))) Tr.nil) (some (Value.int IntKind.i64 (Int.ofNat 40))) (Tr.node (Tr.node Tr.nil (some (Value.int IntKind.i64 (Int.ofNat len))) Tr.nil) none Tr.nil))) (some (Value.int IntKind.i64 n)) (Tr.node (Tr.node (Tr.node Tr.nil (some (Value.pointer (some (Addr.mk 2 0 none)))) Tr.nil) (some (Value.pointer (some (Addr.mk 0 0 none)))) (Tr.node (Tr.node Tr.nil (some (Value.slice (some (Addr.mk b off (some 0))) len cap)) Tr.nil) none Tr.nil)) none (Tr.node (Tr.node Tr.nil (some (Value.int IntKind.i64 (ofI val_1))) Tr.nil) (some (Value.pointer (some (Addr.mk 1 0 none)))) (Tr.node (Tr.node Tr.nil (some (Value.int IntKind.i64 i)) Tr.nil) none Tr.nil)))) [] (AW.mk 3 (Tr.node (Tr.node Tr.nil (some (AObj.cells g 53 1 0)) Tr.nil) (some (AObj.cells [Value.int IntKind.i64 (Int.ofNat 0), Value.int IntKind.u64 (Int.ofNat 0), Value.int IntKind.u64 (Int.ofNat 0), Value.int IntKind.u64 (Int.ofNat 0), Value.int IntKind.u64 (Int.ofNat 0), Value.int IntKind.u64 (Int.ofNat 0), Value.int IntKind.u64 (Int.ofNat 0), Value.int IntKind.u64 (Int.ofNat 0), Value.int IntKind.u64 (Int.ofNat 0), Value.int IntKind.u64 (Int.ofNat 0), Value.int IntKind.u64 (Int.ofNat 0), Value.int IntKind.u64 (Int.ofNat 0), Value.int IntKind.u64 (Int.ofNat 0), Value.int IntKind.u64 (Int.ofNat 0), Value.int IntKind.u64 (Int.ofNat 0), Value.int IntKind.u64 (Int.ofNat 0), Value.int IntKind.u64 (Int.ofNat 0)] 53 0 0)) (Tr.node Tr.nil (some (AObj.cells [Value.int IntKind.i64 (ofI val), Value.int IntKind.i64 (ofI val_1)] 56 2 0)) Tr.nil)) Tr.nil) else CR.fail 420 else CR.fail 420 else CR.fail 420 else CR.fail 420 else CR.fail 420 else bif m_vG (ofI val) then bif m_vG (ofI val_1) then bif m_at [Value.pointer (some (Addr.mk 1 0 none)), Value.int IntKind.u64 (m_bit (ofI val)), Value.int IntKind.u64 (m_bit (ofI val_1))] [Value.pointer (some (Addr.mk 1 0 none)), Value.int IntKind.u64 (m_bit x), Value.int IntKind.u64 (m_bit y)] (AW.mk 3 (Tr.node (Tr.node Tr.nil (some (AObj.cells g 53 1 0)) Tr.nil) (some (AObj.cells [Value.int IntKind.i64 (Int.ofNat 0), Value.int IntKind.u64 (Int.ofNat 0), Value.int IntKind.u64 (Int.ofNat 0), Value.int IntKind.u64 (Int.ofNat 0), Value.int IntKind.u64 (Int.ofNat 0), Value.int IntKind.u64 (Int.ofNat 0), Value.int IntKind.u64 (Int.ofNat 0), Value.int IntKind.u64 (Int.ofNat 0), Value.int IntKind.u64 (Int.ofNat 0), Value.int IntKind.u64 (Int.ofNat 0), Value.int IntKind.u64 (Int.ofNat 0), Value.int IntKind.u64 (Int.ofNat 0), Value.int IntKind.u64 (Int.ofNat 0), Value.int IntKind.u64 (Int.ofNat 0), Value.int IntKind.u64 (Int.ofNat 0), Value.int IntKind.u64 (Int.ofNat 0), Value.int IntKind.u64 (Int.ofNat 0)] 53 0 0)) (Tr.node Tr.nil (some (AObj.cells [Value.int IntKind.i64 (ofI val), Value.int IntKind.i64 (ofI val_1)] 56 2 0)) Tr.nil)) Tr.nil) (AW.mk 3 (Tr.node (Tr.node Tr.nil (some (AObj.cells g 53 1 0)) Tr.nil) (some (AObj.cells [Value.int IntKind.i64 (Int.ofNat 0), Value.int IntKind.u64 (Int.ofNat 0), Value.int IntKind.u64 (Int.ofNat 0), Value.int IntKind.u64 (Int.ofNat 0), Value.int IntKind.u64 (Int.ofNat 0), Value.int IntKind.u64 (Int.ofNat 0), Value.int IntKind.u64 (Int.ofNat 0), Value.int IntKind.u64 (Int.ofNat 0), Value.int IntKind.u64 (Int.ofNat 0), Value.int IntKind.u64 (Int.ofNat 0), Value.int IntKind.u64 (Int.ofNat 0), Value.int IntKind.u64 (Int.ofNat 0), Value.int IntKind.u64 (Int.ofNat 0), Value.int IntKind.u64 (Int.ofNat 0), Value.int IntKind.u64 (Int.ofNat 0), Value.int IntKind.u64 (Int.ofNat 0), Value.int IntKind.u64 (Int.ofNat 0)] 53 0 0)) (Tr.node Tr.nil (some (AObj.cells [Value.int IntKind.i64 x, Value.int IntKind.i64 y] 56 2 0)) Tr.nil)) Tr.nil) then kn [(62, Value.int IntKind.i64 (IntKind.wrap IntKind.i64 (i + Int.ofNat 1)))] (Tr.node (Tr.node (Tr.node (Tr.node Tr.nil (some (Value.int IntKind.i64 i)) Tr.nil) none Tr.nil) (some (Value.slice (some (Addr.mk b off (some 0))) len cap)) (Tr.node (Tr.node Tr.nil (some (Value.int IntKind.i64 (ofI val))) Tr.nil) (some (Value.int IntKind.i64 (Int.ofNat 0))) (Tr.node (Tr.node Tr.nil (some (Value.int IntKind.i64 (Int.ofNat len))) Tr.nil) none Tr.nil))) (some (Value.int IntKind.i64 n)) (Tr.node (Tr.node (Tr.node Tr.nil (some (Value.pointer (some (Addr.mk 2 0 none)))) Tr.nil) (some (Value.pointer (some (Addr.mk 0 0 none)))) (Tr.node (Tr.node Tr.nil (some (Value.slice (some (Addr.mk b off (some 0))) len cap)) Tr.nil) none Tr.nil)) none (Tr.node (Tr.node Tr.nil (some (Value.int IntKind.i64 (ofI val_1))) Tr.nil) (some (Value.pointer (some (Addr.mk 1 0 none)))) (Tr.node (Tr.node Tr.nil (some (Value.int IntKind.i64 (IntKind.wrap IntKind.i64 (i + Int.ofNat 1)))) Tr.nil) none Tr.nil)))) [] (AW.mk 5 (Tr.node (Tr.node (Tr.node Tr.nil none Tr.nil) (some (AObj.cells g' 53 1 0)) Tr.nil) (some (AObj.cells [Value.int IntKind.i64 (Int.ofNat 0), Value.int IntKind.u64 (Int.ofNat 0), Value.int IntKind.u64 (Int.ofNat 0), Value.int IntKind.u64 (Int.ofNat 0), Value.int IntKind.u64 (Int.ofNat 0), Value.int IntKind.u64 (Int.ofNat 0), Value.int IntKind.u64 (Int.ofNat 0), Value.int IntKind.u64 (Int.ofNat 0), Value.int IntKind.u64 (Int.ofNat 0), Value.int IntKind.u64 (Int.ofNat 0), Value.int IntKind.u64 (Int.ofNat 0), Value.int IntKind.u64 (Int.ofNat 0), Value.int IntKind.u64 (Int.ofNat 0), Value.int IntKind.u64 (Int.ofNat 0), Value.int IntKind.u64 (Int.ofNat 0), Value.int IntKind.u64 (Int.ofNat 0), Value.int IntKind.u64 (Int.ofNat 0)] 53 0 0)) (Tr.node (Tr.node Tr.nil none Tr.nil) (some (AObj.cells [Value.int IntKind.i64 x, Value.int IntKind.i64 y] 56 2 0)) Tr.nil)) Tr.nil) else CR.fail 420 else CR.fail 420 else CR.fail 420 else CR.fail 420 else CR.fail 420 else CR.fail 420 else CR.fail 420 else kx 0 [(23, Value.bool false)] (Tr.node (Tr.node Tr.nil (some (Value.slice (some (Addr.mk b off (some 0))) len cap)) (Tr.node Tr.nil (some (Value.int IntKind.i64 (Int.ofNat 0))) (Tr.node (Tr.node Tr.nil (some (Value.int IntKind.i64 (Int.ofNat len))) Tr.nil) none Tr.nil))) (some (Value.int IntKind.i64 n)) (Tr.node (Tr.node Tr.nil (some (Value.pointer (some (Addr.mk 0 0 none)))) (Tr.node (Tr.node Tr.nil (some (Value.slice (some (Addr.mk b off (some 0))) len cap)) Tr.nil) none Tr.nil)) none (Tr.node Tr.nil (some (Value.pointer (some (Addr.mk 1 0 none)))) (Tr.node (Tr.node Tr.nil (some (Value.int IntKind.i64 i)) Tr.nil) none Tr.nil)))) [] (AW.mk 2 (Tr.node (Tr.node Tr.nil (some (AObj.cells g 53 1 0)) Tr.nil) (some (AObj.cells [Value.int IntKind.i64 (Int.ofNat 0), Value.int IntKind.u64 (Int.ofNat 0), Value.int IntKind.u64 (Int.ofNat 0), Value.int IntKind.u64 (Int.ofNat 0), Value.int IntKind.u64 (Int.ofNat 0), Value.int IntKind.u64 (Int.ofNat 0), Value.int IntKind.u64 (Int.ofNat 0), Value.int IntKind.u64 (Int.ofNat 0), Value.int IntKind.u64 (Int.ofNat 0), Value.int IntKind.u64 (Int.ofNat 0), Value.int IntKind.u64 (Int.ofNat 0), Value.int IntKind.u64 (Int.ofNat 0), Value.int IntKind.u64 (Int.ofNat 0), Value.int IntKind.u64 (Int.ofNat 0), Value.int IntKind.u64 (Int.ofNat 0), Value.int IntKind.u64 (Int.ofNat 0), Value.int IntKind.u64 (Int.ofNat 0)] 53 0 0)) Tr.nil) Tr.nil) := by kernel_rfl

end Go.Proofs

/- The program's reading of a graph: a round. -/
namespace Go.Proofs
open Go Go.Ev Go.Num
set_option linter.unusedVariables false
set_option linter.unusedSimpArgs false

theorem cmp_ok (r : Mem) (a b : Int) : GrT Tryz.prog r 56 [I a, I b] (I (m_cmp a b)) :=
  GrT.of (SC_ok r) TOk.nil .nil rfl ⟨1, 2, by
    rw [cmA, neF rfl, neF rfl, cond_false, cond_false]
    unfold m_cmp
    by_cases h1 : a < b
    · rw [dT h1, cond_true, if_pos h1]; rfl
    · rw [dF h1, cond_false, if_neg h1]
      by_cases h2 : a > b
      · rw [dT h2, cond_true, if_pos h2]; rfl
      · rw [dF h2, cond_false, if_neg h2]; rfl⟩
theorem single_ok (r : Mem) (v : Int) (h : m_vG v = true) : GrT Tryz.prog r 31 [I v] (U (m_bit v)) :=
  GrT.of (SC_ok r) TOk.nil .nil rfl ⟨1, 1, by
    simp only [m_vG, Bool.and_eq_true, decide_eq_true_eq] at h
    rw [sgA, dF (show ¬ v < 0 by omega), Bool.not_false, cond_true]
    obtain ⟨i, rfl⟩ : ∃ i : Nat, v = i := ⟨v.toNat, by omega⟩
    have hi : i < 16 := by omega
    have e : IntKind.wrap IntKind.u64 (Int.ofNat 1 * Int.ofNat 2 ^ min (Int.toNat (i : Int)) 64) = m_bit (i : Int) := by
      have : ∀ j : Fin 16, IntKind.wrap IntKind.u64 (Int.ofNat 1 * Int.ofNat 2 ^ min (Int.toNat ((j.val : Nat) : Int)) 64) = m_bit ((j.val : Nat) : Int) := by decide
      exact this ⟨i, hi⟩
    rw [e]; rfl⟩
theorem bit_of (i : Nat) : m_bit (i : Int) = bit i := by unfold m_bit bit; rw [Int.toNat_natCast]

def TGq (n : Int) (sl : Value) (len : Nat) (k a b e i : Int) : Tr Value := (Tr.node (Tr.node (Tr.node (Tr.node Tr.nil (some (I k)) Tr.nil) none Tr.nil) (some sl) (Tr.node (Tr.node Tr.nil (some (I a)) Tr.nil) (some (I e)) (Tr.node (Tr.node Tr.nil (some (I (Int.ofNat len))) Tr.nil) none Tr.nil))) (some (I n)) (Tr.node (Tr.node (Tr.node Tr.nil (some (.pointer (some ⟨2, 0, none⟩))) Tr.nil) (some (.pointer (some ⟨0, 0, none⟩))) (Tr.node (Tr.node Tr.nil (some sl) Tr.nil) none Tr.nil)) none (Tr.node (Tr.node Tr.nil (some (I b)) Tr.nil) (some (.pointer (some ⟨1, 0, none⟩))) (Tr.node (Tr.node Tr.nil (some (I i)) Tr.nil) none Tr.nil))))

theorem cmp_cases (a b : Int) : (a < b ∧ m_cmp a b = -1) ∨ (a = b ∧ m_cmp a b = 0) ∨ (a > b ∧ m_cmp a b = 1) := by
  unfold m_cmp
  by_cases h1 : a < b
  · exact .inl ⟨h1, if_pos h1⟩
  · by_cases h2 : a > b
    · exact .inr (.inr ⟨h2, by rw [if_neg h1, if_pos h2]⟩)
    · exact .inr (.inl ⟨by omega, by rw [if_neg h1, if_neg h2]⟩)

theorem veq_ro (b k n c : Nat) : m_eqv (.slice (some ⟨b, k, some 0⟩) n c) (.slice (some ⟨b, k, some 0⟩) n c) = true := by simp [m_eqv, veq]

theorem gp_round (r : Mem) (L : Nat) (n : Int) (hn : n ≤ 16) (b off len cap : Nat) (z : Nat → Int) (hz : rowAt r b off (2 * len) z) (hl : len ≤ 1000000) (k : Nat) (hk : k < len) (g g' : List Value) (x y : Int) (hx : okAt n z k = true → x = ea z k ∧ y = eb z k) (s : List (Nat × Value)) (kn : KS) (kx : Nat → KS) (kr : KS) (R : CR)
    (hF : okAt n z k = false → ∀ s, kr s (TGq n (RS2 b off len cap) len k (ea z k) (eb z k) 40 k) [] (ARd2 g (ea z k) (eb z k)) = R)
    (hT : okAt n z k = true → ∀ s, kn s (TGq n (RS2 b off len cap) len k (ea z k) (eb z k) 0 ((k + 1 : Nat) : Int)) [] (AJe g' (ea z k) (eb z k)) = R) :
    run (SC r) 7342067 64 L (ic (ic (rc (lc (rc (rc (rc cGp))))))) (lvlT (SC r) (tGp g g' x y) .nil 4 4) none kn kx kr s (TGp n (RS2 b off len cap) len k) [] (AGp g) = R := by
  rw [gpB]
  have c1 : (k : Int) < Int.ofNat len := by simp; omega
  have c2 : 0 ≤ (k : Int) := by omega
  have c3 : Nat.blt k len = true := Nat.ble_eq_true_of_le (by omega)
  have l0 : r b (Nat.add off (Nat.mul k 2)) = some (I (ea z k)) := by
    have := hz (2 * k) (by omega)
    rw [show Nat.add off (Nat.mul k 2) = off + 2 * k by simp [Nat.mul_comm]]
    exact this
  have l1 : r b (Nat.succ (Nat.add off (Nat.mul k 2))) = some (I (eb z k)) := by
    have := hz (2 * k + 1) (by omega)
    rw [show Nat.succ (Nat.add off (Nat.mul k 2)) = off + (2 * k + 1) by simp [Nat.mul_comm]; omega]
    exact this
  have w : IntKind.wrap IntKind.i64 ((k : Int) + Int.ofNat 1) = ((k + 1 : Nat) : Int) := by rw [wrI (by simp; omega)]; simp
  have ii : ∀ x, isI IntKind.i64 (I x) = true := fun _ => rfl
  have oo : ∀ x, ofI (I x) = x := fun _ => rfl
  rw [dT c1, cond_true, dT c2, cond_true, Int.toNat_natCast, c3, cond_true, l0]
  dsimp only
  rw [ii, cond_true, l1]
  dsimp only
  rw [ii, cond_true]
  simp only [oo]
  by_cases d1 : ea z k < 0
  · rw [dT d1, cond_true]
    exact hF (by simp [okAt, show ¬ 0 ≤ ea z k by omega]) _
  · rw [dF d1, cond_false]
    by_cases d2 : ea z k ≥ eb z k
    · rw [dT d2, cond_true]
      exact hF (by simp [okAt, show ¬ ea z k < eb z k by omega]) _
    · rw [dF d2, cond_false]
      by_cases d3 : eb z k ≥ n
      · rw [dT d3, cond_true]
        exact hF (by simp [okAt, show ¬ eb z k < n by omega]) _
      · rw [dF d3, cond_false]
        have b1 : 0 ≤ ea z k := by omega
        have b2 : ea z k < eb z k := by omega
        have b3 : eb z k < n := by omega
        have g1 : m_vG (ea z k) = true := by simp [m_vG]; omega
        have g2 : m_vG (eb z k) = true := by simp [m_vG]; omega
        by_cases d4 : (k : Int) > 0
        · have w1 : IntKind.wrap IntKind.i64 ((k : Int) - Int.ofNat 1) = ((k - 1 : Nat) : Int) := by rw [wrI (by simp; omega)]; simp; omega
          have c4 : 0 ≤ ((k - 1 : Nat) : Int) := by omega
          have c5 : Nat.blt (k - 1) len = true := Nat.ble_eq_true_of_le (by omega)
          have p0 : r b (Nat.add (Nat.add off (Nat.mul (k - 1) 2)) 0) = some (I (ea z (k - 1))) := by
            have := hz (2 * (k - 1)) (by omega)
            rw [show Nat.add (Nat.add off (Nat.mul (k - 1) 2)) 0 = off + 2 * (k - 1) by simp [Nat.mul_comm]]
            exact this
          have p1 : r b (Nat.add (Nat.add off (Nat.mul (k - 1) 2)) 1) = some (I (eb z (k - 1))) := by
            have := hz (2 * (k - 1) + 1) (by omega)
            rw [show Nat.add (Nat.add off (Nat.mul (k - 1) 2)) 1 = off + (2 * (k - 1) + 1) by simp [Nat.mul_comm]; omega]
            exact this
          have k0 : (k == 0) = false := by simp; omega
          have v := veq_ro b (Nat.add off (Nat.mul (k - 1) 2)) 2 2
          rw [dT d4, cond_true, w1, dT c4, cond_true, Int.toNat_natCast, c5, cond_true, p0]
          dsimp only
          rw [ii, cond_true, oo]
          rcases cmp_cases (ea z (k - 1)) (ea z k) with ⟨q1, q2⟩ | ⟨q1, q2⟩ | ⟨q1, q2⟩
          · have hok : okAt n z k = true := by simp [okAt, k0, b1, b2, b3]; omega
            obtain ⟨rfl, rfl⟩ := hx hok
            rw [q2, neT (show (-1 : Int) ≠ Int.ofNat 0 by decide), cond_true, dF (show ¬ (-1 : Int) ≥ 0 by decide), cond_false, v, cond_true, g1, cond_true, g2, cond_true, show m_at _ _ _ _ = true from at_rfl _ _, cond_true, w]
            exact hT hok _
          · rw [q2, neF (show (0 : Int) = Int.ofNat 0 from rfl), cond_false, p1]
            dsimp only
            rw [ii, cond_true, oo]
            rcases cmp_cases (eb z (k - 1)) (eb z k) with ⟨x1, x2⟩ | ⟨x1, x2⟩ | ⟨x1, x2⟩
            · have hok : okAt n z k = true := by simp [okAt, k0, b1, b2, b3]; omega
              obtain ⟨rfl, rfl⟩ := hx hok
              rw [x2, neT (show (-1 : Int) ≠ Int.ofNat 0 by decide), cond_true, dF (show ¬ (-1 : Int) ≥ 0 by decide), cond_false, v, cond_true, g1, cond_true, g2, cond_true, show m_at _ _ _ _ = true from at_rfl _ _, cond_true, w]
              exact hT hok _
            · rw [x2, neF (show (0 : Int) = Int.ofNat 0 from rfl), cond_false, v, cond_true]
              exact hF (by simp [okAt, k0]; omega) _
            · rw [x2, neT (show (1 : Int) ≠ Int.ofNat 0 by decide), cond_true, dT (show (1 : Int) ≥ 0 by decide), cond_true, v, cond_true]
              exact hF (by simp [okAt, k0]; omega) _
          · rw [q2, neT (show (1 : Int) ≠ Int.ofNat 0 by decide), cond_true, dT (show (1 : Int) ≥ 0 by decide), cond_true, v, cond_true]
            exact hF (by simp [okAt, k0]; omega) _
        · have k0 : k = 0 := by omega
          have hok : okAt n z k = true := by subst k0; simp [okAt, b1, b2, b3]
          obtain ⟨rfl, rfl⟩ := hx hok
          rw [dF d4, cond_false, g1, cond_true, g2, cond_true, show m_at _ _ _ _ = true from at_rfl _ _, cond_true, w]
          exact hT hok _

end Go.Proofs

/- The program's reading of a graph: the call. -/
namespace Go.Proofs
open Go Go.Ev Go.Num
set_option linter.unusedVariables false
set_option linter.unusedSimpArgs false

/-- The words of neighbours, by the first k edges. -/
def nbz (z : Nat → Int) : Nat → List Int
  | 0 => List.replicate 16 0
  | k + 1 => jnZ (nbz z k) (ea z k).toNat (eb z k).toNat
theorem nbz_len (z : Nat → Int) : ∀ k, (nbz z k).length = 16
  | 0 => List.length_replicate ..
  | k + 1 => by rw [nbz, jnZ, addB_len, addB_len]; exact nbz_len z k

theorem tGp_ok (r : Mem) (hm : ∀ b j u, tabM b j = some u → r b j = some u) (n : Int) (zs : List Int) (hl : zs.length = 16) (i j : Fin 16) : TOk (SC r) (tGp (m_g n zs) (m_g n (jnZ zs i.val j.val)) (i.val : Int) (j.val : Int)) :=
  TOk.cons (TOk.cons (TOk.cons TOk.nil (entAt_ok fun F hF k γ W args' hw hR ha => by
    rw [bit_of, bit_of] at ha
    exact join_calls r hm n zs hl i j _ _ F hF k γ W args' hw hR ha)) (eI1_ok fun v h => single_ok r v h)) (eI2_ok fun a b _ => cmp_ok r a b)

section
variable {r : Mem} {W0 : World} {n : Int} {b off len cap : Nat} {z : Nat → Int}

def TGe (e : Int) : Tr Value := (Tr.nil.put 4 (some (.pointer (some ⟨0, 0, none⟩)))).put 5 (some (I e))
def AGe (g : List Value) : AW := AW.mk 1 (Tr.node Tr.nil (some (.cells g 53 0 0)) Tr.nil) Tr.nil

inductive GpSt (n : Int) (sl : Value) (len : Nat) (z : Nat → Int) (V : Bool) : Nat → St → Prop
  | mk {k : Nat} (hk : k ≤ len) (hV : okFrom n z (len - k) k = V) : GpSt n sl len z V (len - k) ⟨⟨[], TGp n sl len k⟩, [], AGp (m_g n (nbz z k))⟩

def GpQ (n : Int) (sl : Value) (len : Nat) (z : Nat → Int) (V : Bool) : Exit → St → Prop
  | .exit id, st => id = 0 ∧ V = true ∧ ∃ st1, Ren (SC r) 7342067 64 noG W0 st st1 ∧ st1 = ⟨⟨[], TGp n sl len len⟩, [], AGp (m_g n (nbz z len))⟩
  | .ret, st => V = false ∧ ∃ st1, Ren (SC r) 7342067 64 noG W0 st st1 ∧ st1 = ⟨⟨[], TGe 40⟩, [], AGe resG⟩
  | _, _ => False

theorem ren_gp1 (s : List (Nat × Value)) (n : Int) (b off len' cap : Nat) (len : Nat) (k a c e i : Int) (g : List Value) (hg : ∀ v ∈ g, gnd v = true) : Ren (SC r) 7342067 64 noG W0 ⟨⟨s, TGq n (RS2 b off len' cap) len k a c 0 i⟩, [], AJe g a c⟩ ⟨⟨[], TGp n (RS2 b off len' cap) len i⟩, [], AGp g⟩ := by
  refine Ren.of (fun i => i) 0 rfl (fun _ _ => rfl) (Nat.zero_le _) (fun i hi => absurd hi (Nat.not_lt_zero i)) ?_ rfl ?_ trivial
  · simp only [Tr.All, TGp, Tr.put]
    repeat' (first | exact trivial | apply And.intro)
    all_goals exact ⟨_, rfl, rfl⟩
  · simp only [Tr.All, AGp, resG]
    repeat' (first | exact trivial | apply And.intro)
    all_goals first | rfl | exact .head _ | exact ⟨_, rfl, .cells rfl⟩ | exact ⟨_, rfl, .plain (hg)⟩ | skip
theorem ren_gp2 (s : List (Nat × Value)) (n : Int) (b off len' cap : Nat) (len : Nat) (k a c e i : Int) (g : List Value) : Ren (SC r) 7342067 64 noG W0 ⟨⟨s, TGq n (RS2 b off len' cap) len k a c e i⟩, [], ARd2 g a c⟩ ⟨⟨[], TGe e⟩, [], AGe resG⟩ := by
  refine Ren.of (fun i => i) 0 rfl (fun _ _ => rfl) (Nat.zero_le _) (fun i hi => absurd hi (Nat.not_lt_zero i)) ?_ rfl ?_ trivial
  · simp only [Tr.All, TGe, Tr.put]
    repeat' (first | exact trivial | apply And.intro)
    all_goals exact ⟨_, rfl, rfl⟩
  · simp only [Tr.All, AGe, resG]
    repeat' (first | exact trivial | apply And.intro)
    all_goals first | rfl | exact .head _ | exact ⟨_, rfl, .cells rfl⟩ | exact ⟨_, rfl, .plain (fun _ _ => rfl)⟩ | skip
theorem ren_gp3 (s : List (Nat × Value)) (n : Int) (b off len' cap : Nat) (len : Nat) (i : Int) (g : List Value) (hg : ∀ v ∈ g, gnd v = true) : Ren (SC r) 7342067 64 noG W0 ⟨⟨s, TGp n (RS2 b off len' cap) len i⟩, [], AGp g⟩ ⟨⟨[], TGp n (RS2 b off len' cap) len i⟩, [], AGp g⟩ := by
  refine Ren.of (fun i => i) 0 rfl (fun _ _ => rfl) (Nat.zero_le _) (fun i hi => absurd hi (Nat.not_lt_zero i)) ?_ rfl ?_ trivial
  · simp only [Tr.All, TGp, Tr.put]
    repeat' (first | exact trivial | apply And.intro)
    all_goals exact ⟨_, rfl, rfl⟩
  · simp only [Tr.All, AGp, resG]
    repeat' (first | exact trivial | apply And.intro)
    all_goals first | rfl | exact .head _ | exact ⟨_, rfl, .cells rfl⟩ | exact ⟨_, rfl, .plain (hg)⟩ | skip

theorem gp_body (hm : ∀ b j u, tabM b j = some u → r b j = some u) (hn : n ≤ 16) (hz : rowAt r b off (2 * len) z) (hl : len ≤ 1000000) {V : Bool} {F : Fence} {k' : Nat} (hF : Wide F) (hro : F.round = none) {j : Nat} {st : St} (hs : GpSt n (RS2 b off len cap) len z V j st) :
    Go.Ev.Reach (SC r) 7342067 64 F k' noG W0 (ic (ic (rc (lc (rc (rc (rc cGp))))))) st fun ex st' => match ex with
      | .normal => ∃ j', j' < j ∧ ∃ st1, Ren (SC r) 7342067 64 noG W0 st' st1 ∧ GpSt n (RS2 b off len cap) len z V j' st1
      | ex => GpQ (r := r) (W0 := W0) n (RS2 b off len cap) len z V ex st' := by
  cases hs with
  | mk hk hV =>
    rename_i k
    by_cases c : k < len
    · have e : len - k = (len - (k + 1)) + 1 := by omega
      rw [e, okFrom] at hV
      obtain ⟨i, j, hij⟩ : ∃ i j : Fin 16, okAt n z k = true → (i.val : Int) = ea z k ∧ (j.val : Int) = eb z k := by
        by_cases ho : okAt n z k = true
        · have := ho
          simp only [okAt, Bool.and_eq_true, decide_eq_true_eq] at this
          exact ⟨⟨(ea z k).toNat, by omega⟩, ⟨(eb z k).toNat, by omega⟩, fun _ => ⟨by show ((ea z k).toNat : Int) = _; omega, by show ((eb z k).toNat : Int) = _; omega⟩⟩
        · exact ⟨0, 0, fun h => absurd h ho⟩
      refine Go.Ev.Reach.seg (SC_ok r) (tGp_ok r hm n (nbz z k) (nbz_len z k) i j) (tm := .nil) (L := 1) (L' := 4) (d := 4) hF hro ?_
      refine gp_round r _ n hn b off len cap z hz hl k c _ _ _ _ hij _ _ _ _ _ (fun ho s => ?_) (fun ho s => ?_)
      · rw [ho, Bool.false_and] at hV
        exact qn_ok ⟨hV.symm, _, ren_gp2 s n b off len cap len k _ _ 40 k _, rfl⟩
      · rw [ho, Bool.true_and] at hV
        obtain ⟨h1, h2⟩ := hij ho
        have e1 : i.val = (ea z k).toNat := by omega
        have e2 : j.val = (eb z k).toNat := by omega
        refine qn_ok ⟨len - (k + 1), by omega, _, ren_gp1 s n b off len cap len k _ _ 0 _ _ (g_gnd _ _), ?_⟩
        have := GpSt.mk (n := n) (sl := RS2 b off len cap) (z := z) (k := k + 1) (by omega) hV
        rw [nbz, ← e1, ← e2] at this
        exact this
    · have hkl : k = len := by omega
      subst hkl
      have c1 : ¬ (k : Int) < Int.ofNat k := by simp
      rw [Nat.sub_self, okFrom] at hV
      refine Go.Ev.Reach.seg (SC_ok r) (tGp_ok r hm n (nbz z k) (nbz_len z k) 0 0) (tm := .nil) (L := 1) (L' := 4) (d := 4) hF hro ?_
      rw [gpB, dF c1, cond_false]
      exact qn_ok ⟨rfl, hV.symm, _, ren_gp3 _ n b off k cap k k _ (g_gnd _ _), rfl⟩

end

end Go.Proofs

/- The program's reading of a graph, run: its ends. -/
namespace Go.Proofs
open Go Go.Ev Go.Num
set_option linter.unusedVariables false
set_option linter.unusedSimpArgs false

def TG0 (n : Int) (b off len cap : Nat) : Tr Value := ((tr0 7342067 [I n, RS2 b off len cap]).put 4 (some (.pointer (some ⟨0, 0, none⟩)))).put 5 (some (I 0))

theorem gpP1 (r : Mem) (L : Nat) (fs : FnsC) (n : Int) (b off len cap : Nat) (kn : KS) (kx : Nat → KS) (kr : KS) : run (SC r) 7342067 64 L (lc cGp) fs none kn kx kr (sc0 7342067 [I n, RS2 b off len cap]) (tr0 7342067 [I n, RS2 b off len cap]) [] emptyA =
    kn [] (Tr.node (Tr.node Tr.nil (some (Value.slice (some (Addr.mk b off (some 0))) len cap)) (Tr.node Tr.nil (some (Value.int IntKind.i64 (Int.ofNat 0))) Tr.nil)) (some (Value.int IntKind.i64 n)) (Tr.node (Tr.node Tr.nil (some (Value.pointer (some (Addr.mk 0 0 none)))) Tr.nil) none Tr.nil)) [] (AW.mk 1 (Tr.node Tr.nil (some (AObj.cells [Value.int IntKind.i64 (Int.ofNat 0), Value.int IntKind.u64 (Int.ofNat 0), Value.int IntKind.u64 (Int.ofNat 0), Value.int IntKind.u64 (Int.ofNat 0), Value.int IntKind.u64 (Int.ofNat 0), Value.int IntKind.u64 (Int.ofNat 0), Value.int IntKind.u64 (Int.ofNat 0), Value.int IntKind.u64 (Int.ofNat 0), Value.int IntKind.u64 (Int.ofNat 0), Value.int IntKind.u64 (Int.ofNat 0), Value.int IntKind.u64 (Int.ofNat 0), Value.int IntKind.u64 (Int.ofNat 0), Value.int IntKind.u64 (Int.ofNat 0), Value.int IntKind.u64 (Int.ofNat 0), Value.int IntKind.u64 (Int.ofNat 0), Value.int IntKind.u64 (Int.ofNat 0), Value.int IntKind.u64 (Int.ofNat 0)] 53 0 0)) Tr.nil) Tr.nil) := by kernel_rfl

theorem gpP2 (r : Mem) (L : Nat) (fs : FnsC) (n : Int) (b off len cap : Nat) (s : List (Nat × Value)) (kn : KS) (kx : Nat → KS) (kr : KS) : run (SC r) 7342067 64 L (lc (rc cGp)) fs none kn kx kr s (TG0 n b off len cap) [] (AGe resG) =
    bif decide (n < 1) then kr [(17, Value.agg (Array.mk [Value.int IntKind.i64 (Int.ofNat 0), Value.int IntKind.u64 (Int.ofNat 0), Value.int IntKind.u64 (Int.ofNat 0), Value.int IntKind.u64 (Int.ofNat 0), Value.int IntKind.u64 (Int.ofNat 0), Value.int IntKind.u64 (Int.ofNat 0), Value.int IntKind.u64 (Int.ofNat 0), Value.int IntKind.u64 (Int.ofNat 0), Value.int IntKind.u64 (Int.ofNat 0), Value.int IntKind.u64 (Int.ofNat 0), Value.int IntKind.u64 (Int.ofNat 0), Value.int IntKind.u64 (Int.ofNat 0), Value.int IntKind.u64 (Int.ofNat 0), Value.int IntKind.u64 (Int.ofNat 0), Value.int IntKind.u64 (Int.ofNat 0), Value.int IntKind.u64 (Int.ofNat 0), Value.int IntKind.u64 (Int.ofNat 0)]))] (Tr.node (Tr.node Tr.nil (some (Value.slice (some (Addr.mk b off (some 0))) len cap)) (Tr.node Tr.nil (some (Value.int IntKind.i64 (Int.ofNat 1))) Tr.nil)) (some (Value.int IntKind.i64 n)) (Tr.node (Tr.node Tr.nil (some (Value.pointer (some (Addr.mk 0 0 none)))) Tr.nil) none Tr.nil)) [] (AW.mk 1 (Tr.node Tr.nil (some (AObj.cells [Value.int IntKind.i64 (Int.ofNat 0), Value.int IntKind.u64 (Int.ofNat 0), Value.int IntKind.u64 (Int.ofNat 0), Value.int IntKind.u64 (Int.ofNat 0), Value.int IntKind.u64 (Int.ofNat 0), Value.int IntKind.u64 (Int.ofNat 0), Value.int IntKind.u64 (Int.ofNat 0), Value.int IntKind.u64 (Int.ofNat 0), Value.int IntKind.u64 (Int.ofNat 0), Value.int IntKind.u64 (Int.ofNat 0), Value.int IntKind.u64 (Int.ofNat 0), Value.int IntKind.u64 (Int.ofNat 0), Value.int IntKind.u64 (Int.ofNat 0), Value.int IntKind.u64 (Int.ofNat 0), Value.int IntKind.u64 (Int.ofNat 0), Value.int IntKind.u64 (Int.ofNat 0), Value.int IntKind.u64 (Int.ofNat 0)] 53 0 0)) Tr.nil) Tr.nil) else bif decide (n > 16) then kr [(17, Value.agg (Array.mk [Value.int IntKind.i64 (Int.ofNat 0), Value.int IntKind.u64 (Int.ofNat 0), Value.int IntKind.u64 (Int.ofNat 0), Value.int IntKind.u64 (Int.ofNat 0), Value.int IntKind.u64 (Int.ofNat 0), Value.int IntKind.u64 (Int.ofNat 0), Value.int IntKind.u64 (Int.ofNat 0), Value.int IntKind.u64 (Int.ofNat 0), Value.int IntKind.u64 (Int.ofNat 0), Value.int IntKind.u64 (Int.ofNat 0), Value.int IntKind.u64 (Int.ofNat 0), Value.int IntKind.u64 (Int.ofNat 0), Value.int IntKind.u64 (Int.ofNat 0), Value.int IntKind.u64 (Int.ofNat 0), Value.int IntKind.u64 (Int.ofNat 0), Value.int IntKind.u64 (Int.ofNat 0), Value.int IntKind.u64 (Int.ofNat 0)]))] (Tr.node (Tr.node Tr.nil (some (Value.slice (some (Addr.mk b off (some 0))) len cap)) (Tr.node Tr.nil (some (Value.int IntKind.i64 (Int.ofNat 1))) Tr.nil)) (some (Value.int IntKind.i64 n)) (Tr.node (Tr.node Tr.nil (some (Value.pointer (some (Addr.mk 0 0 none)))) Tr.nil) none Tr.nil)) [] (AW.mk 1 (Tr.node Tr.nil (some (AObj.cells [Value.int IntKind.i64 (Int.ofNat 0), Value.int IntKind.u64 (Int.ofNat 0), Value.int IntKind.u64 (Int.ofNat 0), Value.int IntKind.u64 (Int.ofNat 0), Value.int IntKind.u64 (Int.ofNat 0), Value.int IntKind.u64 (Int.ofNat 0), Value.int IntKind.u64 (Int.ofNat 0), Value.int IntKind.u64 (Int.ofNat 0), Value.int IntKind.u64 (Int.ofNat 0), Value.int IntKind.u64 (Int.ofNat 0), Value.int IntKind.u64 (Int.ofNat 0), Value.int IntKind.u64 (Int.ofNat 0), Value.int IntKind.u64 (Int.ofNat 0), Value.int IntKind.u64 (Int.ofNat 0), Value.int IntKind.u64 (Int.ofNat 0), Value.int IntKind.u64 (Int.ofNat 0), Value.int IntKind.u64 (Int.ofNat 0)] 53 0 0)) Tr.nil) Tr.nil) else kn [(16, Value.bool false), (15, Value.bool false), (14, Value.int IntKind.i64 n), (13, Value.bool false), (12, Value.bool false), (11, Value.int IntKind.i64 n)] (Tr.node (Tr.node Tr.nil (some (Value.slice (some (Addr.mk b off (some 0))) len cap)) (Tr.node Tr.nil (some (Value.int IntKind.i64 (Int.ofNat 0))) Tr.nil)) (some (Value.int IntKind.i64 n)) (Tr.node (Tr.node Tr.nil (some (Value.pointer (some (Addr.mk 0 0 none)))) Tr.nil) none Tr.nil)) [] (AW.mk 1 (Tr.node Tr.nil (some (AObj.cells [Value.int IntKind.i64 (Int.ofNat 0), Value.int IntKind.u64 (Int.ofNat 0), Value.int IntKind.u64 (Int.ofNat 0), Value.int IntKind.u64 (Int.ofNat 0), Value.int IntKind.u64 (Int.ofNat 0), Value.int IntKind.u64 (Int.ofNat 0), Value.int IntKind.u64 (Int.ofNat 0), Value.int IntKind.u64 (Int.ofNat 0), Value.int IntKind.u64 (Int.ofNat 0), Value.int IntKind.u64 (Int.ofNat 0), Value.int IntKind.u64 (Int.ofNat 0), Value.int IntKind.u64 (Int.ofNat 0), Value.int IntKind.u64 (Int.ofNat 0), Value.int IntKind.u64 (Int.ofNat 0), Value.int IntKind.u64 (Int.ofNat 0), Value.int IntKind.u64 (Int.ofNat 0), Value.int IntKind.u64 (Int.ofNat 0)] 53 0 0)) Tr.nil) Tr.nil) := by kernel_rfl

theorem gpP3 (r : Mem) (L : Nat) (fs : FnsC) (n : Int) (b off len cap : Nat) (s : List (Nat × Value)) (kn : KS) (kx : Nat → KS) (kr : KS) : run (SC r) 7342067 64 L (lc (rc (rc cGp))) fs none kn kx kr s (TG0 n b off len cap) [] (AGe resG) =
    kn [(19, Value.agg (Array.mk [Value.int IntKind.i64 n, Value.int IntKind.u64 (Int.ofNat 0), Value.int IntKind.u64 (Int.ofNat 0), Value.int IntKind.u64 (Int.ofNat 0), Value.int IntKind.u64 (Int.ofNat 0), Value.int IntKind.u64 (Int.ofNat 0), Value.int IntKind.u64 (Int.ofNat 0), Value.int IntKind.u64 (Int.ofNat 0), Value.int IntKind.u64 (Int.ofNat 0), Value.int IntKind.u64 (Int.ofNat 0), Value.int IntKind.u64 (Int.ofNat 0), Value.int IntKind.u64 (Int.ofNat 0), Value.int IntKind.u64 (Int.ofNat 0), Value.int IntKind.u64 (Int.ofNat 0), Value.int IntKind.u64 (Int.ofNat 0), Value.int IntKind.u64 (Int.ofNat 0), Value.int IntKind.u64 (Int.ofNat 0)])), (18, Value.int IntKind.i64 n)] (Tr.node (Tr.node Tr.nil (some (Value.slice (some (Addr.mk b off (some 0))) len cap)) (Tr.node Tr.nil (some (Value.int IntKind.i64 (Int.ofNat 0))) Tr.nil)) (some (Value.int IntKind.i64 n)) (Tr.node (Tr.node Tr.nil (some (Value.pointer (some (Addr.mk 0 0 none)))) Tr.nil) none (Tr.node Tr.nil (some (Value.pointer (some (Addr.mk 1 0 none)))) Tr.nil))) [] (AW.mk 2 (Tr.node (Tr.node Tr.nil (some (AObj.cells [Value.int IntKind.i64 n, Value.int IntKind.u64 (Int.ofNat 0), Value.int IntKind.u64 (Int.ofNat 0), Value.int IntKind.u64 (Int.ofNat 0), Value.int IntKind.u64 (Int.ofNat 0), Value.int IntKind.u64 (Int.ofNat 0), Value.int IntKind.u64 (Int.ofNat 0), Value.int IntKind.u64 (Int.ofNat 0), Value.int IntKind.u64 (Int.ofNat 0), Value.int IntKind.u64 (Int.ofNat 0), Value.int IntKind.u64 (Int.ofNat 0), Value.int IntKind.u64 (Int.ofNat 0), Value.int IntKind.u64 (Int.ofNat 0), Value.int IntKind.u64 (Int.ofNat 0), Value.int IntKind.u64 (Int.ofNat 0), Value.int IntKind.u64 (Int.ofNat 0), Value.int IntKind.u64 (Int.ofNat 0)] 53 1 0)) Tr.nil) (some (AObj.cells [Value.int IntKind.i64 (Int.ofNat 0), Value.int IntKind.u64 (Int.ofNat 0), Value.int IntKind.u64 (Int.ofNat 0), Value.int IntKind.u64 (Int.ofNat 0), Value.int IntKind.u64 (Int.ofNat 0), Value.int IntKind.u64 (Int.ofNat 0), Value.int IntKind.u64 (Int.ofNat 0), Value.int IntKind.u64 (Int.ofNat 0), Value.int IntKind.u64 (Int.ofNat 0), Value.int IntKind.u64 (Int.ofNat 0), Value.int IntKind.u64 (Int.ofNat 0), Value.int IntKind.u64 (Int.ofNat 0), Value.int IntKind.u64 (Int.ofNat 0), Value.int IntKind.u64 (Int.ofNat 0), Value.int IntKind.u64 (Int.ofNat 0), Value.int IntKind.u64 (Int.ofNat 0), Value.int IntKind.u64 (Int.ofNat 0)] 53 0 0)) Tr.nil) Tr.nil) := by kernel_rfl

theorem gpP4 (r : Mem) (L : Nat) (fs : FnsC) (n : Int) (b off len cap : Nat) (s : List (Nat × Value)) (kn : KS) (kx : Nat → KS) (kr : KS) : run (SC r) 7342067 64 L (lc (lc (rc (rc (rc cGp))))) fs none kn kx kr s ((TG0 n b off len cap).put 6 (some (.pointer (some ⟨1, 0, none⟩)))) [] (AGp (m_g n (List.replicate 16 0))) =
    kn [] (Tr.node (Tr.node Tr.nil (some (Value.slice (some (Addr.mk b off (some 0))) len cap)) (Tr.node Tr.nil (some (Value.int IntKind.i64 (Int.ofNat 0))) (Tr.node (Tr.node Tr.nil (some (Value.int IntKind.i64 (Int.ofNat len))) Tr.nil) none Tr.nil))) (some (Value.int IntKind.i64 n)) (Tr.node (Tr.node Tr.nil (some (Value.pointer (some (Addr.mk 0 0 none)))) (Tr.node (Tr.node Tr.nil (some (Value.slice (some (Addr.mk b off (some 0))) len cap)) Tr.nil) none Tr.nil)) none (Tr.node Tr.nil (some (Value.pointer (some (Addr.mk 1 0 none)))) (Tr.node (Tr.node Tr.nil (some (Value.int IntKind.i64 (Int.ofNat 0))) Tr.nil) none Tr.nil)))) [] (AW.mk 2 (Tr.node (Tr.node Tr.nil (some (AObj.cells [Value.int IntKind.i64 n, Value.int IntKind.u64 (Int.ofNat 0), Value.int IntKind.u64 (Int.ofNat 0), Value.int IntKind.u64 (Int.ofNat 0), Value.int IntKind.u64 (Int.ofNat 0), Value.int IntKind.u64 (Int.ofNat 0), Value.int IntKind.u64 (Int.ofNat 0), Value.int IntKind.u64 (Int.ofNat 0), Value.int IntKind.u64 (Int.ofNat 0), Value.int IntKind.u64 (Int.ofNat 0), Value.int IntKind.u64 (Int.ofNat 0), Value.int IntKind.u64 (Int.ofNat 0), Value.int IntKind.u64 (Int.ofNat 0), Value.int IntKind.u64 (Int.ofNat 0), Value.int IntKind.u64 (Int.ofNat 0), Value.int IntKind.u64 (Int.ofNat 0), Value.int IntKind.u64 (Int.ofNat 0)] 53 1 0)) Tr.nil) (some (AObj.cells [Value.int IntKind.i64 (Int.ofNat 0), Value.int IntKind.u64 (Int.ofNat 0), Value.int IntKind.u64 (Int.ofNat 0), Value.int IntKind.u64 (Int.ofNat 0), Value.int IntKind.u64 (Int.ofNat 0), Value.int IntKind.u64 (Int.ofNat 0), Value.int IntKind.u64 (Int.ofNat 0), Value.int IntKind.u64 (Int.ofNat 0), Value.int IntKind.u64 (Int.ofNat 0), Value.int IntKind.u64 (Int.ofNat 0), Value.int IntKind.u64 (Int.ofNat 0), Value.int IntKind.u64 (Int.ofNat 0), Value.int IntKind.u64 (Int.ofNat 0), Value.int IntKind.u64 (Int.ofNat 0), Value.int IntKind.u64 (Int.ofNat 0), Value.int IntKind.u64 (Int.ofNat 0), Value.int IntKind.u64 (Int.ofNat 0)] 53 0 0)) Tr.nil) Tr.nil) := by kernel_rfl

theorem gpT (r : Mem) (L : Nat) (fs : FnsC) (n : Int) (sl : Value) (len : Nat) (i : Int) (z0 z1 z2 z3 z4 z5 z6 z7 z8 z9 z10 z11 z12 z13 z14 z15 : Int) (s : List (Nat × Value)) (kn : KS) (kx : Nat → KS) (kr : KS) : run (SC r) 7342067 64 L (rc (rc (rc (rc cGp)))) fs none kn kx kr s (TGp n sl len i) [] (AGp (m_g n [z0, z1, z2, z3, z4, z5, z6, z7, z8, z9, z10, z11, z12, z13, z14, z15])) =
    kr [(63, Value.agg (Array.mk [Value.int IntKind.i64 n, Value.int IntKind.u64 z0, Value.int IntKind.u64 z1, Value.int IntKind.u64 z2, Value.int IntKind.u64 z3, Value.int IntKind.u64 z4, Value.int IntKind.u64 z5, Value.int IntKind.u64 z6, Value.int IntKind.u64 z7, Value.int IntKind.u64 z8, Value.int IntKind.u64 z9, Value.int IntKind.u64 z10, Value.int IntKind.u64 z11, Value.int IntKind.u64 z12, Value.int IntKind.u64 z13, Value.int IntKind.u64 z14, Value.int IntKind.u64 z15]))] (Tr.node (Tr.node Tr.nil (some sl) (Tr.node Tr.nil (some (Value.int IntKind.i64 (Int.ofNat 0))) (Tr.node (Tr.node Tr.nil (some (Value.int IntKind.i64 (Int.ofNat len))) Tr.nil) none Tr.nil))) (some (Value.int IntKind.i64 n)) (Tr.node (Tr.node Tr.nil (some (Value.pointer (some (Addr.mk 0 0 none)))) (Tr.node (Tr.node Tr.nil (some sl) Tr.nil) none Tr.nil)) none (Tr.node Tr.nil (some (Value.pointer (some (Addr.mk 1 0 none)))) (Tr.node (Tr.node Tr.nil (some (Value.int IntKind.i64 i)) Tr.nil) none Tr.nil)))) [] (AW.mk 2 (Tr.node (Tr.node Tr.nil (some (AObj.cells [Value.int IntKind.i64 n, Value.int IntKind.u64 z0, Value.int IntKind.u64 z1, Value.int IntKind.u64 z2, Value.int IntKind.u64 z3, Value.int IntKind.u64 z4, Value.int IntKind.u64 z5, Value.int IntKind.u64 z6, Value.int IntKind.u64 z7, Value.int IntKind.u64 z8, Value.int IntKind.u64 z9, Value.int IntKind.u64 z10, Value.int IntKind.u64 z11, Value.int IntKind.u64 z12, Value.int IntKind.u64 z13, Value.int IntKind.u64 z14, Value.int IntKind.u64 z15] 53 1 0)) Tr.nil) (some (AObj.cells [Value.int IntKind.i64 n, Value.int IntKind.u64 z0, Value.int IntKind.u64 z1, Value.int IntKind.u64 z2, Value.int IntKind.u64 z3, Value.int IntKind.u64 z4, Value.int IntKind.u64 z5, Value.int IntKind.u64 z6, Value.int IntKind.u64 z7, Value.int IntKind.u64 z8, Value.int IntKind.u64 z9, Value.int IntKind.u64 z10, Value.int IntKind.u64 z11, Value.int IntKind.u64 z12, Value.int IntKind.u64 z13, Value.int IntKind.u64 z14, Value.int IntKind.u64 z15] 53 0 0)) Tr.nil) Tr.nil) := by kernel_rfl

end Go.Proofs

/- The program's reading of a graph: what the call answers. -/
namespace Go.Proofs
open Go Go.Ev Go.Num
set_option linter.unusedVariables false
set_option linter.unusedSimpArgs false

def m_rdg (n : Int) (z : Nat → Int) (len : Nat) : List Value := if ckG n z len = 0 then m_g n (nbz z len) else resG

/-- Sixteen numbers. -/
theorem list16 {zs : List Int} (h : zs.length = 16) : ∃ z0 z1 z2 z3 z4 z5 z6 z7 z8 z9 z10 z11 z12 z13 z14 z15, zs = [z0, z1, z2, z3, z4, z5, z6, z7, z8, z9, z10, z11, z12, z13, z14, z15] := by
  match zs, h with
  | [z0, z1, z2, z3, z4, z5, z6, z7, z8, z9, z10, z11, z12, z13, z14, z15], _ => exact ⟨_, _, _, _, _, _, _, _, _, _, _, _, _, _, _, _, rfl⟩

theorem fin_g (r : Mem) (n : Int) (zs : List Int) (h : zs.length = 16) (e : Int) : finish (SC r) 7342067 [.cell 4 53, .tmp 5] ⟨⟨[], TGe e⟩, [], AGe (m_g n zs)⟩ = .ret (.tuple ⟨[.agg ⟨m_g n zs⟩, I e]⟩) (AGe (m_g n zs)) := by
  obtain ⟨z0, z1, z2, z3, z4, z5, z6, z7, z8, z9, z10, z11, z12, z13, z14, z15, rfl⟩ := list16 h
  kernel_rfl
theorem resG_eq : resG = m_g 0 (List.replicate 16 0) := rfl
theorem fin_r (r : Mem) (e : Int) : finish (SC r) 7342067 [.cell 4 53, .tmp 5] ⟨⟨[], TGe e⟩, [], AGe resG⟩ = .ret (.tuple ⟨[.agg ⟨resG⟩, I e]⟩) (AGe resG) := by kernel_rfl

theorem rdg_gnd (n : Int) (z : Nat → Int) (len : Nat) (e : Int) : gnd (.tuple ⟨[.agg ⟨m_rdg n z len⟩, I e]⟩) = true := by
  unfold m_rdg
  split
  · obtain ⟨z0, z1, z2, z3, z4, z5, z6, z7, z8, z9, z10, z11, z12, z13, z14, z15, h⟩ := list16 (nbz_len z len)
    rw [h]; rfl
  · rfl

theorem cGp_eq : cGp = .seq (lc cGp) (.seq (lc (rc cGp)) (.seq (lc (rc (rc cGp))) (.seq (.seq (lc (lc (rc (rc (rc cGp))))) (.block 0 (.loop (ic (ic (rc (lc (rc (rc (rc cGp)))))))))) (rc (rc (rc (rc cGp))))))) := by kernel_rfl

theorem ren_tg {r : Mem} {W0 : World} (s : List (Nat × Value)) (n : Int) (b off len cap : Nat) (e : Int) (l : Tr Value) : Ren (SC r) 7342067 64 noG W0 ⟨⟨s, (Tr.node (Tr.node l (some (RS2 b off len cap)) (Tr.node Tr.nil (some (I e)) Tr.nil)) (some (I n)) (Tr.node (Tr.node Tr.nil (some (.pointer (some ⟨0, 0, none⟩))) Tr.nil) none Tr.nil))⟩, [], AGe resG⟩ ⟨⟨[], TGe e⟩, [], AGe resG⟩ := by
  refine Ren.of (fun i => i) 0 rfl (fun _ _ => rfl) (Nat.zero_le _) (fun i hi => absurd hi (Nat.not_lt_zero i)) ?_ rfl ?_ trivial
  · simp only [Tr.All, TGe, Tr.put]
    repeat' (first | exact trivial | apply And.intro)
    all_goals exact ⟨_, rfl, rfl⟩
  · simp only [Tr.All, AGe, resG]
    repeat' (first | exact trivial | apply And.intro)
    all_goals first | rfl | exact .head _ | exact ⟨_, rfl, .plain (fun _ _ => rfl)⟩ | exact ⟨_, rfl, .cells rfl⟩ | skip

theorem gp_tail {r : Mem} {W0 : World} {F : Fence} {k : Nat} (hF : Wide F) (hro : F.round = none) (n : Int) (b off len cap : Nat) (z : Nat → Int) :
    Go.Ev.Reach (SC r) 7342067 64 F k noG W0 (rc (rc (rc (rc cGp)))) ⟨⟨[], TGp n (RS2 b off len cap) len len⟩, [], AGp (m_g n (nbz z len))⟩ fun ex st => (ex = .normal ∨ ex = .ret) ∧ ∃ st1, Ren (SC r) 7342067 64 noG W0 st st1 ∧ finish (SC r) 7342067 [.cell 4 53, .tmp 5] st1 = .ret (.tuple ⟨[.agg ⟨m_g n (nbz z len)⟩, I 0]⟩) (AGe (m_g n (nbz z len))) := by
  refine Go.Ev.Reach.seg (SC_ok r) TOk.nil (tm := .nil) (L := 1) (L' := 1) (d := 1) hF hro ?_
  have hg := fin_g r n (nbz z len) (nbz_len z len) 0
  obtain ⟨z0, z1, z2, z3, z4, z5, z6, z7, z8, z9, z10, z11, z12, z13, z14, z15, h⟩ := list16 (nbz_len z len)
  rw [h] at hg ⊢
  rw [gpT]
  refine qn_ok ⟨.inr rfl, _, ?_, hg⟩
  refine Ren.of (fun i => i) 0 rfl (fun _ _ => rfl) (Nat.zero_le _) (fun i hi => absurd hi (Nat.not_lt_zero i)) ?_ rfl ?_ trivial
  · simp only [Tr.All, TGe, Tr.put]
    repeat' (first | exact trivial | apply And.intro)
    all_goals exact ⟨_, rfl, rfl⟩
  · simp only [Tr.All, AGe]
    repeat' (first | exact trivial | apply And.intro)
    all_goals first | rfl | exact .head _ | exact ⟨_, rfl, .plain (g_gnd _ _)⟩ | skip

theorem gp_calls (r : Mem) (hm : ∀ b j u, tabM b j = some u → r b j = some u) (n : Int) (b off len cap : Nat) (z : Nat → Int) (hz : rowAt r b off (2 * len) z) (hl : len ≤ 1000000) (F : Fence) (hF : Wide F) (k : Nat) (W : World) (args' : Array Value) (hR : Ro (SC r).ro noG W) (ha : VsRel noG [I n, RS2 b off len cap] args'.toList) :
    CallsIn F k (SC r).P 19 args' W (Go.Ev.Ends noG W (.tuple ⟨[.agg ⟨m_rdg n z len⟩, I (ckG n z len)]⟩) (AGe (m_rdg n z len))) := by
  obtain ⟨fn, h1, h2, h3, h4⟩ := fn_of (C := SC r) (f := 19) (by kernel_rfl)
  have hn : fn.ntmps = 64 := h3.trans (by kernel_rfl)
  have hr : fn.results.toList = [.cell 4 53, .tmp 5] := h4.trans (by kernel_rfl)
  rw [bodySC] at h2
  refine call_reach (SC_ok r) h1 h2 7342067 (by rw [hn]; rfl) (fun F k hF hro => ?_) (WRel.empty W) hR ha hF k
  rw [hn, hr]
  show Go.Ev.Reach (SC r) 7342067 64 F k noG W cGp _ _
  rw [cGp_eq]
  refine Go.Ev.Reach.seq (Go.Ev.Reach.seg (SC_ok r) TOk.nil (tm := .nil) (L := 1) (L' := 1) (d := 1) hF hro ((gpP1 r _ _ n b off len cap _ _ _).trans (qn_ok ?_)))
  have e1 : n < 1 ∨ n > 16 → ckG n z len = 1 := fun h => by unfold ckG; rw [if_pos h]
  refine Go.Ev.Reach.seq (Go.Ev.Reach.seg (SC_ok r) TOk.nil (tm := .nil) (L := 1) (L' := 1) (d := 1) hF hro ((gpP2 r _ _ n b off len cap _ _ _ _).trans ?_))
  by_cases c1 : n < 1
  · rw [dT c1, cond_true]
    refine qn_ok ⟨.inr rfl, _, ren_tg _ n b off len cap 1 .nil, ?_⟩
    have e := e1 (.inl c1)
    unfold m_rdg
    rw [e, if_neg (by decide)]
    exact fin_r r 1
  rw [dF c1, cond_false]
  by_cases c2 : n > 16
  · rw [dT c2, cond_true]
    refine qn_ok ⟨.inr rfl, _, ren_tg _ n b off len cap 1 .nil, ?_⟩
    have e := e1 (.inr c2)
    unfold m_rdg
    rw [e, if_neg (by decide)]
    exact fin_r r 1
  rw [dF c2, cond_false]
  refine qn_ok ?_
  refine Go.Ev.Reach.seq (Go.Ev.Reach.seg (SC_ok r) TOk.nil (tm := .nil) (L := 1) (L' := 1) (d := 1) hF hro ((gpP3 r _ _ n b off len cap _ _ _ _).trans (qn_ok ?_)))
  refine Go.Ev.Reach.seq (Go.Ev.Reach.seq (Go.Ev.Reach.seg (SC_ok r) TOk.nil (tm := .nil) (L := 1) (L' := 1) (d := 1) hF hro ((gpP4 r _ _ n b off len cap _ _ _ _).trans (qn_ok ?_))))
  refine Go.Ev.Reach.pre (ren_gp3 _ n b off len cap len 0 (m_g n (List.replicate 16 0)) (g_gnd _ _)) ?_
  refine Go.Ev.Reach.block ?_
  refine Go.Ev.Reach.loop (I := fun j st => ∃ st1, Ren (SC r) 7342067 64 noG W st st1 ∧ GpSt n (RS2 b off len cap) len z (okAll n z len) j st1) (fun j st ⟨st1, hr, hs⟩ => Go.Ev.Reach.pre hr (Go.Ev.Reach.mono (gp_body hm (by omega) hz hl hF hro hs) fun ex st' h => ?_)) ⟨_, Ren.refl _, .mk (k := 0) (Nat.zero_le _) rfl⟩
  have nr : ¬ (n < 1 ∨ n > 16) := by omega
  cases ex with
  | normal => exact h
  | exit id =>
    obtain ⟨rfl, hV, st2, hr2, rfl⟩ := h
    dsimp only
    rw [if_pos rfl]
    have e : ckG n z len = 0 := by unfold ckG; rw [if_neg nr, if_pos hV]
    unfold m_rdg
    rw [e, if_pos rfl]
    exact Go.Ev.Reach.pre hr2 (gp_tail hF hro n b off len cap z)
  | ret =>
    obtain ⟨hV, st2, hr2, rfl⟩ := h
    have e : ckG n z len = 40 := by unfold ckG; rw [if_neg nr, if_neg (by rw [hV]; decide)]
    unfold m_rdg
    rw [e, if_neg (by decide)]
    exact ⟨.inr rfl, _, hr2, fin_r r 40⟩
  | _ => exact h.elim

/-- A graph read, or the error. -/
theorem partRead_ok (r : Mem) (hm : ∀ b j u, tabM b j = some u → r b j = some u) (n : Int) (b off len cap : Nat) (z : Nat → Int) (hz : rowAt r b off (2 * len) z) (hl : len ≤ 1000000) : GrT Tryz.prog r 19 [I n, RS2 b off len cap] (.tuple ⟨[.agg ⟨m_rdg n z len⟩, I (ckG n z len)]⟩) :=
  ⟨rdg_gnd n z len _, fun F hF k W args' hR ha => (gp_calls r hm n b off len cap z hz hl F hF k W args' hR ha).mono fun e W' he => by
    obtain ⟨v', γ', rfl, hv, hw', hx⟩ := he
    exact ⟨by rw [hv.eq_of_gnd (rdg_gnd n z len _)], hx.below⟩⟩

end Go.Proofs

/- Checks of a graph, run. -/
namespace Go.Proofs
open Go Go.Ev Go.Num
set_option linter.unusedVariables false
set_option linter.unusedSimpArgs false

/-- An entry for these arguments alone, whatever the world. -/
noncomputable def m_same (a b : List Value) : Bool := @decide (a = b) (Classical.propDecidable _)
noncomputable def entV (args0 : List Value) (v : Value) : Ent := ent (fun args _ => m_same args args0) (fun _ _ => v)
theorem same_rfl (a : List Value) : m_same a a = true := @decide_eq_true _ (Classical.propDecidable _) rfl
theorem entV_ok {C : Cfg} {f : Nat} {args0 : List Value} {v : Value} (h : GrT C.P C.ro f args0 v) (hr : roVs args0 = true) : EOk C f (entV args0 v) := EOk.ent fun args A hg => by
  have := @of_decide_eq_true _ (Classical.propDecidable _) hg
  subst this
  exact h.ro hr A

noncomputable def tCk (n : Int) (sl : Value) (V : Bool) : Tbl := tcons 18 (entV [I n, sl] (.bool V)) fun _ => none
noncomputable def tPc (n : Int) (sl : Value) (g : List Value) (e : Int) : Tbl := tcons 19 (entV [I n, sl] (.tuple ⟨[.agg ⟨g⟩, I e]⟩)) fun _ => none

theorem ckA (r : Mem) (n : Int) (b off len cap : Nat) (V : Bool) : (lvlT (SC r) (tCk n (RS2 b off len cap) V) .nil 1 1).call 5 [I n, RS2 b off len cap] emptyA fin =
    bif decide (n < 1) then CR.ret (Value.int IntKind.i64 (Int.ofNat 1)) (AW.mk 0 Tr.nil Tr.nil) else bif decide (n > 16) then CR.ret (Value.int IntKind.i64 (Int.ofNat 1)) (AW.mk 0 Tr.nil Tr.nil) else bif m_same [Value.int IntKind.i64 n, Value.slice (some (Addr.mk b off (some 0))) len cap] [Value.int IntKind.i64 n, Value.slice (some (Addr.mk b off (some 0))) len cap] then bif V then CR.ret (Value.int IntKind.i64 (Int.ofNat 0)) (AW.mk 0 Tr.nil Tr.nil) else CR.ret (Value.int IntKind.i64 (Int.ofNat 40)) (AW.mk 0 Tr.nil Tr.nil) else CR.fail 420 := by kernel_rfl

theorem pcA (r : Mem) (n : Int) (b off len cap : Nat) (e : Int) (g : List Value) : (lvlT (SC r) (tPc n (RS2 b off len cap) g e) .nil 1 1).call 6 [I n, RS2 b off len cap] emptyA fin =
    bif m_same [Value.int IntKind.i64 n, Value.slice (some (Addr.mk b off (some 0))) len cap] [Value.int IntKind.i64 n, Value.slice (some (Addr.mk b off (some 0))) len cap] then bif Nat.beq (List.length g) 17 then bif ones g then Option.casesOn (setAt [Value.int IntKind.i64 (Int.ofNat 0), Value.int IntKind.u64 (Int.ofNat 0), Value.int IntKind.u64 (Int.ofNat 0), Value.int IntKind.u64 (Int.ofNat 0), Value.int IntKind.u64 (Int.ofNat 0), Value.int IntKind.u64 (Int.ofNat 0), Value.int IntKind.u64 (Int.ofNat 0), Value.int IntKind.u64 (Int.ofNat 0), Value.int IntKind.u64 (Int.ofNat 0), Value.int IntKind.u64 (Int.ofNat 0), Value.int IntKind.u64 (Int.ofNat 0), Value.int IntKind.u64 (Int.ofNat 0), Value.int IntKind.u64 (Int.ofNat 0), Value.int IntKind.u64 (Int.ofNat 0), Value.int IntKind.u64 (Int.ofNat 0), Value.int IntKind.u64 (Int.ofNat 0), Value.int IntKind.u64 (Int.ofNat 0)] 0 g) (CR.fail 450) fun val => CR.ret (Value.int IntKind.i64 e) (AW.mk 0 Tr.nil Tr.nil) else CR.fail 451 else CR.fail 454 else CR.fail 420 := by kernel_rfl

end Go.Proofs

/- Checks of a graph: what the calls answer. -/
namespace Go.Proofs
open Go Go.Ev Go.Num
set_option linter.unusedVariables false
set_option linter.unusedSimpArgs false

theorem refCheck_ok (r : Mem) (n : Int) (b off len cap : Nat) (z : Nat → Int) (hz : rowAt r b off (2 * len) z) (hl : len ≤ 1000000) : GrT Tryz.prog r 5 [I n, RS2 b off len cap] (I (ckG n z len)) :=
  GrT.of (SC_ok r) (show TOk (SC r) (tCk n (RS2 b off len cap) (okAll n z len)) from TOk.cons TOk.nil (entV_ok (edges_ok r n b off len cap z hz hl) rfl)) .nil rfl ⟨1, 1, by
    rw [ckA]
    unfold ckG
    by_cases c1 : n < 1
    · rw [dT c1, cond_true, if_pos (.inl c1)]; rfl
    · by_cases c2 : n > 16
      · rw [dF c1, cond_false, dT c2, cond_true, if_pos (.inr c2)]; rfl
      · rw [dF c1, cond_false, dF c2, cond_false, show m_same _ _ = true from same_rfl _, cond_true, if_neg (by omega)]
        cases okAll n z len with
        | true => rw [cond_true, if_pos rfl]; rfl
        | false => rw [cond_false, if_neg (by decide)]; rfl⟩

theorem rdg_form (n : Int) (z : Nat → Int) (len : Nat) : ∃ n' zs, zs.length = 16 ∧ m_rdg n z len = m_g n' zs := by
  unfold m_rdg
  split
  · exact ⟨n, _, nbz_len z len, rfl⟩
  · exact ⟨0, _, List.length_replicate .., rfl⟩

theorem partCheck_ok (r : Mem) (hm : ∀ b j u, tabM b j = some u → r b j = some u) (n : Int) (b off len cap : Nat) (z : Nat → Int) (hz : rowAt r b off (2 * len) z) (hl : len ≤ 1000000) : GrT Tryz.prog r 6 [I n, RS2 b off len cap] (I (ckG n z len)) :=
  GrT.of (SC_ok r) (show TOk (SC r) (tPc n (RS2 b off len cap) (m_rdg n z len) (ckG n z len)) from TOk.cons TOk.nil (entV_ok (partRead_ok r hm n b off len cap z hz hl) rfl)) .nil rfl ⟨1, 1, by
    rw [pcA, show m_same _ _ = true from same_rfl _, cond_true]
    obtain ⟨n', zs, hzl, h⟩ := rdg_form n z len
    rw [h]
    obtain ⟨z0, z1, z2, z3, z4, z5, z6, z7, z8, z9, z10, z11, z12, z13, z14, z15, rfl⟩ := list16 hzl
    kernel_rfl⟩

end Go.Proofs

