/- What the claim is proved with, part 1: the evaluator and the contracts of the calls. -/
import Derived.Test.YtcgambmcjlighaaDoorSymBase
import Derived.Test.YtcgambmcjlighaaDoorEvMemOf
import Derived.Test.YtcgambmcjlighaaDoorRows
import Derived.FnData
import Derived.MakeChecks
import Derived.IntWalk
import Derived.Test.YtcgambmcjlighaaDoorEvRen
import Derived.Test.YtcgambmcjlighaaDoorEvOwn
import Derived.Test.YtcgambmcjlighaaDoorEvCanP
import Derived.Test.YtcgambmcjlighaaDoorEvRd
set_option linter.unusedVariables false
set_option linter.unusedSimpArgs false
set_option maxRecDepth 100000
namespace Go.Proofs
open Go Go.Ev
def u8s (l : List Nat) : List Value := l.map fun n => .int .u8 (Int.ofNat n)
def tab32 : List Nat := [0, 1, 28, 2, 29, 14, 24, 3, 30, 22, 20, 15, 25, 17, 4, 8, 31, 27, 13, 23, 21, 19, 16, 7, 26, 12, 18, 6, 11, 5, 10, 9]
def tab64 : List Nat := [0, 1, 56, 2, 57, 49, 28, 3, 61, 58, 42, 50, 38, 29, 17, 4, 62, 47, 59, 36, 45, 43, 51, 22, 53, 39, 33, 30, 24, 18, 12, 5, 63, 55, 48, 27, 60, 41, 37, 16, 46, 35, 44, 21, 52, 32, 23, 11, 54, 26, 40, 15, 34, 20, 31, 10, 25, 14, 19, 9, 13, 8, 7, 6]
def memL (l : List Value) : Nat → Option Value := fun j => l[j]?
def tabM : Mem := fun b j => match Nat.beq b 0 with
 | true => memL (u8s tab64) j
 | false => match Nat.beq b 1 with
  | true => memL (u8s tab32) j
  | false => none
end Go.Proofs
namespace Go.Proofs
open Go Go.Ev
theorem tab_cells {H : Type} {enc : TypeId × Value → H} {P : Program} {w : World} {base fuel : Nat} {spare : Nat → Bool} {held : Bool} {t e : TypeId} {n : Nat} {k : IntKind} {cs : List Value} {l : List Int} {p : List MemPlace}
  (ht : P.underlying t = some (.array n e)) (he : P.underlying e = some (.int k)) (ce : P.cellsOf e = 1)
  (h : DataW.trod enc P w base spare held fuel t cs = some (.agg (l.map fun z => .lit (.int k z)), p)) : ∀ (j : Nat) (z : Int), l[j]? = some z → cs[j]? = some (Value.int k z) := by
 obtain ⟨xs, m, _, hx, _, hl, hel⟩ := DataW.trod_array ht h
 have h1 : l.map (fun z => (DataW.lit (.int k z) : DataW H)) = xs.map (·.1) := by
  have := congrArg Prod.fst hx
  simpa using this
 intro j z hz
 have hlen : l.length = xs.length := by
  have := congrArg List.length h1
  simpa using this
 have hj : j < l.length := (List.getElem?_eq_some_iff.1 hz).1
 have h3 := hel j (by omega)
 rw [ce, Nat.mul_one] at h3
 have hxj : xs[j]? = some xs[j] := List.getElem?_eq_getElem (by omega)
 rw [hxj] at h3
 obtain ⟨s, h4, h5, _⟩ := DataW.trod_int he h3
 have h6 : (l.map (fun z => (DataW.lit (.int k z) : DataW H)))[j]? = (xs.map (·.1))[j]? := by rw [h1]
 simp only [List.getElem?_map, hz, hxj, Option.map_some, h5, Option.some.injEq, DataW.lit.injEq, Lit.int.injEq, true_and] at h6
 subst h6
 have h7 := congrArg (fun l : List Value => l[0]?) h4
 simp only [List.getElem?_cons_zero] at h7
 rw [List.getElem?_take_of_lt (by omega), List.getElem?_drop] at h7
 simpa using h7
theorem tab_mem {P : Program} {w : World} {n : String} {g : Nat} {cs : Array Value} {k : IntKind} (hg : P.globalNamed n = some g) (hv : w.var? P n = some cs) {l : List Int} (h : ∀ (j : Nat) (z : Int), l[j]? = some z → cs.toList[j]? = some (Value.int k z)) :
  ∀ (j : Nat) (z : Int), l[j]? = some z → memOf w g j = some (Value.int k z) := fun j z hz => memOf_int (by
 rw [World.var?_cell hg hv j]
 have := h j z hz
 simpa using this)
theorem laid_32 {W : World} {g t f : Nat} {cs : Array Value} {p : List MemPlace} (a1 : Tryd.prog.globalNamed "math/bits.deBruijn32tab" = some g) (a2 : (Tryd.prog.globals[g]?).map (·.type) = some t) (a3 : W.var? Tryd.prog "math/bits.deBruijn32tab" = some cs)
  (a4 : DataW.trod (fun _ => ()) Tryd.prog W 0 (fun _ => true) false f t cs.toList = some (YtcgambmcjlighaaDoor.Rows.laid_math_bits_deBruijn32tab, p)) : ∀ j u, memL (u8s tab32) j = some u → memOf W 1 j = some u := by
 have hg : Tryd.prog.globalNamed "math/bits.deBruijn32tab" = some 1 := by kernel_rfl
 obtain rfl := Option.some.inj (hg.symm.trans a1)
 obtain rfl := Option.some.inj ((show (Tryd.prog.globals[1]?).map (·.type) = some 156 by kernel_rfl).symm.trans a2)
 have h1 := tab_cells (l := tab32.map Int.ofNat) (k := .u8) (t := 156) (n := 32) (e := 5) (by kernel_rfl) (by kernel_rfl) (by kernel_rfl) (a4.trans (by rfl))
 intro j u hu
 simp only [memL, u8s, List.getElem?_map, Option.map_eq_some_iff] at hu
 obtain ⟨z, hz, rfl⟩ := hu
 exact tab_mem hg a3 h1 j _ (by simp [List.getElem?_map, hz])
theorem laid_64 {W : World} {g t f : Nat} {cs : Array Value} {p : List MemPlace} (a1 : Tryd.prog.globalNamed "math/bits.deBruijn64tab" = some g) (a2 : (Tryd.prog.globals[g]?).map (·.type) = some t) (a3 : W.var? Tryd.prog "math/bits.deBruijn64tab" = some cs)
  (a4 : DataW.trod (fun _ => ()) Tryd.prog W 0 (fun _ => true) false f t cs.toList = some (YtcgambmcjlighaaDoor.Rows.laid_math_bits_deBruijn64tab, p)) : ∀ j u, memL (u8s tab64) j = some u → memOf W 0 j = some u := by
 have hg : Tryd.prog.globalNamed "math/bits.deBruijn64tab" = some 0 := by kernel_rfl
 obtain rfl := Option.some.inj (hg.symm.trans a1)
 obtain rfl := Option.some.inj ((show (Tryd.prog.globals[0]?).map (·.type) = some 150 by kernel_rfl).symm.trans a2)
 have h1 := tab_cells (l := tab64.map Int.ofNat) (k := .u8) (t := 150) (n := 64) (e := 5) (by kernel_rfl) (by kernel_rfl) (by kernel_rfl) (a4.trans (by rfl))
 intro j u hu
 simp only [memL, u8s, List.getElem?_map, Option.map_eq_some_iff] at hu
 obtain ⟨z, hz, rfl⟩ := hu
 exact tab_mem hg a3 h1 j _ (by simp [List.getElem?_map, hz])
theorem laid_mem {W : World} {x : String × DataW Unit} (hx : x = ("math/bits.deBruijn32tab", YtcgambmcjlighaaDoor.Rows.laid_math_bits_deBruijn32tab)) {y : String × DataW Unit} (hy : y = ("math/bits.deBruijn64tab", YtcgambmcjlighaaDoor.Rows.laid_math_bits_deBruijn64tab)) (hL : laidMetH Tryd.prog [x, y] W) : ∀ b j u, tabM b j = some u → memOf W b j = some u := by
 subst hx hy
 rw [MakeChecks.laidMetH_plain _ _ _ (by kernel_rfl)] at hL
 obtain ⟨ps, ⟨g1, t1, c1, f1, p1, q1, a1, a2, a3, a4, ⟨g2, t2, c2, f2, p2, q2, b1, b2, b3, b4, _, _⟩, _⟩, _⟩ := hL
 intro b j u h
 unfold tabM at h
 split at h
 ·rename_i hb
  have := Nat.eq_of_beq_eq_true hb
  subst this
  exact laid_64 b1 b2 b3 b4 j u h
 ·split at h
  ·rename_i hb
   have := Nat.eq_of_beq_eq_true hb
   subst this
   exact laid_32 a1 a2 a3 a4 j u h
  ·cases h
end Go.Proofs
namespace Go.Ev
open Go
inductive ArgRowT (r : Mem) (n : Nat) (p : Value → Prop) : Value → Prop
 | nil : ArgRowT r n p (.slice none 0 0)
 | row (b off len cap : Nat) (hl : len ≤ cap) (hc : cap ≤ maxLen) (h : ∀ i, i < cap * n → ∃ u, r b (off + i) = some u ∧ p u) : ArgRowT r n p (.slice (some ⟨b, off, some 0⟩) len cap)
theorem okWide_spot {P : Program} {w : World} {r : Go.Reach} {base : Nat} {t e : TypeId} {x : Addr} {len cap : Nat} (ht : P.underlying t = some (.slice e)) (h : Value.okWide P w r base t (.slice (some x) len cap)) : x.spot = none := by
 simp only [Value.okWide, ht, Cell.okWide, Cell.ok] at h
 exact h.2.2.2.1
section
variable {H : Type} {enc : TypeId × Value → H} {P : Program} {w : World} {base : Nat} {held : Bool}
theorem in_rowT {t e : TypeId} {n : Nat} {p : Value → Prop} {v : Value} {d : DataW H} {ps : List MemPlace} (hn : 0 < n) (ht : P.underlying t = some (.slice e)) (ce : P.cellsOf e = n) (hel : El enc P w base held e n p)
  {b0 : Nat} (hval : Value.okWide P w .any b0 t v) (h : DataW.Trod enc P w base (fun _ => true) held t v d ps) : ∃ u, VRel noG u v ∧ ArgRowT (memOf w) n p u := by
 obtain ⟨u, hu, hs⟩ := in_row hn ht ce hel hval h
 obtain ⟨a, len, cap, rfl⟩ := Go.WideShapes.okWide_slice ht hval
 cases hs with
 | nil => exact ⟨_, hu, .nil⟩
 | row b off len cap hl hc h => exact ⟨_, hu, .row b off len cap hl hc h⟩
 | empty =>
  obtain ⟨fuel, hf⟩ := h
  rcases Go.Deep.open_slice ht hf with ⟨h0, _⟩ | ⟨a', len', cap', m, n', D, Pl, h0, _, hl, hm, hmm, _, hx⟩
  ·simp [Value.cells] at h0
   obtain ⟨rfl, rfl, rfl⟩ := h0
   exact ⟨_, .sliceNil, .nil⟩
  ·simp [Value.cells] at h0
   obtain ⟨rfl, rfl, rfl⟩ := h0
   have hsp := okWide_spot ht hval
   obtain ⟨b, off, s⟩ := a'
   subst hsp
   have hlen : len = 0 := by
    cases hu with
    | sliceE => rfl
    | slice _ _ _ _ hg => cases hg
   subst hlen
   exact ⟨_, .sliceRo b off 0 0 0 cap (by decide) (Nat.zero_le _), .row b off 0 0 (Nat.le_refl _) (Nat.zero_le _) fun i hi => by omega⟩
end
end Go.Ev
namespace Go.Proofs
open Go Go.Ev
theorem fnsSC (r : Mem) : (SC r).fns = S0.fns := by unfold SC Cfg.sym; rfl
theorem bodySC (r : Mem) (f : Nat) : bodyOf (SC r) f = bodyOf S0 f := by unfold bodyOf; rw [fnsSC]
theorem enterN {r : Mem} {t : Tbl} {ms : Tr Nat} {L d f m n : Nat} {args : List Value} {A : AW} {k : KV} {rs : List ResultVar} (c : Code) (hc : c = bodyOf S0 f) (hb : hasBody (SC r) f = true) (hn : ntm (SC r) f = n) (hm : maskFor ms f n = m) (hr : resOf (SC r) f = rs)
  (hl : Nat.ble args.length n = true) (ht : t f = none) :
  (lvlT (SC r) t ms L (d + 1)).call f args A k = run (SC r) m n L c (lvlT (SC r) t ms L d) none (finK (SC r) m rs k) kx242 (finK (SC r) m rs k) (sc0 m args) (tr0 m args) [] A := by
 rw [enter hb hn hm hr hl ht, bodySC, ← hc]
theorem fn_of {C : Cfg} {f : Nat} (h : hasBody C f = true) : ∃ fn, C.fns.get f = some fn ∧ fn.body = some (bodyOf C f) ∧ fn.ntmps = ntm C f ∧ fn.results.toList = resOf C f := by
 unfold hasBody at h
 unfold bodyOf ntm resOf
 split at h
 ·rename_i fn hfn
  split at h
  ·rename_i c hc
   exact ⟨fn, hfn, by simp only [hfn, hc], by simp only [hfn], by simp only [hfn]⟩
  ·cases h
 ·cases h
theorem seqA {C : Cfg} {m n L : Nat} (a b d : Code) : run C m n L (.seq a (.seq b d)) = run C m n L (.seq (.seq a b) d) := rfl
theorem run_while {C : Cfg} {m n L : Nat} {fs : FnsC} {ro : Option Nat} {kn : KS} {kx : Nat → KS} {kr : KS} (a b d : Code) (id : Nat) : run C m n L (.seq a (.seq (.block id (.loop b)) d)) fs ro kn kx kr =
  run C m n L a fs ro (cLoop (fun kl => run C m n L b fs ro kl (fun j => match Nat.beq j id with | true => run C m n L d fs ro kn kx kr | false => kx j) kr) L) kx kr := rfl
theorem run_pre {C : Cfg} {m n L : Nat} (a b d e : Code) : run C m n L (.seq a (.seq (.seq b d) e)) = run C m n L (.seq (.seq a b) (.seq d e)) := rfl
theorem dT {p : Prop} [Decidable p] (h : p) : decide p = true := decide_eq_true h
theorem dF {p : Prop} [Decidable p] (h : ¬ p) : decide p = false := decide_eq_false h
theorem neT {a b : Int} (h : a ≠ b) : (a != b) = true := by simp [h]
theorem neF {a b : Int} (h : a = b) : (a != b) = false := by simp [h]
theorem wrI {z : Int} (h : -9223372036854775808 ≤ z ∧ z ≤ 9223372036854775807) : IntKind.wrap .i64 z = z := IntWalk.i64_in z h
/- An entry for one call alone: these arguments, this world; what it answers, and the world behind it. -/
noncomputable def m_at (args args0 : List Value) (A A0 : AW) : Bool := @decide (args = args0 ∧ A = A0) (Classical.propDecidable _)
noncomputable def entAt (args0 : List Value) (A0 : AW) (v : Value) (A1 : AW) : Ent := ⟨fun args A => m_at args args0 A A0, fun _ _ => true, fun _ _ => v, fun _ _ => A1, fun _ _ => v, fun _ _ => A1⟩
theorem at_rfl (args : List Value) (A : AW) : m_at args args A A = true := @decide_eq_true _ (Classical.propDecidable _) ⟨rfl, rfl⟩
theorem entAt_ok {C : Cfg} {f : Nat} {args0 : List Value} {A0 : AW} {v : Value} {A1 : AW}
  (h : ∀ F, Wide F → ∀ k γ W args', WRel γ A0 W → Ro C.ro γ W → VsRel γ args0 (Array.toList args') → CallsIn F k C.P f args' W (Go.Ev.Ends γ W v A1)) : EOk C f (entAt args0 A0 v A1) := fun args A hg F hF k γ W args' hw hR ha => by
 obtain ⟨rfl, rfl⟩ := @of_decide_eq_true _ (Classical.propDecidable _) hg
 exact ⟨fun _ => h F hF k γ W args' hw hR ha, fun _ => h F hF k γ W args' hw hR ha⟩
theorem entAt_run {C : Cfg} (hC : C.Ok) {t : Tbl} (ht : TOk C t) (tm : Tr Nat) {f : Nat} {args0 : List Value} {A0 : AW} {v : Value} {A1 : AW} (h : ∃ L d, (lvlT C t tm L d).call f args0 A0 .ret = .ret v A1) : EOk C f (entAt args0 A0 v A1) :=
 entAt_ok fun F hF k γ W args' hw hR ha => by
  obtain ⟨L, d, hr⟩ := h
  have h1 := (lvlT_le (C := C) t tm L d).call _ _ _ _ _ _ hr
  cases hc : (lvlU C t tm L d).call f args0 A0 with
  | fail w => rw [hc] at h1; cases h1
  | ret u A' =>
   rw [hc] at h1
   cases h1
   exact (lvlU_ok hC ht tm L d).call γ A0 W f args0 args' v A1 hc hw hR ha F hF k
/- Entries of a table, by the shape of the arguments. -/
def eI2 (g : Int → Int → Bool) (v : Int → Int → Value) : Ent := ent (fun args _ => match args with | [.int .i64 a, .int .i64 b] => g a b | _ => false) (fun args _ => match args with | [.int .i64 a, .int .i64 b] => v a b | _ => undef)
def eI1 (g : Int → Bool) (v : Int → Value) : Ent := ent (fun args _ => match args with | [.int .i64 a] => g a | _ => false) (fun args _ => match args with | [.int .i64 a] => v a | _ => undef)
def e0 (v : Value) : Ent := ent (fun args _ => match args with | [] => true | _ => false) (fun _ _ => v)
theorem eI2_ok {C : Cfg} {f : Nat} {g : Int → Int → Bool} {v : Int → Int → Value} (h : ∀ a b, g a b = true → GrT C.P C.ro f [I a, I b] (v a b)) : EOk C f (eI2 g v) := EOk.ent fun args A hg => by
 split at hg
 ·exact (h _ _ hg).ro rfl A
 ·cases hg
theorem eI1_ok {C : Cfg} {f : Nat} {g : Int → Bool} {v : Int → Value} (h : ∀ a, g a = true → GrT C.P C.ro f [I a] (v a)) : EOk C f (eI1 g v) := EOk.ent fun args A hg => by
 split at hg
 ·exact (h _ hg).ro rfl A
 ·cases hg
theorem e0_ok {C : Cfg} {f : Nat} {v : Value} (h : GrT C.P C.ro f [] v) : EOk C f (e0 v) := EOk.ent fun args A hg => by
 split at hg
 ·exact h.ro rfl A
 ·cases hg
end Go.Proofs
namespace Go.Num
def ea (z : Nat → Int) (i : Nat) : Int := z (2 * i)
def eb (z : Nat → Int) (i : Nat) : Int := z (2 * i + 1)
def okAt (n : Int) (z : Nat → Int) (i : Nat) : Bool :=
 decide (0 ≤ ea z i) && decide (ea z i < eb z i) && decide (eb z i < n) && (i == 0 || decide (ea z (i - 1) < ea z i) || (decide (ea z (i - 1) = ea z i) && decide (eb z (i - 1) < eb z i)))
def okFrom (n : Int) (z : Nat → Int) : Nat → Nat → Bool
 | 0, _ => true
 | j + 1, k => okAt n z k && okFrom n z j (k + 1)
def okAll (n : Int) (z : Nat → Int) (m : Nat) : Bool := okFrom n z m 0
def ckG (n : Int) (z : Nat → Int) (m : Nat) : Int := if n < 1 ∨ n > 16 then 1 else if okAll n z m = true then 0 else 40
theorem okFrom_at {n : Int} {z : Nat → Int} : ∀ (j k : Nat), okFrom n z j k = true → ∀ i, k ≤ i → i < k + j → okAt n z i = true
 | 0, _, _, i, h1, h2 => by omega
 | j + 1, k, h, i, h1, h2 => by
  simp only [okFrom, Bool.and_eq_true] at h
  by_cases c : i = k
  ·subst c; exact h.1
  ·exact okFrom_at j (k + 1) h.2 i (by omega) (by omega)
theorem okAll_at {n : Int} {z : Nat → Int} {m : Nat} (h : okAll n z m = true) (i : Nat) (hi : i < m) : 0 ≤ ea z i ∧ ea z i < eb z i ∧ eb z i < n := by
 have := okFrom_at m 0 h i (by omega) (by omega)
 simp only [okAt, Bool.and_eq_true, decide_eq_true_eq] at this
 exact ⟨this.1.1.1, this.1.1.2, this.1.2⟩
end Go.Num
namespace Go.Proofs
open Go Go.Ev Go.Num
abbrev RS2 (b off len cap : Nat) : Value := .slice (some ⟨b, off, some 0⟩) len cap
end Go.Proofs
namespace Go.Proofs
open Go Go.Ev Go.Num
def rowAt (r : Mem) (b off m : Nat) (z : Nat → Int) : Prop := ∀ j, j < m → r b (off + j) = some (I (z j))
end Go.Proofs
namespace Go.Proofs
open Go Go.Ev Go.Num
def rfAs : Code → Code
 | .rangeFunc _ _ a _ => a
 | c => c
def rfBd : Code → Code
 | .rangeFunc _ _ _ b => b
 | c => c
noncomputable def cJn : Code := bodyOf S0 65
noncomputable def k_ja : Code := rfAs (ic (rc (lc (rc cJn))))
noncomputable def k_jb : Code := rfBd (ic (rc (lc (rc cJn))))
noncomputable def k_jc : Code := rfAs (ic (rc (rc (rc cJn))))
noncomputable def k_jd : Code := rfBd (ic (rc (rc (rc cJn))))
abbrev U (z : Int) : Value := .int .u64 z
def m_tz (x : Int) : Int := if x = 1 then 0 else if x = 2 then 1 else if x = 4 then 2 else if x = 8 then 3 else if x = 16 then 4 else if x = 32 then 5 else if x = 64 then 6 else if x = 128 then 7 else if x = 256 then 8 else if x = 512 then 9 else if x = 1024 then 10 else if x = 2048 then 11 else if x = 4096 then 12 else if x = 8192 then 13 else if x = 16384 then 14 else 15
def m_tzG (x : Int) : Bool := decide (∃ i : Fin 16, x = 2 ^ i.val)
def ARd2 (g : List Value) (a b : Int) : AW := AW.mk 3 (Tr.node (Tr.node Tr.nil (some (.cells g 103 1 0)) Tr.nil) (some (.cells (I 0 :: List.replicate 16 (U 0)) 103 0 0)) (Tr.node Tr.nil (some (.cells [I a, I b] 52 2 0)) Tr.nil)) Tr.nil
def tJn : Tbl := tcons 97 (ent (fun args _ => match args with | [.int .u64 x] => m_tzG x | _ => false) (fun args _ => match args with | [.int .u64 x] => I (m_tz x) | _ => undef)) fun _ => none
theorem jnA1 (r : Mem) (g : List Value) (a b s t : Int) (kn : KS) (kx : Nat → KS) (kr : KS) : run (SC r) 16778495 36 4 (.seq (.seq (lc cJn) (lc (lc (rc cJn)))) (rc (lc (rc cJn)))) (lvlT (SC r) tJn .nil 2 6) none kn kx kr (sc0 16778495 [.pointer (some ⟨1, 0, none⟩), U s, U t]) (tr0 16778495 [.pointer (some ⟨1, 0, none⟩), U s, U t]) [] (ARd2 g a b) =
    bif s != Int.ofNat 0 then bif m_tzG s then bif decide (0 ≤ m_tz s) then bif Nat.blt (Int.toNat (m_tz s)) 16 then Option.casesOn g[Nat.add 1 (Nat.mul (Int.toNat (m_tz s)) 1)]? (CR.fail 423) fun val => bif isI IntKind.u64 val then bif decide (0 ≤ m_tz s) then bif Nat.blt (Int.toNat (m_tz s)) 16 then bif Nat.blt (Nat.add 1 (Nat.mul (Int.toNat (m_tz s)) 1)) (List.length g) then bif m_eqv (Value.int IntKind.u64 t) (Value.int IntKind.u64 t) then Option.casesOn g[Nat.add 1 (Nat.mul (Int.toNat (m_tz s)) 1)]? (CR.fail 423) fun val_1 => bif isI IntKind.u64 val_1 then bif m_eqv (Value.int IntKind.u64 (ofI val_1)) (Value.int IntKind.u64 (ofI val)) then bif ibits BinOp.and IntKind.u64 s (IntKind.wrap IntKind.u64 (s - Int.ofNat 1)) != Int.ofNat 0 then bif m_tzG (ibits BinOp.and IntKind.u64 s (IntKind.wrap IntKind.u64 (s - Int.ofNat 1))) then bif decide (0 ≤ m_tz (ibits BinOp.and IntKind.u64 s (IntKind.wrap IntKind.u64 (s - Int.ofNat 1)))) then bif Nat.blt (Int.toNat (m_tz (ibits BinOp.and IntKind.u64 s (IntKind.wrap IntKind.u64 (s - Int.ofNat 1))))) 16 then Option.casesOn (List.set g (Nat.add 1 (Nat.mul (Int.toNat (m_tz s)) 1)) (Value.int IntKind.u64 (ibits BinOp.or IntKind.u64 (ofI val) t)))[Nat.add 1 (Nat.mul (Int.toNat (m_tz (ibits BinOp.and IntKind.u64 s (IntKind.wrap IntKind.u64 (s - Int.ofNat 1))))) 1)]? (CR.fail 423) fun val_2 => bif isI IntKind.u64 val_2 then bif decide (0 ≤ m_tz (ibits BinOp.and IntKind.u64 s (IntKind.wrap IntKind.u64 (s - Int.ofNat 1)))) then bif Nat.blt (Int.toNat (m_tz (ibits BinOp.and IntKind.u64 s (IntKind.wrap IntKind.u64 (s - Int.ofNat 1))))) 16 then bif Nat.blt (Nat.add 1 (Nat.mul (Int.toNat (m_tz (ibits BinOp.and IntKind.u64 s (IntKind.wrap IntKind.u64 (s - Int.ofNat 1))))) 1)) (List.length (List.set g (Nat.add 1 (Nat.mul (Int.toNat (m_tz s)) 1)) (Value.int IntKind.u64 (ibits BinOp.or IntKind.u64 (ofI val) t)))) then bif m_eqv (Value.int IntKind.u64 t) (Value.int IntKind.u64 t) then Option.casesOn (List.set g (Nat.add 1 (Nat.mul (Int.toNat (m_tz s)) 1)) (Value.int IntKind.u64 (ibits BinOp.or IntKind.u64 (ofI val) t)))[Nat.add 1 (Nat.mul (Int.toNat (m_tz (ibits BinOp.and IntKind.u64 s (IntKind.wrap IntKind.u64 (s - Int.ofNat 1))))) 1)]? (CR.fail 423) fun val => bif isI IntKind.u64 val then bif m_eqv (Value.int IntKind.u64 (ofI val)) (Value.int IntKind.u64 (ofI val_2)) then CR.fail 230 else CR.fail 420 else CR.fail 420 else CR.fail 420 else CR.fail 420 else CR.fail 420 else CR.fail 420 else CR.fail 420 else CR.fail 420 else CR.fail 420 else CR.fail 420 else kn [(9, Value.func (Fn.func 96) (Array.mk []) (Array.mk [Value.pointer (some (Addr.mk 6 0 none))])), (8, Value.int IntKind.u64 s)] (Tr.node (Tr.node (Tr.node Tr.nil (some (Value.pointer (some (Addr.mk 3 0 none)))) Tr.nil) (some (Value.int IntKind.u64 s)) (Tr.node Tr.nil (some (Value.pointer (some (Addr.mk 5 0 none)))) Tr.nil)) (some (Value.pointer (some (Addr.mk 1 0 none)))) (Tr.node (Tr.node Tr.nil (some (Value.pointer (some (Addr.mk 4 0 none)))) Tr.nil) (some (Value.int IntKind.u64 t)) Tr.nil)) [7] (AW.mk 9 (Tr.node (Tr.node (Tr.node (Tr.node Tr.nil (some AObj.defd) Tr.nil) (some (AObj.cells [Value.pointer (some (Addr.mk 1 0 none))] 140 3 0)) Tr.nil) (some (AObj.cells (List.set g (Nat.add 1 (Nat.mul (Int.toNat (m_tz s)) 1)) (Value.int IntKind.u64 (ibits BinOp.or IntKind.u64 (ofI val) t))) 103 1 0)) (Tr.node Tr.nil (some (AObj.cells [Value.int IntKind.u64 t] 100 5 0)) Tr.nil)) (some (AObj.cells [Value.int IntKind.i64 (Int.ofNat 0), Value.int IntKind.u64 (Int.ofNat 0), Value.int IntKind.u64 (Int.ofNat 0), Value.int IntKind.u64 (Int.ofNat 0), Value.int IntKind.u64 (Int.ofNat 0), Value.int IntKind.u64 (Int.ofNat 0), Value.int IntKind.u64 (Int.ofNat 0), Value.int IntKind.u64 (Int.ofNat 0), Value.int IntKind.u64 (Int.ofNat 0), Value.int IntKind.u64 (Int.ofNat 0), Value.int IntKind.u64 (Int.ofNat 0), Value.int IntKind.u64 (Int.ofNat 0), Value.int IntKind.u64 (Int.ofNat 0), Value.int IntKind.u64 (Int.ofNat 0), Value.int IntKind.u64 (Int.ofNat 0), Value.int IntKind.u64 (Int.ofNat 0), Value.int IntKind.u64 (Int.ofNat 0)] 103 0 0)) (Tr.node (Tr.node (Tr.node Tr.nil (some (AObj.loop LoopState.exhausted none 16778495 (En.mk [(9, Value.func (Fn.func 96) (Array.mk []) (Array.mk [Value.pointer (some (Addr.mk 6 0 none))])), (8, Value.int IntKind.u64 s)] (Tr.node (Tr.node (Tr.node Tr.nil (some (Value.pointer (some (Addr.mk 3 0 none)))) Tr.nil) (some (Value.int IntKind.u64 s)) (Tr.node Tr.nil (some (Value.pointer (some (Addr.mk 5 0 none)))) Tr.nil)) (some (Value.pointer (some (Addr.mk 1 0 none)))) (Tr.node (Tr.node Tr.nil (some (Value.pointer (some (Addr.mk 4 0 none)))) Tr.nil) (some (Value.int IntKind.u64 t)) Tr.nil))) 36 (Array.mk [10]) k_ja k_jb 7)) Tr.nil) (some (AObj.cells [Value.int IntKind.u64 s] 100 4 0)) Tr.nil) (some (AObj.cells [Value.int IntKind.i64 a, Value.int IntKind.i64 b] 52 2 0)) (Tr.node Tr.nil (some (AObj.cells [Value.int IntKind.u64 s] 100 6 0)) Tr.nil))) Tr.nil) else CR.fail 420 else CR.fail 420 else CR.fail 420 else CR.fail 420 else CR.fail 420 else CR.fail 420 else CR.fail 420 else CR.fail 420 else CR.fail 420 else CR.fail 420 else kn [(9, Value.func (Fn.func 96) (Array.mk []) (Array.mk [Value.pointer (some (Addr.mk 6 0 none))])), (8, Value.int IntKind.u64 s)] (Tr.node (Tr.node (Tr.node Tr.nil (some (Value.pointer (some (Addr.mk 3 0 none)))) Tr.nil) (some (Value.int IntKind.u64 s)) (Tr.node Tr.nil (some (Value.pointer (some (Addr.mk 5 0 none)))) Tr.nil)) (some (Value.pointer (some (Addr.mk 1 0 none)))) (Tr.node (Tr.node Tr.nil (some (Value.pointer (some (Addr.mk 4 0 none)))) Tr.nil) (some (Value.int IntKind.u64 t)) Tr.nil)) [7] (AW.mk 9 (Tr.node (Tr.node (Tr.node (Tr.node Tr.nil (some AObj.defd) Tr.nil) (some (AObj.cells [Value.pointer (some (Addr.mk 1 0 none))] 140 3 0)) Tr.nil) (some (AObj.cells g 103 1 0)) (Tr.node Tr.nil (some (AObj.cells [Value.int IntKind.u64 t] 100 5 0)) Tr.nil)) (some (AObj.cells [Value.int IntKind.i64 (Int.ofNat 0), Value.int IntKind.u64 (Int.ofNat 0), Value.int IntKind.u64 (Int.ofNat 0), Value.int IntKind.u64 (Int.ofNat 0), Value.int IntKind.u64 (Int.ofNat 0), Value.int IntKind.u64 (Int.ofNat 0), Value.int IntKind.u64 (Int.ofNat 0), Value.int IntKind.u64 (Int.ofNat 0), Value.int IntKind.u64 (Int.ofNat 0), Value.int IntKind.u64 (Int.ofNat 0), Value.int IntKind.u64 (Int.ofNat 0), Value.int IntKind.u64 (Int.ofNat 0), Value.int IntKind.u64 (Int.ofNat 0), Value.int IntKind.u64 (Int.ofNat 0), Value.int IntKind.u64 (Int.ofNat 0), Value.int IntKind.u64 (Int.ofNat 0), Value.int IntKind.u64 (Int.ofNat 0)] 103 0 0)) (Tr.node (Tr.node (Tr.node Tr.nil (some (AObj.loop LoopState.exhausted none 16778495 (En.mk [(9, Value.func (Fn.func 96) (Array.mk []) (Array.mk [Value.pointer (some (Addr.mk 6 0 none))])), (8, Value.int IntKind.u64 s)] (Tr.node (Tr.node (Tr.node Tr.nil (some (Value.pointer (some (Addr.mk 3 0 none)))) Tr.nil) (some (Value.int IntKind.u64 s)) (Tr.node Tr.nil (some (Value.pointer (some (Addr.mk 5 0 none)))) Tr.nil)) (some (Value.pointer (some (Addr.mk 1 0 none)))) (Tr.node (Tr.node Tr.nil (some (Value.pointer (some (Addr.mk 4 0 none)))) Tr.nil) (some (Value.int IntKind.u64 t)) Tr.nil))) 36 (Array.mk [10]) k_ja k_jb 7)) Tr.nil) (some (AObj.cells [Value.int IntKind.u64 s] 100 4 0)) Tr.nil) (some (AObj.cells [Value.int IntKind.i64 a, Value.int IntKind.i64 b] 52 2 0)) (Tr.node Tr.nil (some (AObj.cells [Value.int IntKind.u64 s] 100 6 0)) Tr.nil))) Tr.nil) := by kernel_rfl
def resG : List Value := I 0 :: List.replicate 16 (U 0)
def TJn (s t : Int) : Tr Value := (Tr.node (Tr.node (Tr.node Tr.nil (some (Value.pointer (some (Addr.mk 3 0 none)))) Tr.nil) (some (Value.int IntKind.u64 s)) (Tr.node Tr.nil (some (Value.pointer (some (Addr.mk 5 0 none)))) Tr.nil)) (some (Value.pointer (some (Addr.mk 1 0 none)))) (Tr.node (Tr.node Tr.nil (some (Value.pointer (some (Addr.mk 4 0 none)))) Tr.nil) (some (Value.int IntKind.u64 t)) Tr.nil))
noncomputable def AJx (g : List Value) (a b s t : Int) : AW := AW.mk 9 (Tr.node (Tr.node (Tr.node (Tr.node Tr.nil (some AObj.defd) Tr.nil) (some (AObj.cells [Value.pointer (some (Addr.mk 1 0 none))] 140 3 0)) Tr.nil) (some (AObj.cells g 103 1 0)) (Tr.node Tr.nil (some (AObj.cells [U t] 100 5 0)) Tr.nil)) (some (AObj.cells resG 103 0 0)) (Tr.node (Tr.node (Tr.node Tr.nil (some (AObj.loop LoopState.exhausted none 16778495 (En.mk [(9, Value.func (Fn.func 96) (Array.mk []) (Array.mk [Value.pointer (some (Addr.mk 6 0 none))])), (8, U s)] (TJn s t)) 36 (Array.mk [10]) k_ja k_jb 7)) Tr.nil) (some (AObj.cells [U s] 100 4 0)) Tr.nil) (some (AObj.cells [I a, I b] 52 2 0)) (Tr.node Tr.nil (some (AObj.cells [U s] 100 6 0)) Tr.nil))) Tr.nil
theorem jnA2 (r : Mem) (g : List Value) (a b s t : Int) (sc : List (Nat × Value)) (kn : KS) (kx : Nat → KS) (kr : KS) : run (SC r) 16778495 36 4 (rc (rc cJn)) (lvlT (SC r) tJn .nil 2 6) none kn kx kr sc (TJn s t) [7] (AJx g a b s t) =
    bif t != Int.ofNat 0 then bif m_tzG t then bif decide (0 ≤ m_tz t) then bif Nat.blt (Int.toNat (m_tz t)) 16 then Option.casesOn g[Nat.add 1 (Nat.mul (Int.toNat (m_tz t)) 1)]? (CR.fail 423) fun val => bif isI IntKind.u64 val then bif decide (0 ≤ m_tz t) then bif Nat.blt (Int.toNat (m_tz t)) 16 then bif Nat.blt (Nat.add 1 (Nat.mul (Int.toNat (m_tz t)) 1)) (List.length g) then bif m_eqv (Value.int IntKind.u64 s) (Value.int IntKind.u64 s) then Option.casesOn g[Nat.add 1 (Nat.mul (Int.toNat (m_tz t)) 1)]? (CR.fail 423) fun val_1 => bif isI IntKind.u64 val_1 then bif m_eqv (Value.int IntKind.u64 (ofI val_1)) (Value.int IntKind.u64 (ofI val)) then bif ibits BinOp.and IntKind.u64 t (IntKind.wrap IntKind.u64 (t - Int.ofNat 1)) != Int.ofNat 0 then bif m_tzG (ibits BinOp.and IntKind.u64 t (IntKind.wrap IntKind.u64 (t - Int.ofNat 1))) then bif decide (0 ≤ m_tz (ibits BinOp.and IntKind.u64 t (IntKind.wrap IntKind.u64 (t - Int.ofNat 1)))) then bif Nat.blt (Int.toNat (m_tz (ibits BinOp.and IntKind.u64 t (IntKind.wrap IntKind.u64 (t - Int.ofNat 1))))) 16 then Option.casesOn (List.set g (Nat.add 1 (Nat.mul (Int.toNat (m_tz t)) 1)) (Value.int IntKind.u64 (ibits BinOp.or IntKind.u64 (ofI val) s)))[Nat.add 1 (Nat.mul (Int.toNat (m_tz (ibits BinOp.and IntKind.u64 t (IntKind.wrap IntKind.u64 (t - Int.ofNat 1))))) 1)]? (CR.fail 423) fun val_2 => bif isI IntKind.u64 val_2 then bif decide (0 ≤ m_tz (ibits BinOp.and IntKind.u64 t (IntKind.wrap IntKind.u64 (t - Int.ofNat 1)))) then bif Nat.blt (Int.toNat (m_tz (ibits BinOp.and IntKind.u64 t (IntKind.wrap IntKind.u64 (t - Int.ofNat 1))))) 16 then bif Nat.blt (Nat.add 1 (Nat.mul (Int.toNat (m_tz (ibits BinOp.and IntKind.u64 t (IntKind.wrap IntKind.u64 (t - Int.ofNat 1))))) 1)) (List.length (List.set g (Nat.add 1 (Nat.mul (Int.toNat (m_tz t)) 1)) (Value.int IntKind.u64 (ibits BinOp.or IntKind.u64 (ofI val) s)))) then bif m_eqv (Value.int IntKind.u64 s) (Value.int IntKind.u64 s) then Option.casesOn (List.set g (Nat.add 1 (Nat.mul (Int.toNat (m_tz t)) 1)) (Value.int IntKind.u64 (ibits BinOp.or IntKind.u64 (ofI val) s)))[Nat.add 1 (Nat.mul (Int.toNat (m_tz (ibits BinOp.and IntKind.u64 t (IntKind.wrap IntKind.u64 (t - Int.ofNat 1))))) 1)]? (CR.fail 423) fun val => bif isI IntKind.u64 val then bif m_eqv (Value.int IntKind.u64 (ofI val)) (Value.int IntKind.u64 (ofI val_2)) then CR.fail 230 else CR.fail 420 else CR.fail 420 else CR.fail 420 else CR.fail 420 else CR.fail 420 else CR.fail 420 else CR.fail 420 else CR.fail 420 else CR.fail 420 else CR.fail 420 else kn [(23, Value.func (Fn.func 96) (Array.mk []) (Array.mk [Value.pointer (some (Addr.mk 9 0 none))])), (22, Value.int IntKind.u64 t)] (Tr.node (Tr.node (Tr.node Tr.nil (some (Value.pointer (some (Addr.mk 3 0 none)))) Tr.nil) (some (Value.int IntKind.u64 s)) (Tr.node Tr.nil (some (Value.pointer (some (Addr.mk 5 0 none)))) Tr.nil)) (some (Value.pointer (some (Addr.mk 1 0 none)))) (Tr.node (Tr.node Tr.nil (some (Value.pointer (some (Addr.mk 4 0 none)))) Tr.nil) (some (Value.int IntKind.u64 t)) Tr.nil)) [10, 7] (AW.mk 12 (Tr.node (Tr.node (Tr.node (Tr.node Tr.nil (some AObj.defd) Tr.nil) (some (AObj.cells [Value.pointer (some (Addr.mk 1 0 none))] 140 3 0)) (Tr.node Tr.nil (some (AObj.loop LoopState.exhausted none 16778495 (En.mk [(23, Value.func (Fn.func 96) (Array.mk []) (Array.mk [Value.pointer (some (Addr.mk 9 0 none))])), (22, Value.int IntKind.u64 t)] (Tr.node (Tr.node (Tr.node Tr.nil (some (Value.pointer (some (Addr.mk 3 0 none)))) Tr.nil) (some (Value.int IntKind.u64 s)) (Tr.node Tr.nil (some (Value.pointer (some (Addr.mk 5 0 none)))) Tr.nil)) (some (Value.pointer (some (Addr.mk 1 0 none)))) (Tr.node (Tr.node Tr.nil (some (Value.pointer (some (Addr.mk 4 0 none)))) Tr.nil) (some (Value.int IntKind.u64 t)) Tr.nil))) 36 (Array.mk [24]) k_jc k_jd 10)) Tr.nil)) (some (AObj.cells (List.set g (Nat.add 1 (Nat.mul (Int.toNat (m_tz t)) 1)) (Value.int IntKind.u64 (ibits BinOp.or IntKind.u64 (ofI val) s))) 103 1 0)) (Tr.node (Tr.node Tr.nil (some (AObj.cells [Value.int IntKind.u64 t] 100 9 0)) Tr.nil) (some (AObj.cells [Value.int IntKind.u64 t] 100 5 0)) Tr.nil)) (some (AObj.cells [Value.int IntKind.i64 (Int.ofNat 0), Value.int IntKind.u64 (Int.ofNat 0), Value.int IntKind.u64 (Int.ofNat 0), Value.int IntKind.u64 (Int.ofNat 0), Value.int IntKind.u64 (Int.ofNat 0), Value.int IntKind.u64 (Int.ofNat 0), Value.int IntKind.u64 (Int.ofNat 0), Value.int IntKind.u64 (Int.ofNat 0), Value.int IntKind.u64 (Int.ofNat 0), Value.int IntKind.u64 (Int.ofNat 0), Value.int IntKind.u64 (Int.ofNat 0), Value.int IntKind.u64 (Int.ofNat 0), Value.int IntKind.u64 (Int.ofNat 0), Value.int IntKind.u64 (Int.ofNat 0), Value.int IntKind.u64 (Int.ofNat 0), Value.int IntKind.u64 (Int.ofNat 0), Value.int IntKind.u64 (Int.ofNat 0)] 103 0 0)) (Tr.node (Tr.node (Tr.node Tr.nil (some (AObj.loop LoopState.exhausted none 16778495 (En.mk [(9, Value.func (Fn.func 96) (Array.mk []) (Array.mk [Value.pointer (some (Addr.mk 6 0 none))])), (8, Value.int IntKind.u64 s)] (Tr.node (Tr.node (Tr.node Tr.nil (some (Value.pointer (some (Addr.mk 3 0 none)))) Tr.nil) (some (Value.int IntKind.u64 s)) (Tr.node Tr.nil (some (Value.pointer (some (Addr.mk 5 0 none)))) Tr.nil)) (some (Value.pointer (some (Addr.mk 1 0 none)))) (Tr.node (Tr.node Tr.nil (some (Value.pointer (some (Addr.mk 4 0 none)))) Tr.nil) (some (Value.int IntKind.u64 t)) Tr.nil))) 36 (Array.mk [10]) k_ja k_jb 7)) Tr.nil) (some (AObj.cells [Value.int IntKind.u64 s] 100 4 0)) Tr.nil) (some (AObj.cells [Value.int IntKind.i64 a, Value.int IntKind.i64 b] 52 2 0)) (Tr.node (Tr.node Tr.nil (some AObj.defd) Tr.nil) (some (AObj.cells [Value.int IntKind.u64 s] 100 6 0)) Tr.nil))) Tr.nil) else CR.fail 420 else CR.fail 420 else CR.fail 420 else CR.fail 420 else CR.fail 420 else CR.fail 420 else CR.fail 420 else CR.fail 420 else CR.fail 420 else CR.fail 420 else kn [(23, Value.func (Fn.func 96) (Array.mk []) (Array.mk [Value.pointer (some (Addr.mk 9 0 none))])), (22, Value.int IntKind.u64 t)] (Tr.node (Tr.node (Tr.node Tr.nil (some (Value.pointer (some (Addr.mk 3 0 none)))) Tr.nil) (some (Value.int IntKind.u64 s)) (Tr.node Tr.nil (some (Value.pointer (some (Addr.mk 5 0 none)))) Tr.nil)) (some (Value.pointer (some (Addr.mk 1 0 none)))) (Tr.node (Tr.node Tr.nil (some (Value.pointer (some (Addr.mk 4 0 none)))) Tr.nil) (some (Value.int IntKind.u64 t)) Tr.nil)) [10, 7] (AW.mk 12 (Tr.node (Tr.node (Tr.node (Tr.node Tr.nil (some AObj.defd) Tr.nil) (some (AObj.cells [Value.pointer (some (Addr.mk 1 0 none))] 140 3 0)) (Tr.node Tr.nil (some (AObj.loop LoopState.exhausted none 16778495 (En.mk [(23, Value.func (Fn.func 96) (Array.mk []) (Array.mk [Value.pointer (some (Addr.mk 9 0 none))])), (22, Value.int IntKind.u64 t)] (Tr.node (Tr.node (Tr.node Tr.nil (some (Value.pointer (some (Addr.mk 3 0 none)))) Tr.nil) (some (Value.int IntKind.u64 s)) (Tr.node Tr.nil (some (Value.pointer (some (Addr.mk 5 0 none)))) Tr.nil)) (some (Value.pointer (some (Addr.mk 1 0 none)))) (Tr.node (Tr.node Tr.nil (some (Value.pointer (some (Addr.mk 4 0 none)))) Tr.nil) (some (Value.int IntKind.u64 t)) Tr.nil))) 36 (Array.mk [24]) k_jc k_jd 10)) Tr.nil)) (some (AObj.cells g 103 1 0)) (Tr.node (Tr.node Tr.nil (some (AObj.cells [Value.int IntKind.u64 t] 100 9 0)) Tr.nil) (some (AObj.cells [Value.int IntKind.u64 t] 100 5 0)) Tr.nil)) (some (AObj.cells [Value.int IntKind.i64 (Int.ofNat 0), Value.int IntKind.u64 (Int.ofNat 0), Value.int IntKind.u64 (Int.ofNat 0), Value.int IntKind.u64 (Int.ofNat 0), Value.int IntKind.u64 (Int.ofNat 0), Value.int IntKind.u64 (Int.ofNat 0), Value.int IntKind.u64 (Int.ofNat 0), Value.int IntKind.u64 (Int.ofNat 0), Value.int IntKind.u64 (Int.ofNat 0), Value.int IntKind.u64 (Int.ofNat 0), Value.int IntKind.u64 (Int.ofNat 0), Value.int IntKind.u64 (Int.ofNat 0), Value.int IntKind.u64 (Int.ofNat 0), Value.int IntKind.u64 (Int.ofNat 0), Value.int IntKind.u64 (Int.ofNat 0), Value.int IntKind.u64 (Int.ofNat 0), Value.int IntKind.u64 (Int.ofNat 0)] 103 0 0)) (Tr.node (Tr.node (Tr.node Tr.nil (some (AObj.loop LoopState.exhausted none 16778495 (En.mk [(9, Value.func (Fn.func 96) (Array.mk []) (Array.mk [Value.pointer (some (Addr.mk 6 0 none))])), (8, Value.int IntKind.u64 s)] (Tr.node (Tr.node (Tr.node Tr.nil (some (Value.pointer (some (Addr.mk 3 0 none)))) Tr.nil) (some (Value.int IntKind.u64 s)) (Tr.node Tr.nil (some (Value.pointer (some (Addr.mk 5 0 none)))) Tr.nil)) (some (Value.pointer (some (Addr.mk 1 0 none)))) (Tr.node (Tr.node Tr.nil (some (Value.pointer (some (Addr.mk 4 0 none)))) Tr.nil) (some (Value.int IntKind.u64 t)) Tr.nil))) 36 (Array.mk [10]) k_ja k_jb 7)) Tr.nil) (some (AObj.cells [Value.int IntKind.u64 s] 100 4 0)) Tr.nil) (some (AObj.cells [Value.int IntKind.i64 a, Value.int IntKind.i64 b] 52 2 0)) (Tr.node (Tr.node Tr.nil (some AObj.defd) Tr.nil) (some (AObj.cells [Value.int IntKind.u64 s] 100 6 0)) Tr.nil))) Tr.nil) := by kernel_rfl
end Go.Proofs
namespace Go.Proofs
open Go Go.Ev Go.Num
def bit (i : Nat) : Int := 2 ^ i
theorem tz_use {x : Int} (h : m_tzG x = true) : ∃ i : Fin 16, x = bit i.val := of_decide_eq_true h
theorem least_ok (r : Mem) (hm : ∀ b j u, tabM b j = some u → r b j = some u) (i : Fin 16) : GrT Tryd.prog r 97 [U (bit i.val)] (I (m_tz (bit i.val))) := by
 match i with
 | ⟨0, _⟩ => exact (GrT.closedRo evMixed evNames tabM .nil 40 20 (by kernel_rfl)).less hm
 | ⟨1, _⟩ => exact (GrT.closedRo evMixed evNames tabM .nil 40 20 (by kernel_rfl)).less hm
 | ⟨2, _⟩ => exact (GrT.closedRo evMixed evNames tabM .nil 40 20 (by kernel_rfl)).less hm
 | ⟨3, _⟩ => exact (GrT.closedRo evMixed evNames tabM .nil 40 20 (by kernel_rfl)).less hm
 | ⟨4, _⟩ => exact (GrT.closedRo evMixed evNames tabM .nil 40 20 (by kernel_rfl)).less hm
 | ⟨5, _⟩ => exact (GrT.closedRo evMixed evNames tabM .nil 40 20 (by kernel_rfl)).less hm
 | ⟨6, _⟩ => exact (GrT.closedRo evMixed evNames tabM .nil 40 20 (by kernel_rfl)).less hm
 | ⟨7, _⟩ => exact (GrT.closedRo evMixed evNames tabM .nil 40 20 (by kernel_rfl)).less hm
 | ⟨8, _⟩ => exact (GrT.closedRo evMixed evNames tabM .nil 40 20 (by kernel_rfl)).less hm
 | ⟨9, _⟩ => exact (GrT.closedRo evMixed evNames tabM .nil 40 20 (by kernel_rfl)).less hm
 | ⟨10, _⟩ => exact (GrT.closedRo evMixed evNames tabM .nil 40 20 (by kernel_rfl)).less hm
 | ⟨11, _⟩ => exact (GrT.closedRo evMixed evNames tabM .nil 40 20 (by kernel_rfl)).less hm
 | ⟨12, _⟩ => exact (GrT.closedRo evMixed evNames tabM .nil 40 20 (by kernel_rfl)).less hm
 | ⟨13, _⟩ => exact (GrT.closedRo evMixed evNames tabM .nil 40 20 (by kernel_rfl)).less hm
 | ⟨14, _⟩ => exact (GrT.closedRo evMixed evNames tabM .nil 40 20 (by kernel_rfl)).less hm
 | ⟨15, _⟩ => exact (GrT.closedRo evMixed evNames tabM .nil 40 20 (by kernel_rfl)).less hm
 | ⟨n + 16, h⟩ => exact absurd h (by omega)
theorem tJn_ok (r : Mem) (hm : ∀ b j u, tabM b j = some u → r b j = some u) : TOk (SC r) tJn := TOk.cons TOk.nil (EOk.ent fun args A hg => by
 split at hg
 ·obtain ⟨i, rfl⟩ := tz_use hg
  exact (least_ok r hm i).ro rfl A
 ·cases hg)
theorem bit_facts (i : Fin 16) : (bit i.val != Int.ofNat 0) = true ∧ m_tzG (bit i.val) = true ∧ m_tz (bit i.val) = i.val ∧ (ibits BinOp.and IntKind.u64 (bit i.val) (IntKind.wrap IntKind.u64 (bit i.val - Int.ofNat 1)) != Int.ofNat 0) = false := by
 refine ⟨?_, decide_eq_true ⟨i, rfl⟩, ?_, ?_⟩
 ·revert i; decide
 ·revert i; decide
 ·revert i; decide
end Go.Proofs
namespace Go.Proofs
open Go Go.Ev Go.Num
def m_g (n : Int) (zs : List Int) : List Value := I n :: zs.map U
theorem g_gnd (n : Int) (zs : List Int) : ∀ v ∈ m_g n zs, gnd v = true := fun v hv => by
 rcases List.mem_cons.1 hv with rfl | h
 ·rfl
 ·obtain ⟨z, _, rfl⟩ := List.mem_map.1 h
  rfl
theorem g_get {n : Int} {zs : List Int} {k : Nat} (h : k < zs.length) : (m_g n zs)[Nat.add 1 (Nat.mul k 1)]? = some (U zs[k]) := by
 rw [show Nat.add 1 (Nat.mul k 1) = k + 1 by simp [Nat.add_comm]]
 simp [m_g, h]
theorem g_set (n : Int) (zs : List Int) (k : Nat) (z : Int) : (m_g n zs).set (Nat.add 1 (Nat.mul k 1)) (U z) = m_g n (zs.set k z) := by
 rw [show Nat.add 1 (Nat.mul k 1) = k + 1 by simp [Nat.add_comm]]
 simp [m_g, List.map_set]
theorem g_len (n : Int) (zs : List Int) : (m_g n zs).length = zs.length + 1 := by simp [m_g]
def orB (z s : Int) : Int := ibits BinOp.or IntKind.u64 z s
def addB (zs : List Int) (i : Nat) (s : Int) : List Int := zs.set i (orB (zs.getD i 0) s)
def jnZ (zs : List Int) (i j : Nat) : List Int := addB (addB zs i (bit j)) j (bit i)
theorem addB_len (zs : List Int) (i : Nat) (s : Int) : (addB zs i s).length = zs.length := List.length_set ..
def AJf (g : List Value) (a b : Int) : AW := AW.mk 5 (Tr.node (Tr.node (Tr.node Tr.nil (some .defd) Tr.nil) (some (.cells g 103 1 0)) Tr.nil) (some (.cells resG 103 0 0)) (Tr.node (Tr.node Tr.nil (some .defd) Tr.nil) (some (.cells [I a, I b] 52 2 0)) Tr.nil)) Tr.nil
def AJe (g : List Value) (a b : Int) : AW := AW.mk 5 (((AJf g a b).heap.put 4 none).put 3 none) Tr.nil
theorem veq_u (z : Int) : m_eqv (U z) (U z) = true := by simp [m_eqv, veq, U]
theorem isI_u (z : Int) : isI IntKind.u64 (U z) = true := rfl
theorem ofI_u (z : Int) : ofI (U z) = z := rfl
noncomputable def AJy (g : List Value) (a b s t : Int) : AW := AW.mk 12 (Tr.node (Tr.node (Tr.node (Tr.node Tr.nil (some AObj.defd) Tr.nil) (some (AObj.cells [Value.pointer (some (Addr.mk 1 0 none))] 140 3 0)) (Tr.node Tr.nil (some (AObj.loop LoopState.exhausted none 16778495 (En.mk [(23, Value.func (Fn.func 96) (Array.mk []) (Array.mk [Value.pointer (some (Addr.mk 9 0 none))])), (22, U t)] (TJn s t)) 36 (Array.mk [24]) k_jc k_jd 10)) Tr.nil)) (some (AObj.cells g 103 1 0)) (Tr.node (Tr.node Tr.nil (some (AObj.cells [U t] 100 9 0)) Tr.nil) (some (AObj.cells [U t] 100 5 0)) Tr.nil)) (some (AObj.cells resG 103 0 0)) (Tr.node (Tr.node (Tr.node Tr.nil (some (AObj.loop LoopState.exhausted none 16778495 (En.mk [(9, Value.func (Fn.func 96) (Array.mk []) (Array.mk [Value.pointer (some (Addr.mk 6 0 none))])), (8, U s)] (TJn s t)) 36 (Array.mk [10]) k_ja k_jb 7)) Tr.nil) (some (AObj.cells [U s] 100 4 0)) Tr.nil) (some (AObj.cells [I a, I b] 52 2 0)) (Tr.node (Tr.node Tr.nil (some AObj.defd) Tr.nil) (some (AObj.cells [U s] 100 6 0)) Tr.nil))) Tr.nil
theorem jn_half1 (r : Mem) (n : Int) (zs : List Int) (hl : zs.length = 16) (i j : Fin 16) (a b : Int) (kn : KS) (kx : Nat → KS) (kr : KS) (R : CR)
  (h : ∀ s, kn s (TJn (bit i.val) (bit j.val)) [7] (AJx (m_g n (addB zs i.val (bit j.val))) a b (bit i.val) (bit j.val)) = R) :
  run (SC r) 16778495 36 4 (.seq (.seq (lc cJn) (lc (lc (rc cJn)))) (rc (lc (rc cJn)))) (lvlT (SC r) tJn .nil 2 6) none kn kx kr (sc0 16778495 [.pointer (some ⟨1, 0, none⟩), U (bit i.val), U (bit j.val)]) (tr0 16778495 [.pointer (some ⟨1, 0, none⟩), U (bit i.val), U (bit j.val)]) [] (ARd2 (m_g n zs) a b) = R := by
 have hi : i.val < zs.length := by omega
 have c1 : 0 ≤ (i.val : Int) := by omega
 have c2 : Nat.blt i.val 16 = true := Nat.ble_eq_true_of_le i.isLt
 have c3 : Nat.blt (Nat.add 1 (Nat.mul i.val 1)) (m_g n zs).length = true := Nat.ble_eq_true_of_le (by rw [g_len]; simp [Nat.add_comm]; omega)
 obtain ⟨f1, f2, f3, f4⟩ := bit_facts i
 rw [jnA1, f1, cond_true, f2, cond_true, f3, dT c1, cond_true, Int.toNat_natCast, c2, cond_true, g_get hi]
 dsimp only
 rw [isI_u, cond_true, cond_true, cond_true, c3, cond_true, veq_u, cond_true]
 rw [cond_true, ofI_u, veq_u, cond_true, f4, cond_false, g_set]
 have e : zs.set i.val (ibits BinOp.or IntKind.u64 zs[i.val] (bit j.val)) = addB zs i.val (bit j.val) := by
  unfold addB orB
  rw [List.getD_eq_getElem?_getD, List.getElem?_eq_getElem hi]; rfl
 rw [e]
 exact h _
theorem jn_half2 (r : Mem) (n : Int) (zs : List Int) (hl : zs.length = 16) (k i : Fin 16) (a b : Int) (sc : List (Nat × Value)) (kn : KS) (kx : Nat → KS) (kr : KS) (R : CR)
  (h : ∀ s, kn s (TJn (bit k.val) (bit i.val)) [10, 7] (AJy (m_g n (addB zs i.val (bit k.val))) a b (bit k.val) (bit i.val)) = R) :
  run (SC r) 16778495 36 4 (rc (rc cJn)) (lvlT (SC r) tJn .nil 2 6) none kn kx kr sc (TJn (bit k.val) (bit i.val)) [7] (AJx (m_g n zs) a b (bit k.val) (bit i.val)) = R := by
 have hi : i.val < zs.length := by omega
 have c1 : 0 ≤ (i.val : Int) := by omega
 have c2 : Nat.blt i.val 16 = true := Nat.ble_eq_true_of_le i.isLt
 have c3 : Nat.blt (Nat.add 1 (Nat.mul i.val 1)) (m_g n zs).length = true := Nat.ble_eq_true_of_le (by rw [g_len]; simp [Nat.add_comm]; omega)
 obtain ⟨f1, f2, f3, f4⟩ := bit_facts i
 rw [jnA2, f1, cond_true, f2, cond_true, f3, dT c1, cond_true, Int.toNat_natCast, c2, cond_true, g_get hi]
 dsimp only
 rw [isI_u, cond_true, cond_true, cond_true, c3, cond_true, veq_u, cond_true]
 rw [cond_true, ofI_u, veq_u, cond_true, f4, cond_false, g_set]
 have e : zs.set i.val (ibits BinOp.or IntKind.u64 zs[i.val] (bit k.val)) = addB zs i.val (bit k.val) := by
  unfold addB orB
  rw [List.getD_eq_getElem?_getD, List.getElem?_eq_getElem hi]; rfl
 rw [e]
 exact h _
theorem cJn_eq : cJn = .seq (lc cJn) (.seq (.seq (lc (lc (rc cJn))) (rc (lc (rc cJn)))) (rc (rc cJn))) := by kernel_rfl
theorem run_jn {C : Cfg} {m n L : Nat} (a b c d : Code) (fs : FnsC) (ro : Option Nat) (kn : KS) (kx : Nat → KS) (kr : KS) : run C m n L (.seq a (.seq (.seq b c) d)) fs ro kn kx kr = run C m n L (.seq (.seq a b) c) fs ro (run C m n L d fs ro kn kx kr) kx kr := rfl
theorem join_calls (r : Mem) (hm : ∀ b j u, tabM b j = some u → r b j = some u) (n : Int) (zs : List Int) (hl : zs.length = 16) (i j : Fin 16) (a b : Int) (F : Fence) (hF : Wide F) (k' : Nat) (γ : Gam) (W : World) (args' : Array Value) (hw : WRel γ (ARd2 (m_g n zs) a b) W) (hR : Ro (SC r).ro γ W) (ha : VsRel γ [.pointer (some ⟨1, 0, none⟩), U (bit i.val), U (bit j.val)] args'.toList) :
  CallsIn F k' (SC r).P 65 args' W (Go.Ev.Ends γ W (.tuple ⟨[]⟩) (AJe (m_g n (jnZ zs i.val j.val)) a b)) := by
 obtain ⟨fn, h1, h2, h3, h4⟩ := fn_of (C := SC r) (f := 65) (by kernel_rfl)
 have hn : fn.ntmps = 36 := h3.trans (by kernel_rfl)
 have hr : fn.results.toList = [] := h4.trans (by kernel_rfl)
 rw [bodySC] at h2
 refine call_reach (SC_ok r) h1 h2 16778495 (by rw [hn]; rfl) (fun F k hF hro => ?_) hw hR ha hF k'
 rw [hn, hr]
 have h0 : ∀ i, 3 ≤ i → γ i = none := hw.fresh
 show Go.Ev.Reach (SC r) 16778495 36 F k γ W cJn _ _
 refine Go.Ev.Reach.seg (SC_ok r) (tJn_ok r hm) (tm := .nil) (L := 4) (L' := 2) (d := 6) hF hro ?_
 rw [cJn_eq, run_jn]
 refine jn_half1 r n zs hl i j a b _ _ _ _ fun s => ?_
 refine jn_half2 r n (addB zs i.val (bit j.val)) (by rw [addB_len]; exact hl) i j a b s _ _ _ _ fun s => ?_
 refine qn_ok ⟨.inl rfl, ⟨⟨[], .nil⟩, [4, 3], AJf (m_g n (jnZ zs i.val j.val)) a b⟩, ?_, rfl⟩
 refine Ren.of (fun i => bif Nat.beq i 3 then 7 else bif Nat.beq i 4 then 10 else i) 3 rfl h0 (Nat.le_of_ble_eq_true rfl) (fun i hi => by match i, hi with | 0, _ => rfl | 1, _ => rfl | 2, _ => rfl) ?_ rfl ?_ trivial
 ·simp only [Tr.All, AJf]
  repeat' (first | exact trivial | apply And.intro)
  all_goals exact ⟨_, rfl, rfl⟩
 ·simp only [Tr.All, AJf, resG]
  repeat' (first | exact trivial | apply And.intro)
  all_goals first | rfl | exact .head _ | exact ⟨_, rfl, .defd⟩ | exact ⟨_, rfl, .cells rfl⟩ | exact ⟨_, rfl, .plain (g_gnd _ _)⟩ | skip
end Go.Proofs
namespace Go.Proofs
open Go Go.Ev Go.Num
noncomputable def cGp : Code := bodyOf S0 49
def m_bit (v : Int) : Int := 2 ^ v.toNat
def m_vG (v : Int) : Bool := decide (0 ≤ v) && decide (v < 16)
def eSg : Ent := eI1 m_vG fun v => U (m_bit v)
def m_cmp (a b : Int) : Int := if a < b then -1 else if a > b then 1 else 0
def eCmp : Ent := eI2 (fun _ _ => true) fun a b => I (m_cmp a b)
noncomputable def tGp (g g' : List Value) (a b : Int) : Tbl := tcons 85 eCmp (tcons 66 eSg (tcons 65 (entAt [.pointer (some ⟨1, 0, none⟩), U (m_bit a), U (m_bit b)] (ARd2 g a b) (.tuple ⟨[]⟩) (AJe g' a b)) fun _ => none))
theorem cmA (r : Mem) (a b : Int) : (lvlT (SC r) (fun _ => none) .nil 1 2).call 85 [I a, I b] emptyA fin =
    bif a != a then bif b != b then CR.ret (Value.int IntKind.i64 (Int.ofNat 0)) (AW.mk 0 Tr.nil Tr.nil) else CR.ret (Value.int IntKind.i64 (Int.negSucc 0)) (AW.mk 0 Tr.nil Tr.nil) else bif b != b then CR.ret (Value.int IntKind.i64 (Int.ofNat 1)) (AW.mk 0 Tr.nil Tr.nil) else bif decide (a < b) then CR.ret (Value.int IntKind.i64 (Int.negSucc 0)) (AW.mk 0 Tr.nil Tr.nil) else bif decide (a > b) then CR.ret (Value.int IntKind.i64 (Int.ofNat 1)) (AW.mk 0 Tr.nil Tr.nil) else CR.ret (Value.int IntKind.i64 (Int.ofNat 0)) (AW.mk 0 Tr.nil Tr.nil) := by kernel_rfl
theorem sgA (r : Mem) (v : Int) : (lvlT (SC r) (fun _ => none) .nil 1 1).call 66 [I v] emptyA fin =
    bif !decide (v < 0) then CR.ret (Value.int IntKind.u64 (IntKind.wrap IntKind.u64 (Int.ofNat 1 * Int.ofNat 2 ^ min (Int.toNat v) 64))) (AW.mk 0 Tr.nil Tr.nil) else CR.fail 420 := by kernel_rfl
def TGp (n : Int) (sl : Value) (len : Nat) (i : Int) : Tr Value := (Tr.node (Tr.node Tr.nil (some sl) (Tr.node Tr.nil (some (I 0)) (Tr.node (Tr.node Tr.nil (some (I (Int.ofNat len))) Tr.nil) none Tr.nil))) (some (I n)) (Tr.node (Tr.node Tr.nil (some (.pointer (some ⟨0, 0, none⟩))) (Tr.node (Tr.node Tr.nil (some sl) Tr.nil) none Tr.nil)) none (Tr.node Tr.nil (some (.pointer (some ⟨1, 0, none⟩))) (Tr.node (Tr.node Tr.nil (some (I i)) Tr.nil) none Tr.nil))))
def AGp (g : List Value) : AW := AW.mk 2 (Tr.node (Tr.node Tr.nil (some (.cells g 103 1 0)) Tr.nil) (some (.cells resG 103 0 0)) Tr.nil) Tr.nil
theorem gpB (r : Mem) (L : Nat) (n : Int) (b off len cap : Nat) (i : Int) (g g' : List Value) (x y : Int) (s : List (Nat × Value)) (kn : KS) (kx : Nat → KS) (kr : KS) : run (SC r) 7342067 64 L (ic (ic (rc (lc (rc (rc (rc cGp))))))) (lvlT (SC r) (tGp g g' x y) .nil 4 4) none kn kx kr s (TGp n (RS2 b off len cap) len i) [] (AGp g) =
    bif decide (i < Int.ofNat len) then bif decide (0 ≤ i) then bif Nat.blt (Int.toNat i) len then Option.casesOn (r b (Nat.add off (Nat.mul (Int.toNat i) 2))) (CR.fail 423) fun val => bif isI IntKind.i64 val then Option.casesOn (r b (Nat.succ (Nat.add off (Nat.mul (Int.toNat i) 2)))) (CR.fail 423) fun val_1 => bif isI IntKind.i64 val_1 then bif decide (ofI val < 0) then kr [(43, Value.agg (Array.mk [Value.int IntKind.i64 (Int.ofNat 0), Value.int IntKind.u64 (Int.ofNat 0), Value.int IntKind.u64 (Int.ofNat 0), Value.int IntKind.u64 (Int.ofNat 0), Value.int IntKind.u64 (Int.ofNat 0), Value.int IntKind.u64 (Int.ofNat 0), Value.int IntKind.u64 (Int.ofNat 0), Value.int IntKind.u64 (Int.ofNat 0), Value.int IntKind.u64 (Int.ofNat 0), Value.int IntKind.u64 (Int.ofNat 0), Value.int IntKind.u64 (Int.ofNat 0), Value.int IntKind.u64 (Int.ofNat 0), Value.int IntKind.u64 (Int.ofNat 0), Value.int IntKind.u64 (Int.ofNat 0), Value.int IntKind.u64 (Int.ofNat 0), Value.int IntKind.u64 (Int.ofNat 0), Value.int IntKind.u64 (Int.ofNat 0)]))] (Tr.node (Tr.node (Tr.node (Tr.node Tr.nil (some (Value.int IntKind.i64 i)) Tr.nil) none Tr.nil) (some (Value.slice (some (Addr.mk b off (some 0))) len cap)) (Tr.node (Tr.node Tr.nil (some (Value.int IntKind.i64 (ofI val))) Tr.nil) (some (Value.int IntKind.i64 (Int.ofNat 40))) (Tr.node (Tr.node Tr.nil (some (Value.int IntKind.i64 (Int.ofNat len))) Tr.nil) none Tr.nil))) (some (Value.int IntKind.i64 n)) (Tr.node (Tr.node (Tr.node Tr.nil (some (Value.pointer (some (Addr.mk 2 0 none)))) Tr.nil) (some (Value.pointer (some (Addr.mk 0 0 none)))) (Tr.node (Tr.node Tr.nil (some (Value.slice (some (Addr.mk b off (some 0))) len cap)) Tr.nil) none Tr.nil)) none (Tr.node (Tr.node Tr.nil (some (Value.int IntKind.i64 (ofI val_1))) Tr.nil) (some (Value.pointer (some (Addr.mk 1 0 none)))) (Tr.node (Tr.node Tr.nil (some (Value.int IntKind.i64 i)) Tr.nil) none Tr.nil)))) [] (AW.mk 3 (Tr.node (Tr.node Tr.nil (some (AObj.cells g 103 1 0)) Tr.nil) (some (AObj.cells [Value.int IntKind.i64 (Int.ofNat 0), Value.int IntKind.u64 (Int.ofNat 0), Value.int IntKind.u64 (Int.ofNat 0), Value.int IntKind.u64 (Int.ofNat 0), Value.int IntKind.u64 (Int.ofNat 0), Value.int IntKind.u64 (Int.ofNat 0), Value.int IntKind.u64 (Int.ofNat 0), Value.int IntKind.u64 (Int.ofNat 0), Value.int IntKind.u64 (Int.ofNat 0), Value.int IntKind.u64 (Int.ofNat 0), Value.int IntKind.u64 (Int.ofNat 0), Value.int IntKind.u64 (Int.ofNat 0), Value.int IntKind.u64 (Int.ofNat 0), Value.int IntKind.u64 (Int.ofNat 0), Value.int IntKind.u64 (Int.ofNat 0), Value.int IntKind.u64 (Int.ofNat 0), Value.int IntKind.u64 (Int.ofNat 0)] 103 0 0)) (Tr.node Tr.nil (some (AObj.cells [Value.int IntKind.i64 (ofI val), Value.int IntKind.i64 (ofI val_1)] 52 2 0)) Tr.nil)) Tr.nil) else bif decide (ofI val ≥ ofI val_1) then kr [(43, Value.agg (Array.mk [Value.int IntKind.i64 (Int.ofNat 0), Value.int IntKind.u64 (Int.ofNat 0), Value.int IntKind.u64 (Int.ofNat 0), Value.int IntKind.u64 (Int.ofNat 0), Value.int IntKind.u64 (Int.ofNat 0), Value.int IntKind.u64 (Int.ofNat 0), Value.int IntKind.u64 (Int.ofNat 0), Value.int IntKind.u64 (Int.ofNat 0), Value.int IntKind.u64 (Int.ofNat 0), Value.int IntKind.u64 (Int.ofNat 0), Value.int IntKind.u64 (Int.ofNat 0), Value.int IntKind.u64 (Int.ofNat 0), Value.int IntKind.u64 (Int.ofNat 0), Value.int IntKind.u64 (Int.ofNat 0), Value.int IntKind.u64 (Int.ofNat 0), Value.int IntKind.u64 (Int.ofNat 0), Value.int IntKind.u64 (Int.ofNat 0)]))] (Tr.node (Tr.node (Tr.node (Tr.node Tr.nil (some (Value.int IntKind.i64 i)) Tr.nil) none Tr.nil) (some (Value.slice (some (Addr.mk b off (some 0))) len cap)) (Tr.node (Tr.node Tr.nil (some (Value.int IntKind.i64 (ofI val))) Tr.nil) (some (Value.int IntKind.i64 (Int.ofNat 40))) (Tr.node (Tr.node Tr.nil (some (Value.int IntKind.i64 (Int.ofNat len))) Tr.nil) none Tr.nil))) (some (Value.int IntKind.i64 n)) (Tr.node (Tr.node (Tr.node Tr.nil (some (Value.pointer (some (Addr.mk 2 0 none)))) Tr.nil) (some (Value.pointer (some (Addr.mk 0 0 none)))) (Tr.node (Tr.node Tr.nil (some (Value.slice (some (Addr.mk b off (some 0))) len cap)) Tr.nil) none Tr.nil)) none (Tr.node (Tr.node Tr.nil (some (Value.int IntKind.i64 (ofI val_1))) Tr.nil) (some (Value.pointer (some (Addr.mk 1 0 none)))) (Tr.node (Tr.node Tr.nil (some (Value.int IntKind.i64 i)) Tr.nil) none Tr.nil)))) [] (AW.mk 3 (Tr.node (Tr.node Tr.nil (some (AObj.cells g 103 1 0)) Tr.nil) (some (AObj.cells [Value.int IntKind.i64 (Int.ofNat 0), Value.int IntKind.u64 (Int.ofNat 0), Value.int IntKind.u64 (Int.ofNat 0), Value.int IntKind.u64 (Int.ofNat 0), Value.int IntKind.u64 (Int.ofNat 0), Value.int IntKind.u64 (Int.ofNat 0), Value.int IntKind.u64 (Int.ofNat 0), Value.int IntKind.u64 (Int.ofNat 0), Value.int IntKind.u64 (Int.ofNat 0), Value.int IntKind.u64 (Int.ofNat 0), Value.int IntKind.u64 (Int.ofNat 0), Value.int IntKind.u64 (Int.ofNat 0), Value.int IntKind.u64 (Int.ofNat 0), Value.int IntKind.u64 (Int.ofNat 0), Value.int IntKind.u64 (Int.ofNat 0), Value.int IntKind.u64 (Int.ofNat 0), Value.int IntKind.u64 (Int.ofNat 0)] 103 0 0)) (Tr.node Tr.nil (some (AObj.cells [Value.int IntKind.i64 (ofI val), Value.int IntKind.i64 (ofI val_1)] 52 2 0)) Tr.nil)) Tr.nil) else bif decide (ofI val_1 ≥ n) then kr [(43, Value.agg (Array.mk [Value.int IntKind.i64 (Int.ofNat 0), Value.int IntKind.u64 (Int.ofNat 0), Value.int IntKind.u64 (Int.ofNat 0), Value.int IntKind.u64 (Int.ofNat 0), Value.int IntKind.u64 (Int.ofNat 0), Value.int IntKind.u64 (Int.ofNat 0), Value.int IntKind.u64 (Int.ofNat 0), Value.int IntKind.u64 (Int.ofNat 0), Value.int IntKind.u64 (Int.ofNat 0), Value.int IntKind.u64 (Int.ofNat 0), Value.int IntKind.u64 (Int.ofNat 0), Value.int IntKind.u64 (Int.ofNat 0), Value.int IntKind.u64 (Int.ofNat 0), Value.int IntKind.u64 (Int.ofNat 0), Value.int IntKind.u64 (Int.ofNat 0), Value.int IntKind.u64 (Int.ofNat 0), Value.int IntKind.u64 (Int.ofNat 0)]))] (Tr.node (Tr.node (Tr.node (Tr.node Tr.nil (some (Value.int IntKind.i64 i)) Tr.nil) none Tr.nil) (some (Value.slice (some (Addr.mk b off (some 0))) len cap)) (Tr.node (Tr.node Tr.nil (some (Value.int IntKind.i64 (ofI val))) Tr.nil) (some (Value.int IntKind.i64 (Int.ofNat 40))) (Tr.node (Tr.node Tr.nil (some (Value.int IntKind.i64 (Int.ofNat len))) Tr.nil) none Tr.nil))) (some (Value.int IntKind.i64 n)) (Tr.node (Tr.node (Tr.node Tr.nil (some (Value.pointer (some (Addr.mk 2 0 none)))) Tr.nil) (some (Value.pointer (some (Addr.mk 0 0 none)))) (Tr.node (Tr.node Tr.nil (some (Value.slice (some (Addr.mk b off (some 0))) len cap)) Tr.nil) none Tr.nil)) none (Tr.node (Tr.node Tr.nil (some (Value.int IntKind.i64 (ofI val_1))) Tr.nil) (some (Value.pointer (some (Addr.mk 1 0 none)))) (Tr.node (Tr.node Tr.nil (some (Value.int IntKind.i64 i)) Tr.nil) none Tr.nil)))) [] (AW.mk 3 (Tr.node (Tr.node Tr.nil (some (AObj.cells g 103 1 0)) Tr.nil) (some (AObj.cells [Value.int IntKind.i64 (Int.ofNat 0), Value.int IntKind.u64 (Int.ofNat 0), Value.int IntKind.u64 (Int.ofNat 0), Value.int IntKind.u64 (Int.ofNat 0), Value.int IntKind.u64 (Int.ofNat 0), Value.int IntKind.u64 (Int.ofNat 0), Value.int IntKind.u64 (Int.ofNat 0), Value.int IntKind.u64 (Int.ofNat 0), Value.int IntKind.u64 (Int.ofNat 0), Value.int IntKind.u64 (Int.ofNat 0), Value.int IntKind.u64 (Int.ofNat 0), Value.int IntKind.u64 (Int.ofNat 0), Value.int IntKind.u64 (Int.ofNat 0), Value.int IntKind.u64 (Int.ofNat 0), Value.int IntKind.u64 (Int.ofNat 0), Value.int IntKind.u64 (Int.ofNat 0), Value.int IntKind.u64 (Int.ofNat 0)] 103 0 0)) (Tr.node Tr.nil (some (AObj.cells [Value.int IntKind.i64 (ofI val), Value.int IntKind.i64 (ofI val_1)] 52 2 0)) Tr.nil)) Tr.nil) else bif decide (i > 0) then bif decide (0 ≤ IntKind.wrap IntKind.i64 (i - Int.ofNat 1)) then bif Nat.blt (Int.toNat (IntKind.wrap IntKind.i64 (i - Int.ofNat 1))) len then Option.casesOn (r b (Nat.add (Nat.add off (Nat.mul (Int.toNat (IntKind.wrap IntKind.i64 (i - Int.ofNat 1))) 2)) 0)) (CR.fail 423) fun val_2 => bif isI IntKind.i64 val_2 then bif m_cmp (ofI val_2) (ofI val) != Int.ofNat 0 then bif decide (m_cmp (ofI val_2) (ofI val) ≥ 0) then bif m_eqv (Value.slice (some (Addr.mk b (Nat.add off (Nat.mul (Int.toNat (IntKind.wrap IntKind.i64 (i - Int.ofNat 1))) 2)) (some 0))) 2 2) (Value.slice (some (Addr.mk b (Nat.add off (Nat.mul (Int.toNat (IntKind.wrap IntKind.i64 (i - Int.ofNat 1))) 2)) (some 0))) 2 2) then kr [(56, Value.agg (Array.mk [Value.int IntKind.i64 (Int.ofNat 0), Value.int IntKind.u64 (Int.ofNat 0), Value.int IntKind.u64 (Int.ofNat 0), Value.int IntKind.u64 (Int.ofNat 0), Value.int IntKind.u64 (Int.ofNat 0), Value.int IntKind.u64 (Int.ofNat 0), Value.int IntKind.u64 (Int.ofNat 0), Value.int IntKind.u64 (Int.ofNat 0), Value.int IntKind.u64 (Int.ofNat 0), Value.int IntKind.u64 (Int.ofNat 0), Value.int IntKind.u64 (Int.ofNat 0), Value.int IntKind.u64 (Int.ofNat 0), Value.int IntKind.u64 (Int.ofNat 0), Value.int IntKind.u64 (Int.ofNat 0), Value.int IntKind.u64 (Int.ofNat 0), Value.int IntKind.u64 (Int.ofNat 0), Value.int IntKind.u64 (Int.ofNat 0)]))] (Tr.node (Tr.node (Tr.node (Tr.node Tr.nil (some (Value.int IntKind.i64 i)) Tr.nil) none Tr.nil) (some (Value.slice (some (Addr.mk b off (some 0))) len cap)) (Tr.node (Tr.node Tr.nil (some (Value.int IntKind.i64 (ofI val))) Tr.nil) (some (Value.int IntKind.i64 (Int.ofNat 40))) (Tr.node (Tr.node Tr.nil (some (Value.int IntKind.i64 (Int.ofNat len))) Tr.nil) none Tr.nil))) (some (Value.int IntKind.i64 n)) (Tr.node (Tr.node (Tr.node Tr.nil (some (Value.pointer (some (Addr.mk 2 0 none)))) Tr.nil) (some (Value.pointer (some (Addr.mk 0 0 none)))) (Tr.node (Tr.node Tr.nil (some (Value.slice (some (Addr.mk b off (some 0))) len cap)) Tr.nil) none Tr.nil)) none (Tr.node (Tr.node Tr.nil (some (Value.int IntKind.i64 (ofI val_1))) Tr.nil) (some (Value.pointer (some (Addr.mk 1 0 none)))) (Tr.node (Tr.node Tr.nil (some (Value.int IntKind.i64 i)) Tr.nil) none Tr.nil)))) [] (AW.mk 3 (Tr.node (Tr.node Tr.nil (some (AObj.cells g 103 1 0)) Tr.nil) (some (AObj.cells [Value.int IntKind.i64 (Int.ofNat 0), Value.int IntKind.u64 (Int.ofNat 0), Value.int IntKind.u64 (Int.ofNat 0), Value.int IntKind.u64 (Int.ofNat 0), Value.int IntKind.u64 (Int.ofNat 0), Value.int IntKind.u64 (Int.ofNat 0), Value.int IntKind.u64 (Int.ofNat 0), Value.int IntKind.u64 (Int.ofNat 0), Value.int IntKind.u64 (Int.ofNat 0), Value.int IntKind.u64 (Int.ofNat 0), Value.int IntKind.u64 (Int.ofNat 0), Value.int IntKind.u64 (Int.ofNat 0), Value.int IntKind.u64 (Int.ofNat 0), Value.int IntKind.u64 (Int.ofNat 0), Value.int IntKind.u64 (Int.ofNat 0), Value.int IntKind.u64 (Int.ofNat 0), Value.int IntKind.u64 (Int.ofNat 0)] 103 0 0)) (Tr.node Tr.nil (some (AObj.cells [Value.int IntKind.i64 (ofI val), Value.int IntKind.i64 (ofI val_1)] 52 2 0)) Tr.nil)) Tr.nil) else CR.fail 420 else bif m_eqv (Value.slice (some (Addr.mk b (Nat.add off (Nat.mul (Int.toNat (IntKind.wrap IntKind.i64 (i - Int.ofNat 1))) 2)) (some 0))) 2 2) (Value.slice (some (Addr.mk b (Nat.add off (Nat.mul (Int.toNat (IntKind.wrap IntKind.i64 (i - Int.ofNat 1))) 2)) (some 0))) 2 2) then bif m_vG (ofI val) then bif m_vG (ofI val_1) then bif m_at [Value.pointer (some (Addr.mk 1 0 none)), Value.int IntKind.u64 (m_bit (ofI val)), Value.int IntKind.u64 (m_bit (ofI val_1))] [Value.pointer (some (Addr.mk 1 0 none)), Value.int IntKind.u64 (m_bit x), Value.int IntKind.u64 (m_bit y)] (AW.mk 3 (Tr.node (Tr.node Tr.nil (some (AObj.cells g 103 1 0)) Tr.nil) (some (AObj.cells [Value.int IntKind.i64 (Int.ofNat 0), Value.int IntKind.u64 (Int.ofNat 0), Value.int IntKind.u64 (Int.ofNat 0), Value.int IntKind.u64 (Int.ofNat 0), Value.int IntKind.u64 (Int.ofNat 0), Value.int IntKind.u64 (Int.ofNat 0), Value.int IntKind.u64 (Int.ofNat 0), Value.int IntKind.u64 (Int.ofNat 0), Value.int IntKind.u64 (Int.ofNat 0), Value.int IntKind.u64 (Int.ofNat 0), Value.int IntKind.u64 (Int.ofNat 0), Value.int IntKind.u64 (Int.ofNat 0), Value.int IntKind.u64 (Int.ofNat 0), Value.int IntKind.u64 (Int.ofNat 0), Value.int IntKind.u64 (Int.ofNat 0), Value.int IntKind.u64 (Int.ofNat 0), Value.int IntKind.u64 (Int.ofNat 0)] 103 0 0)) (Tr.node Tr.nil (some (AObj.cells [Value.int IntKind.i64 (ofI val), Value.int IntKind.i64 (ofI val_1)] 52 2 0)) Tr.nil)) Tr.nil) (AW.mk 3 (Tr.node (Tr.node Tr.nil (some (AObj.cells g 103 1 0)) Tr.nil) (some (AObj.cells [Value.int IntKind.i64 (Int.ofNat 0), Value.int IntKind.u64 (Int.ofNat 0), Value.int IntKind.u64 (Int.ofNat 0), Value.int IntKind.u64 (Int.ofNat 0), Value.int IntKind.u64 (Int.ofNat 0), Value.int IntKind.u64 (Int.ofNat 0), Value.int IntKind.u64 (Int.ofNat 0), Value.int IntKind.u64 (Int.ofNat 0), Value.int IntKind.u64 (Int.ofNat 0), Value.int IntKind.u64 (Int.ofNat 0), Value.int IntKind.u64 (Int.ofNat 0), Value.int IntKind.u64 (Int.ofNat 0), Value.int IntKind.u64 (Int.ofNat 0), Value.int IntKind.u64 (Int.ofNat 0), Value.int IntKind.u64 (Int.ofNat 0), Value.int IntKind.u64 (Int.ofNat 0), Value.int IntKind.u64 (Int.ofNat 0)] 103 0 0)) (Tr.node Tr.nil (some (AObj.cells [Value.int IntKind.i64 x, Value.int IntKind.i64 y] 52 2 0)) Tr.nil)) Tr.nil) then kn [(62, Value.int IntKind.i64 (IntKind.wrap IntKind.i64 (i + Int.ofNat 1)))] (Tr.node (Tr.node (Tr.node (Tr.node Tr.nil (some (Value.int IntKind.i64 i)) Tr.nil) none Tr.nil) (some (Value.slice (some (Addr.mk b off (some 0))) len cap)) (Tr.node (Tr.node Tr.nil (some (Value.int IntKind.i64 (ofI val))) Tr.nil) (some (Value.int IntKind.i64 (Int.ofNat 0))) (Tr.node (Tr.node Tr.nil (some (Value.int IntKind.i64 (Int.ofNat len))) Tr.nil) none Tr.nil))) (some (Value.int IntKind.i64 n)) (Tr.node (Tr.node (Tr.node Tr.nil (some (Value.pointer (some (Addr.mk 2 0 none)))) Tr.nil) (some (Value.pointer (some (Addr.mk 0 0 none)))) (Tr.node (Tr.node Tr.nil (some (Value.slice (some (Addr.mk b off (some 0))) len cap)) Tr.nil) none Tr.nil)) none (Tr.node (Tr.node Tr.nil (some (Value.int IntKind.i64 (ofI val_1))) Tr.nil) (some (Value.pointer (some (Addr.mk 1 0 none)))) (Tr.node (Tr.node Tr.nil (some (Value.int IntKind.i64 (IntKind.wrap IntKind.i64 (i + Int.ofNat 1)))) Tr.nil) none Tr.nil)))) [] (AW.mk 5 (Tr.node (Tr.node (Tr.node Tr.nil none Tr.nil) (some (AObj.cells g' 103 1 0)) Tr.nil) (some (AObj.cells [Value.int IntKind.i64 (Int.ofNat 0), Value.int IntKind.u64 (Int.ofNat 0), Value.int IntKind.u64 (Int.ofNat 0), Value.int IntKind.u64 (Int.ofNat 0), Value.int IntKind.u64 (Int.ofNat 0), Value.int IntKind.u64 (Int.ofNat 0), Value.int IntKind.u64 (Int.ofNat 0), Value.int IntKind.u64 (Int.ofNat 0), Value.int IntKind.u64 (Int.ofNat 0), Value.int IntKind.u64 (Int.ofNat 0), Value.int IntKind.u64 (Int.ofNat 0), Value.int IntKind.u64 (Int.ofNat 0), Value.int IntKind.u64 (Int.ofNat 0), Value.int IntKind.u64 (Int.ofNat 0), Value.int IntKind.u64 (Int.ofNat 0), Value.int IntKind.u64 (Int.ofNat 0), Value.int IntKind.u64 (Int.ofNat 0)] 103 0 0)) (Tr.node (Tr.node Tr.nil none Tr.nil) (some (AObj.cells [Value.int IntKind.i64 x, Value.int IntKind.i64 y] 52 2 0)) Tr.nil)) Tr.nil) else CR.fail 420 else CR.fail 420 else CR.fail 420 else CR.fail 420 else Option.casesOn (r b (Nat.add (Nat.add off (Nat.mul (Int.toNat (IntKind.wrap IntKind.i64 (i - Int.ofNat 1))) 2)) 1)) (CR.fail 423) fun val_3 => bif isI IntKind.i64 val_3 then bif m_cmp (ofI val_3) (ofI val_1) != Int.ofNat 0 then bif decide (m_cmp (ofI val_3) (ofI val_1) ≥ 0) then bif m_eqv (Value.slice (some (Addr.mk b (Nat.add off (Nat.mul (Int.toNat (IntKind.wrap IntKind.i64 (i - Int.ofNat 1))) 2)) (some 0))) 2 2) (Value.slice (some (Addr.mk b (Nat.add off (Nat.mul (Int.toNat (IntKind.wrap IntKind.i64 (i - Int.ofNat 1))) 2)) (some 0))) 2 2) then kr [(56, Value.agg (Array.mk [Value.int IntKind.i64 (Int.ofNat 0), Value.int IntKind.u64 (Int.ofNat 0), Value.int IntKind.u64 (Int.ofNat 0), Value.int IntKind.u64 (Int.ofNat 0), Value.int IntKind.u64 (Int.ofNat 0), Value.int IntKind.u64 (Int.ofNat 0), Value.int IntKind.u64 (Int.ofNat 0), Value.int IntKind.u64 (Int.ofNat 0), Value.int IntKind.u64 (Int.ofNat 0), Value.int IntKind.u64 (Int.ofNat 0), Value.int IntKind.u64 (Int.ofNat 0), Value.int IntKind.u64 (Int.ofNat 0), Value.int IntKind.u64 (Int.ofNat 0), Value.int IntKind.u64 (Int.ofNat 0), Value.int IntKind.u64 (Int.ofNat 0), Value.int IntKind.u64 (Int.ofNat 0), Value.int IntKind.u64 (Int.ofNat 0)]))] (Tr.node (Tr.node (Tr.node (Tr.node Tr.nil (some (Value.int IntKind.i64 i)) Tr.nil) none Tr.nil) (some (Value.slice (some (Addr.mk b off (some 0))) len cap)) (Tr.node (Tr.node Tr.nil (some (Value.int IntKind.i64 (ofI val))) Tr.nil) (some (Value.int IntKind.i64 (Int.ofNat 40))) (Tr.node (Tr.node Tr.nil (some (Value.int IntKind.i64 (Int.ofNat len))) Tr.nil) none Tr.nil))) (some (Value.int IntKind.i64 n)) (Tr.node (Tr.node (Tr.node Tr.nil (some (Value.pointer (some (Addr.mk 2 0 none)))) Tr.nil) (some (Value.pointer (some (Addr.mk 0 0 none)))) (Tr.node (Tr.node Tr.nil (some (Value.slice (some (Addr.mk b off (some 0))) len cap)) Tr.nil) none Tr.nil)) none (Tr.node (Tr.node Tr.nil (some (Value.int IntKind.i64 (ofI val_1))) Tr.nil) (some (Value.pointer (some (Addr.mk 1 0 none)))) (Tr.node (Tr.node Tr.nil (some (Value.int IntKind.i64 i)) Tr.nil) none Tr.nil)))) [] (AW.mk 3 (Tr.node (Tr.node Tr.nil (some (AObj.cells g 103 1 0)) Tr.nil) (some (AObj.cells [Value.int IntKind.i64 (Int.ofNat 0), Value.int IntKind.u64 (Int.ofNat 0), Value.int IntKind.u64 (Int.ofNat 0), Value.int IntKind.u64 (Int.ofNat 0), Value.int IntKind.u64 (Int.ofNat 0), Value.int IntKind.u64 (Int.ofNat 0), Value.int IntKind.u64 (Int.ofNat 0), Value.int IntKind.u64 (Int.ofNat 0), Value.int IntKind.u64 (Int.ofNat 0), Value.int IntKind.u64 (Int.ofNat 0), Value.int IntKind.u64 (Int.ofNat 0), Value.int IntKind.u64 (Int.ofNat 0), Value.int IntKind.u64 (Int.ofNat 0), Value.int IntKind.u64 (Int.ofNat 0), Value.int IntKind.u64 (Int.ofNat 0), Value.int IntKind.u64 (Int.ofNat 0), Value.int IntKind.u64 (Int.ofNat 0)] 103 0 0)) (Tr.node Tr.nil (some (AObj.cells [Value.int IntKind.i64 (ofI val), Value.int IntKind.i64 (ofI val_1)] 52 2 0)) Tr.nil)) Tr.nil) else CR.fail 420 else bif m_eqv (Value.slice (some (Addr.mk b (Nat.add off (Nat.mul (Int.toNat (IntKind.wrap IntKind.i64 (i - Int.ofNat 1))) 2)) (some 0))) 2 2) (Value.slice (some (Addr.mk b (Nat.add off (Nat.mul (Int.toNat (IntKind.wrap IntKind.i64 (i - Int.ofNat 1))) 2)) (some 0))) 2 2) then bif m_vG (ofI val) then bif m_vG (ofI val_1) then bif m_at [Value.pointer (some (Addr.mk 1 0 none)), Value.int IntKind.u64 (m_bit (ofI val)), Value.int IntKind.u64 (m_bit (ofI val_1))] [Value.pointer (some (Addr.mk 1 0 none)), Value.int IntKind.u64 (m_bit x), Value.int IntKind.u64 (m_bit y)] (AW.mk 3 (Tr.node (Tr.node Tr.nil (some (AObj.cells g 103 1 0)) Tr.nil) (some (AObj.cells [Value.int IntKind.i64 (Int.ofNat 0), Value.int IntKind.u64 (Int.ofNat 0), Value.int IntKind.u64 (Int.ofNat 0), Value.int IntKind.u64 (Int.ofNat 0), Value.int IntKind.u64 (Int.ofNat 0), Value.int IntKind.u64 (Int.ofNat 0), Value.int IntKind.u64 (Int.ofNat 0), Value.int IntKind.u64 (Int.ofNat 0), Value.int IntKind.u64 (Int.ofNat 0), Value.int IntKind.u64 (Int.ofNat 0), Value.int IntKind.u64 (Int.ofNat 0), Value.int IntKind.u64 (Int.ofNat 0), Value.int IntKind.u64 (Int.ofNat 0), Value.int IntKind.u64 (Int.ofNat 0), Value.int IntKind.u64 (Int.ofNat 0), Value.int IntKind.u64 (Int.ofNat 0), Value.int IntKind.u64 (Int.ofNat 0)] 103 0 0)) (Tr.node Tr.nil (some (AObj.cells [Value.int IntKind.i64 (ofI val), Value.int IntKind.i64 (ofI val_1)] 52 2 0)) Tr.nil)) Tr.nil) (AW.mk 3 (Tr.node (Tr.node Tr.nil (some (AObj.cells g 103 1 0)) Tr.nil) (some (AObj.cells [Value.int IntKind.i64 (Int.ofNat 0), Value.int IntKind.u64 (Int.ofNat 0), Value.int IntKind.u64 (Int.ofNat 0), Value.int IntKind.u64 (Int.ofNat 0), Value.int IntKind.u64 (Int.ofNat 0), Value.int IntKind.u64 (Int.ofNat 0), Value.int IntKind.u64 (Int.ofNat 0), Value.int IntKind.u64 (Int.ofNat 0), Value.int IntKind.u64 (Int.ofNat 0), Value.int IntKind.u64 (Int.ofNat 0), Value.int IntKind.u64 (Int.ofNat 0), Value.int IntKind.u64 (Int.ofNat 0), Value.int IntKind.u64 (Int.ofNat 0), Value.int IntKind.u64 (Int.ofNat 0), Value.int IntKind.u64 (Int.ofNat 0), Value.int IntKind.u64 (Int.ofNat 0), Value.int IntKind.u64 (Int.ofNat 0)] 103 0 0)) (Tr.node Tr.nil (some (AObj.cells [Value.int IntKind.i64 x, Value.int IntKind.i64 y] 52 2 0)) Tr.nil)) Tr.nil) then kn [(62, Value.int IntKind.i64 (IntKind.wrap IntKind.i64 (i + Int.ofNat 1)))] (Tr.node (Tr.node (Tr.node (Tr.node Tr.nil (some (Value.int IntKind.i64 i)) Tr.nil) none Tr.nil) (some (Value.slice (some (Addr.mk b off (some 0))) len cap)) (Tr.node (Tr.node Tr.nil (some (Value.int IntKind.i64 (ofI val))) Tr.nil) (some (Value.int IntKind.i64 (Int.ofNat 0))) (Tr.node (Tr.node Tr.nil (some (Value.int IntKind.i64 (Int.ofNat len))) Tr.nil) none Tr.nil))) (some (Value.int IntKind.i64 n)) (Tr.node (Tr.node (Tr.node Tr.nil (some (Value.pointer (some (Addr.mk 2 0 none)))) Tr.nil) (some (Value.pointer (some (Addr.mk 0 0 none)))) (Tr.node (Tr.node Tr.nil (some (Value.slice (some (Addr.mk b off (some 0))) len cap)) Tr.nil) none Tr.nil)) none (Tr.node (Tr.node Tr.nil (some (Value.int IntKind.i64 (ofI val_1))) Tr.nil) (some (Value.pointer (some (Addr.mk 1 0 none)))) (Tr.node (Tr.node Tr.nil (some (Value.int IntKind.i64 (IntKind.wrap IntKind.i64 (i + Int.ofNat 1)))) Tr.nil) none Tr.nil)))) [] (AW.mk 5 (Tr.node (Tr.node (Tr.node Tr.nil none Tr.nil) (some (AObj.cells g' 103 1 0)) Tr.nil) (some (AObj.cells [Value.int IntKind.i64 (Int.ofNat 0), Value.int IntKind.u64 (Int.ofNat 0), Value.int IntKind.u64 (Int.ofNat 0), Value.int IntKind.u64 (Int.ofNat 0), Value.int IntKind.u64 (Int.ofNat 0), Value.int IntKind.u64 (Int.ofNat 0), Value.int IntKind.u64 (Int.ofNat 0), Value.int IntKind.u64 (Int.ofNat 0), Value.int IntKind.u64 (Int.ofNat 0), Value.int IntKind.u64 (Int.ofNat 0), Value.int IntKind.u64 (Int.ofNat 0), Value.int IntKind.u64 (Int.ofNat 0), Value.int IntKind.u64 (Int.ofNat 0), Value.int IntKind.u64 (Int.ofNat 0), Value.int IntKind.u64 (Int.ofNat 0), Value.int IntKind.u64 (Int.ofNat 0), Value.int IntKind.u64 (Int.ofNat 0)] 103 0 0)) (Tr.node (Tr.node Tr.nil none Tr.nil) (some (AObj.cells [Value.int IntKind.i64 x, Value.int IntKind.i64 y] 52 2 0)) Tr.nil)) Tr.nil) else CR.fail 420 else CR.fail 420 else CR.fail 420 else CR.fail 420 else bif m_eqv (Value.slice (some (Addr.mk b (Nat.add off (Nat.mul (Int.toNat (IntKind.wrap IntKind.i64 (i - Int.ofNat 1))) 2)) (some 0))) 2 2) (Value.slice (some (Addr.mk b (Nat.add off (Nat.mul (Int.toNat (IntKind.wrap IntKind.i64 (i - Int.ofNat 1))) 2)) (some 0))) 2 2) then kr [(56, Value.agg (Array.mk [Value.int IntKind.i64 (Int.ofNat 0), Value.int IntKind.u64 (Int.ofNat 0), Value.int IntKind.u64 (Int.ofNat 0), Value.int IntKind.u64 (Int.ofNat 0), Value.int IntKind.u64 (Int.ofNat 0), Value.int IntKind.u64 (Int.ofNat 0), Value.int IntKind.u64 (Int.ofNat 0), Value.int IntKind.u64 (Int.ofNat 0), Value.int IntKind.u64 (Int.ofNat 0), Value.int IntKind.u64 (Int.ofNat 0), Value.int IntKind.u64 (Int.ofNat 0), Value.int IntKind.u64 (Int.ofNat 0), Value.int IntKind.u64 (Int.ofNat 0), Value.int IntKind.u64 (Int.ofNat 0), Value.int IntKind.u64 (Int.ofNat 0), Value.int IntKind.u64 (Int.ofNat 0), Value.int IntKind.u64 (Int.ofNat 0)]))] (Tr.node (Tr.node (Tr.node (Tr.node Tr.nil (some (Value.int IntKind.i64 i)) Tr.nil) none Tr.nil) (some (Value.slice (some (Addr.mk b off (some 0))) len cap)) (Tr.node (Tr.node Tr.nil (some (Value.int IntKind.i64 (ofI val))) Tr.nil) (some (Value.int IntKind.i64 (Int.ofNat 40))) (Tr.node (Tr.node Tr.nil (some (Value.int IntKind.i64 (Int.ofNat len))) Tr.nil) none Tr.nil))) (some (Value.int IntKind.i64 n)) (Tr.node (Tr.node (Tr.node Tr.nil (some (Value.pointer (some (Addr.mk 2 0 none)))) Tr.nil) (some (Value.pointer (some (Addr.mk 0 0 none)))) (Tr.node (Tr.node Tr.nil (some (Value.slice (some (Addr.mk b off (some 0))) len cap)) Tr.nil) none Tr.nil)) none (Tr.node (Tr.node Tr.nil (some (Value.int IntKind.i64 (ofI val_1))) Tr.nil) (some (Value.pointer (some (Addr.mk 1 0 none)))) (Tr.node (Tr.node Tr.nil (some (Value.int IntKind.i64 i)) Tr.nil) none Tr.nil)))) [] (AW.mk 3 (Tr.node (Tr.node Tr.nil (some (AObj.cells g 103 1 0)) Tr.nil) (some (AObj.cells [Value.int IntKind.i64 (Int.ofNat 0), Value.int IntKind.u64 (Int.ofNat 0), Value.int IntKind.u64 (Int.ofNat 0), Value.int IntKind.u64 (Int.ofNat 0), Value.int IntKind.u64 (Int.ofNat 0), Value.int IntKind.u64 (Int.ofNat 0), Value.int IntKind.u64 (Int.ofNat 0), Value.int IntKind.u64 (Int.ofNat 0), Value.int IntKind.u64 (Int.ofNat 0), Value.int IntKind.u64 (Int.ofNat 0), Value.int IntKind.u64 (Int.ofNat 0), Value.int IntKind.u64 (Int.ofNat 0), Value.int IntKind.u64 (Int.ofNat 0), Value.int IntKind.u64 (Int.ofNat 0), Value.int IntKind.u64 (Int.ofNat 0), Value.int IntKind.u64 (Int.ofNat 0), Value.int IntKind.u64 (Int.ofNat 0)] 103 0 0)) (Tr.node Tr.nil (some (AObj.cells [Value.int IntKind.i64 (ofI val), Value.int IntKind.i64 (ofI val_1)] 52 2 0)) Tr.nil)) Tr.nil) else CR.fail 420 else CR.fail 420 else CR.fail 420 else CR.fail 420 else CR.fail 420 else bif m_vG (ofI val) then bif m_vG (ofI val_1) then bif m_at [Value.pointer (some (Addr.mk 1 0 none)), Value.int IntKind.u64 (m_bit (ofI val)), Value.int IntKind.u64 (m_bit (ofI val_1))] [Value.pointer (some (Addr.mk 1 0 none)), Value.int IntKind.u64 (m_bit x), Value.int IntKind.u64 (m_bit y)] (AW.mk 3 (Tr.node (Tr.node Tr.nil (some (AObj.cells g 103 1 0)) Tr.nil) (some (AObj.cells [Value.int IntKind.i64 (Int.ofNat 0), Value.int IntKind.u64 (Int.ofNat 0), Value.int IntKind.u64 (Int.ofNat 0), Value.int IntKind.u64 (Int.ofNat 0), Value.int IntKind.u64 (Int.ofNat 0), Value.int IntKind.u64 (Int.ofNat 0), Value.int IntKind.u64 (Int.ofNat 0), Value.int IntKind.u64 (Int.ofNat 0), Value.int IntKind.u64 (Int.ofNat 0), Value.int IntKind.u64 (Int.ofNat 0), Value.int IntKind.u64 (Int.ofNat 0), Value.int IntKind.u64 (Int.ofNat 0), Value.int IntKind.u64 (Int.ofNat 0), Value.int IntKind.u64 (Int.ofNat 0), Value.int IntKind.u64 (Int.ofNat 0), Value.int IntKind.u64 (Int.ofNat 0), Value.int IntKind.u64 (Int.ofNat 0)] 103 0 0)) (Tr.node Tr.nil (some (AObj.cells [Value.int IntKind.i64 (ofI val), Value.int IntKind.i64 (ofI val_1)] 52 2 0)) Tr.nil)) Tr.nil) (AW.mk 3 (Tr.node (Tr.node Tr.nil (some (AObj.cells g 103 1 0)) Tr.nil) (some (AObj.cells [Value.int IntKind.i64 (Int.ofNat 0), Value.int IntKind.u64 (Int.ofNat 0), Value.int IntKind.u64 (Int.ofNat 0), Value.int IntKind.u64 (Int.ofNat 0), Value.int IntKind.u64 (Int.ofNat 0), Value.int IntKind.u64 (Int.ofNat 0), Value.int IntKind.u64 (Int.ofNat 0), Value.int IntKind.u64 (Int.ofNat 0), Value.int IntKind.u64 (Int.ofNat 0), Value.int IntKind.u64 (Int.ofNat 0), Value.int IntKind.u64 (Int.ofNat 0), Value.int IntKind.u64 (Int.ofNat 0), Value.int IntKind.u64 (Int.ofNat 0), Value.int IntKind.u64 (Int.ofNat 0), Value.int IntKind.u64 (Int.ofNat 0), Value.int IntKind.u64 (Int.ofNat 0), Value.int IntKind.u64 (Int.ofNat 0)] 103 0 0)) (Tr.node Tr.nil (some (AObj.cells [Value.int IntKind.i64 x, Value.int IntKind.i64 y] 52 2 0)) Tr.nil)) Tr.nil) then kn [(62, Value.int IntKind.i64 (IntKind.wrap IntKind.i64 (i + Int.ofNat 1)))] (Tr.node (Tr.node (Tr.node (Tr.node Tr.nil (some (Value.int IntKind.i64 i)) Tr.nil) none Tr.nil) (some (Value.slice (some (Addr.mk b off (some 0))) len cap)) (Tr.node (Tr.node Tr.nil (some (Value.int IntKind.i64 (ofI val))) Tr.nil) (some (Value.int IntKind.i64 (Int.ofNat 0))) (Tr.node (Tr.node Tr.nil (some (Value.int IntKind.i64 (Int.ofNat len))) Tr.nil) none Tr.nil))) (some (Value.int IntKind.i64 n)) (Tr.node (Tr.node (Tr.node Tr.nil (some (Value.pointer (some (Addr.mk 2 0 none)))) Tr.nil) (some (Value.pointer (some (Addr.mk 0 0 none)))) (Tr.node (Tr.node Tr.nil (some (Value.slice (some (Addr.mk b off (some 0))) len cap)) Tr.nil) none Tr.nil)) none (Tr.node (Tr.node Tr.nil (some (Value.int IntKind.i64 (ofI val_1))) Tr.nil) (some (Value.pointer (some (Addr.mk 1 0 none)))) (Tr.node (Tr.node Tr.nil (some (Value.int IntKind.i64 (IntKind.wrap IntKind.i64 (i + Int.ofNat 1)))) Tr.nil) none Tr.nil)))) [] (AW.mk 5 (Tr.node (Tr.node (Tr.node Tr.nil none Tr.nil) (some (AObj.cells g' 103 1 0)) Tr.nil) (some (AObj.cells [Value.int IntKind.i64 (Int.ofNat 0), Value.int IntKind.u64 (Int.ofNat 0), Value.int IntKind.u64 (Int.ofNat 0), Value.int IntKind.u64 (Int.ofNat 0), Value.int IntKind.u64 (Int.ofNat 0), Value.int IntKind.u64 (Int.ofNat 0), Value.int IntKind.u64 (Int.ofNat 0), Value.int IntKind.u64 (Int.ofNat 0), Value.int IntKind.u64 (Int.ofNat 0), Value.int IntKind.u64 (Int.ofNat 0), Value.int IntKind.u64 (Int.ofNat 0), Value.int IntKind.u64 (Int.ofNat 0), Value.int IntKind.u64 (Int.ofNat 0), Value.int IntKind.u64 (Int.ofNat 0), Value.int IntKind.u64 (Int.ofNat 0), Value.int IntKind.u64 (Int.ofNat 0), Value.int IntKind.u64 (Int.ofNat 0)] 103 0 0)) (Tr.node (Tr.node Tr.nil none Tr.nil) (some (AObj.cells [Value.int IntKind.i64 x, Value.int IntKind.i64 y] 52 2 0)) Tr.nil)) Tr.nil) else CR.fail 420 else CR.fail 420 else CR.fail 420 else CR.fail 420 else CR.fail 420 else CR.fail 420 else CR.fail 420 else kx 0 [(23, Value.bool false)] (Tr.node (Tr.node Tr.nil (some (Value.slice (some (Addr.mk b off (some 0))) len cap)) (Tr.node Tr.nil (some (Value.int IntKind.i64 (Int.ofNat 0))) (Tr.node (Tr.node Tr.nil (some (Value.int IntKind.i64 (Int.ofNat len))) Tr.nil) none Tr.nil))) (some (Value.int IntKind.i64 n)) (Tr.node (Tr.node Tr.nil (some (Value.pointer (some (Addr.mk 0 0 none)))) (Tr.node (Tr.node Tr.nil (some (Value.slice (some (Addr.mk b off (some 0))) len cap)) Tr.nil) none Tr.nil)) none (Tr.node Tr.nil (some (Value.pointer (some (Addr.mk 1 0 none)))) (Tr.node (Tr.node Tr.nil (some (Value.int IntKind.i64 i)) Tr.nil) none Tr.nil)))) [] (AW.mk 2 (Tr.node (Tr.node Tr.nil (some (AObj.cells g 103 1 0)) Tr.nil) (some (AObj.cells [Value.int IntKind.i64 (Int.ofNat 0), Value.int IntKind.u64 (Int.ofNat 0), Value.int IntKind.u64 (Int.ofNat 0), Value.int IntKind.u64 (Int.ofNat 0), Value.int IntKind.u64 (Int.ofNat 0), Value.int IntKind.u64 (Int.ofNat 0), Value.int IntKind.u64 (Int.ofNat 0), Value.int IntKind.u64 (Int.ofNat 0), Value.int IntKind.u64 (Int.ofNat 0), Value.int IntKind.u64 (Int.ofNat 0), Value.int IntKind.u64 (Int.ofNat 0), Value.int IntKind.u64 (Int.ofNat 0), Value.int IntKind.u64 (Int.ofNat 0), Value.int IntKind.u64 (Int.ofNat 0), Value.int IntKind.u64 (Int.ofNat 0), Value.int IntKind.u64 (Int.ofNat 0), Value.int IntKind.u64 (Int.ofNat 0)] 103 0 0)) Tr.nil) Tr.nil) := by kernel_rfl
end Go.Proofs
namespace Go.Proofs
open Go Go.Ev Go.Num
theorem cmp_ok (r : Mem) (a b : Int) : GrT Tryd.prog r 85 [I a, I b] (I (m_cmp a b)) :=
 GrT.of (SC_ok r) TOk.nil .nil rfl ⟨1, 2, by
  rw [cmA, neF rfl, neF rfl, cond_false, cond_false]
  unfold m_cmp
  by_cases h1 : a < b
  ·rw [dT h1, cond_true, if_pos h1]; rfl
  ·rw [dF h1, cond_false, if_neg h1]
   by_cases h2 : a > b
   ·rw [dT h2, cond_true, if_pos h2]; rfl
   ·rw [dF h2, cond_false, if_neg h2]; rfl⟩
theorem single_ok (r : Mem) (v : Int) (h : m_vG v = true) : GrT Tryd.prog r 66 [I v] (U (m_bit v)) :=
 GrT.of (SC_ok r) TOk.nil .nil rfl ⟨1, 1, by
  simp only [m_vG, Bool.and_eq_true, decide_eq_true_eq] at h
  rw [sgA, dF (show ¬ v < 0 by omega), Bool.not_false, cond_true]
  obtain ⟨i, rfl⟩ : ∃ i : Nat, v = i := ⟨v.toNat, by omega⟩
  have hi : i < 16 := by omega
  have e : IntKind.wrap IntKind.u64 (Int.ofNat 1 * Int.ofNat 2 ^ min (Int.toNat (i : Int)) 64) = m_bit (i : Int) := by
   have : ∀ j : Fin 16, IntKind.wrap IntKind.u64 (Int.ofNat 1 * Int.ofNat 2 ^ min (Int.toNat ((j.val : Nat) : Int)) 64) = m_bit ((j.val : Nat) : Int) := by decide
   exact this ⟨i, hi⟩
  rw [e]; rfl⟩
theorem bit_of (i : Nat) : m_bit (i : Int) = bit i := by unfold m_bit bit; rw [Int.toNat_natCast]
def TGq (n : Int) (sl : Value) (len : Nat) (k a b e i : Int) : Tr Value := (Tr.node (Tr.node (Tr.node (Tr.node Tr.nil (some (I k)) Tr.nil) none Tr.nil) (some sl) (Tr.node (Tr.node Tr.nil (some (I a)) Tr.nil) (some (I e)) (Tr.node (Tr.node Tr.nil (some (I (Int.ofNat len))) Tr.nil) none Tr.nil))) (some (I n)) (Tr.node (Tr.node (Tr.node Tr.nil (some (.pointer (some ⟨2, 0, none⟩))) Tr.nil) (some (.pointer (some ⟨0, 0, none⟩))) (Tr.node (Tr.node Tr.nil (some sl) Tr.nil) none Tr.nil)) none (Tr.node (Tr.node Tr.nil (some (I b)) Tr.nil) (some (.pointer (some ⟨1, 0, none⟩))) (Tr.node (Tr.node Tr.nil (some (I i)) Tr.nil) none Tr.nil))))
theorem cmp_cases (a b : Int) : (a < b ∧ m_cmp a b = -1) ∨ (a = b ∧ m_cmp a b = 0) ∨ (a > b ∧ m_cmp a b = 1) := by
 unfold m_cmp
 by_cases h1 : a < b
 ·exact .inl ⟨h1, if_pos h1⟩
 ·by_cases h2 : a > b
  ·exact .inr (.inr ⟨h2, by rw [if_neg h1, if_pos h2]⟩)
  ·exact .inr (.inl ⟨by omega, by rw [if_neg h1, if_neg h2]⟩)
theorem veq_ro (b k n c : Nat) : m_eqv (.slice (some ⟨b, k, some 0⟩) n c) (.slice (some ⟨b, k, some 0⟩) n c) = true := by simp [m_eqv, veq]
theorem gp_round (r : Mem) (L : Nat) (n : Int) (hn : n ≤ 16) (b off len cap : Nat) (z : Nat → Int) (hz : rowAt r b off (2 * len) z) (hl : len ≤ 1000000) (k : Nat) (hk : k < len) (g g' : List Value) (x y : Int) (hx : okAt n z k = true → x = ea z k ∧ y = eb z k) (s : List (Nat × Value)) (kn : KS) (kx : Nat → KS) (kr : KS) (R : CR)
  (hF : okAt n z k = false → ∀ s, kr s (TGq n (RS2 b off len cap) len k (ea z k) (eb z k) 40 k) [] (ARd2 g (ea z k) (eb z k)) = R)
  (hT : okAt n z k = true → ∀ s, kn s (TGq n (RS2 b off len cap) len k (ea z k) (eb z k) 0 ((k + 1 : Nat) : Int)) [] (AJe g' (ea z k) (eb z k)) = R) :
  run (SC r) 7342067 64 L (ic (ic (rc (lc (rc (rc (rc cGp))))))) (lvlT (SC r) (tGp g g' x y) .nil 4 4) none kn kx kr s (TGp n (RS2 b off len cap) len k) [] (AGp g) = R := by
 rw [gpB]
 have c1 : (k : Int) < Int.ofNat len := by simp; omega
 have c2 : 0 ≤ (k : Int) := by omega
 have c3 : Nat.blt k len = true := Nat.ble_eq_true_of_le (by omega)
 have l0 : r b (Nat.add off (Nat.mul k 2)) = some (I (ea z k)) := by
  have := hz (2 * k) (by omega)
  rw [show Nat.add off (Nat.mul k 2) = off + 2 * k by simp [Nat.mul_comm]]
  exact this
 have l1 : r b (Nat.succ (Nat.add off (Nat.mul k 2))) = some (I (eb z k)) := by
  have := hz (2 * k + 1) (by omega)
  rw [show Nat.succ (Nat.add off (Nat.mul k 2)) = off + (2 * k + 1) by simp [Nat.mul_comm]; omega]
  exact this
 have w : IntKind.wrap IntKind.i64 ((k : Int) + Int.ofNat 1) = ((k + 1 : Nat) : Int) := by rw [wrI (by simp; omega)]; simp
 have ii : ∀ x, isI IntKind.i64 (I x) = true := fun _ => rfl
 have oo : ∀ x, ofI (I x) = x := fun _ => rfl
 rw [dT c1, cond_true, dT c2, cond_true, Int.toNat_natCast, c3, cond_true, l0]
 dsimp only
 rw [ii, cond_true, l1]
 dsimp only
 rw [ii, cond_true]
 simp only [oo]
 by_cases d1 : ea z k < 0
 ·rw [dT d1, cond_true]
  exact hF (by simp [okAt, show ¬ 0 ≤ ea z k by omega]) _
 ·rw [dF d1, cond_false]
  by_cases d2 : ea z k ≥ eb z k
  ·rw [dT d2, cond_true]
   exact hF (by simp [okAt, show ¬ ea z k < eb z k by omega]) _
  ·rw [dF d2, cond_false]
   by_cases d3 : eb z k ≥ n
   ·rw [dT d3, cond_true]
    exact hF (by simp [okAt, show ¬ eb z k < n by omega]) _
   ·rw [dF d3, cond_false]
    have b1 : 0 ≤ ea z k := by omega
    have b2 : ea z k < eb z k := by omega
    have b3 : eb z k < n := by omega
    have g1 : m_vG (ea z k) = true := by simp [m_vG]; omega
    have g2 : m_vG (eb z k) = true := by simp [m_vG]; omega
    by_cases d4 : (k : Int) > 0
    ·have w1 : IntKind.wrap IntKind.i64 ((k : Int) - Int.ofNat 1) = ((k - 1 : Nat) : Int) := by rw [wrI (by simp; omega)]; simp; omega
     have c4 : 0 ≤ ((k - 1 : Nat) : Int) := by omega
     have c5 : Nat.blt (k - 1) len = true := Nat.ble_eq_true_of_le (by omega)
     have p0 : r b (Nat.add (Nat.add off (Nat.mul (k - 1) 2)) 0) = some (I (ea z (k - 1))) := by
      have := hz (2 * (k - 1)) (by omega)
      rw [show Nat.add (Nat.add off (Nat.mul (k - 1) 2)) 0 = off + 2 * (k - 1) by simp [Nat.mul_comm]]
      exact this
     have p1 : r b (Nat.add (Nat.add off (Nat.mul (k - 1) 2)) 1) = some (I (eb z (k - 1))) := by
      have := hz (2 * (k - 1) + 1) (by omega)
      rw [show Nat.add (Nat.add off (Nat.mul (k - 1) 2)) 1 = off + (2 * (k - 1) + 1) by simp [Nat.mul_comm]; omega]
      exact this
     have k0 : (k == 0) = false := by simp; omega
     have v := veq_ro b (Nat.add off (Nat.mul (k - 1) 2)) 2 2
     rw [dT d4, cond_true, w1, dT c4, cond_true, Int.toNat_natCast, c5, cond_true, p0]
     dsimp only
     rw [ii, cond_true, oo]
     rcases cmp_cases (ea z (k - 1)) (ea z k) with ⟨q1, q2⟩ | ⟨q1, q2⟩ | ⟨q1, q2⟩
     ·have hok : okAt n z k = true := by simp [okAt, k0, b1, b2, b3]; omega
      obtain ⟨rfl, rfl⟩ := hx hok
      rw [q2, neT (show (-1 : Int) ≠ Int.ofNat 0 by decide), cond_true, dF (show ¬ (-1 : Int) ≥ 0 by decide), cond_false, v, cond_true, g1, cond_true, g2, cond_true, show m_at _ _ _ _ = true from at_rfl _ _, cond_true, w]
      exact hT hok _
     ·rw [q2, neF (show (0 : Int) = Int.ofNat 0 from rfl), cond_false, p1]
      dsimp only
      rw [ii, cond_true, oo]
      rcases cmp_cases (eb z (k - 1)) (eb z k) with ⟨x1, x2⟩ | ⟨x1, x2⟩ | ⟨x1, x2⟩
      ·have hok : okAt n z k = true := by simp [okAt, k0, b1, b2, b3]; omega
       obtain ⟨rfl, rfl⟩ := hx hok
       rw [x2, neT (show (-1 : Int) ≠ Int.ofNat 0 by decide), cond_true, dF (show ¬ (-1 : Int) ≥ 0 by decide), cond_false, v, cond_true, g1, cond_true, g2, cond_true, show m_at _ _ _ _ = true from at_rfl _ _, cond_true, w]
       exact hT hok _
      ·rw [x2, neF (show (0 : Int) = Int.ofNat 0 from rfl), cond_false, v, cond_true]
       exact hF (by simp [okAt, k0]; omega) _
      ·rw [x2, neT (show (1 : Int) ≠ Int.ofNat 0 by decide), cond_true, dT (show (1 : Int) ≥ 0 by decide), cond_true, v, cond_true]
       exact hF (by simp [okAt, k0]; omega) _
     ·rw [q2, neT (show (1 : Int) ≠ Int.ofNat 0 by decide), cond_true, dT (show (1 : Int) ≥ 0 by decide), cond_true, v, cond_true]
      exact hF (by simp [okAt, k0]; omega) _
    ·have k0 : k = 0 := by omega
     have hok : okAt n z k = true := by subst k0; simp [okAt, b1, b2, b3]
     obtain ⟨rfl, rfl⟩ := hx hok
     rw [dF d4, cond_false, g1, cond_true, g2, cond_true, show m_at _ _ _ _ = true from at_rfl _ _, cond_true, w]
     exact hT hok _
end Go.Proofs
namespace Go.Proofs
open Go Go.Ev Go.Num
def nbz (z : Nat → Int) : Nat → List Int
 | 0 => List.replicate 16 0
 | k + 1 => jnZ (nbz z k) (ea z k).toNat (eb z k).toNat
theorem nbz_len (z : Nat → Int) : ∀ k, (nbz z k).length = 16
 | 0 => List.length_replicate ..
 | k + 1 => by rw [nbz, jnZ, addB_len, addB_len]; exact nbz_len z k
theorem tGp_ok (r : Mem) (hm : ∀ b j u, tabM b j = some u → r b j = some u) (n : Int) (zs : List Int) (hl : zs.length = 16) (i j : Fin 16) : TOk (SC r) (tGp (m_g n zs) (m_g n (jnZ zs i.val j.val)) (i.val : Int) (j.val : Int)) :=
 TOk.cons (TOk.cons (TOk.cons TOk.nil (entAt_ok fun F hF k γ W args' hw hR ha => by
  rw [bit_of, bit_of] at ha
  exact join_calls r hm n zs hl i j _ _ F hF k γ W args' hw hR ha)) (eI1_ok fun v h => single_ok r v h)) (eI2_ok fun a b _ => cmp_ok r a b)
section
variable {r : Mem} {W0 : World} {n : Int} {b off len cap : Nat} {z : Nat → Int}
def TGe (e : Int) : Tr Value := (Tr.nil.put 4 (some (.pointer (some ⟨0, 0, none⟩)))).put 5 (some (I e))
def AGe (g : List Value) : AW := AW.mk 1 (Tr.node Tr.nil (some (.cells g 103 0 0)) Tr.nil) Tr.nil
inductive GpSt (n : Int) (sl : Value) (len : Nat) (z : Nat → Int) (V : Bool) : Nat → St → Prop
 | mk {k : Nat} (hk : k ≤ len) (hV : okFrom n z (len - k) k = V) : GpSt n sl len z V (len - k) ⟨⟨[], TGp n sl len k⟩, [], AGp (m_g n (nbz z k))⟩
def GpQ (n : Int) (sl : Value) (len : Nat) (z : Nat → Int) (V : Bool) : Exit → St → Prop
 | .exit id, st => id = 0 ∧ V = true ∧ ∃ st1, Ren (SC r) 7342067 64 noG W0 st st1 ∧ st1 = ⟨⟨[], TGp n sl len len⟩, [], AGp (m_g n (nbz z len))⟩
 | .ret, st => V = false ∧ ∃ st1, Ren (SC r) 7342067 64 noG W0 st st1 ∧ st1 = ⟨⟨[], TGe 40⟩, [], AGe resG⟩
 | _, _ => False
theorem ren_gp1 (s : List (Nat × Value)) (n : Int) (b off len' cap : Nat) (len : Nat) (k a c e i : Int) (g : List Value) (hg : ∀ v ∈ g, gnd v = true) : Ren (SC r) 7342067 64 noG W0 ⟨⟨s, TGq n (RS2 b off len' cap) len k a c 0 i⟩, [], AJe g a c⟩ ⟨⟨[], TGp n (RS2 b off len' cap) len i⟩, [], AGp g⟩ := by
 refine Ren.of (fun i => i) 0 rfl (fun _ _ => rfl) (Nat.zero_le _) (fun i hi => absurd hi (Nat.not_lt_zero i)) ?_ rfl ?_ trivial
 ·simp only [Tr.All, TGp, Tr.put]
  repeat' (first | exact trivial | apply And.intro)
  all_goals exact ⟨_, rfl, rfl⟩
 ·simp only [Tr.All, AGp, resG]
  repeat' (first | exact trivial | apply And.intro)
  all_goals first | rfl | exact .head _ | exact ⟨_, rfl, .cells rfl⟩ | exact ⟨_, rfl, .plain (hg)⟩ | skip
theorem ren_gp2 (s : List (Nat × Value)) (n : Int) (b off len' cap : Nat) (len : Nat) (k a c e i : Int) (g : List Value) : Ren (SC r) 7342067 64 noG W0 ⟨⟨s, TGq n (RS2 b off len' cap) len k a c e i⟩, [], ARd2 g a c⟩ ⟨⟨[], TGe e⟩, [], AGe resG⟩ := by
 refine Ren.of (fun i => i) 0 rfl (fun _ _ => rfl) (Nat.zero_le _) (fun i hi => absurd hi (Nat.not_lt_zero i)) ?_ rfl ?_ trivial
 ·simp only [Tr.All, TGe, Tr.put]
  repeat' (first | exact trivial | apply And.intro)
  all_goals exact ⟨_, rfl, rfl⟩
 ·simp only [Tr.All, AGe, resG]
  repeat' (first | exact trivial | apply And.intro)
  all_goals first | rfl | exact .head _ | exact ⟨_, rfl, .cells rfl⟩ | exact ⟨_, rfl, .plain (fun _ _ => rfl)⟩ | skip
theorem ren_gp3 (s : List (Nat × Value)) (n : Int) (b off len' cap : Nat) (len : Nat) (i : Int) (g : List Value) (hg : ∀ v ∈ g, gnd v = true) : Ren (SC r) 7342067 64 noG W0 ⟨⟨s, TGp n (RS2 b off len' cap) len i⟩, [], AGp g⟩ ⟨⟨[], TGp n (RS2 b off len' cap) len i⟩, [], AGp g⟩ := by
 refine Ren.of (fun i => i) 0 rfl (fun _ _ => rfl) (Nat.zero_le _) (fun i hi => absurd hi (Nat.not_lt_zero i)) ?_ rfl ?_ trivial
 ·simp only [Tr.All, TGp, Tr.put]
  repeat' (first | exact trivial | apply And.intro)
  all_goals exact ⟨_, rfl, rfl⟩
 ·simp only [Tr.All, AGp, resG]
  repeat' (first | exact trivial | apply And.intro)
  all_goals first | rfl | exact .head _ | exact ⟨_, rfl, .cells rfl⟩ | exact ⟨_, rfl, .plain (hg)⟩ | skip
theorem gp_body (hm : ∀ b j u, tabM b j = some u → r b j = some u) (hn : n ≤ 16) (hz : rowAt r b off (2 * len) z) (hl : len ≤ 1000000) {V : Bool} {F : Fence} {k' : Nat} (hF : Wide F) (hro : F.round = none) {j : Nat} {st : St} (hs : GpSt n (RS2 b off len cap) len z V j st) :
  Go.Ev.Reach (SC r) 7342067 64 F k' noG W0 (ic (ic (rc (lc (rc (rc (rc cGp))))))) st fun ex st' => match ex with
   | .normal => ∃ j', j' < j ∧ ∃ st1, Ren (SC r) 7342067 64 noG W0 st' st1 ∧ GpSt n (RS2 b off len cap) len z V j' st1
   | ex => GpQ (r := r) (W0 := W0) n (RS2 b off len cap) len z V ex st' := by
 cases hs with
 | mk hk hV =>
  rename_i k
  by_cases c : k < len
  ·have e : len - k = (len - (k + 1)) + 1 := by omega
   rw [e, okFrom] at hV
   obtain ⟨i, j, hij⟩ : ∃ i j : Fin 16, okAt n z k = true → (i.val : Int) = ea z k ∧ (j.val : Int) = eb z k := by
    by_cases ho : okAt n z k = true
    ·have := ho
     simp only [okAt, Bool.and_eq_true, decide_eq_true_eq] at this
     exact ⟨⟨(ea z k).toNat, by omega⟩, ⟨(eb z k).toNat, by omega⟩, fun _ => ⟨by show ((ea z k).toNat : Int) = _; omega, by show ((eb z k).toNat : Int) = _; omega⟩⟩
    ·exact ⟨0, 0, fun h => absurd h ho⟩
   refine Go.Ev.Reach.seg (SC_ok r) (tGp_ok r hm n (nbz z k) (nbz_len z k) i j) (tm := .nil) (L := 1) (L' := 4) (d := 4) hF hro ?_
   refine gp_round r _ n hn b off len cap z hz hl k c _ _ _ _ hij _ _ _ _ _ (fun ho s => ?_) (fun ho s => ?_)
   ·rw [ho, Bool.false_and] at hV
    exact qn_ok ⟨hV.symm, _, ren_gp2 s n b off len cap len k _ _ 40 k _, rfl⟩
   ·rw [ho, Bool.true_and] at hV
    obtain ⟨h1, h2⟩ := hij ho
    have e1 : i.val = (ea z k).toNat := by omega
    have e2 : j.val = (eb z k).toNat := by omega
    refine qn_ok ⟨len - (k + 1), by omega, _, ren_gp1 s n b off len cap len k _ _ 0 _ _ (g_gnd _ _), ?_⟩
    have := GpSt.mk (n := n) (sl := RS2 b off len cap) (z := z) (k := k + 1) (by omega) hV
    rw [nbz, ← e1, ← e2] at this
    exact this
  ·have hkl : k = len := by omega
   subst hkl
   have c1 : ¬ (k : Int) < Int.ofNat k := by simp
   rw [Nat.sub_self, okFrom] at hV
   refine Go.Ev.Reach.seg (SC_ok r) (tGp_ok r hm n (nbz z k) (nbz_len z k) 0 0) (tm := .nil) (L := 1) (L' := 4) (d := 4) hF hro ?_
   rw [gpB, dF c1, cond_false]
   exact qn_ok ⟨rfl, hV.symm, _, ren_gp3 _ n b off k cap k k _ (g_gnd _ _), rfl⟩
end
end Go.Proofs
namespace Go.Proofs
open Go Go.Ev Go.Num
def TG0 (n : Int) (b off len cap : Nat) : Tr Value := ((tr0 7342067 [I n, RS2 b off len cap]).put 4 (some (.pointer (some ⟨0, 0, none⟩)))).put 5 (some (I 0))
theorem gpP1 (r : Mem) (L : Nat) (fs : FnsC) (n : Int) (b off len cap : Nat) (kn : KS) (kx : Nat → KS) (kr : KS) : run (SC r) 7342067 64 L (lc cGp) fs none kn kx kr (sc0 7342067 [I n, RS2 b off len cap]) (tr0 7342067 [I n, RS2 b off len cap]) [] emptyA =
    kn [] (Tr.node (Tr.node Tr.nil (some (Value.slice (some (Addr.mk b off (some 0))) len cap)) (Tr.node Tr.nil (some (Value.int IntKind.i64 (Int.ofNat 0))) Tr.nil)) (some (Value.int IntKind.i64 n)) (Tr.node (Tr.node Tr.nil (some (Value.pointer (some (Addr.mk 0 0 none)))) Tr.nil) none Tr.nil)) [] (AW.mk 1 (Tr.node Tr.nil (some (AObj.cells [Value.int IntKind.i64 (Int.ofNat 0), Value.int IntKind.u64 (Int.ofNat 0), Value.int IntKind.u64 (Int.ofNat 0), Value.int IntKind.u64 (Int.ofNat 0), Value.int IntKind.u64 (Int.ofNat 0), Value.int IntKind.u64 (Int.ofNat 0), Value.int IntKind.u64 (Int.ofNat 0), Value.int IntKind.u64 (Int.ofNat 0), Value.int IntKind.u64 (Int.ofNat 0), Value.int IntKind.u64 (Int.ofNat 0), Value.int IntKind.u64 (Int.ofNat 0), Value.int IntKind.u64 (Int.ofNat 0), Value.int IntKind.u64 (Int.ofNat 0), Value.int IntKind.u64 (Int.ofNat 0), Value.int IntKind.u64 (Int.ofNat 0), Value.int IntKind.u64 (Int.ofNat 0), Value.int IntKind.u64 (Int.ofNat 0)] 103 0 0)) Tr.nil) Tr.nil) := by kernel_rfl
theorem gpP2 (r : Mem) (L : Nat) (fs : FnsC) (n : Int) (b off len cap : Nat) (s : List (Nat × Value)) (kn : KS) (kx : Nat → KS) (kr : KS) : run (SC r) 7342067 64 L (lc (rc cGp)) fs none kn kx kr s (TG0 n b off len cap) [] (AGe resG) =
    bif decide (n < 1) then kr [(17, Value.agg (Array.mk [Value.int IntKind.i64 (Int.ofNat 0), Value.int IntKind.u64 (Int.ofNat 0), Value.int IntKind.u64 (Int.ofNat 0), Value.int IntKind.u64 (Int.ofNat 0), Value.int IntKind.u64 (Int.ofNat 0), Value.int IntKind.u64 (Int.ofNat 0), Value.int IntKind.u64 (Int.ofNat 0), Value.int IntKind.u64 (Int.ofNat 0), Value.int IntKind.u64 (Int.ofNat 0), Value.int IntKind.u64 (Int.ofNat 0), Value.int IntKind.u64 (Int.ofNat 0), Value.int IntKind.u64 (Int.ofNat 0), Value.int IntKind.u64 (Int.ofNat 0), Value.int IntKind.u64 (Int.ofNat 0), Value.int IntKind.u64 (Int.ofNat 0), Value.int IntKind.u64 (Int.ofNat 0), Value.int IntKind.u64 (Int.ofNat 0)]))] (Tr.node (Tr.node Tr.nil (some (Value.slice (some (Addr.mk b off (some 0))) len cap)) (Tr.node Tr.nil (some (Value.int IntKind.i64 (Int.ofNat 1))) Tr.nil)) (some (Value.int IntKind.i64 n)) (Tr.node (Tr.node Tr.nil (some (Value.pointer (some (Addr.mk 0 0 none)))) Tr.nil) none Tr.nil)) [] (AW.mk 1 (Tr.node Tr.nil (some (AObj.cells [Value.int IntKind.i64 (Int.ofNat 0), Value.int IntKind.u64 (Int.ofNat 0), Value.int IntKind.u64 (Int.ofNat 0), Value.int IntKind.u64 (Int.ofNat 0), Value.int IntKind.u64 (Int.ofNat 0), Value.int IntKind.u64 (Int.ofNat 0), Value.int IntKind.u64 (Int.ofNat 0), Value.int IntKind.u64 (Int.ofNat 0), Value.int IntKind.u64 (Int.ofNat 0), Value.int IntKind.u64 (Int.ofNat 0), Value.int IntKind.u64 (Int.ofNat 0), Value.int IntKind.u64 (Int.ofNat 0), Value.int IntKind.u64 (Int.ofNat 0), Value.int IntKind.u64 (Int.ofNat 0), Value.int IntKind.u64 (Int.ofNat 0), Value.int IntKind.u64 (Int.ofNat 0), Value.int IntKind.u64 (Int.ofNat 0)] 103 0 0)) Tr.nil) Tr.nil) else bif decide (n > 16) then kr [(17, Value.agg (Array.mk [Value.int IntKind.i64 (Int.ofNat 0), Value.int IntKind.u64 (Int.ofNat 0), Value.int IntKind.u64 (Int.ofNat 0), Value.int IntKind.u64 (Int.ofNat 0), Value.int IntKind.u64 (Int.ofNat 0), Value.int IntKind.u64 (Int.ofNat 0), Value.int IntKind.u64 (Int.ofNat 0), Value.int IntKind.u64 (Int.ofNat 0), Value.int IntKind.u64 (Int.ofNat 0), Value.int IntKind.u64 (Int.ofNat 0), Value.int IntKind.u64 (Int.ofNat 0), Value.int IntKind.u64 (Int.ofNat 0), Value.int IntKind.u64 (Int.ofNat 0), Value.int IntKind.u64 (Int.ofNat 0), Value.int IntKind.u64 (Int.ofNat 0), Value.int IntKind.u64 (Int.ofNat 0), Value.int IntKind.u64 (Int.ofNat 0)]))] (Tr.node (Tr.node Tr.nil (some (Value.slice (some (Addr.mk b off (some 0))) len cap)) (Tr.node Tr.nil (some (Value.int IntKind.i64 (Int.ofNat 1))) Tr.nil)) (some (Value.int IntKind.i64 n)) (Tr.node (Tr.node Tr.nil (some (Value.pointer (some (Addr.mk 0 0 none)))) Tr.nil) none Tr.nil)) [] (AW.mk 1 (Tr.node Tr.nil (some (AObj.cells [Value.int IntKind.i64 (Int.ofNat 0), Value.int IntKind.u64 (Int.ofNat 0), Value.int IntKind.u64 (Int.ofNat 0), Value.int IntKind.u64 (Int.ofNat 0), Value.int IntKind.u64 (Int.ofNat 0), Value.int IntKind.u64 (Int.ofNat 0), Value.int IntKind.u64 (Int.ofNat 0), Value.int IntKind.u64 (Int.ofNat 0), Value.int IntKind.u64 (Int.ofNat 0), Value.int IntKind.u64 (Int.ofNat 0), Value.int IntKind.u64 (Int.ofNat 0), Value.int IntKind.u64 (Int.ofNat 0), Value.int IntKind.u64 (Int.ofNat 0), Value.int IntKind.u64 (Int.ofNat 0), Value.int IntKind.u64 (Int.ofNat 0), Value.int IntKind.u64 (Int.ofNat 0), Value.int IntKind.u64 (Int.ofNat 0)] 103 0 0)) Tr.nil) Tr.nil) else kn [(16, Value.bool false), (15, Value.bool false), (14, Value.int IntKind.i64 n), (13, Value.bool false), (12, Value.bool false), (11, Value.int IntKind.i64 n)] (Tr.node (Tr.node Tr.nil (some (Value.slice (some (Addr.mk b off (some 0))) len cap)) (Tr.node Tr.nil (some (Value.int IntKind.i64 (Int.ofNat 0))) Tr.nil)) (some (Value.int IntKind.i64 n)) (Tr.node (Tr.node Tr.nil (some (Value.pointer (some (Addr.mk 0 0 none)))) Tr.nil) none Tr.nil)) [] (AW.mk 1 (Tr.node Tr.nil (some (AObj.cells [Value.int IntKind.i64 (Int.ofNat 0), Value.int IntKind.u64 (Int.ofNat 0), Value.int IntKind.u64 (Int.ofNat 0), Value.int IntKind.u64 (Int.ofNat 0), Value.int IntKind.u64 (Int.ofNat 0), Value.int IntKind.u64 (Int.ofNat 0), Value.int IntKind.u64 (Int.ofNat 0), Value.int IntKind.u64 (Int.ofNat 0), Value.int IntKind.u64 (Int.ofNat 0), Value.int IntKind.u64 (Int.ofNat 0), Value.int IntKind.u64 (Int.ofNat 0), Value.int IntKind.u64 (Int.ofNat 0), Value.int IntKind.u64 (Int.ofNat 0), Value.int IntKind.u64 (Int.ofNat 0), Value.int IntKind.u64 (Int.ofNat 0), Value.int IntKind.u64 (Int.ofNat 0), Value.int IntKind.u64 (Int.ofNat 0)] 103 0 0)) Tr.nil) Tr.nil) := by kernel_rfl
theorem gpP3 (r : Mem) (L : Nat) (fs : FnsC) (n : Int) (b off len cap : Nat) (s : List (Nat × Value)) (kn : KS) (kx : Nat → KS) (kr : KS) : run (SC r) 7342067 64 L (lc (rc (rc cGp))) fs none kn kx kr s (TG0 n b off len cap) [] (AGe resG) =
    kn [(19, Value.agg (Array.mk [Value.int IntKind.i64 n, Value.int IntKind.u64 (Int.ofNat 0), Value.int IntKind.u64 (Int.ofNat 0), Value.int IntKind.u64 (Int.ofNat 0), Value.int IntKind.u64 (Int.ofNat 0), Value.int IntKind.u64 (Int.ofNat 0), Value.int IntKind.u64 (Int.ofNat 0), Value.int IntKind.u64 (Int.ofNat 0), Value.int IntKind.u64 (Int.ofNat 0), Value.int IntKind.u64 (Int.ofNat 0), Value.int IntKind.u64 (Int.ofNat 0), Value.int IntKind.u64 (Int.ofNat 0), Value.int IntKind.u64 (Int.ofNat 0), Value.int IntKind.u64 (Int.ofNat 0), Value.int IntKind.u64 (Int.ofNat 0), Value.int IntKind.u64 (Int.ofNat 0), Value.int IntKind.u64 (Int.ofNat 0)])), (18, Value.int IntKind.i64 n)] (Tr.node (Tr.node Tr.nil (some (Value.slice (some (Addr.mk b off (some 0))) len cap)) (Tr.node Tr.nil (some (Value.int IntKind.i64 (Int.ofNat 0))) Tr.nil)) (some (Value.int IntKind.i64 n)) (Tr.node (Tr.node Tr.nil (some (Value.pointer (some (Addr.mk 0 0 none)))) Tr.nil) none (Tr.node Tr.nil (some (Value.pointer (some (Addr.mk 1 0 none)))) Tr.nil))) [] (AW.mk 2 (Tr.node (Tr.node Tr.nil (some (AObj.cells [Value.int IntKind.i64 n, Value.int IntKind.u64 (Int.ofNat 0), Value.int IntKind.u64 (Int.ofNat 0), Value.int IntKind.u64 (Int.ofNat 0), Value.int IntKind.u64 (Int.ofNat 0), Value.int IntKind.u64 (Int.ofNat 0), Value.int IntKind.u64 (Int.ofNat 0), Value.int IntKind.u64 (Int.ofNat 0), Value.int IntKind.u64 (Int.ofNat 0), Value.int IntKind.u64 (Int.ofNat 0), Value.int IntKind.u64 (Int.ofNat 0), Value.int IntKind.u64 (Int.ofNat 0), Value.int IntKind.u64 (Int.ofNat 0), Value.int IntKind.u64 (Int.ofNat 0), Value.int IntKind.u64 (Int.ofNat 0), Value.int IntKind.u64 (Int.ofNat 0), Value.int IntKind.u64 (Int.ofNat 0)] 103 1 0)) Tr.nil) (some (AObj.cells [Value.int IntKind.i64 (Int.ofNat 0), Value.int IntKind.u64 (Int.ofNat 0), Value.int IntKind.u64 (Int.ofNat 0), Value.int IntKind.u64 (Int.ofNat 0), Value.int IntKind.u64 (Int.ofNat 0), Value.int IntKind.u64 (Int.ofNat 0), Value.int IntKind.u64 (Int.ofNat 0), Value.int IntKind.u64 (Int.ofNat 0), Value.int IntKind.u64 (Int.ofNat 0), Value.int IntKind.u64 (Int.ofNat 0), Value.int IntKind.u64 (Int.ofNat 0), Value.int IntKind.u64 (Int.ofNat 0), Value.int IntKind.u64 (Int.ofNat 0), Value.int IntKind.u64 (Int.ofNat 0), Value.int IntKind.u64 (Int.ofNat 0), Value.int IntKind.u64 (Int.ofNat 0), Value.int IntKind.u64 (Int.ofNat 0)] 103 0 0)) Tr.nil) Tr.nil) := by kernel_rfl
theorem gpP4 (r : Mem) (L : Nat) (fs : FnsC) (n : Int) (b off len cap : Nat) (s : List (Nat × Value)) (kn : KS) (kx : Nat → KS) (kr : KS) : run (SC r) 7342067 64 L (lc (lc (rc (rc (rc cGp))))) fs none kn kx kr s ((TG0 n b off len cap).put 6 (some (.pointer (some ⟨1, 0, none⟩)))) [] (AGp (m_g n (List.replicate 16 0))) =
    kn [] (Tr.node (Tr.node Tr.nil (some (Value.slice (some (Addr.mk b off (some 0))) len cap)) (Tr.node Tr.nil (some (Value.int IntKind.i64 (Int.ofNat 0))) (Tr.node (Tr.node Tr.nil (some (Value.int IntKind.i64 (Int.ofNat len))) Tr.nil) none Tr.nil))) (some (Value.int IntKind.i64 n)) (Tr.node (Tr.node Tr.nil (some (Value.pointer (some (Addr.mk 0 0 none)))) (Tr.node (Tr.node Tr.nil (some (Value.slice (some (Addr.mk b off (some 0))) len cap)) Tr.nil) none Tr.nil)) none (Tr.node Tr.nil (some (Value.pointer (some (Addr.mk 1 0 none)))) (Tr.node (Tr.node Tr.nil (some (Value.int IntKind.i64 (Int.ofNat 0))) Tr.nil) none Tr.nil)))) [] (AW.mk 2 (Tr.node (Tr.node Tr.nil (some (AObj.cells [Value.int IntKind.i64 n, Value.int IntKind.u64 (Int.ofNat 0), Value.int IntKind.u64 (Int.ofNat 0), Value.int IntKind.u64 (Int.ofNat 0), Value.int IntKind.u64 (Int.ofNat 0), Value.int IntKind.u64 (Int.ofNat 0), Value.int IntKind.u64 (Int.ofNat 0), Value.int IntKind.u64 (Int.ofNat 0), Value.int IntKind.u64 (Int.ofNat 0), Value.int IntKind.u64 (Int.ofNat 0), Value.int IntKind.u64 (Int.ofNat 0), Value.int IntKind.u64 (Int.ofNat 0), Value.int IntKind.u64 (Int.ofNat 0), Value.int IntKind.u64 (Int.ofNat 0), Value.int IntKind.u64 (Int.ofNat 0), Value.int IntKind.u64 (Int.ofNat 0), Value.int IntKind.u64 (Int.ofNat 0)] 103 1 0)) Tr.nil) (some (AObj.cells [Value.int IntKind.i64 (Int.ofNat 0), Value.int IntKind.u64 (Int.ofNat 0), Value.int IntKind.u64 (Int.ofNat 0), Value.int IntKind.u64 (Int.ofNat 0), Value.int IntKind.u64 (Int.ofNat 0), Value.int IntKind.u64 (Int.ofNat 0), Value.int IntKind.u64 (Int.ofNat 0), Value.int IntKind.u64 (Int.ofNat 0), Value.int IntKind.u64 (Int.ofNat 0), Value.int IntKind.u64 (Int.ofNat 0), Value.int IntKind.u64 (Int.ofNat 0), Value.int IntKind.u64 (Int.ofNat 0), Value.int IntKind.u64 (Int.ofNat 0), Value.int IntKind.u64 (Int.ofNat 0), Value.int IntKind.u64 (Int.ofNat 0), Value.int IntKind.u64 (Int.ofNat 0), Value.int IntKind.u64 (Int.ofNat 0)] 103 0 0)) Tr.nil) Tr.nil) := by kernel_rfl
theorem gpT (r : Mem) (L : Nat) (fs : FnsC) (n : Int) (sl : Value) (len : Nat) (i : Int) (z0 z1 z2 z3 z4 z5 z6 z7 z8 z9 z10 z11 z12 z13 z14 z15 : Int) (s : List (Nat × Value)) (kn : KS) (kx : Nat → KS) (kr : KS) : run (SC r) 7342067 64 L (rc (rc (rc (rc cGp)))) fs none kn kx kr s (TGp n sl len i) [] (AGp (m_g n [z0, z1, z2, z3, z4, z5, z6, z7, z8, z9, z10, z11, z12, z13, z14, z15])) =
    kr [(63, Value.agg (Array.mk [Value.int IntKind.i64 n, Value.int IntKind.u64 z0, Value.int IntKind.u64 z1, Value.int IntKind.u64 z2, Value.int IntKind.u64 z3, Value.int IntKind.u64 z4, Value.int IntKind.u64 z5, Value.int IntKind.u64 z6, Value.int IntKind.u64 z7, Value.int IntKind.u64 z8, Value.int IntKind.u64 z9, Value.int IntKind.u64 z10, Value.int IntKind.u64 z11, Value.int IntKind.u64 z12, Value.int IntKind.u64 z13, Value.int IntKind.u64 z14, Value.int IntKind.u64 z15]))] (Tr.node (Tr.node Tr.nil (some sl) (Tr.node Tr.nil (some (Value.int IntKind.i64 (Int.ofNat 0))) (Tr.node (Tr.node Tr.nil (some (Value.int IntKind.i64 (Int.ofNat len))) Tr.nil) none Tr.nil))) (some (Value.int IntKind.i64 n)) (Tr.node (Tr.node Tr.nil (some (Value.pointer (some (Addr.mk 0 0 none)))) (Tr.node (Tr.node Tr.nil (some sl) Tr.nil) none Tr.nil)) none (Tr.node Tr.nil (some (Value.pointer (some (Addr.mk 1 0 none)))) (Tr.node (Tr.node Tr.nil (some (Value.int IntKind.i64 i)) Tr.nil) none Tr.nil)))) [] (AW.mk 2 (Tr.node (Tr.node Tr.nil (some (AObj.cells [Value.int IntKind.i64 n, Value.int IntKind.u64 z0, Value.int IntKind.u64 z1, Value.int IntKind.u64 z2, Value.int IntKind.u64 z3, Value.int IntKind.u64 z4, Value.int IntKind.u64 z5, Value.int IntKind.u64 z6, Value.int IntKind.u64 z7, Value.int IntKind.u64 z8, Value.int IntKind.u64 z9, Value.int IntKind.u64 z10, Value.int IntKind.u64 z11, Value.int IntKind.u64 z12, Value.int IntKind.u64 z13, Value.int IntKind.u64 z14, Value.int IntKind.u64 z15] 103 1 0)) Tr.nil) (some (AObj.cells [Value.int IntKind.i64 n, Value.int IntKind.u64 z0, Value.int IntKind.u64 z1, Value.int IntKind.u64 z2, Value.int IntKind.u64 z3, Value.int IntKind.u64 z4, Value.int IntKind.u64 z5, Value.int IntKind.u64 z6, Value.int IntKind.u64 z7, Value.int IntKind.u64 z8, Value.int IntKind.u64 z9, Value.int IntKind.u64 z10, Value.int IntKind.u64 z11, Value.int IntKind.u64 z12, Value.int IntKind.u64 z13, Value.int IntKind.u64 z14, Value.int IntKind.u64 z15] 103 0 0)) Tr.nil) Tr.nil) := by kernel_rfl
end Go.Proofs
namespace Go.Proofs
open Go Go.Ev Go.Num
def m_rdg (n : Int) (z : Nat → Int) (len : Nat) : List Value := if ckG n z len = 0 then m_g n (nbz z len) else resG
theorem list16 {zs : List Int} (h : zs.length = 16) : ∃ z0 z1 z2 z3 z4 z5 z6 z7 z8 z9 z10 z11 z12 z13 z14 z15, zs = [z0, z1, z2, z3, z4, z5, z6, z7, z8, z9, z10, z11, z12, z13, z14, z15] := by
 match zs, h with
 | [z0, z1, z2, z3, z4, z5, z6, z7, z8, z9, z10, z11, z12, z13, z14, z15], _ => exact ⟨_, _, _, _, _, _, _, _, _, _, _, _, _, _, _, _, rfl⟩
theorem fin_g (r : Mem) (n : Int) (zs : List Int) (h : zs.length = 16) (e : Int) : finish (SC r) 7342067 [.cell 4 103, .tmp 5] ⟨⟨[], TGe e⟩, [], AGe (m_g n zs)⟩ = .ret (.tuple ⟨[.agg ⟨m_g n zs⟩, I e]⟩) (AGe (m_g n zs)) := by
 obtain ⟨z0, z1, z2, z3, z4, z5, z6, z7, z8, z9, z10, z11, z12, z13, z14, z15, rfl⟩ := list16 h
 kernel_rfl
theorem fin_r (r : Mem) (e : Int) : finish (SC r) 7342067 [.cell 4 103, .tmp 5] ⟨⟨[], TGe e⟩, [], AGe resG⟩ = .ret (.tuple ⟨[.agg ⟨resG⟩, I e]⟩) (AGe resG) := by kernel_rfl
theorem rdg_gnd (n : Int) (z : Nat → Int) (len : Nat) (e : Int) : gnd (.tuple ⟨[.agg ⟨m_rdg n z len⟩, I e]⟩) = true := by
 unfold m_rdg
 split
 ·obtain ⟨z0, z1, z2, z3, z4, z5, z6, z7, z8, z9, z10, z11, z12, z13, z14, z15, h⟩ := list16 (nbz_len z len)
  rw [h]; rfl
 ·rfl
theorem cGp_eq : cGp = .seq (lc cGp) (.seq (lc (rc cGp)) (.seq (lc (rc (rc cGp))) (.seq (.seq (lc (lc (rc (rc (rc cGp))))) (.block 0 (.loop (ic (ic (rc (lc (rc (rc (rc cGp)))))))))) (rc (rc (rc (rc cGp))))))) := by kernel_rfl
theorem ren_tg {r : Mem} {W0 : World} (s : List (Nat × Value)) (n : Int) (b off len cap : Nat) (e : Int) (l : Tr Value) : Ren (SC r) 7342067 64 noG W0 ⟨⟨s, (Tr.node (Tr.node l (some (RS2 b off len cap)) (Tr.node Tr.nil (some (I e)) Tr.nil)) (some (I n)) (Tr.node (Tr.node Tr.nil (some (.pointer (some ⟨0, 0, none⟩))) Tr.nil) none Tr.nil))⟩, [], AGe resG⟩ ⟨⟨[], TGe e⟩, [], AGe resG⟩ := by
 refine Ren.of (fun i => i) 0 rfl (fun _ _ => rfl) (Nat.zero_le _) (fun i hi => absurd hi (Nat.not_lt_zero i)) ?_ rfl ?_ trivial
 ·simp only [Tr.All, TGe, Tr.put]
  repeat' (first | exact trivial | apply And.intro)
  all_goals exact ⟨_, rfl, rfl⟩
 ·simp only [Tr.All, AGe, resG]
  repeat' (first | exact trivial | apply And.intro)
  all_goals first | rfl | exact .head _ | exact ⟨_, rfl, .plain (fun _ _ => rfl)⟩ | exact ⟨_, rfl, .cells rfl⟩ | skip
theorem gp_tail {r : Mem} {W0 : World} {F : Fence} {k : Nat} (hF : Wide F) (hro : F.round = none) (n : Int) (b off len cap : Nat) (z : Nat → Int) :
  Go.Ev.Reach (SC r) 7342067 64 F k noG W0 (rc (rc (rc (rc cGp)))) ⟨⟨[], TGp n (RS2 b off len cap) len len⟩, [], AGp (m_g n (nbz z len))⟩ fun ex st => (ex = .normal ∨ ex = .ret) ∧ ∃ st1, Ren (SC r) 7342067 64 noG W0 st st1 ∧ finish (SC r) 7342067 [.cell 4 103, .tmp 5] st1 = .ret (.tuple ⟨[.agg ⟨m_g n (nbz z len)⟩, I 0]⟩) (AGe (m_g n (nbz z len))) := by
 refine Go.Ev.Reach.seg (SC_ok r) TOk.nil (tm := .nil) (L := 1) (L' := 1) (d := 1) hF hro ?_
 have hg := fin_g r n (nbz z len) (nbz_len z len) 0
 obtain ⟨z0, z1, z2, z3, z4, z5, z6, z7, z8, z9, z10, z11, z12, z13, z14, z15, h⟩ := list16 (nbz_len z len)
 rw [h] at hg ⊢
 rw [gpT]
 refine qn_ok ⟨.inr rfl, _, ?_, hg⟩
 refine Ren.of (fun i => i) 0 rfl (fun _ _ => rfl) (Nat.zero_le _) (fun i hi => absurd hi (Nat.not_lt_zero i)) ?_ rfl ?_ trivial
 ·simp only [Tr.All, TGe, Tr.put]
  repeat' (first | exact trivial | apply And.intro)
  all_goals exact ⟨_, rfl, rfl⟩
 ·simp only [Tr.All, AGe]
  repeat' (first | exact trivial | apply And.intro)
  all_goals first | rfl | exact .head _ | exact ⟨_, rfl, .plain (g_gnd _ _)⟩ | skip
theorem gp_calls (r : Mem) (hm : ∀ b j u, tabM b j = some u → r b j = some u) (n : Int) (b off len cap : Nat) (z : Nat → Int) (hz : rowAt r b off (2 * len) z) (hl : len ≤ 1000000) (F : Fence) (hF : Wide F) (k : Nat) (W : World) (args' : Array Value) (hR : Ro (SC r).ro noG W) (ha : VsRel noG [I n, RS2 b off len cap] args'.toList) :
  CallsIn F k (SC r).P 49 args' W (Go.Ev.Ends noG W (.tuple ⟨[.agg ⟨m_rdg n z len⟩, I (ckG n z len)]⟩) (AGe (m_rdg n z len))) := by
 obtain ⟨fn, h1, h2, h3, h4⟩ := fn_of (C := SC r) (f := 49) (by kernel_rfl)
 have hn : fn.ntmps = 64 := h3.trans (by kernel_rfl)
 have hr : fn.results.toList = [.cell 4 103, .tmp 5] := h4.trans (by kernel_rfl)
 rw [bodySC] at h2
 refine call_reach (SC_ok r) h1 h2 7342067 (by rw [hn]; rfl) (fun F k hF hro => ?_) (WRel.empty W) hR ha hF k
 rw [hn, hr]
 show Go.Ev.Reach (SC r) 7342067 64 F k noG W cGp _ _
 rw [cGp_eq]
 refine Go.Ev.Reach.seq (Go.Ev.Reach.seg (SC_ok r) TOk.nil (tm := .nil) (L := 1) (L' := 1) (d := 1) hF hro ((gpP1 r _ _ n b off len cap _ _ _).trans (qn_ok ?_)))
 have e1 : n < 1 ∨ n > 16 → ckG n z len = 1 := fun h => by unfold ckG; rw [if_pos h]
 refine Go.Ev.Reach.seq (Go.Ev.Reach.seg (SC_ok r) TOk.nil (tm := .nil) (L := 1) (L' := 1) (d := 1) hF hro ((gpP2 r _ _ n b off len cap _ _ _ _).trans ?_))
 by_cases c1 : n < 1
 ·rw [dT c1, cond_true]
  refine qn_ok ⟨.inr rfl, _, ren_tg _ n b off len cap 1 .nil, ?_⟩
  have e := e1 (.inl c1)
  unfold m_rdg
  rw [e, if_neg (by decide)]
  exact fin_r r 1
 rw [dF c1, cond_false]
 by_cases c2 : n > 16
 ·rw [dT c2, cond_true]
  refine qn_ok ⟨.inr rfl, _, ren_tg _ n b off len cap 1 .nil, ?_⟩
  have e := e1 (.inr c2)
  unfold m_rdg
  rw [e, if_neg (by decide)]
  exact fin_r r 1
 rw [dF c2, cond_false]
 refine qn_ok ?_
 refine Go.Ev.Reach.seq (Go.Ev.Reach.seg (SC_ok r) TOk.nil (tm := .nil) (L := 1) (L' := 1) (d := 1) hF hro ((gpP3 r _ _ n b off len cap _ _ _ _).trans (qn_ok ?_)))
 refine Go.Ev.Reach.seq (Go.Ev.Reach.seq (Go.Ev.Reach.seg (SC_ok r) TOk.nil (tm := .nil) (L := 1) (L' := 1) (d := 1) hF hro ((gpP4 r _ _ n b off len cap _ _ _ _).trans (qn_ok ?_))))
 refine Go.Ev.Reach.pre (ren_gp3 _ n b off len cap len 0 (m_g n (List.replicate 16 0)) (g_gnd _ _)) ?_
 refine Go.Ev.Reach.block ?_
 refine Go.Ev.Reach.loop (I := fun j st => ∃ st1, Ren (SC r) 7342067 64 noG W st st1 ∧ GpSt n (RS2 b off len cap) len z (okAll n z len) j st1) (fun j st ⟨st1, hr, hs⟩ => Go.Ev.Reach.pre hr (Go.Ev.Reach.mono (gp_body hm (by omega) hz hl hF hro hs) fun ex st' h => ?_)) ⟨_, Ren.refl _, .mk (k := 0) (Nat.zero_le _) rfl⟩
 have nr : ¬ (n < 1 ∨ n > 16) := by omega
 cases ex with
 | normal => exact h
 | exit id =>
  obtain ⟨rfl, hV, st2, hr2, rfl⟩ := h
  dsimp only
  rw [if_pos rfl]
  have e : ckG n z len = 0 := by unfold ckG; rw [if_neg nr, if_pos hV]
  unfold m_rdg
  rw [e, if_pos rfl]
  exact Go.Ev.Reach.pre hr2 (gp_tail hF hro n b off len cap z)
 | ret =>
  obtain ⟨hV, st2, hr2, rfl⟩ := h
  have e : ckG n z len = 40 := by unfold ckG; rw [if_neg nr, if_neg (by rw [hV]; decide)]
  unfold m_rdg
  rw [e, if_neg (by decide)]
  exact ⟨.inr rfl, _, hr2, fin_r r 40⟩
 | _ => exact h.elim
theorem partRead_ok (r : Mem) (hm : ∀ b j u, tabM b j = some u → r b j = some u) (n : Int) (b off len cap : Nat) (z : Nat → Int) (hz : rowAt r b off (2 * len) z) (hl : len ≤ 1000000) : GrT Tryd.prog r 49 [I n, RS2 b off len cap] (.tuple ⟨[.agg ⟨m_rdg n z len⟩, I (ckG n z len)]⟩) :=
 ⟨rdg_gnd n z len _, fun F hF k W args' hR ha => (gp_calls r hm n b off len cap z hz hl F hF k W args' hR ha).mono fun e W' he => by
  obtain ⟨v', γ', rfl, hv, hw', hx⟩ := he
  exact ⟨by rw [hv.eq_of_gnd (rdg_gnd n z len _)], hx.below⟩⟩
end Go.Proofs
namespace Go.Proofs
open Go Go.Ev Go.Num
noncomputable def m_same (a b : List Value) : Bool := @decide (a = b) (Classical.propDecidable _)
noncomputable def entV (args0 : List Value) (v : Value) : Ent := ent (fun args _ => m_same args args0) (fun _ _ => v)
theorem same_rfl (a : List Value) : m_same a a = true := @decide_eq_true _ (Classical.propDecidable _) rfl
theorem entV_ok {C : Cfg} {f : Nat} {args0 : List Value} {v : Value} (h : GrT C.P C.ro f args0 v) (hr : roVs args0 = true) : EOk C f (entV args0 v) := EOk.ent fun args A hg => by
 have := @of_decide_eq_true _ (Classical.propDecidable _) hg
 subst this
 exact h.ro hr A
noncomputable def tPc (n : Int) (sl : Value) (g : List Value) (e : Int) : Tbl := tcons 49 (entV [I n, sl] (.tuple ⟨[.agg ⟨g⟩, I e]⟩)) fun _ => none
theorem pcA (r : Mem) (n : Int) (b off len cap : Nat) (e : Int) (g : List Value) : (lvlT (SC r) (tPc n (RS2 b off len cap) g e) .nil 1 1).call 35 [I n, RS2 b off len cap] emptyA fin =
    bif m_same [Value.int IntKind.i64 n, Value.slice (some (Addr.mk b off (some 0))) len cap] [Value.int IntKind.i64 n, Value.slice (some (Addr.mk b off (some 0))) len cap] then bif Nat.beq (List.length g) 17 then bif ones g then Option.casesOn (setAt [Value.int IntKind.i64 (Int.ofNat 0), Value.int IntKind.u64 (Int.ofNat 0), Value.int IntKind.u64 (Int.ofNat 0), Value.int IntKind.u64 (Int.ofNat 0), Value.int IntKind.u64 (Int.ofNat 0), Value.int IntKind.u64 (Int.ofNat 0), Value.int IntKind.u64 (Int.ofNat 0), Value.int IntKind.u64 (Int.ofNat 0), Value.int IntKind.u64 (Int.ofNat 0), Value.int IntKind.u64 (Int.ofNat 0), Value.int IntKind.u64 (Int.ofNat 0), Value.int IntKind.u64 (Int.ofNat 0), Value.int IntKind.u64 (Int.ofNat 0), Value.int IntKind.u64 (Int.ofNat 0), Value.int IntKind.u64 (Int.ofNat 0), Value.int IntKind.u64 (Int.ofNat 0), Value.int IntKind.u64 (Int.ofNat 0)] 0 g) (CR.fail 450) fun val => CR.ret (Value.int IntKind.i64 e) (AW.mk 0 Tr.nil Tr.nil) else CR.fail 451 else CR.fail 454 else CR.fail 420 := by kernel_rfl
end Go.Proofs
namespace Go.Proofs
open Go Go.Ev Go.Num
theorem rdg_form (n : Int) (z : Nat → Int) (len : Nat) : ∃ n' zs, zs.length = 16 ∧ m_rdg n z len = m_g n' zs := by
 unfold m_rdg
 split
 ·exact ⟨n, _, nbz_len z len, rfl⟩
 ·exact ⟨0, _, List.length_replicate .., rfl⟩
theorem partCheck_ok (r : Mem) (hm : ∀ b j u, tabM b j = some u → r b j = some u) (n : Int) (b off len cap : Nat) (z : Nat → Int) (hz : rowAt r b off (2 * len) z) (hl : len ≤ 1000000) : GrT Tryd.prog r 35 [I n, RS2 b off len cap] (I (ckG n z len)) :=
 GrT.of (SC_ok r) (show TOk (SC r) (tPc n (RS2 b off len cap) (m_rdg n z len) (ckG n z len)) from TOk.cons TOk.nil (entV_ok (partRead_ok r hm n b off len cap z hz hl) rfl)) .nil rfl ⟨1, 1, by
  rw [pcA, show m_same _ _ = true from same_rfl _, cond_true]
  obtain ⟨n', zs, hzl, h⟩ := rdg_form n z len
  rw [h]
  obtain ⟨z0, z1, z2, z3, z4, z5, z6, z7, z8, z9, z10, z11, z12, z13, z14, z15, rfl⟩ := list16 hzl
  kernel_rfl⟩
end Go.Proofs
namespace Go.Proofs
open Go Go.Ev Go.Num
noncomputable def cOf : Code := bodyOf S0 6
def TOf (n : Int) (sl : Value) (m : Nat) (i : Int) (l7 l8 : Tr Value) : Tr Value := .node (.node l7 (some sl) (.node .nil (some (.slice (some ⟨0, 0, none⟩) m m)) .nil)) (some (I n)) (.node (.node l8 (some (.slice none 0 0)) .nil) none (.node .nil (some (I i)) .nil))
def oO7 (v : Value) : Tr Value := .node (.node .nil (some v) .nil) none .nil
def oO8 (v : Value) : Tr Value := .node .nil (some v) .nil
def AOf (g : List Value) : AW := AW.mk 1 (.node .nil (some (.cells g 3 0 1)) .nil) .nil
theorem ofA (r : Mem) (L : Nat) (fs : FnsC) (n : Int) (b off len cap : Nat) (kn : KS) (kx : Nat → KS) (kr : KS) : run (SC r) 499 48 L (.seq (.seq (lc cOf) (lc (rc cOf))) (lc (lc (rc (rc cOf))))) fs none kn kx kr (sc0 499 [I n, RS2 b off len cap]) (tr0 499 [I n, RS2 b off len cap]) [] emptyA =
    bif decide (0 ≤ n) then bif decide (0 ≤ n) then bif Nat.ble (Int.toNat n) (Int.toNat n) then bif Nat.ble (Int.toNat n) 1000000 then kn [] (Tr.node (Tr.node Tr.nil (some (Value.slice (some (Addr.mk b off (some 0))) len cap)) (Tr.node Tr.nil (some (Value.slice (some (Addr.mk 0 0 none)) (Int.toNat n) (Int.toNat n))) Tr.nil)) (some (Value.int IntKind.i64 n)) (Tr.node (Tr.node Tr.nil (some (Value.slice none 0 0)) Tr.nil) none (Tr.node Tr.nil (some (Value.int IntKind.i64 (Int.ofNat 0))) Tr.nil))) [] (AW.mk 1 (Tr.node Tr.nil (some (AObj.cells (zerosL (Nat.mul (Int.toNat n) 1) [Value.int IntKind.i64 (Int.ofNat 0)]) 3 0 1)) Tr.nil) Tr.nil) else CR.fail 420 else CR.fail 420 else CR.fail 420 else CR.fail 420 := by kernel_rfl
theorem ofB1 (r : Mem) (L : Nat) (fs : FnsC) (n : Int) (b off len cap m : Nat) (i : Int) (g : List Value) (s : List (Nat × Value)) (kn : KS) (kx : Nat → KS) (kr : KS) : run (SC r) 499 48 L (ic (ic (rc (lc (rc (rc cOf)))))) fs none kn kx kr s (TOf n (RS2 b off len cap) m i .nil .nil) [] (AOf g) =
    bif decide (i < Int.ofNat len) then bif decide (0 ≤ i) then bif Nat.blt (Int.toNat i) len then Option.casesOn (r b (Nat.add (Nat.add off (Nat.mul (Int.toNat i) 2)) 0)) (CR.fail 423) fun val => bif isI IntKind.i64 val then bif decide (0 ≤ i) then bif Nat.blt (Int.toNat i) len then Option.casesOn (r b (Nat.add (Nat.add off (Nat.mul (Int.toNat i) 2)) 1)) (CR.fail 423) fun val_1 => bif isI IntKind.i64 val_1 then bif decide (0 ≤ ofI val) then bif Nat.blt (Int.toNat (ofI val)) m then Option.casesOn g[Nat.add 0 (Nat.mul (Int.toNat (ofI val)) 1)]? (CR.fail 423) fun val_2 => bif isI IntKind.i64 val_2 then bif !decide (ofI val_1 < 0) then bif decide (0 ≤ ofI val) then bif Nat.blt (Int.toNat (ofI val)) m then bif Nat.blt (Nat.add 0 (Nat.mul (Int.toNat (ofI val)) 1)) (List.length g) then Option.casesOn g[Nat.add 0 (Nat.mul (Int.toNat (ofI val)) 1)]? (CR.fail 423) fun val_3 => bif isI IntKind.i64 val_3 then bif m_eqv (Value.int IntKind.i64 (ofI val_3)) (Value.int IntKind.i64 (ofI val_2)) then bif decide (0 ≤ ofI val_1) then bif Nat.blt (Int.toNat (ofI val_1)) m then Option.casesOn (List.set g (Nat.add 0 (Nat.mul (Int.toNat (ofI val)) 1)) (Value.int IntKind.i64 (ibits BinOp.or IntKind.i64 (ofI val_2) (IntKind.wrap IntKind.i64 (Int.ofNat 1 * Int.ofNat 2 ^ min (Int.toNat (ofI val_1)) 64)))))[Nat.add 0 (Nat.mul (Int.toNat (ofI val_1)) 1)]? (CR.fail 423) fun val_4 => bif isI IntKind.i64 val_4 then bif !decide (ofI val < 0) then bif decide (0 ≤ ofI val_1) then bif Nat.blt (Int.toNat (ofI val_1)) m then bif Nat.blt (Nat.add 0 (Nat.mul (Int.toNat (ofI val_1)) 1)) (List.length (List.set g (Nat.add 0 (Nat.mul (Int.toNat (ofI val)) 1)) (Value.int IntKind.i64 (ibits BinOp.or IntKind.i64 (ofI val_2) (IntKind.wrap IntKind.i64 (Int.ofNat 1 * Int.ofNat 2 ^ min (Int.toNat (ofI val_1)) 64)))))) then Option.casesOn (List.set g (Nat.add 0 (Nat.mul (Int.toNat (ofI val)) 1)) (Value.int IntKind.i64 (ibits BinOp.or IntKind.i64 (ofI val_2) (IntKind.wrap IntKind.i64 (Int.ofNat 1 * Int.ofNat 2 ^ min (Int.toNat (ofI val_1)) 64)))))[Nat.add 0 (Nat.mul (Int.toNat (ofI val_1)) 1)]? (CR.fail 423) fun val_5 => bif isI IntKind.i64 val_5 then bif m_eqv (Value.int IntKind.i64 (ofI val_5)) (Value.int IntKind.i64 (ofI val_4)) then kn [(16, Value.int IntKind.i64 (IntKind.wrap IntKind.i64 (i + Int.ofNat 1))), (15, Value.int IntKind.i64 i)] (Tr.node (Tr.node (Tr.node (Tr.node Tr.nil (some (Value.int IntKind.i64 (ofI val))) Tr.nil) none Tr.nil) (some (Value.slice (some (Addr.mk b off (some 0))) len cap)) (Tr.node Tr.nil (some (Value.slice (some (Addr.mk 0 0 none)) m m)) Tr.nil)) (some (Value.int IntKind.i64 n)) (Tr.node (Tr.node (Tr.node Tr.nil (some (Value.int IntKind.i64 (ofI val_1))) Tr.nil) (some (Value.slice none 0 0)) Tr.nil) none (Tr.node Tr.nil (some (Value.int IntKind.i64 (IntKind.wrap IntKind.i64 (i + Int.ofNat 1)))) Tr.nil))) [] (AW.mk 1 (Tr.node Tr.nil (some (AObj.cells (List.set (List.set g (Nat.add 0 (Nat.mul (Int.toNat (ofI val)) 1)) (Value.int IntKind.i64 (ibits BinOp.or IntKind.i64 (ofI val_2) (IntKind.wrap IntKind.i64 (Int.ofNat 1 * Int.ofNat 2 ^ min (Int.toNat (ofI val_1)) 64))))) (Nat.add 0 (Nat.mul (Int.toNat (ofI val_1)) 1)) (Value.int IntKind.i64 (ibits BinOp.or IntKind.i64 (ofI val_4) (IntKind.wrap IntKind.i64 (Int.ofNat 1 * Int.ofNat 2 ^ min (Int.toNat (ofI val)) 64))))) 3 0 1)) Tr.nil) Tr.nil) else CR.fail 420 else CR.fail 420 else CR.fail 420 else CR.fail 420 else CR.fail 420 else CR.fail 420 else CR.fail 420 else CR.fail 420 else CR.fail 420 else CR.fail 420 else CR.fail 420 else CR.fail 420 else CR.fail 420 else CR.fail 420 else CR.fail 420 else CR.fail 420 else CR.fail 420 else CR.fail 420 else CR.fail 420 else CR.fail 420 else CR.fail 420 else CR.fail 420 else CR.fail 420 else CR.fail 420 else kx 0 [(14, Value.bool false), (13, Value.int IntKind.i64 (Int.ofNat len)), (12, Value.slice (some (Addr.mk b off (some 0))) len cap), (11, Value.int IntKind.i64 i)] (Tr.node (Tr.node Tr.nil (some (Value.slice (some (Addr.mk b off (some 0))) len cap)) (Tr.node Tr.nil (some (Value.slice (some (Addr.mk 0 0 none)) m m)) Tr.nil)) (some (Value.int IntKind.i64 n)) (Tr.node (Tr.node Tr.nil (some (Value.slice none 0 0)) Tr.nil) none (Tr.node Tr.nil (some (Value.int IntKind.i64 i)) Tr.nil))) [] (AW.mk 1 (Tr.node Tr.nil (some (AObj.cells g 3 0 1)) Tr.nil) Tr.nil) := by kernel_rfl
theorem ofB2 (r : Mem) (L : Nat) (fs : FnsC) (n : Int) (b off len cap m : Nat) (i : Int) (g : List Value) (v7 v8 : Value) (s : List (Nat × Value)) (kn : KS) (kx : Nat → KS) (kr : KS) : run (SC r) 499 48 L (ic (ic (rc (lc (rc (rc cOf)))))) fs none kn kx kr s (TOf n (RS2 b off len cap) m i (oO7 v7) (oO8 v8)) [] (AOf g) =
    bif decide (i < Int.ofNat len) then bif decide (0 ≤ i) then bif Nat.blt (Int.toNat i) len then Option.casesOn (r b (Nat.add (Nat.add off (Nat.mul (Int.toNat i) 2)) 0)) (CR.fail 423) fun val => bif isI IntKind.i64 val then bif decide (0 ≤ i) then bif Nat.blt (Int.toNat i) len then Option.casesOn (r b (Nat.add (Nat.add off (Nat.mul (Int.toNat i) 2)) 1)) (CR.fail 423) fun val_1 => bif isI IntKind.i64 val_1 then bif decide (0 ≤ ofI val) then bif Nat.blt (Int.toNat (ofI val)) m then Option.casesOn g[Nat.add 0 (Nat.mul (Int.toNat (ofI val)) 1)]? (CR.fail 423) fun val_2 => bif isI IntKind.i64 val_2 then bif !decide (ofI val_1 < 0) then bif decide (0 ≤ ofI val) then bif Nat.blt (Int.toNat (ofI val)) m then bif Nat.blt (Nat.add 0 (Nat.mul (Int.toNat (ofI val)) 1)) (List.length g) then Option.casesOn g[Nat.add 0 (Nat.mul (Int.toNat (ofI val)) 1)]? (CR.fail 423) fun val_3 => bif isI IntKind.i64 val_3 then bif m_eqv (Value.int IntKind.i64 (ofI val_3)) (Value.int IntKind.i64 (ofI val_2)) then bif decide (0 ≤ ofI val_1) then bif Nat.blt (Int.toNat (ofI val_1)) m then Option.casesOn (List.set g (Nat.add 0 (Nat.mul (Int.toNat (ofI val)) 1)) (Value.int IntKind.i64 (ibits BinOp.or IntKind.i64 (ofI val_2) (IntKind.wrap IntKind.i64 (Int.ofNat 1 * Int.ofNat 2 ^ min (Int.toNat (ofI val_1)) 64)))))[Nat.add 0 (Nat.mul (Int.toNat (ofI val_1)) 1)]? (CR.fail 423) fun val_4 => bif isI IntKind.i64 val_4 then bif !decide (ofI val < 0) then bif decide (0 ≤ ofI val_1) then bif Nat.blt (Int.toNat (ofI val_1)) m then bif Nat.blt (Nat.add 0 (Nat.mul (Int.toNat (ofI val_1)) 1)) (List.length (List.set g (Nat.add 0 (Nat.mul (Int.toNat (ofI val)) 1)) (Value.int IntKind.i64 (ibits BinOp.or IntKind.i64 (ofI val_2) (IntKind.wrap IntKind.i64 (Int.ofNat 1 * Int.ofNat 2 ^ min (Int.toNat (ofI val_1)) 64)))))) then Option.casesOn (List.set g (Nat.add 0 (Nat.mul (Int.toNat (ofI val)) 1)) (Value.int IntKind.i64 (ibits BinOp.or IntKind.i64 (ofI val_2) (IntKind.wrap IntKind.i64 (Int.ofNat 1 * Int.ofNat 2 ^ min (Int.toNat (ofI val_1)) 64)))))[Nat.add 0 (Nat.mul (Int.toNat (ofI val_1)) 1)]? (CR.fail 423) fun val_5 => bif isI IntKind.i64 val_5 then bif m_eqv (Value.int IntKind.i64 (ofI val_5)) (Value.int IntKind.i64 (ofI val_4)) then kn [(16, Value.int IntKind.i64 (IntKind.wrap IntKind.i64 (i + Int.ofNat 1))), (15, Value.int IntKind.i64 i)] (Tr.node (Tr.node (Tr.node (Tr.node Tr.nil (some (Value.int IntKind.i64 (ofI val))) Tr.nil) none Tr.nil) (some (Value.slice (some (Addr.mk b off (some 0))) len cap)) (Tr.node Tr.nil (some (Value.slice (some (Addr.mk 0 0 none)) m m)) Tr.nil)) (some (Value.int IntKind.i64 n)) (Tr.node (Tr.node (Tr.node Tr.nil (some (Value.int IntKind.i64 (ofI val_1))) Tr.nil) (some (Value.slice none 0 0)) Tr.nil) none (Tr.node Tr.nil (some (Value.int IntKind.i64 (IntKind.wrap IntKind.i64 (i + Int.ofNat 1)))) Tr.nil))) [] (AW.mk 1 (Tr.node Tr.nil (some (AObj.cells (List.set (List.set g (Nat.add 0 (Nat.mul (Int.toNat (ofI val)) 1)) (Value.int IntKind.i64 (ibits BinOp.or IntKind.i64 (ofI val_2) (IntKind.wrap IntKind.i64 (Int.ofNat 1 * Int.ofNat 2 ^ min (Int.toNat (ofI val_1)) 64))))) (Nat.add 0 (Nat.mul (Int.toNat (ofI val_1)) 1)) (Value.int IntKind.i64 (ibits BinOp.or IntKind.i64 (ofI val_4) (IntKind.wrap IntKind.i64 (Int.ofNat 1 * Int.ofNat 2 ^ min (Int.toNat (ofI val)) 64))))) 3 0 1)) Tr.nil) Tr.nil) else CR.fail 420 else CR.fail 420 else CR.fail 420 else CR.fail 420 else CR.fail 420 else CR.fail 420 else CR.fail 420 else CR.fail 420 else CR.fail 420 else CR.fail 420 else CR.fail 420 else CR.fail 420 else CR.fail 420 else CR.fail 420 else CR.fail 420 else CR.fail 420 else CR.fail 420 else CR.fail 420 else CR.fail 420 else CR.fail 420 else CR.fail 420 else CR.fail 420 else CR.fail 420 else CR.fail 420 else kx 0 [(14, Value.bool false), (13, Value.int IntKind.i64 (Int.ofNat len)), (12, Value.slice (some (Addr.mk b off (some 0))) len cap), (11, Value.int IntKind.i64 i)] (Tr.node (Tr.node (Tr.node (Tr.node Tr.nil (some v7) Tr.nil) none Tr.nil) (some (Value.slice (some (Addr.mk b off (some 0))) len cap)) (Tr.node Tr.nil (some (Value.slice (some (Addr.mk 0 0 none)) m m)) Tr.nil)) (some (Value.int IntKind.i64 n)) (Tr.node (Tr.node (Tr.node Tr.nil (some v8) Tr.nil) (some (Value.slice none 0 0)) Tr.nil) none (Tr.node Tr.nil (some (Value.int IntKind.i64 i)) Tr.nil))) [] (AW.mk 1 (Tr.node Tr.nil (some (AObj.cells g 3 0 1)) Tr.nil) Tr.nil) := by kernel_rfl
theorem ofC (r : Mem) (L : Nat) (fs : FnsC) (n : Int) (sl : Value) (m : Nat) (i : Int) (l7 l8 : Tr Value) (g : List Value) (s : List (Nat × Value)) (kn : KS) (kx : Nat → KS) (kr : KS) : run (SC r) 499 48 L (rc (rc (rc cOf))) fs none kn kx kr s (TOf n sl m i l7 l8) [] (AOf g) =
    kr [(47, Value.slice (some (Addr.mk 0 0 none)) m m)] (Tr.node (Tr.node l7 (some sl) (Tr.node Tr.nil (some (Value.slice (some (Addr.mk 0 0 none)) m m)) Tr.nil)) (some (Value.int IntKind.i64 n)) (Tr.node (Tr.node l8 (some (Value.slice (some (Addr.mk 0 0 none)) m m)) Tr.nil) none (Tr.node Tr.nil (some (Value.int IntKind.i64 i)) Tr.nil))) [] (AW.mk 1 (Tr.node Tr.nil (some (AObj.cells g 3 0 1)) Tr.nil) Tr.nil) := by kernel_rfl
end Go.Proofs
namespace Go.Num
def orN (ws : List Nat) (i b : Nat) : List Nat := ws.set i (ws.getD i 0 ||| 2 ^ b)
def jnN (ws : List Nat) (i j : Nat) : List Nat := orN (orN ws i j) j i
def nbN (m : Nat) (z : Nat → Int) : Nat → List Nat
 | 0 => List.replicate m 0
 | k + 1 => jnN (nbN m z k) (ea z k).toNat (eb z k).toNat
theorem orN_len (ws : List Nat) (i b : Nat) : (orN ws i b).length = ws.length := List.length_set ..
theorem nbN_len (m : Nat) (z : Nat → Int) : ∀ k, (nbN m z k).length = m
 | 0 => List.length_replicate ..
 | k + 1 => by rw [nbN, jnN, orN_len, orN_len]; exact nbN_len m z k
theorem or16 {a b : Nat} (ha : a < 65536) (hb : b < 65536) : a ||| b < 65536 := Nat.or_lt_two_pow (n := 16) ha hb
theorem bit16 {b : Nat} (hb : b < 16) : 2 ^ b < 65536 := Nat.pow_lt_pow_right (a := 2) (by decide) hb
theorem getD_lt {ws : List Nat} (h : ∀ w ∈ ws, w < 65536) (i : Nat) : ws.getD i 0 < 65536 := by
 rw [List.getD_eq_getElem?_getD]
 cases e : ws[i]? with
 | none => simp
 | some w => exact h w (List.mem_of_getElem? e)
theorem orN_lt {ws : List Nat} (h : ∀ w ∈ ws, w < 65536) (i : Nat) {b : Nat} (hb : b < 16) : ∀ w ∈ orN ws i b, w < 65536 := fun w hw => by
 unfold orN at hw
 rcases List.mem_or_eq_of_mem_set hw with hw | rfl
 ·exact h w hw
 ·exact or16 (getD_lt h i) (bit16 hb)
theorem nbN_lt (m : Nat) (z : Nat → Int) {n : Int} (hn : n ≤ 16) : ∀ k, (∀ i, i < k → 0 ≤ ea z i ∧ ea z i < eb z i ∧ eb z i < n) → ∀ w ∈ nbN m z k, w < 65536
 | 0, _ => fun w hw => by
  rw [nbN] at hw
  rw [List.eq_of_mem_replicate hw]
  decide
 | k + 1, h => by
  have := h k (by omega)
  exact orN_lt (orN_lt (nbN_lt m z hn k fun i hi => h i (by omega)) _ (by omega)) _ (by omega)
end Go.Num
namespace Go.Proofs
open Go Go.Ev Go.Num
theorem or_nat {k : IntKind} (hk : k = .u64 ∨ k = .i64) {a b : Nat} (ha : a < 65536) (hb : b < 65536) : ibits BinOp.or k (a : Int) (b : Int) = ((a ||| b : Nat) : Int) := by
 have h1 := or16 ha hb
 have e : ((BitVec.ofInt 64 (a : Int) ||| BitVec.ofInt 64 (b : Int)).toNat : Int) = ((a ||| b : Nat) : Int) := by
  rw [BitVec.ofInt_natCast, BitVec.ofInt_natCast, BitVec.toNat_or, BitVec.toNat_ofNat, BitVec.toNat_ofNat, Nat.mod_eq_of_lt (by omega), Nat.mod_eq_of_lt (by omega)]
 rcases hk with rfl | rfl
 ·show IntKind.wrap .u64 ((BitVec.ofInt 64 (a : Int) ||| BitVec.ofInt 64 (b : Int)).toNat : Int) = _
  rw [e]
  simp [IntKind.wrap, IntKind.bits, IntKind.signed]
  omega
 ·show IntKind.wrap .i64 ((BitVec.ofInt 64 (a : Int) ||| BitVec.ofInt 64 (b : Int)).toNat : Int) = _
  rw [e]
  exact wrI (by omega)
def m_ws (ws : List Nat) : List Value := ws.map fun (w : Nat) => I (w : Int)
theorem ws_len (ws : List Nat) : (m_ws ws).length = ws.length := List.length_map ..
theorem ws_gnd (ws : List Nat) : gnds (m_ws ws) = true := by
 unfold m_ws
 induction ws with
 | nil => rfl
 | cons w l ih => simp only [List.map_cons, gnds, gnd, ih, Bool.and_self, I]
theorem ws_get {ws : List Nat} {k : Nat} (h : k < ws.length) : (m_ws ws)[Nat.add 0 (Nat.mul k 1)]? = some (I ((ws.getD k 0 : Nat) : Int)) := by
 rw [show Nat.add 0 (Nat.mul k 1) = k by simp, List.getD_eq_getElem?_getD, List.getElem?_eq_getElem h]
 simp [m_ws, h]
theorem ws_set (ws : List Nat) (k w : Nat) : (m_ws ws).set (Nat.add 0 (Nat.mul k 1)) (I (w : Int)) = m_ws (ws.set k w) := by
 rw [show Nat.add 0 (Nat.mul k 1) = k by simp]
 simp [m_ws, List.map_set]
theorem shl_bit {b : Nat} (hb : b < 16) : IntKind.wrap IntKind.i64 (Int.ofNat 1 * Int.ofNat 2 ^ min b 64) = ((2 ^ b : Nat) : Int) := by
 have : ∀ j : Fin 16, IntKind.wrap IntKind.i64 (Int.ofNat 1 * Int.ofNat 2 ^ min j.val 64) = ((2 ^ j.val : Nat) : Int) := by decide
 exact this ⟨b, hb⟩
theorem of_round1 (r : Mem) (L : Nat) (fs : FnsC) (n : Int) (b off len cap m : Nat) (hm : m ≤ 16) (z : Nat → Int) (hz : rowAt r b off (2 * len) z) (hl : len ≤ 1000000) (k : Nat) (hk : k < len) (x y : Nat) (hx : ea z k = x) (hy : eb z k = y) (hxy : x < y) (hym : y < m) (ws : List Nat) (hl' : ws.length = m) (hw : ∀ w ∈ ws, w < 65536)
  (s : List (Nat × Value)) (kn : KS) (kx : Nat → KS) (kr : KS) (R : CR) (h : ∀ s v7 v8, kn s (TOf n (RS2 b off len cap) m ((k + 1 : Nat) : Int) (oO7 v7) (oO8 v8)) [] (AOf (m_ws (jnN ws x y))) = R) :
  run (SC r) 499 48 L (ic (ic (rc (lc (rc (rc cOf)))))) fs none kn kx kr s (TOf n (RS2 b off len cap) m k .nil .nil) [] (AOf (m_ws ws)) = R := by
 rw [ofB1]
 have c1 : (k : Int) < Int.ofNat len := by simp; omega
 have c2 : 0 ≤ (k : Int) := by omega
 have c3 : Nat.blt k len = true := Nat.ble_eq_true_of_le (by omega)
 have l0 : r b (Nat.add (Nat.add off (Nat.mul k 2)) 0) = some (I (x : Int)) := by
  have := hz (2 * k) (by omega)
  rw [show Nat.add (Nat.add off (Nat.mul k 2)) 0 = off + 2 * k by simp [Nat.mul_comm], ← hx]
  exact this
 have l1 : r b (Nat.add (Nat.add off (Nat.mul k 2)) 1) = some (I (y : Int)) := by
  have := hz (2 * k + 1) (by omega)
  rw [show Nat.add (Nat.add off (Nat.mul k 2)) 1 = off + (2 * k + 1) by simp [Nat.mul_comm]; omega, ← hy]
  exact this
 have w : IntKind.wrap IntKind.i64 ((k : Int) + Int.ofNat 1) = ((k + 1 : Nat) : Int) := by rw [wrI (by simp; omega)]; simp
 have ii : ∀ x, isI IntKind.i64 (I x) = true := fun _ => rfl
 have oo : ∀ x, ofI (I x) = x := fun _ => rfl
 have x0 : 0 ≤ (x : Int) := by omega
 have y0 : 0 ≤ (y : Int) := by omega
 have x1 : ¬ (x : Int) < 0 := by omega
 have y1 : ¬ (y : Int) < 0 := by omega
 have xm : Nat.blt x m = true := Nat.ble_eq_true_of_le (by omega)
 have ym : Nat.blt y m = true := Nat.ble_eq_true_of_le (by omega)
 have xl : Nat.blt (Nat.add 0 (Nat.mul x 1)) (m_ws ws).length = true := Nat.ble_eq_true_of_le (by rw [ws_len, hl']; simp; omega)
 have yl : Nat.blt (Nat.add 0 (Nat.mul y 1)) (m_ws (orN ws x y)).length = true := Nat.ble_eq_true_of_le (by rw [ws_len, orN_len, hl']; simp; omega)
 have vv : ∀ z : Int, m_eqv (.int .i64 z) (.int .i64 z) = true := fun z => by simp [m_eqv, veq]
 have e1 : ibits BinOp.or IntKind.i64 ((ws.getD x 0 : Nat) : Int) ((2 ^ y : Nat) : Int) = ((ws.getD x 0 ||| 2 ^ y : Nat) : Int) := or_nat (.inr rfl) (getD_lt hw x) (bit16 (by omega))
 have e2 : ibits BinOp.or IntKind.i64 (((orN ws x y).getD y 0 : Nat) : Int) ((2 ^ x : Nat) : Int) = (((orN ws x y).getD y 0 ||| 2 ^ x : Nat) : Int) := or_nat (.inr rfl) (getD_lt (orN_lt hw x (by omega)) y) (bit16 (by omega))
 have s1 : ws.set x (ws.getD x 0 ||| 2 ^ y) = orN ws x y := rfl
 have s2 : (orN ws x y).set y ((orN ws x y).getD y 0 ||| 2 ^ x) = jnN ws x y := rfl
 have p1 := ws_get (ws := ws) (k := x) (by omega)
 have p2 := ws_get (ws := orN ws x y) (k := y) (by rw [orN_len]; omega)
 have q1 : (m_ws ws).set (Nat.add 0 (Nat.mul x 1)) (.int .i64 ((ws.getD x 0 ||| 2 ^ y : Nat) : Int)) = m_ws (orN ws x y) := ws_set ws x _
 have q2 : (m_ws (orN ws x y)).set (Nat.add 0 (Nat.mul y 1)) (.int .i64 (((orN ws x y).getD y 0 ||| 2 ^ x : Nat) : Int)) = m_ws (jnN ws x y) := ws_set (orN ws x y) y _
 have sx := shl_bit (b := x) (by omega)
 have sy := shl_bit (b := y) (by omega)
 simp only [dT c1, dT c2, c3, cond_true, Int.toNat_natCast, l0, l1, ii, oo, dT x0, dT y0, dF x1, dF y1, Bool.not_false, xm, ym, p1, xl, vv, sy, sx, e1, q1, p2, yl, e2, q2, w]
 exact h _ _ _
theorem of_round2 (r : Mem) (L : Nat) (fs : FnsC) (n : Int) (b off len cap m : Nat) (hm : m ≤ 16) (z : Nat → Int) (hz : rowAt r b off (2 * len) z) (hl : len ≤ 1000000) (k : Nat) (hk : k < len) (x y : Nat) (hx : ea z k = x) (hy : eb z k = y) (hxy : x < y) (hym : y < m) (ws : List Nat) (hl' : ws.length = m) (hw : ∀ w ∈ ws, w < 65536)
  (v7 v8 : Value) (s : List (Nat × Value)) (kn : KS) (kx : Nat → KS) (kr : KS) (R : CR) (h : ∀ s v7 v8, kn s (TOf n (RS2 b off len cap) m ((k + 1 : Nat) : Int) (oO7 v7) (oO8 v8)) [] (AOf (m_ws (jnN ws x y))) = R) :
  run (SC r) 499 48 L (ic (ic (rc (lc (rc (rc cOf)))))) fs none kn kx kr s (TOf n (RS2 b off len cap) m k (oO7 v7) (oO8 v8)) [] (AOf (m_ws ws)) = R := by
 rw [ofB2]
 have c1 : (k : Int) < Int.ofNat len := by simp; omega
 have c2 : 0 ≤ (k : Int) := by omega
 have c3 : Nat.blt k len = true := Nat.ble_eq_true_of_le (by omega)
 have l0 : r b (Nat.add (Nat.add off (Nat.mul k 2)) 0) = some (I (x : Int)) := by
  have := hz (2 * k) (by omega)
  rw [show Nat.add (Nat.add off (Nat.mul k 2)) 0 = off + 2 * k by simp [Nat.mul_comm], ← hx]
  exact this
 have l1 : r b (Nat.add (Nat.add off (Nat.mul k 2)) 1) = some (I (y : Int)) := by
  have := hz (2 * k + 1) (by omega)
  rw [show Nat.add (Nat.add off (Nat.mul k 2)) 1 = off + (2 * k + 1) by simp [Nat.mul_comm]; omega, ← hy]
  exact this
 have w : IntKind.wrap IntKind.i64 ((k : Int) + Int.ofNat 1) = ((k + 1 : Nat) : Int) := by rw [wrI (by simp; omega)]; simp
 have ii : ∀ x, isI IntKind.i64 (I x) = true := fun _ => rfl
 have oo : ∀ x, ofI (I x) = x := fun _ => rfl
 have x0 : 0 ≤ (x : Int) := by omega
 have y0 : 0 ≤ (y : Int) := by omega
 have x1 : ¬ (x : Int) < 0 := by omega
 have y1 : ¬ (y : Int) < 0 := by omega
 have xm : Nat.blt x m = true := Nat.ble_eq_true_of_le (by omega)
 have ym : Nat.blt y m = true := Nat.ble_eq_true_of_le (by omega)
 have xl : Nat.blt (Nat.add 0 (Nat.mul x 1)) (m_ws ws).length = true := Nat.ble_eq_true_of_le (by rw [ws_len, hl']; simp; omega)
 have yl : Nat.blt (Nat.add 0 (Nat.mul y 1)) (m_ws (orN ws x y)).length = true := Nat.ble_eq_true_of_le (by rw [ws_len, orN_len, hl']; simp; omega)
 have vv : ∀ z : Int, m_eqv (.int .i64 z) (.int .i64 z) = true := fun z => by simp [m_eqv, veq]
 have e1 : ibits BinOp.or IntKind.i64 ((ws.getD x 0 : Nat) : Int) ((2 ^ y : Nat) : Int) = ((ws.getD x 0 ||| 2 ^ y : Nat) : Int) := or_nat (.inr rfl) (getD_lt hw x) (bit16 (by omega))
 have e2 : ibits BinOp.or IntKind.i64 (((orN ws x y).getD y 0 : Nat) : Int) ((2 ^ x : Nat) : Int) = (((orN ws x y).getD y 0 ||| 2 ^ x : Nat) : Int) := or_nat (.inr rfl) (getD_lt (orN_lt hw x (by omega)) y) (bit16 (by omega))
 have s1 : ws.set x (ws.getD x 0 ||| 2 ^ y) = orN ws x y := rfl
 have s2 : (orN ws x y).set y ((orN ws x y).getD y 0 ||| 2 ^ x) = jnN ws x y := rfl
 have p1 := ws_get (ws := ws) (k := x) (by omega)
 have p2 := ws_get (ws := orN ws x y) (k := y) (by rw [orN_len]; omega)
 have q1 : (m_ws ws).set (Nat.add 0 (Nat.mul x 1)) (.int .i64 ((ws.getD x 0 ||| 2 ^ y : Nat) : Int)) = m_ws (orN ws x y) := ws_set ws x _
 have q2 : (m_ws (orN ws x y)).set (Nat.add 0 (Nat.mul y 1)) (.int .i64 (((orN ws x y).getD y 0 ||| 2 ^ x : Nat) : Int)) = m_ws (jnN ws x y) := ws_set (orN ws x y) y _
 have sx := shl_bit (b := x) (by omega)
 have sy := shl_bit (b := y) (by omega)
 simp only [dT c1, dT c2, c3, cond_true, Int.toNat_natCast, l0, l1, ii, oo, dT x0, dT y0, dF x1, dF y1, Bool.not_false, xm, ym, p1, xl, vv, sy, sx, e1, q1, p2, yl, e2, q2, w]
 exact h _ _ _
end Go.Proofs
namespace Go.Proofs
open Go Go.Ev Go.Num
theorem of_loop (r : Mem) (L : Nat) (fs : FnsC) (kx : Nat → KS) (kr : KS) (n : Int) (b off len cap m : Nat) (hn : n = m) (hm : m ≤ 16) (z : Nat → Int) (hz : rowAt r b off (2 * len) z) (hl : len ≤ 1000000) (hok : okAll n z len = true) (R : CR)
  (hX : ∀ s i l7 l8, kx 0 s (TOf n (RS2 b off len cap) m i l7 l8) [] (AOf (m_ws (nbN m z len))) = R) :
  ∀ (j k : Nat) (s : List (Nat × Value)), k ≤ len → len - k < j →
  cLoop (fun kl => run (SC r) 499 48 L (ic (ic (rc (lc (rc (rc cOf)))))) fs none kl kx kr) j s (TOf n (RS2 b off len cap) m k .nil .nil) [] (AOf (m_ws (nbN m z k))) = R ∧
  ∀ v7 v8, cLoop (fun kl => run (SC r) 499 48 L (ic (ic (rc (lc (rc (rc cOf)))))) fs none kl kx kr) j s (TOf n (RS2 b off len cap) m k (oO7 v7) (oO8 v8)) [] (AOf (m_ws (nbN m z k))) = R := by
 intro j
 induction j with
 | zero => intro k s _ h; omega
 | succ j ih =>
  intro k s hk hj
  rw [cLoop_succ]
  by_cases c : k < len
  ·have h3 := okAll_at hok
   obtain ⟨b1, b2, b3⟩ := h3 k c
   have hx : ea z k = ((ea z k).toNat : Int) := by omega
   have hy : eb z k = ((eb z k).toNat : Int) := by omega
   have hw := nbN_lt m z (n := n) (by omega) k fun i hi => h3 i (by omega)
   have hi := fun s => (ih (k + 1) s (by omega) (by omega)).2
   refine ⟨?_, fun v7 v8 => ?_⟩
   ·exact of_round1 r L fs n b off len cap m hm z hz hl k c _ _ hx hy (by omega) (by omega) _ (nbN_len m z k) hw s _ _ _ R fun s v7 v8 => hi s v7 v8
   ·exact of_round2 r L fs n b off len cap m hm z hz hl k c _ _ hx hy (by omega) (by omega) _ (nbN_len m z k) hw v7 v8 s _ _ _ R fun s v7 v8 => hi s v7 v8
  ·have c1 : ¬ (k : Int) < Int.ofNat len := by simp; omega
   have e : k = len := by omega
   subst e
   refine ⟨?_, fun v7 v8 => ?_⟩
   ·rw [ofB1, dF c1, cond_false]
    exact hX _ _ .nil .nil
   ·rw [ofB2, dF c1, cond_false]
    exact hX _ _ (oO7 v7) (oO8 v8)
theorem cOf_eq : cOf = .seq (lc cOf) (.seq (lc (rc cOf)) (.seq (.seq (lc (lc (rc (rc cOf)))) (.block 0 (.loop (ic (ic (rc (lc (rc (rc cOf))))))))) (rc (rc (rc cOf))))) := by kernel_rfl
def mskOf : Tr Nat := Tr.nil.put 6 (some 499)
theorem of_ok (r : Mem) (m : Nat) (h1 : 1 ≤ m) (hm : m ≤ 16) (b off len cap : Nat) (z : Nat → Int) (hz : rowAt r b off (2 * len) z) (hl : len ≤ 1000000) (hok : okAll m z len = true) :
  GrM Tryd.prog r 6 [I m, RS2 b off len cap] (.slice (some ⟨0, 0, none⟩) m m) (rowA (m_ws (nbN m z len)) 3 1) := by
 refine GrM.of (SC_ok r) TOk.nil mskOf ⟨len + 1, 1, ?_⟩
 rw [enterN (m := 499) (n := 48) (rs := [.tmp 4]) cOf rfl (by kernel_rfl) (by kernel_rfl) (by kernel_rfl) (by kernel_rfl) (by kernel_rfl) rfl]
 generalize hk : finK (SC r) 499 [.tmp 4] finM = kr
 have c0 : 0 ≤ (m : Int) := by omega
 have c1 : Nat.ble m m = true := Nat.ble_eq_true_of_le (Nat.le_refl _)
 have c2 : Nat.ble m 1000000 = true := Nat.ble_eq_true_of_le (by omega)
 rw [cOf_eq, seqA, run_pre, run_while, ofA, dT c0, cond_true, cond_true, Int.toNat_natCast, c1, cond_true, c2, cond_true]
 have e0 : zerosL (Nat.mul m 1) [Value.int IntKind.i64 (Int.ofNat 0)] = m_ws (nbN m z 0) := by
  show List.replicate (Nat.mul m 1) _ = m_ws (List.replicate m 0)
  simp [m_ws]
 rw [e0]
 refine (of_loop r _ _ _ _ m b off len cap m rfl hm z hz hl hok _ (fun s i l7 l8 => ?_) _ 0 _ (Nat.zero_le _) (by omega)).1
 refine (ofC r _ _ m _ m i l7 l8 _ s _ _ _).trans ?_
 rw [← hk]
 have hg := ws_gnd (nbN m z len)
 have hu : Nat.beq m unkE = false := by
  cases e : Nat.beq m unkE with
  | false => rfl
  | true =>
   have := Nat.eq_of_beq_eq_true e
   unfold unkE at this
   omega
 show finM (.slice (some ⟨0, 0, none⟩) m m) (AOf (m_ws (nbN m z len))) = _
 have e1 : rowOf (.slice (some ⟨0, 0, none⟩) m m) = some 0 := by simp only [rowOf, row1, hu, Bool.false_and]
 unfold finM
 rw [e1]
 show guardK (gnds (m_ws (nbN m z len))) _ = _
 rw [hg]
 rfl
end Go.Proofs
namespace Go.Proofs
open Go Go.Ev Go.Num
noncomputable def cLi : Code := bodyOf S0 21
noncomputable def Li_0 : Code := (lc cLi)
noncomputable def Li_1 : Code := (lc (rc cLi))
noncomputable def Li_2 : Code := (lc (lc (rc (rc cLi))))
noncomputable def Li_3 : Code := (lc (ic (ic (rc (lc (rc (rc cLi)))))))
noncomputable def Li_4 : Code := (lc (ic (lc (rc (ic (ic (rc (lc (rc (rc cLi))))))))))
noncomputable def Li_5 : Code := (ic (ic (rc (ic (lc (rc (ic (ic (rc (lc (rc (rc cLi))))))))))))
noncomputable def Li_6 : Code := (rc (rc (ic (ic (rc (lc (rc (rc cLi))))))))
noncomputable def Li_7 : Code := (rc (rc (rc cLi)))
theorem Li_eq : cLi = (.seq Li_0 (.seq Li_1 (.seq (.seq Li_2 (.block 0 (.loop (.seq Li_3 (.seq (.block 1 (.seq Li_4 (.block 2 (.loop Li_5)))) Li_6))))) Li_7))) := by kernel_rfl
def lvLi : List Nat := [0, 3, 4]
def lvLj : List Nat := [0, 3, 4, 5]
theorem liA (r : Mem) (b off m cap : Nat) (fs : FnsC) (K : OV → List Nat → OO → CR) (kx : Nat → KS) (kr : KS) : run (SC r) 61 35 1 (.seq Li_0 (.seq Li_1 Li_2)) fs none (rbK 0 lvLi [] K) kx kr (sc0 61 [RS b off m cap]) (tr0 61 [RS b off m cap]) [] emptyA =
    K [some (.slice (some ⟨b, off, some 0⟩) m cap), some (.slice none 0 0), some (I (Int.ofNat 0))] [] [] := by kernel_rfl
theorem liB1 (r : Mem) (b off m cap : Nat) (i : Int) (fs : FnsC) (K : OV → List Nat → OO → CR) (KX : Nat → OV → List Nat → OO → CR) (kr : KS) : run (SC r) 61 35 1 Li_3 fs none (rbK 0 lvLi [] K) (fun i => rbK 0 [3] [] (KX i)) kr [] (bT lvLi [some (RS b off m cap), some (.slice none 0 0), some (I i)] .nil) [] (mkA []) =
    bif decide (i < Int.ofNat m) then K [some (.slice (some ⟨b, off, some 0⟩) m cap), some (.slice none 0 0), some (I i)] [] [] else KX 0 [some (.slice none 0 0)] [] [] := by kernel_rfl
theorem liB2 (r : Mem) (b off m cap k : Nat) (i : Int) (c : List Value) (fs : FnsC) (K : OV → List Nat → OO → CR) (KX : Nat → OV → List Nat → OO → CR) (kr : KS) : run (SC r) 61 35 1 Li_3 fs none (rbK 0 lvLi [] K) (fun i => rbK 0 [3] [] (KX i)) kr [] (bT lvLi [some (RS b off m cap), some (.slice (some ⟨0, 0, none⟩) k unk), some (I i)] .nil) [] (mkA [some (.cells c 52 0 2)]) =
    bif decide (i < Int.ofNat m) then bif m_nns c && true then K [some (.slice (some ⟨b, off, some 0⟩) m cap), some (.slice (some ⟨0, 0, none⟩) k unk), some (I i)] [] [some (.cells c 52 0 2)] else .fail 420 else bif m_nns c && true then KX 0 [some (.slice (some ⟨0, 0, none⟩) k unk)] [] [some (.cells c 52 0 2)] else .fail 420 := by kernel_rfl
theorem liC1 (r : Mem) (b off m cap : Nat) (i : Int) (fs : FnsC) (K : OV → List Nat → OO → CR) (kx : Nat → KS) (kr : KS) : run (SC r) 61 35 1 Li_4 fs none (rbK 0 lvLj [] K) kx kr [] (bT lvLi [some (RS b off m cap), some (.slice none 0 0), some (I i)] .nil) [] (mkA []) =
    K [some (.slice (some ⟨b, off, some 0⟩) m cap), some (.slice none 0 0), some (I i), some (I (IntKind.wrap .i64 (i + Int.ofNat 1)))] [] [] := by kernel_rfl
theorem liC2 (r : Mem) (b off m cap k : Nat) (i : Int) (c : List Value) (fs : FnsC) (K : OV → List Nat → OO → CR) (kx : Nat → KS) (kr : KS) : run (SC r) 61 35 1 Li_4 fs none (rbK 0 lvLj [] K) kx kr [] (bT lvLi [some (RS b off m cap), some (.slice (some ⟨0, 0, none⟩) k unk), some (I i)] .nil) [] (mkA [some (.cells c 52 0 2)]) =
    bif m_nns c && true then K [some (.slice (some ⟨b, off, some 0⟩) m cap), some (.slice (some ⟨0, 0, none⟩) k unk), some (I i), some (I (IntKind.wrap .i64 (i + Int.ofNat 1)))] [] [some (.cells c 52 0 2)] else .fail 420 := by kernel_rfl
theorem liD1 (r : Mem) (b off m cap : Nat) (i j : Int) (fs : FnsC) (K : OV → List Nat → OO → CR) (KX : Nat → OV → List Nat → OO → CR) (kr : KS) : run (SC r) 61 35 1 Li_5 fs none (rbK 0 lvLj [] K) (fun i => rbK 0 lvLi [] (KX i)) kr [] (bT lvLj [some (RS b off m cap), some (.slice none 0 0), some (I i), some (I j)] .nil) [] (mkA []) =
    bif decide (j < Int.ofNat m) then bif decide (0 ≤ i) then bif Nat.blt (Int.toNat i) m then Option.casesOn (r b (Nat.add off (Nat.mul (Int.toNat i) 1))) (.fail 423) fun val => bif isI IntKind.i64 val then bif !decide (j < 0) then bif Int.tmod (Int.fdiv (ofI val) (Int.ofNat 2 ^ min (Int.toNat j) 64)) (Int.ofNat 2) == Int.ofNat 1 then K [some (.slice (some ⟨b, off, some 0⟩) m cap), some (.slice (some ⟨0, 0, none⟩) 1 unk), some (I i), some (I (IntKind.wrap .i64 (j + Int.ofNat 1)))] [] [some (.cells [I i, I j] 52 0 2)] else K [some (.slice (some ⟨b, off, some 0⟩) m cap), some (.slice none 0 0), some (I i), some (I (IntKind.wrap .i64 (j + Int.ofNat 1)))] [] [] else .fail 420 else .fail 420 else .fail 420 else .fail 420 else KX 2 [some (.slice (some ⟨b, off, some 0⟩) m cap), some (.slice none 0 0), some (I i)] [] [] := by kernel_rfl
theorem liD2 (r : Mem) (b off m cap k : Nat) (i j : Int) (c : List Value) (fs : FnsC) (K : OV → List Nat → OO → CR) (KX : Nat → OV → List Nat → OO → CR) (kr : KS) : run (SC r) 61 35 1 Li_5 fs none (rbK 0 lvLj [] K) (fun i => rbK 0 lvLi [] (KX i)) kr [] (bT lvLj [some (RS b off m cap), some (.slice (some ⟨0, 0, none⟩) k unk), some (I i), some (I j)] .nil) [] (mkA [some (.cells c 52 0 2)]) =
    bif decide (j < Int.ofNat m) then bif decide (0 ≤ i) then bif Nat.blt (Int.toNat i) m then Option.casesOn (r b (Nat.add off (Nat.mul (Int.toNat i) 1))) (.fail 423) fun val => bif isI IntKind.i64 val then bif !decide (j < 0) then bif Int.tmod (Int.fdiv (ofI val) (Int.ofNat 2 ^ min (Int.toNat j) 64)) (Int.ofNat 2) == Int.ofNat 1 then bif Nat.ble (Nat.add k 1) 1000000 then Option.casesOn (takeAt c 0 (Nat.mul k 2)) (.fail 439) fun val => bif m_nns (val ++ [I i, I j]) && true then K [some (.slice (some ⟨b, off, some 0⟩) m cap), some (.slice (some ⟨0, 0, none⟩) (Nat.add k 1) unk), some (I i), some (I (IntKind.wrap .i64 (j + Int.ofNat 1)))] [] [some (.cells (val ++ [I i, I j]) 52 0 2)] else .fail 420 else .fail 420 else bif m_nns c && true then K [some (.slice (some ⟨b, off, some 0⟩) m cap), some (.slice (some ⟨0, 0, none⟩) k unk), some (I i), some (I (IntKind.wrap .i64 (j + Int.ofNat 1)))] [] [some (.cells c 52 0 2)] else .fail 420 else .fail 420 else .fail 420 else .fail 420 else .fail 420 else bif m_nns c && true then KX 2 [some (.slice (some ⟨b, off, some 0⟩) m cap), some (.slice (some ⟨0, 0, none⟩) k unk), some (I i)] [] [some (.cells c 52 0 2)] else .fail 420 := by kernel_rfl
theorem liE1 (r : Mem) (b off m cap : Nat) (i : Int) (fs : FnsC) (K : OV → List Nat → OO → CR) (kx : Nat → KS) (kr : KS) : run (SC r) 61 35 1 Li_6 fs none (rbK 0 lvLi [] K) kx kr [] (bT lvLi [some (RS b off m cap), some (.slice none 0 0), some (I i)] .nil) [] (mkA []) =
    K [some (.slice (some ⟨b, off, some 0⟩) m cap), some (.slice none 0 0), some (I (IntKind.wrap .i64 (i + Int.ofNat 1)))] [] [] := by kernel_rfl
theorem liE2 (r : Mem) (b off m cap k : Nat) (i : Int) (c : List Value) (fs : FnsC) (K : OV → List Nat → OO → CR) (kx : Nat → KS) (kr : KS) : run (SC r) 61 35 1 Li_6 fs none (rbK 0 lvLi [] K) kx kr [] (bT lvLi [some (RS b off m cap), some (.slice (some ⟨0, 0, none⟩) k unk), some (I i)] .nil) [] (mkA [some (.cells c 52 0 2)]) =
    bif m_nns c && true then K [some (.slice (some ⟨b, off, some 0⟩) m cap), some (.slice (some ⟨0, 0, none⟩) k unk), some (I (IntKind.wrap .i64 (i + Int.ofNat 1)))] [] [some (.cells c 52 0 2)] else .fail 420 := by kernel_rfl
theorem liF1 (r : Mem) (fs : FnsC) (K KR : OV → List Nat → OO → CR) (kx : Nat → KS) : run (SC r) 61 35 1 Li_7 fs none (rbK 0 [2] [] K) kx (rbK 0 [2] [] KR) [] (bT [3] [some (.slice none 0 0)] .nil) [] (mkA []) =
    KR [some (.slice none 0 0)] [] [] := by kernel_rfl
theorem liF2 (r : Mem) (k : Nat) (c : List Value) (fs : FnsC) (K KR : OV → List Nat → OO → CR) (kx : Nat → KS) : run (SC r) 61 35 1 Li_7 fs none (rbK 0 [2] [] K) kx (rbK 0 [2] [] KR) [] (bT [3] [some (.slice (some ⟨0, 0, none⟩) k unk)] .nil) [] (mkA [some (.cells c 52 0 2)]) =
    bif m_nns c && true then KR [some (.slice (some ⟨0, 0, none⟩) k unk)] [] [some (.cells c 52 0 2)] else .fail 420 := by kernel_rfl
end Go.Proofs
namespace Go.Proofs
open Go Go.Ev
end Go.Proofs
namespace Go.Num
def popN : Nat → Nat → Nat
 | 0, _ => 0
 | f + 1, m => if m = 0 then 0 else m % 2 + popN f (m / 2)
end Go.Num
namespace Go.Proofs
open Go Go.Ev Go.Num
theorem shr_nat (m i : Nat) (h : i ≤ 64) : Int.fdiv (m : Int) (Int.ofNat 2 ^ min i 64) = ((m / 2 ^ i : Nat) : Int) := by
 rw [Nat.min_eq_left h, Int.fdiv_eq_ediv_of_nonneg _ (by exact Int.pow_nonneg (by decide))]
 have : (Int.ofNat 2 ^ i : Int) = ((2 ^ i : Nat) : Int) := by simp
 rw [this]
 exact (Int.natCast_ediv m (2 ^ i)).symm
abbrev P0 (i : Nat) : Value := .pointer (some ⟨i, 0, none⟩)
def eU1 (g : Int → Bool) (v : Int → Value) : Ent := ent (fun args _ => match args with | [.int .u64 a] => g a | _ => false) (fun args _ => match args with | [.int .u64 a] => v a | _ => undef)
theorem eU1_ok {C : Cfg} {f : Nat} {g : Int → Bool} {v : Int → Value} (h : ∀ a, g a = true → GrT C.P C.ro f [.int .u64 a] (v a)) : EOk C f (eU1 g v) := EOk.ent fun args A hg => by
 split at hg
 ·exact (h _ hg).ro rfl A
 ·cases hg
end Go.Proofs
namespace Go.Num
def btN (w j : Nat) : Bool := w / 2 ^ j % 2 == 1
def rwE (w : Nat → Nat) (i : Nat) : Nat → List (Nat × Nat)
 | 0 => []
 | j + 1 => rwE w i j ++ (if i < j ∧ btN (w i) j = true then [(i, j)] else [])
def alE (w : Nat → Nat) (m : Nat) : Nat → List (Nat × Nat)
 | 0 => []
 | i + 1 => alE w m i ++ rwE w i m
theorem rwE_nil (w : Nat → Nat) (i : Nat) : ∀ j, j ≤ i + 1 → rwE w i j = []
 | 0, _ => rfl
 | j + 1, h => by rw [rwE, rwE_nil w i j (by omega), if_neg (by omega)]; rfl
theorem rwE_len (w : Nat → Nat) (i : Nat) : ∀ j, (rwE w i j).length ≤ j
 | 0 => Nat.le_refl _
 | j + 1 => by
  rw [rwE, List.length_append]
  have := rwE_len w i j
  split <;> simp <;> omega
theorem alE_len (w : Nat → Nat) (m : Nat) : ∀ i, (alE w m i).length ≤ i * m
 | 0 => by simp [alE]
 | i + 1 => by
  rw [alE, List.length_append, Nat.succ_mul]
  have := alE_len w m i
  have := rwE_len w i m
  omega
def lexE (p q : Nat × Nat) : Prop := p.1 < q.1 ∨ (p.1 = q.1 ∧ p.2 < q.2)
theorem rwE_mem (w : Nat → Nat) (i : Nat) : ∀ j, ∀ p ∈ rwE w i j, p.1 = i ∧ i < p.2 ∧ p.2 < j
 | 0, p, h => by cases h
 | j + 1, p, h => by
  rw [rwE, List.mem_append] at h
  rcases h with h | h
  ·have := rwE_mem w i j p h; omega
  ·split at h
   ·rename_i hc
    rw [List.mem_singleton] at h
    subst h
    exact ⟨rfl, hc.1, Nat.lt_succ_self _⟩
   ·cases h
theorem rwE_pw (w : Nat → Nat) (i : Nat) : ∀ j, (rwE w i j).Pairwise lexE
 | 0 => .nil
 | j + 1 => by
  rw [rwE, List.pairwise_append]
  refine ⟨rwE_pw w i j, ?_, fun p hp q hq => ?_⟩
  ·split
   ·exact List.pairwise_singleton _ _
   ·exact .nil
  ·split at hq
   ·rw [List.mem_singleton] at hq
    subst hq
    have := rwE_mem w i j p hp
    exact .inr ⟨this.1, this.2.2⟩
   ·cases hq
theorem alE_mem (w : Nat → Nat) (m : Nat) : ∀ i, ∀ p ∈ alE w m i, p.1 < i ∧ p.1 < p.2 ∧ p.2 < m
 | 0, p, h => by cases h
 | i + 1, p, h => by
  rw [alE, List.mem_append] at h
  rcases h with h | h
  ·have := alE_mem w m i p h; omega
  ·have := rwE_mem w i m p h; omega
theorem alE_pw (w : Nat → Nat) (m : Nat) : ∀ i, (alE w m i).Pairwise lexE
 | 0 => .nil
 | i + 1 => by
  rw [alE, List.pairwise_append]
  exact ⟨alE_pw w m i, rwE_pw w i m, fun p hp q hq => .inl (by have := alE_mem w m i p hp; have := rwE_mem w i m q hq; omega)⟩
def zE (l : List (Nat × Nat)) (j : Nat) : Int := if j % 2 = 0 then ((l.getD (j / 2) (0, 0)).1 : Nat) else ((l.getD (j / 2) (0, 0)).2 : Nat)
theorem zE_a (l : List (Nat × Nat)) (i : Nat) : ea (zE l) i = ((l.getD i (0, 0)).1 : Nat) := by
 unfold ea zE
 rw [if_pos (by omega), show 2 * i / 2 = i by omega]
theorem zE_b (l : List (Nat × Nat)) (i : Nat) : eb (zE l) i = ((l.getD i (0, 0)).2 : Nat) := by
 unfold eb zE
 rw [if_neg (by omega), show (2 * i + 1) / 2 = i by omega]
theorem okFrom_of {n : Int} {z : Nat → Int} : ∀ (j k : Nat), (∀ i, k ≤ i → i < k + j → okAt n z i = true) → okFrom n z j k = true
 | 0, _, _ => rfl
 | j + 1, k, h => by
  rw [okFrom, h k (by omega) (by omega), okFrom_of j (k + 1) fun i h1 h2 => h i (by omega) (by omega)]
  rfl
theorem okE {l : List (Nat × Nat)} {m : Nat} (h1 : ∀ p ∈ l, p.1 < p.2 ∧ p.2 < m) (h2 : l.Pairwise lexE) : okAll (m : Int) (zE l) l.length = true := by
 refine okFrom_of _ _ fun i _ hi => ?_
 have hi' : i < l.length := by omega
 have g : ∀ k, k < l.length → l.getD k (0, 0) ∈ l := fun k hk => by
  rw [List.getD_eq_getElem?_getD, List.getElem?_eq_getElem hk]
  exact List.getElem_mem hk
 have hp := h1 _ (g i hi')
 unfold okAt
 rw [zE_a, zE_b]
 simp only [Bool.and_eq_true, Bool.or_eq_true, decide_eq_true_eq, beq_iff_eq]
 refine ⟨⟨⟨by omega, by omega⟩, by omega⟩, ?_⟩
 cases i with
 | zero => exact .inl (.inl rfl)
 | succ k =>
  have hl : lexE (l.getD k (0, 0)) (l.getD (k + 1) (0, 0)) := by
   have := List.pairwise_iff_getElem.mp h2 k (k + 1) (by omega) hi' (by omega)
   rw [List.getD_eq_getElem?_getD, List.getD_eq_getElem?_getD, List.getElem?_eq_getElem (show k < l.length by omega), List.getElem?_eq_getElem hi']
   exact this
  rw [Nat.add_sub_cancel, zE_a, zE_b]
  unfold lexE at hl
  rcases hl with hl | ⟨hl, hl'⟩
  ·exact .inl (.inr (by omega))
  ·exact .inr ⟨by omega, by omega⟩
theorem alE_ok (w : Nat → Nat) (m : Nat) : okAll (m : Int) (zE (alE w m m)) (alE w m m).length = true := okE (fun p hp => (alE_mem w m m p hp).2) (alE_pw w m m)
end Go.Num
namespace Go.Proofs
open Go Go.Ev Go.Num
theorem takeL_all (c : List Value) (n : Nat) (h : c.length = n) : takeAt c 0 n = some c := by
 rw [takeAt_old]
 subst h
 induction c with
 | nil => rfl
 | cons x c ih => simp only [takeA0, List.length_cons, ih]
def pcE : List (Nat × Nat) → List Value
 | [] => []
 | p :: l => I (p.1 : Nat) :: I (p.2 : Nat) :: pcE l
theorem pcE_len : ∀ l, (pcE l).length = 2 * l.length
 | [] => rfl
 | p :: l => by show (pcE l).length + 1 + 1 = 2 * (l.length + 1); rw [pcE_len l]; omega
theorem pcE_app : ∀ l l', pcE (l ++ l') = pcE l ++ pcE l'
 | [], _ => rfl
 | p :: l, l' => by show I (p.1 : Nat) :: I (p.2 : Nat) :: pcE (l ++ l') = _; rw [pcE_app l l']; rfl
theorem pcE_nn : ∀ l, m_nns (pcE l) = true
 | [] => rfl
 | p :: l => pcE_nn l
theorem pcE_gnd : ∀ l, gnds (pcE l) = true
 | [] => rfl
 | p :: l => pcE_gnd l
theorem pcE_get : ∀ (l : List (Nat × Nat)) (j : Nat), j < 2 * l.length → (pcE l)[j]? = some (I (zE l j))
 | [], j, h => by simp at h
 | p :: l, 0, _ => rfl
 | p :: l, 1, _ => rfl
 | p :: l, j + 2, h => by
  show (pcE l)[j]? = _
  rw [pcE_get l j (by simp at h; omega)]
  unfold zE
  rw [show (j + 2) % 2 = j % 2 by omega, show (j + 2) / 2 = j / 2 + 1 by omega, List.getD_cons_succ]
def vL : List (Nat × Nat) → Value
 | [] => .slice none 0 0
 | _ :: l => .slice (some ⟨0, 0, none⟩) (l.length + 1) unk
def oL : List (Nat × Nat) → OO
 | [] => []
 | p :: l => [some (.cells (pcE (p :: l)) 52 0 2)]
def liV (b off m cap : Nat) (l : List (Nat × Nat)) (i : Nat) : OV := [some (RS b off m cap), some (vL l), some (I (i : Nat))]
def liW (b off m cap : Nat) (l : List (Nat × Nat)) (i j : Nat) : OV := [some (RS b off m cap), some (vL l), some (I (i : Nat)), some (I (j : Nat))]
theorem listed_ok (r : Mem) (b off m cap : Nat) (w : Nat → Nat) (hr : ∀ k, k < m → r b (off + k) = some (I (w k : Nat))) (hm : m ≤ 16) :
  SOk (SC r) 21 [RS b off m cap] emptyA fun v A => v = vL (alE w m m) ∧ A = mkA (oL (alE w m m)) := by
 refine callLL (SC_ok r) (by kernel_rfl) ((bodySC r _).trans Li_eq) (nt := 35) (by kernel_rfl) (rs := [.tmp 2]) (by kernel_rfl) 61 rfl (.step (.step .base)) TOk.nil (tm := .nil) (L := 1) (d := 1) lvLi []
  (fun d vs ms os => ∃ i, i ≤ m ∧ d = m - i ∧ ∃ l, l = alE w m i ∧ vs = liV b off m cap l i ∧ ms = [] ∧ os = oL l)
  ⟨[3], [], fun vs ms os => ∃ l, l = alE w m m ∧ vs = [some (vL l)] ∧ ms = [] ∧ os = oL l⟩
  ⟨[2], [], fun vs ms os => ∃ l, l = alE w m m ∧ vs = [some (vL l)] ∧ ms = [] ∧ os = oL l⟩
  (fun d => ⟨lvLi, [], fun vs ms os => ∃ i, i < m ∧ d = m - i ∧ ∃ l, l = alE w m i ∧ vs = liV b off m cap l i ∧ ms = [] ∧ os = oL l⟩)
  lvLj [] (fun d e vs ms os => ∃ i, i < m ∧ d = m - i ∧ ∃ j, j ≤ m ∧ e = m - j ∧ ∃ l, l = alE w m i ++ rwE w i j ∧ i < j ∧ vs = liW b off m cap l i j ∧ ms = [] ∧ os = oL l)
  (fun d => ⟨lvLi, [], fun vs ms os => ∃ i, i < m ∧ d = m - i ∧ ∃ l, l = alE w m (i + 1) ∧ vs = liV b off m cap l i ∧ ms = [] ∧ os = oL l⟩)
  ?_ ?_ ?_ ?_ ?_ ?_ ?_
 ·exact (liA r b off m cap _ _ _ _).trans (qq_ok ⟨m, 0, Nat.zero_le _, rfl, [], rfl, rfl, rfl, rfl⟩)
 ·rintro d vs ms os ⟨i, hi, rfl, l, hl, rfl, rfl, rfl⟩
  refine ⟨_, TOk.nil, .nil, 1, 1, 1, ?_⟩
  by_cases c : i < m
  ·have c1 : (i : Int) < Int.ofNat m := by simp; omega
   cases l with
   | nil =>
    have hn := liB1 r b off m cap i
    simp only [dT c1, cond_true] at hn
    exact (hn _ _ _ _).trans (qq_ok ⟨i, c, rfl, [], hl, rfl, rfl, rfl⟩)
   | cons p l =>
    have hn := liB2 r b off m cap (l.length + 1) i (pcE (p :: l))
    simp only [dT c1, cond_true, pcE_nn, Bool.and_true] at hn
    exact (hn _ _ _ _).trans (qq_ok ⟨i, c, rfl, p :: l, hl, rfl, rfl, rfl⟩)
  ·obtain rfl : i = m := by omega
   have c1 : ¬ (i : Int) < Int.ofNat i := by simp
   cases l with
   | nil =>
    have hn := liB1 r b off i cap i
    simp only [dF c1, cond_false] at hn
    exact (hn _ _ _ _).trans (qq_ok ⟨[], hl, rfl, rfl, rfl⟩)
   | cons p l =>
    have hn := liB2 r b off i cap (l.length + 1) i (pcE (p :: l))
    simp only [dF c1, cond_false, cond_true, pcE_nn, Bool.and_true] at hn
    exact (hn _ _ _ _).trans (qq_ok ⟨p :: l, hl, rfl, rfl, rfl⟩)
 ·rintro d vs ms os ⟨i, hi, rfl, l, hl, rfl, rfl, rfl⟩
  refine ⟨_, TOk.nil, .nil, 1, 1, 1, ?_⟩
  have e3 : IntKind.wrap IntKind.i64 ((i : Int) + Int.ofNat 1) = ((i + 1 : Nat) : Int) := by rw [wrI (by simp; omega)]; simp
  have hl' : l = alE w m i ++ rwE w i (i + 1) := by rw [rwE_nil w i (i + 1) (Nat.le_refl _), List.append_nil]; exact hl
  cases l with
  | nil =>
   have hn := liC1 r b off m cap i
   simp only [e3] at hn
   exact (hn _ _ _ _).trans (qq_ok ⟨m - (i + 1), i, hi, rfl, i + 1, hi, rfl, [], hl', Nat.lt_succ_self _, rfl, rfl, rfl⟩)
  | cons p l =>
   have hn := liC2 r b off m cap (l.length + 1) i (pcE (p :: l))
   simp only [e3, pcE_nn, Bool.and_true, cond_true] at hn
   exact (hn _ _ _ _).trans (qq_ok ⟨m - (i + 1), i, hi, rfl, i + 1, hi, rfl, p :: l, hl', Nat.lt_succ_self _, rfl, rfl, rfl⟩)
 ·rintro d e vs ms os ⟨i, hi, rfl, j, hj, rfl, l, hl, hij, rfl, rfl, rfl⟩
  refine ⟨_, TOk.nil, .nil, 1, 1, 1, ?_⟩
  by_cases c : j < m
  ·have c1 : (j : Int) < Int.ofNat m := by simp; omega
   have c2 : 0 ≤ (i : Int) := by omega
   have c3 : Nat.blt i m = true := Nat.ble_eq_true_of_le hi
   have c4 : ¬ (j : Int) < 0 := by omega
   have e1 : r b (Nat.add off (Nat.mul i 1)) = some (I (w i : Nat)) := by rw [Nat.mul_eq, Nat.mul_one]; exact hr i hi
   have e2 : (Int.tmod (Int.fdiv (w i : Nat) (Int.ofNat 2 ^ min j 64)) (Int.ofNat 2) == Int.ofNat 1) = btN (w i) j := by
    rw [shr_nat (w i) j (by omega)]
    unfold btN
    have : ∀ x : Nat, Int.tmod (x : Int) (Int.ofNat 2) = ((x % 2 : Nat) : Int) := fun x => by
     show Int.tmod (x : Int) 2 = _
     rw [Int.tmod_eq_emod_of_nonneg (by omega)]
     omega
    rw [this]
    rcases Nat.mod_two_eq_zero_or_one (w i / 2 ^ j) with h | h <;> rw [h] <;> rfl
   have e3 : IntKind.wrap IntKind.i64 ((j : Int) + Int.ofNat 1) = ((j + 1 : Nat) : Int) := by rw [wrI (by simp; omega)]; simp
   have hlen : l.length ≤ 300 := by
    have h1 := alE_len w m i
    have h2 := rwE_len w i j
    have h3 : i * m ≤ 16 * 16 := Nat.mul_le_mul (by omega) (by omega)
    rw [hl, List.length_append]
    omega
   have st : ∀ l', l' = alE w m i ++ rwE w i (j + 1) → ∃ i', i' < m - j ∧ ∃ i'', i'' < m ∧ m - i = m - i'' ∧ ∃ j', j' ≤ m ∧ i' = m - j' ∧ ∃ l, l = alE w m i'' ++ rwE w i'' j' ∧ i'' < j' ∧ liW b off m cap l' i (j + 1) = liW b off m cap l i'' j' ∧ ([] : List Nat) = [] ∧ oL l' = oL l := fun l' hl' => ⟨m - (j + 1), by omega, i, hi, rfl, j + 1, c, rfl, l', hl', by omega, rfl, rfl, rfl⟩
   cases hb : btN (w i) j with
   | true =>
    have hs : rwE w i (j + 1) = rwE w i j ++ [(i, j)] := by rw [rwE, if_pos ⟨hij, hb⟩]
    cases l with
    | nil =>
     have hn := liD1 r b off m cap i j
     simp only [dT c1, dT c2, dF c4, Bool.not_false, cond_true, Int.toNat_natCast, c3, e1, show isI IntKind.i64 (I (w i : Nat)) = true from rfl, show ofI (I (w i : Nat)) = ((w i : Nat) : Int) from rfl, e2, hb, e3] at hn
     exact (hn _ _ _ _).trans (qq_ok (st [(i, j)] (by rw [hs, ← List.append_assoc, ← hl]; rfl)))
    | cons p l =>
     have hn := liD2 r b off m cap (l.length + 1) i j (pcE (p :: l))
     have m1 : Nat.ble ((l ++ [(i, j)]).length + 1) 1000000 = true := Nat.ble_eq_true_of_le (by simp at hlen ⊢; omega)
     have tk : takeAt (pcE (p :: l)) 0 (Nat.mul (l.length + 1) 2) = some (pcE (p :: l)) := takeL_all _ _ (by rw [pcE_len]; simp [Nat.mul_comm])
     have ap : pcE (p :: l) ++ [I (i : Nat), I (j : Nat)] = pcE (p :: (l ++ [(i, j)])) := by rw [show p :: (l ++ [(i, j)]) = (p :: l) ++ [(i, j)] from rfl, pcE_app]; rfl
     have al : Nat.add (l.length + 1) 1 = (l ++ [(i, j)]).length + 1 := by simp
     simp only [dT c1, dT c2, dF c4, Bool.not_false, cond_true, Int.toNat_natCast, c3, e1, show isI IntKind.i64 (I (w i : Nat)) = true from rfl, show ofI (I (w i : Nat)) = ((w i : Nat) : Int) from rfl, e2, hb, e3, m1, tk, ap, al, pcE_nn, Bool.and_true] at hn
     exact (hn _ _ _ _).trans (qq_ok (st (p :: (l ++ [(i, j)])) (by rw [hs, ← List.append_assoc, ← hl]; rfl)))
   | false =>
    have hs : rwE w i (j + 1) = rwE w i j := by rw [rwE, if_neg (by simp [hb]), List.append_nil]
    cases l with
    | nil =>
     have hn := liD1 r b off m cap i j
     simp only [dT c1, dT c2, dF c4, Bool.not_false, cond_true, cond_false, Int.toNat_natCast, c3, e1, show isI IntKind.i64 (I (w i : Nat)) = true from rfl, show ofI (I (w i : Nat)) = ((w i : Nat) : Int) from rfl, e2, hb, e3] at hn
     exact (hn _ _ _ _).trans (qq_ok (st [] (by rw [hs]; exact hl)))
    | cons p l =>
     have hn := liD2 r b off m cap (l.length + 1) i j (pcE (p :: l))
     simp only [dT c1, dT c2, dF c4, Bool.not_false, cond_true, cond_false, Int.toNat_natCast, c3, e1, show isI IntKind.i64 (I (w i : Nat)) = true from rfl, show ofI (I (w i : Nat)) = ((w i : Nat) : Int) from rfl, e2, hb, e3, pcE_nn, Bool.and_true] at hn
     exact (hn _ _ _ _).trans (qq_ok (st (p :: l) (by rw [hs]; exact hl)))
  ·obtain rfl : j = m := by omega
   have c1 : ¬ (j : Int) < Int.ofNat j := by simp
   cases l with
   | nil =>
    have hn := liD1 r b off j cap i j
    simp only [dF c1, cond_false] at hn
    exact (hn _ _ _ _).trans (qq_ok ⟨i, hi, rfl, [], hl, rfl, rfl, rfl⟩)
   | cons p l =>
    have hn := liD2 r b off j cap (l.length + 1) i j (pcE (p :: l))
    simp only [dF c1, cond_false, cond_true, pcE_nn, Bool.and_true] at hn
    exact (hn _ _ _ _).trans (qq_ok ⟨i, hi, rfl, p :: l, hl, rfl, rfl, rfl⟩)
 ·rintro d vs ms os ⟨i, hi, rfl, l, hl, rfl, rfl, rfl⟩
  refine ⟨_, TOk.nil, .nil, 1, 1, 1, ?_⟩
  have e3 : IntKind.wrap IntKind.i64 ((i : Int) + Int.ofNat 1) = ((i + 1 : Nat) : Int) := by rw [wrI (by simp; omega)]; simp
  cases l with
  | nil =>
   have hn := liE1 r b off m cap i
   simp only [e3] at hn
   exact (hn _ _ _ _).trans (qq_ok ⟨m - (i + 1), by omega, i + 1, hi, rfl, [], hl, rfl, rfl, rfl⟩)
  | cons p l =>
   have hn := liE2 r b off m cap (l.length + 1) i (pcE (p :: l))
   simp only [e3, pcE_nn, Bool.and_true, cond_true] at hn
   exact (hn _ _ _ _).trans (qq_ok ⟨m - (i + 1), by omega, i + 1, hi, rfl, p :: l, hl, rfl, rfl, rfl⟩)
 ·rintro vs ms os ⟨l, hl, rfl, rfl, rfl⟩
  refine ⟨_, TOk.nil, .nil, 1, 1, 1, ?_⟩
  cases l with
  | nil => exact (liF1 r _ _ _ _).trans (qq_ok ⟨[], hl, rfl, rfl, rfl⟩)
  | cons p l =>
   have hn := liF2 r (l.length + 1) (pcE (p :: l))
   simp only [pcE_nn, Bool.and_true, cond_true] at hn
   exact (hn _ _ _ _).trans (qq_ok ⟨p :: l, hl, rfl, rfl, rfl⟩)
 ·rintro vs ms os ⟨l, rfl, rfl, rfl, rfl⟩
  generalize alE w m m = l
  cases l with
  | nil => exact ⟨_, mkA [], by kernel_rfl, rfl, rfl⟩
  | cons p l => exact ⟨_, mkA [some (.cells (pcE (p :: l)) 52 0 2)], by kernel_rfl, rfl, rfl⟩
end Go.Proofs
namespace Go.Proofs
open Go Go.Ev Go.Num
noncomputable def m_okC (c : List Value) (k len : Nat) : Bool := @decide (len ≤ 16 ∧ ∀ j, j < len → ∃ w : Nat, w < 65536 ∧ c[k + j]? = some (I (w : Nat))) (Classical.propDecidable _)
def wC (c : List Value) (k : Nat) : Nat := match c[k]? with
 | some (.int _ z) => z.toNat
 | _ => 0
def lsE (c : List Value) (k len : Nat) : List (Nat × Nat) := alE (fun j => wC c (k + j)) len len
def m_lsS (c : List Value) (k len : Nat) : Bool := !(lsE c k len).isEmpty
def m_lsC (c : List Value) (k len : Nat) : List Value := pcE (lsE c k len)
def m_lsN (c : List Value) (k len : Nat) : Nat := (lsE c k len).length
noncomputable def eLs : Ent := ⟨fun args A => match args with
  | [.slice (some ⟨i, k, none⟩) len cap] => match A.heap.get i with
   | some (.cells c _ _ _) => m_okC c k len && !Nat.beq cap unkE
   | _ => false
  | _ => false,
 fun args A => match args with
  | [.slice (some ⟨i, k, none⟩) len _] => match A.heap.get i with
   | some (.cells c _ _ _) => m_lsS c k len
   | _ => false
  | _ => false,
 fun args A => match args with
  | [.slice (some ⟨i, k, none⟩) len _] => match A.heap.get i with
   | some (.cells c _ _ _) => .slice (some ⟨A.next, 0, none⟩) (m_lsN c k len) unk
   | _ => undef
  | _ => undef,
 fun args A => match args with
  | [.slice (some ⟨i, k, none⟩) len _] => match A.heap.get i with
   | some (.cells c _ _ _) => A.new (.cells (m_lsC c k len) 52 A.next 2)
   | _ => A
  | _ => A,
 fun _ _ => .slice none 0 0, fun _ A => A⟩
noncomputable def tTa : Tbl := tcons 21 eLs fun _ => none
noncomputable def cTa : Code := bodyOf S0 5
noncomputable def Ta_0 : Code := (lc cTa)
noncomputable def Ta_1 : Code := (lc (rc cTa))
noncomputable def Ta_2 : Code := (lc (rc (rc cTa)))
noncomputable def Ta_3 : Code := (lc (lc (rc (rc (rc cTa)))))
noncomputable def Ta_4 : Code := (ic (ic (rc (lc (rc (rc (rc cTa)))))))
noncomputable def Ta_5 : Code := (rc (rc (rc (rc cTa))))
theorem Ta_eq : cTa = (.seq Ta_0 (.seq Ta_1 (.seq Ta_2 (.seq (.seq Ta_3 (.block 0 (.loop Ta_4))) Ta_5)))) := by kernel_rfl
def lvTa : List Nat := [0, 1, 8, 9]
theorem taA (r : Mem) (n most : Int) (b off len cap : Nat) (fs : FnsC) (K : OV → List Nat → OO → CR) (kx : Nat → KS) (kr : KS) : run (SC r) 4039 77 1 (.seq Ta_0 (.seq Ta_1 (.seq Ta_2 Ta_3))) fs none (rbK 0 lvTa [] K) kx kr (sc0 4039 [I n, RS2 b off len cap, I most]) (tr0 4039 [I n, RS2 b off len cap, I most]) [] emptyA =
    bif !decide (IntKind.wrap .u64 most = 0) then bif decide (0 ≤ IntKind.wrap .i64 (Int.ofNat 1 + IntKind.wrap .i64 (Int.tmod (IntKind.wrap .u64 n) (IntKind.wrap .u64 most)))) then bif decide (0 ≤ IntKind.wrap .i64 (Int.ofNat 1 + IntKind.wrap .i64 (Int.tmod (IntKind.wrap .u64 n) (IntKind.wrap .u64 most)))) then bif Nat.ble (Int.toNat (IntKind.wrap .i64 (Int.ofNat 1 + IntKind.wrap .i64 (Int.tmod (IntKind.wrap .u64 n) (IntKind.wrap .u64 most))))) (Int.toNat (IntKind.wrap .i64 (Int.ofNat 1 + IntKind.wrap .i64 (Int.tmod (IntKind.wrap .u64 n) (IntKind.wrap .u64 most))))) then bif Nat.ble (Int.toNat (IntKind.wrap .i64 (Int.ofNat 1 + IntKind.wrap .i64 (Int.tmod (IntKind.wrap .u64 n) (IntKind.wrap .u64 most))))) 1000000 then bif m_nns (zerosL (Nat.mul (Int.toNat (IntKind.wrap .i64 (Int.ofNat 1 + IntKind.wrap .i64 (Int.tmod (IntKind.wrap .u64 n) (IntKind.wrap .u64 most))))) 1) [I (Int.ofNat 0)]) && true then K [some (I (IntKind.wrap .i64 (Int.ofNat 1 + IntKind.wrap .i64 (Int.tmod (IntKind.wrap .u64 n) (IntKind.wrap .u64 most))))), some (.slice (some ⟨b, off, some 0⟩) len cap), some (.slice (some ⟨0, 0, none⟩) (Int.toNat (IntKind.wrap .i64 (Int.ofNat 1 + IntKind.wrap .i64 (Int.tmod (IntKind.wrap .u64 n) (IntKind.wrap .u64 most))))) (Int.toNat (IntKind.wrap .i64 (Int.ofNat 1 + IntKind.wrap .i64 (Int.tmod (IntKind.wrap .u64 n) (IntKind.wrap .u64 most)))))), some (I (Int.ofNat 0))] [] [some (.cells (zerosL (Nat.mul (Int.toNat (IntKind.wrap .i64 (Int.ofNat 1 + IntKind.wrap .i64 (Int.tmod (IntKind.wrap .u64 n) (IntKind.wrap .u64 most))))) 1) [I (Int.ofNat 0)]) 3 0 1)] else .fail 420 else .fail 420 else .fail 420 else .fail 420 else .fail 420 else .fail 420 := by kernel_rfl
theorem taZ (r : Mem) (n most : Int) (fs : FnsC) (K : OV → List Nat → OO → CR) (kx : Nat → KS) (kr : KS) : run (SC r) 4039 77 1 (.seq Ta_0 (.seq Ta_1 (.seq Ta_2 Ta_3))) fs none (rbK 0 lvTa [] K) kx kr (sc0 4039 [I n, .slice none 0 0, I most]) (tr0 4039 [I n, .slice none 0 0, I most]) [] emptyA =
    bif !decide (IntKind.wrap .u64 most = 0) then bif decide (0 ≤ IntKind.wrap .i64 (Int.ofNat 1 + IntKind.wrap .i64 (Int.tmod (IntKind.wrap .u64 n) (IntKind.wrap .u64 most)))) then bif decide (0 ≤ IntKind.wrap .i64 (Int.ofNat 1 + IntKind.wrap .i64 (Int.tmod (IntKind.wrap .u64 n) (IntKind.wrap .u64 most)))) then bif Nat.ble (Int.toNat (IntKind.wrap .i64 (Int.ofNat 1 + IntKind.wrap .i64 (Int.tmod (IntKind.wrap .u64 n) (IntKind.wrap .u64 most))))) (Int.toNat (IntKind.wrap .i64 (Int.ofNat 1 + IntKind.wrap .i64 (Int.tmod (IntKind.wrap .u64 n) (IntKind.wrap .u64 most))))) then bif Nat.ble (Int.toNat (IntKind.wrap .i64 (Int.ofNat 1 + IntKind.wrap .i64 (Int.tmod (IntKind.wrap .u64 n) (IntKind.wrap .u64 most))))) 1000000 then bif m_nns (zerosL (Nat.mul (Int.toNat (IntKind.wrap .i64 (Int.ofNat 1 + IntKind.wrap .i64 (Int.tmod (IntKind.wrap .u64 n) (IntKind.wrap .u64 most))))) 1) [I (Int.ofNat 0)]) && true then K [some (I (IntKind.wrap .i64 (Int.ofNat 1 + IntKind.wrap .i64 (Int.tmod (IntKind.wrap .u64 n) (IntKind.wrap .u64 most))))), some (.slice none 0 0), some (.slice (some ⟨0, 0, none⟩) (Int.toNat (IntKind.wrap .i64 (Int.ofNat 1 + IntKind.wrap .i64 (Int.tmod (IntKind.wrap .u64 n) (IntKind.wrap .u64 most))))) (Int.toNat (IntKind.wrap .i64 (Int.ofNat 1 + IntKind.wrap .i64 (Int.tmod (IntKind.wrap .u64 n) (IntKind.wrap .u64 most)))))), some (I (Int.ofNat 0))] [] [some (.cells (zerosL (Nat.mul (Int.toNat (IntKind.wrap .i64 (Int.ofNat 1 + IntKind.wrap .i64 (Int.tmod (IntKind.wrap .u64 n) (IntKind.wrap .u64 most))))) 1) [I (Int.ofNat 0)]) 3 0 1)] else .fail 420 else .fail 420 else .fail 420 else .fail 420 else .fail 420 else .fail 420 := by kernel_rfl
theorem taB (r : Mem) (b off len cap : Nat) (m : Nat) (i : Int) (g : List Value) (fs : FnsC) (K : OV → List Nat → OO → CR) (KX : Nat → OV → List Nat → OO → CR) (kr : KS) : run (SC r) 4039 77 1 Ta_4 fs none (rbK 0 lvTa [] K) (fun i => rbK 0 [0, 8] [] (KX i)) kr [] (bT lvTa [some (I m), some (RS2 b off len cap), some (.slice (some ⟨0, 0, none⟩) m m), some (I i)] .nil) [] (mkA [some (.cells g 3 0 1)]) =
    bif decide (i < Int.ofNat len) then bif decide (i < 60) then bif decide (0 ≤ i) then bif Nat.blt (Int.toNat i) len then Option.casesOn (r b (Nat.add (Nat.add off (Nat.mul (Int.toNat i) 2)) 0)) (.fail 423) fun val => bif isI IntKind.i64 val then bif !decide (IntKind.wrap .u64 (Int.ofNat m) = 0) then bif decide (0 ≤ i) then bif Nat.blt (Int.toNat i) len then Option.casesOn (r b (Nat.add (Nat.add off (Nat.mul (Int.toNat i) 2)) 1)) (.fail 423) fun val_1 => bif isI IntKind.i64 val_1 then bif !decide (IntKind.wrap .u64 (Int.ofNat m) = 0) then bif IntKind.wrap .i64 (Int.tmod (IntKind.wrap .u64 (ofI val)) (IntKind.wrap .u64 (Int.ofNat m))) != IntKind.wrap .i64 (Int.tmod (IntKind.wrap .u64 (ofI val_1)) (IntKind.wrap .u64 (Int.ofNat m))) then bif decide (0 ≤ IntKind.wrap .i64 (Int.tmod (IntKind.wrap .u64 (ofI val)) (IntKind.wrap .u64 (Int.ofNat m)))) then bif Nat.blt (Int.toNat (IntKind.wrap .i64 (Int.tmod (IntKind.wrap .u64 (ofI val)) (IntKind.wrap .u64 (Int.ofNat m))))) m then Option.casesOn g[Nat.add 0 (Nat.mul (Int.toNat (IntKind.wrap .i64 (Int.tmod (IntKind.wrap .u64 (ofI val)) (IntKind.wrap .u64 (Int.ofNat m))))) 1)]? (.fail 423) fun val_2 => bif isI IntKind.i64 val_2 then bif !decide (IntKind.wrap .i64 (Int.tmod (IntKind.wrap .u64 (ofI val_1)) (IntKind.wrap .u64 (Int.ofNat m))) < 0) then bif decide (0 ≤ IntKind.wrap .i64 (Int.tmod (IntKind.wrap .u64 (ofI val)) (IntKind.wrap .u64 (Int.ofNat m)))) then bif Nat.blt (Int.toNat (IntKind.wrap .i64 (Int.tmod (IntKind.wrap .u64 (ofI val)) (IntKind.wrap .u64 (Int.ofNat m))))) m then bif Nat.blt (Nat.add 0 (Nat.mul (Int.toNat (IntKind.wrap .i64 (Int.tmod (IntKind.wrap .u64 (ofI val)) (IntKind.wrap .u64 (Int.ofNat m))))) 1)) (List.length g) then Option.casesOn g[Nat.add 0 (Nat.mul (Int.toNat (IntKind.wrap .i64 (Int.tmod (IntKind.wrap .u64 (ofI val)) (IntKind.wrap .u64 (Int.ofNat m))))) 1)]? (.fail 423) fun val_3 => bif isI IntKind.i64 val_3 then bif m_eqv (I (ofI val_3)) (I (ofI val_2)) then bif decide (0 ≤ IntKind.wrap .i64 (Int.tmod (IntKind.wrap .u64 (ofI val_1)) (IntKind.wrap .u64 (Int.ofNat m)))) then bif Nat.blt (Int.toNat (IntKind.wrap .i64 (Int.tmod (IntKind.wrap .u64 (ofI val_1)) (IntKind.wrap .u64 (Int.ofNat m))))) m then Option.casesOn (List.set g (Nat.add 0 (Nat.mul (Int.toNat (IntKind.wrap .i64 (Int.tmod (IntKind.wrap .u64 (ofI val)) (IntKind.wrap .u64 (Int.ofNat m))))) 1)) (I (ibits BinOp.or IntKind.i64 (ofI val_2) (IntKind.wrap .i64 (Int.ofNat 1 * Int.ofNat 2 ^ min (Int.toNat (IntKind.wrap .i64 (Int.tmod (IntKind.wrap .u64 (ofI val_1)) (IntKind.wrap .u64 (Int.ofNat m))))) 64)))))[Nat.add 0 (Nat.mul (Int.toNat (IntKind.wrap .i64 (Int.tmod (IntKind.wrap .u64 (ofI val_1)) (IntKind.wrap .u64 (Int.ofNat m))))) 1)]? (.fail 423) fun val_4 => bif isI IntKind.i64 val_4 then bif !decide (IntKind.wrap .i64 (Int.tmod (IntKind.wrap .u64 (ofI val)) (IntKind.wrap .u64 (Int.ofNat m))) < 0) then bif decide (0 ≤ IntKind.wrap .i64 (Int.tmod (IntKind.wrap .u64 (ofI val_1)) (IntKind.wrap .u64 (Int.ofNat m)))) then bif Nat.blt (Int.toNat (IntKind.wrap .i64 (Int.tmod (IntKind.wrap .u64 (ofI val_1)) (IntKind.wrap .u64 (Int.ofNat m))))) m then bif Nat.blt (Nat.add 0 (Nat.mul (Int.toNat (IntKind.wrap .i64 (Int.tmod (IntKind.wrap .u64 (ofI val_1)) (IntKind.wrap .u64 (Int.ofNat m))))) 1)) (List.length (List.set g (Nat.add 0 (Nat.mul (Int.toNat (IntKind.wrap .i64 (Int.tmod (IntKind.wrap .u64 (ofI val)) (IntKind.wrap .u64 (Int.ofNat m))))) 1)) (I (ibits BinOp.or IntKind.i64 (ofI val_2) (IntKind.wrap .i64 (Int.ofNat 1 * Int.ofNat 2 ^ min (Int.toNat (IntKind.wrap .i64 (Int.tmod (IntKind.wrap .u64 (ofI val_1)) (IntKind.wrap .u64 (Int.ofNat m))))) 64)))))) then Option.casesOn (List.set g (Nat.add 0 (Nat.mul (Int.toNat (IntKind.wrap .i64 (Int.tmod (IntKind.wrap .u64 (ofI val)) (IntKind.wrap .u64 (Int.ofNat m))))) 1)) (I (ibits BinOp.or IntKind.i64 (ofI val_2) (IntKind.wrap .i64 (Int.ofNat 1 * Int.ofNat 2 ^ min (Int.toNat (IntKind.wrap .i64 (Int.tmod (IntKind.wrap .u64 (ofI val_1)) (IntKind.wrap .u64 (Int.ofNat m))))) 64)))))[Nat.add 0 (Nat.mul (Int.toNat (IntKind.wrap .i64 (Int.tmod (IntKind.wrap .u64 (ofI val_1)) (IntKind.wrap .u64 (Int.ofNat m))))) 1)]? (.fail 423) fun val_5 => bif isI IntKind.i64 val_5 then bif m_eqv (I (ofI val_5)) (I (ofI val_4)) then bif m_nns (List.set (List.set g (Nat.add 0 (Nat.mul (Int.toNat (IntKind.wrap .i64 (Int.tmod (IntKind.wrap .u64 (ofI val)) (IntKind.wrap .u64 (Int.ofNat m))))) 1)) (I (ibits BinOp.or IntKind.i64 (ofI val_2) (IntKind.wrap .i64 (Int.ofNat 1 * Int.ofNat 2 ^ min (Int.toNat (IntKind.wrap .i64 (Int.tmod (IntKind.wrap .u64 (ofI val_1)) (IntKind.wrap .u64 (Int.ofNat m))))) 64))))) (Nat.add 0 (Nat.mul (Int.toNat (IntKind.wrap .i64 (Int.tmod (IntKind.wrap .u64 (ofI val_1)) (IntKind.wrap .u64 (Int.ofNat m))))) 1)) (I (ibits BinOp.or IntKind.i64 (ofI val_4) (IntKind.wrap .i64 (Int.ofNat 1 * Int.ofNat 2 ^ min (Int.toNat (IntKind.wrap .i64 (Int.tmod (IntKind.wrap .u64 (ofI val)) (IntKind.wrap .u64 (Int.ofNat m))))) 64))))) && true then K [some (I (Int.ofNat m)), some (.slice (some ⟨b, off, some 0⟩) len cap), some (.slice (some ⟨0, 0, none⟩) m m), some (I (IntKind.wrap .i64 (i + Int.ofNat 1)))] [] [some (.cells (List.set (List.set g (Nat.add 0 (Nat.mul (Int.toNat (IntKind.wrap .i64 (Int.tmod (IntKind.wrap .u64 (ofI val)) (IntKind.wrap .u64 (Int.ofNat m))))) 1)) (I (ibits BinOp.or IntKind.i64 (ofI val_2) (IntKind.wrap .i64 (Int.ofNat 1 * Int.ofNat 2 ^ min (Int.toNat (IntKind.wrap .i64 (Int.tmod (IntKind.wrap .u64 (ofI val_1)) (IntKind.wrap .u64 (Int.ofNat m))))) 64))))) (Nat.add 0 (Nat.mul (Int.toNat (IntKind.wrap .i64 (Int.tmod (IntKind.wrap .u64 (ofI val_1)) (IntKind.wrap .u64 (Int.ofNat m))))) 1)) (I (ibits BinOp.or IntKind.i64 (ofI val_4) (IntKind.wrap .i64 (Int.ofNat 1 * Int.ofNat 2 ^ min (Int.toNat (IntKind.wrap .i64 (Int.tmod (IntKind.wrap .u64 (ofI val)) (IntKind.wrap .u64 (Int.ofNat m))))) 64))))) 3 0 1)] else .fail 420 else .fail 420 else .fail 420 else .fail 420 else .fail 420 else .fail 420 else .fail 420 else .fail 420 else .fail 420 else .fail 420 else .fail 420 else .fail 420 else .fail 420 else .fail 420 else .fail 420 else .fail 420 else .fail 420 else .fail 420 else .fail 420 else bif m_nns g && true then K [some (I (Int.ofNat m)), some (.slice (some ⟨b, off, some 0⟩) len cap), some (.slice (some ⟨0, 0, none⟩) m m), some (I (IntKind.wrap .i64 (i + Int.ofNat 1)))] [] [some (.cells g 3 0 1)] else .fail 420 else .fail 420 else .fail 420 else .fail 420 else .fail 420 else .fail 420 else .fail 420 else .fail 420 else .fail 420 else bif m_nns g && true then KX 0 [some (I (Int.ofNat m)), some (.slice (some ⟨0, 0, none⟩) m m)] [] [some (.cells g 3 0 1)] else .fail 420 else bif m_nns g && true then KX 0 [some (I (Int.ofNat m)), some (.slice (some ⟨0, 0, none⟩) m m)] [] [some (.cells g 3 0 1)] else .fail 420 := by kernel_rfl
theorem taN (r : Mem) (m : Nat) (g : List Value) (fs : FnsC) (K : OV → List Nat → OO → CR) (KX : Nat → OV → List Nat → OO → CR) (kr : KS) : run (SC r) 4039 77 1 Ta_4 fs none (rbK 0 lvTa [] K) (fun i => rbK 0 [0, 8] [] (KX i)) kr [] (bT lvTa [some (I m), some (.slice none 0 0), some (.slice (some ⟨0, 0, none⟩) m m), some (I 0)] .nil) [] (mkA [some (.cells g 3 0 1)]) =
    bif m_nns g && true then KX 0 [some (I (Int.ofNat m)), some (.slice (some ⟨0, 0, none⟩) m m)] [] [some (.cells g 3 0 1)] else .fail 420 := by kernel_rfl
theorem taC (r : Mem) (m : Nat) (g : List Value) (K KR : OV → List Nat → OO → CR) (kx : Nat → KS) : run (SC r) 4039 77 1 Ta_5 (lvlT (SC r) tTa .nil 1 1) none (rbK 0 [6, 7] [] K) kx (rbK 0 [6, 7] [] KR) [] (bT [0, 8] [some (I m), some (.slice (some ⟨0, 0, none⟩) m m)] .nil) [] (mkA [some (.cells g 3 0 1)]) =
    bif m_okC g 0 m && !Nat.beq m 9223372036854775809 then bif m_lsS g 0 m then bif m_nns (m_lsC g 0 m) && true then KR [some (I (Int.ofNat m)), some (.slice (some ⟨0, 0, none⟩) (m_lsN g 0 m) unk)] [] [some (.cells (m_lsC g 0 m) 52 0 2)] else .fail 420 else KR [some (I (Int.ofNat m)), some (.slice none 0 0)] [] [] else .fail 420 := by kernel_rfl
end Go.Proofs
namespace Go.Proofs
open Go Go.Ev Go.Num
def tmX (v m : Int) : Nat := (IntKind.wrap .i64 (Int.tmod (IntKind.wrap .u64 v) (IntKind.wrap .u64 m))).toNat
theorem wrU (v : Int) : IntKind.wrap .u64 v = v % 18446744073709551616 := by simp [IntKind.wrap, IntKind.bits, IntKind.signed]
theorem tmX_ok (v : Int) {m : Int} (h1 : 1 ≤ m) (h2 : m ≤ 16) : IntKind.wrap .i64 (Int.tmod (IntKind.wrap .u64 v) (IntKind.wrap .u64 m)) = (tmX v m : Nat) ∧ (tmX v m : Int) < m := by
 have hm : IntKind.wrap .u64 m = m := by rw [wrU]; omega
 have ha : 0 ≤ IntKind.wrap .u64 v := by rw [wrU]; omega
 have e : Int.tmod (IntKind.wrap .u64 v) (IntKind.wrap .u64 m) = IntKind.wrap .u64 v % m := by rw [hm, Int.tmod_eq_emod_of_nonneg ha]
 have h3 := Int.emod_nonneg (IntKind.wrap .u64 v) (show m ≠ 0 by omega)
 have h4 := Int.emod_lt_of_pos (IntKind.wrap .u64 v) (show 0 < m by omega)
 have e2 : IntKind.wrap .i64 (IntKind.wrap .u64 v % m) = IntKind.wrap .u64 v % m := wrI (by omega)
 unfold tmX
 rw [e, e2]
 omega
def tmN (m : Nat) (z : Nat → Int) : Nat → List Nat
 | 0 => List.replicate m 0
 | k + 1 => if tmX (z (2 * k)) m = tmX (z (2 * k + 1)) m then tmN m z k else jnN (tmN m z k) (tmX (z (2 * k)) m) (tmX (z (2 * k + 1)) m)
theorem tmN_len (m : Nat) (z : Nat → Int) : ∀ k, (tmN m z k).length = m
 | 0 => List.length_replicate ..
 | k + 1 => by
  rw [tmN]
  split
  ·exact tmN_len m z k
  ·rw [jnN, orN_len, orN_len]; exact tmN_len m z k
theorem tmN_lt {m : Nat} (h1 : 1 ≤ m) (h2 : m ≤ 16) (z : Nat → Int) : ∀ k, ∀ w ∈ tmN m z k, w < 65536
 | 0, w, hw => by rw [tmN] at hw; rw [List.eq_of_mem_replicate hw]; decide
 | k + 1, w, hw => by
  have a := (tmX_ok (z (2 * k)) (m := m) (by omega) (by omega)).2
  have b := (tmX_ok (z (2 * k + 1)) (m := m) (by omega) (by omega)).2
  rw [tmN] at hw
  split at hw
  ·exact tmN_lt h1 h2 z k w hw
  ·exact orN_lt (orN_lt (tmN_lt h1 h2 z k) _ (by omega)) _ (by omega) w hw
theorem ws_nn (ws : List Nat) : m_nns (m_ws ws) = true := by
 show nns (ws.map _) = true
 induction ws with
 | nil => rfl
 | cons w l ih => show (nn (I w) && nns (l.map _)) = true; rw [ih]; rfl
theorem alE_congr {w w' : Nat → Nat} {m : Nat} (h : ∀ k, k < m → w k = w' k) : ∀ i, i ≤ m → alE w m i = alE w' m i
 | 0, _ => rfl
 | i + 1, hi => by
  have : ∀ j, rwE w i j = rwE w' i j := fun j => by
   induction j with
   | zero => rfl
   | succ j ih => rw [rwE, rwE, ih, h i (by omega)]
  rw [alE, alE, alE_congr h i (by omega), this]
theorem eLs_ok (r : Mem) : EOk (SC r) 21 eLs := fun args A hgd F hF k γ W args' hw hR ha => by
 have hgd0 := hgd
 dsimp only [eLs] at hgd
 split at hgd
 ·rename_i i k' len cap
  split at hgd
  ·rename_i c e f' z hget
   simp only [Bool.and_eq_true, Bool.not_eq_true'] at hgd
   obtain ⟨hg1, hg2⟩ := hgd
   obtain ⟨h1, h2⟩ := @of_decide_eq_true _ (Classical.propDecidable _) hg1
   have ec : eLs.c [.slice (some ⟨i, k', none⟩) len cap] A = m_lsS c k' len := by simp only [eLs, hget]
   have ev : eLs.v [.slice (some ⟨i, k', none⟩) len cap] A = .slice (some ⟨A.next, 0, none⟩) (m_lsN c k' len) unk := by simp only [eLs, hget]
   have ea : eLs.a [.slice (some ⟨i, k', none⟩) len cap] A = A.new (.cells (m_lsC c k' len) 52 A.next 2) := by simp only [eLs, hget]
   rw [ec, ev, ea, show eLs.v2 [.slice (some ⟨i, k', none⟩) len cap] A = .slice none 0 0 from rfl, show eLs.a2 [.slice (some ⟨i, k', none⟩) len cap] A = A from rfl]
   have ha0 := ha
   obtain ⟨la⟩ := args'
   cases ha with
   | cons hv hrest =>
   cases hrest
   obtain ⟨b, k2, c', rfl, hrd⟩ := rd_world hw hR hv hg2
   have hr : ∀ j, j < len → memW W b (k2 + j) = some (I (wC c (k' + j) : Nat)) := fun j hj => by
    obtain ⟨w, hw1, hw2⟩ := h2 j hj
    have e1 : wC c (k' + j) = w := by unfold wC; rw [hw2]; simp
    rw [e1]
    refine hrd j _ ?_ rfl
    simp only [AW.rd, AW.cell, hget]
    exact hw2
   have hls := listed_ok (memW W) b k2 len 0 (fun j => wC c (k' + j)) hr h1
   have hro : VsRel noG [RS b k2 len 0] [Value.slice (some ⟨b, k2, none⟩) len c'] := .cons (.sliceRo b k2 0 len 0 c' (by decide) (Nat.zero_le _)) .nil
   unfold m_lsS m_lsC m_lsN lsE
   generalize alE (fun j => wC c (k' + j)) len len = E at hls
   cases E with
   | nil =>
    refine ⟨fun h => (nomatch h), fun _ => ?_⟩
    have hg : GrT Tryd.prog (memW W) 21 [RS b k2 len 0] (.slice none 0 0) := GrT.ofS (C := SC (memW W)) rfl rfl rfl (fun F hF k γ W args' hw hR ha => (hls F hF k γ W args' hw hR ha).mono fun e W' ⟨u, B, ⟨h, _⟩, he⟩ => ⟨u, B, h, he⟩)
    refine (hg.2 F hF k W _ (memW_ro W) hro).mono fun e W' ⟨he, hb⟩ => ?_
    subst he
    obtain ⟨h1, h2⟩ := hw.below hb
    exact ⟨_, γ, rfl, .sliceNil, h1, h2⟩
   | cons p l =>
    refine ⟨fun _ => ?_, fun h => (nomatch h)⟩
    have hg : GrM Tryd.prog (memW W) 21 [RS b k2 len 0] (.slice (some ⟨0, 0, none⟩) (l.length + 1) unk) (rowA (pcE (p :: l)) 52 2) := GrM.ofS (C := SC (memW W)) rfl rfl hls
    have hof : ofV 0 (.slice (some ⟨0, 0, none⟩) (l.length + 1) unk) = true := by simp [ofV, of1]
    exact hg.ends (γ := γ) (A := A) hof (pcE_gnd _) hF hw (memW_ro W) hro ha0
  ·cases hgd
 ·cases hgd
theorem tTa_ok (r : Mem) : TOk (SC r) tTa := TOk.cons TOk.nil (eLs_ok r)
def gM (n most : Int) : Nat := tmX n most + 1
def gE (n most : Int) (len : Nat) (z : Nat → Int) : List (Nat × Nat) := alE (fun k => (tmN (gM n most) z (min 60 len)).getD k 0) (gM n most) (gM n most)
theorem gM_ok (n : Int) {most : Int} (h1 : 1 ≤ most) (h2 : most ≤ 16) : 1 ≤ gM n most ∧ (gM n most : Int) ≤ most ∧ gM n most ≤ 16 := by
 have := (tmX_ok n h1 h2).2
 unfold gM
 omega
theorem gE_ok (n : Int) (most : Int) (len : Nat) (z : Nat → Int) : okAll (gM n most : Int) (zE (gE n most len z)) (gE n most len z).length = true := alE_ok _ _
def taV (b off len cap m k : Nat) : OV := [some (I (m : Nat)), some (RS2 b off len cap), some (.slice (some ⟨0, 0, none⟩) m m), some (I (k : Nat))]
def taO (ws : List Nat) : OO := [some (.cells (m_ws ws) 3 0 1)]
def vTa (m : Nat) (E : List (Nat × Nat)) : Value := .tuple ⟨[I (m : Nat), vL E]⟩
theorem ta_end (r : Mem) {m : Nat} (h1 : 1 ≤ m) (hm : m ≤ 16) (ws : List Nat) (hl : ws.length = m) (hw : ∀ w ∈ ws, w < 65536) (E : List (Nat × Nat)) (hE : E = alE (fun k => ws.getD k 0) m m) :
  run (SC r) 4039 77 1 Ta_5 (lvlT (SC r) tTa .nil 1 1) none ((⟨[6, 7], [], fun vs ms os => vs = [some (I (m : Nat)), some (vL E)] ∧ ms = [] ∧ os = oL E⟩ : Outs).ask 0) (fun _ => Outs.no.ask 0) ((⟨[6, 7], [], fun vs ms os => vs = [some (I (m : Nat)), some (vL E)] ∧ ms = [] ∧ os = oL E⟩ : Outs).ask 0) [] (bT [0, 8] [some (I (m : Nat)), some (.slice (some ⟨0, 0, none⟩) m m)] .nil) [] (mkA (taO ws)) = okR := by
 have hg : ∀ k, k < m → (m_ws ws)[0 + k]? = some (I (ws.getD k 0 : Nat)) := fun k hk => by
  have := ws_get (ws := ws) (k := k) (by omega)
  rw [Nat.mul_eq, Nat.mul_one, Nat.add_eq] at this
  exact this
 have ok : m_okC (m_ws ws) 0 m = true := @decide_eq_true _ (Classical.propDecidable _) ⟨hm, fun j hj => ⟨_, getD_lt hw j, hg j hj⟩⟩
 have hu : Nat.beq m 9223372036854775809 = false := by
  cases e : Nat.beq m 9223372036854775809 with
  | false => rfl
  | true => have := Nat.eq_of_beq_eq_true e; omega
 have el : lsE (m_ws ws) 0 m = E := by
  rw [hE]
  exact alE_congr (fun k hk => by unfold wC; rw [hg k hk]; simp) m (Nat.le_refl _)
 have hn := taC r m (m_ws ws)
 have e1 : m_lsS (m_ws ws) 0 m = !E.isEmpty := by unfold m_lsS; rw [el]
 have e2 : m_lsC (m_ws ws) 0 m = pcE E := by unfold m_lsC; rw [el]
 have e3 : m_lsN (m_ws ws) 0 m = E.length := by unfold m_lsN; rw [el]
 simp only [ok, hu, e1, e2, e3, Bool.not_false, Bool.and_true, cond_true] at hn
 clear el hE
 cases E with
 | nil => exact (hn _ _ _).trans (qq_ok ⟨rfl, rfl, rfl⟩)
 | cons p l =>
  simp only [pcE_nn, cond_true, show (!(p :: l).isEmpty) = true from rfl] at hn
  exact (hn _ _ _).trans (qq_ok ⟨rfl, rfl, rfl⟩)
theorem ta_fin (r : Mem) (m : Nat) (E : List (Nat × Nat)) : ∀ vs ms os, (⟨[6, 7], [], fun vs ms os => vs = [some (I (m : Nat)), some (vL E)] ∧ ms = [] ∧ os = oL E⟩ : Outs).Q vs ms os → ∃ v A', finish (SC r) 4039 [.tmp 6, .tmp 7] (St.of [6, 7] vs ms os) = .ret v A' ∧ v = vTa m E ∧ A' = mkA (oL E) := by
 rintro vs ms os ⟨rfl, rfl, rfl⟩
 cases E with
 | nil => exact ⟨_, mkA [], by kernel_rfl, rfl, rfl⟩
 | cons p l => exact ⟨_, mkA [some (.cells (pcE (p :: l)) 52 0 2)], by kernel_rfl, rfl, rfl⟩
theorem tame_nil (r : Mem) (n most : Int) (h1 : 1 ≤ most) (h2 : most ≤ 16) (z : Nat → Int) : SOk (SC r) 5 [I n, .slice none 0 0, I most] emptyA fun v A => v = vTa (gM n most) (gE n most 0 z) ∧ A = mkA (oL (gE n most 0 z)) := by
 have hX := tmX_ok n h1 h2
 have hg := gM_ok n h1 h2
 have hm0 : (!decide (IntKind.wrap IntKind.u64 most = 0)) = true := by rw [wrU, show most % 18446744073709551616 = most by omega]; simp; omega
 have e1 : IntKind.wrap .i64 (Int.ofNat 1 + (tmX n most : Nat)) = (gM n most : Nat) := by rw [wrI (by simp; omega)]; unfold gM; simp; omega
 have c0 : 0 ≤ (gM n most : Int) := by omega
 have c1 : Nat.ble (gM n most) (gM n most) = true := Nat.ble_eq_true_of_le (Nat.le_refl _)
 have c2 : Nat.ble (gM n most) 1000000 = true := Nat.ble_eq_true_of_le (by omega)
 have e0 : zerosL (Nat.mul (gM n most) 1) [Value.int IntKind.i64 (Int.ofNat 0)] = m_ws (List.replicate (gM n most) 0) := by
  show List.replicate (Nat.mul (gM n most) 1) _ = m_ws (List.replicate (gM n most) 0)
  simp [m_ws]
 refine callL (SC_ok r) (by kernel_rfl) ((bodySC r _).trans Ta_eq) (nt := 77) (by kernel_rfl) (rs := [.tmp 6, .tmp 7]) (by kernel_rfl) 4039 rfl (.step (.step (.step .base))) TOk.nil (tm := .nil) (L := 1) (d := 1) lvTa []
  (fun j vs ms os => vs = [some (I (gM n most : Nat)), some (.slice none 0 0), some (.slice (some ⟨0, 0, none⟩) (gM n most) (gM n most)), some (I 0)] ∧ ms = [] ∧ os = taO (List.replicate (gM n most) 0))
  ⟨[0, 8], [], fun vs ms os => vs = [some (I (gM n most : Nat)), some (.slice (some ⟨0, 0, none⟩) (gM n most) (gM n most))] ∧ ms = [] ∧ os = taO (List.replicate (gM n most) 0)⟩
  ⟨[6, 7], [], fun vs ms os => vs = [some (I (gM n most : Nat)), some (vL (gE n most 0 z))] ∧ ms = [] ∧ os = oL (gE n most 0 z)⟩ ?_ ?_ ?_ (ta_fin r _ _)
 ·have hn := taZ r n most
  simp only [hm0, hX.1, e1, dT c0, c1, c2, e0, Int.toNat_natCast, ws_nn, Bool.and_true, cond_true] at hn
  exact (hn _ _ _ _).trans (qq_ok ⟨0, rfl, rfl, rfl⟩)
 ·rintro j vs ms os ⟨rfl, rfl, rfl⟩
  refine ⟨_, TOk.nil, .nil, 1, 1, 1, ?_⟩
  have hn := taN r (gM n most) (m_ws (List.replicate (gM n most) 0))
  simp only [ws_nn, Bool.and_true, cond_true] at hn
  exact (hn _ _ _ _).trans (qq_ok ⟨rfl, rfl, rfl⟩)
 ·rintro vs ms os ⟨rfl, rfl, rfl⟩
  exact ⟨_, tTa_ok r, .nil, 1, 1, 1, ta_end r hg.1 hg.2.2 _ List.length_replicate (fun w hw => by rw [List.eq_of_mem_replicate hw]; decide) _ rfl⟩
theorem sh16 {x : Nat} (h : x < 16) : IntKind.wrap IntKind.i64 (Int.ofNat 1 * Int.ofNat 2 ^ min x 64) = ((2 ^ x : Nat) : Int) := by
 have : ∀ j : Fin 16, IntKind.wrap IntKind.i64 (Int.ofNat 1 * Int.ofNat 2 ^ min j.val 64) = ((2 ^ j.val : Nat) : Int) := by decide
 exact this ⟨x, h⟩
theorem eqv_rfl (z : Int) : m_eqv (.int .i64 z) (.int .i64 z) = true := by simp [m_eqv, veq]
theorem tame_row (r : Mem) (n most : Int) (h1 : 1 ≤ most) (h2 : most ≤ 16) (b off len cap : Nat) (z : Nat → Int) (hz : rowAt r b off (2 * len) z) : SOk (SC r) 5 [I n, RS2 b off len cap, I most] emptyA fun v A => v = vTa (gM n most) (gE n most len z) ∧ A = mkA (oL (gE n most len z)) := by
 have hX := tmX_ok n h1 h2
 have hg := gM_ok n h1 h2
 have hm0 : (!decide (IntKind.wrap IntKind.u64 most = 0)) = true := by rw [wrU, show most % 18446744073709551616 = most by omega]; simp; omega
 have e1 : IntKind.wrap .i64 (Int.ofNat 1 + (tmX n most : Nat)) = (gM n most : Nat) := by rw [wrI (by simp; omega)]; unfold gM; simp; omega
 have c0 : 0 ≤ (gM n most : Int) := by omega
 have c1 : Nat.ble (gM n most) (gM n most) = true := Nat.ble_eq_true_of_le (Nat.le_refl _)
 have c2 : Nat.ble (gM n most) 1000000 = true := Nat.ble_eq_true_of_le (by omega)
 have e0 : zerosL (Nat.mul (gM n most) 1) [Value.int IntKind.i64 (Int.ofNat 0)] = m_ws (List.replicate (gM n most) 0) := by
  show List.replicate (Nat.mul (gM n most) 1) _ = m_ws (List.replicate (gM n most) 0)
  simp [m_ws]
 unfold gE
 generalize hm : gM n most = m at *
 refine callL (SC_ok r) (by kernel_rfl) ((bodySC r _).trans Ta_eq) (nt := 77) (by kernel_rfl) (rs := [.tmp 6, .tmp 7]) (by kernel_rfl) 4039 rfl (.step (.step (.step .base))) TOk.nil (tm := .nil) (L := 1) (d := 1) lvTa []
  (fun j vs ms os => ∃ k, k ≤ min 60 len ∧ j = min 60 len - k ∧ vs = taV b off len cap m k ∧ ms = [] ∧ os = taO (tmN m z k))
  ⟨[0, 8], [], fun vs ms os => vs = [some (I (m : Nat)), some (.slice (some ⟨0, 0, none⟩) m m)] ∧ ms = [] ∧ os = taO (tmN m z (min 60 len))⟩
  ⟨[6, 7], [], fun vs ms os => vs = [some (I (m : Nat)), some (vL (alE (fun k => (tmN m z (min 60 len)).getD k 0) m m))] ∧ ms = [] ∧ os = oL (alE (fun k => (tmN m z (min 60 len)).getD k 0) m m)⟩ ?_ ?_ ?_ (ta_fin r _ _)
 ·have hn := taA r n most b off len cap
  simp only [hm0, hX.1, e1, dT c0, c1, c2, e0, Int.toNat_natCast, ws_nn, Bool.and_true, cond_true] at hn
  exact (hn _ _ _ _).trans (qq_ok ⟨min 60 len, 0, Nat.zero_le _, rfl, rfl, rfl, rfl⟩)
 ·rintro j vs ms os ⟨k, hk, rfl, rfl, rfl, rfl⟩
  refine ⟨_, TOk.nil, .nil, 1, 1, 1, ?_⟩
  have hn := taB r b off len cap m k (m_ws (tmN m z k))
  by_cases c : k < min 60 len
  ·have d1 : (k : Int) < Int.ofNat len := by simp; omega
   have d2 : (k : Int) < 60 := by omega
   have d3 : 0 ≤ (k : Int) := by omega
   have d4 : Nat.blt k len = true := Nat.ble_eq_true_of_le (by omega)
   have l0 : r b (Nat.add (Nat.add off (Nat.mul k 2)) 0) = some (I (z (2 * k))) := by
    rw [show Nat.add (Nat.add off (Nat.mul k 2)) 0 = off + 2 * k by simp [Nat.mul_comm]]
    exact hz (2 * k) (by omega)
   have l1 : r b (Nat.add (Nat.add off (Nat.mul k 2)) 1) = some (I (z (2 * k + 1))) := by
    rw [show Nat.add (Nat.add off (Nat.mul k 2)) 1 = off + (2 * k + 1) by simp [Nat.mul_comm]; omega]
    exact hz (2 * k + 1) (by omega)
   have hM : (!decide (IntKind.wrap IntKind.u64 (Int.ofNat m) = 0)) = true := by rw [wrU]; simp; omega
   have X := tmX_ok (z (2 * k)) (m := (m : Int)) (by omega) (by omega)
   have Y := tmX_ok (z (2 * k + 1)) (m := (m : Int)) (by omega) (by omega)
   have w1 : IntKind.wrap IntKind.i64 ((k : Int) + Int.ofNat 1) = ((k + 1 : Nat) : Int) := by rw [wrI (by simp; omega)]; simp
   have ii : ∀ x, isI IntKind.i64 (I x) = true := fun _ => rfl
   have oo : ∀ x, ofI (I x) = x := fun _ => rfl
   have hN := tmN m z k
   have hNl := tmN_len m z k
   have hNw := tmN_lt (z := z) hg.1 hg.2.2 k
   have hS : tmN m z (k + 1) = if tmX (z (2 * k)) m = tmX (z (2 * k + 1)) m then tmN m z k else jnN (tmN m z k) (tmX (z (2 * k)) m) (tmX (z (2 * k + 1)) m) := rfl
   have hQ : ∃ j', j' < min 60 len - k ∧ ∃ k', k' ≤ min 60 len ∧ j' = min 60 len - k' ∧ taV b off len cap m (k + 1) = taV b off len cap m k' ∧ ([] : List Nat) = [] ∧ taO (tmN m z (k + 1)) = taO (tmN m z k') := ⟨min 60 len - (k + 1), by omega, k + 1, c, rfl, rfl, rfl, rfl⟩
   simp only [show Int.ofNat m = (m : Int) from rfl] at hn hM
   simp only [dT d1, dT d2, dT d3, d4, cond_true, Int.toNat_natCast, l0, l1, ii, oo, hM, X.1, Y.1] at hn
   generalize tmX (z (2 * k)) m = x at *
   generalize tmX (z (2 * k + 1)) m = y at *
   by_cases e : x = y
   ·subst e
    rw [if_pos rfl] at hS
    rw [hS] at hQ
    simp only [bne_self_eq_false, cond_false, ws_nn, Bool.and_true, cond_true, w1] at hn
    exact (hn _ _ _ _).trans (qq_ok hQ)
   ·rw [if_neg e] at hS
    have ne : ((x : Int) != (y : Int)) = true := by simp; omega
    have x0 : 0 ≤ (x : Int) := by omega
    have y0 : 0 ≤ (y : Int) := by omega
    have xn : ¬ (x : Int) < 0 := by omega
    have yn : ¬ (y : Int) < 0 := by omega
    have xm : Nat.blt x m = true := Nat.ble_eq_true_of_le (by omega)
    have ym : Nat.blt y m = true := Nat.ble_eq_true_of_le (by omega)
    have gx : (m_ws (tmN m z k))[Nat.add 0 (Nat.mul x 1)]? = some (I (((tmN m z k).getD x 0 : Nat) : Int)) := ws_get (by omega)
    have bx : Nat.blt (Nat.add 0 (Nat.mul x 1)) (m_ws (tmN m z k)).length = true := Nat.ble_eq_true_of_le (by rw [ws_len]; simp; omega)
    have s1 : ibits BinOp.or IntKind.i64 (((tmN m z k).getD x 0 : Nat) : Int) ((2 ^ y : Nat) : Int) = (((tmN m z k).getD x 0 ||| 2 ^ y : Nat) : Int) := or_nat (.inr rfl) (getD_lt hNw x) (bit16 (by omega))
    have t1 : (m_ws (tmN m z k)).set (Nat.add 0 (Nat.mul x 1)) (.int .i64 (((tmN m z k).getD x 0 ||| 2 ^ y : Nat) : Int)) = m_ws (orN (tmN m z k) x y) := ws_set _ _ _
    have l2 : (orN (tmN m z k) x y).length = m := by rw [orN_len]; exact hNl
    have h2w := orN_lt hNw x (b := y) (by omega)
    have gy : (m_ws (orN (tmN m z k) x y))[Nat.add 0 (Nat.mul y 1)]? = some (I (((orN (tmN m z k) x y).getD y 0 : Nat) : Int)) := ws_get (by omega)
    have by' : Nat.blt (Nat.add 0 (Nat.mul y 1)) (m_ws (orN (tmN m z k) x y)).length = true := Nat.ble_eq_true_of_le (by rw [ws_len]; simp; omega)
    have s2 : ibits BinOp.or IntKind.i64 (((orN (tmN m z k) x y).getD y 0 : Nat) : Int) ((2 ^ x : Nat) : Int) = (((orN (tmN m z k) x y).getD y 0 ||| 2 ^ x : Nat) : Int) := or_nat (.inr rfl) (getD_lt h2w y) (bit16 (by omega))
    have t2 : (m_ws (orN (tmN m z k) x y)).set (Nat.add 0 (Nat.mul y 1)) (.int .i64 (((orN (tmN m z k) x y).getD y 0 ||| 2 ^ x : Nat) : Int)) = m_ws (jnN (tmN m z k) x y) := ws_set _ _ _
    rw [hS] at hQ
    simp only [ne, dT x0, dT y0, dF xn, dF yn, Bool.not_false, xm, ym, gx, bx, sh16 (show x < 16 by omega), sh16 (show y < 16 by omega), eqv_rfl, s1, t1, gy, by', s2, t2, ii, oo, ws_nn, Bool.and_true, cond_true, w1] at hn
    exact (hn _ _ _ _).trans (qq_ok hQ)
  ·have hkl : k = min 60 len := by omega
   have fin : ∀ X : CR, X = okR → X = okR := fun _ h => h
   have hQ : [some (I (m : Nat)), some (.slice (some ⟨0, 0, none⟩) m m)] = [some (I (m : Nat)), some (Value.slice (some ⟨0, 0, none⟩) m m)] ∧ ([] : List Nat) = [] ∧ taO (tmN m z k) = taO (tmN m z (min 60 len)) := ⟨rfl, rfl, by rw [hkl]⟩
   by_cases d1 : (k : Int) < Int.ofNat len
   ·have d2 : ¬ (k : Int) < 60 := by simp at d1; omega
    simp only [dT d1, dF d2, cond_true, cond_false, ws_nn, Bool.and_true] at hn
    exact (hn _ _ _ _).trans (qq_ok hQ)
   ·simp only [dF d1, cond_true, cond_false, ws_nn, Bool.and_true] at hn
    exact (hn _ _ _ _).trans (qq_ok hQ)
 ·rintro vs ms os ⟨rfl, rfl, rfl⟩
  exact ⟨_, tTa_ok r, .nil, 1, 1, 1, ta_end r hg.1 hg.2.2 _ (tmN_len m z _) (tmN_lt hg.1 hg.2.2 z _) _ rfl⟩
end Go.Proofs
namespace Go.Num
open Go.Proofs
def anN (a b : Nat) : Nat := (a &&& b) ^^^ a
theorem an_zero {a b : Nat} : anN a b = 0 ↔ a &&& b = a := by
 unfold anN
 constructor
 ·intro h
  apply Nat.eq_of_testBit_eq
  intro i
  have := congrArg (fun x => Nat.testBit x i) h
  simp only [Nat.testBit_and, Nat.testBit_xor, Nat.zero_testBit] at this ⊢
  revert this
  cases a.testBit i <;> cases b.testBit i <;> simp
 ·intro h; rw [h]; exact Nat.xor_self a
theorem an_lt {a b k : Nat} (h : a < 2 ^ k) : anN a b < 2 ^ k := Nat.xor_lt_two_pow (Nat.lt_of_le_of_lt Nat.and_le_left h) h
theorem orN_get {ws : List Nat} {u v i : Nat} (hu : u < ws.length) : (orN ws u v).getD i 0 = if u = i then ws.getD u 0 ||| 2 ^ v else ws.getD i 0 := by
 unfold orN
 simp only [List.getD_eq_getElem?_getD, List.getElem?_set]
 by_cases c : u = i
 ·subst c; rw [if_pos rfl, if_pos hu, if_pos rfl]; rfl
 ·rw [if_neg c, if_neg c]
theorem nb_ext {M m : Nat} (hmM : m ≤ M) (z : Nat → Int) : ∀ k, (∀ i, i < k → 0 ≤ ea z i ∧ ea z i < eb z i ∧ eb z i < m) → ∀ i, i < m → (nbN M z k).getD i 0 = (nbN m z k).getD i 0
 | 0, _, i, hi => by
  rw [nbN, nbN, List.getD_eq_getElem?_getD, List.getD_eq_getElem?_getD, List.getElem?_replicate_of_lt (by omega), List.getElem?_replicate_of_lt hi]
 | k + 1, h, i, hi => by
  have ih := nb_ext hmM z k fun i hi => h i (by omega)
  obtain ⟨h1, h2, h3⟩ := h k (by omega)
  have hx : (ea z k).toNat < m := by omega
  have hy : (eb z k).toNat < m := by omega
  have l1 := nbN_len M z k
  have l2 := nbN_len m z k
  have st : ∀ (ws vs : List Nat) (x y : Nat), x < m → m ≤ ws.length → m ≤ vs.length → (∀ i, i < m → ws.getD i 0 = vs.getD i 0) → ∀ i, i < m → (orN ws x y).getD i 0 = (orN vs x y).getD i 0 := fun ws vs x y hx h1 h2 hh i hi => by
   rw [orN_get (ws := ws) (by omega), orN_get (ws := vs) (by omega), hh x hx, hh i hi]
  rw [nbN, nbN, jnN, jnN]
  exact st _ _ _ _ hy (by rw [orN_len]; omega) (by rw [orN_len]; omega) (st _ _ _ _ hx (by omega) (by omega) ih) i hi
theorem bt_bit (s k : Nat) : btN s k = s.testBit k := by
 unfold btN
 rw [Nat.testBit_eq_decide_div_mod_eq, Bool.eq_iff_iff]
 simp
theorem an_bit (a b i : Nat) : (anN a b).testBit i = (a.testBit i && !b.testBit i) := by
 unfold anN
 rw [Nat.testBit_xor, Nat.testBit_and]
 cases a.testBit i <;> cases b.testBit i <;> rfl
theorem and_ne {a b : Nat} : a &&& b ≠ 0 ↔ ∃ v, a.testBit v = true ∧ b.testBit v = true := by
 constructor
 ·intro h
  obtain ⟨v, hv⟩ := Nat.exists_testBit_of_ne_zero h
  rw [Nat.testBit_and, Bool.and_eq_true] at hv
  exact ⟨v, hv⟩
 ·rintro ⟨v, h1, h2⟩ h
  have := congrArg (fun x => Nat.testBit x v) h
  simp only [Nat.testBit_and, h1, h2, Nat.zero_testBit] at this
  exact nomatch this
theorem and_zero {a b : Nat} : a &&& b = 0 ↔ ∀ v, a.testBit v = true → b.testBit v = false := by
 constructor
 ·intro h v h1
  cases h2 : b.testBit v with
  | false => rfl
  | true => exact absurd h (and_ne.2 ⟨v, h1, h2⟩)
 ·intro h
  by_cases c : a &&& b = 0
  ·exact c
  ·obtain ⟨v, h1, h2⟩ := and_ne.1 c
   rw [h v h1] at h2
   exact nomatch h2
theorem in_bit {a b : Nat} : a &&& b = a ↔ ∀ v, a.testBit v = true → b.testBit v = true := by
 constructor
 ·intro h v h1
  rw [← h, Nat.testBit_and, Bool.and_eq_true] at h1
  exact h1.2
 ·intro h
  apply Nat.eq_of_testBit_eq
  intro i
  rw [Nat.testBit_and]
  cases ha : a.testBit i with
  | false => rfl
  | true => rw [h i ha]; rfl
structure Nbs (w : Nat → Nat) (m : Nat) : Prop where
 low : ∀ i v, (w i).testBit v = true → i < m ∧ v < m
 sym : ∀ i v, (w i).testBit v = true → (w v).testBit i = true
theorem jn_bit {ws : List Nat} {a b : Nat} (ha : a < ws.length) (hb : b < ws.length) (i v : Nat) : ((jnN ws a b).getD i 0).testBit v = ((ws.getD i 0).testBit v || (decide (i = a ∧ v = b) || decide (i = b ∧ v = a))) := by
 have p2 : ∀ a v : Nat, (2 ^ a).testBit v = decide (v = a) := fun a v => Nat.testBit_two_pow.trans (decide_eq_decide.2 eq_comm)
 have g : ∀ i, (orN ws a b).getD i 0 = if a = i then ws.getD a 0 ||| 2 ^ b else ws.getD i 0 := fun i => orN_get ha
 unfold jnN
 rw [orN_get (by rw [orN_len]; exact hb)]
 simp only [g]
 by_cases c1 : b = i
 ·subst c1
  rw [if_pos rfl]
  by_cases c2 : a = b
  ·subst c2
   rw [if_pos rfl, Nat.testBit_or, Nat.testBit_or, p2, Bool.eq_iff_iff]
   simp
  ·rw [if_neg c2, Nat.testBit_or, p2, Bool.eq_iff_iff]
   have : ¬ b = a := fun e => c2 e.symm
   simp [this]
 ·rw [if_neg c1]
  have c1' : ¬ i = b := fun e => c1 e.symm
  by_cases c2 : a = i
  ·subst c2
   rw [if_pos rfl, Nat.testBit_or, p2, Bool.eq_iff_iff]
   simp [c1']
  ·have c2' : ¬ i = a := fun e => c2 e.symm
   rw [if_neg c2, Bool.eq_iff_iff]
   simp [c1', c2']
theorem nb_nbs {M m : Nat} (hmM : m ≤ M) (z : Nat → Int) : ∀ k, (∀ i, i < k → 0 ≤ ea z i ∧ ea z i < eb z i ∧ eb z i < m) → Nbs (fun i => (nbN M z k).getD i 0) m
 | 0, _ => by
  have h0 : ∀ i, (nbN M z 0).getD i 0 = 0 := fun i => by
   rw [nbN, List.getD_eq_getElem?_getD, List.getElem?_replicate]
   split <;> rfl
  refine ⟨fun i v h => ?_, fun i v h => ?_⟩ <;> rw [h0, Nat.zero_testBit] at h <;> exact nomatch h
 | k + 1, h => by
  obtain ⟨b1, b2, b3⟩ := h k (by omega)
  have ih := nb_nbs hmM z k fun i hi => h i (by omega)
  have hl : (nbN M z k).length = M := nbN_len M z k
  have hb := jn_bit (ws := nbN M z k) (a := (ea z k).toNat) (b := (eb z k).toNat) (by omega) (by omega)
  refine ⟨fun i v hv => ?_, fun i v hv => ?_⟩
  ·rw [nbN, hb, Bool.or_eq_true, Bool.or_eq_true, decide_eq_true_eq, decide_eq_true_eq] at hv
   rcases hv with hv | hv | hv
   ·exact ih.low i v hv
   ·omega
   ·omega
  ·rw [nbN, hb, Bool.or_eq_true, Bool.or_eq_true, decide_eq_true_eq, decide_eq_true_eq] at hv ⊢
   rcases hv with hv | hv | hv
   ·exact .inl (ih.sym i v hv)
   ·exact .inr (.inr ⟨hv.2, hv.1⟩)
   ·exact .inr (.inl ⟨hv.2, hv.1⟩)
theorem high {x m i : Nat} (h : x < 2 ^ m) (hi : m ≤ i) : x.testBit i = false := Nat.testBit_lt_two_pow (Nat.lt_of_lt_of_le h (Nat.pow_le_pow_right (by decide) hi))
theorem and_half (a b : Nat) : (a &&& b) / 2 = (a / 2) &&& (b / 2) := Nat.and_div_two
theorem and_odd (a b : Nat) : (a &&& b) % 2 = 1 ↔ a % 2 = 1 ∧ b % 2 = 1 := Nat.and_mod_two_eq_one
def tzN : Nat → Nat → Nat
 | 0, _ => 0
 | f + 1, s => if s % 2 = 1 then 0 else tzN f (s / 2) + 1
theorem neg_and : ∀ b x, x < 2 ^ b → (2 ^ b - 1 - x) &&& x = 0
 | 0, x, h => by
  obtain rfl : x = 0 := by simpa using h
  exact Nat.and_zero _
 | b + 1, x, h => by
  have hp : 2 ^ (b + 1) = 2 * 2 ^ b := by rw [Nat.pow_succ]; omega
  have ih := neg_and b (x / 2) (by omega)
  generalize hX : 2 ^ (b + 1) - 1 - x = X
  have h1 := and_half X x
  have h2 := and_odd X x
  rw [show X / 2 = 2 ^ b - 1 - x / 2 by omega, ih] at h1
  generalize X &&& x = n at h1 h2
  have : ¬ n % 2 = 1 := fun c => by have := h2.1 c; omega
  omega
theorem low_pow : ∀ b x, x < 2 ^ b → x ≠ 0 → x &&& (2 ^ b - x) = 2 ^ tzN b x
 | 0, x, h, h0 => by exfalso; simp at h; omega
 | b + 1, x, h, h0 => by
  have hp : 2 ^ (b + 1) = 2 * 2 ^ b := by rw [Nat.pow_succ]; omega
  generalize hX : 2 ^ (b + 1) - x = X
  have h1 := and_half x X
  have h2 := and_odd x X
  rw [tzN]
  by_cases c : x % 2 = 1
  ·rw [if_pos c]
   have := neg_and b (x / 2) (by omega)
   rw [show X / 2 = 2 ^ b - 1 - x / 2 by omega, Nat.and_comm (x / 2), this] at h1
   have := h2.2 ⟨c, by omega⟩
   omega
  ·rw [if_neg c, Nat.pow_succ]
   have := low_pow b (x / 2) (by omega) (by omega)
   rw [show X / 2 = 2 ^ b - x / 2 by omega, this] at h1
   have : ¬ (x &&& X) % 2 = 1 := fun c => by have := h2.1 c; omega
   omega
theorem tz_bit : ∀ b x, x < 2 ^ b → x ≠ 0 → tzN b x < b ∧ x.testBit (tzN b x) = true ∧ ∀ i, i < tzN b x → x.testBit i = false
 | 0, x, h, h0 => by exfalso; simp at h; omega
 | b + 1, x, h, h0 => by
  have hp : 2 ^ (b + 1) = 2 * 2 ^ b := by rw [Nat.pow_succ]; omega
  rw [tzN]
  by_cases c : x % 2 = 1
  ·rw [if_pos c]
   exact ⟨by omega, by rw [Nat.testBit_zero]; simpa using c, fun i hi => absurd hi (by omega)⟩
  ·rw [if_neg c]
   obtain ⟨h1, h2, h3⟩ := tz_bit b (x / 2) (by omega) (by omega)
   refine ⟨by omega, by rw [Nat.testBit_succ]; exact h2, fun i hi => ?_⟩
   cases i with
   | zero => rw [Nat.testBit_zero]; simpa using c
   | succ i => rw [Nat.testBit_succ]; exact h3 i (by omega)
theorem clr_bit : ∀ b x, x < 2 ^ b → x ≠ 0 → ∀ i, (x &&& (x - 1)).testBit i = (x.testBit i && !decide (i = tzN b x))
 | 0, x, h, h0, i => by exfalso; simp at h; omega
 | b + 1, x, h, h0, i => by
  have hp : 2 ^ (b + 1) = 2 * 2 ^ b := by rw [Nat.pow_succ]; omega
  rw [tzN, Nat.testBit_and]
  by_cases c : x % 2 = 1
  ·rw [if_pos c]
   cases i with
   | zero =>
    rw [Nat.testBit_zero (x - 1), show ((x - 1) % 2) = 0 by omega]
    simp
   | succ i =>
    rw [Nat.testBit_succ, Nat.testBit_succ, show (x - 1) / 2 = x / 2 by omega]
    simp
  ·rw [if_neg c]
   have ih := clr_bit b (x / 2) (by omega) (by omega)
   cases i with
   | zero =>
    rw [Nat.testBit_zero x, show x % 2 = 0 by omega]
    simp
   | succ i =>
    rw [Nat.testBit_succ, Nat.testBit_succ, show (x - 1) / 2 = x / 2 - 1 by omega]
    have := ih i
    rw [Nat.testBit_and] at this
    rw [this]
    congr 2
    simp
def hiN (s v : Nat) : Nat := s / 2 ^ v * 2 ^ v
theorem hi_bit (s v i : Nat) : (hiN s v).testBit i = (decide (v ≤ i) && s.testBit i) := by
 unfold hiN
 rw [Nat.mul_comm, Nat.testBit_two_pow_mul]
 by_cases c : v ≤ i
 ·rw [decide_eq_true c, Nat.testBit_div_two_pow, Nat.sub_add_cancel c]
 ·simp [c]
theorem hi_le (s v : Nat) : hiN s v ≤ s := Nat.div_mul_le_self s (2 ^ v)
theorem hi_zero (s : Nat) : hiN s 0 = s := by unfold hiN; simp
theorem hi_next {b s v : Nat} (h : s < 2 ^ b) (h0 : hiN s v ≠ 0) : v ≤ tzN b (hiN s v) ∧ tzN b (hiN s v) < b ∧ s.testBit (tzN b (hiN s v)) = true ∧ (∀ i, v ≤ i → i < tzN b (hiN s v) → s.testBit i = false) ∧ hiN s v &&& (hiN s v - 1) = hiN s (tzN b (hiN s v) + 1) := by
 have hh : hiN s v < 2 ^ b := Nat.lt_of_le_of_lt (hi_le s v) h
 obtain ⟨h1, h2, h3⟩ := tz_bit b _ hh h0
 have h4 := clr_bit b _ hh h0
 generalize tzN b (hiN s v) = t at h1 h2 h3 h4
 rw [hi_bit, Bool.and_eq_true, decide_eq_true_eq] at h2
 refine ⟨h2.1, h1, h2.2, fun i hv hi => ?_, ?_⟩
 ·have := h3 i hi
  rw [hi_bit, decide_eq_true hv] at this
  simpa using this
 ·apply Nat.eq_of_testBit_eq
  intro i
  rw [h4, hi_bit, hi_bit]
  by_cases c : t + 1 ≤ i
  ·rw [decide_eq_true c, decide_eq_true (show v ≤ i by omega), decide_eq_false (show ¬ i = t by omega)]
   simp
  ·rw [decide_eq_false c, Bool.false_and]
   by_cases e : i = t
   ·simp [e]
   ·have := h3 i (by omega)
    rw [hi_bit] at this
    rw [this]; rfl
theorem hi_none {s v : Nat} (h : hiN s v = 0) {i : Nat} (hi : v ≤ i) : s.testBit i = false := by
 have := hi_bit s v i
 rw [h, Nat.zero_testBit, decide_eq_true hi] at this
 simpa using this.symm
end Go.Num
namespace Go.Proofs
open Go Go.Ev Go.Num
theorem wrapU' {a : Nat} (h : a < 18446744073709551616) : IntKind.wrap .u64 (a : Int) = (a : Int) := by rw [wrU]; omega
theorem bvU (a : Nat) (h : a < 18446744073709551616) : (BitVec.ofInt 64 (a : Int)).toNat = a := by
 rw [BitVec.ofInt_natCast, BitVec.toNat_ofNat]
 exact Nat.mod_eq_of_lt h
theorem ibO {k : IntKind} (hk : k = .u64 ∨ k = .i64) {a b : Nat} (ha : a < 18446744073709551616) (hb : b < 18446744073709551616) : ibits .or k (a : Int) (b : Int) = k.wrap ((a ||| b : Nat) : Int) ∧ ibits .and k (a : Int) (b : Int) = k.wrap ((a &&& b : Nat) : Int) ∧ ibits .andNot k (a : Int) (b : Int) = k.wrap ((anN a b : Nat) : Int) := by
 have hx : ∀ x y : BitVec 64, x &&& ~~~y = (x &&& y) ^^^ x := fun x y => by
  ext i hi
  simp
  cases x[i] <;> cases y[i] <;> rfl
 have e1 : (BitVec.ofInt 64 (a : Int) ||| BitVec.ofInt 64 (b : Int)).toNat = a ||| b := by rw [BitVec.toNat_or, bvU a ha, bvU b hb]
 have e2 : (BitVec.ofInt 64 (a : Int) &&& BitVec.ofInt 64 (b : Int)).toNat = a &&& b := by rw [BitVec.toNat_and, bvU a ha, bvU b hb]
 have e3 : (BitVec.ofInt 64 (a : Int) &&& ~~~(BitVec.ofInt 64 (b : Int))).toNat = anN a b := by rw [hx, BitVec.toNat_xor, BitVec.toNat_and, bvU a ha, bvU b hb]; rfl
 rcases hk with rfl | rfl
 ·refine ⟨?_, ?_, ?_⟩
  ·show IntKind.wrap .u64 ((BitVec.ofInt 64 (a : Int) ||| BitVec.ofInt 64 (b : Int)).toNat : Int) = _
   rw [e1]
  ·show IntKind.wrap .u64 ((BitVec.ofInt 64 (a : Int) &&& BitVec.ofInt 64 (b : Int)).toNat : Int) = _
   rw [e2]
  ·show IntKind.wrap .u64 ((BitVec.ofInt 64 (a : Int) &&& ~~~(BitVec.ofInt 64 (b : Int))).toNat : Int) = _
   rw [e3]
 ·refine ⟨?_, ?_, ?_⟩
  ·show IntKind.wrap .i64 ((BitVec.ofInt 64 (a : Int) ||| BitVec.ofInt 64 (b : Int)).toNat : Int) = _
   rw [e1]
  ·show IntKind.wrap .i64 ((BitVec.ofInt 64 (a : Int) &&& BitVec.ofInt 64 (b : Int)).toNat : Int) = _
   rw [e2]
  ·show IntKind.wrap .i64 ((BitVec.ofInt 64 (a : Int) &&& ~~~(BitVec.ofInt 64 (b : Int))).toNat : Int) = _
   rw [e3]
theorem uO {a b : Nat} (ha : a < 18446744073709551616) (hb : b < 18446744073709551616) : ibits .or .u64 (a : Int) (b : Int) = ((a ||| b : Nat) : Int) ∧ ibits .and .u64 (a : Int) (b : Int) = ((a &&& b : Nat) : Int) ∧ ibits .andNot .u64 (a : Int) (b : Int) = ((anN a b : Nat) : Int) := by
 have h64 : (18446744073709551616 : Nat) = 2 ^ 64 := by decide
 obtain ⟨h1, h2, h3⟩ := ibO (.inl rfl) ha hb
 refine ⟨h1.trans (wrapU' ?_), h2.trans (wrapU' ?_), h3.trans (wrapU' ?_)⟩
 ·rw [h64] at *; exact Nat.or_lt_two_pow ha hb
 ·rw [h64] at *; exact Nat.and_lt_two_pow _ hb
 ·rw [h64] at *; exact an_lt ha
theorem iO {a b : Nat} (ha : a < 65536) (hb : b < 65536) : ibits .or .i64 (a : Int) (b : Int) = ((a ||| b : Nat) : Int) ∧ ibits .and .i64 (a : Int) (b : Int) = ((a &&& b : Nat) : Int) ∧ ibits .andNot .i64 (a : Int) (b : Int) = ((anN a b : Nat) : Int) := by
 obtain ⟨h1, h2, h3⟩ := ibO (.inr rfl) (show a < 18446744073709551616 by omega) (show b < 18446744073709551616 by omega)
 have g1 : a ||| b < 65536 := or16 ha hb
 have g2 : a &&& b < 65536 := Nat.and_lt_two_pow (n := 16) _ hb
 have g3 : anN a b < 65536 := an_lt (k := 16) ha
 exact ⟨h1.trans (wrI (by omega)), h2.trans (wrI (by omega)), h3.trans (wrI (by omega))⟩
def rgA : Code → Code
 | .rangeFunc _ _ a _ => a
 | c => c
def rgB : Code → Code
 | .rangeFunc _ _ _ b => b
 | c => c
abbrev fY (l : Nat) : Value := .func (.yield l) ⟨[]⟩ ⟨[]⟩
def m_twG (s : Int) : Bool := decide (1 ≤ s ∧ s < 65536)
def m_tw (s : Int) : Int := (tzN 64 s.toNat : Nat)
def eTz : Ent := eU1 m_twG fun x => I (m_tw x)
end Go.Proofs
namespace Go.Num
open Go.Proofs
theorem tz_16 {s : Nat} (h : s < 65536) (h0 : s ≠ 0) : tzN 64 s < 16 := by
 obtain ⟨_, h2, _⟩ := tz_bit 64 s (by omega) h0
 rcases Nat.lt_or_ge (tzN 64 s) 16 with c | c
 ·exact c
 ·rw [high (m := 16) (by omega) c] at h2
  exact nomatch h2
def eN (w : Nat → Nat) (s v : Nat) : Nat := popN 16 (w v &&& s)
def bsN (w : Nat → Nat) (s : Nat) : Nat → Nat
 | 0 => tzN 64 s
 | v + 1 => if s.testBit v = true ∧ eN w s v ≤ eN w s (bsN w s v) then v else bsN w s v
def loN (w : Nat → Nat) (s : Nat) : Nat := bsN w s 16
def leN (w : Nat → Nat) (m : Nat) : Nat → Nat
 | 0 => 2 ^ m - 1
 | k + 1 => anN (leN w m k) (2 ^ loN w (leN w m k))
def cbN (s : Nat) : Nat → Nat
 | 0 => 0
 | k + 1 => cbN s k + if s.testBit k = true then 1 else 0
theorem cb_out {s v : Nat} : ∀ m, m ≤ v → cbN (anN s (2 ^ v)) m = cbN s m
 | 0, _ => rfl
 | m + 1, h => by
  rw [cbN, cbN, cb_out m (by omega), an_bit, Nat.testBit_two_pow, decide_eq_false (show ¬ v = m by omega)]
  simp
theorem cb_an {s v : Nat} (hb : s.testBit v = true) : ∀ m, v < m → cbN (anN s (2 ^ v)) m + 1 = cbN s m
 | 0, h => absurd h (by omega)
 | m + 1, h => by
  rw [cbN, cbN, an_bit, Nat.testBit_two_pow]
  by_cases c : v = m
  ·subst c
   rw [cb_out v (Nat.le_refl _), hb]
   simp
  ·rw [decide_eq_false c]
   have := cb_an hb m (by omega)
   simp only [Bool.not_false, Bool.and_true]
   omega
end Go.Num
namespace Go.Num
open Go Go.Proofs Go.Ev
def htzI (t : Nat) : Int := Int.fdiv (m_mulU ((2 ^ t : Nat) : Int) (Int.ofNat 285870213051353865)) (Int.ofNat 288230376151711744)
def htzC (t : Nat) : Bool := decide (0 ≤ htzI t) && (Nat.blt (htzI t).toNat 64 && match tabM 0 (Nat.add 0 (Nat.mul (htzI t).toNat 1)) with
 | some (.int .u8 z) => decide (z = (t : Int))
 | _ => false)
theorem htzC_all : ∀ t : Fin 16, htzC t.val = true := by decide +kernel
end Go.Num
namespace Go.Proofs
open Go Go.Ev Go.Num
def tHw : Tbl := tcons 83 eTz fun _ => none
noncomputable def cHw : Code := bodyOf S0 63
noncomputable def Hw_0 : Code := (lc cHw)
noncomputable def Hw_1 : Code := (lc (ic (ic (rc cHw))))
noncomputable def Hw_2 : Code := (lc (ic (lc (rc (ic (ic (rc cHw)))))))
noncomputable def Hw_3 : Code := (rc (ic (lc (rc (ic (ic (rc cHw)))))))
noncomputable def Hw_4 : Code := (rc (rc (ic (ic (rc cHw)))))
theorem Hw_eq : cHw = (.seq Hw_0 (.block 0 (.loop (.seq Hw_1 (.seq (.block 1 (.seq Hw_2 Hw_3)) Hw_4))))) := by kernel_rfl
def lvHw : List Nat := [0, 3]
def tHb (l : Nat) (t : Int) : Tr Value := bT lvHw [some (fY l), some (U t)] .nil
theorem htzA (r : Mem) (s : Int) : (lvlT (SC r) (fun _ => none) .nil 2 4).call 83 [U s] emptyA fin =
    bif s == Int.ofNat 0 then .ret (I (Int.ofNat 64)) (AW.mk 0 .nil .nil) else bif decide (0 ≤ Int.fdiv (m_mulU (ibits BinOp.and IntKind.u64 s (IntKind.wrap .u64 (Int.ofNat 0 - s))) (Int.ofNat 285870213051353865)) (Int.ofNat 288230376151711744)) then bif Nat.blt (Int.toNat (Int.fdiv (m_mulU (ibits BinOp.and IntKind.u64 s (IntKind.wrap .u64 (Int.ofNat 0 - s))) (Int.ofNat 285870213051353865)) (Int.ofNat 288230376151711744))) 64 then Option.casesOn (r 0 (Nat.add 0 (Nat.mul (Int.toNat (Int.fdiv (m_mulU (ibits BinOp.and IntKind.u64 s (IntKind.wrap .u64 (Int.ofNat 0 - s))) (Int.ofNat 285870213051353865)) (Int.ofNat 288230376151711744))) 1))) (.fail 423) fun val => bif isI IntKind.u8 val then .ret (I (IntKind.wrap .i64 (ofI val))) (AW.mk 0 .nil .nil) else .fail 420 else .fail 420 else .fail 420 := by kernel_rfl
theorem hwA (r : Mem) (l p : Nat) (A : AW) (fs : FnsC) (K : KS) (kx : Nat → KS) (kr : KS) : run (SC r) 11 16 1 Hw_0 fs none K kx kr (sc0 11 [fY l, .pointer (some ⟨p, 0, none⟩)]) (tr0 11 [fY l, .pointer (some ⟨p, 0, none⟩)]) [] A =
    Option.casesOn (match Tr.get (AW.heap A) p with | some (.cells c elem fam sz) => c[0]? | x => none) (.fail 423) fun val => bif isI IntKind.u64 val then K [(4, U (ofI val))] (.node (.node (.node .nil (some (U (ofI val))) .nil) (some (.pointer (some ⟨p, 0, none⟩))) .nil) (some (.func (Fn.yield l) ⟨[]⟩ ⟨[]⟩)) .nil) [] A else .fail 420 := by kernel_rfl
theorem hwB (r : Mem) (l : Nat) (t : Int) (A : AW) (fs : FnsC) (K : KS) (kx : Nat → KS) (kr : KS) : run (SC r) 11 16 1 Hw_1 fs none K kx kr [] (tHb l t) [] A =
    bif t != Int.ofNat 0 then K [(6, .bool true), (5, U t)] (.node (.node (.node .nil (some (U t)) .nil) none .nil) (some (.func (Fn.yield l) ⟨[]⟩ ⟨[]⟩)) .nil) [] A else kx 0 [(6, .bool false), (5, U t)] (.node (.node (.node .nil (some (U t)) .nil) none .nil) (some (.func (Fn.yield l) ⟨[]⟩ ⟨[]⟩)) .nil) [] A := by kernel_rfl
theorem hwC (r : Mem) (l : Nat) (t : Int) (A : AW) (K : KS) : preK (SC r) 11 16 Hw_2 3 (lvlT (SC r) tHw .nil 1 2) K [] (tHb l t) [] A =
    bif m_twG t then K [(13, I (m_tw t)), (12, U t), (11, .func (Fn.yield l) ⟨[]⟩ ⟨[]⟩)] (.node (.node (.node .nil (some (U t)) .nil) none .nil) (some (.func (Fn.yield l) ⟨[]⟩ ⟨[]⟩)) .nil) [] A else .fail 420 := by kernel_rfl
theorem hwD (r : Mem) (l : Nat) (t u : Int) (v : Bool) (A : AW) (fs : FnsC) (K : KS) (kx : Nat → KS) (kr : KS) : tailK (SC r) 11 16 Hw_2 3 fs (run (SC r) 11 16 1 Hw_3 fs none (run (SC r) 11 16 1 Hw_4 fs none K kx kr) (fun j => match Nat.beq j 1 with | true => run (SC r) 11 16 1 Hw_4 fs none K kx kr | false => kx j) kr) (.bool v) [(13, I u), (12, U t), (11, fY l)] (tHb l t) [] A =
    bif v then K [(10, U (ibits BinOp.and IntKind.u64 t (IntKind.wrap .u64 (t - Int.ofNat 1)))), (9, U (IntKind.wrap .u64 (t - Int.ofNat 1))), (8, U t), (7, U t)] (.node (.node (.node .nil (some (U (ibits BinOp.and IntKind.u64 t (IntKind.wrap .u64 (t - Int.ofNat 1))))) .nil) none .nil) (some (.func (Fn.yield l) ⟨[]⟩ ⟨[]⟩)) .nil) [] A else kr [(15, .bool true), (14, .bool false), (13, I u), (12, U t), (11, .func (Fn.yield l) ⟨[]⟩ ⟨[]⟩)] (.node (.node (.node .nil (some (U t)) .nil) none .nil) (some (.func (Fn.yield l) ⟨[]⟩ ⟨[]⟩)) .nil) [] A := by kernel_rfl
end Go.Proofs
