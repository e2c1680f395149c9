/- What the claim is proved with, part 1: the evaluator and the contracts of the calls. -/
import Derived.Test.YtdalaifnhppidaaDoorSymBase
import Derived.Test.YtdalaifnhppidaaDoorEvMemOf
import Derived.Test.YtdalaifnhppidaaDoorRows
import Derived.FnData
import Derived.MakeChecks
import Derived.IntWalk
import Derived.Test.YtdalaifnhppidaaDoorEvRd
import Derived.Test.YtdalaifnhppidaaDoorEvOwn
import Derived.Test.YtdalaifnhppidaaDoorEvGp
import Derived.Test.YtdalaifnhppidaaDoorEvSym
import Derived.Test.YtdalaifnhppidaaDoorEvSetB
import Derived.Test.YtdalaifnhppidaaDoorEvCanR
set_option linter.unusedVariables false
set_option linter.unusedSimpArgs false
set_option maxRecDepth 100000
namespace Go.Proofs
open Go Go.Ev
abbrev KO := OV → List Nat → OO → CR
abbrev F4 : CR := .fail 420
theorem tnO : ∀ x : Nat, Int.toNat (Int.ofNat x) = x := fun _ => rfl
end Go.Proofs
namespace Go.Proofs
open Go Go.Ev
def u8s (l : List Nat) : List Value := l.map fun n => .int .u8 (Int.ofNat n)
def tab32 : List Nat := [0, 1, 28, 2, 29, 14, 24, 3, 30, 22, 20, 15, 25, 17, 4, 8, 31, 27, 13, 23, 21, 19, 16, 7, 26, 12, 18, 6, 11, 5, 10, 9]
def memL (l : List Value) : Nat → Option Value := fun j => l[j]?
def tabM : Mem := ⟨fun b j => match Nat.beq b 0 with
 | true => memL (u8s tab32) j
 | false => none, fun _ => false⟩
theorem _root_.Go.Ev.GrT.more {P : Program} {r r' : Mem} {f : Nat} {args : List Value} {v : Value} (h : GrT P r f args v) (hle : ∀ b j u, r b j = some u → r' b j = some u) (ho : ∀ b, r.own b = true → r'.own b = true := by exact fun _ h => nomatch h) : GrT P r' f args v := h.less hle ho
end Go.Proofs
namespace Go.Proofs
open Go Go.Ev
theorem tab_cells {H : Type} {enc : TypeId × Value → H} {P : Program} {w : World} {base fuel : Nat} {spare : Nat → Bool} {held : Bool} {t e : TypeId} {n : Nat} {k : IntKind} {cs : List Value} {l : List Int} {p : List MemPlace}
  (ht : P.underlying t = some (.array n e)) (he : P.underlying e = some (.int k)) (ce : P.cellsOf e = 1)
  (h : DataW.trod enc P w base spare held fuel t cs = some (.agg (l.map fun z => .lit (.int k z)), p)) : ∀ (j : Nat) (z : Int), l[j]? = some z → cs[j]? = some (Value.int k z) := by
 obtain ⟨xs, m, _, hx, _, hl, hel⟩ := DataW.trod_array ht h
 have h1 : l.map (fun z => (DataW.lit (.int k z) : DataW H)) = xs.map (·.1) := by
  have := congrArg Prod.fst hx
  simpa using this
 intro j z hz
 have hlen : l.length = xs.length := by
  have := congrArg List.length h1
  simpa using this
 have hj : j < l.length := (List.getElem?_eq_some_iff.1 hz).1
 have h3 := hel j (by omega)
 rw [ce, Nat.mul_one] at h3
 have hxj : xs[j]? = some xs[j] := List.getElem?_eq_getElem (by omega)
 rw [hxj] at h3
 obtain ⟨s, h4, h5, _⟩ := DataW.trod_int he h3
 have h6 : (l.map (fun z => (DataW.lit (.int k z) : DataW H)))[j]? = (xs.map (·.1))[j]? := by rw [h1]
 simp only [List.getElem?_map, hz, hxj, Option.map_some, h5, Option.some.injEq, DataW.lit.injEq, Lit.int.injEq, true_and] at h6
 subst h6
 have h7 := congrArg (fun l : List Value => l[0]?) h4
 simp only [List.getElem?_cons_zero] at h7
 rw [List.getElem?_take_of_lt (by omega), List.getElem?_drop] at h7
 simpa using h7
theorem tab_mem {P : Program} {w : World} {n : String} {g : Nat} {cs : Array Value} {k : IntKind} (hg : P.globalNamed n = some g) (hv : w.var? P n = some cs) {l : List Int} (h : ∀ (j : Nat) (z : Int), l[j]? = some z → cs.toList[j]? = some (Value.int k z)) :
  ∀ (j : Nat) (z : Int), l[j]? = some z → memOf w g j = some (Value.int k z) := fun j z hz => memOf_int (by
 rw [World.var?_cell hg hv j]
 have := h j z hz
 simpa using this)
theorem laid_32 {W : World} {g t f : Nat} {cs : Array Value} {p : List MemPlace} (a1 : Tryd.prog.globalNamed "math/bits.deBruijn32tab" = some g) (a2 : (Tryd.prog.globals[g]?).map (·.type) = some t) (a3 : W.var? Tryd.prog "math/bits.deBruijn32tab" = some cs)
  (a4 : DataW.trod (fun _ => ()) Tryd.prog W 0 (fun _ => true) false f t cs.toList = some (YtdalaifnhppidaaDoor.Rows.laid_math_bits_deBruijn32tab, p)) : ∀ j u, memL (u8s tab32) j = some u → memOf W 0 j = some u := by
 have hg : Tryd.prog.globalNamed "math/bits.deBruijn32tab" = some 0 := by kernel_rfl
 obtain rfl := Option.some.inj (hg.symm.trans a1)
 obtain rfl := Option.some.inj ((show (Tryd.prog.globals[0]?).map (·.type) = some 112 by kernel_rfl).symm.trans a2)
 have h1 := tab_cells (l := tab32.map Int.ofNat) (k := .u8) (t := 112) (n := 32) (e := 5) (by kernel_rfl) (by kernel_rfl) (by kernel_rfl) (a4.trans (by rfl))
 intro j u hu
 simp only [memL, u8s, List.getElem?_map, Option.map_eq_some_iff] at hu
 obtain ⟨z, hz, rfl⟩ := hu
 exact tab_mem hg a3 h1 j _ (by simp [List.getElem?_map, hz])
theorem laid_mem {W : World} {x : String × DataW Unit} (hx : x = ("math/bits.deBruijn32tab", YtdalaifnhppidaaDoor.Rows.laid_math_bits_deBruijn32tab)) (hL : laidMetH Tryd.prog [x] W) : ∀ b j u, tabM b j = some u → memOf W b j = some u := by
 subst hx
 rw [MakeChecks.laidMetH_plain _ _ _ (by kernel_rfl)] at hL
 obtain ⟨ps, ⟨g1, t1, c1, f1, p1, q1, a1, a2, a3, a4, _, _⟩, _⟩ := hL
 intro b j u h
 unfold tabM at h
 dsimp only at h
 split at h
 ·rename_i hb
  have := Nat.eq_of_beq_eq_true hb
  subst this
  exact laid_32 a1 a2 a3 a4 j u h
 ·cases h
end Go.Proofs
namespace Go.Ev
open Go
inductive ArgRowT (r : Mem) (n : Nat) (p : Value → Prop) : Value → Prop
 | nil : ArgRowT r n p (.slice none 0 0)
 | row (b off len cap : Nat) (hl : len ≤ cap) (hc : cap ≤ maxLen) (h : ∀ i, i < cap * n → ∃ u, r b (off + i) = some u ∧ p u) : ArgRowT r n p (.slice (some ⟨b, off, some 0⟩) len cap)
theorem okWide_spot {P : Program} {w : World} {r : Go.Reach} {base : Nat} {t e : TypeId} {x : Addr} {len cap : Nat} (ht : P.underlying t = some (.slice e)) (h : Value.okWide P w r base t (.slice (some x) len cap)) : x.spot = none := by
 simp only [Value.okWide, ht, Cell.okWide, Cell.ok] at h
 exact h.2.2.2.1
section
variable {H : Type} {enc : TypeId × Value → H} {P : Program} {w : World} {base : Nat} {held : Bool}
theorem in_rowT {t e : TypeId} {n : Nat} {p : Value → Prop} {v : Value} {d : DataW H} {ps : List MemPlace} (hn : 0 < n) (ht : P.underlying t = some (.slice e)) (ce : P.cellsOf e = n) (hel : El enc P w base held e n p)
  {b0 : Nat} (hval : Value.okWide P w .any b0 t v) (h : DataW.Trod enc P w base (fun _ => true) held t v d ps) : ∃ u, VRel noG u v ∧ ArgRowT (memOf w) n p u := by
 obtain ⟨u, hu, hs⟩ := in_row hn ht ce hel hval h
 obtain ⟨a, len, cap, rfl⟩ := Go.WideShapes.okWide_slice ht hval
 cases hs with
 | nil => exact ⟨_, hu, .nil⟩
 | row b off len cap hl hc h => exact ⟨_, hu, .row b off len cap hl hc h⟩
 | empty =>
  obtain ⟨fuel, hf⟩ := h
  rcases Go.Deep.open_slice ht hf with ⟨h0, _⟩ | ⟨a', len', cap', m, n', D, Pl, h0, _, hl, hm, hmm, _, hx⟩
  ·simp [Value.cells] at h0
   obtain ⟨rfl, rfl, rfl⟩ := h0
   exact ⟨_, .sliceNil, .nil⟩
  ·simp [Value.cells] at h0
   obtain ⟨rfl, rfl, rfl⟩ := h0
   have hsp := okWide_spot ht hval
   obtain ⟨b, off, s⟩ := a'
   subst hsp
   have hlen : len = 0 := by
    cases hu with
    | sliceE => rfl
    | slice _ _ _ _ hg => cases hg
   subst hlen
   exact ⟨_, .sliceRo b off 0 0 0 cap (by decide) (Nat.zero_le _), .row b off 0 0 (Nat.le_refl _) (Nat.zero_le _) fun i hi => by omega⟩
end
end Go.Ev
namespace Go.Proofs
open Go Go.Ev
theorem fnsSC (r : Mem) : (SC r).fns = S0.fns := by unfold SC Cfg.sym; rfl
theorem bodySC (r : Mem) (f : Nat) : bodyOf (SC r) f = bodyOf S0 f := by unfold bodyOf; rw [fnsSC]
theorem fn_of {C : Cfg} {f : Nat} (h : hasBody C f = true) : ∃ fn, C.fns.get f = some fn ∧ fn.body = some (bodyOf C f) ∧ fn.ntmps = ntm C f ∧ fn.results.toList = resOf C f := by
 unfold hasBody at h
 unfold bodyOf ntm resOf
 split at h
 ·rename_i fn hfn
  split at h
  ·rename_i c hc
   exact ⟨fn, hfn, by simp only [hfn, hc], by simp only [hfn], by simp only [hfn]⟩
  ·cases h
 ·cases h
theorem dT {p : Prop} [Decidable p] (h : p) : decide p = true := decide_eq_true h
theorem dF {p : Prop} [Decidable p] (h : ¬ p) : decide p = false := decide_eq_false h
theorem eqT {a b : Int} (h : a = b) : (a == b) = true := by simp [h]
theorem eqF {a b : Int} (h : a ≠ b) : (a == b) = false := by simp [h]
theorem neT {a b : Int} (h : a ≠ b) : (a != b) = true := by simp [h]
theorem neF {a b : Int} (h : a = b) : (a != b) = false := by simp [h]
theorem wrI {z : Int} (h : -9223372036854775808 ≤ z ∧ z ≤ 9223372036854775807) : IntKind.wrap .i64 z = z := IntWalk.i64_in z h
/- An entry for one call alone: these arguments, this world; what it answers, and the world behind it. -/
noncomputable def m_at (args args0 : List Value) (A A0 : AW) : Bool := @decide (args = args0 ∧ A = A0) (Classical.propDecidable _)
noncomputable def entAt (args0 : List Value) (A0 : AW) (v : Value) (A1 : AW) : Ent := ⟨fun args A => m_at args args0 A A0, fun _ _ => true, fun _ _ => v, fun _ _ => A1, fun _ _ => v, fun _ _ => A1⟩
theorem at_rfl (args : List Value) (A : AW) : m_at args args A A = true := @decide_eq_true _ (Classical.propDecidable _) ⟨rfl, rfl⟩
theorem entAt_ok {C : Cfg} {f : Nat} {args0 : List Value} {A0 : AW} {v : Value} {A1 : AW}
  (h : ∀ F, Wide F → ∀ k γ W args', WRel γ A0 W → Ro C.ro γ W → VsRel γ args0 (Array.toList args') → CallsIn F k C.P f args' W (Go.Ev.Ends γ W v A1)) : EOk C f (entAt args0 A0 v A1) := fun args A hg F hF k γ W args' hw hR ha => by
 obtain ⟨rfl, rfl⟩ := @of_decide_eq_true _ (Classical.propDecidable _) hg
 exact ⟨fun _ => h F hF k γ W args' hw hR ha, fun _ => h F hF k γ W args' hw hR ha⟩
/- Entries of a table, by the shape of the arguments. -/
def eI2 (g : Int → Int → Bool) (v : Int → Int → Value) : Ent := ent (fun args _ => match args with | [.int .i64 a, .int .i64 b] => g a b | _ => false) (fun args _ => match args with | [.int .i64 a, .int .i64 b] => v a b | _ => undef)
def e0 (v : Value) : Ent := ent (fun args _ => match args with | [] => true | _ => false) (fun _ _ => v)
theorem eI2_ok {C : Cfg} {f : Nat} {g : Int → Int → Bool} {v : Int → Int → Value} (h : ∀ a b, g a b = true → GrT C.P C.ro f [I a, I b] (v a b)) : EOk C f (eI2 g v) := EOk.ent fun args A hg => by
 split at hg
 ·exact (h _ _ hg).ro rfl A
 ·cases hg
theorem e0_ok {C : Cfg} {f : Nat} {v : Value} (h : GrT C.P C.ro f [] v) : EOk C f (e0 v) := EOk.ent fun args A hg => by
 split at hg
 ·exact h.ro rfl A
 ·cases hg
end Go.Proofs
namespace Go.Num
def ea (z : Nat → Int) (i : Nat) : Int := z (2 * i)
def eb (z : Nat → Int) (i : Nat) : Int := z (2 * i + 1)
end Go.Num
namespace Go.Proofs
open Go Go.Ev Go.Num
abbrev RS2 (b off len cap : Nat) : Value := .slice (some ⟨b, off, some 0⟩) len cap
end Go.Proofs
namespace Go.Proofs
open Go Go.Ev Go.Num
def rowAt (r : Mem) (b off m : Nat) (z : Nat → Int) : Prop := ∀ j, j < m → r b (off + j) = some (I (z j))
end Go.Proofs
namespace Go.Proofs
open Go Go.Ev Go.Num
def ixN (f : Nat → Int) (m : Nat) : List Value := (List.range m).map fun j => I (f j)
theorem ix_len (f : Nat → Int) (m : Nat) : (ixN f m).length = m := by simp [ixN]
theorem ix_get {f : Nat → Int} {m j : Nat} (h : j < m) : (ixN f m)[j]? = some (I (f j)) := by simp [ixN, h]
theorem ix_nn (f : Nat → Int) (m : Nat) : m_nns (ixN f m) = true := by
 unfold ixN
 generalize List.range m = l
 induction l with
 | nil => rfl
 | cons x l ih => exact ih
theorem ix_gnd (f : Nat → Int) (m : Nat) : gnds (ixN f m) = true := by
 unfold ixN
 generalize List.range m = l
 induction l with
 | nil => rfl
 | cons x l ih => exact ih
theorem ix_ext {f g : Nat → Int} {m : Nat} (h : ∀ j, j < m → f j = g j) : ixN f m = ixN g m := by
 unfold ixN
 exact List.map_congr_left fun j hj => by rw [h j (List.mem_range.1 hj)]
theorem ix_set (f : Nat → Int) (m k : Nat) (v : Int) : (ixN f m).set k (I v) = ixN (fun j => if j = k then v else f j) m := by
 apply List.ext_getElem?
 intro j
 rw [List.getElem?_set]
 by_cases c : j < m
 ·rw [ix_get c, ix_get c, ix_len]
  by_cases d : k = j
  ·subst d; simp [c]
  ·have d' : ¬ j = k := fun e => d e.symm
   simp [d, d']
 ·have h1 : (ixN f m)[j]? = none := List.getElem?_eq_none (by rw [ix_len]; omega)
  have h2 : (ixN (fun j => if j = k then v else f j) m)[j]? = none := List.getElem?_eq_none (by rw [ix_len]; omega)
  rw [h1, h2, ix_len]
  split <;> rename_i e <;> simp [c, e]
theorem setA0_two : ∀ (c : List Value) (k : Nat) (v w : Value), k + 1 < c.length → setA0 c k [v, w] = some ((c.set k v).set (k + 1) w)
 | [], k, v, w, h => by simp at h
 | [x], k, v, w, h => by simp at h
 | x :: y :: l, 0, v, w, h => by simp [setA0]
 | x :: y :: l, k + 1, v, w, h => by
  have := setA0_two (y :: l) k v w (by simpa using h)
  simp only [setA0, this, List.set_cons_succ]
theorem ix_set2 {f : Nat → Int} {m k : Nat} {v w : Int} (h : k + 1 < m) : setAt (ixN f m) k [I v, I w] = some (ixN (fun j => if j = k + 1 then w else if j = k then v else f j) m) := by
 rw [setAt_old, setA0_two _ _ _ _ (by rw [ix_len]; exact h), ix_set, ix_set]
theorem ix_zero1 (n : Nat) : zerosL (Nat.mul n 1) [I (Int.ofNat 0)] = ixN (fun _ => 0) n := by
 show List.replicate (Nat.mul n 1) (I 0) = _
 rw [Nat.mul_eq, Nat.mul_one]
 apply List.ext_getElem?
 intro j
 by_cases c : j < n
 ·rw [ix_get c, List.getElem?_replicate, if_pos c]
 ·rw [List.getElem?_eq_none (by rw [List.length_replicate]; omega), List.getElem?_eq_none (by rw [ix_len]; omega)]
theorem ix_zero2 (n : Nat) : zerosL (Nat.mul n 2) [I (Int.ofNat 0), I (Int.ofNat 0)] = ixN (fun _ => 0) (2 * n) := by
 show (List.range (Nat.mul n 2)).map (fun j => match [I (Int.ofNat 0), I (Int.ofNat 0)][Nat.mod j 2]? with | some z => z | none => (default : Value)) = _
 unfold ixN
 rw [Nat.mul_eq, Nat.mul_comm]
 refine List.map_congr_left fun j _ => ?_
 have : ∀ k, k < 2 → (match [I (Int.ofNat 0), I (Int.ofNat 0)][k]? with | some z => z | none => (default : Value)) = I 0 := fun k hk => by
  match k, hk with
  | 0, _ => rfl
  | 1, _ => rfl
 exact this _ (Nat.mod_lt _ (by omega))
theorem isI_I (z : Int) : isI .i64 (I z) = true := rfl
theorem ofI_I (z : Int) : ofI (I z) = z := rfl
theorem SOk.mono {C : Cfg} {f : Nat} {args : List Value} {A : AW} {S S' : Value → AW → Prop} (h : SOk C f args A S) (hs : ∀ v A', S v A' → S' v A') : SOk C f args A S' := fun F hF k γ W args' hw hR ha =>
 (h F hF k γ W args' hw hR ha).mono fun e W' he => by
  obtain ⟨v, A', h1, h2⟩ := he
  exact ⟨v, A', hs v A' h1, h2⟩
theorem SOk.at {C : Cfg} {f : Nat} {args : List Value} {A A1 : AW} {v : Value} (h : SOk C f args A fun u B => u = v ∧ B = A1) : EOk C f (entAt args A v A1) := entAt_ok fun F hF k γ W args' hw hR ha => h.one F hF k γ W args' hw hR ha
theorem inc1 {k : Nat} (h : k ≤ 2000000) : IntKind.wrap IntKind.i64 (Int.ofNat k + Int.ofNat 1) = ((k + 1 : Nat) : Int) := by rw [wrI (by simp; omega)]; simp
theorem inc1' {k : Nat} (h : k ≤ 2000000) : IntKind.wrap IntKind.i64 ((k : Int) + Int.ofNat 1) = ((k + 1 : Nat) : Int) := by rw [wrI (by simp; omega)]; simp
def rowI (e : List Int) : List Value := e.map fun x => I x
theorem rowI_len (e : List Int) : (rowI e).length = e.length := by simp [rowI]
theorem rowI_nn (e : List Int) : m_nns (rowI e) = true := by
 induction e with
 | nil => rfl
 | cons x l ih => exact ih
theorem rowI_get {e : List Int} {k : Nat} (h : k < e.length) : (rowI e)[k]? = some (I (e.getD k 0)) := by
 simp [rowI, h, List.getD_eq_getElem?_getD]
theorem rowI_app (e : List Int) (x : Int) : rowI e ++ [I x] = rowI (e ++ [x]) := by simp [rowI]
theorem takeL_row (c : List Value) (n : Nat) (h : c.length = n) : takeAt c 0 n = some c := takeAt_all c n 0 c h fun j hj => by rw [Nat.zero_add]
end Go.Proofs
namespace Go.Proofs
open Go Go.Ev Go.Num
theorem natFx {i j : Nat} (h : i ≠ j) : Nat.beq i j = false := by
 cases e : Nat.beq i j with
 | false => rfl
 | true => exact absurd (Nat.eq_of_beq_eq_true e) h
theorem own_row {r : Mem} {γ : Gam} {A : AW} {W : World} (hw : WRel γ A W) (hR : Ro r γ W) {i len cap : Nat} (hcap : Nat.beq cap unkE = false) {c : List Value} {e f z : Nat} (hget : A.heap.get i = some (.cells c e f z)) {v' : Value} (hv : VRel γ (.slice (some ⟨i, 0, none⟩) len cap) v') :
  ∃ b k', VRel noG (RS b k' len 0) v' ∧ ∀ j u, c[j]? = some u → gnd u = true → memW W b (k' + j) = some u := by
 obtain ⟨b, k', c', rfl, hrd⟩ := rd_world hw hR hv hcap
 refine ⟨b, k', .sliceRo _ _ _ _ _ _ (by decide) (Nat.zero_le _), fun j u hu hg => hrd j u ?_ hg⟩
 simp only [AW.rd, AW.cell, hget]
 rw [Nat.add_eq, Nat.zero_add]
 exact hu
end Go.Proofs
namespace Go.Proofs
open Go Go.Ev Go.Num
end Go.Proofs
namespace Go.Proofs
open Go Go.Ev Go.Num
noncomputable def cTB : Code := bodyOf S0 27
noncomputable def TB_0 : Code := (lc cTB)
noncomputable def TB_1 : Code := (lc (rc cTB))
noncomputable def TB_2 : Code := (lc (lc (rc (rc cTB))))
noncomputable def TB_3 : Code := (ic (ic (rc (lc (rc (rc cTB))))))
noncomputable def TB_4 : Code := (rc (rc (rc cTB)))
theorem TB_eq : cTB = (.seq TB_0 (.seq TB_1 (.seq (.seq TB_2 (.block 0 (.loop TB_3))) TB_4))) := by kernel_rfl
abbrev nilT : Value := .slice none 0 0
abbrev gwT (i n : Nat) : Value := .slice (some ⟨i, 0, none⟩) n unk
def oTb (c : List Value) (i : Nat) : Option AObj := some (.cells c 64 i 1)
def oBo (c : List Value) (i : Nat) : Option AObj := some (.cells c 4 i 1)
def lvTB : List Nat := [0, 3, 4]
def vTB (b off n cap : Nat) (E : Value) (k : Nat) : OV := [some (RS b off n cap), some E, some (I (k : Nat))]
theorem tbA (r : Mem) (b off n cap : Nat) (fs : FnsC) (K : KO) (kx : Nat → KS) (kr : KS) : run (SC r) 61 33 1 (.seq TB_0 (.seq TB_1 TB_2)) fs none (rbK 0 lvTB [] K) kx kr (sc0 61 [RS b off n cap]) (tr0 61 [RS b off n cap]) [] emptyA =
    K [some (.slice (some ⟨b, off, some 0⟩) n cap), some (.slice none 0 0), some (I (Int.ofNat 0))] [] [] := by kernel_rfl
theorem tbBnN (r : Mem) (b off n cap k : Nat) (fs : FnsC) (K : KO) (KX : Nat → KO) (kr : KS) : run (SS r 1) 61 33 1 TB_3 fs none (rbK 0 lvTB [.t] K) (fun j => rbK 0 [3] [] (KX j)) kr [] (bT lvTB (vTB b off n cap nilT k) .nil) [] (mkA []) =
    bif decide (Int.ofNat k < Int.ofNat n) then bif decide (Int.ofNat k < 14) then bif Nat.blt (Int.toNat (Int.ofNat k)) n then Option.casesOn (r b (Nat.add off (Nat.mul (Int.toNat (Int.ofNat k)) 1))) (.fail 423) fun val => bif isNilS val then bif Nat.blt (Int.toNat (Int.ofNat k)) n then Option.casesOn (r b (Nat.add off (Nat.mul (Int.toNat (Int.ofNat k)) 1))) (.fail 423) fun val => bif isNilS val then K [some (.slice (some ⟨b, off, some 0⟩) n cap), some (.slice (some ⟨0, 0, none⟩) 1 unk), some (I (IntKind.wrap .i64 (Int.ofNat k + Int.ofNat 1)))] [] [some (.cells [.slice none 0 0] 64 0 1)] else F4 else F4 else F4 else F4 else KX 0 [some (.slice none 0 0)] [] [] else KX 0 [some (.slice none 0 0)] [] [] := by kernel_rfl
theorem tbBoN (r : Mem) (b off n cap k m : Nat) (c : List Value) (fs : FnsC) (K : KO) (KX : Nat → KO) (kr : KS) : run (SS r 1) 61 33 1 TB_3 fs none (rbK 0 lvTB [.q []] K) (fun j => rbK 0 [3] [] (KX j)) kr [] (bT lvTB (vTB b off n cap (gwT 0 m) k) .nil) [] (mkA [oTb c 0]) =
    bif decide (Int.ofNat k < Int.ofNat n) then bif decide (Int.ofNat k < 14) then bif Nat.blt (Int.toNat (Int.ofNat k)) n then Option.casesOn (r b (Nat.add off (Nat.mul (Int.toNat (Int.ofNat k)) 1))) (.fail 423) fun val => bif isNilS val then bif Nat.blt (Int.toNat (Int.ofNat k)) n then Option.casesOn (r b (Nat.add off (Nat.mul (Int.toNat (Int.ofNat k)) 1))) (.fail 423) fun val => bif isNilS val then bif Nat.ble (Nat.add m 1) 1000000 then Option.casesOn (takeAt c 0 (Nat.mul m 1)) (.fail 439) fun val => bif m_nopo (m_mvq [2] (val ++ [.slice none 0 0])) && true then K [some (.slice (some ⟨b, off, some 0⟩) n cap), some (.slice (some ⟨0, 0, none⟩) (Nat.add m 1) unk), some (I (IntKind.wrap .i64 (Int.ofNat k + Int.ofNat 1)))] [] [some (.cells (m_mvq [2] (val ++ [.slice none 0 0])) 64 0 1)] else F4 else F4 else F4 else F4 else F4 else F4 else bif m_nns c && true then KX 0 [some (.slice (some ⟨0, 0, none⟩) m unk)] [] [some (.cells c 64 0 1)] else F4 else bif m_nns c && true then KX 0 [some (.slice (some ⟨0, 0, none⟩) m unk)] [] [some (.cells c 64 0 1)] else F4 := by kernel_rfl
theorem tbBnR (r : Mem) (b off n cap k : Nat) (fs : FnsC) (K : KO) (KX : Nat → KO) (kr : KS) : run (SS r 2) 61 33 1 TB_3 fs none (rbK 0 lvTB [.t] K) (fun j => rbK 0 [3] [] (KX j)) kr [] (bT lvTB (vTB b off n cap nilT k) .nil) [] (mkA []) =
    bif decide (Int.ofNat k < Int.ofNat n) then bif decide (Int.ofNat k < 14) then bif Nat.blt (Int.toNat (Int.ofNat k)) n then Option.casesOn (r b (Nat.add off (Nat.mul (Int.toNat (Int.ofNat k)) 1))) (.fail 423) fun val => bif isRoS val then bif Nat.blt (Int.toNat (Int.ofNat k)) n then Option.casesOn (r b (Nat.add off (Nat.mul (Int.toNat (Int.ofNat k)) 1))) (.fail 423) fun val_1 => bif isRoS val_1 then bif decide (0 ≤ bif decide (14 < Int.ofNat (lnOf val_1)) then Int.ofNat 14 else Int.ofNat (lnOf val_1)) then bif Nat.beq (cpOf val) 9223372036854775809 then .fail 435 else bif Nat.ble (Int.toNat (bif decide (14 < Int.ofNat (lnOf val_1)) then Int.ofNat 14 else Int.ofNat (lnOf val_1))) (cpOf val) then bif Nat.beq (Int.toNat (bif decide (14 < Int.ofNat (lnOf val_1)) then Int.ofNat 14 else Int.ofNat (lnOf val_1))) 0 then K [some (.slice (some ⟨b, off, some 0⟩) n cap), some (.slice (some ⟨0, 0, none⟩) 1 unk), some (I (IntKind.wrap .i64 (Int.ofNat k + Int.ofNat 1)))] [] [some (.cells [.slice none 0 0] 64 0 1)] else bif Nat.ble (Nat.add 0 (Nat.sub (Int.toNat (bif decide (14 < Int.ofNat (lnOf val_1)) then Int.ofNat 14 else Int.ofNat (lnOf val_1))) 0)) 1000000 then Option.casesOn (match Nat.beq (Nat.sub (cpOf val) 0) unkE with | true => none | false => takeF (Mem.get (Cfg.ro (SS r 2)) (blkOf val)) (Nat.add (offOf val) (Nat.mul 0 (TypeInfo.size Tryd.t4))) (Nat.mul (Nat.sub (Int.toNat (bif decide (14 < Int.ofNat (lnOf val_1)) then 14 else Int.ofNat (lnOf val_1))) 0) (TypeInfo.size Tryd.t4))) (.fail 443) fun val => bif Nat.beq (List.length val) (Nat.mul (Nat.sub (Int.toNat (bif decide (14 < Int.ofNat (lnOf val_1)) then Int.ofNat 14 else Int.ofNat (lnOf val_1))) 0) 1) then bif Nat.beq (Nat.sub (Int.toNat (bif decide (14 < Int.ofNat (lnOf val_1)) then Int.ofNat 14 else Int.ofNat (lnOf val_1))) 0) 0 then K [some (.slice (some ⟨b, off, some 0⟩) n cap), some (.slice (some ⟨0, 0, none⟩) 1 unk), some (I (IntKind.wrap .i64 (Int.ofNat k + Int.ofNat 1)))] [] [some (.cells [.slice none 0 0] 64 0 1)] else bif true && (m_nns val && true) then K [some (.slice (some ⟨b, off, some 0⟩) n cap), some (.slice (some ⟨0, 0, none⟩) 1 unk), some (I (IntKind.wrap .i64 (Int.ofNat k + Int.ofNat 1)))] [] [some (.cells [.slice (some ⟨1, 0, none⟩) (Nat.sub (Int.toNat (bif decide (14 < Int.ofNat (lnOf val_1)) then Int.ofNat 14 else Int.ofNat (lnOf val_1))) 0) unk] 64 0 1), some (.cells val 4 1 1)] else F4 else F4 else F4 else F4 else F4 else F4 else F4 else F4 else F4 else KX 0 [some (.slice none 0 0)] [] [] else KX 0 [some (.slice none 0 0)] [] [] := by kernel_rfl
theorem tbBoR (r : Mem) (b off n cap k m : Nat) (c : List Value) (fs : FnsC) (K : KO) (KX : Nat → KO) (kr : KS) : run (SS r 2) 61 33 1 TB_3 fs none (rbK 0 lvTB [.q [1]] K) (fun j => rbK 0 [3] [] (KX j)) kr [] (bT lvTB (vTB b off n cap (gwT 0 m) k) .nil) [] (mkA [oTb c 0]) =
    bif decide (Int.ofNat k < Int.ofNat n) then bif decide (Int.ofNat k < 14) then bif Nat.blt (Int.toNat (Int.ofNat k)) n then Option.casesOn (r b (Nat.add off (Nat.mul (Int.toNat (Int.ofNat k)) 1))) (.fail 423) fun val => bif isRoS val then bif Nat.blt (Int.toNat (Int.ofNat k)) n then Option.casesOn (r b (Nat.add off (Nat.mul (Int.toNat (Int.ofNat k)) 1))) (.fail 423) fun val_1 => bif isRoS val_1 then bif decide (0 ≤ bif decide (14 < Int.ofNat (lnOf val_1)) then Int.ofNat 14 else Int.ofNat (lnOf val_1)) then bif Nat.beq (cpOf val) 9223372036854775809 then .fail 435 else bif Nat.ble (Int.toNat (bif decide (14 < Int.ofNat (lnOf val_1)) then Int.ofNat 14 else Int.ofNat (lnOf val_1))) (cpOf val) then bif Nat.beq (Int.toNat (bif decide (14 < Int.ofNat (lnOf val_1)) then Int.ofNat 14 else Int.ofNat (lnOf val_1))) 0 then bif Nat.ble (Nat.add m 1) 1000000 then Option.casesOn (takeAt c 0 (Nat.mul m 1)) (.fail 439) fun val => bif m_nopo (m_mvq [2, 1] (val ++ [.slice none 0 0])) && (m_nns [.slice none 0 0] && true) then K [some (.slice (some ⟨b, off, some 0⟩) n cap), some (.slice (some ⟨0, 0, none⟩) (Nat.add m 1) unk), some (I (IntKind.wrap .i64 (Int.ofNat k + Int.ofNat 1)))] [] [some (.cells (m_mvq [2, 1] (val ++ [.slice none 0 0])) 64 0 1), some (.cells [.slice none 0 0] 64 1 1)] else F4 else F4 else bif Nat.ble (Nat.add 0 (Nat.sub (Int.toNat (bif decide (14 < Int.ofNat (lnOf val_1)) then Int.ofNat 14 else Int.ofNat (lnOf val_1))) 0)) 1000000 then Option.casesOn (match Nat.beq (Nat.sub (cpOf val) 0) unkE with | true => none | false => takeF (Mem.get (Cfg.ro (SS r 2)) (blkOf val)) (Nat.add (offOf val) (Nat.mul 0 (TypeInfo.size Tryd.t4))) (Nat.mul (Nat.sub (Int.toNat (bif decide (14 < Int.ofNat (lnOf val_1)) then 14 else Int.ofNat (lnOf val_1))) 0) (TypeInfo.size Tryd.t4))) (.fail 443) fun val => bif Nat.beq (List.length val) (Nat.mul (Nat.sub (Int.toNat (bif decide (14 < Int.ofNat (lnOf val_1)) then Int.ofNat 14 else Int.ofNat (lnOf val_1))) 0) 1) then bif Nat.beq (Nat.sub (Int.toNat (bif decide (14 < Int.ofNat (lnOf val_1)) then Int.ofNat 14 else Int.ofNat (lnOf val_1))) 0) 0 then bif Nat.ble (Nat.add m 1) 1000000 then Option.casesOn (takeAt c 0 (Nat.mul m 1)) (.fail 439) fun val => bif m_nopo (m_mvq [2, 1] (val ++ [.slice none 0 0])) && (m_nns [.slice none 0 0] && true) then K [some (.slice (some ⟨b, off, some 0⟩) n cap), some (.slice (some ⟨0, 0, none⟩) (Nat.add m 1) unk), some (I (IntKind.wrap .i64 (Int.ofNat k + Int.ofNat 1)))] [] [some (.cells (m_mvq [2, 1] (val ++ [.slice none 0 0])) 64 0 1), some (.cells [.slice none 0 0] 64 1 1)] else F4 else F4 else bif Nat.ble (Nat.add m 1) 1000000 then Option.casesOn (takeAt c 0 (Nat.mul m 1)) (.fail 439) fun val_2 => bif m_nopo (m_mvq [3, 1] (val_2 ++ [.slice (some ⟨1, 0, none⟩) (Nat.sub (Int.toNat (bif decide (14 < Int.ofNat (lnOf val_1)) then Int.ofNat 14 else Int.ofNat (lnOf val_1))) 0) unk])) && (m_nns val && true) then K [some (.slice (some ⟨b, off, some 0⟩) n cap), some (.slice (some ⟨0, 0, none⟩) (Nat.add m 1) unk), some (I (IntKind.wrap .i64 (Int.ofNat k + Int.ofNat 1)))] [] [some (.cells (m_mvq [3, 1] (val_2 ++ [.slice (some ⟨1, 0, none⟩) (Nat.sub (Int.toNat (bif decide (14 < Int.ofNat (lnOf val_1)) then Int.ofNat 14 else Int.ofNat (lnOf val_1))) 0) unk])) 64 0 1), some (.cells val 4 1 1)] else F4 else F4 else F4 else F4 else F4 else F4 else F4 else F4 else F4 else F4 else bif m_nns c && true then KX 0 [some (.slice (some ⟨0, 0, none⟩) m unk)] [] [some (.cells c 64 0 1)] else F4 else bif m_nns c && true then KX 0 [some (.slice (some ⟨0, 0, none⟩) m unk)] [] [some (.cells c 64 0 1)] else F4 := by kernel_rfl
theorem tbBoZ (r : Mem) (b off n cap k m : Nat) (c : List Value) (fs : FnsC) (K : KO) (KX : Nat → KO) (kr : KS) : run (SS r 2) 61 33 1 TB_3 fs none (rbK 0 lvTB [.q []] K) (fun j => rbK 0 [3] [] (KX j)) kr [] (bT lvTB (vTB b off n cap (gwT 0 m) k) .nil) [] (mkA [oTb c 0]) =
    bif decide (Int.ofNat k < Int.ofNat n) then bif decide (Int.ofNat k < 14) then bif Nat.blt (Int.toNat (Int.ofNat k)) n then Option.casesOn (r b (Nat.add off (Nat.mul (Int.toNat (Int.ofNat k)) 1))) (.fail 423) fun val => bif isRoS val then bif Nat.blt (Int.toNat (Int.ofNat k)) n then Option.casesOn (r b (Nat.add off (Nat.mul (Int.toNat (Int.ofNat k)) 1))) (.fail 423) fun val_1 => bif isRoS val_1 then bif decide (0 ≤ bif decide (14 < Int.ofNat (lnOf val_1)) then Int.ofNat 14 else Int.ofNat (lnOf val_1)) then bif Nat.beq (cpOf val) 9223372036854775809 then .fail 435 else bif Nat.ble (Int.toNat (bif decide (14 < Int.ofNat (lnOf val_1)) then Int.ofNat 14 else Int.ofNat (lnOf val_1))) (cpOf val) then bif Nat.beq (Int.toNat (bif decide (14 < Int.ofNat (lnOf val_1)) then Int.ofNat 14 else Int.ofNat (lnOf val_1))) 0 then bif Nat.ble (Nat.add m 1) 1000000 then Option.casesOn (takeAt c 0 (Nat.mul m 1)) (.fail 439) fun val => bif m_nopo (m_mvq [2] (val ++ [.slice none 0 0])) && true then K [some (.slice (some ⟨b, off, some 0⟩) n cap), some (.slice (some ⟨0, 0, none⟩) (Nat.add m 1) unk), some (I (IntKind.wrap .i64 (Int.ofNat k + Int.ofNat 1)))] [] [some (.cells (m_mvq [2] (val ++ [.slice none 0 0])) 64 0 1)] else F4 else F4 else bif Nat.ble (Nat.add 0 (Nat.sub (Int.toNat (bif decide (14 < Int.ofNat (lnOf val_1)) then Int.ofNat 14 else Int.ofNat (lnOf val_1))) 0)) 1000000 then Option.casesOn (match Nat.beq (Nat.sub (cpOf val) 0) unkE with | true => none | false => takeF (Mem.get (Cfg.ro (SS r 2)) (blkOf val)) (Nat.add (offOf val) (Nat.mul 0 (TypeInfo.size Tryd.t4))) (Nat.mul (Nat.sub (Int.toNat (bif decide (14 < Int.ofNat (lnOf val_1)) then 14 else Int.ofNat (lnOf val_1))) 0) (TypeInfo.size Tryd.t4))) (.fail 443) fun val => bif Nat.beq (List.length val) (Nat.mul (Nat.sub (Int.toNat (bif decide (14 < Int.ofNat (lnOf val_1)) then Int.ofNat 14 else Int.ofNat (lnOf val_1))) 0) 1) then bif Nat.beq (Nat.sub (Int.toNat (bif decide (14 < Int.ofNat (lnOf val_1)) then Int.ofNat 14 else Int.ofNat (lnOf val_1))) 0) 0 then bif Nat.ble (Nat.add m 1) 1000000 then Option.casesOn (takeAt c 0 (Nat.mul m 1)) (.fail 439) fun val => bif m_nopo (m_mvq [2] (val ++ [.slice none 0 0])) && true then K [some (.slice (some ⟨b, off, some 0⟩) n cap), some (.slice (some ⟨0, 0, none⟩) (Nat.add m 1) unk), some (I (IntKind.wrap .i64 (Int.ofNat k + Int.ofNat 1)))] [] [some (.cells (m_mvq [2] (val ++ [.slice none 0 0])) 64 0 1)] else F4 else F4 else bif Nat.ble (Nat.add m 1) 1000000 then Option.casesOn (takeAt c 0 (Nat.mul m 1)) (.fail 439) fun val => bif m_nopo (m_mvq [3] (val ++ [.slice (some ⟨1, 0, none⟩) (Nat.sub (Int.toNat (bif decide (14 < Int.ofNat (lnOf val_1)) then Int.ofNat 14 else Int.ofNat (lnOf val_1))) 0) unk])) && true then K [some (.slice (some ⟨b, off, some 0⟩) n cap), some (.slice (some ⟨0, 0, none⟩) (Nat.add m 1) unk), some (I (IntKind.wrap .i64 (Int.ofNat k + Int.ofNat 1)))] [] [some (.cells (m_mvq [3] (val ++ [.slice (some ⟨1, 0, none⟩) (Nat.sub (Int.toNat (bif decide (14 < Int.ofNat (lnOf val_1)) then Int.ofNat 14 else Int.ofNat (lnOf val_1))) 0) unk])) 64 0 1)] else F4 else F4 else F4 else F4 else F4 else F4 else F4 else F4 else F4 else F4 else bif m_nns c && true then KX 0 [some (.slice (some ⟨0, 0, none⟩) m unk)] [] [some (.cells c 64 0 1)] else F4 else bif m_nns c && true then KX 0 [some (.slice (some ⟨0, 0, none⟩) m unk)] [] [some (.cells c 64 0 1)] else F4 := by kernel_rfl
theorem tbBnE (r : Mem) (b off n cap k : Nat) (fs : FnsC) (K : KO) (KX : Nat → KO) (kr : KS) : run (SS r 3) 61 33 1 TB_3 fs none (rbK 0 lvTB [.t] K) (fun j => rbK 0 [3] [] (KX j)) kr [] (bT lvTB (vTB b off n cap nilT k) .nil) [] (mkA []) =
    bif decide (Int.ofNat k < Int.ofNat n) then bif decide (Int.ofNat k < 14) then bif Nat.blt (Int.toNat (Int.ofNat k)) n then Option.casesOn (r b (Nat.add off (Nat.mul (Int.toNat (Int.ofNat k)) 1))) (.fail 423) fun val => bif isES val then bif Nat.blt (Int.toNat (Int.ofNat k)) n then Option.casesOn (r b (Nat.add off (Nat.mul (Int.toNat (Int.ofNat k)) 1))) (.fail 423) fun val => bif isES val then K [some (.slice (some ⟨b, off, some 0⟩) n cap), some (.slice (some ⟨0, 0, none⟩) 1 unk), some (I (IntKind.wrap .i64 (Int.ofNat k + Int.ofNat 1)))] [] [some (.cells [.slice none 0 0] 64 0 1)] else F4 else F4 else F4 else F4 else KX 0 [some (.slice none 0 0)] [] [] else KX 0 [some (.slice none 0 0)] [] [] := by kernel_rfl
theorem tbBoE (r : Mem) (b off n cap k m : Nat) (c : List Value) (fs : FnsC) (K : KO) (KX : Nat → KO) (kr : KS) : run (SS r 3) 61 33 1 TB_3 fs none (rbK 0 lvTB [.q []] K) (fun j => rbK 0 [3] [] (KX j)) kr [] (bT lvTB (vTB b off n cap (gwT 0 m) k) .nil) [] (mkA [oTb c 0]) =
    bif decide (Int.ofNat k < Int.ofNat n) then bif decide (Int.ofNat k < 14) then bif Nat.blt (Int.toNat (Int.ofNat k)) n then Option.casesOn (r b (Nat.add off (Nat.mul (Int.toNat (Int.ofNat k)) 1))) (.fail 423) fun val => bif isES val then bif Nat.blt (Int.toNat (Int.ofNat k)) n then Option.casesOn (r b (Nat.add off (Nat.mul (Int.toNat (Int.ofNat k)) 1))) (.fail 423) fun val => bif isES val then bif Nat.ble (Nat.add m 1) 1000000 then Option.casesOn (takeAt c 0 (Nat.mul m 1)) (.fail 439) fun val => bif m_nopo (m_mvq [2] (val ++ [.slice none 0 0])) && true then K [some (.slice (some ⟨b, off, some 0⟩) n cap), some (.slice (some ⟨0, 0, none⟩) (Nat.add m 1) unk), some (I (IntKind.wrap .i64 (Int.ofNat k + Int.ofNat 1)))] [] [some (.cells (m_mvq [2] (val ++ [.slice none 0 0])) 64 0 1)] else F4 else F4 else F4 else F4 else F4 else F4 else bif m_nns c && true then KX 0 [some (.slice (some ⟨0, 0, none⟩) m unk)] [] [some (.cells c 64 0 1)] else F4 else bif m_nns c && true then KX 0 [some (.slice (some ⟨0, 0, none⟩) m unk)] [] [some (.cells c 64 0 1)] else F4 := by kernel_rfl
theorem tbCo (r : Mem) (m : Nat) (c : List Value) (fs : FnsC) (K KR : KO) (kx : Nat → KS) : run (SC r) 61 33 1 TB_4 fs none (rbK 0 [2] [] K) kx (rbK 0 [2] [] KR) [] (bT [3] [some (gwT 0 m)] .nil) [] (mkA [oTb c 0]) =
    bif m_nns c && true then KR [some (.slice (some ⟨0, 0, none⟩) m unk)] [] [some (.cells c 64 0 1)] else F4 := by kernel_rfl
end Go.Proofs
namespace Go.Ev
open Go
end Go.Ev
namespace Go.Proofs
open Go Go.Ev Go.Num
mutual
theorem gnd_nn : (v : Value) → gnd v = true → nn v = true
 | .bool _, _ => rfl
 | .int _ _, _ => rfl
 | .float _ _, _ => rfl
 | .complex _ _ _, _ => rfl
 | .string _, _ => rfl
 | .pointer none, _ => rfl
 | .pointer (some ⟨_, _, none⟩), h => by simp [gnd] at h
 | .pointer (some ⟨_, _, some _⟩), _ => rfl
 | .slice none l c, h => h
 | .slice (some ⟨_, _, none⟩) _ _, h => by simp [gnd] at h
 | .slice (some ⟨_, _, some _⟩) _ _, _ => rfl
 | .map none, _ => rfl
 | .map (some _), h => by simp [gnd] at h
 | .chan none, _ => rfl
 | .chan (some _), h => by simp [gnd] at h
 | .func _ _ _, h => h
 | .nilFunc, _ => rfl
 | .iface t v, h => gnd_nn v h
 | .nilIface, _ => rfl
 | .agg ⟨l⟩, h => gnds_nns l h
 | .tuple ⟨l⟩, h => h
theorem gnds_nns : (l : List Value) → gnds l = true → nns l = true
 | [], _ => rfl
 | v :: l, h => by
  simp only [gnds, Bool.and_eq_true] at h
  simp only [nns, gnd_nn v h.1, gnds_nns l h.2, Bool.and_self]
end
mutual
theorem mvV_nn {ns : List Nat} : (v : Value) → nn v = true → mvV ns v = (ns, v)
 | .bool _, _ => rfl
 | .int _ _, _ => rfl
 | .float _ _, _ => rfl
 | .complex _ _ _, _ => rfl
 | .string _, _ => rfl
 | .pointer none, _ => rfl
 | .pointer (some ⟨_, _, none⟩), h => by simp [nn, gnd] at h
 | .pointer (some ⟨_, _, some _⟩), _ => rfl
 | .slice none l c, h => rfl
 | .slice (some ⟨_, _, none⟩) _ _, h => by simp [nn, gnd] at h
 | .slice (some ⟨_, _, some _⟩) _ _, _ => rfl
 | .map none, _ => rfl
 | .map (some _), h => by simp [nn, gnd] at h
 | .chan _, _ => rfl
 | .func (.func f) ⟨a⟩ ⟨c⟩, h => by
  have h' : (gnds a && gnds c) = true := h
  simp only [Bool.and_eq_true] at h'
  simp only [mvV, mvVs_nn a (gnds_nns a h'.1), mvVs_nn c (gnds_nns c h'.2)]
 | .func (.method _) _ _, h => by simp [nn, gnd] at h
 | .func (.methodOf _ _) _ _, h => by simp [nn, gnd] at h
 | .func (.via _ _ _ _) _ _, h => by simp [nn, gnd] at h
 | .func (.yield _) _ _, h => by simp [nn, gnd] at h
 | .nilFunc, _ => rfl
 | .iface t v, h => by simp only [mvV, mvV_nn v h]
 | .nilIface, _ => rfl
 | .agg ⟨l⟩, h => by simp only [mvV, mvVs_nn l h]
 | .tuple ⟨l⟩, h => by simp only [mvV, mvVs_nn l (gnds_nns l h)]
theorem mvVs_nn {ns : List Nat} : (l : List Value) → nns l = true → mvVs ns l = (ns, l)
 | [], _ => rfl
 | v :: l, h => by
  simp only [nns, Bool.and_eq_true] at h
  simp only [mvVs, mvV_nn v h.1, mvVs_nn l h.2]
end
theorem mvq_nn {ns : List Nat} : ∀ {c : List Value}, m_nns c = true → m_mvq ns c = c
 | [], _ => rfl
 | v :: c, h => by
  have h' : (nn v && nns c) = true := h
  simp only [Bool.and_eq_true] at h'
  have ih := mvq_nn (ns := ns) (c := c) h'.2
  unfold m_mvq at ih ⊢
  rw [List.map_cons, ih]
  have : mvV ns v = (ns, v) := mvV_nn v h'.1
  unfold mvq1
  rw [this]
  simp only [Nat.beq_refl]
theorem mvq_app (ns : List Nat) (c d : List Value) : m_mvq ns (c ++ d) = m_mvq ns c ++ m_mvq ns d := by unfold m_mvq; rw [List.map_append]
theorem nopo_nn : ∀ {c : List Value}, m_nns c = true → m_nopo c = true
 | [], _ => rfl
 | v :: c, h => by
  have h' : (nn v && nns c) = true := h
  simp only [Bool.and_eq_true] at h'
  have ih := nopo_nn (c := c) h'.2
  unfold m_nopo at ih ⊢
  rw [List.all_cons, ih, Bool.and_true]
  cases v with
  | chan o => cases o with
   | none => rfl
   | some x => simp [nn, gnd] at h'
  | _ => rfl
theorem nopo_app (c d : List Value) : m_nopo (c ++ d) = (m_nopo c && m_nopo d) := by unfold m_nopo; rw [List.all_append]
theorem nns_app : ∀ (c d : List Value), m_nns (c ++ d) = (m_nns c && m_nns d)
 | [], d => rfl
 | v :: c, d => by
  have ih := nns_app c d
  unfold m_nns at ih ⊢
  rw [List.cons_append, nns, nns, ih, Bool.and_assoc]
def boL (l : List Bool) : List Value := l.map .bool
theorem boL_len (l : List Bool) : (boL l).length = l.length := by simp [boL]
theorem boL_nn : ∀ l : List Bool, m_nns (boL l) = true
 | [] => rfl
 | b :: l => by
  have ih := boL_nn l
  unfold m_nns boL at ih ⊢
  rw [List.map_cons, nns, ih]
  rfl
def RowV (r : Mem) (v : Value) (l : List Bool) : Prop := (l = [] ∧ v = nilT) ∨ (l ≠ [] ∧ ∃ b o cap, v = RS b o l.length cap ∧ ∀ j x, l[j]? = some x → r b (o + j) = some (.bool x))
theorem RowV.mono {r r' : Mem} (hle : Mem.le r r') {v : Value} {l : List Bool} (h : RowV r v l) : RowV r' v l := by
 rcases h with h | ⟨h1, b, o, cap, h2, h3⟩
 ·exact .inl h
 ·exact .inr ⟨h1, b, o, cap, h2, fun j x hx => hle _ _ _ (h3 j x hx)⟩
def TabC (r : Mem) (c : List Value) (T : List (List Bool)) : Prop := c.length = T.length ∧ ∀ (i : Nat) v l, c[i]? = some v → T[i]? = some l → RowV r v l
theorem TabC.mono {r r' : Mem} (hle : Mem.le r r') {c : List Value} {T : List (List Bool)} (h : TabC r c T) : TabC r' c T := ⟨h.1, fun i v l h1 h2 => (h.2 i v l h1 h2).mono hle⟩
theorem TabC.snoc {r : Mem} {c : List Value} {T : List (List Bool)} (h : TabC r c T) {v : Value} {l : List Bool} (hv : RowV r v l) : TabC r (c ++ [v]) (T ++ [l]) := by
 refine ⟨by simp [h.1], fun i u m h1 h2 => ?_⟩
 by_cases hi : i < c.length
 ·rw [List.getElem?_append_left hi] at h1
  rw [List.getElem?_append_left (by rw [← h.1]; exact hi)] at h2
  exact h.2 i u m h1 h2
 ·rw [List.getElem?_append_right (by omega)] at h1
  rw [List.getElem?_append_right (by rw [← h.1]; omega), ← h.1] at h2
  cases hk : i - c.length with
  | zero =>
   rw [hk] at h1 h2
   simp at h1 h2
   subst h1 h2
   exact hv
  | succ j => rw [hk] at h1; simp at h1
noncomputable def inRow (r : Mem) (u : Value) : List Bool := match u with
 | .slice (some ⟨b, o, some _⟩) l _ => (List.range (min l 14)).map fun j => ofB ((r b (o + j)).getD undef)
 | _ => []
noncomputable def inTab (r : Mem) (b off m : Nat) : List (List Bool) := (List.range m).map fun i => inRow r ((r b (off + i)).getD undef)
theorem inTab_len (r : Mem) (b off m : Nat) : (inTab r b off m).length = m := by simp [inTab]
theorem inTab_succ (r : Mem) (b off m : Nat) : inTab r b off (m + 1) = inTab r b off m ++ [inRow r ((r b (off + m)).getD undef)] := by
 unfold inTab
 rw [List.range_succ, List.map_append]
 rfl
def TbO (r1 : Mem) (T : List (List Bool)) (E : Value) (os : OO) : Prop := (T = [] ∧ E = nilT ∧ os = []) ∨ (T ≠ [] ∧ ∃ c, E = gwT 0 T.length ∧ os = [oTb c 0] ∧ TabC r1 c T ∧ m_nns c = true)
def TbI (r : Mem) (b off n cap : Nat) (k : Nat) (r1 : Mem) (vs : OV) (ms : List Nat) (os : OO) : Prop := ms = [] ∧ Mem.le r r1 ∧ ∃ E, vs = vTB b off n cap E k ∧ TbO r1 (inTab r b off k) E os
def TbX (r : Mem) (b off n : Nat) (r1 : Mem) (vs : OV) (ms : List Nat) (os : OO) : Prop := ms = [] ∧ Mem.le r r1 ∧ ∃ E, vs = [some E] ∧ TbO r1 (inTab r b off (min n 14)) E os
end Go.Proofs
namespace Go.Proofs
open Go Go.Ev Go.Num
theorem ro_RS (b o l c : Nat) : isRoS (RS b o l c) = true := rfl
theorem ln_RS (b o l c : Nat) : lnOf (RS b o l c) = l := rfl
theorem cp_RS (b o l c : Nat) : cpOf (RS b o l c) = c := rfl
theorem bk_RS (b o l c : Nat) : blkOf (RS b o l c) = b := rfl
theorem of_RS (b o l c : Nat) : offOf (RS b o l c) = o := rfl
theorem min14 (l : Nat) : (bif decide ((14 : Int) < (l : Int)) then (14 : Int) else (l : Int)) = ((min l 14 : Nat) : Int) := by
 by_cases h : (14 : Int) < (l : Int)
 ·rw [dT h, cond_true]; omega
 ·rw [dF h, cond_false]; omega
theorem takeF_bo {f : Nat → Option Value} : ∀ (l : List Bool) (k : Nat), (∀ j x, l[j]? = some x → f (k + j) = some (.bool x)) → takeF f k l.length = some (boL l)
 | [], k, _ => rfl
 | x :: l, k, h => by
  have h0 := h 0 x rfl
  rw [Nat.add_zero] at h0
  have ih := takeF_bo l (k + 1) fun j y hy => by
   have := h (j + 1) y (by simpa using hy)
   rw [show k + (j + 1) = k + 1 + j by omega] at this
   exact this
  show takeF f k (l.length + 1) = _
  simp only [takeF, h0, ih]
  rfl
section
variable {r : Mem} {b off n cap : Nat}
theorem inRow_get {b2 o2 l2 c2 : Nat} (hl : l2 ≤ c2) (h : ∀ i, i < c2 * 1 → ∃ u, r b2 (o2 + i) = some u ∧ ArgBool u) : ∀ j x, (inRow r (RS b2 o2 l2 c2))[j]? = some x → r b2 (o2 + j) = some (.bool x) := fun j x hx => by
 have hx' : ((List.range (min l2 14)).map fun j => ofB ((r b2 (o2 + j)).getD undef))[j]? = some x := hx
 rw [List.getElem?_map] at hx'
 by_cases hj : j < min l2 14
 ·rw [List.getElem?_range hj] at hx'
  obtain ⟨u, hu, y, rfl⟩ := h j (by omega)
  simp only [Option.map_some, Option.some.injEq, hu, Option.getD_some] at hx'
  have hx2 : y = x := hx'
  rw [hu, hx2]
 ·rw [List.getElem?_eq_none (by simp; omega)] at hx'
  cases hx'
theorem inRow_len (b2 o2 l2 c2 : Nat) : (inRow r (RS b2 o2 l2 c2)).length = min l2 14 := by
 show ((List.range (min l2 14)).map _).length = _
 simp
def TbR (r : Mem) (b off n cap k : Nat) (r1 : Mem) (T : List (List Bool)) (l : List Bool) (vs : OV) (ms : List Nat) (os : OO) : Prop :=
 ms = [] ∧ vs = vTB b off n cap (gwT 0 (k + 1)) (k + 1) ∧ ∃ c, m_nns c = true ∧ TabC r1 c T ∧ ((l = [] ∧ os = [oTb (c ++ [nilT]) 0]) ∨ (l ≠ [] ∧ os = [oTb (c ++ [.slice (some ⟨1, 0, none⟩) l.length unk]) 0, oBo (boL l) 1]))
theorem tb_run {r1 : Mem} {k : Nat} (hk : k < n) (k14 : k < 14) (hle : Mem.le r r1) {u : Value} (hu : r b (off + k) = some u) (hp : ArgRow r 1 ArgBool u) {E : Value} {os : OO} (hT : TbO r1 (inTab r b off k) E os) :
  ∃ sh fl, ∀ (fs : FnsC) (Qx : OV → List Nat → OO → Prop) (kr : KS), run (SS r1 sh) 61 33 1 TB_3 fs none (Outs.ask 0 ⟨lvTB, fl, fun vs ms os => TbR r b off n cap k r1 (inTab r b off k) (inRow r u) vs ms os⟩) (Outs.ats 0 [(0, ⟨[3], [], Qx⟩)]) kr [] (bT lvTB (vTB b off n cap E k) .nil) [] (mkA os) = okR := by
 have hu1 : r1 b (off + k) = some u := hle _ _ _ hu
 have c1 : (k : Int) < (n : Int) := by omega
 have c2 : (k : Int) < 14 := by omega
 have c3 : Nat.blt k n = true := Nat.ble_eq_true_of_le (by omega)
 have e0 : Nat.add off (Nat.mul k 1) = off + k := by simp
 have e3 : IntKind.wrap IntKind.i64 ((k : Int) + Int.ofNat 1) = ((k + 1 : Nat) : Int) := inc1' (by omega)
 simp only [Int.ofNat_eq_natCast] at e3
 have hTl := inTab_len r b off k
 have tab0 : inTab r b off k = [] → k = 0 := fun h => by rw [h] at hTl; exact hTl.symm
 have b3 : Nat.ble (Nat.add k 1) 1000000 = true := Nat.ble_eq_true_of_le (by simp; omega)
 have s1 : ∀ c : List Value, m_nns c = true → m_nopo (c ++ [nilT]) = true ∧ m_mvq [2] (c ++ [nilT]) = c ++ [nilT] := fun c hc => by
  have hn : m_nns (c ++ [nilT]) = true := by rw [nns_app, hc]; rfl
  rw [mvq_nn hn]
  exact ⟨nopo_nn hn, rfl⟩
 have oc : ∀ {o : Option (List Value)} {c : List Value} (h : o = some c) (a : CR) (F : List Value → CR), (Option.casesOn o a F : CR) = F c := fun h a F => by rw [h]
 rcases hT with ⟨t0, rfl, rfl⟩ | ⟨t0, c, rfl, rfl, hc, hcn⟩
 ·have k0 := tab0 t0
  subst k0
  have hTe : TabC r1 [] (inTab r b off 0) := ⟨rfl, fun i v l h => by simp at h⟩
  cases hp with
  | nil =>
   refine ⟨1, [.t], fun fs Qx kr => ?_⟩
   have q0 : isNilS nilT = true := rfl
   have hn' := tbBnN r1 b off n cap 0 fs
   simp only [Int.ofNat_eq_natCast, Int.toNat_natCast, dT c1, dT c2, c3, cond_true, e0, hu1, q0, e3] at hn'
   exact (hn' _ _ _).trans (qq_ok ⟨rfl, rfl, [], rfl, hTe, .inl ⟨rfl, rfl⟩⟩)
  | empty =>
   refine ⟨3, [.t], fun fs Qx kr => ?_⟩
   have q0 : isES (.slice (some ⟨0, 0, none⟩) 0 unkE) = true := rfl
   have hn' := tbBnE r1 b off n cap 0 fs
   simp only [Int.ofNat_eq_natCast, Int.toNat_natCast, dT c1, dT c2, c3, cond_true, e0, hu1, q0, e3] at hn'
   exact (hn' _ _ _).trans (qq_ok ⟨rfl, rfl, [], rfl, hTe, .inl ⟨rfl, rfl⟩⟩)
  | row b2 o2 l2 c2' hl hcm h =>
   have hcm' : c2' ≤ 9223372036854775807 := hcm
   have hrl := inRow_len (r := r) b2 o2 l2 c2'
   have hrg := inRow_get hl h
   have k1 : Nat.beq c2' 9223372036854775809 = false := natFx (by omega)
   have k2 : Nat.ble (min l2 14) c2' = true := Nat.ble_eq_true_of_le (by omega)
   have k3 : Nat.ble (Nat.add 0 (Nat.sub (min l2 14) 0)) 1000000 = true := Nat.ble_eq_true_of_le (by show 0 + (min l2 14 - 0) ≤ _; omega)
   have p0 : (0 : Int) ≤ ((min l2 14 : Nat) : Int) := by omega
   generalize hL : inRow r (RS b2 o2 l2 c2') = L at hrl hrg ⊢
   by_cases hz : min l2 14 = 0
   ·have hLe : L = [] := List.length_eq_zero_iff.1 (by omega)
    have k4 : Nat.beq (min l2 14) 0 = true := by rw [hz]; rfl
    refine ⟨2, [.t], fun fs Qx kr => ?_⟩
    have hn' := tbBnR r1 b off n cap 0 fs
    simp only [Int.ofNat_eq_natCast, Int.toNat_natCast, dT c1, dT c2, c3, cond_true, cond_false, e0, hu1, ro_RS, ln_RS, cp_RS, bk_RS, of_RS, min14, show ((14 : Nat) : Int) = 14 from rfl, dT p0, k1, k2, k4, e3] at hn'
    exact (hn' _ _ _).trans (qq_ok ⟨rfl, rfl, [], rfl, hTe, .inl ⟨hLe, rfl⟩⟩)
   ·have k4 : Nat.beq (min l2 14) 0 = false := natFx hz
    have k5 : Nat.beq (Nat.sub (min l2 14) 0) 0 = false := natFx (by show min l2 14 - 0 ≠ 0; omega)
    refine ⟨2, [.t], fun fs Qx kr => ?_⟩
    have hn' := tbBnR r1 b off n cap 0 fs
    simp only [Int.ofNat_eq_natCast, Int.toNat_natCast, dT c1, dT c2, c3, cond_true, cond_false, e0, hu1, ro_RS, ln_RS, cp_RS, bk_RS, of_RS, min14, show ((14 : Nat) : Int) = 14 from rfl, dT p0, k1, k2, k3, k4, k5, e3] at hn'
    have hr' : (match Nat.beq (Nat.sub c2' 0) unkE with | true => none | false => takeF (r1 b2) (Nat.add o2 (Nat.mul 0 1)) (Nat.mul (Nat.sub (min l2 14) 0) 1)) = some (boL L) := by
     rw [natFx (show Nat.sub c2' 0 ≠ unkE by unfold unkE; show c2' - 0 ≠ _; omega)]
     show takeF (r1 b2) o2 (Nat.mul (min l2 14) 1) = _
     rw [Nat.mul_eq, Nat.mul_one, ← hrl]
     exact takeF_bo L o2 fun j x hx => hle _ _ _ (hrg j x hx)
    refine (hn' _ _ _).trans ((oc hr' _ _).trans ?_)
    have l1 : Nat.beq (boL L).length (Nat.mul (Nat.sub (min l2 14) 0) 1) = true := by
     rw [boL_len, hrl, show Nat.mul (Nat.sub (min l2 14) 0) 1 = min l2 14 by show (min l2 14 - 0) * 1 = _; omega]
     exact Nat.beq_refl _
    simp only [l1, cond_true, boL_nn, Bool.and_true]
    refine qq_ok ⟨rfl, rfl, [], rfl, hTe, .inr ⟨fun h => by rw [h] at hrl; simp at hrl; omega, ?_⟩⟩
    rw [hrl]; rfl
 ·rw [hTl]
  have tk : takeAt c 0 (Nat.mul k 1) = some c := takeL_row _ _ (by rw [hc.1, hTl]; simp)
  cases hp with
  | nil =>
   refine ⟨1, [.q []], fun fs Qx kr => ?_⟩
   have q0 : isNilS nilT = true := rfl
   have hn' := tbBoN r1 b off n cap k k c fs
   simp only [Int.ofNat_eq_natCast, Int.toNat_natCast, dT c1, dT c2, c3, cond_true, e0, hu1, q0, e3, b3, tk, (s1 c hcn).1, (s1 c hcn).2, Bool.and_true] at hn'
   exact (hn' _ _ _).trans (qq_ok ⟨rfl, rfl, c, hcn, hc, .inl ⟨rfl, rfl⟩⟩)
  | empty =>
   refine ⟨3, [.q []], fun fs Qx kr => ?_⟩
   have q0 : isES (.slice (some ⟨0, 0, none⟩) 0 unkE) = true := rfl
   have hn' := tbBoE r1 b off n cap k k c fs
   simp only [Int.ofNat_eq_natCast, Int.toNat_natCast, dT c1, dT c2, c3, cond_true, e0, hu1, q0, e3, b3, tk, (s1 c hcn).1, (s1 c hcn).2, Bool.and_true] at hn'
   exact (hn' _ _ _).trans (qq_ok ⟨rfl, rfl, c, hcn, hc, .inl ⟨rfl, rfl⟩⟩)
  | row b2 o2 l2 c2' hl hcm h =>
   have hcm' : c2' ≤ 9223372036854775807 := hcm
   have hrl := inRow_len (r := r) b2 o2 l2 c2'
   have hrg := inRow_get hl h
   have k1 : Nat.beq c2' 9223372036854775809 = false := natFx (by omega)
   have k2 : Nat.ble (min l2 14) c2' = true := Nat.ble_eq_true_of_le (by omega)
   have k3 : Nat.ble (Nat.add 0 (Nat.sub (min l2 14) 0)) 1000000 = true := Nat.ble_eq_true_of_le (by show 0 + (min l2 14 - 0) ≤ _; omega)
   have p0 : (0 : Int) ≤ ((min l2 14 : Nat) : Int) := by omega
   generalize hL : inRow r (RS b2 o2 l2 c2') = L at hrl hrg ⊢
   by_cases hz : min l2 14 = 0
   ·have hLe : L = [] := List.length_eq_zero_iff.1 (by omega)
    have k4 : Nat.beq (min l2 14) 0 = true := by rw [hz]; rfl
    refine ⟨2, [.q []], fun fs Qx kr => ?_⟩
    have hn' := tbBoZ r1 b off n cap k k c fs
    simp only [Int.ofNat_eq_natCast, Int.toNat_natCast, dT c1, dT c2, c3, cond_true, cond_false, e0, hu1, ro_RS, ln_RS, cp_RS, bk_RS, of_RS, min14, show ((14 : Nat) : Int) = 14 from rfl, dT p0, k1, k2, k4, e3, b3, tk, (s1 c hcn).1, (s1 c hcn).2, Bool.and_true] at hn'
    exact (hn' _ _ _).trans (qq_ok ⟨rfl, rfl, c, hcn, hc, .inl ⟨hLe, rfl⟩⟩)
   ·have k4 : Nat.beq (min l2 14) 0 = false := natFx hz
    have k5 : Nat.beq (Nat.sub (min l2 14) 0) 0 = false := natFx (by show min l2 14 - 0 ≠ 0; omega)
    refine ⟨2, [.q [1]], fun fs Qx kr => ?_⟩
    have hn' := tbBoR r1 b off n cap k k c fs
    have m1 : Nat.sub (min l2 14) 0 = min l2 14 := rfl
    simp only [Int.ofNat_eq_natCast, Int.toNat_natCast, dT c1, dT c2, c3, cond_true, cond_false, e0, hu1, ro_RS, ln_RS, cp_RS, bk_RS, of_RS, min14, show ((14 : Nat) : Int) = 14 from rfl, dT p0, k1, k2, k3, k4, k5, e3] at hn'
    have hr' : (match Nat.beq (Nat.sub c2' 0) unkE with | true => none | false => takeF (r1 b2) (Nat.add o2 (Nat.mul 0 1)) (Nat.mul (Nat.sub (min l2 14) 0) 1)) = some (boL L) := by
     rw [natFx (show Nat.sub c2' 0 ≠ unkE by unfold unkE; show c2' - 0 ≠ _; omega)]
     show takeF (r1 b2) o2 (Nat.mul (min l2 14) 1) = _
     rw [Nat.mul_eq, Nat.mul_one, ← hrl]
     exact takeF_bo L o2 fun j x hx => hle _ _ _ (hrg j x hx)
    refine (hn' _ _ _).trans ((oc hr' _ _).trans ?_)
    have l1 : Nat.beq (boL L).length (Nat.mul (Nat.sub (min l2 14) 0) 1) = true := by
     rw [boL_len, hrl, show Nat.mul (Nat.sub (min l2 14) 0) 1 = min l2 14 by show (min l2 14 - 0) * 1 = _; omega]
     exact Nat.beq_refl _
    have s2 : m_mvq [3, 1] (c ++ [.slice (some ⟨1, 0, none⟩) (Nat.sub (min l2 14) 0) unk]) = c ++ [.slice (some ⟨1, 0, none⟩) (Nat.sub (min l2 14) 0) unk] := by
     rw [mvq_app, mvq_nn hcn]; rfl
    have s3 : m_nopo (c ++ [.slice (some ⟨1, 0, none⟩) (Nat.sub (min l2 14) 0) unk]) = true := by rw [nopo_app, nopo_nn hcn]; rfl
    simp only [l1, cond_true, boL_nn, Bool.and_true, b3, tk, s2, s3]
    refine qq_ok ⟨rfl, rfl, c, hcn, hc, .inr ⟨fun h => by rw [h] at hrl; simp at hrl; omega, ?_⟩⟩
    rw [hrl]; rfl
end
end Go.Proofs
namespace Go.Proofs
open Go Go.Ev Go.Num
theorem frzVs_one (j b o : Nat) (v u : Value) (h : frzV j b o v = some u) : frzVs j b o [v] = some [u] := by simp only [frzVs, h]
section
variable {r : Mem} {b off n cap : Nat}
theorem ta_ok (h1 : 1 ≤ n) (hin : ∀ i, i < min n 14 → ∃ u, r b (off + i) = some u ∧ ArgRow r 1 ArgBool u) : SOkG Tryd.prog r 27 [RS b off n cap] emptyA fun v A r1 => Mem.le r r1 ∧ ∃ c, v = gwT 0 (min n 14) ∧ A = mkA [oTb c 0] ∧ TabC r1 c (inTab r b off (min n 14)) ∧ m_nns c = true := by
 refine callOG SC_ok (by kernel_rfl) ((bodySC r _).trans TB_eq) (nt := 33) (by kernel_rfl) (rs := [.tmp 2]) (by kernel_rfl) 61 rfl ⟨[2], fun r1 vs ms os => ms = [] ∧ Mem.le r r1 ∧ ∃ c, vs = [some (gwT 0 (min n 14))] ∧ os = [oTb c 0] ∧ TabC r1 c (inTab r b off (min n 14)) ∧ m_nns c = true⟩ ?_ fun γ W F kk hwr hF hro h0' => ?_
 ·rintro r1 vs ms os ⟨rfl, hle, c, rfl, rfl, hc, hcn⟩
  exact ⟨_, mkA [oTb c 0], by kernel_rfl, hle, c, rfl, rfl, hc, hcn⟩
 have h0' : ∀ i, 0 ≤ i → γ i = none := h0'
 refine ReachG.after3 (SC_ok r) TOk.nil (tm := .nil) (L := 1) (L' := 1) (d := 1) hF hro h0' (.step (.step .base)) (orr := Outs.no)
  (o1 := ⟨lvTB, [], fun vs ms os => vs = vTB b off n cap nilT 0 ∧ ms = [] ∧ os = []⟩)
  (g2 := ⟨[3], fun r1 vs ms os => TbX r b off n r1 vs ms os⟩) (fun _ _ _ h => h.elim) ?_ ?_ ?_
 ·rintro vs ms os ⟨rfl, rfl, rfl⟩
  refine ReachG.blockC (ReachG.loopC (j := min n 14) (lv := lvTB) (I := fun j r1 vs ms os => ∃ k : Nat, k ≤ min n 14 ∧ j = min n 14 - k ∧ TbI r b off n cap k r1 vs ms os) (fun j r1 vs ms os hI => ?_) ⟨0, by omega, rfl, rfl, Mem.le_refl r, nilT, rfl, .inl ⟨rfl, rfl, rfl⟩⟩)
  obtain ⟨k, hk, rfl, rfl, hle, E, rfl, hT⟩ := hI
  by_cases c : k < min n 14
  ·obtain ⟨u, hu, hp⟩ := hin k c
   obtain ⟨sh, fl, hrun⟩ := tb_run (cap := cap) (show k < n by omega) (by omega) hle hu hp hT
   refine ReachG.segS (C := SS r1 sh) rfl rfl (SS_ok r1 sh) (t := fun _ => none) TOk.nil (tm := .nil) (L' := 1) (d := 1) hF hro h0' [(0, ⟨[3], [], fun _ _ _ => False⟩)] (ox := fun j => if j = 0 then ⟨[3], [], fun _ _ _ => False⟩ else Outs.no) (orr := Outs.no) (fun p hp => by simp only [List.mem_cons, List.not_mem_nil, or_false] at hp; subst hp; rfl) (hrun _ _ _) ?_ ?_ (fun _ _ _ h => h.elim)
   ·rintro vs ms os ⟨rfl, rfl, c0, hcn, hc, hcase⟩
    have hT1 : inTab r b off (k + 1) = inTab r b off k ++ [inRow r u] := by rw [inTab_succ, hu]; rfl
    have hne : inTab r b off (k + 1) ≠ [] := by rw [hT1]; simp
    rcases hcase with ⟨hl, rfl⟩ | ⟨hl, rfl⟩
    ·refine IsG.here ⟨min n 14 - (k + 1), by omega, k + 1, by omega, rfl, rfl, hle, gwT 0 (k + 1), rfl, .inr ⟨hne, c0 ++ [nilT], by rw [inTab_len], rfl, ?_, ?_⟩⟩
     ·rw [hT1]
      exact hc.snoc (.inl ⟨hl, rfl⟩)
     ·rw [nns_app, hcn]; rfl
    ·refine IsG.freeze (os0 := [oTb (c0 ++ [.slice (some ⟨1, 0, none⟩) (inRow r u).length unk]) 0]) (j := 1) h0' rfl (Nat.zero_le _) rfl (boL_nn _) fun b' o' r2 hle2 hrow => ?_
     refine ⟨vTB b off n cap (gwT 0 (k + 1)) (k + 1), [oTb (c0 ++ [RS b' o' (inRow r u).length 0]) 0], rfl, ?_, min n 14 - (k + 1), by omega, k + 1, by omega, rfl, rfl, Mem.le_trans hle hle2, gwT 0 (k + 1), rfl, .inr ⟨hne, c0 ++ [RS b' o' (inRow r u).length 0], by rw [inTab_len], rfl, ?_, ?_⟩⟩
     ·have e1 := frzVs_app 1 b' o' c0 [.slice (some ⟨1, 0, none⟩) (inRow r u).length unk] c0 [RS b' o' (inRow r u).length 0] (frzVs_nn 1 b' o' c0 hcn) (frzVs_one _ _ _ _ _ ?_)
      ·unfold oTb
       simp only [frzAs, frzA, e1]
      ·show (match (Nat.beq (inRow r u).length 0 && Nat.beq unk unkE) with | true => _ | false => _) = _
       rw [show Nat.beq unk unkE = false by decide, Bool.and_false]
       rfl
     ·rw [hT1]
      refine (hc.mono hle2).snoc (.inr ⟨hl, b', o', 0, rfl, fun j x hx => hrow j _ ?_⟩)
      unfold boL
      rw [List.getElem?_map, hx]; rfl
     ·rw [nns_app, hcn]; rfl
   ·intro id vs ms os h
    by_cases e : id = 0
    ·rw [if_pos e] at h; exact h.elim
    ·rw [if_neg e] at h; exact h.elim
  ·obtain rfl : k = min n 14 := by omega
   have hTl := inTab_len r b off (min n 14)
   rcases hT with ⟨t0, _⟩ | ⟨t0, c0, rfl, rfl, hc, hcn⟩
   ·rw [t0] at hTl; simp at hTl; omega
   ·refine ReachG.segS (C := SS r1 1) rfl rfl (SS_ok r1 1) (t := fun _ => none) TOk.nil (tm := .nil) (L' := 1) (d := 1) (n0 := 0) hF hro h0' [(0, ⟨[3], [], fun vs ms os => ms = [] ∧ vs = [some (gwT 0 (min n 14))] ∧ os = [oTb c0 0]⟩)] (on := ⟨lvTB, [.q []], fun _ _ _ => False⟩) (ox := fun j => if j = 0 then ⟨[3], [], fun vs ms os => ms = [] ∧ vs = [some (gwT 0 (min n 14))] ∧ os = [oTb c0 0]⟩ else Outs.no) (orr := Outs.no) (fun p hp => by simp only [List.mem_cons, List.not_mem_nil, or_false] at hp; subst hp; rfl) (L := 1) ?_ (fun _ _ _ h => h.elim) ?_ (fun _ _ _ h => h.elim)
    ·rw [hTl]
     have hn' := tbBoN r1 b off n cap (min n 14) (min n 14) c0
     simp only [Int.ofNat_eq_natCast, hcn, Bool.and_true, cond_true] at hn'
     by_cases q : ((min n 14 : Nat) : Int) < (n : Int)
     ·have q2 : ¬ ((min n 14 : Nat) : Int) < 14 := by omega
      simp only [dT q, dF q2, cond_true, cond_false] at hn'
      exact (hn' _ _ _ _).trans (qq_ok ⟨rfl, rfl, rfl⟩)
     ·simp only [dF q, cond_false] at hn'
      exact (hn' _ _ _ _).trans (qq_ok ⟨rfl, rfl, rfl⟩)
    ·intro id vs ms os h
     by_cases e : id = 0
     ·subst e
      obtain ⟨rfl, rfl, rfl⟩ := h
      exact IsG.here ⟨rfl, hle, gwT 0 (min n 14), rfl, .inr ⟨t0, c0, by rw [hTl], rfl, hc, hcn⟩⟩
     ·rw [if_neg e] at h; exact h.elim
 ·rintro r1 vs ms os ⟨rfl, hle, E, rfl, hT⟩
  have hTl := inTab_len r b off (min n 14)
  rcases hT with ⟨t0, _⟩ | ⟨t0, c0, rfl, rfl, hc, hcn⟩
  ·rw [t0] at hTl; simp at hTl; omega
  ·rw [hTl]
   refine ReachG.segR (SC_ok r1) TOk.nil (tm := .nil) (L := 1) (L' := 1) (d := 1) (n0 := 0) hF hro h0' [] (on := ⟨[2], [], fun _ _ _ => False⟩) (ox := fun _ => Outs.no) (orr := ⟨[2], [], fun vs ms os => ms = [] ∧ vs = [some (gwT 0 (min n 14))] ∧ os = [oTb c0 0]⟩) (fun p hp => nomatch hp) ?_ (fun _ _ _ h => h.elim) (fun _ _ _ _ h => h.elim) ?_
   ·have hn' := tbCo r1 (min n 14) c0
    simp only [hcn, Bool.and_true, cond_true] at hn'
    exact (hn' _ _ _ _).trans (qq_ok ⟨rfl, rfl, rfl⟩)
   ·rintro vs ms os ⟨rfl, rfl, rfl⟩
    exact IsG.here ⟨rfl, hle, c0, rfl, rfl, hc, hcn⟩
 ·exact (tbA r b off n cap _ _ _ _).trans (qq_ok ⟨rfl, rfl, rfl⟩)
end
end Go.Proofs
namespace Go.Proofs
open Go Go.Ev
noncomputable def m_svv (a b : List Value) : Bool := @decide (a = b) (Classical.propDecidable _)
theorem svv_rfl (a : List Value) : m_svv a a = true := @decide_eq_true _ (Classical.propDecidable _) rfl
end Go.Proofs
namespace Go.Proofs
open Go Go.Ev Go.Num
def TabM (r : Mem) (b off : Nat) (T : List (List Bool)) : Prop := ∀ (i : Nat) l, T[i]? = some l → ∃ v, r b (off + i) = some v ∧ RowV r v l
end Go.Proofs
namespace Go.Proofs
open Go Go.Ev Go.Num
theorem b_bl (x : Bool) : isB (.bool x) = true := rfl
theorem o_bl (x : Bool) : ofB (.bool x) = x := rfl
theorem TOk.sh {r : Mem} {t : Tbl} (sh : Nat) (h : TOk (SC r) t) : TOk (SS r sh) t := h
theorem base_sh {r : Mem} {sh : Nat} {γ0 γ : Gam} {W0 W : World} (h : Base (SC r) γ0 W0 γ W) : Base (SS r sh) γ0 W0 γ W := ⟨h.ext, h.ro⟩
theorem base_hs {r : Mem} {sh : Nat} {γ0 γ : Gam} {W0 W : World} (h : Base (SS r sh) γ0 W0 γ W) : Base (SC r) γ0 W0 γ W := ⟨h.ext, h.ro⟩
theorem is_hs {r : Mem} {sh m n : Nat} {γ0 : Gam} {W0 : World} {o : Outs} {st : St} (h : Is (SS r sh) m n γ0 W0 o st) : Is (SC r) m n γ0 W0 o st := by
 obtain ⟨vs, ms, os, hr, q⟩ := h
 refine ⟨vs, ms, os, fun γ a W hs hb => ?_, q⟩
 obtain ⟨γ1, s1, b1⟩ := hr γ a W hs (base_sh hb)
 exact ⟨γ1, s1, base_hs b1⟩
theorem segSh {r : Mem} {m n : Nat} {F : Fence} {k : Nat} {γ0 : Gam} {W0 : World} {n0 : Nat} {ro : Option Nat} (sh : Nat) {t : Tbl} (ht : TOk (SC r) t) {tm : Tr Nat} {L L' d : Nat} (hF : Wide F) (hro : RoRel γ0 ro F.round) (h0 : ∀ i, n0 ≤ i → γ0 i = none) {c : Code} {s : List (Nat × Value)} {b : Tr Value} {ms : List Nat} {A : AW} {on : Outs} {ox : Nat → Outs} {orr : Outs} (l : List (Nat × Outs)) (hl : ∀ p ∈ l, ox p.1 = p.2)
  (h : run (SS r sh) m n L c (lvlT (SS r sh) t tm L' d) ro (on.ask n0) (Outs.ats n0 l) (orr.ask n0) s b ms A = okR) : Go.Ev.Reach (SC r) m n F k γ0 W0 c ⟨⟨s, b⟩, ms, A⟩ (CanQ (SC r) m n γ0 W0 on ox orr) := by
 have h1 := Go.Ev.Reach.segR (k := k) (W0 := W0) (SS_ok r sh) (TOk.sh sh ht) hF hro h0 (on := on) (ox := ox) (orr := orr) l hl h
 intro γ a W hs hb
 refine wpIn_mono (h1 γ a W hs (base_sh hb)) fun ex a' W' ⟨st', γ', hq, s', b'⟩ => ⟨st', γ', ?_, s', base_hs b'⟩
 cases ex with
 | normal => exact is_hs hq
 | exit id => exact is_hs hq
 | ret => exact is_hs hq
 | _ => exact hq
theorem is_sh {r : Mem} {sh m n : Nat} {γ0 : Gam} {W0 : World} {o : Outs} {st : St} (h : Is (SC r) m n γ0 W0 o st) : Is (SS r sh) m n γ0 W0 o st := by
 obtain ⟨vs, ms, os, hr, q⟩ := h
 refine ⟨vs, ms, os, fun γ a W hs hb => ?_, q⟩
 obtain ⟨γ1, s1, b1⟩ := hr γ a W hs (base_hs hb)
 exact ⟨γ1, s1, base_sh b1⟩
theorem reach_hs {r : Mem} {sh m n : Nat} {F : Fence} {k : Nat} {γ0 : Gam} {W0 : World} {c : Code} {st : St} {on : Outs} {ox : Nat → Outs} {orr : Outs} (h : Go.Ev.Reach (SS r sh) m n F k γ0 W0 c st (CanQ (SS r sh) m n γ0 W0 on ox orr)) : Go.Ev.Reach (SC r) m n F k γ0 W0 c st (CanQ (SC r) m n γ0 W0 on ox orr) := by
 intro γ a W hs hb
 refine wpIn_mono (h γ a W hs (base_sh hb)) fun ex a' W' ⟨st', γ', hq, s', b'⟩ => ⟨st', γ', ?_, s', base_hs b'⟩
 cases ex with
 | normal => exact is_hs hq
 | exit id => exact is_hs hq
 | ret => exact is_hs hq
 | _ => exact hq
theorem reach_sh {r : Mem} {sh m n : Nat} {F : Fence} {k : Nat} {γ0 : Gam} {W0 : World} {c : Code} {st : St} {on : Outs} {ox : Nat → Outs} {orr : Outs} (h : Go.Ev.Reach (SC r) m n F k γ0 W0 c st (CanQ (SC r) m n γ0 W0 on ox orr)) : Go.Ev.Reach (SS r sh) m n F k γ0 W0 c st (CanQ (SS r sh) m n γ0 W0 on ox orr) := by
 intro γ a W hs hb
 refine wpIn_mono (h γ a W hs (base_hs hb)) fun ex a' W' ⟨st', γ', hq, s', b'⟩ => ⟨st', γ', ?_, s', base_sh b'⟩
 cases ex with
 | normal => exact is_sh hq
 | exit id => exact is_sh hq
 | ret => exact is_sh hq
 | _ => exact hq
def gT (T : List (List Bool)) (i k : Nat) : Bool := (T.getD i []).getD k false
section
variable {r : Mem} {b off : Nat} {T : List (List Bool)}
theorem tab_row (hM : TabM r b off T) {i : Nat} (hi : i < T.length) : ∃ v, r b (off + i) = some v ∧ RowV r v (T.getD i []) := by
 have : T[i]? = some (T.getD i []) := by rw [List.getD_eq_getElem?_getD, List.getElem?_eq_getElem hi]; rfl
 exact hM i _ this
theorem tab_RS (hM : TabM r b off T) {i : Nat} (hi : i < T.length) (hne : (T.getD i []).length ≠ 0) : ∃ b2 o2 c2, r b (off + i) = some (RS b2 o2 (T.getD i []).length c2) ∧ ∀ k, k < (T.getD i []).length → r b2 (o2 + k) = some (.bool (gT T i k)) := by
 obtain ⟨v, hv, h⟩ := tab_row hM hi
 rcases h with ⟨h, _⟩ | ⟨_, b2, o2, c2, rfl, h⟩
 ·rw [h] at hne; exact absurd rfl hne
 ·refine ⟨b2, o2, c2, hv, fun k hk => h k _ ?_⟩
  unfold gT
  generalize T.getD i [] = l at hk
  rw [List.getD_eq_getElem?_getD, List.getElem?_eq_getElem hk]; rfl
end
end Go.Proofs
namespace Go.Proofs
open Go Go.Ev
abbrev U (z : Int) : Value := .int .u64 z
end Go.Proofs
namespace Go.Num
open Go.Proofs
def anN (a b : Nat) : Nat := (a &&& b) ^^^ a
theorem an_zero {a b : Nat} : anN a b = 0 ↔ a &&& b = a := by
 unfold anN
 constructor
 ·intro h
  apply Nat.eq_of_testBit_eq
  intro i
  have := congrArg (fun x => Nat.testBit x i) h
  simp only [Nat.testBit_and, Nat.testBit_xor, Nat.zero_testBit] at this ⊢
  revert this
  cases a.testBit i <;> cases b.testBit i <;> simp
 ·intro h; rw [h]; exact Nat.xor_self a
theorem an_lt {a b k : Nat} (h : a < 2 ^ k) : anN a b < 2 ^ k := Nat.xor_lt_two_pow (Nat.lt_of_le_of_lt Nat.and_le_left h) h
theorem and_ne {a b : Nat} : a &&& b ≠ 0 ↔ ∃ v, a.testBit v = true ∧ b.testBit v = true := by
 constructor
 ·intro h
  obtain ⟨v, hv⟩ := Nat.exists_testBit_of_ne_zero h
  rw [Nat.testBit_and, Bool.and_eq_true] at hv
  exact ⟨v, hv⟩
 ·rintro ⟨v, h1, h2⟩ h
  have := congrArg (fun x => Nat.testBit x v) h
  simp only [Nat.testBit_and, h1, h2, Nat.zero_testBit] at this
  exact nomatch this
theorem and_zero {a b : Nat} : a &&& b = 0 ↔ ∀ v, a.testBit v = true → b.testBit v = false := by
 constructor
 ·intro h v h1
  cases h2 : b.testBit v with
  | false => rfl
  | true => exact absurd h (and_ne.2 ⟨v, h1, h2⟩)
 ·intro h
  by_cases c : a &&& b = 0
  ·exact c
  ·obtain ⟨v, h1, h2⟩ := and_ne.1 c
   rw [h v h1] at h2
   exact nomatch h2
theorem in_bit {a b : Nat} : a &&& b = a ↔ ∀ v, a.testBit v = true → b.testBit v = true := by
 constructor
 ·intro h v h1
  rw [← h, Nat.testBit_and, Bool.and_eq_true] at h1
  exact h1.2
 ·intro h
  apply Nat.eq_of_testBit_eq
  intro i
  rw [Nat.testBit_and]
  cases ha : a.testBit i with
  | false => rfl
  | true => rw [h i ha]; rfl
structure Nbs (w : Nat → Nat) (m : Nat) : Prop where
 low : ∀ i v, (w i).testBit v = true → i < m ∧ v < m
 sym : ∀ i v, (w i).testBit v = true → (w v).testBit i = true
theorem high {x m i : Nat} (h : x < 2 ^ m) (hi : m ≤ i) : x.testBit i = false := Nat.testBit_lt_two_pow (Nat.lt_of_lt_of_le h (Nat.pow_le_pow_right (by decide) hi))
theorem and_half (a b : Nat) : (a &&& b) / 2 = (a / 2) &&& (b / 2) := Nat.and_div_two
theorem and_odd (a b : Nat) : (a &&& b) % 2 = 1 ↔ a % 2 = 1 ∧ b % 2 = 1 := Nat.and_mod_two_eq_one
def tzN : Nat → Nat → Nat
 | 0, _ => 0
 | f + 1, s => if s % 2 = 1 then 0 else tzN f (s / 2) + 1
theorem neg_and : ∀ b x, x < 2 ^ b → (2 ^ b - 1 - x) &&& x = 0
 | 0, x, h => by
  obtain rfl : x = 0 := by simpa using h
  exact Nat.and_zero _
 | b + 1, x, h => by
  have hp : 2 ^ (b + 1) = 2 * 2 ^ b := by rw [Nat.pow_succ]; omega
  have ih := neg_and b (x / 2) (by omega)
  generalize hX : 2 ^ (b + 1) - 1 - x = X
  have h1 := and_half X x
  have h2 := and_odd X x
  rw [show X / 2 = 2 ^ b - 1 - x / 2 by omega, ih] at h1
  generalize X &&& x = n at h1 h2
  have : ¬ n % 2 = 1 := fun c => by have := h2.1 c; omega
  omega
theorem low_pow : ∀ b x, x < 2 ^ b → x ≠ 0 → x &&& (2 ^ b - x) = 2 ^ tzN b x
 | 0, x, h, h0 => by exfalso; simp at h; omega
 | b + 1, x, h, h0 => by
  have hp : 2 ^ (b + 1) = 2 * 2 ^ b := by rw [Nat.pow_succ]; omega
  generalize hX : 2 ^ (b + 1) - x = X
  have h1 := and_half x X
  have h2 := and_odd x X
  rw [tzN]
  by_cases c : x % 2 = 1
  ·rw [if_pos c]
   have := neg_and b (x / 2) (by omega)
   rw [show X / 2 = 2 ^ b - 1 - x / 2 by omega, Nat.and_comm (x / 2), this] at h1
   have := h2.2 ⟨c, by omega⟩
   omega
  ·rw [if_neg c, Nat.pow_succ]
   have := low_pow b (x / 2) (by omega) (by omega)
   rw [show X / 2 = 2 ^ b - x / 2 by omega, this] at h1
   have : ¬ (x &&& X) % 2 = 1 := fun c => by have := h2.1 c; omega
   omega
theorem tz_bit : ∀ b x, x < 2 ^ b → x ≠ 0 → tzN b x < b ∧ x.testBit (tzN b x) = true ∧ ∀ i, i < tzN b x → x.testBit i = false
 | 0, x, h, h0 => by exfalso; simp at h; omega
 | b + 1, x, h, h0 => by
  have hp : 2 ^ (b + 1) = 2 * 2 ^ b := by rw [Nat.pow_succ]; omega
  rw [tzN]
  by_cases c : x % 2 = 1
  ·rw [if_pos c]
   exact ⟨by omega, by rw [Nat.testBit_zero]; simpa using c, fun i hi => absurd hi (by omega)⟩
  ·rw [if_neg c]
   obtain ⟨h1, h2, h3⟩ := tz_bit b (x / 2) (by omega) (by omega)
   refine ⟨by omega, by rw [Nat.testBit_succ]; exact h2, fun i hi => ?_⟩
   cases i with
   | zero => rw [Nat.testBit_zero]; simpa using c
   | succ i => rw [Nat.testBit_succ]; exact h3 i (by omega)
theorem clr_bit : ∀ b x, x < 2 ^ b → x ≠ 0 → ∀ i, (x &&& (x - 1)).testBit i = (x.testBit i && !decide (i = tzN b x))
 | 0, x, h, h0, i => by exfalso; simp at h; omega
 | b + 1, x, h, h0, i => by
  have hp : 2 ^ (b + 1) = 2 * 2 ^ b := by rw [Nat.pow_succ]; omega
  rw [tzN, Nat.testBit_and]
  by_cases c : x % 2 = 1
  ·rw [if_pos c]
   cases i with
   | zero =>
    rw [Nat.testBit_zero (x - 1), show ((x - 1) % 2) = 0 by omega]
    simp
   | succ i =>
    rw [Nat.testBit_succ, Nat.testBit_succ, show (x - 1) / 2 = x / 2 by omega]
    simp
  ·rw [if_neg c]
   have ih := clr_bit b (x / 2) (by omega) (by omega)
   cases i with
   | zero =>
    rw [Nat.testBit_zero x, show x % 2 = 0 by omega]
    simp
   | succ i =>
    rw [Nat.testBit_succ, Nat.testBit_succ, show (x - 1) / 2 = x / 2 - 1 by omega]
    have := ih i
    rw [Nat.testBit_and] at this
    rw [this]
    congr 2
    simp
def hiN (s v : Nat) : Nat := s / 2 ^ v * 2 ^ v
theorem hi_bit (s v i : Nat) : (hiN s v).testBit i = (decide (v ≤ i) && s.testBit i) := by
 unfold hiN
 rw [Nat.mul_comm, Nat.testBit_two_pow_mul]
 by_cases c : v ≤ i
 ·rw [decide_eq_true c, Nat.testBit_div_two_pow, Nat.sub_add_cancel c]
 ·simp [c]
theorem hi_le (s v : Nat) : hiN s v ≤ s := Nat.div_mul_le_self s (2 ^ v)
theorem hi_zero (s : Nat) : hiN s 0 = s := by unfold hiN; simp
theorem hi_next {b s v : Nat} (h : s < 2 ^ b) (h0 : hiN s v ≠ 0) : v ≤ tzN b (hiN s v) ∧ tzN b (hiN s v) < b ∧ s.testBit (tzN b (hiN s v)) = true ∧ (∀ i, v ≤ i → i < tzN b (hiN s v) → s.testBit i = false) ∧ hiN s v &&& (hiN s v - 1) = hiN s (tzN b (hiN s v) + 1) := by
 have hh : hiN s v < 2 ^ b := Nat.lt_of_le_of_lt (hi_le s v) h
 obtain ⟨h1, h2, h3⟩ := tz_bit b _ hh h0
 have h4 := clr_bit b _ hh h0
 generalize tzN b (hiN s v) = t at h1 h2 h3 h4
 rw [hi_bit, Bool.and_eq_true, decide_eq_true_eq] at h2
 refine ⟨h2.1, h1, h2.2, fun i hv hi => ?_, ?_⟩
 ·have := h3 i hi
  rw [hi_bit, decide_eq_true hv] at this
  simpa using this
 ·apply Nat.eq_of_testBit_eq
  intro i
  rw [h4, hi_bit, hi_bit]
  by_cases c : t + 1 ≤ i
  ·rw [decide_eq_true c, decide_eq_true (show v ≤ i by omega), decide_eq_false (show ¬ i = t by omega)]
   simp
  ·rw [decide_eq_false c, Bool.false_and]
   by_cases e : i = t
   ·simp [e]
   ·have := h3 i (by omega)
    rw [hi_bit] at this
    rw [this]; rfl
theorem hi_none {s v : Nat} (h : hiN s v = 0) {i : Nat} (hi : v ≤ i) : s.testBit i = false := by
 have := hi_bit s v i
 rw [h, Nat.zero_testBit, decide_eq_true hi] at this
 simpa using this.symm
end Go.Num
namespace Go.Proofs
open Go Go.Ev Go.Num
end Go.Proofs
namespace Go.Proofs
open Go Go.Ev Go.Num
abbrev V (z : Int) : Value := .int .u16 z
abbrev pq (i : Nat) : Value := .pointer (some ⟨i, 0, none⟩)
def oOr (c : List Value) (i : Nat) : Option AObj := some (.cells c 56 i 0)
def z25 : List Value := [I 0, V 0, V 0, V 0, V 0, V 0, V 0, V 0, V 0, V 0, V 0, V 0, V 0, V 0, V 0, V 0, V 0, V 0, V 0, V 0, V 0, V 0, V 0, V 0, V 0]
end Go.Proofs
namespace Go.Proofs
open Go Go.Ev Go.Num
theorem wrV (v : Int) : IntKind.wrap .u16 v = v % 65536 := by simp [IntKind.wrap, IntKind.bits, IntKind.signed]
theorem wrapV {a : Nat} (h : a < 65536) : IntKind.wrap .u16 (a : Int) = (a : Int) := by rw [wrV]; omega
theorem bvV (a : Nat) (h : a < 65536) : (BitVec.ofInt 16 (a : Int)).toNat = a := by
 rw [BitVec.ofInt_natCast, BitVec.toNat_ofNat]
 exact Nat.mod_eq_of_lt h
theorem uV {a b : Nat} (ha : a < 65536) (hb : b < 65536) : ibits .or .u16 (a : Int) (b : Int) = ((a ||| b : Nat) : Int) ∧ ibits .and .u16 (a : Int) (b : Int) = ((a &&& b : Nat) : Int) ∧ ibits .andNot .u16 (a : Int) (b : Int) = ((anN a b : Nat) : Int) := by
 have hx : ∀ x y : BitVec 16, x &&& ~~~y = (x &&& y) ^^^ x := fun x y => by
  ext i hi
  simp
  cases x[i] <;> cases y[i] <;> rfl
 have e1 : (BitVec.ofInt 16 (a : Int) ||| BitVec.ofInt 16 (b : Int)).toNat = a ||| b := by rw [BitVec.toNat_or, bvV a ha, bvV b hb]
 have e2 : (BitVec.ofInt 16 (a : Int) &&& BitVec.ofInt 16 (b : Int)).toNat = a &&& b := by rw [BitVec.toNat_and, bvV a ha, bvV b hb]
 have e3 : (BitVec.ofInt 16 (a : Int) &&& ~~~(BitVec.ofInt 16 (b : Int))).toNat = anN a b := by rw [hx, BitVec.toNat_xor, BitVec.toNat_and, bvV a ha, bvV b hb]; rfl
 have h16 : (65536 : Nat) = 2 ^ 16 := by decide
 refine ⟨?_, ?_, ?_⟩
 ·show IntKind.wrap .u16 ((BitVec.ofInt 16 (a : Int) ||| BitVec.ofInt 16 (b : Int)).toNat : Int) = _
  rw [e1]
  refine wrapV ?_
  rw [h16] at *; exact Nat.or_lt_two_pow ha hb
 ·show IntKind.wrap .u16 ((BitVec.ofInt 16 (a : Int) &&& BitVec.ofInt 16 (b : Int)).toNat : Int) = _
  rw [e2]
  refine wrapV ?_
  rw [h16] at *; exact Nat.and_lt_two_pow _ hb
 ·show IntKind.wrap .u16 ((BitVec.ofInt 16 (a : Int) &&& ~~~(BitVec.ofInt 16 (b : Int))).toNat : Int) = _
  rw [e3]
  refine wrapV ?_
  rw [h16] at *; exact an_lt ha
theorem shlV {b : Nat} (h : b < 16) : IntKind.wrap IntKind.u16 (Int.ofNat 1 * Int.ofNat 2 ^ min b 16) = ((2 ^ b : Nat) : Int) := by
 have h1 : 2 ^ b < 65536 := Nat.pow_lt_pow_right (n := 16) (by decide) h
 rw [Nat.min_eq_left (by omega), wrV, show (Int.ofNat 1 * Int.ofNat 2 ^ b : Int) = ((2 ^ b : Nat) : Int) by simp]
 generalize 2 ^ b = x at *
 omega
theorem isV_V (x : Int) : isI IntKind.u16 (V x) = true := rfl
theorem ofI_V (x : Int) : ofI (V x) = x := rfl
theorem eqv_v (a : Int) : m_eqv (V a) (V a) = true := by simp [m_eqv, veq]
/-! ### an order's cells -/
def orC (n : Nat) (w a : Nat → Nat) : List Value := I (n : Nat) :: ((List.range 12).map (fun j => V ((w j : Nat) : Int)) ++ (List.range 12).map fun j => V ((a j : Nat) : Int))
theorem orC_nn (n : Nat) (w a : Nat → Nat) : m_nns (orC n w a) = true := rfl
theorem mp_len (w : Nat → Nat) : ((List.range 12).map fun j => V ((w j : Nat) : Int)).length = 12 := by simp
theorem orC_w {n : Nat} {w a : Nat → Nat} {j : Nat} (h : j < 12) : (orC n w a)[1 + j]? = some (V ((w j : Nat) : Int)) := by
 unfold orC
 rw [show 1 + j = j + 1 by omega, List.getElem?_cons_succ, List.getElem?_append_left (by rw [mp_len]; exact h), List.getElem?_map, List.getElem?_range h]
 rfl
theorem orC_a {n : Nat} {w a : Nat → Nat} {j : Nat} (h : j < 12) : (orC n w a)[13 + j]? = some (V ((a j : Nat) : Int)) := by
 unfold orC
 rw [show 13 + j = (12 + j) + 1 by omega, List.getElem?_cons_succ, List.getElem?_append_right (by rw [mp_len]; omega), mp_len, show 12 + j - 12 = j by omega, List.getElem?_map, List.getElem?_range h]
 rfl
theorem mp_set (w : Nat → Nat) {i x : Nat} (h : i < 12) : ((List.range 12).map fun j => V ((w j : Nat) : Int)).set i (V ((x : Nat) : Int)) = (List.range 12).map fun j => V (((if j = i then x else w j) : Nat) : Int) := by
 apply List.ext_getElem
 ·simp
 ·intro k h1 h2
  rw [List.getElem_set]
  by_cases c : i = k
  ·subst c; simp
  ·rw [if_neg c]
   have : ¬ k = i := fun e => c e.symm
   simp [this]
theorem orC_setw {n : Nat} {w a : Nat → Nat} {i x : Nat} (h : i < 12) : (orC n w a).set (1 + i) (V ((x : Nat) : Int)) = orC n (fun j => if j = i then x else w j) a := by
 unfold orC
 rw [show 1 + i = i + 1 by omega, List.set_cons_succ, List.set_append_left _ _ (by rw [mp_len]; exact h), mp_set w h]
theorem orC_seta {n : Nat} {w a : Nat → Nat} {i x : Nat} (h : i < 12) : (orC n w a).set (13 + i) (V ((x : Nat) : Int)) = orC n w fun j => if j = i then x else a j := by
 unfold orC
 rw [show 13 + i = (12 + i) + 1 by omega, List.set_cons_succ, List.set_append_right _ _ (by rw [mp_len]; omega), mp_len, show 12 + i - 12 = i by omega, mp_set a h]
theorem orC_ext {n : Nat} {w w' a a' : Nat → Nat} (h : ∀ j, j < 12 → w j = w' j) (h2 : ∀ j, j < 12 → a j = a' j) : orC n w a = orC n w' a' := by
 unfold orC
 congr 2
 ·exact List.map_congr_left fun j hj => by rw [h j (by simpa using hj)]
 ·exact List.map_congr_left fun j hj => by rw [h2 j (by simpa using hj)]
/-! ### the words of a table -/
def rwO (T : List (List Bool)) (v : Nat) : Nat → Nat
 | 0 => 0
 | k + 1 => if gT T v k then rwO T v k ||| 2 ^ k else rwO T v k
def clO (T : List (List Bool)) (v : Nat) : Nat → Nat
 | 0 => 0
 | k + 1 => if gT T k v then clO T v k ||| 2 ^ k else clO T v k
theorem rwO_lt (T : List (List Bool)) (v : Nat) : ∀ k, rwO T v k < 2 ^ k
 | 0 => by simp [rwO]
 | k + 1 => by
  have h := rwO_lt T v k
  have h2 : rwO T v k < 2 ^ (k + 1) := Nat.lt_of_lt_of_le h (Nat.pow_le_pow_right (by decide) (by omega))
  rw [rwO]
  split
  ·exact Nat.or_lt_two_pow h2 (Nat.pow_lt_pow_right (by decide) (by omega))
  ·exact h2
theorem clO_lt (T : List (List Bool)) (v : Nat) : ∀ k, clO T v k < 2 ^ k
 | 0 => by simp [clO]
 | k + 1 => by
  have h := clO_lt T v k
  have h2 : clO T v k < 2 ^ (k + 1) := Nat.lt_of_lt_of_le h (Nat.pow_le_pow_right (by decide) (by omega))
  rw [clO]
  split
  ·exact Nat.or_lt_two_pow h2 (Nat.pow_lt_pow_right (by decide) (by omega))
  ·exact h2
theorem clO_bit (T : List (List Bool)) (v : Nat) : ∀ k j, (clO T v k).testBit j = (decide (j < k) && gT T j v)
 | 0, j => by simp [clO]
 | k + 1, j => by
  have ih := clO_bit T v k j
  rw [clO]
  by_cases c : gT T k v = true
  ·rw [if_pos c, Nat.testBit_or, ih, Nat.testBit_two_pow]
   by_cases e : k = j
   ·subst e; simp [c]
   ·by_cases h : j < k
    ·simp [h, e, show j < k + 1 by omega]
    ·simp [h, e, show ¬ j < k + 1 by omega]
  ·rw [if_neg c, ih]
   by_cases e : k = j
   ·subst e; simp at c; simp [c]
   ·by_cases h : j < k
    ·simp [h, show j < k + 1 by omega]
    ·simp [h, show ¬ j < k + 1 by omega]
def wB (T : List (List Bool)) (i k j : Nat) : Nat := if j < k then clO T j (i + 1) else clO T j i
def wA (T : List (List Bool)) (i k j : Nat) : Nat := if j < i then rwO T j T.length else if j = i then rwO T j k else 0
theorem lt12 {x k : Nat} (hk : k ≤ 12) (h : x < 2 ^ k) : x < 4096 := Nat.lt_of_lt_of_le h (Nat.pow_le_pow_right (n := 2) (by decide) hk)
theorem wB_lt {T : List (List Bool)} {i : Nat} (hi : i < 12) (k j : Nat) : wB T i k j < 4096 := by
 unfold wB
 split
 ·exact lt12 (by omega) (clO_lt T j (i + 1))
 ·exact lt12 (by omega) (clO_lt T j i)
theorem wA_lt {T : List (List Bool)} (hT : T.length ≤ 12) {k : Nat} (hk : k ≤ 12) (i j : Nat) : wA T i k j < 4096 := by
 unfold wA
 split
 ·exact lt12 hT (rwO_lt T j _)
 ·split
  ·exact lt12 hk (rwO_lt T j k)
  ·omega
theorem put_ok {T : List (List Bool)} {n i k : Nat} (hi : i < 12) (hk : k < 12) (h : gT T i k = true) : ((orC n (wB T i k) (wA T i k)).set (1 + k) (V ((wB T i k k ||| 2 ^ i : Nat) : Int))).set (13 + i) (V ((wA T i k i ||| 2 ^ k : Nat) : Int)) = orC n (wB T i (k + 1)) (wA T i (k + 1)) := by
 rw [orC_setw hk, orC_seta hi]
 refine orC_ext (fun j hj => ?_) fun j hj => ?_
 ·unfold wB
  by_cases e : j = k
  ·subst e
   rw [if_pos rfl, if_neg (by omega), if_pos (by omega), clO, if_pos h]
  ·rw [if_neg e]
   by_cases c : j < k
   ·rw [if_pos c, if_pos (by omega)]
   ·rw [if_neg c, if_neg (by omega)]
 ·unfold wA
  by_cases e : j = i
  ·subst e
   rw [if_pos rfl, if_neg (by omega), if_pos rfl, if_neg (by omega), if_pos rfl, rwO, if_pos h]
  ·rw [if_neg e, if_neg e, if_neg e]
theorem skip_ok {T : List (List Bool)} {n i k : Nat} (h : gT T i k = false) : orC n (wB T i k) (wA T i k) = orC n (wB T i (k + 1)) (wA T i (k + 1)) := by
 refine orC_ext (fun j hj => ?_) fun j hj => ?_
 ·unfold wB
  by_cases c : j < k
  ·rw [if_pos c, if_pos (by omega)]
  ·rw [if_neg c]
   by_cases e : j = k
   ·subst e
    rw [if_pos (by omega), clO, h]
    rfl
   ·rw [if_neg (by omega)]
 ·unfold wA
  by_cases e : j = i
  ·subst e
   rw [if_neg (by omega), if_pos rfl, if_neg (by omega), if_pos rfl, rwO, h]
   rfl
  ·rw [if_neg e, if_neg e]
theorem next_ok {T : List (List Bool)} {n i : Nat} (hl : (T.getD i []).length = T.length) : orC n (wB T i T.length) (wA T i T.length) = orC n (wB T (i + 1) 0) (wA T (i + 1) 0) := by
 refine orC_ext (fun j hj => ?_) fun j hj => ?_
 ·unfold wB
  rw [if_neg (show ¬ j < 0 by omega)]
  by_cases c : j < T.length
  ·rw [if_pos c]
  ·rw [if_neg c, clO]
   have : gT T i j = false := by
    unfold gT
    rw [List.getD_eq_getElem?_getD, List.getElem?_eq_none (by omega)]
    rfl
   rw [this]
   rfl
 ·unfold wA
  by_cases c : j < i
  ·rw [if_pos c, if_pos (by omega)]
  ·rw [if_neg c]
   by_cases e : j = i
   ·subst e
    rw [if_pos rfl, if_pos (by omega)]
   ·rw [if_neg e, if_neg (by omega)]
    by_cases e2 : j = i + 1
    ·rw [if_pos e2]; rfl
    ·rw [if_neg e2]
end Go.Proofs
namespace Go.Proofs
open Go Go.Ev Go.Num
abbrev fY (l : Nat) : Value := .func (.yield l) ⟨[]⟩ ⟨[]⟩
def m_tvG (s : Int) : Bool := decide (1 ≤ s ∧ s < 65536)
def m_tv (s : Int) : Int := (tzN 16 s.toNat : Nat)
def eV1 (g : Int → Bool) (v : Int → Value) : Ent := ent (fun args _ => match args with | [.int .u16 a] => g a | _ => false) (fun args _ => match args with | [.int .u16 a] => v a | _ => undef)
theorem eV1_ok {C : Cfg} {f : Nat} {g : Int → Bool} {v : Int → Value} (h : ∀ a, g a = true → GrT C.P C.ro f [.int .u16 a] (v a)) : EOk C f (eV1 g v) := EOk.ent fun args A hg => by
 split at hg
 ·exact (h _ hg).ro rfl A
 ·cases hg
def tEs : Tbl := tcons 65 (eV1 m_tvG fun x => I (m_tv x)) fun _ => none
theorem tvA (r : Mem) (s : Int) : (lvlT (SC r) (fun _ => none) .nil 2 4).call 65 [V s] emptyA fin =
    bif s == Int.ofNat 0 then .ret (I (Int.ofNat 16)) (AW.mk 0 .nil .nil) else bif decide (0 ≤ Int.fdiv (m_mulV (IntKind.wrap .u32 (ibits BinOp.and IntKind.u16 s (IntKind.wrap .u16 (Int.ofNat 0 - s)))) (Int.ofNat 125613361)) (Int.ofNat 134217728)) then bif Nat.blt (Int.toNat (Int.fdiv (m_mulV (IntKind.wrap .u32 (ibits BinOp.and IntKind.u16 s (IntKind.wrap .u16 (Int.ofNat 0 - s)))) (Int.ofNat 125613361)) (Int.ofNat 134217728))) 32 then Option.casesOn (r 0 (Nat.add 0 (Nat.mul (Int.toNat (Int.fdiv (m_mulV (IntKind.wrap .u32 (ibits BinOp.and IntKind.u16 s (IntKind.wrap .u16 (Int.ofNat 0 - s)))) (Int.ofNat 125613361)) (Int.ofNat 134217728))) 1))) (.fail 423) fun val => bif isI IntKind.u8 val then .ret (I (IntKind.wrap .i64 (ofI val))) (AW.mk 0 .nil .nil) else F4 else F4 else F4 := by kernel_rfl
end Go.Proofs
namespace Go.Num
open Go Go.Proofs Go.Ev
def tvI (t : Nat) : Int := Int.fdiv (m_mulV ((2 ^ t : Nat) : Int) (Int.ofNat 125613361)) (Int.ofNat 134217728)
def tvC (t : Nat) : Bool := decide (0 ≤ tvI t) && (Nat.blt (tvI t).toNat 32 && match tabM 0 (Nat.add 0 (Nat.mul (tvI t).toNat 1)) with
 | some (.int .u8 z) => decide (z = (t : Int))
 | _ => false)
theorem tvC_all : ∀ t : Fin 16, tvC t.val = true := by decide +kernel
end Go.Num
namespace Go.Proofs
open Go Go.Ev Go.Num
theorem tv_ok (r : Mem) (hm : ∀ b j u, tabM b j = some u → r b j = some u) (s : Nat) (h0 : s ≠ 0) (h : s < 65536) : GrT Tryd.prog r 65 [V (s : Nat)] (I (tzN 16 s : Nat)) :=
 GrT.of (SC_ok r) TOk.nil .nil rfl ⟨2, 4, by
  rw [tvA]
  have c1 : ((s : Int) == Int.ofNat 0) = false := by simp; omega
  have e1 : IntKind.wrap IntKind.u16 (Int.ofNat 0 - (s : Int)) = ((2 ^ 16 - s : Nat) : Int) := by rw [wrV]; simp; omega
  have e2 : ibits BinOp.and IntKind.u16 (s : Int) ((2 ^ 16 - s : Nat) : Int) = ((s &&& (2 ^ 16 - s) : Nat) : Int) := (uV (by omega) (by omega)).2.1
  have ht := (tz_bit 16 s (by omega) h0).1
  have hc := tvC_all ⟨tzN 16 s, ht⟩
  have h2t : 2 ^ tzN 16 s < 65536 := Nat.pow_lt_pow_right (n := 16) (by decide) ht
  have e3 : IntKind.wrap IntKind.u32 ((2 ^ tzN 16 s : Nat) : Int) = ((2 ^ tzN 16 s : Nat) : Int) := by
   rw [show ∀ v, IntKind.wrap IntKind.u32 v = v % 4294967296 from fun v => by simp [IntKind.wrap, IntKind.bits, IntKind.signed]]
   generalize 2 ^ tzN 16 s = x at *
   omega
  rw [c1, cond_false, e1, e2, low_pow 16 s (by omega) h0, e3]
  generalize tzN 16 s = t at ht hc
  unfold tvC at hc
  rw [Bool.and_eq_true, Bool.and_eq_true] at hc
  obtain ⟨d1, d2, d3⟩ := hc
  change decide (0 ≤ tvI t) = true at d1
  change (bif decide (0 ≤ tvI t) then bif Nat.blt (Int.toNat (tvI t)) 32 then Option.casesOn (r 0 (Nat.add 0 (Nat.mul (Int.toNat (tvI t)) 1))) (CR.fail 423) fun val => bif isI IntKind.u8 val then CR.ret (Value.int IntKind.i64 (IntKind.wrap IntKind.i64 (ofI val))) (AW.mk 0 .nil .nil) else F4 else F4 else F4) = _
  rw [d1, cond_true, d2, cond_true]
  split at d3
  ·rename_i z hz
   rw [hm _ _ _ hz]
   have hz' : z = (t : Int) := of_decide_eq_true d3
   subst hz'
   show CR.ret (Value.int IntKind.i64 (IntKind.wrap IntKind.i64 (t : Int))) _ = _
   rw [wrI (by omega)]
   rfl
  ·exact nomatch d3⟩
theorem tEs_ok (r : Mem) (hm : ∀ b j u, tabM b j = some u → r b j = some u) : TOk (SC r) tEs := TOk.cons TOk.nil (eV1_ok fun a ha => by
 have h := of_decide_eq_true ha
 have := tv_ok r hm a.toNat (by omega) (by omega)
 rw [show ((a.toNat : Nat) : Int) = a by omega] at this
 exact this)
end Go.Proofs
namespace Go.Proofs
open Go Go.Ev Go.Num
noncomputable def cEs : Code := bodyOf S0 55
noncomputable def Es_0 : Code := (lc cEs)
noncomputable def Es_1 : Code := (lc (ic (ic (rc cEs))))
noncomputable def Es_2 : Code := (lc (ic (lc (rc (ic (ic (rc cEs)))))))
noncomputable def Es_3 : Code := (rc (ic (lc (rc (ic (ic (rc cEs)))))))
noncomputable def Es_4 : Code := (rc (rc (ic (ic (rc cEs)))))
theorem Es_eq : cEs = (.seq Es_0 (.block 0 (.loop (.seq Es_1 (.seq (.block 1 (.seq Es_2 Es_3)) Es_4))))) := by kernel_rfl
def lvEs : List Nat := [0, 3]
def tEb (l : Nat) (t : Int) : Tr Value := bT lvEs [some (fY l), some (V t)] .nil
theorem ebA (r : Mem) (l p : Nat) (A : AW) (fs : FnsC) (K : KS) (kx : Nat → KS) (kr : KS) : run (SC r) 11 16 1 Es_0 fs none K kx kr (sc0 11 [fY l, .pointer (some ⟨p, 0, none⟩)]) (tr0 11 [fY l, .pointer (some ⟨p, 0, none⟩)]) [] A =
    Option.casesOn (match Tr.get (AW.heap A) p with | some (.cells c elem fam sz) => c[0]? | x => none) (.fail 423) fun val => bif isI IntKind.u16 val then K [(4, .int .u16 (ofI val))] (.node (.node (.node .nil (some (.int .u16 (ofI val))) .nil) (some (.pointer (some ⟨p, 0, none⟩))) .nil) (some (.func (Fn.yield l) ⟨[]⟩ ⟨[]⟩)) .nil) [] A else F4 := by kernel_rfl
theorem ebB (r : Mem) (l : Nat) (t : Int) (A : AW) (fs : FnsC) (K : KS) (kx : Nat → KS) (kr : KS) : run (SC r) 11 16 1 Es_1 fs none K kx kr [] (tEb l t) [] A =
    bif t != Int.ofNat 0 then K [(6, .bool true), (5, .int .u16 t)] (.node (.node (.node .nil (some (.int .u16 t)) .nil) none .nil) (some (.func (Fn.yield l) ⟨[]⟩ ⟨[]⟩)) .nil) [] A else kx 0 [(6, .bool false), (5, .int .u16 t)] (.node (.node (.node .nil (some (.int .u16 t)) .nil) none .nil) (some (.func (Fn.yield l) ⟨[]⟩ ⟨[]⟩)) .nil) [] A := by kernel_rfl
theorem ebC (r : Mem) (l : Nat) (t : Int) (A : AW) (K : KS) : preK (SC r) 11 16 Es_2 3 (lvlT (SC r) tEs .nil 1 2) K [] (tEb l t) [] A =
    bif m_tvG t then K [(13, I (m_tv t)), (12, .int .u16 t), (11, .func (Fn.yield l) ⟨[]⟩ ⟨[]⟩)] (.node (.node (.node .nil (some (.int .u16 t)) .nil) none .nil) (some (.func (Fn.yield l) ⟨[]⟩ ⟨[]⟩)) .nil) [] A else F4 := by kernel_rfl
theorem ebD (r : Mem) (l : Nat) (t u : Int) (v : Bool) (A : AW) (fs : FnsC) (K : KS) (kx : Nat → KS) (kr : KS) : tailK (SC r) 11 16 Es_2 3 fs (run (SC r) 11 16 1 Es_3 fs none (run (SC r) 11 16 1 Es_4 fs none K kx kr) (fun j => match Nat.beq j 1 with | true => run (SC r) 11 16 1 Es_4 fs none K kx kr | false => kx j) kr) (.bool v) [(13, I u), (12, V t), (11, fY l)] (tEb l t) [] A =
    bif v then K [(10, .int .u16 (ibits BinOp.and IntKind.u16 t (IntKind.wrap .u16 (t - Int.ofNat 1)))), (9, .int .u16 (IntKind.wrap .u16 (t - Int.ofNat 1))), (8, .int .u16 t), (7, .int .u16 t)] (.node (.node (.node .nil (some (.int .u16 (ibits BinOp.and IntKind.u16 t (IntKind.wrap .u16 (t - Int.ofNat 1))))) .nil) none .nil) (some (.func (Fn.yield l) ⟨[]⟩ ⟨[]⟩)) .nil) [] A else kr [(15, .bool true), (14, .bool false), (13, I u), (12, .int .u16 t), (11, .func (Fn.yield l) ⟨[]⟩ ⟨[]⟩)] (.node (.node (.node .nil (some (.int .u16 t)) .nil) none .nil) (some (.func (Fn.yield l) ⟨[]⟩ ⟨[]⟩)) .nil) [] A := by kernel_rfl
end Go.Proofs
namespace Go.Proofs
open Go Go.Ev Go.Num
theorem skipTo {J : Nat → OO → Prop} {s : Nat} (hskip : ∀ v os, v < 16 → s.testBit v = false → J v os → J (v + 1) os) {os : OO} : ∀ d v, J v os → (∀ i, v ≤ i → i < v + d → s.testBit i = false) → v + d ≤ 16 → J (v + d) os
 | 0, v, h, _, _ => h
 | d + 1, v, h, hb, hd => by
  rw [show v + (d + 1) = v + 1 + d by omega]
  exact skipTo hskip d (v + 1) (hskip v os (by omega) (hb v (Nat.le_refl _) (by omega)) h) (fun i h1 h2 => hb i (by omega) (by omega)) (by omega)
theorem each_iter (r : Mem) (hm : ∀ b j u, tabM b j = some u → r b j = some u) {l p : Nat} {fl : List Fl} {s : Nat} (hs : s < 65536) {J : Nat → OO → Prop} {E : OO → Prop} {os0 : OO}
  (hbox : ∃ e f z, (mkA os0).heap.get p = some (.cells [V (s : Nat)] e f z))
  (hskip : ∀ v os, v < 16 → s.testBit v = false → J v os → J (v + 1) os)
  (hY : ∀ v os, v < 16 → s.testBit v = true → J v os → YOk (SC r) l [I (v : Nat)] (mkA os) fun w A' => ∃ os', Cn (mkA os0).next fl A' os' ∧ ((w = .bool true ∧ J (v + 1) os') ∨ (w = .bool false ∧ E os')))
  (hE : ∀ os, J 16 os → E os) (h0 : J 0 os0) (hl : oldV (mkA os0) (fY l) = true) :
  SOk (SC r) 55 [fY l, pq p] (mkA os0) fun v A' => ∃ os, A' = mkA os ∧ E os := by
 obtain ⟨be, bf, bz, hbox⟩ := hbox
 refine callG (SC_ok r) (by kernel_rfl) ((bodySC r _).trans Es_eq) (nt := 16) (by kernel_rfl) (rs := []) (by kernel_rfl) 11 rfl fun γ W F k hw hF hro hfr => ?_
 have ht := TOk.nil (C := SC r)
 have hte := tEs_ok r hm
 have old : ∀ t : Nat, ∀ v, some v ∈ [some (fY l), some (V (t : Nat))] → oldV (mkA os0) v = true := fun t v hv => by
  simp only [List.mem_cons, Option.some.injEq, List.not_mem_nil, or_false] at hv
  rcases hv with rfl | rfl
  ·exact hl
  ·rfl
 refine Go.Ev.Reach.seq (Go.Ev.Reach.mono (Go.Ev.Reach.segP (kn := asks fun st => ∃ sx T, st = ⟨⟨sx, T⟩, [], mkA os0⟩ ∧ lvEs.map T.get = [some (fY l), some (V (s : Nat))]) (kx := fun _ _ _ _ _ => .fail 0) (kr := fun _ _ _ _ => .fail 0) (SC_ok r) ht (tm := .nil) (L := 1) (L' := 1) (d := 1) hF hro ?_) fun ex st hq => ?_)
 ·have hn := ebA r l p (mkA os0)
  simp only [hbox, List.getElem?_cons_zero, show isI IntKind.u16 (V (s : Nat)) = true from rfl, show ofI (V (s : Nat)) = ((s : Nat) : Int) from rfl, cond_true] at hn
  exact (hn _ _ _ _).trans (qq_ok ⟨_, _, rfl, rfl⟩)
 ·cases ex with
  | normal =>
   obtain ⟨sx0, T0, e, hT⟩ : ∃ sx T, st = ⟨⟨sx, T⟩, [], mkA os0⟩ ∧ lvEs.map T.get = [some (fY l), some (V (s : Nat))] := qq_use hq
   subst e
   refine Go.Ev.Reach.block (Go.Ev.Reach.loop (I := fun j st => ∃ v os, j = 16 - v ∧ v ≤ 16 ∧ J v os ∧ Ren (SC r) 11 16 γ W st ⟨⟨[], tEb l (hiN s v : Nat)⟩, [], mkA os⟩) (fun j st ⟨v, os, hj, hv, hJ, hren⟩ => Go.Ev.Reach.pre hren ?_) (j := 16) ⟨0, os0, rfl, by decide, h0, by
    rw [hi_zero]
    exact Ren.world hw (lv := lvEs) (vs := [some (fY l), some (V (s : Nat))]) hT (old _) (RenA.refl _)⟩)
   have hhi : hiN s v < 65536 := Nat.lt_of_le_of_lt (hi_le s v) hs
   refine Go.Ev.Reach.seq (Go.Ev.Reach.mono (Go.Ev.Reach.segP (kn := asks fun st => hiN s v ≠ 0 ∧ ∃ sx, st = ⟨⟨sx, tEb l (hiN s v : Nat)⟩, [], mkA os⟩) (kx := fun i => match i with | 0 => asks fun st => hiN s v = 0 ∧ ∃ sx T, st = ⟨⟨sx, T⟩, [], mkA os⟩ | _ => fun _ _ _ _ => .fail 0) (kr := fun _ _ _ _ => .fail 0) (SC_ok r) ht (tm := .nil) (L := 1) (L' := 1) (d := 1) hF hro ?_) fun ex st hq => ?_)
   ·have hn := ebB r l (hiN s v : Nat) (mkA os)
    by_cases c : hiN s v = 0
    ·have ne : (((hiN s v : Nat) : Int) != Int.ofNat 0) = false := by simp [c]
     simp only [ne, cond_false] at hn
     exact (hn _ _ _ _).trans (qq_ok ⟨c, _, _, rfl⟩)
    ·have ne : (((hiN s v : Nat) : Int) != Int.ofNat 0) = true := by simp [c]
     simp only [ne, cond_true] at hn
     exact (hn _ _ _ _).trans (qq_ok ⟨c, _, rfl⟩)
   ·cases ex with
    | exit i =>
     cases i with
     | zero =>
      obtain ⟨c, sx, T, e⟩ : hiN s v = 0 ∧ ∃ sx T, st = ⟨⟨sx, T⟩, [], mkA os⟩ := qq_use hq
      subst e
      have hE' : E os := hE os (by
       have := skipTo hskip (16 - v) v hJ (fun i h1 _ => hi_none c h1) (by omega)
       rwa [show v + (16 - v) = 16 by omega] at this)
      exact ⟨.inl rfl, _, .tuple ⟨[]⟩, mkA os, Ren.world hw (lv := []) (vs := []) rfl (fun v hv => nomatch hv) (RenA.refl _), rfl, os, rfl, hE'⟩
     | succ i => cases hq
    | normal =>
     obtain ⟨c, sx, e⟩ : hiN s v ≠ 0 ∧ ∃ sx, st = ⟨⟨sx, tEb l (hiN s v : Nat)⟩, [], mkA os⟩ := qq_use hq
     subst e
     obtain ⟨n1, n2, n3, n4, n5⟩ := hi_next (b := 16) (s := s) (v := v) (by omega) c
     have ht16 := (tz_bit 16 _ (show hiN s v < 2 ^ 16 from hhi) c).1
     have e6 : m_tv ((hiN s v : Nat) : Int) = ((tzN 16 (hiN s v) : Nat) : Int) := by unfold m_tv; rw [Int.toNat_natCast]
     have hJt : J (tzN 16 (hiN s v)) os := by
      have := skipTo hskip (tzN 16 (hiN s v) - v) v hJ (fun i h1 h2 => n4 i h1 (by omega)) (by omega)
      rwa [show v + (tzN 16 (hiN s v) - v) = tzN 16 (hiN s v) by omega] at this
     have e7 : ibits .and .u16 ((hiN s v : Nat) : Int) (IntKind.wrap .u16 (((hiN s v : Nat) : Int) - Int.ofNat 1)) = ((hiN s (tzN 16 (hiN s v) + 1) : Nat) : Int) := by
      have : IntKind.wrap .u16 (((hiN s v : Nat) : Int) - Int.ofNat 1) = ((hiN s v - 1 : Nat) : Int) := by rw [wrV]; simp; omega
      rw [this, (uV (by omega) (by omega)).2.1, n5]
     generalize htz : tzN 16 (hiN s v) = t at *
     let Pn : St → Prop := fun st => ∃ sx A', st = ⟨⟨sx, tEb l (hiN s (t + 1) : Nat)⟩, [], A'⟩ ∧ ∃ os', Cn (mkA os0).next fl A' os' ∧ J (t + 1) os'
     let Pr : St → Prop := fun st => ∃ sx T A', st = ⟨⟨sx, T⟩, [], A'⟩ ∧ ∃ os', Cn (mkA os0).next fl A' os' ∧ E os'
     refine Go.Ev.Reach.mono (Go.Ev.Reach.first (kn := asks Pn) (kx := fun _ _ _ _ _ => .fail 0) (kr := asks Pr) (SC_ok r) hte (tm := .nil) (L := 1) (L' := 1) (d := 2) hF hro (.seq (.block (.seq .here))) (Go.Ev.Reach.yieldK (SC_ok r) hF hte (tm := .nil) (L := 1) (d := 2) 3 (s1 := [(13, I (t : Nat)), (12, V (hiN s v : Nat)), (11, fY l)]) (b1 := tEb l (hiN s v : Nat)) (ms1 := []) (A1 := mkA os) (A2 := mkA os) (i := l) (args := [I (t : Nat)]) ?_ (by kernel_rfl) (hY t os ht16 n3 hJt) fun w A' hS => ?_)) fun ex st' hq => ?_
     ·have hn := ebC r l (hiN s v : Nat) (mkA os)
      have c2 : m_tvG ((hiN s v : Nat) : Int) = true := decide_eq_true ⟨by omega, by omega⟩
      simp only [c2, cond_true, e6] at hn
      exact (hn _).trans (qn_ok rfl)
     ·obtain ⟨os', hcn, hv⟩ := hS
      rcases hv with ⟨rfl, hJ'⟩ | ⟨rfl, hE'⟩
      ·have hn := ebD r l (hiN s v : Nat) (t : Nat) true A'
       simp only [cond_true, e7] at hn
       exact (hn _ _ _ _).trans (qq_ok ⟨_, _, rfl, os', hcn, hJ'⟩)
      ·have hn := ebD r l (hiN s v : Nat) (t : Nat) false A'
       simp only [cond_false] at hn
       exact (hn _ _ _ _).trans (qq_ok ⟨_, _, _, rfl, os', hcn, hE'⟩)
     ·cases ex with
      | normal =>
       obtain ⟨sx, A', e, os', hcn, hJ'⟩ : Pn st' := qq_use hq
       subst e
       exact ⟨16 - (t + 1), by omega, t + 1, os', rfl, by omega, hJ', Ren.world hw (lv := lvEs) (vs := [some (fY l), some (V (hiN s (t + 1) : Nat))]) rfl (old _) (hcn.ren hfr)⟩
      | ret =>
       obtain ⟨sx, T, A', e, os', hcn, hE'⟩ : Pr st' := qq_use hq
       subst e
       exact ⟨.inr rfl, _, .tuple ⟨[]⟩, mkA os', Ren.world hw (lv := []) (vs := []) rfl (fun v hv => nomatch hv) (hcn.ren hfr), rfl, os', rfl, hE'⟩
      | exit i => cases hq
      | _ => exact hq.elim
    | ret => cases hq
    | _ => exact hq.elim
  | exit i => cases hq
  | ret => cases hq
  | _ => exact hq.elim
end Go.Proofs
namespace Go.Proofs
open Go Go.Ev Go.Num
def rgA : Code → Code
 | .rangeFunc _ _ a _ => a
 | c => c
def rgB : Code → Code
 | .rangeFunc _ _ _ b => b
 | c => c
noncomputable def cOIo : Code := bodyOf S0 43
noncomputable def OIo_0 : Code := (lc cOIo)
noncomputable def OIo_1 : Code := (lc (lc (rc cOIo)))
noncomputable def OIo_2 : Code := (lc (ic (ic (rc (lc (rc cOIo))))))
noncomputable def OIo_3 : Code := (lc (rc (ic (ic (rc (lc (rc cOIo)))))))
noncomputable def OIo_4 : Code := (lc (ic (lc (rc (rc (ic (ic (rc (lc (rc cOIo))))))))))
noncomputable def OIo_5 : Code := (lc (rc (ic (lc (rc (rc (ic (ic (rc (lc (rc cOIo)))))))))))
noncomputable def OIo_6 : Code := (lc (rc (rc (ic (lc (rc (rc (ic (ic (rc (lc (rc cOIo))))))))))))
noncomputable def OIo_7 : Code := (ic (rc (rc (rc (ic (lc (rc (rc (ic (ic (rc (lc (rc cOIo)))))))))))))
noncomputable def OIo_8 : Code := (rc (rc (rc (ic (ic (rc (lc (rc cOIo))))))))
noncomputable def OIo_9 : Code := (rc (rc cOIo))
noncomputable def k_o1 : Code := rgA OIo_7
noncomputable def k_o2 : Code := rgB OIo_7
noncomputable def OIo_b : Code := ic k_o2
theorem OIo_eq : cOIo = (.seq OIo_0 (.seq (.seq OIo_1 (.block 0 (.loop (.seq OIo_2 (.seq OIo_3 (.seq (.block 1 (.seq OIo_4 (.seq OIo_5 (.seq OIo_6 (.block 2 (.rangeFunc (.tmp 20) #[21] k_o1 k_o2)))))) OIo_8)))))) OIo_9)) := by kernel_rfl
theorem Ob_eq : k_o2 = .block 3 OIo_b := by kernel_rfl
abbrev fEo (p : Nat) : Value := .func (.func 55) ⟨[]⟩ ⟨[.pointer (some ⟨p, 0, none⟩)]⟩
def oSt (w : Nat) (i : Nat) : Option AObj := some (.cells [V ((w : Nat) : Int)] 53 i 0)
def oBl (b : Bool) (i : Nat) : Option AObj := some (.cells [.bool b] 4 i 0)
def oNt (k : Nat) (i : Nat) : Option AObj := some (.cells [I ((k : Nat) : Int)] 3 i 0)
def lvI : List Nat := [1, 2, 6, 7]
def lvIq : List Nat := [1, 2, 6, 7, 3, 20]
def lvIb : List Nat := [1, 2, 3, 4]
def vI (n y : Nat) : OV := [some (pq 0), some (pq 1), some (I (n : Nat)), some (I (y : Nat))]
def vIq (n y : Nat) : OV := vI n y ++ [some (pq 2), some (fEo 3)]
noncomputable def lpI (n y : Nat) (st : LoopState) (pd : Option Code) : AObj := .loop st pd 3145983 ⟨[], bT lvIq (vIq n y) .nil⟩ 33 #[21] k_o1 k_o2 4
def oI2 (c : List Value) : OO := [oOr c 0, oBl false 1]
def oI4 (c : List Value) (y a : Nat) : OO := oI2 c ++ [oNt y 2, oSt a 3]
noncomputable def oI6 (c : List Value) (n y a : Nat) (st : LoopState) (pd : Option Code) : OO := oI4 c y a ++ [some .defd, some (lpI n y st pd)]
def flI4 : List Fl := [.g, .t, .t, .t]
def flI6 : List Fl := flI4 ++ [.t, .l lvIq]
theorem ioA (r : Mem) (c : List Value) (fs : FnsC) (K : KO) (kx : Nat → KS) (kr : KS) : run (SC r) 3145983 33 1 (.seq OIo_0 OIo_1) fs none (rbK 0 lvI [] K) kx kr (sc0 3145983 [.agg ⟨c⟩]) (tr0 3145983 [.agg ⟨c⟩]) [] emptyA =
    Option.casesOn c[0]? (.fail 423) fun val => bif isI IntKind.i64 val then bif m_nns c && true then K [some (.pointer (some ⟨0, 0, none⟩)), some (.pointer (some ⟨1, 0, none⟩)), some (I (ofI val)), some (I (Int.ofNat 0))] [] [some (.cells c 56 0 0), some (.cells [.bool false] 4 1 0)] else F4 else F4 := by kernel_rfl
theorem ioB (r : Mem) (c : List Value) (n y : Nat) (fs : FnsC) (K : KO) (KX : Nat → KO) (kr : KS) : run (SC r) 3145983 33 1 (.seq OIo_2 OIo_3) fs none (rbK 0 lvI [] K) (fun j => rbK 0 [2] [] (KX j)) kr [] (bT lvI (vI n y) .nil) [] (mkA (oI2 c)) =
    bif decide (Int.ofNat y < Int.ofNat n) then bif m_nns c && true then K [some (.pointer (some ⟨0, 0, none⟩)), some (.pointer (some ⟨1, 0, none⟩)), some (I (Int.ofNat n)), some (I (Int.ofNat y))] [] [some (.cells c 56 0 0), some (.cells [.bool false] 4 1 0)] else F4 else KX 0 [some (.pointer (some ⟨0, 0, none⟩))] [] [some (.cells [.bool false] 4 0 0)] := by kernel_rfl
theorem ioC (r : Mem) (c : List Value) (n y : Nat) (K : KO) (kx : Nat → KS) (KR : KO) : run (SC r) 3145983 33 1 (.seq OIo_4 (.seq OIo_5 OIo_6)) (lvlT (SC r) (fun _ => none) .nil 1 3) none (rbK 0 lvIq flI4 K) kx (rbK 0 [2] [] KR) [] (bT lvI (vI n y) .nil) [] (mkA (oI2 c)) =
    bif Nat.blt (Int.toNat (Int.ofNat y)) 12 then Option.casesOn c[Nat.add 1 (Nat.mul (Int.toNat (Int.ofNat y)) 1)]? (.fail 423) fun val => bif isI IntKind.u16 val then bif ibits BinOp.and IntKind.u16 (Int.fdiv (ofI val) (Int.ofNat 2 ^ min (Int.toNat (Int.ofNat y)) 16)) (Int.ofNat 1) == Int.ofNat 1 then bif m_eqv (I (Int.ofNat y)) (I (Int.ofNat y)) then Option.casesOn c[Nat.add 1 (Nat.mul (Int.toNat (Int.ofNat y)) 1)]? (.fail 423) fun val_1 => bif isI IntKind.u16 val_1 then bif m_eqv (.int .u16 (ofI val_1)) (.int .u16 (ofI val)) then bif m_eqv (I (Int.ofNat y)) (I (Int.ofNat y)) then KR [some (.pointer (some ⟨0, 0, none⟩))] [] [some (.cells [.bool false] 4 0 0)] else F4 else F4 else F4 else F4 else bif m_eqv (I (Int.ofNat y)) (I (Int.ofNat y)) then Option.casesOn c[Nat.add 1 (Nat.mul (Int.toNat (Int.ofNat y)) 1)]? (.fail 423) fun val_1 => bif isI IntKind.u16 val_1 then bif m_eqv (.int .u16 (ofI val_1)) (.int .u16 (ofI val)) then bif m_eqv (I (Int.ofNat y)) (I (Int.ofNat y)) then bif Nat.blt (Int.toNat (Int.ofNat y)) 12 then Option.casesOn c[Nat.add 1 (Nat.mul (Int.toNat (Int.ofNat y)) 1)]? (.fail 423) fun val => bif isI IntKind.u16 val then bif m_nns c && (true && (true && (true && true))) then K [some (.pointer (some ⟨0, 0, none⟩)), some (.pointer (some ⟨1, 0, none⟩)), some (I (Int.ofNat n)), some (I (Int.ofNat y)), some (.pointer (some ⟨2, 0, none⟩)), some (.func (Fn.func 55) ⟨[]⟩ ⟨[.pointer (some ⟨3, 0, none⟩)]⟩)] [] [some (.cells c 56 0 0), some (.cells [.bool false] 4 1 0), some (.cells [I (Int.ofNat y)] 3 2 0), some (.cells [.int .u16 (ofI val)] 53 3 0)] else F4 else F4 else F4 else F4 else F4 else F4 else F4 else F4 else F4 := by kernel_rfl
theorem ioD (r : Mem) (c : List Value) (n y a v : Nat) (fs : FnsC) (K : KO) (kx : Nat → KS) (kr : KS) : run (SC r) 3145983 33 1 k_o1 fs (some 5) (begK 5 (rbK 6 lvIb flI6 K)) kx kr [] (bT (lvIq ++ [21]) (vIq n y ++ [some (I (v : Nat))]) .nil) [] (mkA (oI6 c n y a .ready none)) =
    bif m_nns c && (true && (true && (true && (true && (true && true))))) then K [some (.pointer (some ⟨0, 0, none⟩)), some (.pointer (some ⟨1, 0, none⟩)), some (.pointer (some ⟨2, 0, none⟩)), some (I (Int.ofNat v))] [] [some (.cells c 56 0 0), some (.cells [.bool false] 4 1 0), some (.cells [I (Int.ofNat y)] 3 2 0), some (.cells [.int .u16 (Int.ofNat a)] 53 3 0), some .defd, some ((lpI n y LoopState.busy none))] else F4 := by kernel_rfl
theorem ioE (r : Mem) (c : List Value) (n y a v : Nat) (K : KO) (kx : Nat → KS) (KR : KO) : run (SC r) 3145983 33 1 OIo_b (lvlT (SC r) (fun _ => none) .nil 1 3) (some 5) (rbK 6 [] flI6 K) kx (rbK 6 [] flI6 KR) [] (bT lvIb [some (pq 0), some (pq 1), some (pq 2), some (I (v : Nat))] .nil) [] (mkA (oI6 c n y a .busy none)) =
    bif Nat.blt (Int.toNat (Int.ofNat v)) 12 then Option.casesOn c[Nat.add 1 (Nat.mul (Int.toNat (Int.ofNat v)) 1)]? (.fail 423) fun val => bif isI IntKind.u16 val then bif Nat.blt (Int.toNat (Int.ofNat y)) 12 then Option.casesOn c[Nat.add 1 (Nat.mul (Int.toNat (Int.ofNat y)) 1)]? (.fail 423) fun val_1 => bif isI IntKind.u16 val_1 then bif ibits BinOp.andNot IntKind.u16 (ofI val) (ofI val_1) == Int.ofNat 0 then Option.casesOn c[Nat.add 1 (Nat.mul (Int.toNat (Int.ofNat y)) 1)]? (.fail 423) fun val_2 => bif isI IntKind.u16 val_2 then bif m_eqv (.int .u16 (ofI val_2)) (.int .u16 (ofI val_1)) then bif m_eqv (I (Int.ofNat y)) (I (Int.ofNat y)) then Option.casesOn c[Nat.add 1 (Nat.mul (Int.toNat (Int.ofNat v)) 1)]? (.fail 423) fun val_3 => bif isI IntKind.u16 val_3 then bif m_eqv (.int .u16 (ofI val_3)) (.int .u16 (ofI val)) then bif m_nns c && (true && (true && (true && (true && (true && true))))) then K [] [] [some (.cells c 56 0 0), some (.cells [.bool false] 4 1 0), some (.cells [I (Int.ofNat y)] 3 2 0), some (.cells [.int .u16 (Int.ofNat a)] 53 3 0), some .defd, some ((lpI n y LoopState.busy none))] else F4 else F4 else F4 else F4 else F4 else F4 else Option.casesOn c[Nat.add 1 (Nat.mul (Int.toNat (Int.ofNat y)) 1)]? (.fail 423) fun val_2 => bif isI IntKind.u16 val_2 then bif m_eqv (.int .u16 (ofI val_2)) (.int .u16 (ofI val_1)) then bif m_eqv (I (Int.ofNat y)) (I (Int.ofNat y)) then Option.casesOn c[Nat.add 1 (Nat.mul (Int.toNat (Int.ofNat v)) 1)]? (.fail 423) fun val_3 => bif isI IntKind.u16 val_3 then bif m_eqv (.int .u16 (ofI val_3)) (.int .u16 (ofI val)) then bif m_nns c && (true && (true && (true && (true && (true && true))))) then KR [] [] [some (.cells c 56 0 0), some (.cells [.bool false] 4 1 0), some (.cells [I (Int.ofNat y)] 3 2 0), some (.cells [.int .u16 (Int.ofNat a)] 53 3 0), some .defd, some ((lpI n y LoopState.busy none))] else F4 else F4 else F4 else F4 else F4 else F4 else F4 else F4 else F4 else F4 := by kernel_rfl
theorem ioT (r : Mem) (c : List Value) (n y a : Nat) (K : KO) (kx : Nat → KS) (kr : KS) : tailRK 5 ⟨[], bT lvIq (vIq n y) .nil⟩ [4] (rbK 0 lvI [] K) kx kr (mkA (oI6 c n y a .ready none)) =
    bif m_nns c && true then K [some (.pointer (some ⟨0, 0, none⟩)), some (.pointer (some ⟨1, 0, none⟩)), some (I (Int.ofNat n)), some (I (Int.ofNat y))] [] [some (.cells c 56 0 0), some (.cells [.bool false] 4 1 0)] else F4 := by kernel_rfl
theorem ioU (r : Mem) (c : List Value) (n y a : Nat) (kn : KS) (kx : Nat → KS) (KR : KO) : tailRK 5 ⟨[], bT lvIq (vIq n y) .nil⟩ [4] kn kx (rbK 0 [2] [] KR) (mkA (oI6 c n y a .done (some .ret))) =
    KR [some (.pointer (some ⟨0, 0, none⟩))] [] [some (.cells [.bool false] 4 0 0)] := by kernel_rfl
theorem ioG (r : Mem) (c : List Value) (n y : Nat) (fs : FnsC) (K : KO) (kx : Nat → KS) (kr : KS) : run (SC r) 3145983 33 1 OIo_8 fs none (rbK 0 lvI [] K) kx kr [] (bT lvI (vI n y) .nil) [] (mkA (oI2 c)) =
    bif m_nns c && true then K [some (.pointer (some ⟨0, 0, none⟩)), some (.pointer (some ⟨1, 0, none⟩)), some (I (Int.ofNat n)), some (I (IntKind.wrap .i64 (Int.ofNat y + Int.ofNat 1)))] [] [some (.cells c 56 0 0), some (.cells [.bool false] 4 1 0)] else F4 := by kernel_rfl
theorem ioH (r : Mem) (fs : FnsC) (K KR : KO) (kx : Nat → KS) : run (SC r) 3145983 33 1 OIo_9 fs none (rbK 0 [2] [] K) kx (rbK 0 [2] [] KR) [] (bT [2] [some (pq 0)] .nil) [] (mkA [oBl false 0]) =
    KR [some (.pointer (some ⟨0, 0, none⟩))] [] [some (.cells [.bool true] 4 0 0)] := by kernel_rfl
end Go.Proofs
namespace Go.Num
def ioX (w : Nat → Nat) (y : Nat) : Nat → Bool
 | 0 => true
 | v + 1 => ioX w y v && (!(w y).testBit v || anN (w v) (w y) == 0)
def ioY (w : Nat → Nat) : Nat → Bool
 | 0 => true
 | y + 1 => ioY w y && (!(w y).testBit y && ioX w y 16)
theorem ioX_no {w : Nat → Nat} {y v : Nat} (h : ioX w y v = false) : ∀ d, ioX w y (v + d) = false
 | 0 => h
 | d + 1 => by rw [show v + (d + 1) = (v + d) + 1 by omega, ioX, ioX_no h d, Bool.false_and]
theorem ioY_no {w : Nat → Nat} {v : Nat} (h : ioY w v = false) : ∀ d, ioY w (v + d) = false
 | 0 => h
 | d + 1 => by rw [show v + (d + 1) = (v + d) + 1 by omega, ioY, ioY_no h d, Bool.false_and]
end Go.Num
namespace Go.Proofs
open Go Go.Ev Go.Num
theorem shrV (x k : Nat) (hk : k ≤ 16) : Int.fdiv ((x : Nat) : Int) (Int.ofNat 2 ^ min k 16) = ((x / 2 ^ k : Nat) : Int) := by
 rw [Nat.min_eq_left hk, Int.fdiv_eq_ediv_of_nonneg _ (by exact Int.pow_nonneg (by decide)), show (Int.ofNat 2 ^ k : Int) = ((2 ^ k : Nat) : Int) by simp]
 exact (Int.natCast_ediv x (2 ^ k)).symm
theorem has_v {w k : Nat} (hw : w < 65536) (hk : k ≤ 16) : (ibits BinOp.and IntKind.u16 (Int.fdiv ((w : Nat) : Int) (Int.ofNat 2 ^ min k 16)) (Int.ofNat 1) == Int.ofNat 1) = w.testBit k := by
 rw [shrV w k hk]
 have h1 : w / 2 ^ k < 65536 := Nat.lt_of_le_of_lt (Nat.div_le_self _ _) hw
 have h2 := (uV h1 (show 1 < 65536 by decide)).2.1
 rw [show (Int.ofNat 1 : Int) = ((1 : Nat) : Int) from rfl, h2, Nat.and_one_is_mod, Nat.testBit_eq_decide_div_mod_eq]
 by_cases c : w / 2 ^ k % 2 = 1
 ·rw [c]; rfl
 ·rw [show w / 2 ^ k % 2 = 0 by omega]; rfl
theorem eqv_i (a : Int) : m_eqv (I a) (I a) = true := by simp [m_eqv, veq]
theorem z_eq (x : Nat) : (((x : Nat) : Int) == Int.ofNat 0) = (x == 0) := by rw [Bool.eq_iff_iff]; simp
section
variable {n : Nat} {w a : Nat → Nat}
noncomputable def oO6 (n : Nat) (w a : Nat → Nat) (y : Nat) (st : LoopState) (pd : Option Code) : OO := oI6 (orC n w a) n y (w y) st pd
theorem gdO (n : Nat) (w a : Nat → Nat) (y : Nat) (st : LoopState) (pd : Option Code) : gdAs flI6 (oO6 n w a y st pd) = true := by
 have h : gdAs flI6 (oO6 n w a y st pd) = (m_nns (orC n w a) && (true && (true && (true && (true && true))))) := by kernel_rfl
 simp only [h, orC_nn, Bool.and_self]
theorem cnO (n : Nat) (w a : Nat → Nat) (y : Nat) : Cn 6 flI6 (mkA (oO6 n w a y .ready none)) (oO6 n w a y .ready none) := ⟨by kernel_rfl, gdO n w a y _ _⟩
theorem cnOr (n : Nat) (w a : Nat → Nat) (y : Nat) : Cn 6 flI6 (mkA (oO6 n w a y .done (some .ret))) (oO6 n w a y .done (some .ret)) := ⟨by kernel_rfl, gdO n w a y _ _⟩
theorem endO (n : Nat) (w a : Nat → Nat) (y : Nat) : endR 5 none (St.of [] [] [] (oO6 n w a y .busy none)) = .ret (.bool true) (mkA (oO6 n w a y .ready none)) := by kernel_rfl
theorem endOr (n : Nat) (w a : Nat → Nat) (y : Nat) : endR 5 (some .ret) (St.of [] [] [] (oO6 n w a y .busy none)) = .ret (.bool false) (mkA (oO6 n w a y .done (some .ret))) := by kernel_rfl
theorem yO {r : Mem} (hw : ∀ j, w j < 4096) {y v : Nat} (hy : y < 12) (hv : v < 12) {P E : OO → Prop} (hP : (anN (w v) (w y) == 0) = true → P (oO6 n w a y .ready none)) (hE : (anN (w v) (w y) == 0) = false → E (oO6 n w a y .done (some .ret))) :
  YOk (SC r) 5 [I (v : Nat)] (mkA (oO6 n w a y .ready none)) fun x A' => ∃ os', Cn 6 flI6 A' os' ∧ ((x = .bool true ∧ P os') ∨ (x = .bool false ∧ E os')) := by
 have hnx : (mkA (oO6 n w a y .ready none)).next = 6 := by kernel_rfl
 have hwv := hw v
 have hwy := hw y
 refine YOk.of (SC_ok r) (i := 5) (st := .ready) (pend := none) (m := 3145983) (n := 33) (en := ⟨[], bT lvIq (vIq n y) .nil⟩) (params := #[21]) (assign := k_o1) (body := k_o2) (d := 4) (by kernel_rfl) (s0 := []) (b0 := bT (lvIq ++ [21]) (vIq n y ++ [some (I (v : Nat))]) .nil) (by kernel_rfl) TOk.nil (tm := .nil) (L := 1) (L' := 1) (d' := 3)
  ⟨lvIb, flI6, fun vs ms os => vs = [some (pq 0), some (pq 1), some (pq 2), some (I (v : Nat))] ∧ ms = [] ∧ os = oO6 n w a y .busy none⟩
  ⟨[], flI6, fun vs ms os => (anN (w v) (w y) == 0) = true ∧ vs = [] ∧ ms = [] ∧ os = oO6 n w a y .busy none⟩
  (fun _ => Outs.no) ⟨[], flI6, fun vs ms os => (anN (w v) (w y) == 0) = false ∧ vs = [] ∧ ms = [] ∧ os = oO6 n w a y .busy none⟩ ?_ ?_ ?_ ?_ ?_
 ·rw [hnx]
  have hn' := ioD r (orC n w a) n y (w y) v
  simp only [orC_nn, Bool.and_self, Bool.and_true, cond_true] at hn'
  exact (hn' _ _ _ _).trans (qq_ok ⟨rfl, rfl, rfl⟩)
 ·rintro F k γ W hF hro h0 vs ms os ⟨rfl, rfl, rfl⟩
  rw [hnx] at h0
  rw [Ob_eq]
  refine Go.Ev.Reach.blockC (Go.Ev.Reach.segR (SC_ok r) TOk.nil (tm := .nil) (L := 1) (L' := 1) (d := 3) hF hro h0 [] (fun p hp => nomatch hp) ?_)
  have hn' := ioE r (orC n w a) n y (w y) v
  have gv : (orC n w a)[Nat.add 1 (Nat.mul v 1)]? = some (V ((w v : Nat) : Int)) := by
   rw [show Nat.add 1 (Nat.mul v 1) = 1 + v by simp]; exact orC_w hv
  have gy : (orC n w a)[Nat.add 1 (Nat.mul y 1)]? = some (V ((w y : Nat) : Int)) := by
   rw [show Nat.add 1 (Nat.mul y 1) = 1 + y by simp]; exact orC_w hy
  have e2 : ibits .andNot .u16 ((w v : Nat) : Int) ((w y : Nat) : Int) = ((anN (w v) (w y) : Nat) : Int) := (uV (by omega) (by omega)).2.2
  have b1 : Nat.blt v 12 = true := Nat.ble_eq_true_of_le (by omega)
  have b2 : Nat.blt y 12 = true := Nat.ble_eq_true_of_le (by omega)
  simp only [tnO, b1, b2, cond_true, gv, gy, isV_V] at hn'
  dsimp +instances only [ofI_V] at hn'
  simp only [eqv_v, eqv_i, cond_true, e2, z_eq, orC_nn, Bool.and_self, Bool.and_true] at hn'
  cases q : (anN (w v) (w y) == 0) with
  | true =>
   simp only [q, cond_true] at hn'
   exact (hn' _ _ _).trans (qq_ok ⟨rfl, rfl, rfl, rfl⟩)
  | false =>
   simp only [q, cond_false] at hn'
   exact (hn' _ _ _).trans (qq_ok ⟨rfl, rfl, rfl, rfl⟩)
 ·rintro vs ms os ⟨h, rfl, rfl, rfl⟩
  exact ⟨_, _, endO _ _ _ _, _, cnO _ _ _ _, .inl ⟨rfl, hP h⟩⟩
 ·rintro id vs ms os hf
  exact hf.elim
 ·rintro vs ms os ⟨h, rfl, rfl, rfl⟩
  exact ⟨_, _, endOr _ _ _ _, _, cnOr _ _ _ _, .inr ⟨rfl, hE h⟩⟩
end
end Go.Proofs
namespace Go.Proofs
open Go Go.Ev Go.Num
noncomputable def cOCk : Code := bodyOf S0 28
noncomputable def OCk_0 : Code := (lc cOCk)
noncomputable def OCk_1 : Code := (lc (rc cOCk))
noncomputable def OCk_2 : Code := (lc (rc (rc cOCk)))
noncomputable def OCk_3 : Code := (lc (lc (rc (rc (rc cOCk)))))
noncomputable def OCk_4 : Code := (ic (ic (rc (lc (rc (rc (rc cOCk)))))))
noncomputable def OCk_5 : Code := (lc (lc (rc (rc (rc (rc cOCk))))))
noncomputable def OCk_6 : Code := (lc (ic (ic (rc (lc (rc (rc (rc (rc cOCk)))))))))
noncomputable def OCk_7 : Code := (lc (ic (lc (rc (ic (ic (rc (lc (rc (rc (rc (rc cOCk))))))))))))
noncomputable def OCk_8 : Code := (lc (ic (ic (rc (ic (lc (rc (ic (ic (rc (lc (rc (rc (rc (rc cOCk)))))))))))))))
noncomputable def OCk_9 : Code := (lc (ic (lc (rc (ic (ic (rc (ic (lc (rc (ic (ic (rc (lc (rc (rc (rc (rc cOCk))))))))))))))))))
noncomputable def OCk_10 : Code := (ic (ic (rc (ic (lc (rc (ic (ic (rc (ic (lc (rc (ic (ic (rc (lc (rc (rc (rc (rc cOCk))))))))))))))))))))
noncomputable def OCk_11 : Code := (rc (rc (ic (ic (rc (ic (lc (rc (ic (ic (rc (lc (rc (rc (rc (rc cOCk))))))))))))))))
noncomputable def OCk_12 : Code := (rc (rc (ic (ic (rc (lc (rc (rc (rc (rc cOCk))))))))))
noncomputable def OCk_13 : Code := (rc (rc (rc (rc (rc cOCk)))))
theorem OCk_eq : cOCk = (.seq OCk_0 (.seq OCk_1 (.seq OCk_2 (.seq (.seq OCk_3 (.block 0 (.loop OCk_4))) (.seq (.seq OCk_5 (.block 2 (.loop (.seq OCk_6 (.seq (.block 3 (.seq OCk_7 (.block 4 (.loop (.seq OCk_8 (.seq (.block 5 (.seq OCk_9 (.block 6 (.loop OCk_10)))) OCk_11)))))) OCk_12))))) OCk_13))))) := by kernel_rfl
def vO3 (b off n cap k : Nat) : OV := [some (RS b off n cap), some (I (n : Nat)), some (I (k : Nat))]
def vO4 (b off n cap i k : Nat) : OV := [some (RS b off n cap), some (I (n : Nat)), some (I (i : Nat)), some (I (k : Nat))]
def vO5 (b off n cap i k m : Nat) : OV := [some (RS b off n cap), some (I (n : Nat)), some (I (i : Nat)), some (I (k : Nat)), some (I (m : Nat))]
theorem cgA (r : Mem) (b off n cap : Nat) (fs : FnsC) (K : KO) (kx : Nat → KS) (KR : KO) : run (SC r) 253 78 1 (.seq OCk_0 (.seq OCk_1 (.seq OCk_2 OCk_3))) fs none (rbK 0 [0, 3, 4] [] K) kx (rbK 0 [2] [] KR) (sc0 253 [RS b off n cap]) (tr0 253 [RS b off n cap]) [] emptyA =
    bif decide (Int.ofNat n < 1) then KR [some (I (Int.ofNat 100))] [] [] else bif decide (Int.ofNat n > 12) then KR [some (I (Int.ofNat 100))] [] [] else K [some (.slice (some ⟨b, off, some 0⟩) n cap), some (I (Int.ofNat n)), some (I (Int.ofNat 0))] [] [] := by kernel_rfl
theorem cgBN (r : Mem) (b off n cap : Nat) (k : Nat) (fs : FnsC) (K : KO) (KX : Nat → KO) (KR : KO) : run (SS r 1) 253 78 1 OCk_4 fs none (rbK 0 [0, 3, 4] [] K) (fun j => rbK 0 [0, 3] [] (KX j)) (rbK 0 [2] [] KR) [] (bT [0, 3, 4] (vO3 b off n cap k) .nil) [] (mkA []) =
    bif decide (Int.ofNat k < Int.ofNat n) then bif Nat.blt (Int.toNat (Int.ofNat k)) n then Option.casesOn (r b (Nat.add off (Nat.mul (Int.toNat (Int.ofNat k)) 1))) (.fail 423) fun val => bif isNilS val then bif Int.ofNat 0 != Int.ofNat n then KR [some (I (Int.ofNat 100))] [] [] else bif Nat.blt (Int.toNat (Int.ofNat k)) n then Option.casesOn (r b (Nat.add off (Nat.mul (Int.toNat (Int.ofNat k)) 1))) (.fail 423) fun val => bif isNilS val then .fail 31 else F4 else F4 else F4 else F4 else KX 0 [some (.slice (some ⟨b, off, some 0⟩) n cap), some (I (Int.ofNat n))] [] [] := by kernel_rfl
theorem cgBR (r : Mem) (b off n cap : Nat) (k : Nat) (fs : FnsC) (K : KO) (KX : Nat → KO) (KR : KO) : run (SS r 2) 253 78 1 OCk_4 fs none (rbK 0 [0, 3, 4] [] K) (fun j => rbK 0 [0, 3] [] (KX j)) (rbK 0 [2] [] KR) [] (bT [0, 3, 4] (vO3 b off n cap k) .nil) [] (mkA []) =
    bif decide (Int.ofNat k < Int.ofNat n) then bif Nat.blt (Int.toNat (Int.ofNat k)) n then Option.casesOn (r b (Nat.add off (Nat.mul (Int.toNat (Int.ofNat k)) 1))) (.fail 423) fun val => bif isRoS val then bif Int.ofNat (lnOf val) != Int.ofNat n then KR [some (I (Int.ofNat 100))] [] [] else bif Nat.blt (Int.toNat (Int.ofNat k)) n then Option.casesOn (r b (Nat.add off (Nat.mul (Int.toNat (Int.ofNat k)) 1))) (.fail 423) fun val => bif isRoS val then bif Nat.blt (Int.toNat (Int.ofNat k)) (lnOf val) then Option.casesOn (r (blkOf val) (Nat.add (offOf val) (Nat.mul (Int.toNat (Int.ofNat k)) 1))) (.fail 423) fun val => bif isB val then bif ofB val then KR [some (I (Int.ofNat 100))] [] [] else K [some (.slice (some ⟨b, off, some 0⟩) n cap), some (I (Int.ofNat n)), some (I (IntKind.wrap .i64 (Int.ofNat k + Int.ofNat 1)))] [] [] else F4 else F4 else F4 else F4 else F4 else F4 else KX 0 [some (.slice (some ⟨b, off, some 0⟩) n cap), some (I (Int.ofNat n))] [] [] := by kernel_rfl
theorem cgC (r : Mem) (b off n cap : Nat) (fs : FnsC) (K : KO) (kx : Nat → KS) (kr : KS) : run (SC r) 253 78 1 OCk_5 fs none (rbK 0 [0, 3, 5] [] K) kx kr [] (bT [0, 3] [some (RS b off n cap), some (I (n : Nat))] .nil) [] (mkA []) =
    K [some (.slice (some ⟨b, off, some 0⟩) n cap), some (I (Int.ofNat n)), some (I (Int.ofNat 0))] [] [] := by kernel_rfl
theorem cgD (r : Mem) (b off n cap : Nat) (k : Nat) (fs : FnsC) (K : KO) (KX : Nat → KO) (kr : KS) : run (SC r) 253 78 1 OCk_6 fs none (rbK 0 [0, 3, 5] [] K) (fun j => rbK 0 [] [] (KX j)) kr [] (bT [0, 3, 5] (vO3 b off n cap k) .nil) [] (mkA []) =
    bif decide (Int.ofNat k < Int.ofNat n) then K [some (.slice (some ⟨b, off, some 0⟩) n cap), some (I (Int.ofNat n)), some (I (Int.ofNat k))] [] [] else KX 2 [] [] [] := by kernel_rfl
theorem cgE (r : Mem) (b off n cap : Nat) (k : Nat) (fs : FnsC) (K : KO) (kx : Nat → KS) (kr : KS) : run (SC r) 253 78 1 OCk_7 fs none (rbK 0 [0, 3, 5, 6] [] K) kx kr [] (bT [0, 3, 5] (vO3 b off n cap k) .nil) [] (mkA []) =
    K [some (.slice (some ⟨b, off, some 0⟩) n cap), some (I (Int.ofNat n)), some (I (Int.ofNat k)), some (I (Int.ofNat 0))] [] [] := by kernel_rfl
theorem cgF (r : Mem) (b off n cap : Nat) (i k : Nat) (fs : FnsC) (K : KO) (KX : Nat → KO) (kr : KS) : run (SC r) 253 78 1 OCk_8 fs none (rbK 0 [0, 3, 5, 6] [] K) (fun j => rbK 0 [0, 3, 5] [] (KX j)) kr [] (bT [0, 3, 5, 6] (vO4 b off n cap i k) .nil) [] (mkA []) =
    bif decide (Int.ofNat k < Int.ofNat n) then K [some (.slice (some ⟨b, off, some 0⟩) n cap), some (I (Int.ofNat n)), some (I (Int.ofNat i)), some (I (Int.ofNat k))] [] [] else KX 4 [some (.slice (some ⟨b, off, some 0⟩) n cap), some (I (Int.ofNat n)), some (I (Int.ofNat i))] [] [] := by kernel_rfl
theorem cgG (r : Mem) (b off n cap : Nat) (i k : Nat) (fs : FnsC) (K : KO) (kx : Nat → KS) (kr : KS) : run (SC r) 253 78 1 OCk_9 fs none (rbK 0 [0, 3, 5, 6, 7] [] K) kx kr [] (bT [0, 3, 5, 6] (vO4 b off n cap i k) .nil) [] (mkA []) =
    K [some (.slice (some ⟨b, off, some 0⟩) n cap), some (I (Int.ofNat n)), some (I (Int.ofNat i)), some (I (Int.ofNat k)), some (I (Int.ofNat 0))] [] [] := by kernel_rfl
theorem cgH (r : Mem) (b off n cap : Nat) (i k m : Nat) (fs : FnsC) (K : KO) (KX : Nat → KO) (KR : KO) : run (SS r 2) 253 78 1 OCk_10 fs none (rbK 0 [0, 3, 5, 6, 7] [] K) (fun j => rbK 0 [0, 3, 5, 6] [] (KX j)) (rbK 0 [2] [] KR) [] (bT [0, 3, 5, 6, 7] (vO5 b off n cap i k m) .nil) [] (mkA []) =
    bif decide (Int.ofNat m < Int.ofNat n) then bif Nat.blt (Int.toNat (Int.ofNat i)) n then Option.casesOn (r b (Nat.add off (Nat.mul (Int.toNat (Int.ofNat i)) 1))) (.fail 423) fun val => bif isRoS val then bif Nat.blt (Int.toNat (Int.ofNat k)) (lnOf val) then Option.casesOn (r (blkOf val) (Nat.add (offOf val) (Nat.mul (Int.toNat (Int.ofNat k)) 1))) (.fail 423) fun val => bif isB val then bif ofB val then bif Nat.blt (Int.toNat (Int.ofNat k)) n then Option.casesOn (r b (Nat.add off (Nat.mul (Int.toNat (Int.ofNat k)) 1))) (.fail 423) fun val => bif isRoS val then bif Nat.blt (Int.toNat (Int.ofNat m)) (lnOf val) then Option.casesOn (r (blkOf val) (Nat.add (offOf val) (Nat.mul (Int.toNat (Int.ofNat m)) 1))) (.fail 423) fun val => bif isB val then bif ofB val then bif Nat.blt (Int.toNat (Int.ofNat i)) n then Option.casesOn (r b (Nat.add off (Nat.mul (Int.toNat (Int.ofNat i)) 1))) (.fail 423) fun val => bif isRoS val then bif Nat.blt (Int.toNat (Int.ofNat m)) (lnOf val) then Option.casesOn (r (blkOf val) (Nat.add (offOf val) (Nat.mul (Int.toNat (Int.ofNat m)) 1))) (.fail 423) fun val => bif isB val then bif ofB val then K [some (.slice (some ⟨b, off, some 0⟩) n cap), some (I (Int.ofNat n)), some (I (Int.ofNat i)), some (I (Int.ofNat k)), some (I (IntKind.wrap .i64 (Int.ofNat m + Int.ofNat 1)))] [] [] else KR [some (I (Int.ofNat 100))] [] [] else F4 else F4 else F4 else F4 else K [some (.slice (some ⟨b, off, some 0⟩) n cap), some (I (Int.ofNat n)), some (I (Int.ofNat i)), some (I (Int.ofNat k)), some (I (IntKind.wrap .i64 (Int.ofNat m + Int.ofNat 1)))] [] [] else F4 else F4 else F4 else F4 else K [some (.slice (some ⟨b, off, some 0⟩) n cap), some (I (Int.ofNat n)), some (I (Int.ofNat i)), some (I (Int.ofNat k)), some (I (IntKind.wrap .i64 (Int.ofNat m + Int.ofNat 1)))] [] [] else F4 else F4 else F4 else F4 else KX 6 [some (.slice (some ⟨b, off, some 0⟩) n cap), some (I (Int.ofNat n)), some (I (Int.ofNat i)), some (I (Int.ofNat k))] [] [] := by kernel_rfl
theorem cgI (r : Mem) (b off n cap : Nat) (i k : Nat) (fs : FnsC) (K : KO) (kx : Nat → KS) (kr : KS) : run (SC r) 253 78 1 OCk_11 fs none (rbK 0 [0, 3, 5, 6] [] K) kx kr [] (bT [0, 3, 5, 6] (vO4 b off n cap i k) .nil) [] (mkA []) =
    K [some (.slice (some ⟨b, off, some 0⟩) n cap), some (I (Int.ofNat n)), some (I (Int.ofNat i)), some (I (IntKind.wrap .i64 (Int.ofNat k + Int.ofNat 1)))] [] [] := by kernel_rfl
theorem cgJ (r : Mem) (b off n cap : Nat) (k : Nat) (fs : FnsC) (K : KO) (kx : Nat → KS) (kr : KS) : run (SC r) 253 78 1 OCk_12 fs none (rbK 0 [0, 3, 5] [] K) kx kr [] (bT [0, 3, 5] (vO3 b off n cap k) .nil) [] (mkA []) =
    K [some (.slice (some ⟨b, off, some 0⟩) n cap), some (I (Int.ofNat n)), some (I (IntKind.wrap .i64 (Int.ofNat k + Int.ofNat 1)))] [] [] := by kernel_rfl
theorem cgK (r : Mem) (fs : FnsC) (kn : KS) (kx : Nat → KS) (KR : KO) : run (SC r) 253 78 1 OCk_13 fs none kn kx (rbK 0 [2] [] KR) [] (bT [] [] .nil) [] (mkA []) =
    KR [some (I (Int.ofNat 0))] [] [] := by kernel_rfl
end Go.Proofs
namespace Go.Proofs
open Go Go.Ev Go.Num
def lenI (T : List (List Bool)) : Nat → Bool
 | 0 => true
 | i + 1 => lenI T i && (((T.getD i []).length == T.length) && !gT T i i)
def badO (T : List (List Bool)) (i k m : Nat) : Bool := gT T i k && (gT T k m && !gT T i m)
def trK (T : List (List Bool)) (i k : Nat) : Nat → Bool
 | 0 => true
 | m + 1 => trK T i k m && !badO T i k m
def trJ (T : List (List Bool)) (i : Nat) : Nat → Bool
 | 0 => true
 | k + 1 => trJ T i k && trK T i k T.length
def trI (T : List (List Bool)) : Nat → Bool
 | 0 => true
 | i + 1 => trI T i && trJ T i T.length
def ckO (T : List (List Bool)) : Bool := decide (1 ≤ T.length ∧ T.length ≤ 12) && (lenI T T.length && trI T T.length)
theorem lenI_get {T : List (List Bool)} : ∀ {n : Nat}, lenI T n = true → ∀ i, i < n → (T.getD i []).length = T.length ∧ gT T i i = false
 | n + 1, h, i, hi => by
  simp only [lenI, Bool.and_eq_true, beq_iff_eq, Bool.not_eq_true'] at h
  by_cases c : i = n
  ·rw [c]; exact h.2
  ·exact lenI_get h.1 i (by omega)
theorem lenI_no {T : List (List Bool)} : ∀ {n i : Nat}, i < n → ((T.getD i []).length ≠ T.length ∨ gT T i i = true) → lenI T n = false
 | n + 1, i, hi, h => by
  simp only [lenI]
  by_cases c : i = n
  ·subst c
   rcases h with h | h
   ·rw [show ((T.getD i []).length == T.length) = false by simpa using h, Bool.false_and, Bool.and_false]
   ·rw [h]; simp
  ·rw [lenI_no (by omega) h, Bool.false_and]
theorem trK_no {T : List (List Bool)} {i k : Nat} : ∀ {n m : Nat}, m < n → badO T i k m = true → trK T i k n = false
 | n + 1, m, hm, h => by
  simp only [trK]
  by_cases c : m = n
  ·subst c
   rw [h]; simp
  ·rw [trK_no (by omega) h, Bool.false_and]
theorem trJ_no {T : List (List Bool)} {i : Nat} : ∀ {n k : Nat}, k < n → trK T i k T.length = false → trJ T i n = false
 | n + 1, k, hk, h => by
  simp only [trJ]
  by_cases c : k = n
  ·subst c
   rw [h, Bool.and_false]
  ·rw [trJ_no (by omega) h, Bool.false_and]
theorem trI_no {T : List (List Bool)} : ∀ {n i : Nat}, i < n → trJ T i T.length = false → trI T n = false
 | n + 1, i, hi, h => by
  simp only [trI]
  by_cases c : i = n
  ·subst c
   rw [h, Bool.and_false]
  ·rw [trI_no (by omega) h, Bool.false_and]
section
variable {r : Mem} {b off n cap : Nat} {T : List (List Bool)}
theorem og_ok (hM : TabM r b off T) (hn : T.length = n) (hn2 : n ≤ 1000) : GrT Tryd.prog r 28 [RS b off n cap] (I (if ckO T then 0 else 100)) := by
 subst hn
 generalize hv : (if ckO T then (0 : Int) else 100) = v
 let E : Outs := ⟨[2], [], fun vs ms os => vs = [some (I v)] ∧ ms = [] ∧ os = []⟩
 refine GrT.ofS (C := SC r) rfl rfl rfl (callO (SC_ok r) (by kernel_rfl) ((bodySC r _).trans OCk_eq) (nt := 78) (by kernel_rfl) (rs := [.tmp 2]) (by kernel_rfl) 253 rfl E ?_ fun γ W F kk hwr hF hro h0' => ?_)
 ·rintro vs ms os ⟨rfl, rfl, rfl⟩
  exact ⟨_, mkA [], by kernel_rfl, rfl⟩
 have h0' : ∀ i, 0 ≤ i → γ i = none := h0'
 have bad : ckO T = false → v = 100 := fun h => by rw [h] at hv; exact hv.symm
 have badL : ∀ {i : Nat}, i < T.length → ((T.getD i []).length ≠ T.length ∨ gT T i i = true) → v = 100 := fun hi h => bad (by unfold ckO; rw [lenI_no hi h, Bool.false_and, Bool.and_false])
 have w1 : ∀ k : Nat, k ≤ 1000 → IntKind.wrap IntKind.i64 ((k : Int) + ((1 : Nat) : Int)) = ((k + 1 : Nat) : Int) := fun k hk => inc1' (by omega)
 have e0 : ∀ o k : Nat, Nat.add o (Nat.mul k 1) = o + k := fun o k => by simp
 refine Go.Ev.Reach.after3R (SC_ok r) TOk.nil (tm := .nil) (L := 1) (L' := 1) (d := 1) hF hro h0' (.step (.step (.step .base)))
  (o1 := ⟨[0, 3, 4], [], fun vs ms os => (1 ≤ T.length ∧ T.length ≤ 12) ∧ vs = vO3 b off T.length cap 0 ∧ ms = [] ∧ os = []⟩)
  (o2 := ⟨[0, 3], [], fun vs ms os => ((1 ≤ T.length ∧ T.length ≤ 12) ∧ lenI T T.length = true) ∧ vs = [some (RS b off T.length cap), some (I (T.length : Nat))] ∧ ms = [] ∧ os = []⟩) [] (fun p hp => nomatch hp) ?_ ?_ ?_
 ·rintro vs ms os ⟨hn, rfl, rfl, rfl⟩
  refine Go.Ev.Reach.blockC (Go.Ev.Reach.loopC (j := T.length) (lv := [0, 3, 4]) (fl := []) (I := fun j vs ms os => ∃ k : Nat, k ≤ T.length ∧ j = T.length - k ∧ lenI T k = true ∧ vs = vO3 b off T.length cap k ∧ ms = [] ∧ os = []) (fun j vs ms os hI => ?_) ⟨0, by omega, rfl, rfl, rfl, rfl, rfl⟩)
  obtain ⟨k, hk, rfl, hl, rfl, rfl, rfl⟩ := hI
  by_cases c : k < T.length
  ·have c1 : (k : Int) < (T.length : Int) := by omega
   have c2 : Nat.blt k T.length = true := Nat.ble_eq_true_of_le (by omega)
   by_cases hz : (T.getD k []).length = 0
   ·obtain ⟨u, hu, hr⟩ := tab_row hM c
    have hun : u = nilT := by
     rcases hr with ⟨_, h⟩ | ⟨h, _⟩
     ·exact h
     ·exact absurd (List.length_eq_zero_iff.1 hz) h
    subst hun
    refine segSh 1 TOk.nil (tm := .nil) (L := 1) (L' := 1) (d := 1) hF hro h0' [(0, ⟨[0, 3], [], fun vs ms os => ((1 ≤ T.length ∧ T.length ≤ 12) ∧ lenI T T.length = true) ∧ vs = [some (RS b off T.length cap), some (I (T.length : Nat))] ∧ ms = [] ∧ os = []⟩)] (fun p hp => by simp only [List.mem_cons, List.not_mem_nil, or_false] at hp; subst hp; rfl) ?_
    have q0 : isNilS nilT = true := rfl
    have q1 : (((0 : Nat) : Int) != (T.length : Int)) = true := neT (by omega)
    have hn' := cgBN r b off T.length cap k
    simp only [Int.ofNat_eq_natCast, Int.toNat_natCast, dT c1, c2, cond_true, e0, hu, q0, q1] at hn'
    exact (hn' _ _ _ _).trans (qq_ok ⟨by rw [badL c (.inl (by omega))]; rfl, rfl, rfl⟩)
   ·obtain ⟨b2, o2, c2', hu, hr⟩ := tab_RS hM c hz
    refine segSh 2 TOk.nil (tm := .nil) (L := 1) (L' := 1) (d := 1) hF hro h0' [(0, ⟨[0, 3], [], fun vs ms os => ((1 ≤ T.length ∧ T.length ≤ 12) ∧ lenI T T.length = true) ∧ vs = [some (RS b off T.length cap), some (I (T.length : Nat))] ∧ ms = [] ∧ os = []⟩)] (fun p hp => by simp only [List.mem_cons, List.not_mem_nil, or_false] at hp; subst hp; rfl) ?_
    have hn' := cgBR r b off T.length cap k
    simp only [Int.ofNat_eq_natCast, Int.toNat_natCast, dT c1, c2, cond_true, e0, hu, ro_RS, ln_RS, bk_RS, of_RS] at hn'
    by_cases q : (T.getD k []).length = T.length
    ·have q1 : (((T.getD k []).length : Int) != (T.length : Int)) = false := neF (by omega)
     have q2 : Nat.blt k (T.getD k []).length = true := Nat.ble_eq_true_of_le (by omega)
     simp only [q1, q2, cond_true, cond_false, hr k (by omega), b_bl, o_bl, w1 k (by omega)] at hn'
     cases hg : gT T k k with
     | true =>
      simp only [hg, cond_true] at hn'
      exact (hn' _ _ _ _).trans (qq_ok ⟨by rw [badL c (.inr hg)]; rfl, rfl, rfl⟩)
     | false =>
      simp only [hg, cond_false] at hn'
      exact (hn' _ _ _ _).trans (qq_ok ⟨T.length - (k + 1), by omega, k + 1, c, rfl, by simp only [lenI, hl, q, hg, beq_self_eq_true, Bool.not_false, Bool.and_self], rfl, rfl, rfl⟩)
    ·have q1 : (((T.getD k []).length : Int) != (T.length : Int)) = true := neT (by omega)
     simp only [q1, cond_true] at hn'
     exact (hn' _ _ _ _).trans (qq_ok ⟨by rw [badL c (.inl q)]; rfl, rfl, rfl⟩)
  ·obtain rfl : k = T.length := by omega
   have c1 : ¬ (T.length : Int) < (T.length : Int) := by omega
   refine segSh 1 TOk.nil (tm := .nil) (L := 1) (L' := 1) (d := 1) hF hro h0' [(0, ⟨[0, 3], [], fun vs ms os => ((1 ≤ T.length ∧ T.length ≤ 12) ∧ lenI T T.length = true) ∧ vs = [some (RS b off T.length cap), some (I (T.length : Nat))] ∧ ms = [] ∧ os = []⟩)] (fun p hp => by simp only [List.mem_cons, List.not_mem_nil, or_false] at hp; subst hp; rfl) ?_
   have hn' := cgBN r b off T.length cap T.length
   simp only [Int.ofNat_eq_natCast, dF c1, cond_false] at hn'
   exact (hn' _ _ _ _).trans (qq_ok ⟨⟨hn, hl⟩, rfl, rfl, rfl⟩)
 ·rintro vs ms os ⟨⟨hn, hl⟩, rfl, rfl, rfl⟩
  have hlen := fun i hi => (lenI_get hl i hi).1
  have fin : trI T T.length = true → v = 0 := fun h => by
   rw [show ckO T = true by unfold ckO; rw [decide_eq_true hn, hl, h]; rfl, if_pos rfl] at hv; exact hv.symm
  have nof : trI T T.length = false → v = 100 := fun h => bad (by unfold ckO; rw [h, Bool.and_false, Bool.and_false])
  have hrow : ∀ i, i < T.length → ∃ bi oi ci, r b (off + i) = some (RS bi oi T.length ci) ∧ ∀ k, k < T.length → r bi (oi + k) = some (.bool (gT T i k)) := fun i hi => by
   have h := tab_RS hM hi (by rw [hlen i hi]; omega)
   rw [hlen i hi] at h
   exact h
  refine Go.Ev.Reach.after3R (SC_ok r) TOk.nil (tm := .nil) (L := 1) (L' := 1) (d := 1) hF hro h0' .base
   (o1 := ⟨[0, 3, 5], [], fun vs ms os => vs = vO3 b off T.length cap 0 ∧ ms = [] ∧ os = []⟩)
   (o2 := ⟨[], [], fun vs ms os => trI T T.length = true ∧ vs = [] ∧ ms = [] ∧ os = []⟩) [] (fun p hp => nomatch hp) ?_ ?_ ?_
  ·rintro vs ms os ⟨rfl, rfl, rfl⟩
   refine Go.Ev.Reach.blockC (Go.Ev.Reach.loopC (j := T.length) (lv := [0, 3, 5]) (fl := []) (I := fun j vs ms os => ∃ i : Nat, i ≤ T.length ∧ j = T.length - i ∧ trI T i = true ∧ vs = vO3 b off T.length cap i ∧ ms = [] ∧ os = []) (fun j vs ms os hI => ?_) ⟨0, by omega, rfl, rfl, rfl, rfl, rfl⟩)
   obtain ⟨i, hi, rfl, hf, rfl, rfl, rfl⟩ := hI
   refine Go.Ev.Reach.seqC (o1 := ⟨[0, 3, 5], [], fun vs ms os => i < T.length ∧ vs = vO3 b off T.length cap i ∧ ms = [] ∧ os = []⟩) ?_ fun vs ms os hq => ?_
   ·refine Go.Ev.Reach.segR (SC_ok r) TOk.nil (tm := .nil) (L := 1) (L' := 1) (d := 1) hF hro h0' [(2, ⟨[], [], fun vs ms os => trI T T.length = true ∧ vs = [] ∧ ms = [] ∧ os = []⟩)] (fun p hp => by simp only [List.mem_cons, List.not_mem_nil, or_false] at hp; subst hp; rfl) ?_
    have hn' := cgD r b off T.length cap i
    simp only [Int.ofNat_eq_natCast] at hn'
    by_cases c : i < T.length
    ·simp only [dT (show (i : Int) < (T.length : Int) by omega), cond_true] at hn'
     exact (hn' _ _ _ _).trans (qq_ok ⟨c, rfl, rfl, rfl⟩)
    ·obtain rfl : i = T.length := by omega
     simp only [dF (show ¬ (T.length : Int) < (T.length : Int) by omega), cond_false] at hn'
     exact (hn' _ _ _ _).trans (qq_ok ⟨hf, rfl, rfl, rfl⟩)
   ·obtain ⟨hi', rfl, rfl, rfl⟩ := hq
    refine Go.Ev.Reach.seqC (o1 := ⟨[0, 3, 5], [], fun vs ms os => trJ T i T.length = true ∧ vs = vO3 b off T.length cap i ∧ ms = [] ∧ os = []⟩) (Go.Ev.Reach.blockC ?_) fun vs ms os hq => ?_
    ·refine Go.Ev.Reach.seqC (o1 := ⟨[0, 3, 5, 6], [], fun vs ms os => vs = vO4 b off T.length cap i 0 ∧ ms = [] ∧ os = []⟩) (Go.Ev.Reach.segR (SC_ok r) TOk.nil (tm := .nil) (L := 1) (L' := 1) (d := 1) hF hro h0' [] (fun p hp => nomatch hp) ((cgE r b off T.length cap i _ _ _ _).trans (qq_ok ⟨rfl, rfl, rfl⟩))) fun vs ms os hq => ?_
     obtain ⟨rfl, rfl, rfl⟩ := hq
     refine Go.Ev.Reach.blockC (Go.Ev.Reach.loopC (j := T.length) (lv := [0, 3, 5, 6]) (fl := []) (I := fun j vs ms os => ∃ k : Nat, k ≤ T.length ∧ j = T.length - k ∧ trJ T i k = true ∧ vs = vO4 b off T.length cap i k ∧ ms = [] ∧ os = []) (fun j vs ms os hI => ?_) ⟨0, by omega, rfl, rfl, rfl, rfl, rfl⟩)
     obtain ⟨k, hk, rfl, hj, rfl, rfl, rfl⟩ := hI
     refine Go.Ev.Reach.seqC (o1 := ⟨[0, 3, 5, 6], [], fun vs ms os => k < T.length ∧ vs = vO4 b off T.length cap i k ∧ ms = [] ∧ os = []⟩) ?_ fun vs ms os hq => ?_
     ·refine Go.Ev.Reach.segR (SC_ok r) TOk.nil (tm := .nil) (L := 1) (L' := 1) (d := 1) hF hro h0' [(4, ⟨[0, 3, 5], [], fun vs ms os => trJ T i T.length = true ∧ vs = vO3 b off T.length cap i ∧ ms = [] ∧ os = []⟩)] (fun p hp => by simp only [List.mem_cons, List.not_mem_nil, or_false] at hp; subst hp; rfl) ?_
      have hn' := cgF r b off T.length cap i k
      simp only [Int.ofNat_eq_natCast] at hn'
      by_cases c : k < T.length
      ·simp only [dT (show (k : Int) < (T.length : Int) by omega), cond_true] at hn'
       exact (hn' _ _ _ _).trans (qq_ok ⟨c, rfl, rfl, rfl⟩)
      ·obtain rfl : k = T.length := by omega
       simp only [dF (show ¬ (T.length : Int) < (T.length : Int) by omega), cond_false] at hn'
       exact (hn' _ _ _ _).trans (qq_ok ⟨hj, rfl, rfl, rfl⟩)
     ·obtain ⟨hk', rfl, rfl, rfl⟩ := hq
      refine Go.Ev.Reach.seqC (o1 := ⟨[0, 3, 5, 6], [], fun vs ms os => trK T i k T.length = true ∧ vs = vO4 b off T.length cap i k ∧ ms = [] ∧ os = []⟩) (Go.Ev.Reach.blockC ?_) fun vs ms os hq => ?_
      ·refine Go.Ev.Reach.seqC (o1 := ⟨[0, 3, 5, 6, 7], [], fun vs ms os => vs = vO5 b off T.length cap i k 0 ∧ ms = [] ∧ os = []⟩) (Go.Ev.Reach.segR (SC_ok r) TOk.nil (tm := .nil) (L := 1) (L' := 1) (d := 1) hF hro h0' [] (fun p hp => nomatch hp) ((cgG r b off T.length cap i k _ _ _ _).trans (qq_ok ⟨rfl, rfl, rfl⟩))) fun vs ms os hq => ?_
       obtain ⟨rfl, rfl, rfl⟩ := hq
       refine Go.Ev.Reach.blockC (Go.Ev.Reach.loopC (j := T.length) (lv := [0, 3, 5, 6, 7]) (fl := []) (I := fun j vs ms os => ∃ m : Nat, m ≤ T.length ∧ j = T.length - m ∧ trK T i k m = true ∧ vs = vO5 b off T.length cap i k m ∧ ms = [] ∧ os = []) (fun j vs ms os hI => ?_) ⟨0, by omega, rfl, rfl, rfl, rfl, rfl⟩)
       obtain ⟨m, hm, rfl, ht, rfl, rfl, rfl⟩ := hI
       refine segSh 2 TOk.nil (tm := .nil) (L := 1) (L' := 1) (d := 1) hF hro h0' [(6, ⟨[0, 3, 5, 6], [], fun vs ms os => trK T i k T.length = true ∧ vs = vO4 b off T.length cap i k ∧ ms = [] ∧ os = []⟩)] (fun p hp => by simp only [List.mem_cons, List.not_mem_nil, or_false] at hp; subst hp; rfl) ?_
       have hn' := cgH r b off T.length cap i k m
       simp only [Int.ofNat_eq_natCast, Int.toNat_natCast] at hn'
       by_cases c : m < T.length
       ·have b1 : Nat.blt i T.length = true := Nat.ble_eq_true_of_le (by omega)
        have b2 : Nat.blt k T.length = true := Nat.ble_eq_true_of_le (by omega)
        have b3 : Nat.blt m T.length = true := Nat.ble_eq_true_of_le (by omega)
        obtain ⟨bi, oi, ci, hui, hri⟩ := hrow i hi'
        obtain ⟨bk, ok, ck, huk, hrk⟩ := hrow k hk'
        simp only [dT (show (m : Int) < (T.length : Int) by omega), cond_true, b1, b2, b3, e0, hui, huk, ro_RS, ln_RS, bk_RS, of_RS, hri k hk', hrk m c, hri m c, b_bl, o_bl, w1 m (by omega)] at hn'
        have go : badO T i k m = false → trK T i k (m + 1) = true := fun h => by simp only [trK, ht, h]; rfl
        have stop : badO T i k m = true → v = 100 := fun h => nof (trI_no hi' (trJ_no hk' (trK_no c h)))
        have hb : badO T i k m = (gT T i k && (gT T k m && !gT T i m)) := rfl
        cases q1 : gT T i k <;> cases q2 : gT T k m <;> cases q3 : gT T i m <;> simp only [q1, q2, q3, cond_true, cond_false] at hn' <;> rw [q1, q2, q3] at hb <;> first
         | exact (hn' _ _ _ _).trans (qq_ok ⟨T.length - (m + 1), by omega, m + 1, c, rfl, go hb, rfl, rfl, rfl⟩)
         | exact (hn' _ _ _ _).trans (qq_ok ⟨by rw [stop hb]; rfl, rfl, rfl⟩)
       ·obtain rfl : m = T.length := by omega
        simp only [dF (show ¬ (T.length : Int) < (T.length : Int) by omega), cond_false] at hn'
        exact (hn' _ _ _ _).trans (qq_ok ⟨ht, rfl, rfl, rfl⟩)
      ·obtain ⟨htk, rfl, rfl, rfl⟩ := hq
       refine Go.Ev.Reach.segR (SC_ok r) TOk.nil (tm := .nil) (L := 1) (L' := 1) (d := 1) hF hro h0' [] (fun p hp => nomatch hp) ?_
       have hn' := cgI r b off T.length cap i k
       simp only [Int.ofNat_eq_natCast, w1 k (by omega)] at hn'
       exact (hn' _ _ _ _).trans (qq_ok ⟨T.length - (k + 1), by omega, k + 1, hk', rfl, by simp only [trJ, hj, htk, Bool.and_self], rfl, rfl, rfl⟩)
    ·obtain ⟨htj, rfl, rfl, rfl⟩ := hq
     refine Go.Ev.Reach.segR (SC_ok r) TOk.nil (tm := .nil) (L := 1) (L' := 1) (d := 1) hF hro h0' [] (fun p hp => nomatch hp) ?_
     have hn' := cgJ r b off T.length cap i
     simp only [Int.ofNat_eq_natCast, w1 i (by omega)] at hn'
     exact (hn' _ _ _ _).trans (qq_ok ⟨T.length - (i + 1), by omega, i + 1, hi', rfl, by simp only [trI, hf, htj, Bool.and_self], rfl, rfl, rfl⟩)
  ·rintro vs ms os ⟨hfb, rfl, rfl, rfl⟩
   refine Go.Ev.Reach.segR (SC_ok r) TOk.nil (tm := .nil) (L := 1) (L' := 1) (d := 1) hF hro h0' [] (fun p hp => nomatch hp) ?_
   exact (cgK r _ _ _ _).trans (qq_ok ⟨by rw [fin hfb]; rfl, rfl, rfl⟩)
  ·exact (cgC r b off T.length cap _ _ _ _).trans (qq_ok ⟨rfl, rfl, rfl⟩)
 ·have hn' := cgA r b off T.length cap
  simp only [Int.ofNat_eq_natCast] at hn'
  by_cases c : (T.length : Int) < 1
  ·simp only [dT c, cond_true] at hn'
   exact (hn' _ _ _ _).trans (qq_ok ⟨by rw [bad (by unfold ckO; rw [decide_eq_false (by omega), Bool.false_and])]; rfl, rfl, rfl⟩)
  ·simp only [dF c, cond_false] at hn'
   by_cases c2 : (T.length : Int) > 12
   ·simp only [dT c2, cond_true] at hn'
    exact (hn' _ _ _ _).trans (qq_ok ⟨by rw [bad (by unfold ckO; rw [decide_eq_false (by omega), Bool.false_and])]; rfl, rfl, rfl⟩)
   ·simp only [dF c2, cond_false] at hn'
    exact (hn' _ _ _ _).trans (qq_ok ⟨⟨by omega, by omega⟩, rfl, rfl, rfl⟩)
end
end Go.Proofs
namespace Go.Proofs
open Go Go.Ev Go.Num
noncomputable def cORd : Code := bodyOf S0 29
noncomputable def ORd_0 : Code := (lc cORd)
noncomputable def ORd_1 : Code := (lc (rc cORd))
noncomputable def ORd_2 : Code := (lc (rc (rc cORd)))
noncomputable def ORd_3 : Code := (lc (lc (rc (rc (rc cORd)))))
noncomputable def ORd_4 : Code := (lc (ic (ic (rc (lc (rc (rc (rc cORd))))))))
noncomputable def ORd_5 : Code := (lc (rc (ic (ic (rc (lc (rc (rc (rc cORd)))))))))
noncomputable def ORd_6 : Code := (lc (ic (lc (rc (rc (ic (ic (rc (lc (rc (rc (rc cORd))))))))))))
noncomputable def ORd_7 : Code := (lc (rc (ic (lc (rc (rc (ic (ic (rc (lc (rc (rc (rc cORd)))))))))))))
noncomputable def ORd_8 : Code := (lc (rc (rc (ic (lc (rc (rc (ic (ic (rc (lc (rc (rc (rc cORd))))))))))))))
noncomputable def ORd_9 : Code := (ic (ic (rc (rc (rc (ic (lc (rc (rc (ic (ic (rc (lc (rc (rc (rc cORd))))))))))))))))
noncomputable def ORd_10 : Code := (rc (rc (rc (ic (ic (rc (lc (rc (rc (rc cORd))))))))))
noncomputable def ORd_11 : Code := (rc (rc (rc (rc cORd))))
theorem ORd_eq : cORd = (.seq ORd_0 (.seq ORd_1 (.seq ORd_2 (.seq (.seq ORd_3 (.block 0 (.loop (.seq ORd_4 (.seq ORd_5 (.seq (.block 1 (.seq ORd_6 (.seq ORd_7 (.seq ORd_8 (.block 2 (.loop ORd_9)))))) ORd_10)))))) ORd_11)))) := by kernel_rfl
def lvOD : List Nat := [2, 4, 21, 22, 23]
def vOD (b off n cap i : Nat) : OV := [some (pq 0), some (pq 1), some (RS b off n cap), some (I (n : Nat)), some (I (i : Nat))]
def lvOE : List Nat := [2, 4, 5, 21, 22, 23, 34, 35, 36]
def vOE (b off n cap i b2 o2 l c2 k : Nat) : OV := [some (pq 0), some (pq 1), some (I (i : Nat)), some (RS b off n cap), some (I (n : Nat)), some (I (i : Nat)), some (RS b2 o2 l c2), some (I (l : Nat)), some (I (k : Nat))]
theorem odA (r : Mem) (b off n cap : Nat) (fs : FnsC) (K : KO) (kx : Nat → KS) (KR : KO) : run (SC r) 120273764861 52 1 (.seq ORd_0 (.seq ORd_1 (.seq ORd_2 ORd_3))) fs none (rbK 0 lvOD [] K) kx (rbK 0 [2, 3] [] KR) (sc0 120273764861 [RS b off n cap]) (tr0 120273764861 [RS b off n cap]) [] emptyA =
    bif decide (Int.ofNat n < 1) then KR [some (.pointer (some ⟨0, 0, none⟩)), some (I (Int.ofNat 100))] [] [some (.cells [I (Int.ofNat 0), .int .u16 (Int.ofNat 0), .int .u16 (Int.ofNat 0), .int .u16 (Int.ofNat 0), .int .u16 (Int.ofNat 0), .int .u16 (Int.ofNat 0), .int .u16 (Int.ofNat 0), .int .u16 (Int.ofNat 0), .int .u16 (Int.ofNat 0), .int .u16 (Int.ofNat 0), .int .u16 (Int.ofNat 0), .int .u16 (Int.ofNat 0), .int .u16 (Int.ofNat 0), .int .u16 (Int.ofNat 0), .int .u16 (Int.ofNat 0), .int .u16 (Int.ofNat 0), .int .u16 (Int.ofNat 0), .int .u16 (Int.ofNat 0), .int .u16 (Int.ofNat 0), .int .u16 (Int.ofNat 0), .int .u16 (Int.ofNat 0), .int .u16 (Int.ofNat 0), .int .u16 (Int.ofNat 0), .int .u16 (Int.ofNat 0), .int .u16 (Int.ofNat 0)] 56 0 0)] else bif decide (Int.ofNat n > 12) then KR [some (.pointer (some ⟨0, 0, none⟩)), some (I (Int.ofNat 100))] [] [some (.cells [I (Int.ofNat 0), .int .u16 (Int.ofNat 0), .int .u16 (Int.ofNat 0), .int .u16 (Int.ofNat 0), .int .u16 (Int.ofNat 0), .int .u16 (Int.ofNat 0), .int .u16 (Int.ofNat 0), .int .u16 (Int.ofNat 0), .int .u16 (Int.ofNat 0), .int .u16 (Int.ofNat 0), .int .u16 (Int.ofNat 0), .int .u16 (Int.ofNat 0), .int .u16 (Int.ofNat 0), .int .u16 (Int.ofNat 0), .int .u16 (Int.ofNat 0), .int .u16 (Int.ofNat 0), .int .u16 (Int.ofNat 0), .int .u16 (Int.ofNat 0), .int .u16 (Int.ofNat 0), .int .u16 (Int.ofNat 0), .int .u16 (Int.ofNat 0), .int .u16 (Int.ofNat 0), .int .u16 (Int.ofNat 0), .int .u16 (Int.ofNat 0), .int .u16 (Int.ofNat 0)] 56 0 0)] else K [some (.pointer (some ⟨0, 0, none⟩)), some (.pointer (some ⟨1, 0, none⟩)), some (.slice (some ⟨b, off, some 0⟩) n cap), some (I (Int.ofNat n)), some (I (Int.ofNat 0))] [] [some (.cells [I (Int.ofNat 0), .int .u16 (Int.ofNat 0), .int .u16 (Int.ofNat 0), .int .u16 (Int.ofNat 0), .int .u16 (Int.ofNat 0), .int .u16 (Int.ofNat 0), .int .u16 (Int.ofNat 0), .int .u16 (Int.ofNat 0), .int .u16 (Int.ofNat 0), .int .u16 (Int.ofNat 0), .int .u16 (Int.ofNat 0), .int .u16 (Int.ofNat 0), .int .u16 (Int.ofNat 0), .int .u16 (Int.ofNat 0), .int .u16 (Int.ofNat 0), .int .u16 (Int.ofNat 0), .int .u16 (Int.ofNat 0), .int .u16 (Int.ofNat 0), .int .u16 (Int.ofNat 0), .int .u16 (Int.ofNat 0), .int .u16 (Int.ofNat 0), .int .u16 (Int.ofNat 0), .int .u16 (Int.ofNat 0), .int .u16 (Int.ofNat 0), .int .u16 (Int.ofNat 0)] 56 0 0), some (.cells [I (Int.ofNat n), .int .u16 (Int.ofNat 0), .int .u16 (Int.ofNat 0), .int .u16 (Int.ofNat 0), .int .u16 (Int.ofNat 0), .int .u16 (Int.ofNat 0), .int .u16 (Int.ofNat 0), .int .u16 (Int.ofNat 0), .int .u16 (Int.ofNat 0), .int .u16 (Int.ofNat 0), .int .u16 (Int.ofNat 0), .int .u16 (Int.ofNat 0), .int .u16 (Int.ofNat 0), .int .u16 (Int.ofNat 0), .int .u16 (Int.ofNat 0), .int .u16 (Int.ofNat 0), .int .u16 (Int.ofNat 0), .int .u16 (Int.ofNat 0), .int .u16 (Int.ofNat 0), .int .u16 (Int.ofNat 0), .int .u16 (Int.ofNat 0), .int .u16 (Int.ofNat 0), .int .u16 (Int.ofNat 0), .int .u16 (Int.ofNat 0), .int .u16 (Int.ofNat 0)] 56 1 0)] := by kernel_rfl
theorem odB (r : Mem) (b off n cap i : Nat) (c : List Value) (fs : FnsC) (K : KO) (KX : Nat → KO) (kr : KS) : run (SC r) 120273764861 52 1 (.seq ORd_4 ORd_5) fs none (rbK 0 lvOD [] K) (fun j => rbK 0 [2, 4] [] (KX j)) kr [] (bT lvOD (vOD b off n cap i) .nil) [] (mkA [oOr z25 0, oOr c 1]) =
    bif decide (Int.ofNat i < Int.ofNat n) then bif true && (m_nns c && true) then K [some (.pointer (some ⟨0, 0, none⟩)), some (.pointer (some ⟨1, 0, none⟩)), some (.slice (some ⟨b, off, some 0⟩) n cap), some (I (Int.ofNat n)), some (I (Int.ofNat i))] [] [some (.cells [I (Int.ofNat 0), .int .u16 (Int.ofNat 0), .int .u16 (Int.ofNat 0), .int .u16 (Int.ofNat 0), .int .u16 (Int.ofNat 0), .int .u16 (Int.ofNat 0), .int .u16 (Int.ofNat 0), .int .u16 (Int.ofNat 0), .int .u16 (Int.ofNat 0), .int .u16 (Int.ofNat 0), .int .u16 (Int.ofNat 0), .int .u16 (Int.ofNat 0), .int .u16 (Int.ofNat 0), .int .u16 (Int.ofNat 0), .int .u16 (Int.ofNat 0), .int .u16 (Int.ofNat 0), .int .u16 (Int.ofNat 0), .int .u16 (Int.ofNat 0), .int .u16 (Int.ofNat 0), .int .u16 (Int.ofNat 0), .int .u16 (Int.ofNat 0), .int .u16 (Int.ofNat 0), .int .u16 (Int.ofNat 0), .int .u16 (Int.ofNat 0), .int .u16 (Int.ofNat 0)] 56 0 0), some (.cells c 56 1 0)] else F4 else bif true && (m_nns c && true) then KX 0 [some (.pointer (some ⟨0, 0, none⟩)), some (.pointer (some ⟨1, 0, none⟩))] [] [some (.cells [I (Int.ofNat 0), .int .u16 (Int.ofNat 0), .int .u16 (Int.ofNat 0), .int .u16 (Int.ofNat 0), .int .u16 (Int.ofNat 0), .int .u16 (Int.ofNat 0), .int .u16 (Int.ofNat 0), .int .u16 (Int.ofNat 0), .int .u16 (Int.ofNat 0), .int .u16 (Int.ofNat 0), .int .u16 (Int.ofNat 0), .int .u16 (Int.ofNat 0), .int .u16 (Int.ofNat 0), .int .u16 (Int.ofNat 0), .int .u16 (Int.ofNat 0), .int .u16 (Int.ofNat 0), .int .u16 (Int.ofNat 0), .int .u16 (Int.ofNat 0), .int .u16 (Int.ofNat 0), .int .u16 (Int.ofNat 0), .int .u16 (Int.ofNat 0), .int .u16 (Int.ofNat 0), .int .u16 (Int.ofNat 0), .int .u16 (Int.ofNat 0), .int .u16 (Int.ofNat 0)] 56 0 0), some (.cells c 56 1 0)] else F4 := by kernel_rfl
theorem odCN (r : Mem) (b off n cap i : Nat) (c : List Value) (fs : FnsC) (K : KO) (kx : Nat → KS) (KR : KO) : run (SS r 1) 120273764861 52 1 (.seq ORd_6 (.seq ORd_7 ORd_8)) fs none (rbK 0 lvOE [] K) kx (rbK 0 [2, 3] [] KR) [] (bT lvOD (vOD b off n cap i) .nil) [] (mkA [oOr z25 0, oOr c 1]) =
    bif Nat.blt (Int.toNat (Int.ofNat i)) n then Option.casesOn (r b (Nat.add off (Nat.mul (Int.toNat (Int.ofNat i)) 1))) (.fail 423) fun val => bif isNilS val then Option.casesOn c[0]? (.fail 423) fun val => bif isI IntKind.i64 val then bif Int.ofNat 0 != ofI val then KR [some (.pointer (some ⟨0, 0, none⟩)), some (I (Int.ofNat 100))] [] [some (.cells [I (Int.ofNat 0), .int .u16 (Int.ofNat 0), .int .u16 (Int.ofNat 0), .int .u16 (Int.ofNat 0), .int .u16 (Int.ofNat 0), .int .u16 (Int.ofNat 0), .int .u16 (Int.ofNat 0), .int .u16 (Int.ofNat 0), .int .u16 (Int.ofNat 0), .int .u16 (Int.ofNat 0), .int .u16 (Int.ofNat 0), .int .u16 (Int.ofNat 0), .int .u16 (Int.ofNat 0), .int .u16 (Int.ofNat 0), .int .u16 (Int.ofNat 0), .int .u16 (Int.ofNat 0), .int .u16 (Int.ofNat 0), .int .u16 (Int.ofNat 0), .int .u16 (Int.ofNat 0), .int .u16 (Int.ofNat 0), .int .u16 (Int.ofNat 0), .int .u16 (Int.ofNat 0), .int .u16 (Int.ofNat 0), .int .u16 (Int.ofNat 0), .int .u16 (Int.ofNat 0)] 56 0 0)] else bif true && (m_nns c && true) then K [some (.pointer (some ⟨0, 0, none⟩)), some (.pointer (some ⟨1, 0, none⟩)), some (I (Int.ofNat i)), some (.slice (some ⟨b, off, some 0⟩) n cap), some (I (Int.ofNat n)), some (I (Int.ofNat i)), some (.slice none 0 0), some (I (Int.ofNat 0)), some (I (Int.ofNat 0))] [] [some (.cells [I (Int.ofNat 0), .int .u16 (Int.ofNat 0), .int .u16 (Int.ofNat 0), .int .u16 (Int.ofNat 0), .int .u16 (Int.ofNat 0), .int .u16 (Int.ofNat 0), .int .u16 (Int.ofNat 0), .int .u16 (Int.ofNat 0), .int .u16 (Int.ofNat 0), .int .u16 (Int.ofNat 0), .int .u16 (Int.ofNat 0), .int .u16 (Int.ofNat 0), .int .u16 (Int.ofNat 0), .int .u16 (Int.ofNat 0), .int .u16 (Int.ofNat 0), .int .u16 (Int.ofNat 0), .int .u16 (Int.ofNat 0), .int .u16 (Int.ofNat 0), .int .u16 (Int.ofNat 0), .int .u16 (Int.ofNat 0), .int .u16 (Int.ofNat 0), .int .u16 (Int.ofNat 0), .int .u16 (Int.ofNat 0), .int .u16 (Int.ofNat 0), .int .u16 (Int.ofNat 0)] 56 0 0), some (.cells c 56 1 0)] else F4 else F4 else F4 else F4 := by kernel_rfl
theorem odCR (r : Mem) (b off n cap i : Nat) (c : List Value) (fs : FnsC) (K : KO) (kx : Nat → KS) (KR : KO) : run (SS r 2) 120273764861 52 1 (.seq ORd_6 (.seq ORd_7 ORd_8)) fs none (rbK 0 lvOE [] K) kx (rbK 0 [2, 3] [] KR) [] (bT lvOD (vOD b off n cap i) .nil) [] (mkA [oOr z25 0, oOr c 1]) =
    bif Nat.blt (Int.toNat (Int.ofNat i)) n then Option.casesOn (r b (Nat.add off (Nat.mul (Int.toNat (Int.ofNat i)) 1))) (.fail 423) fun val => bif isRoS val then Option.casesOn c[0]? (.fail 423) fun val_1 => bif isI IntKind.i64 val_1 then bif Int.ofNat (lnOf val) != ofI val_1 then KR [some (.pointer (some ⟨0, 0, none⟩)), some (I (Int.ofNat 100))] [] [some (.cells [I (Int.ofNat 0), .int .u16 (Int.ofNat 0), .int .u16 (Int.ofNat 0), .int .u16 (Int.ofNat 0), .int .u16 (Int.ofNat 0), .int .u16 (Int.ofNat 0), .int .u16 (Int.ofNat 0), .int .u16 (Int.ofNat 0), .int .u16 (Int.ofNat 0), .int .u16 (Int.ofNat 0), .int .u16 (Int.ofNat 0), .int .u16 (Int.ofNat 0), .int .u16 (Int.ofNat 0), .int .u16 (Int.ofNat 0), .int .u16 (Int.ofNat 0), .int .u16 (Int.ofNat 0), .int .u16 (Int.ofNat 0), .int .u16 (Int.ofNat 0), .int .u16 (Int.ofNat 0), .int .u16 (Int.ofNat 0), .int .u16 (Int.ofNat 0), .int .u16 (Int.ofNat 0), .int .u16 (Int.ofNat 0), .int .u16 (Int.ofNat 0), .int .u16 (Int.ofNat 0)] 56 0 0)] else bif true && (m_nns c && true) then K [some (.pointer (some ⟨0, 0, none⟩)), some (.pointer (some ⟨1, 0, none⟩)), some (I (Int.ofNat i)), some (.slice (some ⟨b, off, some 0⟩) n cap), some (I (Int.ofNat n)), some (I (Int.ofNat i)), some (.slice (some ⟨(blkOf val), (offOf val), some 0⟩) (lnOf val) (cpOf val)), some (I (Int.ofNat (lnOf val))), some (I (Int.ofNat 0))] [] [some (.cells [I (Int.ofNat 0), .int .u16 (Int.ofNat 0), .int .u16 (Int.ofNat 0), .int .u16 (Int.ofNat 0), .int .u16 (Int.ofNat 0), .int .u16 (Int.ofNat 0), .int .u16 (Int.ofNat 0), .int .u16 (Int.ofNat 0), .int .u16 (Int.ofNat 0), .int .u16 (Int.ofNat 0), .int .u16 (Int.ofNat 0), .int .u16 (Int.ofNat 0), .int .u16 (Int.ofNat 0), .int .u16 (Int.ofNat 0), .int .u16 (Int.ofNat 0), .int .u16 (Int.ofNat 0), .int .u16 (Int.ofNat 0), .int .u16 (Int.ofNat 0), .int .u16 (Int.ofNat 0), .int .u16 (Int.ofNat 0), .int .u16 (Int.ofNat 0), .int .u16 (Int.ofNat 0), .int .u16 (Int.ofNat 0), .int .u16 (Int.ofNat 0), .int .u16 (Int.ofNat 0)] 56 0 0), some (.cells c 56 1 0)] else F4 else F4 else F4 else F4 := by kernel_rfl
theorem odD (r : Mem) (b off n cap i b2 o2 l c2 k : Nat) (c : List Value) (K : KO) (KX : Nat → KO) (kr : KS) : run (SC r) 120273764861 52 1 ORd_9 (lvlT (SC r) (fun _ => none) .nil 1 3) none (rbK 0 lvOE [] K) (fun j => rbK 0 lvOD [] (KX j)) kr [] (bT lvOE (vOE b off n cap i b2 o2 l c2 k) .nil) [] (mkA [oOr z25 0, oOr c 1]) =
    bif decide (Int.ofNat k < Int.ofNat l) then bif Nat.blt (Int.toNat (Int.ofNat k)) l then Option.casesOn (r b2 (Nat.add o2 (Nat.mul (Int.toNat (Int.ofNat k)) 1))) (.fail 423) fun val => bif isB val then bif ofB val then bif Nat.blt (Int.toNat (Int.ofNat k)) 12 then Option.casesOn c[Nat.add 1 (Nat.mul (Int.toNat (Int.ofNat k)) 1)]? (.fail 423) fun val => bif isI IntKind.u16 val then bif Nat.blt (Int.toNat (Int.ofNat k)) 12 then bif Nat.blt (Nat.add 1 (Nat.mul (Int.toNat (Int.ofNat k)) 1)) (List.length c) then Option.casesOn c[Nat.add 1 (Nat.mul (Int.toNat (Int.ofNat k)) 1)]? (.fail 423) fun val_1 => bif isI IntKind.u16 val_1 then bif m_eqv (.int .u16 (ofI val_1)) (.int .u16 (ofI val)) then Option.casesOn c[Nat.add 1 (Nat.mul (Int.toNat (Int.ofNat k)) 1)]? (.fail 423) fun val_2 => bif isI IntKind.u16 val_2 then bif m_eqv (.int .u16 (ofI val_2)) (.int .u16 (ofI val)) then bif Nat.blt (Int.toNat (Int.ofNat i)) 12 then Option.casesOn (List.set c (Nat.add 1 (Nat.mul (Int.toNat (Int.ofNat k)) 1)) (.int .u16 (ibits BinOp.or IntKind.u16 (ofI val) (IntKind.wrap .u16 (Int.ofNat 1 * Int.ofNat 2 ^ min (Int.toNat (Int.ofNat i)) 16)))))[Nat.add 13 (Nat.mul (Int.toNat (Int.ofNat i)) 1)]? (.fail 423) fun val_3 => bif isI IntKind.u16 val_3 then bif Nat.blt (Int.toNat (Int.ofNat i)) 12 then bif Nat.blt (Nat.add 13 (Nat.mul (Int.toNat (Int.ofNat i)) 1)) (List.length (List.set c (Nat.add 1 (Nat.mul (Int.toNat (Int.ofNat k)) 1)) (.int .u16 (ibits BinOp.or IntKind.u16 (ofI val) (IntKind.wrap .u16 (Int.ofNat 1 * Int.ofNat 2 ^ min (Int.toNat (Int.ofNat i)) 16)))))) then Option.casesOn (List.set c (Nat.add 1 (Nat.mul (Int.toNat (Int.ofNat k)) 1)) (.int .u16 (ibits BinOp.or IntKind.u16 (ofI val) (IntKind.wrap .u16 (Int.ofNat 1 * Int.ofNat 2 ^ min (Int.toNat (Int.ofNat i)) 16)))))[Nat.add 13 (Nat.mul (Int.toNat (Int.ofNat i)) 1)]? (.fail 423) fun val_4 => bif isI IntKind.u16 val_4 then bif m_eqv (.int .u16 (ofI val_4)) (.int .u16 (ofI val_3)) then Option.casesOn (List.set c (Nat.add 1 (Nat.mul (Int.toNat (Int.ofNat k)) 1)) (.int .u16 (ibits BinOp.or IntKind.u16 (ofI val) (IntKind.wrap .u16 (Int.ofNat 1 * Int.ofNat 2 ^ min (Int.toNat (Int.ofNat i)) 16)))))[Nat.add 13 (Nat.mul (Int.toNat (Int.ofNat i)) 1)]? (.fail 423) fun val_5 => bif isI IntKind.u16 val_5 then bif m_eqv (.int .u16 (ofI val_5)) (.int .u16 (ofI val_3)) then bif true && (m_nns (List.set (List.set c (Nat.add 1 (Nat.mul (Int.toNat (Int.ofNat k)) 1)) (.int .u16 (ibits BinOp.or IntKind.u16 (ofI val) (IntKind.wrap .u16 (Int.ofNat 1 * Int.ofNat 2 ^ min (Int.toNat (Int.ofNat i)) 16))))) (Nat.add 13 (Nat.mul (Int.toNat (Int.ofNat i)) 1)) (.int .u16 (ibits BinOp.or IntKind.u16 (ofI val_3) (IntKind.wrap .u16 (Int.ofNat 1 * Int.ofNat 2 ^ min (Int.toNat (Int.ofNat k)) 16))))) && true) then K [some (.pointer (some ⟨0, 0, none⟩)), some (.pointer (some ⟨1, 0, none⟩)), some (I (Int.ofNat i)), some (.slice (some ⟨b, off, some 0⟩) n cap), some (I (Int.ofNat n)), some (I (Int.ofNat i)), some (.slice (some ⟨b2, o2, some 0⟩) l c2), some (I (Int.ofNat l)), some (I (IntKind.wrap .i64 (Int.ofNat k + Int.ofNat 1)))] [] [some (.cells [I (Int.ofNat 0), .int .u16 (Int.ofNat 0), .int .u16 (Int.ofNat 0), .int .u16 (Int.ofNat 0), .int .u16 (Int.ofNat 0), .int .u16 (Int.ofNat 0), .int .u16 (Int.ofNat 0), .int .u16 (Int.ofNat 0), .int .u16 (Int.ofNat 0), .int .u16 (Int.ofNat 0), .int .u16 (Int.ofNat 0), .int .u16 (Int.ofNat 0), .int .u16 (Int.ofNat 0), .int .u16 (Int.ofNat 0), .int .u16 (Int.ofNat 0), .int .u16 (Int.ofNat 0), .int .u16 (Int.ofNat 0), .int .u16 (Int.ofNat 0), .int .u16 (Int.ofNat 0), .int .u16 (Int.ofNat 0), .int .u16 (Int.ofNat 0), .int .u16 (Int.ofNat 0), .int .u16 (Int.ofNat 0), .int .u16 (Int.ofNat 0), .int .u16 (Int.ofNat 0)] 56 0 0), some (.cells (List.set (List.set c (Nat.add 1 (Nat.mul (Int.toNat (Int.ofNat k)) 1)) (.int .u16 (ibits BinOp.or IntKind.u16 (ofI val) (IntKind.wrap .u16 (Int.ofNat 1 * Int.ofNat 2 ^ min (Int.toNat (Int.ofNat i)) 16))))) (Nat.add 13 (Nat.mul (Int.toNat (Int.ofNat i)) 1)) (.int .u16 (ibits BinOp.or IntKind.u16 (ofI val_3) (IntKind.wrap .u16 (Int.ofNat 1 * Int.ofNat 2 ^ min (Int.toNat (Int.ofNat k)) 16))))) 56 1 0)] else F4 else F4 else F4 else F4 else F4 else F4 else F4 else F4 else F4 else F4 else F4 else F4 else F4 else F4 else F4 else F4 else F4 else bif true && (m_nns c && true) then K [some (.pointer (some ⟨0, 0, none⟩)), some (.pointer (some ⟨1, 0, none⟩)), some (I (Int.ofNat i)), some (.slice (some ⟨b, off, some 0⟩) n cap), some (I (Int.ofNat n)), some (I (Int.ofNat i)), some (.slice (some ⟨b2, o2, some 0⟩) l c2), some (I (Int.ofNat l)), some (I (IntKind.wrap .i64 (Int.ofNat k + Int.ofNat 1)))] [] [some (.cells [I (Int.ofNat 0), .int .u16 (Int.ofNat 0), .int .u16 (Int.ofNat 0), .int .u16 (Int.ofNat 0), .int .u16 (Int.ofNat 0), .int .u16 (Int.ofNat 0), .int .u16 (Int.ofNat 0), .int .u16 (Int.ofNat 0), .int .u16 (Int.ofNat 0), .int .u16 (Int.ofNat 0), .int .u16 (Int.ofNat 0), .int .u16 (Int.ofNat 0), .int .u16 (Int.ofNat 0), .int .u16 (Int.ofNat 0), .int .u16 (Int.ofNat 0), .int .u16 (Int.ofNat 0), .int .u16 (Int.ofNat 0), .int .u16 (Int.ofNat 0), .int .u16 (Int.ofNat 0), .int .u16 (Int.ofNat 0), .int .u16 (Int.ofNat 0), .int .u16 (Int.ofNat 0), .int .u16 (Int.ofNat 0), .int .u16 (Int.ofNat 0), .int .u16 (Int.ofNat 0)] 56 0 0), some (.cells c 56 1 0)] else F4 else F4 else F4 else bif true && (m_nns c && true) then KX 2 [some (.pointer (some ⟨0, 0, none⟩)), some (.pointer (some ⟨1, 0, none⟩)), some (.slice (some ⟨b, off, some 0⟩) n cap), some (I (Int.ofNat n)), some (I (Int.ofNat i))] [] [some (.cells [I (Int.ofNat 0), .int .u16 (Int.ofNat 0), .int .u16 (Int.ofNat 0), .int .u16 (Int.ofNat 0), .int .u16 (Int.ofNat 0), .int .u16 (Int.ofNat 0), .int .u16 (Int.ofNat 0), .int .u16 (Int.ofNat 0), .int .u16 (Int.ofNat 0), .int .u16 (Int.ofNat 0), .int .u16 (Int.ofNat 0), .int .u16 (Int.ofNat 0), .int .u16 (Int.ofNat 0), .int .u16 (Int.ofNat 0), .int .u16 (Int.ofNat 0), .int .u16 (Int.ofNat 0), .int .u16 (Int.ofNat 0), .int .u16 (Int.ofNat 0), .int .u16 (Int.ofNat 0), .int .u16 (Int.ofNat 0), .int .u16 (Int.ofNat 0), .int .u16 (Int.ofNat 0), .int .u16 (Int.ofNat 0), .int .u16 (Int.ofNat 0), .int .u16 (Int.ofNat 0)] 56 0 0), some (.cells c 56 1 0)] else F4 := by kernel_rfl
theorem odE (r : Mem) (b off n cap i : Nat) (c : List Value) (fs : FnsC) (K : KO) (kx : Nat → KS) (kr : KS) : run (SC r) 120273764861 52 1 ORd_10 fs none (rbK 0 lvOD [] K) kx kr [] (bT lvOD (vOD b off n cap i) .nil) [] (mkA [oOr z25 0, oOr c 1]) =
    bif true && (m_nns c && true) then K [some (.pointer (some ⟨0, 0, none⟩)), some (.pointer (some ⟨1, 0, none⟩)), some (.slice (some ⟨b, off, some 0⟩) n cap), some (I (Int.ofNat n)), some (I (IntKind.wrap .i64 (Int.ofNat i + Int.ofNat 1)))] [] [some (.cells [I (Int.ofNat 0), .int .u16 (Int.ofNat 0), .int .u16 (Int.ofNat 0), .int .u16 (Int.ofNat 0), .int .u16 (Int.ofNat 0), .int .u16 (Int.ofNat 0), .int .u16 (Int.ofNat 0), .int .u16 (Int.ofNat 0), .int .u16 (Int.ofNat 0), .int .u16 (Int.ofNat 0), .int .u16 (Int.ofNat 0), .int .u16 (Int.ofNat 0), .int .u16 (Int.ofNat 0), .int .u16 (Int.ofNat 0), .int .u16 (Int.ofNat 0), .int .u16 (Int.ofNat 0), .int .u16 (Int.ofNat 0), .int .u16 (Int.ofNat 0), .int .u16 (Int.ofNat 0), .int .u16 (Int.ofNat 0), .int .u16 (Int.ofNat 0), .int .u16 (Int.ofNat 0), .int .u16 (Int.ofNat 0), .int .u16 (Int.ofNat 0), .int .u16 (Int.ofNat 0)] 56 0 0), some (.cells c 56 1 0)] else F4 := by kernel_rfl
end Go.Proofs
namespace Go.Proofs
open Go Go.Ev Go.Num
theorem ioX_all {w : Nat → Nat} {y : Nat} : ∀ {m : Nat}, ioX w y m = true ↔ ∀ v, v < m → (w y).testBit v = true → anN (w v) (w y) = 0
 | 0 => ⟨fun _ v h => by omega, fun _ => rfl⟩
 | m + 1 => by
  rw [ioX, Bool.and_eq_true, ioX_all (m := m)]
  constructor
  ·rintro ⟨h1, h2⟩ v hv hb
   by_cases e : v = m
   ·subst e
    rw [hb] at h2
    simpa using h2
   ·exact h1 v (by omega) hb
  ·intro h
   refine ⟨fun v hv => h v (by omega), ?_⟩
   cases q : (w y).testBit m with
   | false => rfl
   | true => simpa using h m (by omega) q
theorem ioY_all {w : Nat → Nat} : ∀ {m : Nat}, ioY w m = true ↔ ∀ y, y < m → (w y).testBit y = false ∧ ioX w y 16 = true
 | 0 => ⟨fun _ v h => by omega, fun _ => rfl⟩
 | m + 1 => by
  rw [ioY, Bool.and_eq_true, Bool.and_eq_true, Bool.not_eq_true', ioY_all (m := m)]
  exact ⟨fun ⟨h1, h2, h3⟩ y hy => by
   by_cases e : y = m
   ·rw [e]; exact ⟨h2, h3⟩
   ·exact h1 y (by omega), fun h => ⟨fun y hy => h y (by omega), h m (by omega)⟩⟩
theorem trK_all {T : List (List Bool)} {i k : Nat} : ∀ {m : Nat}, trK T i k m = true ↔ ∀ z, z < m → badO T i k z = false
 | 0 => ⟨fun _ v h => by omega, fun _ => rfl⟩
 | m + 1 => by
  rw [trK, Bool.and_eq_true, Bool.not_eq_true', trK_all (m := m)]
  exact ⟨fun ⟨h1, h2⟩ y hy => by
   by_cases e : y = m
   ·rw [e]; exact h2
   ·exact h1 y (by omega), fun h => ⟨fun y hy => h y (by omega), h m (by omega)⟩⟩
theorem trJ_all {T : List (List Bool)} {i : Nat} : ∀ {m : Nat}, trJ T i m = true ↔ ∀ k, k < m → trK T i k T.length = true
 | 0 => ⟨fun _ v h => by omega, fun _ => rfl⟩
 | m + 1 => by
  rw [trJ, Bool.and_eq_true, trJ_all (m := m)]
  exact ⟨fun ⟨h1, h2⟩ y hy => by
   by_cases e : y = m
   ·rw [e]; exact h2
   ·exact h1 y (by omega), fun h => ⟨fun y hy => h y (by omega), h m (by omega)⟩⟩
theorem trI_all {T : List (List Bool)} : ∀ {m : Nat}, trI T m = true ↔ ∀ i, i < m → trJ T i T.length = true
 | 0 => ⟨fun _ v h => by omega, fun _ => rfl⟩
 | m + 1 => by
  rw [trI, Bool.and_eq_true, trI_all (m := m)]
  exact ⟨fun ⟨h1, h2⟩ y hy => by
   by_cases e : y = m
   ·rw [e]; exact h2
   ·exact h1 y (by omega), fun h => ⟨fun y hy => h y (by omega), h m (by omega)⟩⟩
def lenO (T : List (List Bool)) : Nat → Bool
 | 0 => true
 | i + 1 => lenO T i && ((T.getD i []).length == T.length)
theorem lenI_all {T : List (List Bool)} : ∀ {m : Nat}, lenI T m = true ↔ lenO T m = true ∧ ∀ i, i < m → gT T i i = false
 | 0 => ⟨fun _ => ⟨rfl, fun v h => by omega⟩, fun _ => rfl⟩
 | m + 1 => by
  rw [lenI, lenO, Bool.and_eq_true, Bool.and_eq_true, Bool.and_eq_true, Bool.not_eq_true', lenI_all (m := m)]
  exact ⟨fun ⟨⟨h1, h0⟩, h2, h3⟩ => ⟨⟨h1, h2⟩, fun y hy => by
   by_cases e : y = m
   ·rw [e]; exact h3
   ·exact h0 y (by omega)⟩, fun ⟨⟨h1, h2⟩, h⟩ => ⟨⟨h1, fun y hy => h y (by omega)⟩, h2, h m (by omega)⟩⟩
theorem lenO_no {T : List (List Bool)} : ∀ {n i : Nat}, i < n → (T.getD i []).length ≠ T.length → lenO T n = false
 | n + 1, i, hi, h => by
  simp only [lenO]
  by_cases c : i = n
  ·subst c
   rw [show ((T.getD i []).length == T.length) = false by simpa using h, Bool.and_false]
  ·rw [lenO_no (by omega) h, Bool.false_and]
def clW (T : List (List Bool)) (j : Nat) : Nat := clO T j T.length
theorem clW_bit (T : List (List Bool)) (j x : Nat) : (clW T j).testBit x = (decide (x < T.length) && gT T x j) := clO_bit T j T.length x
theorem io_ck {T : List (List Bool)} (hn : T.length ≤ 12) : ioY (clW T) T.length = true ↔ (∀ i, i < T.length → gT T i i = false) ∧ trI T T.length = true := by
 rw [ioY_all, trI_all]
 constructor
 ·intro h
  refine ⟨fun i hi => ?_, fun x hx => trJ_all.2 fun y hy => trK_all.2 fun z hz => ?_⟩
  ·have := (h i hi).1
   rw [clW_bit, decide_eq_true hi, Bool.true_and] at this
   exact this
  ·unfold badO
   cases q1 : gT T x y with
   | false => rfl
   | true =>
    cases q2 : gT T y z with
    | false => rfl
    | true =>
     have h1 := ioX_all.1 (h z hz).2 y (by omega) (by rw [clW_bit, decide_eq_true hy, q2]; rfl)
     have h2 := in_bit.1 (an_zero.1 h1) x (by rw [clW_bit, decide_eq_true hx, q1]; rfl)
     rw [clW_bit, decide_eq_true hx, Bool.true_and] at h2
     rw [h2]; rfl
 ·rintro ⟨h1, h2⟩ y hy
  refine ⟨by rw [clW_bit, h1 y hy, Bool.and_false], ioX_all.2 fun v hv hb => ?_⟩
  rw [clW_bit, Bool.and_eq_true, decide_eq_true_eq] at hb
  refine an_zero.2 (in_bit.2 fun x hx => ?_)
  rw [clW_bit, Bool.and_eq_true, decide_eq_true_eq] at hx
  have h3 := trK_all.1 (trJ_all.1 (h2 x hx.1) v hb.1) y hy
  unfold badO at h3
  rw [hx.2, hb.2] at h3
  rw [clW_bit, decide_eq_true hx.1]
  simpa using h3
theorem ckO_eq {T : List (List Bool)} : ckO T = (decide (1 ≤ T.length ∧ T.length ≤ 12) && (lenO T T.length && ioY (clW T) T.length)) := by
 unfold ckO
 by_cases c : 1 ≤ T.length ∧ T.length ≤ 12
 ·rw [decide_eq_true c, Bool.true_and, Bool.true_and, Bool.eq_iff_iff, Bool.and_eq_true, Bool.and_eq_true, lenI_all, io_ck c.2, and_assoc]
 ·rw [decide_eq_false c, Bool.false_and, Bool.false_and]
end Go.Proofs
namespace Go.Proofs
open Go Go.Ev Go.Num
section
variable {r : Mem} {n : Nat} {w a : Nat → Nat}
theorem io_ok (hm : ∀ b j u, tabM b j = some u → r b j = some u) (hn : n ≤ 12) (hw : ∀ j, w j < 2 ^ n) : GrT Tryd.prog r 43 [.agg ⟨orC n w a⟩] (.bool (ioY w n)) := by
 have hw4 : ∀ j, w j < 4096 := fun j => lt12 hn (hw j)
 generalize hb : ioY w n = v
 refine GrT.ofS (C := SC r) rfl rfl rfl (callO (SC_ok r) (by kernel_rfl) ((bodySC r _).trans OIo_eq) (nt := 33) (by kernel_rfl) (rs := [.cell 2 4]) (by kernel_rfl) 3145983 rfl ⟨[2], [], fun vs ms os => vs = [some (pq 0)] ∧ ms = [] ∧ os = [oBl v 0]⟩ ?_ fun γ W F kk hwr hF hro h0' => ?_)
 ·rintro vs ms os ⟨rfl, rfl, rfl⟩
  exact ⟨_, mkA [oBl v 0], by kernel_rfl, rfl⟩
 have h0' : ∀ i, 0 ≤ i → γ i = none := h0'
 have w1 : ∀ k : Nat, k ≤ 1000 → IntKind.wrap IntKind.i64 ((k : Int) + ((1 : Nat) : Int)) = ((k + 1 : Nat) : Int) := fun k hk => inc1' (by omega)
 have nn := orC_nn n w a
 have e00 : (orC n w a)[0]? = some (I (n : Nat)) := rfl
 have stop : ∀ {y : Nat}, y < n → (!(w y).testBit y && ioX w y 16) = false → v = false := fun {y} hy h => by
  have h1 : ioY w (y + 1) = false := by rw [ioY, h, Bool.and_false]
  have := ioY_no h1 (n - (y + 1))
  rw [show y + 1 + (n - (y + 1)) = n by omega] at this
  rw [← hb, this]
 let X : Outs := ⟨[2], [], fun vs ms os => ioY w n = true ∧ vs = [some (pq 0)] ∧ ms = [] ∧ os = [oBl false 0]⟩
 refine Go.Ev.Reach.after3R (SC_ok r) TOk.nil (tm := .nil) (L := 1) (L' := 1) (d := 1) hF hro h0' (.step .base)
  (o1 := ⟨lvI, [], fun vs ms os => vs = vI n 0 ∧ ms = [] ∧ os = oI2 (orC n w a)⟩) (o2 := X) [] (fun p hp => nomatch hp) ?_ ?_ ?_
 ·rintro vs ms os ⟨rfl, rfl, rfl⟩
  refine Go.Ev.Reach.blockC (Go.Ev.Reach.loopC (j := n) (lv := lvI) (fl := []) (I := fun j vs ms os => ∃ y : Nat, y ≤ n ∧ j = n - y ∧ ioY w y = true ∧ vs = vI n y ∧ ms = [] ∧ os = oI2 (orC n w a)) (fun j vs ms os hI => ?_) ⟨0, by omega, rfl, rfl, rfl, rfl, rfl⟩)
  obtain ⟨y, hy, rfl, hf, rfl, rfl, rfl⟩ := hI
  refine Go.Ev.Reach.afterR (SC_ok r) TOk.nil (tm := .nil) (L := 1) (L' := 1) (d := 1) hF hro h0' (.step .base) (o1 := ⟨lvI, [], fun vs ms os => y < n ∧ vs = vI n y ∧ ms = [] ∧ os = oI2 (orC n w a)⟩) [(0, ⟨[2], [], fun vs ms os => ioY w n = true ∧ vs = [some (pq 0)] ∧ ms = [] ∧ os = [oBl false 0]⟩)] (fun p hp => by simp only [List.mem_cons, List.not_mem_nil, or_false] at hp; subst hp; rfl) ?_ ?_
  ·rintro vs ms os ⟨hy', rfl, rfl, rfl⟩
   have b2 : Nat.blt y 12 = true := Nat.ble_eq_true_of_le (by omega)
   have gy : (orC n w a)[Nat.add 1 (Nat.mul y 1)]? = some (V ((w y : Nat) : Int)) := by
    rw [show Nat.add 1 (Nat.mul y 1) = 1 + y by simp]; exact orC_w (by omega)
   have hwy := hw4 y
   refine Go.Ev.Reach.seqC (o1 := ⟨lvI, [], fun vs ms os => (!(w y).testBit y && ioX w y 16) = true ∧ vs = vI n y ∧ ms = [] ∧ os = oI2 (orC n w a)⟩) (Go.Ev.Reach.blockC ?_) fun vs ms os hq => ?_
   ·refine Go.Ev.Reach.afterR (SC_ok r) TOk.nil (tm := .nil) (L := 1) (L' := 1) (d := 3) hF hro h0' (.step (.step .base)) (o1 := ⟨lvIq, flI4, fun vs ms os => (w y).testBit y = false ∧ vs = vIq n y ∧ ms = [] ∧ os = oI4 (orC n w a) y (w y)⟩) [] (fun p hp => nomatch hp) ?_ ?_
    ·rintro vs ms os ⟨hbit, rfl, rfl, rfl⟩
     have hl : ((mkA (oI4 (orC n w a) y (w y))).new .defd).next = 5 := by kernel_rfl
     refine Go.Ev.Reach.blockC (Go.Ev.Reach.rangeC (SC_ok r) hF hro h0' (d := 4) (marks := [4]) (A1 := (mkA (oI4 (orC n w a) y (w y))).new .defd) (g := 55) (first := []) (captured := [pq 3]) (S := fun v A' => ∃ os, A' = mkA os ∧ os = (if ioX w y 16 then oO6 n w a y .ready none else oO6 n w a y .done (some .ret))) [] (fun p hp => nomatch hp) (by kernel_rfl) (by kernel_rfl) (by kernel_rfl) ?_ ?_)
     ·have hE : ((mkA (oI4 (orC n w a) y (w y))).new .defd).new (.loop .ready none 3145983 ⟨[], bT lvIq (vIq n y) .nil⟩ 33 #[21] k_o1 k_o2 4) = mkA (oO6 n w a y .ready none) := by kernel_rfl
      show SOk _ _ _ (((mkA (oI4 (orC n w a) y (w y))).new .defd).new (.loop .ready none 3145983 ⟨[], bT lvIq (vIq n y) .nil⟩ 33 #[21] k_o1 k_o2 4)) _
      rw [hE, hl]
      have hnx : (mkA (oO6 n w a y .ready none)).next = 6 := by kernel_rfl
      refine each_iter r hm (l := 5) (p := 3) (fl := flI6) (s := w y) (by omega) (J := fun v os => ioX w y v = true ∧ os = oO6 n w a y .ready none) (E := fun os => os = (if ioX w y 16 then oO6 n w a y .ready none else oO6 n w a y .done (some .ret))) (os0 := oO6 n w a y .ready none)
       ⟨53, 3, 0, by kernel_rfl⟩ ?_ ?_ ?_ ⟨rfl, rfl⟩ (by kernel_rfl)
      ·rintro x os hx hbx ⟨h1, h2⟩
       exact ⟨by rw [ioX, h1, hbx]; rfl, h2⟩
      ·rintro x os hx hbx ⟨h1, rfl⟩
       rw [hnx]
       have hxn : x < n := by
        rcases Nat.lt_or_ge x n with c | c
        ·exact c
        ·rw [high (hw y) c] at hbx; cases hbx
       refine yO hw4 (by omega) (by omega) (fun h => ⟨by rw [ioX, h1, h]; simp, rfl⟩) fun h => ?_
       have h2 : ioX w y (x + 1) = false := by rw [ioX, h1, hbx, h]; rfl
       have h3 := ioX_no h2 (16 - (x + 1))
       rw [show x + 1 + (16 - (x + 1)) = 16 by omega] at h3
       rw [h3]
       rfl
      ·rintro os ⟨h1, rfl⟩
       rw [h1]
       rfl
     ·rintro u A' ⟨os, rfl, rfl⟩
      rw [hl]
      cases hx : ioX w y 16 with
      | true =>
       have hn' := ioT r (orC n w a) n y (w y)
       simp only [nn, Bool.and_true, cond_true] at hn'
       exact (hn' _ _ _).trans (qq_ok ⟨by rw [hbit]; rfl, rfl, rfl, rfl⟩)
      | false =>
       have hv0 : v = false := stop hy' (by rw [hx, Bool.and_false])
       exact (ioU r (orC n w a) n y (w y) _ _ _).trans (qq_ok ⟨rfl, rfl, by rw [hv0]; rfl⟩)
    ·have hn' := ioC r (orC n w a) n y
     simp only [tnO, b2, cond_true, gy, isV_V] at hn'
     dsimp +instances only [ofI_V] at hn'
     simp only [eqv_v, eqv_i, cond_true, has_v (show w y < 65536 by omega) (show y ≤ 16 by omega), nn, Bool.and_self, Bool.and_true] at hn'
     cases q : (w y).testBit y with
     | true =>
      simp only [q, cond_true] at hn'
      have hv0 : v = false := stop hy' (by rw [q]; rfl)
      exact (hn' _ _ _).trans (qq_ok ⟨rfl, rfl, by rw [hv0]; rfl⟩)
     | false =>
      simp only [q, cond_false] at hn'
      exact (hn' _ _ _).trans (qq_ok ⟨rfl, rfl, rfl, rfl⟩)
   ·obtain ⟨hx, rfl, rfl, rfl⟩ := hq
    refine Go.Ev.Reach.segR (SC_ok r) TOk.nil (tm := .nil) (L := 1) (L' := 1) (d := 1) hF hro h0' [] (fun p hp => nomatch hp) ?_
    have hn' := ioG r (orC n w a) n y
    simp only [Int.ofNat_eq_natCast, w1 y (by omega), nn, Bool.and_true, cond_true] at hn'
    exact (hn' _ _ _ _).trans (qq_ok ⟨n - (y + 1), by omega, y + 1, hy', rfl, by rw [ioY, hf, hx]; rfl, rfl, rfl, rfl⟩)
  ·have hn' := ioB r (orC n w a) n y
   simp only [Int.ofNat_eq_natCast, nn, Bool.and_true, cond_true] at hn'
   by_cases c : y < n
   ·simp only [dT (show (y : Int) < (n : Int) by omega), cond_true] at hn'
    exact (hn' _ _ _ _).trans (qq_ok ⟨c, rfl, rfl, rfl⟩)
   ·obtain rfl : y = n := by omega
    simp only [dF (show ¬ (y : Int) < (y : Int) by omega), cond_false] at hn'
    exact (hn' _ _ _ _).trans (qq_ok ⟨hf, rfl, rfl, rfl⟩)
 ·rintro vs ms os ⟨hf, rfl, rfl, rfl⟩
  refine Go.Ev.Reach.segR (SC_ok r) TOk.nil (tm := .nil) (L := 1) (L' := 1) (d := 1) hF hro h0' [] (fun p hp => nomatch hp) ?_
  have hv1 : v = true := by rw [← hb, hf]
  exact (ioH r _ _ _ _).trans (qq_ok ⟨rfl, rfl, by rw [hv1]; rfl⟩)
 ·have hn' := ioA r (orC n w a)
  simp only [e00, isI_I, cond_true] at hn'
  dsimp +instances only [ofI_I] at hn'
  simp only [nn, Bool.and_true, cond_true] at hn'
  exact (hn' _ _ _ _).trans (qq_ok ⟨rfl, rfl, rfl⟩)
end
end Go.Proofs
namespace Go.Proofs
open Go Go.Ev Go.Num
noncomputable def tIo (c : List Value) (v : Bool) : Tbl := tcons 43 (ent (fun args _ => m_svv args [.agg ⟨c⟩]) fun _ _ => .bool v) fun _ => none
theorem odF (r : Mem) (n : Nat) (w a : Nat → Nat) (v : Bool) (K KR : KO) (kx : Nat → KS) : run (SC r) 120273764861 52 1 ORd_11 (lvlT (SC r) (tIo (orC n w a) v) .nil 1 1) none (rbK 0 [2, 3] [] K) kx (rbK 0 [2, 3] [] KR) [] (bT [2, 4] [some (pq 0), some (pq 1)] .nil) [] (mkA [oOr z25 0, oOr (orC n w a) 1]) =
    bif m_svv [.agg ⟨(orC n w a)⟩] [.agg ⟨(orC n w a)⟩] then bif v then KR [some (.pointer (some ⟨0, 0, none⟩)), some (.int .i64 (Int.ofNat 0))] [] [some (.cells (orC n w a) 56 0 0)] else KR [some (.pointer (some ⟨0, 0, none⟩)), some (.int .i64 (Int.ofNat 100))] [] [some (.cells [.int .i64 (Int.ofNat 0), .int .u16 (Int.ofNat 0), .int .u16 (Int.ofNat 0), .int .u16 (Int.ofNat 0), .int .u16 (Int.ofNat 0), .int .u16 (Int.ofNat 0), .int .u16 (Int.ofNat 0), .int .u16 (Int.ofNat 0), .int .u16 (Int.ofNat 0), .int .u16 (Int.ofNat 0), .int .u16 (Int.ofNat 0), .int .u16 (Int.ofNat 0), .int .u16 (Int.ofNat 0), .int .u16 (Int.ofNat 0), .int .u16 (Int.ofNat 0), .int .u16 (Int.ofNat 0), .int .u16 (Int.ofNat 0), .int .u16 (Int.ofNat 0), .int .u16 (Int.ofNat 0), .int .u16 (Int.ofNat 0), .int .u16 (Int.ofNat 0), .int .u16 (Int.ofNat 0), .int .u16 (Int.ofNat 0), .int .u16 (Int.ofNat 0), .int .u16 (Int.ofNat 0)] 56 0 0)] else F4 := by kernel_rfl
end Go.Proofs
namespace Go.Proofs
open Go Go.Ev Go.Num
def roC (T : List (List Bool)) : List Value := if ckO T then orC T.length (wB T T.length 0) (wA T T.length 0) else z25
theorem wB_cl {T : List (List Bool)} : wB T T.length 0 = clW T := funext fun j => by unfold wB clW; rw [if_neg (by omega)]
section
variable {r : Mem} {b off n cap : Nat} {T : List (List Bool)}
theorem ro_ok (hmt : ∀ b j u, tabM b j = some u → r b j = some u) (hM : TabM r b off T) (hn : T.length = n) (hn2 : n ≤ 1000) : GrT Tryd.prog r 29 [RS b off n cap] (.tuple ⟨[.agg ⟨roC T⟩, I (if ckO T then 0 else 100)]⟩) := by
 subst hn
 generalize hv : (if ckO T then (0 : Int) else 100) = v
 generalize hz : roC T = z
 have hgz : ∃ m w a, z = orC m w a := by
  rw [← hz]
  unfold roC
  split
  ·exact ⟨_, _, _, rfl⟩
  ·exact ⟨0, fun _ => 0, fun _ => 0, rfl⟩
 have bad : ckO T = false → v = 100 ∧ z = z25 := fun h => by
  rw [h] at hv
  unfold roC at hz
  rw [h] at hz
  exact ⟨hv.symm, hz.symm⟩
 have bad1 : ¬ (1 ≤ T.length ∧ T.length ≤ 12) → v = 100 ∧ z = z25 := fun h => bad (by rw [ckO_eq, decide_eq_false h, Bool.false_and])
 have badL : ∀ {i : Nat}, i < T.length → (T.getD i []).length ≠ T.length → v = 100 ∧ z = z25 := fun hi h => bad (by rw [ckO_eq, lenO_no hi h, Bool.false_and, Bool.and_false])
 let E : Outs := ⟨[2, 3], [], fun vs ms os => vs = [some (pq 0), some (I v)] ∧ ms = [] ∧ os = [oOr z 0]⟩
 refine GrT.ofS (C := SC r) rfl rfl (by obtain ⟨m, w, a, rfl⟩ := hgz; rfl) (callO (SC_ok r) (by kernel_rfl) ((bodySC r _).trans ORd_eq) (nt := 52) (by kernel_rfl) (rs := [.cell 2 56, .tmp 3]) (by kernel_rfl) 120273764861 rfl E ?_ fun γ W F kk hwr hF hro h0' => ?_)
 ·rintro vs ms os ⟨rfl, rfl, rfl⟩
  obtain ⟨m, w, a, rfl⟩ := hgz
  exact ⟨_, mkA [oOr (orC m w a) 0], by kernel_rfl, rfl⟩
 have h0' : ∀ i, 0 ≤ i → γ i = none := h0'
 have w1 : ∀ k : Nat, k ≤ 1000 → IntKind.wrap IntKind.i64 ((k : Int) + ((1 : Nat) : Int)) = ((k + 1 : Nat) : Int) := fun k hk => inc1' (by omega)
 have e0 : ∀ o k : Nat, Nat.add o (Nat.mul k 1) = o + k := fun o k => by simp
 let st : Nat → Nat → List Value := fun i k => orC T.length (wB T i k) (wA T i k)
 have snn : ∀ i k, m_nns (st i k) = true := fun i k => orC_nn _ _ _
 have s00 : ∀ i k, (st i k)[0]? = some (I (T.length : Nat)) := fun i k => rfl
 refine Go.Ev.Reach.after3R (SC_ok r) TOk.nil (tm := .nil) (L := 1) (L' := 1) (d := 1) hF hro h0' (.step (.step (.step .base)))
  (o1 := ⟨lvOD, [], fun vs ms os => (1 ≤ T.length ∧ T.length ≤ 12) ∧ vs = vOD b off T.length cap 0 ∧ ms = [] ∧ os = [oOr z25 0, oOr (st 0 0) 1]⟩)
  (o2 := ⟨[2, 4], [], fun vs ms os => ((1 ≤ T.length ∧ T.length ≤ 12) ∧ lenO T T.length = true) ∧ vs = [some (pq 0), some (pq 1)] ∧ ms = [] ∧ os = [oOr z25 0, oOr (st T.length 0) 1]⟩) [] (fun p hp => nomatch hp) ?_ ?_ ?_
 ·rintro vs ms os ⟨hn, rfl, rfl, rfl⟩
  refine Go.Ev.Reach.blockC (Go.Ev.Reach.loopC (j := T.length) (lv := lvOD) (fl := []) (I := fun j vs ms os => ∃ i : Nat, i ≤ T.length ∧ j = T.length - i ∧ lenO T i = true ∧ vs = vOD b off T.length cap i ∧ ms = [] ∧ os = [oOr z25 0, oOr (st i 0) 1]) (fun j vs ms os hI => ?_) ⟨0, by omega, rfl, rfl, rfl, rfl, rfl⟩)
  obtain ⟨i, hi, rfl, hl, rfl, rfl, rfl⟩ := hI
  have hB := odB r b off T.length cap i (st i 0)
  simp only [Int.ofNat_eq_natCast, snn, Bool.and_true, Bool.true_and, cond_true] at hB
  by_cases c : i < T.length
  ·simp only [dT (show (i : Int) < (T.length : Int) by omega), cond_true] at hB
   refine Go.Ev.Reach.afterR (SC_ok r) TOk.nil (tm := .nil) (L := 1) (L' := 1) (d := 1) hF hro h0' (.step .base) (o1 := ⟨lvOD, [], fun vs ms os => vs = vOD b off T.length cap i ∧ ms = [] ∧ os = [oOr z25 0, oOr (st i 0) 1]⟩) [(0, ⟨[2, 4], [], fun vs ms os => ((1 ≤ T.length ∧ T.length ≤ 12) ∧ lenO T T.length = true) ∧ vs = [some (pq 0), some (pq 1)] ∧ ms = [] ∧ os = [oOr z25 0, oOr (st T.length 0) 1]⟩)] (fun p hp => by simp only [List.mem_cons, List.not_mem_nil, or_false] at hp; subst hp; rfl) (fun vs ms os hq => ?_) ((hB _ _ _ _).trans (qq_ok ⟨rfl, rfl, rfl⟩))
   obtain ⟨rfl, rfl, rfl⟩ := hq
   refine Go.Ev.Reach.seqC (o1 := ⟨lvOD, [], fun vs ms os => (T.getD i []).length = T.length ∧ vs = vOD b off T.length cap i ∧ ms = [] ∧ os = [oOr z25 0, oOr (st (i + 1) 0) 1]⟩) (Go.Ev.Reach.blockC ?_) fun vs ms os hq => ?_
   ·have b1 : Nat.blt i T.length = true := Nat.ble_eq_true_of_le (by omega)
    by_cases hz0 : (T.getD i []).length = T.length
    ·obtain ⟨b2, o2, c2, hu, hr⟩ := tab_RS hM c (by omega)
     rw [hz0] at hu hr
     have q1 : ((T.length : Int) != (T.length : Int)) = false := neF rfl
     have hC := odCR r b off T.length cap i (st i 0)
     simp only [Int.ofNat_eq_natCast, Int.toNat_natCast, b1, e0, hu, ro_RS, ln_RS, bk_RS, of_RS, cp_RS, s00, isI_I, cond_true] at hC
     dsimp +instances only [ofI_I] at hC
     simp only [q1, snn, Bool.and_true, Bool.true_and, cond_true, cond_false] at hC
     refine reach_hs (sh := 2) (Go.Ev.Reach.afterR (SS_ok r 2) (TOk.sh 2 TOk.nil) (tm := .nil) (L := 1) (L' := 1) (d := 1) hF hro h0' (.step (.step .base)) (o1 := ⟨lvOE, [], fun vs ms os => vs = vOE b off T.length cap i b2 o2 T.length c2 0 ∧ ms = [] ∧ os = [oOr z25 0, oOr (st i 0) 1]⟩) [] (fun p hp => nomatch hp) (fun vs ms os hq => reach_sh ?_) ((hC _ _ _ _).trans (qq_ok ⟨rfl, rfl, rfl⟩)))
     obtain ⟨rfl, rfl, rfl⟩ := hq
     refine Go.Ev.Reach.blockC (Go.Ev.Reach.loopC (j := T.length) (lv := lvOE) (fl := []) (I := fun j vs ms os => ∃ k : Nat, k ≤ T.length ∧ j = T.length - k ∧ vs = vOE b off T.length cap i b2 o2 T.length c2 k ∧ ms = [] ∧ os = [oOr z25 0, oOr (st i k) 1]) (fun j vs ms os hI => ?_) ⟨0, by omega, rfl, rfl, rfl, rfl⟩)
     obtain ⟨k, hk, rfl, rfl, rfl, rfl⟩ := hI
     refine Go.Ev.Reach.segR (SC_ok r) TOk.nil (tm := .nil) (L := 1) (L' := 1) (d := 3) hF hro h0' [(2, ⟨lvOD, [], fun vs ms os => (T.getD i []).length = T.length ∧ vs = vOD b off T.length cap i ∧ ms = [] ∧ os = [oOr z25 0, oOr (st (i + 1) 0) 1]⟩)] (fun p hp => by simp only [List.mem_cons, List.not_mem_nil, or_false] at hp; subst hp; rfl) ?_
     have hn' := odD r b off T.length cap i b2 o2 T.length c2 k (st i k)
     simp only [tnO] at hn'
     by_cases ck : k < T.length
     ·have b3 : Nat.blt k T.length = true := Nat.ble_eq_true_of_le (by omega)
      have b4 : Nat.blt i 12 = true := Nat.ble_eq_true_of_le (by omega)
      have b4' : Nat.blt k 12 = true := Nat.ble_eq_true_of_le (by omega)
      have hlw := wB_lt (T := T) (i := i) (by omega) k k
      have hla := wA_lt hn.2 (k := k) (by omega) i i
      have h2i : 2 ^ i < 4096 := Nat.pow_lt_pow_right (n := 12) (by decide) (by omega)
      have h2k : 2 ^ k < 4096 := Nat.pow_lt_pow_right (n := 12) (by decide) (by omega)
      have ho1 : ibits .or .u16 ((wB T i k k : Nat) : Int) ((2 ^ i : Nat) : Int) = ((wB T i k k ||| 2 ^ i : Nat) : Int) := (uV (by omega) (by omega)).1
      have ho2 : ibits .or .u16 ((wA T i k i : Nat) : Int) ((2 ^ k : Nat) : Int) = ((wA T i k i ||| 2 ^ k : Nat) : Int) := (uV (by omega) (by omega)).1
      have g1 : (st i k)[1 + k]? = some (V ((wB T i k k : Nat) : Int)) := orC_w (by omega)
      have b5 : Nat.blt (1 + k) (st i k).length = true := by rw [show (st i k).length = 25 from rfl]; exact Nat.ble_eq_true_of_le (by omega)
      have hset1 : (st i k).set (1 + k) (V ((wB T i k k ||| 2 ^ i : Nat) : Int)) = orC T.length (fun j => if j = k then wB T i k k ||| 2 ^ i else wB T i k j) (wA T i k) := orC_setw (by omega)
      have hs1 := shlV (b := i) (by omega)
      have hs2 := shlV (b := k) (by omega)
      have hi' : (Int.ofNat i).toNat = i := rfl
      simp only [dT (show (Int.ofNat k) < (Int.ofNat T.length) by simp; omega), b3, b4, b4', e0, hr k ck, b_bl, o_bl, cond_true] at hn'
      rw [show IntKind.wrap IntKind.i64 (Int.ofNat k + Int.ofNat 1) = ((k + 1 : Nat) : Int) from w1 k (by omega)] at hn'
      cases hg : gT T i k with
      | true =>
       have hput : ((st i k).set (1 + k) (V ((wB T i k k ||| 2 ^ i : Nat) : Int))).set (13 + i) (V ((wA T i k i ||| 2 ^ k : Nat) : Int)) = st i (k + 1) := put_ok (by omega) (by omega) hg
       have g2 : ((st i k).set (1 + k) (V ((wB T i k k ||| 2 ^ i : Nat) : Int)))[13 + i]? = some (V ((wA T i k i : Nat) : Int)) := by rw [hset1]; exact orC_a (by omega)
       have b6 : Nat.blt (13 + i) ((st i k).set (1 + k) (V ((wB T i k k ||| 2 ^ i : Nat) : Int))).length = true := by rw [List.length_set, show (st i k).length = 25 from rfl]; exact Nat.ble_eq_true_of_le (by omega)
       simp only [hg, cond_true, g1, isV_V, b5] at hn'
       dsimp +instances only [ofI_V] at hn'
       simp only [eqv_v, cond_true, hs1, ho1, g2, isV_V, b6] at hn'
       dsimp +instances only [ofI_V] at hn'
       simp only [eqv_v, cond_true, hs2, ho2, hput, snn, Bool.and_true, Bool.true_and] at hn'
       exact (hn' _ _ _).trans (qq_ok ⟨T.length - (k + 1), by omega, k + 1, ck, rfl, rfl, rfl, rfl⟩)
      | false =>
       simp only [hg, cond_false, snn, Bool.and_true, Bool.true_and, cond_true] at hn'
       have hsk : st i k = st i (k + 1) := skip_ok hg
       rw [hsk] at hn'
       rw [hsk]
       exact (hn' _ _ _).trans (qq_ok ⟨T.length - (k + 1), by omega, k + 1, ck, rfl, rfl, rfl, rfl⟩)
     ·obtain rfl : k = T.length := by omega
      simp only [Int.ofNat_eq_natCast, dF (show ¬ (T.length : Int) < (T.length : Int) by omega), cond_false, snn, Bool.and_true, Bool.true_and, cond_true] at hn'
      exact (hn' _ _ _).trans (qq_ok ⟨hz0, rfl, rfl, by rw [show st (i + 1) 0 = st i T.length from (next_ok hz0).symm]; rfl⟩)
    ·obtain ⟨b1', b2'⟩ := badL c hz0
     by_cases hzz : (T.getD i []).length = 0
     ·obtain ⟨u, hu, hr⟩ := tab_row hM c
      have hun : u = nilT := by
       rcases hr with ⟨_, h⟩ | ⟨h, _⟩
       ·exact h
       ·exact absurd (List.length_eq_zero_iff.1 hzz) h
      subst hun
      have q0 : isNilS nilT = true := rfl
      have q1 : (((0 : Nat) : Int) != (T.length : Int)) = true := neT (by omega)
      have hC := odCN r b off T.length cap i (st i 0)
      simp only [Int.ofNat_eq_natCast, Int.toNat_natCast, b1, e0, hu, q0, s00, isI_I, cond_true] at hC
      dsimp +instances only [ofI_I] at hC
      simp only [q1, cond_true] at hC
      exact reach_hs (sh := 1) (Go.Ev.Reach.afterR (SS_ok r 1) (TOk.sh 1 TOk.nil) (tm := .nil) (L := 1) (L' := 1) (d := 1) hF hro h0' (.step (.step .base)) (o1 := ⟨lvOE, [], fun _ _ _ => False⟩) [] (fun p hp => nomatch hp) (fun vs ms os hq => hq.elim) ((hC _ _ _ _).trans (qq_ok ⟨by rw [b1']; rfl, rfl, by rw [b2']; rfl⟩)))
     ·obtain ⟨b2, o2, c2, hu, hr⟩ := tab_RS hM c hzz
      have q1 : (((T.getD i []).length : Int) != (T.length : Int)) = true := neT (by omega)
      have hC := odCR r b off T.length cap i (st i 0)
      simp only [Int.ofNat_eq_natCast, Int.toNat_natCast, b1, e0, hu, ro_RS, ln_RS, s00, isI_I, cond_true] at hC
      dsimp +instances only [ofI_I] at hC
      simp only [q1, cond_true] at hC
      exact reach_hs (sh := 2) (Go.Ev.Reach.afterR (SS_ok r 2) (TOk.sh 2 TOk.nil) (tm := .nil) (L := 1) (L' := 1) (d := 1) hF hro h0' (.step (.step .base)) (o1 := ⟨lvOE, [], fun _ _ _ => False⟩) [] (fun p hp => nomatch hp) (fun vs ms os hq => hq.elim) ((hC _ _ _ _).trans (qq_ok ⟨by rw [b1']; rfl, rfl, by rw [b2']; rfl⟩)))
   ·obtain ⟨hz0, rfl, rfl, rfl⟩ := hq
    refine Go.Ev.Reach.segR (SC_ok r) TOk.nil (tm := .nil) (L := 1) (L' := 1) (d := 1) hF hro h0' [] (fun p hp => nomatch hp) ?_
    have hn' := odE r b off T.length cap i (st (i + 1) 0)
    simp only [Int.ofNat_eq_natCast, snn, Bool.and_true, Bool.true_and, cond_true, w1 i (by omega)] at hn'
    exact (hn' _ _ _ _).trans (qq_ok ⟨T.length - (i + 1), by omega, i + 1, c, rfl, by simp only [lenO, hl, hz0, beq_self_eq_true, Bool.and_self], rfl, rfl, rfl⟩)
  ·obtain rfl : i = T.length := by omega
   simp only [dF (show ¬ (T.length : Int) < (T.length : Int) by omega), cond_false] at hB
   exact Go.Ev.Reach.afterR (SC_ok r) TOk.nil (tm := .nil) (L := 1) (L' := 1) (d := 1) hF hro h0' (.step .base) (o1 := ⟨lvOD, [], fun _ _ _ => False⟩) [(0, ⟨[2, 4], [], fun vs ms os => ((1 ≤ T.length ∧ T.length ≤ 12) ∧ lenO T T.length = true) ∧ vs = [some (pq 0), some (pq 1)] ∧ ms = [] ∧ os = [oOr z25 0, oOr (st T.length 0) 1]⟩)] (fun p hp => by simp only [List.mem_cons, List.not_mem_nil, or_false] at hp; subst hp; rfl) (fun vs ms os hq => hq.elim) ((hB _ _ _ _).trans (qq_ok ⟨⟨hn, hl⟩, rfl, rfl, rfl⟩))
 ·rintro vs ms os ⟨⟨hn, hl⟩, rfl, rfl, rfl⟩
  have hck : ckO T = ioY (clW T) T.length := by rw [ckO_eq, decide_eq_true hn, hl]; rfl
  have hio := io_ok (r := r) (n := T.length) (w := wB T T.length 0) (a := wA T T.length 0) hmt hn.2 (fun j => by rw [wB_cl]; exact clO_lt T j _)
  rw [wB_cl, ← hck, ← wB_cl] at hio
  generalize hcc : ckO T = cc at hio
  refine Go.Ev.Reach.segR (SC_ok r) (t := tIo (st T.length 0) cc) (TOk.nil.cons (EOk.ent fun args A hg => ?_)) (tm := .nil) (L := 1) (L' := 1) (d := 1) hF hro h0' [] (fun p hp => nomatch hp) ?_
  ·have hs := @of_decide_eq_true _ (Classical.propDecidable _) hg
   subst hs
   exact hio.ro rfl A
  ·have hn' := odF r T.length (wB T T.length 0) (wA T T.length 0) cc
   cases cc with
   | true =>
    simp only [svv_rfl, cond_true] at hn'
    exact (hn' _ _ _).trans (qq_ok ⟨by rw [← hv, hcc]; rfl, rfl, by rw [← hz]; unfold roC; rw [hcc]; rfl⟩)
   | false =>
    obtain ⟨b1', b2'⟩ := bad hcc
    simp only [svv_rfl, cond_true, cond_false] at hn'
    exact (hn' _ _ _).trans (qq_ok ⟨by rw [b1']; rfl, rfl, by rw [b2']; rfl⟩)
 ·have hn' := odA r b off T.length cap
  simp only [Int.ofNat_eq_natCast] at hn'
  by_cases c : (T.length : Int) < 1
  ·simp only [dT c, cond_true] at hn'
   obtain ⟨b1, b2⟩ := bad1 (by omega)
   exact (hn' _ _ _ _).trans (qq_ok ⟨by rw [b1]; rfl, rfl, by rw [b2]; rfl⟩)
  ·simp only [dF c, cond_false] at hn'
   by_cases c2 : (T.length : Int) > 12
   ·simp only [dT c2, cond_true] at hn'
    obtain ⟨b1, b2⟩ := bad1 (by omega)
    exact (hn' _ _ _ _).trans (qq_ok ⟨by rw [b1]; rfl, rfl, by rw [b2]; rfl⟩)
   ·simp only [dF c2, cond_false] at hn'
    exact (hn' _ _ _ _).trans (qq_ok ⟨⟨by omega, by omega⟩, rfl, rfl, rfl⟩)
end
end Go.Proofs
namespace Go.Proofs
open Go Go.Ev Go.Num
abbrev x4 (x : Nat → Int) : Value := .agg ⟨[I (x 0), I (x 1), I (x 2), I (x 3)]⟩
noncomputable def eRd (x : Value) (m : Nat) (w a : Nat → Nat) : Ent := ent (fun args _ => m_svv args [x]) fun _ _ => .tuple ⟨[.agg ⟨orC m w a⟩, I 0]⟩
section
variable {T : List (List Bool)}
theorem ck_len (hc : ckO T = true) : 1 ≤ T.length ∧ T.length ≤ 12 := by
 unfold ckO at hc
 rw [Bool.and_eq_true, decide_eq_true_eq] at hc
 exact hc.1
theorem ck_row (hc : ckO T = true) {i : Nat} (hi : i < T.length) : (T.getD i []).length = T.length ∧ gT T i i = false := by
 unfold ckO at hc
 rw [Bool.and_eq_true, Bool.and_eq_true] at hc
 exact lenI_get hc.2.1 i hi
end
end Go.Proofs
namespace Go.Proofs
open Go Go.Ev
def rfAs : Code → Code | .rangeFunc _ _ a _ => a | c => c
def rfBd : Code → Code | .rangeFunc _ _ _ b => b | c => c
noncomputable def cKs : Code := bodyOf S0 68
noncomputable def cAq : Code := bodyOf S0 77
noncomputable def cCo : Code := bodyOf S0 66
abbrev seqV : Value := .func (.func 68) ⟨[]⟩ ⟨[.pointer (some ⟨0, 0, none⟩)]⟩
def AK0 (e z clock : Nat) (es : List MapEntry) : AW := ⟨2, .node (.node .nil (some (.map es clock)) .nil) (some (.cells [.map (some 1)] e 0 z)) .nil, .nil⟩
noncomputable def k_aqA : Code := rfAs (ic (rc (lc (rc cAq))))
noncomputable def k_aqB : Code := rfBd (ic (rc (lc (rc cAq))))
def TQ : Tr Value := .node (.node .nil (some seqV) .nil) (some (.slice none 0 0)) (.node (.node .nil (some (.slice none 0 0)) .nil) (some (.pointer (some ⟨2, 0, none⟩))) .nil)
noncomputable def AKg (e z clock : Nat) (es : List MapEntry) (n : Nat) (sv : Value) (s5 s6 : Tr AObj) : AW :=
 ⟨n, .node (.node (.node .nil (some .defd) .nil) (some (.map es clock)) s5) (some (.cells [.map (some 1)] e 0 z)) (.node (.node .nil (some (.loop .ready none 183 ⟨[(6, seqV)], TQ⟩ 13 ⟨[7]⟩ k_aqA k_aqB 3)) .nil) (some (.cells [sv] 72 2 0)) s6), .nil⟩
def miT (clock : Nat) (seen : List Nat) : Tr AObj := .node .nil (some (.miter 1 clock seen clock)) .nil
def rwT (i : Nat) (l : List Value) : Tr AObj := .node .nil (some (.cells l 53 i 1)) .nil
def yK : List Value := [.func (.yield 4) ⟨[]⟩ ⟨[]⟩, .pointer (some ⟨0, 0, none⟩)]
def TK : Tr Value := .node (.node .nil (some (.pointer (some ⟨0, 0, none⟩))) (.node .nil (some (.pointer (some ⟨5, 0, none⟩))) .nil)) (some (.func (.yield 4) ⟨[]⟩ ⟨[]⟩)) .nil
def TKz (z : Int) : Tr Value := .node (.node (.node .nil (some (.int .u16 z)) .nil) (some (.pointer (some ⟨0, 0, none⟩))) (.node .nil (some (.pointer (some ⟨5, 0, none⟩))) .nil)) (some (.func (.yield 4) ⟨[]⟩ ⟨[]⟩)) .nil
theorem kyB (r : Mem) (L : Nat) (fs : FnsC) (e z clock : Nat) (es : List MapEntry) (kn : KS) (kx : Nat → KS) (kr : KS) (ms : List Nat) : run (SC r) 43 14 L (lc cKs) fs none kn kx kr (sc0 43 yK) (tr0 43 yK) ms (AKg e z clock es 5 (.slice none 0 0) .nil .nil) =
    kn [(4, Value.map (some 1))] (.node (.node .nil (some (.pointer (some ⟨0, 0, none⟩))) (.node .nil (some (.pointer (some ⟨5, 0, none⟩))) .nil)) (some (.func (Fn.yield 4) ⟨[]⟩ ⟨[]⟩)) .nil) ms (AW.mk 6 (.node (.node (.node .nil (some .defd) .nil) (some (AObj.map es clock)) (.node .nil (some (AObj.miter 1 clock [] clock)) .nil)) (some (.cells [Value.map (some 1)] e 0 z)) (.node (.node .nil (some (AObj.loop LoopState.ready none 183 (En.mk [(6, .func (Fn.func 68) ⟨[]⟩ ⟨[.pointer (some ⟨0, 0, none⟩)]⟩)] (.node (.node .nil (some (.func (Fn.func 68) ⟨[]⟩ ⟨[.pointer (some ⟨0, 0, none⟩)]⟩)) .nil) (some (.slice none 0 0)) (.node (.node .nil (some (.slice none 0 0)) .nil) (some (.pointer (some ⟨2, 0, none⟩))) .nil))) 13 ⟨[7]⟩ k_aqA k_aqB 3)) .nil) (some (.cells [.slice none 0 0] 72 2 0)) .nil)) .nil) := by kernel_rfl
theorem kyC (r : Mem) (L : Nat) (fs : FnsC) (s : List (Nat × Value)) (b : Tr Value) (q : Bool) (kn : KS) (kx : Nat → KS) (kr : KS) (ms : List Nat) (A : AW) : run (SC r) 43 14 L (lc (rc (ic (ic (rc cKs))))) fs none kn kx kr ((7, .bool q) :: s) b ms A =
    bif q then kn ((7, .bool q) :: s) b ms A else kx 0 ((7, .bool q) :: s) b ms A := by kernel_rfl
theorem kyP (r : Mem) (fs : FnsC) (kn : KS) (ms : List Nat) (A : AW) : preK (SC r) 43 14 (lc (ic (ic (rc cKs)))) 0 fs kn [] TK ms A =
    kn [] (.node (.node .nil (some (.pointer (some ⟨0, 0, none⟩))) (.node .nil (some (.pointer (some ⟨5, 0, none⟩))) .nil)) (some (.func (Fn.yield 4) ⟨[]⟩ ⟨[]⟩)) .nil) ms A := by kernel_rfl
theorem kyN (r : Mem) (fs : FnsC) (x : Int) (vb : Bool) (kn : KS) (ms : List Nat) (A : AW) : tailK (SC r) 43 14 (lc (ic (ic (rc cKs)))) 0 fs kn (.tuple ⟨[.bool true, .int .u16 x, .bool vb]⟩) [] TK ms A =
    kn [(7, .bool true), (6, .tuple ⟨[.bool true, .int .u16 x, .bool vb]⟩)] (.node (.node .nil (some (.pointer (some ⟨0, 0, none⟩))) (.node .nil (some (.pointer (some ⟨5, 0, none⟩))) .nil)) (some (.func (Fn.yield 4) ⟨[]⟩ ⟨[]⟩)) .nil) ms A := by kernel_rfl
theorem kyM (r : Mem) (fs : FnsC) (kn : KS) (ms : List Nat) (A : AW) : tailK (SC r) 43 14 (lc (ic (ic (rc cKs)))) 0 fs kn (.tuple ⟨[.bool false]⟩) [] TK ms A =
    kn [(7, .bool false), (6, .tuple ⟨[.bool false]⟩)] (.node (.node .nil (some (.pointer (some ⟨0, 0, none⟩))) (.node .nil (some (.pointer (some ⟨5, 0, none⟩))) .nil)) (some (.func (Fn.yield 4) ⟨[]⟩ ⟨[]⟩)) .nil) ms A := by kernel_rfl
theorem kyQ (r : Mem) (fs : FnsC) (kn : KS) (ms : List Nat) (A : AW) : preK (SC r) 43 14 (lc (ic (rc (rc (ic (ic (rc cKs))))))) 0 fs kn [] TK ms A =
    kn [] (.node (.node .nil (some (.pointer (some ⟨0, 0, none⟩))) (.node .nil (some (.pointer (some ⟨5, 0, none⟩))) .nil)) (some (.func (Fn.yield 4) ⟨[]⟩ ⟨[]⟩)) .nil) ms A := by kernel_rfl
theorem kyE (r : Mem) (fs : FnsC) (x : Int) (vb : Bool) (kn : KS) (ms : List Nat) (A : AW) : tailK (SC r) 43 14 (lc (ic (rc (rc (ic (ic (rc cKs))))))) 0 fs kn (.tuple ⟨[.int .u16 x, .bool vb]⟩) [] TK ms A =
    kn [(9, .int .u16 x), (8, .tuple ⟨[.int .u16 x, .bool vb]⟩)] (.node (.node (.node .nil (some (.int .u16 x)) .nil) (some (.pointer (some ⟨0, 0, none⟩))) (.node .nil (some (.pointer (some ⟨5, 0, none⟩))) .nil)) (some (.func (Fn.yield 4) ⟨[]⟩ ⟨[]⟩)) .nil) ms A := by kernel_rfl
theorem kyY (r : Mem) (L : Nat) (tm : Tr Nat) (e z clock : Nat) (es : List MapEntry) (seen : List Nat) (x : Int) (s : List (Nat × Value)) (kn : KS) (kx : Nat → KS) (kr : KS) (ms : List Nat) : run (SC r) 43 14 L (rc (ic (rc (rc (ic (ic (rc cKs))))))) (lvlT (SC r) (fun _ => none) tm L 1) none kn kx kr s (TKz x) ms (AKg e z clock es 6 (.slice none 0 0) (miT clock seen) .nil) =
    kn [(13, .bool false), (12, .bool true), (11, .int .u16 x), (10, .func (Fn.yield 4) ⟨[]⟩ ⟨[]⟩)] (.node (.node (.node .nil (some (.int .u16 x)) .nil) (some (.pointer (some ⟨0, 0, none⟩))) (.node .nil (some (.pointer (some ⟨5, 0, none⟩))) .nil)) (some (.func (Fn.yield 4) ⟨[]⟩ ⟨[]⟩)) .nil) ms (AW.mk 8 (.node (.node (.node (.node .nil (some (.cells [.int .u16 x] 53 7 1)) .nil) (some .defd) .nil) (some (AObj.map es clock)) (.node .nil (some (AObj.miter 1 clock seen clock)) .nil)) (some (.cells [Value.map (some 1)] e 0 z)) (.node (.node .nil (some (AObj.loop LoopState.ready none 183 (En.mk [(6, .func (Fn.func 68) ⟨[]⟩ ⟨[.pointer (some ⟨0, 0, none⟩)]⟩)] (.node (.node .nil (some (.func (Fn.func 68) ⟨[]⟩ ⟨[.pointer (some ⟨0, 0, none⟩)]⟩)) .nil) (some (.slice none 0 0)) (.node (.node .nil (some (.slice none 0 0)) .nil) (some (.pointer (some ⟨2, 0, none⟩))) .nil))) 13 ⟨[7]⟩ k_aqA k_aqB 3)) .nil) (some (.cells [.slice (some ⟨7, 0, none⟩) 1 unk] 72 2 0)) (.node .nil (some (.cells [.int .u16 x] 53 6 1)) .nil))) .nil) := by kernel_rfl
theorem kyZ (r : Mem) (L : Nat) (tm : Tr Nat) (e z clock : Nat) (es : List MapEntry) (seen : List Nat) (x : Int) (l : List Value) (n : Nat) (s : List (Nat × Value)) (kn : KS) (kx : Nat → KS) (kr : KS) (ms : List Nat) : run (SC r) 43 14 L (rc (ic (rc (rc (ic (ic (rc cKs))))))) (lvlT (SC r) (fun _ => none) tm L 1) none kn kx kr s (TKz x) ms (AKg e z clock es 7 (.slice (some ⟨6, 0, none⟩) n unk) (miT clock seen) (rwT 6 l)) =
    bif Nat.ble (Nat.add n 1) 1000000 then Option.casesOn (takeAt l 0 (Nat.mul n 1)) (.fail 439) fun val => kn [(13, .bool false), (12, .bool true), (11, .int .u16 x), (10, .func (Fn.yield 4) ⟨[]⟩ ⟨[]⟩)] (.node (.node (.node .nil (some (.int .u16 x)) .nil) (some (.pointer (some ⟨0, 0, none⟩))) (.node .nil (some (.pointer (some ⟨5, 0, none⟩))) .nil)) (some (.func (Fn.yield 4) ⟨[]⟩ ⟨[]⟩)) .nil) ms (AW.mk 9 (.node (.node (.node (.node .nil (some (.cells [.int .u16 x] 53 7 1)) .nil) (some .defd) .nil) (some (AObj.map es clock)) (.node .nil (some (AObj.miter 1 clock seen clock)) .nil)) (some (.cells [Value.map (some 1)] e 0 z)) (.node (.node (.node .nil (some (.cells (val ++ [.int .u16 x]) 53 6 1)) .nil) (some (AObj.loop LoopState.ready none 183 (En.mk [(6, .func (Fn.func 68) ⟨[]⟩ ⟨[.pointer (some ⟨0, 0, none⟩)]⟩)] (.node (.node .nil (some (.func (Fn.func 68) ⟨[]⟩ ⟨[.pointer (some ⟨0, 0, none⟩)]⟩)) .nil) (some (.slice none 0 0)) (.node (.node .nil (some (.slice none 0 0)) .nil) (some (.pointer (some ⟨2, 0, none⟩))) .nil))) 13 ⟨[7]⟩ k_aqA k_aqB 3)) .nil) (some (.cells [.slice (some ⟨8, 0, none⟩) (Nat.add n 1) unk] 72 2 0)) (.node .nil none .nil))) (.node .nil none (.node .nil none (.node .nil (some [8]) .nil)))) else F4 := by kernel_rfl
end Go.Proofs
namespace Go.Proofs
open Go Go.Ev
abbrev K16 : Type := {x : Int // 0 ≤ x ∧ x < 65536}
abbrev KT : Type := K16 × Bool × Nat
def mkE (t : KT) : MapEntry := ⟨.int .u16 t.1.1, .bool t.2.1, t.2.2⟩
def rowK (l : List KT) : List Value := l.map fun t => .int .u16 t.1.1
def bornK (l : List KT) : List Nat := l.map fun t => t.2.2
theorem rowK_len (l : List KT) : (rowK l).length = l.length := by simp [rowK]
theorem rowK_gnd (l : List KT) : ∀ v ∈ rowK l, gnd v = true := fun v hv => by
 obtain ⟨t, _, rfl⟩ := List.mem_map.1 hv
 rfl
theorem takeAt_fullK (l : List Value) (n : Nat) (h : l.length = n) : takeAt l 0 n = some l := takeAt_all l n 0 l h fun j _ => by rw [Nat.zero_add]
theorem natFK {i j : Nat} (h : i ≠ j) : Nat.beq i j = false := by
 cases e : Nat.beq i j with
 | false => rfl
 | true => exact absurd (Nat.eq_of_beq_eq_true e) h
structure KOk (q : List KT) (clock : Nat) : Prop where
 born : ∀ t ∈ q, t.2.2 < clock
 nodup : (bornK q).Nodup
 few : q.length < 1000000
theorem left_mem {q : List KT} {seen : List Nat} {e : MapEntry} (h : e ∈ nextLeft (q.map mkE) seen) : ∃ t ∈ q, e = mkE t ∧ t.2.2 ∉ seen := by
 unfold nextLeft at h
 obtain ⟨h1, h2⟩ := List.mem_filter.1 h
 obtain ⟨t, ht, rfl⟩ := List.mem_map.1 h1
 refine ⟨t, ht, rfl, fun hm => ?_⟩
 simp [mkE, hm] at h2
theorem left_nil {q : List KT} {seen : List Nat} (h : nextLeft (q.map mkE) seen = []) : ∀ t ∈ q, t.2.2 ∈ seen := fun t ht => by
 unfold nextLeft at h
 have := List.filter_eq_nil_iff.1 h (mkE t) (List.mem_map_of_mem ht)
 simpa [mkE] using this
theorem left_done {q vis rest : List KT} {clock : Nat} (hq : KOk q clock) (hp : (vis ++ rest).Perm q) (h : nextLeft (q.map mkE) (bornK vis) = []) : rest = [] := by
 cases rest with
 | nil => rfl
 | cons t l =>
  exfalso
  have h1 := left_nil h t (hp.mem_iff.1 (by simp))
  have h2 : (bornK (vis ++ t :: l)).Nodup := (hp.map _).nodup_iff.2 hq.nodup
  unfold bornK at h1 h2
  rw [List.map_append, List.nodup_append] at h2
  exact h2.2.2 _ h1 t.2.2 (by simp) rfl
theorem left_more {q vis rest : List KT} {clock : Nat} (hq : KOk q clock) (hp : (vis ++ rest).Perm q) {e : MapEntry} (h : e ∈ nextLeft (q.map mkE) (bornK vis)) : ∃ t rest', e = mkE t ∧ rest'.length < rest.length ∧ ((vis ++ [t]) ++ rest').Perm q := by
 obtain ⟨t, ht, rfl, hn⟩ := left_mem h
 have hm : t ∈ rest := by
  rcases List.mem_append.1 (hp.mem_iff.2 ht) with h1 | h1
  ·exact absurd (List.mem_map_of_mem (f := fun t : KT => t.2.2) h1) hn
  ·exact h1
 obtain ⟨a, b, rfl⟩ := List.append_of_mem hm
 refine ⟨t, a ++ b, rfl, by simp, List.Perm.trans ?_ hp⟩
 rw [List.append_assoc]
 refine List.Perm.append_left vis ?_
 simpa using List.perm_middle.symm
theorem same_ok {q : List KT} {clock : Nat} (hq : KOk q clock) (seen : List Nat) : nextSame (q.map mkE) clock seen clock = true := by
 unfold nextSame
 simp only [Bool.and_eq_true, Bool.not_eq_true', List.all_eq_true, decide_eq_true_eq]
 refine ⟨?_, fun e he => ?_⟩
 ·cases q with
  | nil => simp
  | cons t l =>
   have := hq.born t (by simp)
   have h2 : (List.map mkE (t :: l)).all (fun e => decide (clock ≤ e.born)) = false := by
    simp [mkE]
    intro h
    omega
   rw [h2]
   simp
 ·obtain ⟨t, ht, rfl, _⟩ := left_mem he
  exact hq.born t ht
theorem find_ok {q : List KT} {clock : Nat} (hq : KOk q clock) {t : KT} (ht : t ∈ q) : (q.map mkE).find? (fun e => Nat.beq e.born t.2.2) = some (mkE t) := by
 have key : ∀ (l : List KT), (bornK l).Nodup → t ∈ l → (l.map mkE).find? (fun e => Nat.beq e.born t.2.2) = some (mkE t) := by
  intro l
  induction l with
  | nil => intro _ h; cases h
  | cons x l ih =>
   intro hn hm
   rw [List.map_cons, List.find?_cons]
   unfold bornK at hn
   rw [List.map_cons, List.nodup_cons] at hn
   rcases List.mem_cons.1 hm with rfl | hm
   ·rw [show Nat.beq (mkE t).born t.2.2 = true from Nat.beq_refl _]
   ·have hne : x.2.2 ≠ t.2.2 := fun h => hn.1 (by rw [h]; exact List.mem_map_of_mem (f := fun t : KT => t.2.2) hm)
    rw [show Nat.beq (mkE x).born t.2.2 = false from natFK hne]
    exact ih hn.2 hm
 exact key q hq.nodup ht
section
variable {r : Mem} {γ0 : Gam} {W0 : World} {e z clock : Nat} {q : List KT}
noncomputable def AKv (e z clock : Nat) (q : List KT) : List KT → AW
 | [] => AKg e z clock (q.map mkE) 6 (.slice none 0 0) (miT clock []) .nil
 | t :: l => AKg e z clock (q.map mkE) 7 (.slice (some ⟨6, 0, none⟩) (t :: l).length unk) (miT clock (bornK (t :: l))) (rwT 6 (rowK (t :: l)))
noncomputable def AKf (e z clock : Nat) (q : List KT) : List KT → AW
 | [] => AKg e z clock (q.map mkE) 5 (.slice none 0 0) .nil .nil
 | t :: l => AKg e z clock (q.map mkE) 6 (.slice (some ⟨5, 0, none⟩) (t :: l).length unk) (rwT 5 (rowK (t :: l))) .nil
noncomputable def AKn (e z clock : Nat) (q : List KT) (seen : List Nat) : List KT → AW
 | [] => AKg e z clock (q.map mkE) 6 (.slice none 0 0) (miT clock seen) .nil
 | t :: l => AKg e z clock (q.map mkE) 7 (.slice (some ⟨6, 0, none⟩) (t :: l).length unk) (miT clock seen) (rwT 6 (rowK (t :: l)))
theorem ksG (q : List KT) : ∀ x ∈ q.map mkE, gnd x.key = true ∧ gnd x.val = true := fun x hx => by
 obtain ⟨t, _, rfl⟩ := List.mem_map.1 hx
 exact ⟨rfl, rfl⟩
theorem ren_start (h0 : ∀ i, 5 ≤ i → γ0 i = none) (s : List (Nat × Value)) : Ren (SC r) 43 14 γ0 W0 ⟨⟨s, TK⟩, [], AKv e z clock q []⟩ ⟨⟨[], TK⟩, [], AKv e z clock q []⟩ := by
 refine Ren.of (fun i => i) 5 rfl h0 (Nat.le_of_ble_eq_true rfl) (fun i hi => rfl) ?_ rfl ?_ trivial
 ·simp only [Tr.All, TK]
  repeat' (first | exact trivial | apply And.intro)
  all_goals exact ⟨_, rfl, rfl⟩
 ·simp only [Tr.All, AKv, AKg, miT]
  repeat' (first | exact trivial | apply And.intro)
  all_goals first | rfl | exact .head _ | exact ⟨_, rfl, .defd⟩ | exact ⟨_, rfl, .map (ksG q)⟩ | exact ⟨_, rfl, .miter rfl rfl⟩ | exact ⟨_, rfl, .cells rfl⟩ | exact ⟨_, rfl, .plain (by skip)⟩ | skip
  refine ⟨_, rfl, .same ?_ ?_ rfl rfl⟩
  ·simp only [Tr.All, TQ]
   repeat' (first | exact trivial | apply And.intro)
   all_goals rfl
  ·simp only [scrFix]
   repeat' (first | exact trivial | apply And.intro)
   all_goals rfl
def KeySt (e z clock : Nat) (q : List KT) (j : Nat) (st : St) : Prop := ∃ vis rest, rest.length = j ∧ (vis ++ rest).Perm q ∧ st = ⟨⟨[], TK⟩, [], AKv e z clock q vis⟩
def KeyQ (r : Mem) (γ0 : Gam) (W0 : World) (e z clock : Nat) (q : List KT) : Exit → St → Prop
 | .exit id, st => id = 0 ∧ ∃ vis, vis.Perm q ∧ ∃ st1, Ren (SC r) 43 14 γ0 W0 st st1 ∧ st1 = ⟨⟨[], .nil⟩, [], AKf e z clock q vis⟩
 | _, _ => False
theorem ren_out (h0 : ∀ i, 5 ≤ i → γ0 i = none) (s : List (Nat × Value)) (vis : List KT) : Ren (SC r) 43 14 γ0 W0 ⟨⟨s, TK⟩, [], AKv e z clock q vis⟩ ⟨⟨[], .nil⟩, [], AKf e z clock q vis⟩ := by
 cases vis with
 | nil =>
  refine Ren.of (fun i => i) 5 rfl h0 (Nat.le_of_ble_eq_true rfl) (fun i hi => rfl) ?_ rfl ?_ trivial
  ·simp only [Tr.All, TK]
   repeat' (first | exact trivial | apply And.intro)
   all_goals exact ⟨_, rfl, rfl⟩
  ·simp only [Tr.All, AKv, AKf, AKg, miT]
   repeat' (first | exact trivial | apply And.intro)
   all_goals first | rfl | exact .head _ | exact ⟨_, rfl, .defd⟩ | exact ⟨_, rfl, .map (ksG q)⟩ | exact ⟨_, rfl, .miter rfl rfl⟩ | exact ⟨_, rfl, .cells rfl⟩ | exact ⟨_, rfl, .plain (by skip)⟩ | skip
   refine ⟨_, rfl, .same ?_ ?_ rfl rfl⟩
   ·simp only [Tr.All, TQ]
    repeat' (first | exact trivial | apply And.intro)
    all_goals rfl
   ·simp only [scrFix]
    repeat' (first | exact trivial | apply And.intro)
    all_goals rfl
 | cons t l =>
  refine Ren.of (fun i => bif Nat.beq i 5 then 6 else i) 5 rfl h0 (Nat.le_of_ble_eq_true rfl) (fun i hi => by have : Nat.beq i 5 = false := natFK (by omega); rw [this]; rfl) ?_ rfl ?_ trivial
  ·simp only [Tr.All, TK]
   repeat' (first | exact trivial | apply And.intro)
   all_goals exact ⟨_, rfl, rfl⟩
  ·simp only [Tr.All, AKv, AKf, AKg, miT, rwT]
   repeat' (first | exact trivial | apply And.intro)
   all_goals first | rfl | exact .head _ | exact ⟨_, rfl, .defd⟩ | exact ⟨_, rfl, .map (ksG q)⟩ | exact ⟨_, rfl, .miter rfl rfl⟩ | exact ⟨_, rfl, .cells rfl⟩ | exact ⟨_, rfl, .plain (by exact rowK_gnd (t :: l))⟩ | skip
   refine ⟨_, rfl, .same ?_ ?_ rfl rfl⟩
   ·simp only [Tr.All, TQ]
    repeat' (first | exact trivial | apply And.intro)
    all_goals rfl
   ·simp only [scrFix]
    repeat' (first | exact trivial | apply And.intro)
    all_goals rfl
theorem put_seen {vis : List KT} {seen : List Nat} : ({ AKv e z clock q vis with heap := (AKv e z clock q vis).heap.put 5 (some (.miter 1 clock seen clock)) } : AW) = AKn e z clock q seen vis := by
 cases vis <;> rfl
theorem key_body (hq : KOk q clock) (h0 : ∀ i, 5 ≤ i → γ0 i = none) {F : Fence} {k : Nat} (hF : Wide F) (hro : F.round = none) {j : Nat} {st : St} (hs : KeySt e z clock q j st) :
  Go.Ev.Reach (SC r) 43 14 F k γ0 W0 (ic (ic (rc cKs))) st fun ex st' => match ex with
   | .normal => ∃ j', j' < j ∧ ∃ st1, Ren (SC r) 43 14 γ0 W0 st' st1 ∧ KeySt e z clock q j' st1
   | ex => KeyQ r γ0 W0 e z clock q ex st' := by
 obtain ⟨vis, rest, rfl, hp, rfl⟩ := hs
 rw [show ic (ic (rc cKs)) = Code.seq (lc (ic (ic (rc cKs)))) (.seq (lc (rc (ic (ic (rc cKs))))) (.block 1 (ic (rc (rc (ic (ic (rc cKs)))))))) from by kernel_rfl]
 have hi : (AKv e z clock q vis).heap.get 5 = some (.miter 1 clock (bornK vis) clock) := by cases vis <;> rfl
 have hm : (AKv e z clock q vis).heap.get 1 = some (.map (q.map mkE) clock) := by cases vis <;> rfl
 refine Go.Ev.Reach.seq (Go.Ev.Reach.nextP (SC_ok r) hF TOk.nil (tm := .nil) (L := 0) (d := 0) 0 (s1 := []) (b1 := TK) (ms1 := []) (A1 := AKv e z clock q vis) ?_ (by kernel_rfl) hi hm (same_ok hq _) fun v A' hv => ?_)
 ·rw [kyP]
  exact qn_ok rfl
 rcases hv with ⟨hnil, rfl, rfl⟩ | ⟨x, hx, rfl, rfl⟩
 ·rw [kyM]
  refine qn_ok (Go.Ev.Reach.seq (Go.Ev.Reach.seg (SC_ok r) TOk.nil (tm := .nil) (L := 1) (L' := 1) (d := 1) hF hro ?_))
  rw [kyC]
  simp only [cond_false]
  have := left_done hq hp hnil
  subst this
  rw [List.append_nil] at hp
  exact qn_ok ⟨rfl, vis, hp, _, ren_out h0 _ vis, rfl⟩
 ·obtain ⟨t, rest', rfl, hlt, hp'⟩ := left_more hq hp hx
  rw [show (mkE t).key = .int .u16 t.1.1 from rfl, show (mkE t).val = .bool t.2.1 from rfl, show (mkE t).born = t.2.2 from rfl, kyN, put_seen]
  refine qn_ok (Go.Ev.Reach.seq (Go.Ev.Reach.seg (SC_ok r) TOk.nil (tm := .nil) (L := 1) (L' := 1) (d := 1) hF hro ?_))
  rw [kyC]
  simp only [cond_true]
  have ht : t ∈ q := hp'.mem_iff.1 (by simp)
  have hi : (AKn e z clock q (bornK vis ++ [t.2.2]) vis).heap.get 5 = some (.miter 1 clock (bornK vis ++ [t.2.2]) clock) := by cases vis <;> rfl
  have hm : (AKn e z clock q (bornK vis ++ [t.2.2]) vis).heap.get 1 = some (.map (q.map mkE) clock) := by cases vis <;> rfl
  refine qn_ok (Go.Ev.Reach.block ?_)
  rw [show ic (rc (rc (ic (ic (rc cKs))))) = Code.seq (lc (ic (rc (rc (ic (ic (rc cKs))))))) (rc (ic (rc (rc (ic (ic (rc cKs))))))) from by kernel_rfl]
  refine Go.Ev.Reach.seq (Go.Ev.Reach.entryP (SC_ok r) hF TOk.nil (tm := .nil) (L := 0) (d := 0) 0 (s1 := []) (b1 := TK) (ms1 := []) (A1 := AKn e z clock q (bornK vis ++ [t.2.2]) vis) (i := 5) ?_ (by kernel_rfl) hi hm (by simp) (find_ok hq ht) ?_)
  ·exact (kyQ ..).trans (qn_ok rfl)
  rw [show (mkE t).key = .int .u16 t.1.1 from rfl, show (mkE t).val = .bool t.2.1 from rfl, kyE]
  refine qn_ok (Go.Ev.Reach.seg (SC_ok r) TOk.nil (tm := .nil) (L := 1) (L' := 1) (d := 1) hF hro ?_)
  cases vis with
  | nil =>
   refine (kyY ..).trans (qn_ok ⟨rest'.length, hlt, _, ?_, [t], rest', rfl, hp', rfl⟩)
   show Ren _ _ _ _ _ _ ⟨⟨[], TK⟩, [], AKg e z clock (q.map mkE) 7 (.slice (some ⟨6, 0, none⟩) 1 unk) (miT clock [t.2.2]) (rwT 6 [.int .u16 t.1.1])⟩
   refine Ren.of (fun i => bif Nat.beq i 6 then 7 else i) 5 rfl h0 (Nat.le_of_ble_eq_true rfl) (fun i hi => by have : Nat.beq i 6 = false := natFK (by omega); rw [this]; rfl) ?_ rfl ?_ trivial
   ·simp only [Tr.All, TK]
    repeat' (first | exact trivial | apply And.intro)
    all_goals exact ⟨_, rfl, rfl⟩
   ·simp only [Tr.All, AKg, miT, rwT]
    repeat' (first | exact trivial | apply And.intro)
    all_goals first | rfl | exact .head _ | exact ⟨_, rfl, .defd⟩ | exact ⟨_, rfl, .map (ksG q)⟩ | exact ⟨_, rfl, .miter rfl rfl⟩ | exact ⟨_, rfl, .cells rfl⟩ | exact ⟨_, rfl, .plain (by intro v hv; rw [List.mem_singleton.1 hv]; rfl)⟩ | skip
    refine ⟨_, rfl, .same ?_ ?_ rfl rfl⟩
    ·simp only [Tr.All, TQ]
     repeat' (first | exact trivial | apply And.intro)
     all_goals rfl
    ·simp only [scrFix]
     repeat' (first | exact trivial | apply And.intro)
     all_goals rfl
  | cons t0 l =>
   have hlen : (t0 :: l).length + 1 ≤ q.length := by
    have := hp'.length_eq
    simp only [List.length_append, List.length_cons, List.length_nil] at this ⊢
    omega
   have hfew := hq.few
   have g1 : Nat.ble (Nat.add (t0 :: l).length 1) 1000000 = true := Nat.ble_eq_true_of_le (by simp only [Nat.add_eq]; omega)
   have g2 : takeAt (rowK (t0 :: l)) 0 (Nat.mul (t0 :: l).length 1) = some (rowK (t0 :: l)) := takeAt_fullK _ _ (by rw [rowK_len]; simp)
   refine (kyZ ..).trans ?_
   rw [g1, g2]
   simp only [cond_true]
   refine qn_ok ⟨rest'.length, hlt, _, ?_, (t0 :: l) ++ [t], rest', rfl, hp', rfl⟩
   show Ren _ _ _ _ _ _ ⟨⟨[], TK⟩, [], AKg e z clock (q.map mkE) 7 (.slice (some ⟨6, 0, none⟩) ((t0 :: l) ++ [t]).length unk) (miT clock (bornK ((t0 :: l) ++ [t]))) (rwT 6 (rowK ((t0 :: l) ++ [t])))⟩
   have e1 : ((t0 :: l) ++ [t]).length = Nat.add (t0 :: l).length 1 := by simp
   have e2 : bornK ((t0 :: l) ++ [t]) = bornK (t0 :: l) ++ [t.2.2] := by simp [bornK]
   have e3 : rowK ((t0 :: l) ++ [t]) = rowK (t0 :: l) ++ [.int .u16 t.1.1] := by simp [rowK]
   rw [e1, e2, e3]
   refine Ren.of (fun i => bif Nat.beq i 6 then 8 else i) 5 rfl h0 (Nat.le_of_ble_eq_true rfl) (fun i hi => by have : Nat.beq i 6 = false := natFK (by omega); rw [this]; rfl) ?_ rfl ?_ trivial
   ·simp only [Tr.All, TK]
    repeat' (first | exact trivial | apply And.intro)
    all_goals exact ⟨_, rfl, rfl⟩
   ·simp only [Tr.All, AKg, miT, rwT]
    repeat' (first | exact trivial | apply And.intro)
    all_goals first | rfl | exact .head _ | exact ⟨_, rfl, .defd⟩ | exact ⟨_, rfl, .map (ksG q)⟩ | exact ⟨_, rfl, .miter rfl rfl⟩ | exact ⟨_, rfl, .cells rfl⟩ | exact ⟨_, rfl, .plain (by exact e3 ▸ rowK_gnd ((t0 :: l) ++ [t]))⟩ | skip
    refine ⟨_, rfl, .same ?_ ?_ rfl rfl⟩
    ·simp only [Tr.All, TQ]
     repeat' (first | exact trivial | apply And.intro)
     all_goals rfl
    ·simp only [scrFix]
     repeat' (first | exact trivial | apply And.intro)
     all_goals rfl
theorem keys_S (hq : KOk q clock) : SOk (SC r) 68 yK (AKg e z clock (q.map mkE) 5 (.slice none 0 0) .nil .nil) fun v A' => v = .tuple ⟨[]⟩ ∧ ∃ vis, vis.Perm q ∧ A' = AKf e z clock q vis := by
 obtain ⟨fn, h1, h2, h3, h4⟩ := fn_of (C := SC r) (f := 68) (by kernel_rfl)
 have hn : fn.ntmps = 14 := h3.trans (by kernel_rfl)
 have hr : fn.results.toList = [] := h4.trans (by kernel_rfl)
 rw [bodySC] at h2
 refine call_reachS (SC_ok r) h1 h2 43 (by rw [hn]; rfl) fun γ W F k hw hF hro => ?_
 rw [hn, hr]
 have h0 : ∀ i, 5 ≤ i → γ i = none := hw.fresh
 show Go.Ev.Reach (SC r) 43 14 F k γ W cKs _ _
 rw [show cKs = Code.seq (lc cKs) (.block 0 (.loop (ic (ic (rc cKs))))) from by kernel_rfl]
 refine Go.Ev.Reach.seq (Go.Ev.Reach.seg (SC_ok r) TOk.nil (tm := .nil) (L := 1) (L' := 1) (d := 1) hF hro ((kyB ..).trans (qn_ok ?_)))
 refine Go.Ev.Reach.pre (ren_start h0 _) ?_
 refine Go.Ev.Reach.block ?_
 refine Go.Ev.Reach.loop (I := fun j st => ∃ st1, Ren (SC r) 43 14 γ W st st1 ∧ KeySt e z clock q j st1) (fun j st ⟨st1, hr, hs⟩ => Go.Ev.Reach.pre hr (Go.Ev.Reach.mono (key_body hq h0 hF hro hs) fun ex st' h => ?_)) ⟨_, Ren.refl _, [], q, rfl, by simp, rfl⟩
 cases ex with
 | normal => exact h
 | exit id =>
  obtain ⟨rfl, vis, hv, st2, hr2, rfl⟩ := h
  exact ⟨.inl rfl, _, _, _, hr2, rfl, rfl, vis, hv, rfl⟩
 | _ => exact h.elim
end
end Go.Proofs
