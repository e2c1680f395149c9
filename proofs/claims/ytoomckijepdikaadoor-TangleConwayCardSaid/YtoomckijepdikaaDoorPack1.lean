/- What the claim is proved with, part 1: the evaluator and the contracts of the calls. -/
import Derived.Test.YtoomckijepdikaaDoorSymBase
import Derived.Test.YtoomckijepdikaaDoorEvMemOf
import Derived.Test.YtoomckijepdikaaDoorRows
import Derived.FnData
import Derived.MakeChecks
import Derived.ChangeSame
import Derived.IntWalk
import Derived.Test.YtoomckijepdikaaDoorEvRen
/- The package variable of chapter 6, as memory. -/
namespace Go.Proofs
open Go Go.Ev

def memL (l : List Value) : Nat → Option Value := fun j => l[j]?
def tabM : Mem := fun b j => match Nat.beq b 0 with
  | true => memL [I 0, I 1] j
  | false => none

end Go.Proofs

/- What the package variable of chapter 6 holds, as memory: from the row's premise to the memory that came in. -/
namespace Go.Proofs
open Go Go.Ev Go.ChangeShapes

theorem one_int {H : Type} {enc : TypeId × Value → H} {P : Program} {w : World} {base fuel : Nat} {spare : Nat → Bool} {held : Bool} {t : TypeId} {cs : List Value} {k : IntKind} {z : Int} {y : DataW H × List MemPlace} (ht : P.underlying t = some (.int k))
    (h : DataW.trod enc P w base spare held fuel t cs = some y) (hy : y.1 = .lit (.int k z)) : cs = [.int k z] := by
  obtain ⟨n, h1, h2, _⟩ := DataW.trod_int ht h
  subst h2
  simp only [DataW.lit.injEq, Lit.int.injEq, true_and] at hy
  subst hy
  exact h1

theorem laid_mem {W : World} {x : String × DataW Unit} (hx : x = ("forcola/tangle.zero", YtoomckijepdikaaDoor.Rows.laid_forcola_tangle_zero)) (hL : laidMetH Tryd.prog [x] W) : ∀ b j u, tabM b j = some u → memOf W b j = some u := by
  subst hx
  rw [MakeChecks.laidMetH_plain _ _ _ (by kernel_rfl)] at hL
  obtain ⟨ps, ⟨g, t, cs, f, p1, q1, a1, a2, a3, a4, _⟩, _⟩ := hL
  have hg : Tryd.prog.globalNamed "forcola/tangle.zero" = some 0 := by kernel_rfl
  obtain rfl := Option.some.inj (hg.symm.trans a1)
  obtain rfl := Option.some.inj ((show (Tryd.prog.globals[0]?).map (·.type) = some 44 by kernel_rfl).symm.trans a2)
  obtain ⟨y0, y1, n, hy, hl, h0, h1⟩ := trod_struct2 (f0 := ⟨"p", 2, 0, false, "", "forcola/tangle", 0⟩) (f1 := ⟨"q", 2, 1, false, "", "forcola/tangle", 8⟩) (by kernel_rfl) a4
  have hu : Tryd.prog.underlying 2 = some (.int .i64) := by kernel_rfl
  have hc : Tryd.prog.cellsOf 2 = 1 := by kernel_rfl
  have hc2 : Tryd.prog.cellsOf 44 = 2 := by kernel_rfl
  have hd : (DataW.agg [.lit (.int .i64 0), .lit (.int .i64 1)] : DataW Unit) = .agg [y0.1, y1.1] := congrArg Prod.fst hy
  simp only [DataW.agg.injEq, List.cons.injEq, and_true] at hd
  have e0 := one_int hu h0 hd.1.symm
  have e1 := one_int hu h1 hd.2.symm
  rw [hc2] at hl
  simp only [hc] at e0 e1
  have hcs : cs.toList = [I 0, I 1] := by
    generalize cs.toList = l at hl e0 e1
    match l, hl with
    | [a, b], _ =>
      simp at e0 e1
      rw [e0, e1]
  intro b j u h
  unfold tabM at h
  split at h
  · rename_i hb
    have := Nat.eq_of_beq_eq_true hb
    subst this
    have hcell := World.var?_cell hg a3 j
    have hj : cs[j]? = some u := by
      have : cs.toList[j]? = some u := by rw [hcs]; exact h
      simpa using this
    rw [hj] at hcell
    unfold memL at h
    have : ∃ z, u = I z := by
      match j, h with
      | 0, h => exact ⟨0, (Option.some.inj h).symm⟩
      | 1, h => exact ⟨1, (Option.some.inj h).symm⟩
    obtain ⟨z, rfl⟩ := this
    exact memOf_int hcell
  · cases h

end Go.Proofs

/- A slice among the arguments: nil, or a row that came in (an empty one, too). -/
namespace Go.Ev
open Go

inductive ArgRowT (r : Mem) (n : Nat) (p : Value → Prop) : Value → Prop
  | nil : ArgRowT r n p (.slice none 0 0)
  | row (b off len cap : Nat) (hl : len ≤ cap) (hc : cap ≤ maxLen) (h : ∀ i, i < cap * n → ∃ u, r b (off + i) = some u ∧ p u) : ArgRowT r n p (.slice (some ⟨b, off, some 0⟩) len cap)

theorem okWide_spot {P : Program} {w : World} {r : Go.Reach} {base : Nat} {t e : TypeId} {x : Addr} {len cap : Nat} (ht : P.underlying t = some (.slice e)) (h : Value.okWide P w r base t (.slice (some x) len cap)) : x.spot = none := by
  simp only [Value.okWide, ht, Cell.okWide, Cell.ok] at h
  exact h.2.2.2.1

section
variable {H : Type} {enc : TypeId × Value → H} {P : Program} {w : World} {base : Nat} {held : Bool}

theorem in_rowT {t e : TypeId} {n : Nat} {p : Value → Prop} {v : Value} {d : DataW H} {ps : List MemPlace} (hn : 0 < n) (ht : P.underlying t = some (.slice e)) (ce : P.cellsOf e = n) (hel : El enc P w base held e n p)
    {b0 : Nat} (hval : Value.okWide P w .any b0 t v) (h : DataW.Trod enc P w base (fun _ => true) held t v d ps) : ∃ u, VRel noG u v ∧ ArgRowT (memOf w) n p u := by
  obtain ⟨u, hu, hs⟩ := in_row hn ht ce hel hval h
  obtain ⟨a, len, cap, rfl⟩ := Go.WideShapes.okWide_slice ht hval
  cases hs with
  | nil => exact ⟨_, hu, .nil⟩
  | row b off len cap hl hc h => exact ⟨_, hu, .row b off len cap hl hc h⟩
  | empty =>
    obtain ⟨fuel, hf⟩ := h
    rcases Go.Deep.open_slice ht hf with ⟨h0, _⟩ | ⟨a', len', cap', m, n', D, Pl, h0, _, hl, hm, hmm, _, hx⟩
    · simp [Value.cells] at h0
      obtain ⟨rfl, rfl, rfl⟩ := h0
      exact ⟨_, .sliceNil, .nil⟩
    · simp [Value.cells] at h0
      obtain ⟨rfl, rfl, rfl⟩ := h0
      have hsp := okWide_spot ht hval
      obtain ⟨b, off, s⟩ := a'
      subst hsp
      have hlen : len = 0 := by
        cases hu with
        | sliceE => rfl
        | slice _ _ _ _ hg => cases hg
      subst hlen
      exact ⟨_, .sliceRo b off 0 0 0 cap (by decide) (Nat.zero_le _), .row b off 0 0 (Nat.le_refl _) (Nat.zero_le _) fun i hi => by omega⟩

end

end Go.Ev

/- The program's check of a word, run. -/
namespace Go.Proofs
open Go Go.Ev

noncomputable def cTk : Code := bodyOf S0 7
def TTk (b : ByteArray) (o : Tr Value) : Tr Value := .node (.node .nil none (.node (.node .nil (some (.pointer (some ⟨0, 0, none⟩))) .nil) none .nil)) (some (.string b)) o
def TTk2 (v4 v10 : Value) : Tr Value := .node (.node .nil (some v4) .nil) none (.node (.node .nil (some v10) .nil) none .nil)
def ATk (b : ByteArray) (k : Nat) : AW := emptyA.new (.siter b k)
def tIsL : Tbl := tcons 17 (ent (fun args _ => match args with | [.int .i32 _] => true | _ => false) (fun args _ => match args with | [.int .i32 a] => .bool (decide (a = 116) || decide (a = 84) || decide (a = 114)) | _ => undef)) fun _ => none

theorem tkA (r : Mem) (L : Nat) (fs : FnsC) (b : ByteArray) (kn : KS) (kx : Nat → KS) (kr : KS) : run (SC r) 1553 16 L (.seq (.seq (lc cTk) (lc (rc cTk))) (lc (lc (rc (rc cTk))))) fs none kn kx kr (sc0 1553 [.string b]) (tr0 1553 [.string b]) [] emptyA =
    bif decide (Int.ofNat (ByteArray.size b) > 2000) then kr [(2, Value.int IntKind.i64 (Int.ofNat 2))] (Tr.node Tr.nil (some (Value.string b)) Tr.nil) [] (AW.mk 0 Tr.nil Tr.nil) else kn [(8, Value.string b)] (Tr.node (Tr.node Tr.nil none (Tr.node (Tr.node Tr.nil (some (Value.pointer (some (Addr.mk 0 0 none)))) Tr.nil) none Tr.nil)) (some (Value.string b)) Tr.nil) [] (AW.mk 1 (Tr.node Tr.nil (some (AObj.siter b 0)) Tr.nil) Tr.nil) := by kernel_rfl

theorem tkB1 (r : Mem) (L : Nat) (tm : Tr Nat) (b : ByteArray) (k : Nat) (s : List (Nat × Value)) (kn : KS) (kx : Nat → KS) (kr : KS) : run (SC r) 1553 16 L (ic (ic (rc (lc (rc (rc cTk)))))) (lvlT (SC r) tIsL tm L 0) none kn kx kr s (TTk b .nil) [] (ATk b k) =
    bif Nat.blt k (ByteArray.size b) then bif decide (Int.ofNat (m_rune b k) = 116) || decide (Int.ofNat (m_rune b k) = 84) || decide (Int.ofNat (m_rune b k) = 114) then kn [(15, Value.bool false), (14, Value.bool true), (13, Value.int IntKind.i32 (Int.ofNat (m_rune b k)))] (Tr.node (Tr.node Tr.nil none (Tr.node (Tr.node Tr.nil (some (Value.pointer (some (Addr.mk 0 0 none)))) Tr.nil) none Tr.nil)) (some (Value.string b)) (Tr.node (Tr.node Tr.nil (some (Value.int IntKind.i32 (Int.ofNat (m_rune b k)))) Tr.nil) none (Tr.node (Tr.node Tr.nil (some (Value.tuple (Array.mk [Value.bool true, Value.int IntKind.i64 (Int.ofNat k), Value.int IntKind.i32 (Int.ofNat (m_rune b k))]))) Tr.nil) none Tr.nil))) [] (AW.mk 1 (Tr.node Tr.nil (some (AObj.siter b (Nat.add k (m_width b k)))) Tr.nil) Tr.nil) else kr [(2, Value.int IntKind.i64 (Int.ofNat 60))] (Tr.node (Tr.node Tr.nil none (Tr.node (Tr.node Tr.nil (some (Value.pointer (some (Addr.mk 0 0 none)))) Tr.nil) none Tr.nil)) (some (Value.string b)) (Tr.node (Tr.node Tr.nil (some (Value.int IntKind.i32 (Int.ofNat (m_rune b k)))) Tr.nil) none (Tr.node (Tr.node Tr.nil (some (Value.tuple (Array.mk [Value.bool true, Value.int IntKind.i64 (Int.ofNat k), Value.int IntKind.i32 (Int.ofNat (m_rune b k))]))) Tr.nil) none Tr.nil))) [] (AW.mk 1 (Tr.node Tr.nil (some (AObj.siter b (Nat.add k (m_width b k)))) Tr.nil) Tr.nil) else kx 0 [(11, Value.bool false)] (Tr.node (Tr.node Tr.nil none (Tr.node (Tr.node Tr.nil (some (Value.pointer (some (Addr.mk 0 0 none)))) Tr.nil) none Tr.nil)) (some (Value.string b)) (Tr.node Tr.nil none (Tr.node (Tr.node Tr.nil (some (Value.tuple (Array.mk [Value.bool false]))) Tr.nil) none Tr.nil))) [] (AW.mk 1 (Tr.node Tr.nil (some (AObj.siter b k)) Tr.nil) Tr.nil) := by kernel_rfl

theorem tkB2 (r : Mem) (L : Nat) (tm : Tr Nat) (b : ByteArray) (k : Nat) (v4 v10 : Value) (s : List (Nat × Value)) (kn : KS) (kx : Nat → KS) (kr : KS) : run (SC r) 1553 16 L (ic (ic (rc (lc (rc (rc cTk)))))) (lvlT (SC r) tIsL tm L 0) none kn kx kr s (TTk b (TTk2 v4 v10)) [] (ATk b k) =
    bif Nat.blt k (ByteArray.size b) then bif decide (Int.ofNat (m_rune b k) = 116) || decide (Int.ofNat (m_rune b k) = 84) || decide (Int.ofNat (m_rune b k) = 114) then kn [(15, Value.bool false), (14, Value.bool true), (13, Value.int IntKind.i32 (Int.ofNat (m_rune b k)))] (Tr.node (Tr.node Tr.nil none (Tr.node (Tr.node Tr.nil (some (Value.pointer (some (Addr.mk 0 0 none)))) Tr.nil) none Tr.nil)) (some (Value.string b)) (Tr.node (Tr.node Tr.nil (some (Value.int IntKind.i32 (Int.ofNat (m_rune b k)))) Tr.nil) none (Tr.node (Tr.node Tr.nil (some (Value.tuple (Array.mk [Value.bool true, Value.int IntKind.i64 (Int.ofNat k), Value.int IntKind.i32 (Int.ofNat (m_rune b k))]))) Tr.nil) none Tr.nil))) [] (AW.mk 1 (Tr.node Tr.nil (some (AObj.siter b (Nat.add k (m_width b k)))) Tr.nil) Tr.nil) else kr [(2, Value.int IntKind.i64 (Int.ofNat 60))] (Tr.node (Tr.node Tr.nil none (Tr.node (Tr.node Tr.nil (some (Value.pointer (some (Addr.mk 0 0 none)))) Tr.nil) none Tr.nil)) (some (Value.string b)) (Tr.node (Tr.node Tr.nil (some (Value.int IntKind.i32 (Int.ofNat (m_rune b k)))) Tr.nil) none (Tr.node (Tr.node Tr.nil (some (Value.tuple (Array.mk [Value.bool true, Value.int IntKind.i64 (Int.ofNat k), Value.int IntKind.i32 (Int.ofNat (m_rune b k))]))) Tr.nil) none Tr.nil))) [] (AW.mk 1 (Tr.node Tr.nil (some (AObj.siter b (Nat.add k (m_width b k)))) Tr.nil) Tr.nil) else kx 0 [(11, Value.bool false)] (Tr.node (Tr.node Tr.nil none (Tr.node (Tr.node Tr.nil (some (Value.pointer (some (Addr.mk 0 0 none)))) Tr.nil) none Tr.nil)) (some (Value.string b)) (Tr.node (Tr.node Tr.nil (some v4) Tr.nil) none (Tr.node (Tr.node Tr.nil (some (Value.tuple (Array.mk [Value.bool false]))) Tr.nil) none Tr.nil))) [] (AW.mk 1 (Tr.node Tr.nil (some (AObj.siter b k)) Tr.nil) Tr.nil) := by kernel_rfl

theorem tkC (r : Mem) (L : Nat) (fs : FnsC) (b : ByteArray) (k : Nat) (o : Tr Value) (s : List (Nat × Value)) (kn : KS) (kx : Nat → KS) (kr : KS) : run (SC r) 1553 16 L (rc (rc (rc cTk))) fs none kn kx kr s (TTk b o) [] (ATk b k) =
    kr [(2, Value.int IntKind.i64 (Int.ofNat 0))] (Tr.node (Tr.node Tr.nil none (Tr.node (Tr.node Tr.nil (some (Value.pointer (some (Addr.mk 0 0 none)))) Tr.nil) none Tr.nil)) (some (Value.string b)) o) [] (AW.mk 1 (Tr.node Tr.nil (some (AObj.siter b k)) Tr.nil) Tr.nil) := by kernel_rfl

theorem tkI (r : Mem) (L : Nat) (a : Int) : (lvlT (SC r) (fun _ => none) .nil L 1).call 17 [.int .i32 a] emptyA fin =
    bif a == Int.ofNat 116 then CR.ret (Value.bool true) (AW.mk 0 Tr.nil Tr.nil) else bif a == Int.ofNat 84 then CR.ret (Value.bool true) (AW.mk 0 Tr.nil Tr.nil) else bif a == Int.ofNat 114 then CR.ret (Value.bool true) (AW.mk 0 Tr.nil Tr.nil) else CR.ret (Value.bool false) (AW.mk 0 Tr.nil Tr.nil) := by kernel_rfl

end Go.Proofs

/- Rules for loops. -/
namespace Go.Proofs
open Go Go.Ev

theorem fnsSC (r : Mem) : (SC r).fns = S0.fns := by unfold SC Cfg.sym; rfl
theorem bodySC (r : Mem) (f : Nat) : bodyOf (SC r) f = bodyOf S0 f := by unfold bodyOf; rw [fnsSC]

/-- Into a function whose body has this name. -/
theorem enterN {r : Mem} {t : Tbl} {ms : Tr Nat} {L d f m n : Nat} {args : List Value} {A : AW} {k : KV} {rs : List ResultVar} (c : Code) (hc : c = bodyOf S0 f) (hb : hasBody (SC r) f = true) (hn : ntm (SC r) f = n) (hm : maskFor ms f n = m) (hr : resOf (SC r) f = rs)
    (hl : Nat.ble args.length n = true) (ht : t f = none) :
    (lvlT (SC r) t ms L (d + 1)).call f args A k = run (SC r) m n L c (lvlT (SC r) t ms L d) none (finK (SC r) m rs k) kx242 (finK (SC r) m rs k) (sc0 m args) (tr0 m args) [] A := by
  rw [enter hb hn hm hr hl ht, bodySC, ← hc]

/-- Rows of code, taken together from the left. -/
theorem seqA {C : Cfg} {m n L : Nat} (a b d : Code) : run C m n L (.seq a (.seq b d)) = run C m n L (.seq (.seq a b) d) := rfl

theorem run_while {C : Cfg} {m n L : Nat} {fs : FnsC} {ro : Option Nat} {kn : KS} {kx : Nat → KS} {kr : KS} (a b d : Code) (id : Nat) : run C m n L (.seq a (.seq (.block id (.loop b)) d)) fs ro kn kx kr =
    run C m n L a fs ro (cLoop (fun kl => run C m n L b fs ro kl (fun j => match Nat.beq j id with | true => run C m n L d fs ro kn kx kr | false => kx j) kr) L) kx kr := rfl
theorem run_while0 {C : Cfg} {m n L : Nat} {fs : FnsC} {ro : Option Nat} {kn : KS} {kx : Nat → KS} {kr : KS} (a b : Code) (id : Nat) : run C m n L (.seq a (.block id (.loop b))) fs ro kn kx kr =
    run C m n L a fs ro (cLoop (fun kl => run C m n L b fs ro kl (fun j => match Nat.beq j id with | true => kn | false => kx j) kr) L) kx kr := rfl

theorem run_pre {C : Cfg} {m n L : Nat} (a b d e : Code) : run C m n L (.seq a (.seq (.seq b d) e)) = run C m n L (.seq (.seq a b) (.seq d e)) := rfl

theorem beqD (a b : Int) : (a == b) = decide (a = b) := by by_cases h : a = b <;> simp [h]

theorem dT {p : Prop} [Decidable p] (h : p) : decide p = true := decide_eq_true h
theorem dF {p : Prop} [Decidable p] (h : ¬ p) : decide p = false := decide_eq_false h
theorem eqT {a b : Int} (h : a = b) : (a == b) = true := by simp [h]
theorem eqF {a b : Int} (h : a ≠ b) : (a == b) = false := by simp [h]
theorem neT {a b : Int} (h : a ≠ b) : (a != b) = true := by simp [h]
theorem neF {a b : Int} (h : a = b) : (a != b) = false := by simp [h]
theorem wrI {z : Int} (h : -9223372036854775808 ≤ z ∧ z ≤ 9223372036854775807) : IntKind.wrap .i64 z = z := IntWalk.i64_in z h

/- An entry for one call alone: these arguments, this world; what it answers, and the world behind it. -/
noncomputable def m_at (args args0 : List Value) (A A0 : AW) : Bool := @decide (args = args0 ∧ A = A0) (Classical.propDecidable _)
noncomputable def entAt (args0 : List Value) (A0 : AW) (v : Value) (A1 : AW) : Ent := ⟨fun args A => m_at args args0 A A0, fun _ _ => true, fun _ _ => v, fun _ _ => A1, fun _ _ => v, fun _ _ => A1⟩

theorem at_rfl (args : List Value) (A : AW) : m_at args args A A = true := @decide_eq_true _ (Classical.propDecidable _) ⟨rfl, rfl⟩

theorem entAt_ok {C : Cfg} {f : Nat} {args0 : List Value} {A0 : AW} {v : Value} {A1 : AW}
    (h : ∀ F, Wide F → ∀ k γ W args', WRel γ A0 W → Ro C.ro γ W → VsRel γ args0 (Array.toList args') → CallsIn F k C.P f args' W (Go.Ev.Ends γ W v A1)) : EOk C f (entAt args0 A0 v A1) := fun args A hg F hF k γ W args' hw hR ha => by
  obtain ⟨rfl, rfl⟩ := @of_decide_eq_true _ (Classical.propDecidable _) hg
  exact ⟨fun _ => h F hF k γ W args' hw hR ha, fun _ => h F hF k γ W args' hw hR ha⟩

/-- The same, by a run. -/
theorem entAt_run {C : Cfg} (hC : C.Ok) {t : Tbl} (ht : TOk C t) (tm : Tr Nat) {f : Nat} {args0 : List Value} {A0 : AW} {v : Value} {A1 : AW} (h : ∃ L d, (lvlT C t tm L d).call f args0 A0 .ret = .ret v A1) : EOk C f (entAt args0 A0 v A1) :=
  entAt_ok fun F hF k γ W args' hw hR ha => by
    obtain ⟨L, d, hr⟩ := h
    have h1 := (lvlT_le (C := C) t tm L d).call _ _ _ _ _ _ hr
    cases hc : (lvlU C t tm L d).call f args0 A0 with
    | fail w => rw [hc] at h1; cases h1
    | ret u A' =>
      rw [hc] at h1
      cases h1
      exact (lvlU_ok hC ht tm L d).call γ A0 W f args0 args' v A1 hc hw hR ha F hF k

/- Entries of a table, by the shape of the arguments. -/
def eI2 (g : Int → Int → Bool) (v : Int → Int → Value) : Ent := ent (fun args _ => match args with | [.int .i64 a, .int .i64 b] => g a b | _ => false) (fun args _ => match args with | [.int .i64 a, .int .i64 b] => v a b | _ => undef)
def eI4 (g : Int → Int → Int → Int → Bool) (v : Int → Int → Int → Int → Value) : Ent := ent (fun args _ => match args with | [.int .i64 a, .int .i64 b, .int .i64 c, .int .i64 d] => g a b c d | _ => false) (fun args _ => match args with | [.int .i64 a, .int .i64 b, .int .i64 c, .int .i64 d] => v a b c d | _ => undef)
def eA2 (g : Int → Int → Bool) (v : Int → Int → Value) : Ent := ent (fun args _ => match args with | [.agg ⟨[.int .i64 a, .int .i64 b]⟩] => g a b | _ => false) (fun args _ => match args with | [.agg ⟨[.int .i64 a, .int .i64 b]⟩] => v a b | _ => undef)
def eI1 (g : Int → Bool) (v : Int → Value) : Ent := ent (fun args _ => match args with | [.int .i64 a] => g a | _ => false) (fun args _ => match args with | [.int .i64 a] => v a | _ => undef)
def eA1I (g : Int → Int → Int → Bool) (v : Int → Int → Int → Value) : Ent := ent (fun args _ => match args with | [.agg ⟨[.int .i64 a, .int .i64 b]⟩, .int .i64 c] => g a b c | _ => false) (fun args _ => match args with | [.agg ⟨[.int .i64 a, .int .i64 b]⟩, .int .i64 c] => v a b c | _ => undef)
def eAA (g : Int → Int → Int → Int → Bool) (v : Int → Int → Int → Int → Value) : Ent := ent (fun args _ => match args with | [.agg ⟨[.int .i64 a, .int .i64 b]⟩, .agg ⟨[.int .i64 c, .int .i64 d]⟩] => g a b c d | _ => false) (fun args _ => match args with | [.agg ⟨[.int .i64 a, .int .i64 b]⟩, .agg ⟨[.int .i64 c, .int .i64 d]⟩] => v a b c d | _ => undef)
def e0 (v : Value) : Ent := ent (fun args _ => match args with | [] => true | _ => false) (fun _ _ => v)

theorem eI2_ok {C : Cfg} {f : Nat} {g : Int → Int → Bool} {v : Int → Int → Value} (h : ∀ a b, g a b = true → GrT C.P C.ro f [I a, I b] (v a b)) : EOk C f (eI2 g v) := EOk.ent fun args A hg => by
  split at hg
  · exact (h _ _ hg).ro rfl A
  · cases hg
theorem eI4_ok {C : Cfg} {f : Nat} {g : Int → Int → Int → Int → Bool} {v : Int → Int → Int → Int → Value} (h : ∀ a b c d, g a b c d = true → GrT C.P C.ro f [I a, I b, I c, I d] (v a b c d)) : EOk C f (eI4 g v) := EOk.ent fun args A hg => by
  split at hg
  · exact (h _ _ _ _ hg).ro rfl A
  · cases hg
theorem eA2_ok {C : Cfg} {f : Nat} {g : Int → Int → Bool} {v : Int → Int → Value} (h : ∀ a b, g a b = true → GrT C.P C.ro f [.agg ⟨[I a, I b]⟩] (v a b)) : EOk C f (eA2 g v) := EOk.ent fun args A hg => by
  split at hg
  · exact (h _ _ hg).ro rfl A
  · cases hg
theorem eI1_ok {C : Cfg} {f : Nat} {g : Int → Bool} {v : Int → Value} (h : ∀ a, g a = true → GrT C.P C.ro f [I a] (v a)) : EOk C f (eI1 g v) := EOk.ent fun args A hg => by
  split at hg
  · exact (h _ hg).ro rfl A
  · cases hg
theorem eA1I_ok {C : Cfg} {f : Nat} {g : Int → Int → Int → Bool} {v : Int → Int → Int → Value} (h : ∀ a b c, g a b c = true → GrT C.P C.ro f [.agg ⟨[I a, I b]⟩, I c] (v a b c)) : EOk C f (eA1I g v) := EOk.ent fun args A hg => by
  split at hg
  · exact (h _ _ _ hg).ro rfl A
  · cases hg
theorem eAA_ok {C : Cfg} {f : Nat} {g : Int → Int → Int → Int → Bool} {v : Int → Int → Int → Int → Value} (h : ∀ a b c d, g a b c d = true → GrT C.P C.ro f [.agg ⟨[I a, I b]⟩, .agg ⟨[I c, I d]⟩] (v a b c d)) : EOk C f (eAA g v) := EOk.ent fun args A hg => by
  split at hg
  · exact (h _ _ _ _ hg).ro rfl A
  · cases hg
theorem e0_ok {C : Cfg} {f : Nat} {v : Value} (h : GrT C.P C.ro f [] v) : EOk C f (e0 v) := EOk.ent fun args A hg => by
  split at hg
  · exact h.ro rfl A
  · cases hg

end Go.Proofs

/- Runes of a string: those below 128 are the bytes. -/
namespace Go.Proofs
open Go Go.Ev

theorem get_byte (b : ByteArray) (k : Nat) (h : k < b.data.toList.length) : b.get! (k + 0) = b.data.toList[k] := by
  show b.data[k]! = _
  have h' : k < b.data.size := by simpa using h
  rw [getElem!_pos b.data k h']
  exact (Array.getElem_toList h').symm

theorem rune_lo (b : ByteArray) (k : Nat) (h : k < b.data.toList.length) (hc : b.data.toList[k].toNat < 128) : m_rune b k = b.data.toList[k].toNat ∧ m_width b k = 1 := by
  have e := get_byte b k h
  have hb : (b.get! (k + 0)).toNat < 0x80 := by rw [e]; exact hc
  have hd : Utf8.decode b k = ((b.get! (k + 0)).toNat, 1) := by simp only [Utf8.decode]; rw [if_pos hb]
  simp only [m_rune, m_width, hd, e, and_self]

theorem rune_hi (b : ByteArray) (k : Nat) (h : k < b.data.toList.length) (hc : ¬ b.data.toList[k].toNat < 128) : 128 ≤ m_rune b k := by
  have e := get_byte b k h
  have hb : ¬ (b.get! (k + 0)).toNat < 0x80 := by rw [e]; exact hc
  simp only [m_rune, Utf8.decode]
  rw [if_neg hb]
  repeat' split
  all_goals first | (simp only [Utf8.runeError]; omega) | (simp_all; omega)

end Go.Proofs

/- The reference's words and values, run. -/
namespace Go.Proofs
open Go Go.Ev

noncomputable def cRw : Code := bodyOf S0 21
noncomputable def cRv : Code := bodyOf S0 12
def TRw (b : ByteArray) (i : Int) : Tr Value := .node (.node (.node .nil (some (I i)) .nil) none .nil) (some (.string b)) .nil

def TRv (b : ByteArray) (p q i : Int) : Tr Value := .node (.node .nil (some (I p)) (.node (.node .nil (some (I i)) .nil) none .nil)) (some (.string b)) (.node .nil (some (I q)) .nil)

theorem rwA (r : Mem) (L : Nat) (fs : FnsC) (b : ByteArray) (kn : KS) (kx : Nat → KS) (kr : KS) : run (SC r) 9 26 L (.seq (lc cRw) (lc (lc (rc cRw)))) fs none kn kx kr (sc0 9 [.string b]) (tr0 9 [.string b]) [] emptyA =
    kn [] (Tr.node (Tr.node (Tr.node Tr.nil (some (Value.int IntKind.i64 (Int.ofNat 0))) Tr.nil) none Tr.nil) (some (Value.string b)) Tr.nil) [] (AW.mk 0 Tr.nil Tr.nil) := by kernel_rfl

theorem rwB (r : Mem) (L : Nat) (fs : FnsC) (b : ByteArray) (i : Int) (s : List (Nat × Value)) (kn : KS) (kx : Nat → KS) (kr : KS) : run (SC r) 9 26 L (ic (ic (rc (lc (rc cRw))))) fs none kn kx kr s (TRw b i) [] emptyA =
    bif decide (i < Int.ofNat (ByteArray.size b)) then bif decide (0 ≤ i) then Option.casesOn (Array.toList (ByteArray.data b))[Int.toNat i]? (CR.fail 429) fun val => bif Int.ofNat (UInt8.toNat val) != Int.ofNat 116 then bif decide (0 ≤ i) then Option.casesOn (Array.toList (ByteArray.data b))[Int.toNat i]? (CR.fail 429) fun val => bif Int.ofNat (UInt8.toNat val) != Int.ofNat 84 then bif decide (0 ≤ i) then Option.casesOn (Array.toList (ByteArray.data b))[Int.toNat i]? (CR.fail 429) fun val => bif Int.ofNat (UInt8.toNat val) != Int.ofNat 114 then kr [(2, Value.bool false)] (Tr.node (Tr.node (Tr.node Tr.nil (some (Value.int IntKind.i64 i)) Tr.nil) none Tr.nil) (some (Value.string b)) Tr.nil) [] (AW.mk 0 Tr.nil Tr.nil) else kn [(9, Value.int IntKind.i64 (IntKind.wrap IntKind.i64 (i + Int.ofNat 1))), (8, Value.int IntKind.i64 i)] (Tr.node (Tr.node (Tr.node Tr.nil (some (Value.int IntKind.i64 (IntKind.wrap IntKind.i64 (i + Int.ofNat 1)))) Tr.nil) none Tr.nil) (some (Value.string b)) Tr.nil) [] (AW.mk 0 Tr.nil Tr.nil) else CR.fail 420 else kn [(9, Value.int IntKind.i64 (IntKind.wrap IntKind.i64 (i + Int.ofNat 1))), (8, Value.int IntKind.i64 i)] (Tr.node (Tr.node (Tr.node Tr.nil (some (Value.int IntKind.i64 (IntKind.wrap IntKind.i64 (i + Int.ofNat 1)))) Tr.nil) none Tr.nil) (some (Value.string b)) Tr.nil) [] (AW.mk 0 Tr.nil Tr.nil) else CR.fail 420 else kn [(9, Value.int IntKind.i64 (IntKind.wrap IntKind.i64 (i + Int.ofNat 1))), (8, Value.int IntKind.i64 i)] (Tr.node (Tr.node (Tr.node Tr.nil (some (Value.int IntKind.i64 (IntKind.wrap IntKind.i64 (i + Int.ofNat 1)))) Tr.nil) none Tr.nil) (some (Value.string b)) Tr.nil) [] (AW.mk 0 Tr.nil Tr.nil) else CR.fail 420 else kx 0 [(7, Value.bool false), (6, Value.int IntKind.i64 (Int.ofNat (ByteArray.size b))), (5, Value.string b), (4, Value.int IntKind.i64 i)] (Tr.node (Tr.node (Tr.node Tr.nil (some (Value.int IntKind.i64 i)) Tr.nil) none Tr.nil) (some (Value.string b)) Tr.nil) [] (AW.mk 0 Tr.nil Tr.nil) := by kernel_rfl

theorem rwC (r : Mem) (L : Nat) (fs : FnsC) (b : ByteArray) (i : Int) (s : List (Nat × Value)) (kn : KS) (kx : Nat → KS) (kr : KS) : run (SC r) 9 26 L (rc (rc cRw)) fs none kn kx kr s (TRw b i) [] emptyA =
    kr [(2, Value.bool true)] (Tr.node (Tr.node (Tr.node Tr.nil (some (Value.int IntKind.i64 i)) Tr.nil) none Tr.nil) (some (Value.string b)) Tr.nil) [] (AW.mk 0 Tr.nil Tr.nil) := by kernel_rfl

theorem rvA (r : Mem) (L : Nat) (fs : FnsC) (b : ByteArray) (p q : Int) (kn : KS) (kx : Nat → KS) (kr : KS) : run (SC r) 519 83 L (.seq (lc cRv) (lc (lc (rc cRv)))) fs none kn kx kr (sc0 519 [.string b, I p, I q]) (tr0 519 [.string b, I p, I q]) [] emptyA =
    kn [] (Tr.node (Tr.node Tr.nil (some (Value.int IntKind.i64 p)) (Tr.node (Tr.node Tr.nil (some (Value.int IntKind.i64 (Int.ofNat 0))) Tr.nil) none Tr.nil)) (some (Value.string b)) (Tr.node Tr.nil (some (Value.int IntKind.i64 q)) Tr.nil)) [] (AW.mk 0 Tr.nil Tr.nil) := by kernel_rfl

theorem rvB (r : Mem) (L : Nat) (fs : FnsC) (b : ByteArray) (p q : Int) (i : Int) (s : List (Nat × Value)) (kn : KS) (kx : Nat → KS) (kr : KS) : run (SC r) 519 83 L (ic (ic (rc (lc (rc cRv))))) fs none kn kx kr s (TRv b p q i) [] emptyA =
    bif decide (i < Int.ofNat (ByteArray.size b)) then bif decide (0 ≤ i) then Option.casesOn (Array.toList (ByteArray.data b))[Int.toNat i]? (CR.fail 429) fun val => bif Int.ofNat (UInt8.toNat val) == Int.ofNat 116 then bif decide (q > 0) then bif decide (IntKind.wrap IntKind.i64 (p + q) > 1000000000000000) then kr [(8, Value.bool false), (7, Value.int IntKind.i64 (Int.ofNat 0)), (6, Value.int IntKind.i64 (Int.ofNat 0))] (Tr.node (Tr.node Tr.nil (some (Value.int IntKind.i64 (IntKind.wrap IntKind.i64 (p + q)))) (Tr.node (Tr.node Tr.nil (some (Value.int IntKind.i64 i)) Tr.nil) none Tr.nil)) (some (Value.string b)) (Tr.node Tr.nil (some (Value.int IntKind.i64 q)) Tr.nil)) [] (AW.mk 0 Tr.nil Tr.nil) else bif decide (IntKind.wrap IntKind.i64 (p + q) < Int.negSucc 999999999999999) then kr [(8, Value.bool false), (7, Value.int IntKind.i64 (Int.ofNat 0)), (6, Value.int IntKind.i64 (Int.ofNat 0))] (Tr.node (Tr.node Tr.nil (some (Value.int IntKind.i64 (IntKind.wrap IntKind.i64 (p + q)))) (Tr.node (Tr.node Tr.nil (some (Value.int IntKind.i64 i)) Tr.nil) none Tr.nil)) (some (Value.string b)) (Tr.node Tr.nil (some (Value.int IntKind.i64 q)) Tr.nil)) [] (AW.mk 0 Tr.nil Tr.nil) else bif decide (q > 1000000000000000) then kr [(8, Value.bool false), (7, Value.int IntKind.i64 (Int.ofNat 0)), (6, Value.int IntKind.i64 (Int.ofNat 0))] (Tr.node (Tr.node Tr.nil (some (Value.int IntKind.i64 (IntKind.wrap IntKind.i64 (p + q)))) (Tr.node (Tr.node Tr.nil (some (Value.int IntKind.i64 i)) Tr.nil) none Tr.nil)) (some (Value.string b)) (Tr.node Tr.nil (some (Value.int IntKind.i64 q)) Tr.nil)) [] (AW.mk 0 Tr.nil Tr.nil) else kn [(15, Value.int IntKind.i64 (IntKind.wrap IntKind.i64 (i + Int.ofNat 1))), (14, Value.int IntKind.i64 i)] (Tr.node (Tr.node Tr.nil (some (Value.int IntKind.i64 (IntKind.wrap IntKind.i64 (p + q)))) (Tr.node (Tr.node Tr.nil (some (Value.int IntKind.i64 (IntKind.wrap IntKind.i64 (i + Int.ofNat 1)))) Tr.nil) none Tr.nil)) (some (Value.string b)) (Tr.node Tr.nil (some (Value.int IntKind.i64 q)) Tr.nil)) [] (AW.mk 0 Tr.nil Tr.nil) else bif decide (0 ≤ i) then Option.casesOn (Array.toList (ByteArray.data b))[Int.toNat i]? (CR.fail 429) fun val => bif Int.ofNat (UInt8.toNat val) == Int.ofNat 84 then bif decide (q > 0) then bif decide (IntKind.wrap IntKind.i64 (p - q) > 1000000000000000) then kr [(8, Value.bool false), (7, Value.int IntKind.i64 (Int.ofNat 0)), (6, Value.int IntKind.i64 (Int.ofNat 0))] (Tr.node (Tr.node Tr.nil (some (Value.int IntKind.i64 (IntKind.wrap IntKind.i64 (p - q)))) (Tr.node (Tr.node Tr.nil (some (Value.int IntKind.i64 i)) Tr.nil) none Tr.nil)) (some (Value.string b)) (Tr.node Tr.nil (some (Value.int IntKind.i64 q)) Tr.nil)) [] (AW.mk 0 Tr.nil Tr.nil) else bif decide (IntKind.wrap IntKind.i64 (p - q) < Int.negSucc 999999999999999) then kr [(8, Value.bool false), (7, Value.int IntKind.i64 (Int.ofNat 0)), (6, Value.int IntKind.i64 (Int.ofNat 0))] (Tr.node (Tr.node Tr.nil (some (Value.int IntKind.i64 (IntKind.wrap IntKind.i64 (p - q)))) (Tr.node (Tr.node Tr.nil (some (Value.int IntKind.i64 i)) Tr.nil) none Tr.nil)) (some (Value.string b)) (Tr.node Tr.nil (some (Value.int IntKind.i64 q)) Tr.nil)) [] (AW.mk 0 Tr.nil Tr.nil) else bif decide (q > 1000000000000000) then kr [(8, Value.bool false), (7, Value.int IntKind.i64 (Int.ofNat 0)), (6, Value.int IntKind.i64 (Int.ofNat 0))] (Tr.node (Tr.node Tr.nil (some (Value.int IntKind.i64 (IntKind.wrap IntKind.i64 (p - q)))) (Tr.node (Tr.node Tr.nil (some (Value.int IntKind.i64 i)) Tr.nil) none Tr.nil)) (some (Value.string b)) (Tr.node Tr.nil (some (Value.int IntKind.i64 q)) Tr.nil)) [] (AW.mk 0 Tr.nil Tr.nil) else kn [(15, Value.int IntKind.i64 (IntKind.wrap IntKind.i64 (i + Int.ofNat 1))), (14, Value.int IntKind.i64 i)] (Tr.node (Tr.node Tr.nil (some (Value.int IntKind.i64 (IntKind.wrap IntKind.i64 (p - q)))) (Tr.node (Tr.node Tr.nil (some (Value.int IntKind.i64 (IntKind.wrap IntKind.i64 (i + Int.ofNat 1)))) Tr.nil) none Tr.nil)) (some (Value.string b)) (Tr.node Tr.nil (some (Value.int IntKind.i64 q)) Tr.nil)) [] (AW.mk 0 Tr.nil Tr.nil) else bif decide (0 ≤ i) then Option.casesOn (Array.toList (ByteArray.data b))[Int.toNat i]? (CR.fail 429) fun val => bif Int.ofNat (UInt8.toNat val) == Int.ofNat 114 then bif decide (p < 0) then bif decide (q > 1000000000000000) then kr [(8, Value.bool false), (7, Value.int IntKind.i64 (Int.ofNat 0)), (6, Value.int IntKind.i64 (Int.ofNat 0))] (Tr.node (Tr.node Tr.nil (some (Value.int IntKind.i64 q)) (Tr.node (Tr.node Tr.nil (some (Value.int IntKind.i64 i)) Tr.nil) none Tr.nil)) (some (Value.string b)) (Tr.node Tr.nil (some (Value.int IntKind.i64 (IntKind.wrap IntKind.i64 (Int.ofNat 0 - p)))) Tr.nil)) [] (AW.mk 0 Tr.nil Tr.nil) else bif decide (q < Int.negSucc 999999999999999) then kr [(8, Value.bool false), (7, Value.int IntKind.i64 (Int.ofNat 0)), (6, Value.int IntKind.i64 (Int.ofNat 0))] (Tr.node (Tr.node Tr.nil (some (Value.int IntKind.i64 q)) (Tr.node (Tr.node Tr.nil (some (Value.int IntKind.i64 i)) Tr.nil) none Tr.nil)) (some (Value.string b)) (Tr.node Tr.nil (some (Value.int IntKind.i64 (IntKind.wrap IntKind.i64 (Int.ofNat 0 - p)))) Tr.nil)) [] (AW.mk 0 Tr.nil Tr.nil) else bif decide (IntKind.wrap IntKind.i64 (Int.ofNat 0 - p) > 1000000000000000) then kr [(8, Value.bool false), (7, Value.int IntKind.i64 (Int.ofNat 0)), (6, Value.int IntKind.i64 (Int.ofNat 0))] (Tr.node (Tr.node Tr.nil (some (Value.int IntKind.i64 q)) (Tr.node (Tr.node Tr.nil (some (Value.int IntKind.i64 i)) Tr.nil) none Tr.nil)) (some (Value.string b)) (Tr.node Tr.nil (some (Value.int IntKind.i64 (IntKind.wrap IntKind.i64 (Int.ofNat 0 - p)))) Tr.nil)) [] (AW.mk 0 Tr.nil Tr.nil) else kn [(15, Value.int IntKind.i64 (IntKind.wrap IntKind.i64 (i + Int.ofNat 1))), (14, Value.int IntKind.i64 i)] (Tr.node (Tr.node Tr.nil (some (Value.int IntKind.i64 q)) (Tr.node (Tr.node Tr.nil (some (Value.int IntKind.i64 (IntKind.wrap IntKind.i64 (i + Int.ofNat 1)))) Tr.nil) none Tr.nil)) (some (Value.string b)) (Tr.node Tr.nil (some (Value.int IntKind.i64 (IntKind.wrap IntKind.i64 (Int.ofNat 0 - p)))) Tr.nil)) [] (AW.mk 0 Tr.nil Tr.nil) else bif decide (0 ≤ i) then Option.casesOn (Array.toList (ByteArray.data b))[Int.toNat i]? (CR.fail 429) fun val => bif Int.ofNat (UInt8.toNat val) == Int.ofNat 114 then bif decide (p > 0) then bif IntKind.wrap IntKind.i64 (Int.ofNat 0 - q) == Int.ofNat 0 then bif decide (IntKind.wrap IntKind.i64 (Int.ofNat 0 - q) > 1000000000000000) then kr [(8, Value.bool false), (7, Value.int IntKind.i64 (Int.ofNat 0)), (6, Value.int IntKind.i64 (Int.ofNat 0))] (Tr.node (Tr.node Tr.nil (some (Value.int IntKind.i64 (IntKind.wrap IntKind.i64 (Int.ofNat 0 - q)))) (Tr.node (Tr.node Tr.nil (some (Value.int IntKind.i64 i)) Tr.nil) none Tr.nil)) (some (Value.string b)) (Tr.node Tr.nil (some (Value.int IntKind.i64 (Int.ofNat 1))) Tr.nil)) [] (AW.mk 0 Tr.nil Tr.nil) else bif decide (IntKind.wrap IntKind.i64 (Int.ofNat 0 - q) < Int.negSucc 999999999999999) then kr [(8, Value.bool false), (7, Value.int IntKind.i64 (Int.ofNat 0)), (6, Value.int IntKind.i64 (Int.ofNat 0))] (Tr.node (Tr.node Tr.nil (some (Value.int IntKind.i64 (IntKind.wrap IntKind.i64 (Int.ofNat 0 - q)))) (Tr.node (Tr.node Tr.nil (some (Value.int IntKind.i64 i)) Tr.nil) none Tr.nil)) (some (Value.string b)) (Tr.node Tr.nil (some (Value.int IntKind.i64 (Int.ofNat 1))) Tr.nil)) [] (AW.mk 0 Tr.nil Tr.nil) else kn [(15, Value.int IntKind.i64 (IntKind.wrap IntKind.i64 (i + Int.ofNat 1))), (14, Value.int IntKind.i64 i)] (Tr.node (Tr.node Tr.nil (some (Value.int IntKind.i64 (IntKind.wrap IntKind.i64 (Int.ofNat 0 - q)))) (Tr.node (Tr.node Tr.nil (some (Value.int IntKind.i64 (IntKind.wrap IntKind.i64 (i + Int.ofNat 1)))) Tr.nil) none Tr.nil)) (some (Value.string b)) (Tr.node Tr.nil (some (Value.int IntKind.i64 (Int.ofNat 1))) Tr.nil)) [] (AW.mk 0 Tr.nil Tr.nil) else bif decide (IntKind.wrap IntKind.i64 (Int.ofNat 0 - q) > 1000000000000000) then kr [(8, Value.bool false), (7, Value.int IntKind.i64 (Int.ofNat 0)), (6, Value.int IntKind.i64 (Int.ofNat 0))] (Tr.node (Tr.node Tr.nil (some (Value.int IntKind.i64 (IntKind.wrap IntKind.i64 (Int.ofNat 0 - q)))) (Tr.node (Tr.node Tr.nil (some (Value.int IntKind.i64 i)) Tr.nil) none Tr.nil)) (some (Value.string b)) (Tr.node Tr.nil (some (Value.int IntKind.i64 p)) Tr.nil)) [] (AW.mk 0 Tr.nil Tr.nil) else bif decide (IntKind.wrap IntKind.i64 (Int.ofNat 0 - q) < Int.negSucc 999999999999999) then kr [(8, Value.bool false), (7, Value.int IntKind.i64 (Int.ofNat 0)), (6, Value.int IntKind.i64 (Int.ofNat 0))] (Tr.node (Tr.node Tr.nil (some (Value.int IntKind.i64 (IntKind.wrap IntKind.i64 (Int.ofNat 0 - q)))) (Tr.node (Tr.node Tr.nil (some (Value.int IntKind.i64 i)) Tr.nil) none Tr.nil)) (some (Value.string b)) (Tr.node Tr.nil (some (Value.int IntKind.i64 p)) Tr.nil)) [] (AW.mk 0 Tr.nil Tr.nil) else bif decide (p > 1000000000000000) then kr [(8, Value.bool false), (7, Value.int IntKind.i64 (Int.ofNat 0)), (6, Value.int IntKind.i64 (Int.ofNat 0))] (Tr.node (Tr.node Tr.nil (some (Value.int IntKind.i64 (IntKind.wrap IntKind.i64 (Int.ofNat 0 - q)))) (Tr.node (Tr.node Tr.nil (some (Value.int IntKind.i64 i)) Tr.nil) none Tr.nil)) (some (Value.string b)) (Tr.node Tr.nil (some (Value.int IntKind.i64 p)) Tr.nil)) [] (AW.mk 0 Tr.nil Tr.nil) else kn [(15, Value.int IntKind.i64 (IntKind.wrap IntKind.i64 (i + Int.ofNat 1))), (14, Value.int IntKind.i64 i)] (Tr.node (Tr.node Tr.nil (some (Value.int IntKind.i64 (IntKind.wrap IntKind.i64 (Int.ofNat 0 - q)))) (Tr.node (Tr.node Tr.nil (some (Value.int IntKind.i64 (IntKind.wrap IntKind.i64 (i + Int.ofNat 1)))) Tr.nil) none Tr.nil)) (some (Value.string b)) (Tr.node Tr.nil (some (Value.int IntKind.i64 p)) Tr.nil)) [] (AW.mk 0 Tr.nil Tr.nil) else bif decide (0 ≤ i) then Option.casesOn (Array.toList (ByteArray.data b))[Int.toNat i]? (CR.fail 429) fun val => bif Int.ofNat (UInt8.toNat val) == Int.ofNat 114 then kn [(15, Value.int IntKind.i64 (IntKind.wrap IntKind.i64 (i + Int.ofNat 1))), (14, Value.int IntKind.i64 i)] (Tr.node (Tr.node Tr.nil (some (Value.int IntKind.i64 (Int.ofNat 1))) (Tr.node (Tr.node Tr.nil (some (Value.int IntKind.i64 (IntKind.wrap IntKind.i64 (i + Int.ofNat 1)))) Tr.nil) none Tr.nil)) (some (Value.string b)) (Tr.node Tr.nil (some (Value.int IntKind.i64 (Int.ofNat 0))) Tr.nil)) [] (AW.mk 0 Tr.nil Tr.nil) else bif decide (p > 1000000000000000) then kr [(8, Value.bool false), (7, Value.int IntKind.i64 (Int.ofNat 0)), (6, Value.int IntKind.i64 (Int.ofNat 0))] (Tr.node (Tr.node Tr.nil (some (Value.int IntKind.i64 p)) (Tr.node (Tr.node Tr.nil (some (Value.int IntKind.i64 i)) Tr.nil) none Tr.nil)) (some (Value.string b)) (Tr.node Tr.nil (some (Value.int IntKind.i64 q)) Tr.nil)) [] (AW.mk 0 Tr.nil Tr.nil) else bif decide (p < Int.negSucc 999999999999999) then kr [(8, Value.bool false), (7, Value.int IntKind.i64 (Int.ofNat 0)), (6, Value.int IntKind.i64 (Int.ofNat 0))] (Tr.node (Tr.node Tr.nil (some (Value.int IntKind.i64 p)) (Tr.node (Tr.node Tr.nil (some (Value.int IntKind.i64 i)) Tr.nil) none Tr.nil)) (some (Value.string b)) (Tr.node Tr.nil (some (Value.int IntKind.i64 q)) Tr.nil)) [] (AW.mk 0 Tr.nil Tr.nil) else bif decide (q > 1000000000000000) then kr [(8, Value.bool false), (7, Value.int IntKind.i64 (Int.ofNat 0)), (6, Value.int IntKind.i64 (Int.ofNat 0))] (Tr.node (Tr.node Tr.nil (some (Value.int IntKind.i64 p)) (Tr.node (Tr.node Tr.nil (some (Value.int IntKind.i64 i)) Tr.nil) none Tr.nil)) (some (Value.string b)) (Tr.node Tr.nil (some (Value.int IntKind.i64 q)) Tr.nil)) [] (AW.mk 0 Tr.nil Tr.nil) else kn [(15, Value.int IntKind.i64 (IntKind.wrap IntKind.i64 (i + Int.ofNat 1))), (14, Value.int IntKind.i64 i)] (Tr.node (Tr.node Tr.nil (some (Value.int IntKind.i64 p)) (Tr.node (Tr.node Tr.nil (some (Value.int IntKind.i64 (IntKind.wrap IntKind.i64 (i + Int.ofNat 1)))) Tr.nil) none Tr.nil)) (some (Value.string b)) (Tr.node Tr.nil (some (Value.int IntKind.i64 q)) Tr.nil)) [] (AW.mk 0 Tr.nil Tr.nil) else CR.fail 420 else bif decide (0 ≤ i) then Option.casesOn (Array.toList (ByteArray.data b))[Int.toNat i]? (CR.fail 429) fun val => bif Int.ofNat (UInt8.toNat val) == Int.ofNat 114 then kn [(15, Value.int IntKind.i64 (IntKind.wrap IntKind.i64 (i + Int.ofNat 1))), (14, Value.int IntKind.i64 i)] (Tr.node (Tr.node Tr.nil (some (Value.int IntKind.i64 (Int.ofNat 1))) (Tr.node (Tr.node Tr.nil (some (Value.int IntKind.i64 (IntKind.wrap IntKind.i64 (i + Int.ofNat 1)))) Tr.nil) none Tr.nil)) (some (Value.string b)) (Tr.node Tr.nil (some (Value.int IntKind.i64 (Int.ofNat 0))) Tr.nil)) [] (AW.mk 0 Tr.nil Tr.nil) else bif decide (p > 1000000000000000) then kr [(8, Value.bool false), (7, Value.int IntKind.i64 (Int.ofNat 0)), (6, Value.int IntKind.i64 (Int.ofNat 0))] (Tr.node (Tr.node Tr.nil (some (Value.int IntKind.i64 p)) (Tr.node (Tr.node Tr.nil (some (Value.int IntKind.i64 i)) Tr.nil) none Tr.nil)) (some (Value.string b)) (Tr.node Tr.nil (some (Value.int IntKind.i64 q)) Tr.nil)) [] (AW.mk 0 Tr.nil Tr.nil) else bif decide (p < Int.negSucc 999999999999999) then kr [(8, Value.bool false), (7, Value.int IntKind.i64 (Int.ofNat 0)), (6, Value.int IntKind.i64 (Int.ofNat 0))] (Tr.node (Tr.node Tr.nil (some (Value.int IntKind.i64 p)) (Tr.node (Tr.node Tr.nil (some (Value.int IntKind.i64 i)) Tr.nil) none Tr.nil)) (some (Value.string b)) (Tr.node Tr.nil (some (Value.int IntKind.i64 q)) Tr.nil)) [] (AW.mk 0 Tr.nil Tr.nil) else bif decide (q > 1000000000000000) then kr [(8, Value.bool false), (7, Value.int IntKind.i64 (Int.ofNat 0)), (6, Value.int IntKind.i64 (Int.ofNat 0))] (Tr.node (Tr.node Tr.nil (some (Value.int IntKind.i64 p)) (Tr.node (Tr.node Tr.nil (some (Value.int IntKind.i64 i)) Tr.nil) none Tr.nil)) (some (Value.string b)) (Tr.node Tr.nil (some (Value.int IntKind.i64 q)) Tr.nil)) [] (AW.mk 0 Tr.nil Tr.nil) else kn [(15, Value.int IntKind.i64 (IntKind.wrap IntKind.i64 (i + Int.ofNat 1))), (14, Value.int IntKind.i64 i)] (Tr.node (Tr.node Tr.nil (some (Value.int IntKind.i64 p)) (Tr.node (Tr.node Tr.nil (some (Value.int IntKind.i64 (IntKind.wrap IntKind.i64 (i + Int.ofNat 1)))) Tr.nil) none Tr.nil)) (some (Value.string b)) (Tr.node Tr.nil (some (Value.int IntKind.i64 q)) Tr.nil)) [] (AW.mk 0 Tr.nil Tr.nil) else CR.fail 420 else CR.fail 420 else bif decide (0 ≤ i) then Option.casesOn (Array.toList (ByteArray.data b))[Int.toNat i]? (CR.fail 429) fun val => bif Int.ofNat (UInt8.toNat val) == Int.ofNat 114 then bif decide (p > 0) then bif IntKind.wrap IntKind.i64 (Int.ofNat 0 - q) == Int.ofNat 0 then bif decide (IntKind.wrap IntKind.i64 (Int.ofNat 0 - q) > 1000000000000000) then kr [(8, Value.bool false), (7, Value.int IntKind.i64 (Int.ofNat 0)), (6, Value.int IntKind.i64 (Int.ofNat 0))] (Tr.node (Tr.node Tr.nil (some (Value.int IntKind.i64 (IntKind.wrap IntKind.i64 (Int.ofNat 0 - q)))) (Tr.node (Tr.node Tr.nil (some (Value.int IntKind.i64 i)) Tr.nil) none Tr.nil)) (some (Value.string b)) (Tr.node Tr.nil (some (Value.int IntKind.i64 (Int.ofNat 1))) Tr.nil)) [] (AW.mk 0 Tr.nil Tr.nil) else bif decide (IntKind.wrap IntKind.i64 (Int.ofNat 0 - q) < Int.negSucc 999999999999999) then kr [(8, Value.bool false), (7, Value.int IntKind.i64 (Int.ofNat 0)), (6, Value.int IntKind.i64 (Int.ofNat 0))] (Tr.node (Tr.node Tr.nil (some (Value.int IntKind.i64 (IntKind.wrap IntKind.i64 (Int.ofNat 0 - q)))) (Tr.node (Tr.node Tr.nil (some (Value.int IntKind.i64 i)) Tr.nil) none Tr.nil)) (some (Value.string b)) (Tr.node Tr.nil (some (Value.int IntKind.i64 (Int.ofNat 1))) Tr.nil)) [] (AW.mk 0 Tr.nil Tr.nil) else kn [(15, Value.int IntKind.i64 (IntKind.wrap IntKind.i64 (i + Int.ofNat 1))), (14, Value.int IntKind.i64 i)] (Tr.node (Tr.node Tr.nil (some (Value.int IntKind.i64 (IntKind.wrap IntKind.i64 (Int.ofNat 0 - q)))) (Tr.node (Tr.node Tr.nil (some (Value.int IntKind.i64 (IntKind.wrap IntKind.i64 (i + Int.ofNat 1)))) Tr.nil) none Tr.nil)) (some (Value.string b)) (Tr.node Tr.nil (some (Value.int IntKind.i64 (Int.ofNat 1))) Tr.nil)) [] (AW.mk 0 Tr.nil Tr.nil) else bif decide (IntKind.wrap IntKind.i64 (Int.ofNat 0 - q) > 1000000000000000) then kr [(8, Value.bool false), (7, Value.int IntKind.i64 (Int.ofNat 0)), (6, Value.int IntKind.i64 (Int.ofNat 0))] (Tr.node (Tr.node Tr.nil (some (Value.int IntKind.i64 (IntKind.wrap IntKind.i64 (Int.ofNat 0 - q)))) (Tr.node (Tr.node Tr.nil (some (Value.int IntKind.i64 i)) Tr.nil) none Tr.nil)) (some (Value.string b)) (Tr.node Tr.nil (some (Value.int IntKind.i64 p)) Tr.nil)) [] (AW.mk 0 Tr.nil Tr.nil) else bif decide (IntKind.wrap IntKind.i64 (Int.ofNat 0 - q) < Int.negSucc 999999999999999) then kr [(8, Value.bool false), (7, Value.int IntKind.i64 (Int.ofNat 0)), (6, Value.int IntKind.i64 (Int.ofNat 0))] (Tr.node (Tr.node Tr.nil (some (Value.int IntKind.i64 (IntKind.wrap IntKind.i64 (Int.ofNat 0 - q)))) (Tr.node (Tr.node Tr.nil (some (Value.int IntKind.i64 i)) Tr.nil) none Tr.nil)) (some (Value.string b)) (Tr.node Tr.nil (some (Value.int IntKind.i64 p)) Tr.nil)) [] (AW.mk 0 Tr.nil Tr.nil) else bif decide (p > 1000000000000000) then kr [(8, Value.bool false), (7, Value.int IntKind.i64 (Int.ofNat 0)), (6, Value.int IntKind.i64 (Int.ofNat 0))] (Tr.node (Tr.node Tr.nil (some (Value.int IntKind.i64 (IntKind.wrap IntKind.i64 (Int.ofNat 0 - q)))) (Tr.node (Tr.node Tr.nil (some (Value.int IntKind.i64 i)) Tr.nil) none Tr.nil)) (some (Value.string b)) (Tr.node Tr.nil (some (Value.int IntKind.i64 p)) Tr.nil)) [] (AW.mk 0 Tr.nil Tr.nil) else kn [(15, Value.int IntKind.i64 (IntKind.wrap IntKind.i64 (i + Int.ofNat 1))), (14, Value.int IntKind.i64 i)] (Tr.node (Tr.node Tr.nil (some (Value.int IntKind.i64 (IntKind.wrap IntKind.i64 (Int.ofNat 0 - q)))) (Tr.node (Tr.node Tr.nil (some (Value.int IntKind.i64 (IntKind.wrap IntKind.i64 (i + Int.ofNat 1)))) Tr.nil) none Tr.nil)) (some (Value.string b)) (Tr.node Tr.nil (some (Value.int IntKind.i64 p)) Tr.nil)) [] (AW.mk 0 Tr.nil Tr.nil) else bif decide (0 ≤ i) then Option.casesOn (Array.toList (ByteArray.data b))[Int.toNat i]? (CR.fail 429) fun val => bif Int.ofNat (UInt8.toNat val) == Int.ofNat 114 then kn [(15, Value.int IntKind.i64 (IntKind.wrap IntKind.i64 (i + Int.ofNat 1))), (14, Value.int IntKind.i64 i)] (Tr.node (Tr.node Tr.nil (some (Value.int IntKind.i64 (Int.ofNat 1))) (Tr.node (Tr.node Tr.nil (some (Value.int IntKind.i64 (IntKind.wrap IntKind.i64 (i + Int.ofNat 1)))) Tr.nil) none Tr.nil)) (some (Value.string b)) (Tr.node Tr.nil (some (Value.int IntKind.i64 (Int.ofNat 0))) Tr.nil)) [] (AW.mk 0 Tr.nil Tr.nil) else bif decide (p > 1000000000000000) then kr [(8, Value.bool false), (7, Value.int IntKind.i64 (Int.ofNat 0)), (6, Value.int IntKind.i64 (Int.ofNat 0))] (Tr.node (Tr.node Tr.nil (some (Value.int IntKind.i64 p)) (Tr.node (Tr.node Tr.nil (some (Value.int IntKind.i64 i)) Tr.nil) none Tr.nil)) (some (Value.string b)) (Tr.node Tr.nil (some (Value.int IntKind.i64 q)) Tr.nil)) [] (AW.mk 0 Tr.nil Tr.nil) else bif decide (p < Int.negSucc 999999999999999) then kr [(8, Value.bool false), (7, Value.int IntKind.i64 (Int.ofNat 0)), (6, Value.int IntKind.i64 (Int.ofNat 0))] (Tr.node (Tr.node Tr.nil (some (Value.int IntKind.i64 p)) (Tr.node (Tr.node Tr.nil (some (Value.int IntKind.i64 i)) Tr.nil) none Tr.nil)) (some (Value.string b)) (Tr.node Tr.nil (some (Value.int IntKind.i64 q)) Tr.nil)) [] (AW.mk 0 Tr.nil Tr.nil) else bif decide (q > 1000000000000000) then kr [(8, Value.bool false), (7, Value.int IntKind.i64 (Int.ofNat 0)), (6, Value.int IntKind.i64 (Int.ofNat 0))] (Tr.node (Tr.node Tr.nil (some (Value.int IntKind.i64 p)) (Tr.node (Tr.node Tr.nil (some (Value.int IntKind.i64 i)) Tr.nil) none Tr.nil)) (some (Value.string b)) (Tr.node Tr.nil (some (Value.int IntKind.i64 q)) Tr.nil)) [] (AW.mk 0 Tr.nil Tr.nil) else kn [(15, Value.int IntKind.i64 (IntKind.wrap IntKind.i64 (i + Int.ofNat 1))), (14, Value.int IntKind.i64 i)] (Tr.node (Tr.node Tr.nil (some (Value.int IntKind.i64 p)) (Tr.node (Tr.node Tr.nil (some (Value.int IntKind.i64 (IntKind.wrap IntKind.i64 (i + Int.ofNat 1)))) Tr.nil) none Tr.nil)) (some (Value.string b)) (Tr.node Tr.nil (some (Value.int IntKind.i64 q)) Tr.nil)) [] (AW.mk 0 Tr.nil Tr.nil) else CR.fail 420 else bif decide (0 ≤ i) then Option.casesOn (Array.toList (ByteArray.data b))[Int.toNat i]? (CR.fail 429) fun val => bif Int.ofNat (UInt8.toNat val) == Int.ofNat 114 then kn [(15, Value.int IntKind.i64 (IntKind.wrap IntKind.i64 (i + Int.ofNat 1))), (14, Value.int IntKind.i64 i)] (Tr.node (Tr.node Tr.nil (some (Value.int IntKind.i64 (Int.ofNat 1))) (Tr.node (Tr.node Tr.nil (some (Value.int IntKind.i64 (IntKind.wrap IntKind.i64 (i + Int.ofNat 1)))) Tr.nil) none Tr.nil)) (some (Value.string b)) (Tr.node Tr.nil (some (Value.int IntKind.i64 (Int.ofNat 0))) Tr.nil)) [] (AW.mk 0 Tr.nil Tr.nil) else bif decide (p > 1000000000000000) then kr [(8, Value.bool false), (7, Value.int IntKind.i64 (Int.ofNat 0)), (6, Value.int IntKind.i64 (Int.ofNat 0))] (Tr.node (Tr.node Tr.nil (some (Value.int IntKind.i64 p)) (Tr.node (Tr.node Tr.nil (some (Value.int IntKind.i64 i)) Tr.nil) none Tr.nil)) (some (Value.string b)) (Tr.node Tr.nil (some (Value.int IntKind.i64 q)) Tr.nil)) [] (AW.mk 0 Tr.nil Tr.nil) else bif decide (p < Int.negSucc 999999999999999) then kr [(8, Value.bool false), (7, Value.int IntKind.i64 (Int.ofNat 0)), (6, Value.int IntKind.i64 (Int.ofNat 0))] (Tr.node (Tr.node Tr.nil (some (Value.int IntKind.i64 p)) (Tr.node (Tr.node Tr.nil (some (Value.int IntKind.i64 i)) Tr.nil) none Tr.nil)) (some (Value.string b)) (Tr.node Tr.nil (some (Value.int IntKind.i64 q)) Tr.nil)) [] (AW.mk 0 Tr.nil Tr.nil) else bif decide (q > 1000000000000000) then kr [(8, Value.bool false), (7, Value.int IntKind.i64 (Int.ofNat 0)), (6, Value.int IntKind.i64 (Int.ofNat 0))] (Tr.node (Tr.node Tr.nil (some (Value.int IntKind.i64 p)) (Tr.node (Tr.node Tr.nil (some (Value.int IntKind.i64 i)) Tr.nil) none Tr.nil)) (some (Value.string b)) (Tr.node Tr.nil (some (Value.int IntKind.i64 q)) Tr.nil)) [] (AW.mk 0 Tr.nil Tr.nil) else kn [(15, Value.int IntKind.i64 (IntKind.wrap IntKind.i64 (i + Int.ofNat 1))), (14, Value.int IntKind.i64 i)] (Tr.node (Tr.node Tr.nil (some (Value.int IntKind.i64 p)) (Tr.node (Tr.node Tr.nil (some (Value.int IntKind.i64 (IntKind.wrap IntKind.i64 (i + Int.ofNat 1)))) Tr.nil) none Tr.nil)) (some (Value.string b)) (Tr.node Tr.nil (some (Value.int IntKind.i64 q)) Tr.nil)) [] (AW.mk 0 Tr.nil Tr.nil) else CR.fail 420 else CR.fail 420 else CR.fail 420 else bif decide (0 ≤ i) then Option.casesOn (Array.toList (ByteArray.data b))[Int.toNat i]? (CR.fail 429) fun val => bif Int.ofNat (UInt8.toNat val) == Int.ofNat 114 then bif decide (p < 0) then bif decide (q > 1000000000000000) then kr [(8, Value.bool false), (7, Value.int IntKind.i64 (Int.ofNat 0)), (6, Value.int IntKind.i64 (Int.ofNat 0))] (Tr.node (Tr.node Tr.nil (some (Value.int IntKind.i64 q)) (Tr.node (Tr.node Tr.nil (some (Value.int IntKind.i64 i)) Tr.nil) none Tr.nil)) (some (Value.string b)) (Tr.node Tr.nil (some (Value.int IntKind.i64 (IntKind.wrap IntKind.i64 (Int.ofNat 0 - p)))) Tr.nil)) [] (AW.mk 0 Tr.nil Tr.nil) else bif decide (q < Int.negSucc 999999999999999) then kr [(8, Value.bool false), (7, Value.int IntKind.i64 (Int.ofNat 0)), (6, Value.int IntKind.i64 (Int.ofNat 0))] (Tr.node (Tr.node Tr.nil (some (Value.int IntKind.i64 q)) (Tr.node (Tr.node Tr.nil (some (Value.int IntKind.i64 i)) Tr.nil) none Tr.nil)) (some (Value.string b)) (Tr.node Tr.nil (some (Value.int IntKind.i64 (IntKind.wrap IntKind.i64 (Int.ofNat 0 - p)))) Tr.nil)) [] (AW.mk 0 Tr.nil Tr.nil) else bif decide (IntKind.wrap IntKind.i64 (Int.ofNat 0 - p) > 1000000000000000) then kr [(8, Value.bool false), (7, Value.int IntKind.i64 (Int.ofNat 0)), (6, Value.int IntKind.i64 (Int.ofNat 0))] (Tr.node (Tr.node Tr.nil (some (Value.int IntKind.i64 q)) (Tr.node (Tr.node Tr.nil (some (Value.int IntKind.i64 i)) Tr.nil) none Tr.nil)) (some (Value.string b)) (Tr.node Tr.nil (some (Value.int IntKind.i64 (IntKind.wrap IntKind.i64 (Int.ofNat 0 - p)))) Tr.nil)) [] (AW.mk 0 Tr.nil Tr.nil) else kn [(15, Value.int IntKind.i64 (IntKind.wrap IntKind.i64 (i + Int.ofNat 1))), (14, Value.int IntKind.i64 i)] (Tr.node (Tr.node Tr.nil (some (Value.int IntKind.i64 q)) (Tr.node (Tr.node Tr.nil (some (Value.int IntKind.i64 (IntKind.wrap IntKind.i64 (i + Int.ofNat 1)))) Tr.nil) none Tr.nil)) (some (Value.string b)) (Tr.node Tr.nil (some (Value.int IntKind.i64 (IntKind.wrap IntKind.i64 (Int.ofNat 0 - p)))) Tr.nil)) [] (AW.mk 0 Tr.nil Tr.nil) else bif decide (0 ≤ i) then Option.casesOn (Array.toList (ByteArray.data b))[Int.toNat i]? (CR.fail 429) fun val => bif Int.ofNat (UInt8.toNat val) == Int.ofNat 114 then bif decide (p > 0) then bif IntKind.wrap IntKind.i64 (Int.ofNat 0 - q) == Int.ofNat 0 then bif decide (IntKind.wrap IntKind.i64 (Int.ofNat 0 - q) > 1000000000000000) then kr [(8, Value.bool false), (7, Value.int IntKind.i64 (Int.ofNat 0)), (6, Value.int IntKind.i64 (Int.ofNat 0))] (Tr.node (Tr.node Tr.nil (some (Value.int IntKind.i64 (IntKind.wrap IntKind.i64 (Int.ofNat 0 - q)))) (Tr.node (Tr.node Tr.nil (some (Value.int IntKind.i64 i)) Tr.nil) none Tr.nil)) (some (Value.string b)) (Tr.node Tr.nil (some (Value.int IntKind.i64 (Int.ofNat 1))) Tr.nil)) [] (AW.mk 0 Tr.nil Tr.nil) else bif decide (IntKind.wrap IntKind.i64 (Int.ofNat 0 - q) < Int.negSucc 999999999999999) then kr [(8, Value.bool false), (7, Value.int IntKind.i64 (Int.ofNat 0)), (6, Value.int IntKind.i64 (Int.ofNat 0))] (Tr.node (Tr.node Tr.nil (some (Value.int IntKind.i64 (IntKind.wrap IntKind.i64 (Int.ofNat 0 - q)))) (Tr.node (Tr.node Tr.nil (some (Value.int IntKind.i64 i)) Tr.nil) none Tr.nil)) (some (Value.string b)) (Tr.node Tr.nil (some (Value.int IntKind.i64 (Int.ofNat 1))) Tr.nil)) [] (AW.mk 0 Tr.nil Tr.nil) else kn [(15, Value.int IntKind.i64 (IntKind.wrap IntKind.i64 (i + Int.ofNat 1))), (14, Value.int IntKind.i64 i)] (Tr.node (Tr.node Tr.nil (some (Value.int IntKind.i64 (IntKind.wrap IntKind.i64 (Int.ofNat 0 - q)))) (Tr.node (Tr.node Tr.nil (some (Value.int IntKind.i64 (IntKind.wrap IntKind.i64 (i + Int.ofNat 1)))) Tr.nil) none Tr.nil)) (some (Value.string b)) (Tr.node Tr.nil (some (Value.int IntKind.i64 (Int.ofNat 1))) Tr.nil)) [] (AW.mk 0 Tr.nil Tr.nil) else bif decide (IntKind.wrap IntKind.i64 (Int.ofNat 0 - q) > 1000000000000000) then kr [(8, Value.bool false), (7, Value.int IntKind.i64 (Int.ofNat 0)), (6, Value.int IntKind.i64 (Int.ofNat 0))] (Tr.node (Tr.node Tr.nil (some (Value.int IntKind.i64 (IntKind.wrap IntKind.i64 (Int.ofNat 0 - q)))) (Tr.node (Tr.node Tr.nil (some (Value.int IntKind.i64 i)) Tr.nil) none Tr.nil)) (some (Value.string b)) (Tr.node Tr.nil (some (Value.int IntKind.i64 p)) Tr.nil)) [] (AW.mk 0 Tr.nil Tr.nil) else bif decide (IntKind.wrap IntKind.i64 (Int.ofNat 0 - q) < Int.negSucc 999999999999999) then kr [(8, Value.bool false), (7, Value.int IntKind.i64 (Int.ofNat 0)), (6, Value.int IntKind.i64 (Int.ofNat 0))] (Tr.node (Tr.node Tr.nil (some (Value.int IntKind.i64 (IntKind.wrap IntKind.i64 (Int.ofNat 0 - q)))) (Tr.node (Tr.node Tr.nil (some (Value.int IntKind.i64 i)) Tr.nil) none Tr.nil)) (some (Value.string b)) (Tr.node Tr.nil (some (Value.int IntKind.i64 p)) Tr.nil)) [] (AW.mk 0 Tr.nil Tr.nil) else bif decide (p > 1000000000000000) then kr [(8, Value.bool false), (7, Value.int IntKind.i64 (Int.ofNat 0)), (6, Value.int IntKind.i64 (Int.ofNat 0))] (Tr.node (Tr.node Tr.nil (some (Value.int IntKind.i64 (IntKind.wrap IntKind.i64 (Int.ofNat 0 - q)))) (Tr.node (Tr.node Tr.nil (some (Value.int IntKind.i64 i)) Tr.nil) none Tr.nil)) (some (Value.string b)) (Tr.node Tr.nil (some (Value.int IntKind.i64 p)) Tr.nil)) [] (AW.mk 0 Tr.nil Tr.nil) else kn [(15, Value.int IntKind.i64 (IntKind.wrap IntKind.i64 (i + Int.ofNat 1))), (14, Value.int IntKind.i64 i)] (Tr.node (Tr.node Tr.nil (some (Value.int IntKind.i64 (IntKind.wrap IntKind.i64 (Int.ofNat 0 - q)))) (Tr.node (Tr.node Tr.nil (some (Value.int IntKind.i64 (IntKind.wrap IntKind.i64 (i + Int.ofNat 1)))) Tr.nil) none Tr.nil)) (some (Value.string b)) (Tr.node Tr.nil (some (Value.int IntKind.i64 p)) Tr.nil)) [] (AW.mk 0 Tr.nil Tr.nil) else bif decide (0 ≤ i) then Option.casesOn (Array.toList (ByteArray.data b))[Int.toNat i]? (CR.fail 429) fun val => bif Int.ofNat (UInt8.toNat val) == Int.ofNat 114 then kn [(15, Value.int IntKind.i64 (IntKind.wrap IntKind.i64 (i + Int.ofNat 1))), (14, Value.int IntKind.i64 i)] (Tr.node (Tr.node Tr.nil (some (Value.int IntKind.i64 (Int.ofNat 1))) (Tr.node (Tr.node Tr.nil (some (Value.int IntKind.i64 (IntKind.wrap IntKind.i64 (i + Int.ofNat 1)))) Tr.nil) none Tr.nil)) (some (Value.string b)) (Tr.node Tr.nil (some (Value.int IntKind.i64 (Int.ofNat 0))) Tr.nil)) [] (AW.mk 0 Tr.nil Tr.nil) else bif decide (p > 1000000000000000) then kr [(8, Value.bool false), (7, Value.int IntKind.i64 (Int.ofNat 0)), (6, Value.int IntKind.i64 (Int.ofNat 0))] (Tr.node (Tr.node Tr.nil (some (Value.int IntKind.i64 p)) (Tr.node (Tr.node Tr.nil (some (Value.int IntKind.i64 i)) Tr.nil) none Tr.nil)) (some (Value.string b)) (Tr.node Tr.nil (some (Value.int IntKind.i64 q)) Tr.nil)) [] (AW.mk 0 Tr.nil Tr.nil) else bif decide (p < Int.negSucc 999999999999999) then kr [(8, Value.bool false), (7, Value.int IntKind.i64 (Int.ofNat 0)), (6, Value.int IntKind.i64 (Int.ofNat 0))] (Tr.node (Tr.node Tr.nil (some (Value.int IntKind.i64 p)) (Tr.node (Tr.node Tr.nil (some (Value.int IntKind.i64 i)) Tr.nil) none Tr.nil)) (some (Value.string b)) (Tr.node Tr.nil (some (Value.int IntKind.i64 q)) Tr.nil)) [] (AW.mk 0 Tr.nil Tr.nil) else bif decide (q > 1000000000000000) then kr [(8, Value.bool false), (7, Value.int IntKind.i64 (Int.ofNat 0)), (6, Value.int IntKind.i64 (Int.ofNat 0))] (Tr.node (Tr.node Tr.nil (some (Value.int IntKind.i64 p)) (Tr.node (Tr.node Tr.nil (some (Value.int IntKind.i64 i)) Tr.nil) none Tr.nil)) (some (Value.string b)) (Tr.node Tr.nil (some (Value.int IntKind.i64 q)) Tr.nil)) [] (AW.mk 0 Tr.nil Tr.nil) else kn [(15, Value.int IntKind.i64 (IntKind.wrap IntKind.i64 (i + Int.ofNat 1))), (14, Value.int IntKind.i64 i)] (Tr.node (Tr.node Tr.nil (some (Value.int IntKind.i64 p)) (Tr.node (Tr.node Tr.nil (some (Value.int IntKind.i64 (IntKind.wrap IntKind.i64 (i + Int.ofNat 1)))) Tr.nil) none Tr.nil)) (some (Value.string b)) (Tr.node Tr.nil (some (Value.int IntKind.i64 q)) Tr.nil)) [] (AW.mk 0 Tr.nil Tr.nil) else CR.fail 420 else bif decide (0 ≤ i) then Option.casesOn (Array.toList (ByteArray.data b))[Int.toNat i]? (CR.fail 429) fun val => bif Int.ofNat (UInt8.toNat val) == Int.ofNat 114 then kn [(15, Value.int IntKind.i64 (IntKind.wrap IntKind.i64 (i + Int.ofNat 1))), (14, Value.int IntKind.i64 i)] (Tr.node (Tr.node Tr.nil (some (Value.int IntKind.i64 (Int.ofNat 1))) (Tr.node (Tr.node Tr.nil (some (Value.int IntKind.i64 (IntKind.wrap IntKind.i64 (i + Int.ofNat 1)))) Tr.nil) none Tr.nil)) (some (Value.string b)) (Tr.node Tr.nil (some (Value.int IntKind.i64 (Int.ofNat 0))) Tr.nil)) [] (AW.mk 0 Tr.nil Tr.nil) else bif decide (p > 1000000000000000) then kr [(8, Value.bool false), (7, Value.int IntKind.i64 (Int.ofNat 0)), (6, Value.int IntKind.i64 (Int.ofNat 0))] (Tr.node (Tr.node Tr.nil (some (Value.int IntKind.i64 p)) (Tr.node (Tr.node Tr.nil (some (Value.int IntKind.i64 i)) Tr.nil) none Tr.nil)) (some (Value.string b)) (Tr.node Tr.nil (some (Value.int IntKind.i64 q)) Tr.nil)) [] (AW.mk 0 Tr.nil Tr.nil) else bif decide (p < Int.negSucc 999999999999999) then kr [(8, Value.bool false), (7, Value.int IntKind.i64 (Int.ofNat 0)), (6, Value.int IntKind.i64 (Int.ofNat 0))] (Tr.node (Tr.node Tr.nil (some (Value.int IntKind.i64 p)) (Tr.node (Tr.node Tr.nil (some (Value.int IntKind.i64 i)) Tr.nil) none Tr.nil)) (some (Value.string b)) (Tr.node Tr.nil (some (Value.int IntKind.i64 q)) Tr.nil)) [] (AW.mk 0 Tr.nil Tr.nil) else bif decide (q > 1000000000000000) then kr [(8, Value.bool false), (7, Value.int IntKind.i64 (Int.ofNat 0)), (6, Value.int IntKind.i64 (Int.ofNat 0))] (Tr.node (Tr.node Tr.nil (some (Value.int IntKind.i64 p)) (Tr.node (Tr.node Tr.nil (some (Value.int IntKind.i64 i)) Tr.nil) none Tr.nil)) (some (Value.string b)) (Tr.node Tr.nil (some (Value.int IntKind.i64 q)) Tr.nil)) [] (AW.mk 0 Tr.nil Tr.nil) else kn [(15, Value.int IntKind.i64 (IntKind.wrap IntKind.i64 (i + Int.ofNat 1))), (14, Value.int IntKind.i64 i)] (Tr.node (Tr.node Tr.nil (some (Value.int IntKind.i64 p)) (Tr.node (Tr.node Tr.nil (some (Value.int IntKind.i64 (IntKind.wrap IntKind.i64 (i + Int.ofNat 1)))) Tr.nil) none Tr.nil)) (some (Value.string b)) (Tr.node Tr.nil (some (Value.int IntKind.i64 q)) Tr.nil)) [] (AW.mk 0 Tr.nil Tr.nil) else CR.fail 420 else CR.fail 420 else bif decide (0 ≤ i) then Option.casesOn (Array.toList (ByteArray.data b))[Int.toNat i]? (CR.fail 429) fun val => bif Int.ofNat (UInt8.toNat val) == Int.ofNat 114 then bif decide (p > 0) then bif IntKind.wrap IntKind.i64 (Int.ofNat 0 - q) == Int.ofNat 0 then bif decide (IntKind.wrap IntKind.i64 (Int.ofNat 0 - q) > 1000000000000000) then kr [(8, Value.bool false), (7, Value.int IntKind.i64 (Int.ofNat 0)), (6, Value.int IntKind.i64 (Int.ofNat 0))] (Tr.node (Tr.node Tr.nil (some (Value.int IntKind.i64 (IntKind.wrap IntKind.i64 (Int.ofNat 0 - q)))) (Tr.node (Tr.node Tr.nil (some (Value.int IntKind.i64 i)) Tr.nil) none Tr.nil)) (some (Value.string b)) (Tr.node Tr.nil (some (Value.int IntKind.i64 (Int.ofNat 1))) Tr.nil)) [] (AW.mk 0 Tr.nil Tr.nil) else bif decide (IntKind.wrap IntKind.i64 (Int.ofNat 0 - q) < Int.negSucc 999999999999999) then kr [(8, Value.bool false), (7, Value.int IntKind.i64 (Int.ofNat 0)), (6, Value.int IntKind.i64 (Int.ofNat 0))] (Tr.node (Tr.node Tr.nil (some (Value.int IntKind.i64 (IntKind.wrap IntKind.i64 (Int.ofNat 0 - q)))) (Tr.node (Tr.node Tr.nil (some (Value.int IntKind.i64 i)) Tr.nil) none Tr.nil)) (some (Value.string b)) (Tr.node Tr.nil (some (Value.int IntKind.i64 (Int.ofNat 1))) Tr.nil)) [] (AW.mk 0 Tr.nil Tr.nil) else kn [(15, Value.int IntKind.i64 (IntKind.wrap IntKind.i64 (i + Int.ofNat 1))), (14, Value.int IntKind.i64 i)] (Tr.node (Tr.node Tr.nil (some (Value.int IntKind.i64 (IntKind.wrap IntKind.i64 (Int.ofNat 0 - q)))) (Tr.node (Tr.node Tr.nil (some (Value.int IntKind.i64 (IntKind.wrap IntKind.i64 (i + Int.ofNat 1)))) Tr.nil) none Tr.nil)) (some (Value.string b)) (Tr.node Tr.nil (some (Value.int IntKind.i64 (Int.ofNat 1))) Tr.nil)) [] (AW.mk 0 Tr.nil Tr.nil) else bif decide (IntKind.wrap IntKind.i64 (Int.ofNat 0 - q) > 1000000000000000) then kr [(8, Value.bool false), (7, Value.int IntKind.i64 (Int.ofNat 0)), (6, Value.int IntKind.i64 (Int.ofNat 0))] (Tr.node (Tr.node Tr.nil (some (Value.int IntKind.i64 (IntKind.wrap IntKind.i64 (Int.ofNat 0 - q)))) (Tr.node (Tr.node Tr.nil (some (Value.int IntKind.i64 i)) Tr.nil) none Tr.nil)) (some (Value.string b)) (Tr.node Tr.nil (some (Value.int IntKind.i64 p)) Tr.nil)) [] (AW.mk 0 Tr.nil Tr.nil) else bif decide (IntKind.wrap IntKind.i64 (Int.ofNat 0 - q) < Int.negSucc 999999999999999) then kr [(8, Value.bool false), (7, Value.int IntKind.i64 (Int.ofNat 0)), (6, Value.int IntKind.i64 (Int.ofNat 0))] (Tr.node (Tr.node Tr.nil (some (Value.int IntKind.i64 (IntKind.wrap IntKind.i64 (Int.ofNat 0 - q)))) (Tr.node (Tr.node Tr.nil (some (Value.int IntKind.i64 i)) Tr.nil) none Tr.nil)) (some (Value.string b)) (Tr.node Tr.nil (some (Value.int IntKind.i64 p)) Tr.nil)) [] (AW.mk 0 Tr.nil Tr.nil) else bif decide (p > 1000000000000000) then kr [(8, Value.bool false), (7, Value.int IntKind.i64 (Int.ofNat 0)), (6, Value.int IntKind.i64 (Int.ofNat 0))] (Tr.node (Tr.node Tr.nil (some (Value.int IntKind.i64 (IntKind.wrap IntKind.i64 (Int.ofNat 0 - q)))) (Tr.node (Tr.node Tr.nil (some (Value.int IntKind.i64 i)) Tr.nil) none Tr.nil)) (some (Value.string b)) (Tr.node Tr.nil (some (Value.int IntKind.i64 p)) Tr.nil)) [] (AW.mk 0 Tr.nil Tr.nil) else kn [(15, Value.int IntKind.i64 (IntKind.wrap IntKind.i64 (i + Int.ofNat 1))), (14, Value.int IntKind.i64 i)] (Tr.node (Tr.node Tr.nil (some (Value.int IntKind.i64 (IntKind.wrap IntKind.i64 (Int.ofNat 0 - q)))) (Tr.node (Tr.node Tr.nil (some (Value.int IntKind.i64 (IntKind.wrap IntKind.i64 (i + Int.ofNat 1)))) Tr.nil) none Tr.nil)) (some (Value.string b)) (Tr.node Tr.nil (some (Value.int IntKind.i64 p)) Tr.nil)) [] (AW.mk 0 Tr.nil Tr.nil) else bif decide (0 ≤ i) then Option.casesOn (Array.toList (ByteArray.data b))[Int.toNat i]? (CR.fail 429) fun val => bif Int.ofNat (UInt8.toNat val) == Int.ofNat 114 then kn [(15, Value.int IntKind.i64 (IntKind.wrap IntKind.i64 (i + Int.ofNat 1))), (14, Value.int IntKind.i64 i)] (Tr.node (Tr.node Tr.nil (some (Value.int IntKind.i64 (Int.ofNat 1))) (Tr.node (Tr.node Tr.nil (some (Value.int IntKind.i64 (IntKind.wrap IntKind.i64 (i + Int.ofNat 1)))) Tr.nil) none Tr.nil)) (some (Value.string b)) (Tr.node Tr.nil (some (Value.int IntKind.i64 (Int.ofNat 0))) Tr.nil)) [] (AW.mk 0 Tr.nil Tr.nil) else bif decide (p > 1000000000000000) then kr [(8, Value.bool false), (7, Value.int IntKind.i64 (Int.ofNat 0)), (6, Value.int IntKind.i64 (Int.ofNat 0))] (Tr.node (Tr.node Tr.nil (some (Value.int IntKind.i64 p)) (Tr.node (Tr.node Tr.nil (some (Value.int IntKind.i64 i)) Tr.nil) none Tr.nil)) (some (Value.string b)) (Tr.node Tr.nil (some (Value.int IntKind.i64 q)) Tr.nil)) [] (AW.mk 0 Tr.nil Tr.nil) else bif decide (p < Int.negSucc 999999999999999) then kr [(8, Value.bool false), (7, Value.int IntKind.i64 (Int.ofNat 0)), (6, Value.int IntKind.i64 (Int.ofNat 0))] (Tr.node (Tr.node Tr.nil (some (Value.int IntKind.i64 p)) (Tr.node (Tr.node Tr.nil (some (Value.int IntKind.i64 i)) Tr.nil) none Tr.nil)) (some (Value.string b)) (Tr.node Tr.nil (some (Value.int IntKind.i64 q)) Tr.nil)) [] (AW.mk 0 Tr.nil Tr.nil) else bif decide (q > 1000000000000000) then kr [(8, Value.bool false), (7, Value.int IntKind.i64 (Int.ofNat 0)), (6, Value.int IntKind.i64 (Int.ofNat 0))] (Tr.node (Tr.node Tr.nil (some (Value.int IntKind.i64 p)) (Tr.node (Tr.node Tr.nil (some (Value.int IntKind.i64 i)) Tr.nil) none Tr.nil)) (some (Value.string b)) (Tr.node Tr.nil (some (Value.int IntKind.i64 q)) Tr.nil)) [] (AW.mk 0 Tr.nil Tr.nil) else kn [(15, Value.int IntKind.i64 (IntKind.wrap IntKind.i64 (i + Int.ofNat 1))), (14, Value.int IntKind.i64 i)] (Tr.node (Tr.node Tr.nil (some (Value.int IntKind.i64 p)) (Tr.node (Tr.node Tr.nil (some (Value.int IntKind.i64 (IntKind.wrap IntKind.i64 (i + Int.ofNat 1)))) Tr.nil) none Tr.nil)) (some (Value.string b)) (Tr.node Tr.nil (some (Value.int IntKind.i64 q)) Tr.nil)) [] (AW.mk 0 Tr.nil Tr.nil) else CR.fail 420 else bif decide (0 ≤ i) then Option.casesOn (Array.toList (ByteArray.data b))[Int.toNat i]? (CR.fail 429) fun val => bif Int.ofNat (UInt8.toNat val) == Int.ofNat 114 then kn [(15, Value.int IntKind.i64 (IntKind.wrap IntKind.i64 (i + Int.ofNat 1))), (14, Value.int IntKind.i64 i)] (Tr.node (Tr.node Tr.nil (some (Value.int IntKind.i64 (Int.ofNat 1))) (Tr.node (Tr.node Tr.nil (some (Value.int IntKind.i64 (IntKind.wrap IntKind.i64 (i + Int.ofNat 1)))) Tr.nil) none Tr.nil)) (some (Value.string b)) (Tr.node Tr.nil (some (Value.int IntKind.i64 (Int.ofNat 0))) Tr.nil)) [] (AW.mk 0 Tr.nil Tr.nil) else bif decide (p > 1000000000000000) then kr [(8, Value.bool false), (7, Value.int IntKind.i64 (Int.ofNat 0)), (6, Value.int IntKind.i64 (Int.ofNat 0))] (Tr.node (Tr.node Tr.nil (some (Value.int IntKind.i64 p)) (Tr.node (Tr.node Tr.nil (some (Value.int IntKind.i64 i)) Tr.nil) none Tr.nil)) (some (Value.string b)) (Tr.node Tr.nil (some (Value.int IntKind.i64 q)) Tr.nil)) [] (AW.mk 0 Tr.nil Tr.nil) else bif decide (p < Int.negSucc 999999999999999) then kr [(8, Value.bool false), (7, Value.int IntKind.i64 (Int.ofNat 0)), (6, Value.int IntKind.i64 (Int.ofNat 0))] (Tr.node (Tr.node Tr.nil (some (Value.int IntKind.i64 p)) (Tr.node (Tr.node Tr.nil (some (Value.int IntKind.i64 i)) Tr.nil) none Tr.nil)) (some (Value.string b)) (Tr.node Tr.nil (some (Value.int IntKind.i64 q)) Tr.nil)) [] (AW.mk 0 Tr.nil Tr.nil) else bif decide (q > 1000000000000000) then kr [(8, Value.bool false), (7, Value.int IntKind.i64 (Int.ofNat 0)), (6, Value.int IntKind.i64 (Int.ofNat 0))] (Tr.node (Tr.node Tr.nil (some (Value.int IntKind.i64 p)) (Tr.node (Tr.node Tr.nil (some (Value.int IntKind.i64 i)) Tr.nil) none Tr.nil)) (some (Value.string b)) (Tr.node Tr.nil (some (Value.int IntKind.i64 q)) Tr.nil)) [] (AW.mk 0 Tr.nil Tr.nil) else kn [(15, Value.int IntKind.i64 (IntKind.wrap IntKind.i64 (i + Int.ofNat 1))), (14, Value.int IntKind.i64 i)] (Tr.node (Tr.node Tr.nil (some (Value.int IntKind.i64 p)) (Tr.node (Tr.node Tr.nil (some (Value.int IntKind.i64 (IntKind.wrap IntKind.i64 (i + Int.ofNat 1)))) Tr.nil) none Tr.nil)) (some (Value.string b)) (Tr.node Tr.nil (some (Value.int IntKind.i64 q)) Tr.nil)) [] (AW.mk 0 Tr.nil Tr.nil) else CR.fail 420 else CR.fail 420 else CR.fail 420 else CR.fail 420 else bif decide (0 ≤ i) then Option.casesOn (Array.toList (ByteArray.data b))[Int.toNat i]? (CR.fail 429) fun val => bif Int.ofNat (UInt8.toNat val) == Int.ofNat 84 then bif decide (q > 0) then bif decide (IntKind.wrap IntKind.i64 (p - q) > 1000000000000000) then kr [(8, Value.bool false), (7, Value.int IntKind.i64 (Int.ofNat 0)), (6, Value.int IntKind.i64 (Int.ofNat 0))] (Tr.node (Tr.node Tr.nil (some (Value.int IntKind.i64 (IntKind.wrap IntKind.i64 (p - q)))) (Tr.node (Tr.node Tr.nil (some (Value.int IntKind.i64 i)) Tr.nil) none Tr.nil)) (some (Value.string b)) (Tr.node Tr.nil (some (Value.int IntKind.i64 q)) Tr.nil)) [] (AW.mk 0 Tr.nil Tr.nil) else bif decide (IntKind.wrap IntKind.i64 (p - q) < Int.negSucc 999999999999999) then kr [(8, Value.bool false), (7, Value.int IntKind.i64 (Int.ofNat 0)), (6, Value.int IntKind.i64 (Int.ofNat 0))] (Tr.node (Tr.node Tr.nil (some (Value.int IntKind.i64 (IntKind.wrap IntKind.i64 (p - q)))) (Tr.node (Tr.node Tr.nil (some (Value.int IntKind.i64 i)) Tr.nil) none Tr.nil)) (some (Value.string b)) (Tr.node Tr.nil (some (Value.int IntKind.i64 q)) Tr.nil)) [] (AW.mk 0 Tr.nil Tr.nil) else bif decide (q > 1000000000000000) then kr [(8, Value.bool false), (7, Value.int IntKind.i64 (Int.ofNat 0)), (6, Value.int IntKind.i64 (Int.ofNat 0))] (Tr.node (Tr.node Tr.nil (some (Value.int IntKind.i64 (IntKind.wrap IntKind.i64 (p - q)))) (Tr.node (Tr.node Tr.nil (some (Value.int IntKind.i64 i)) Tr.nil) none Tr.nil)) (some (Value.string b)) (Tr.node Tr.nil (some (Value.int IntKind.i64 q)) Tr.nil)) [] (AW.mk 0 Tr.nil Tr.nil) else kn [(15, Value.int IntKind.i64 (IntKind.wrap IntKind.i64 (i + Int.ofNat 1))), (14, Value.int IntKind.i64 i)] (Tr.node (Tr.node Tr.nil (some (Value.int IntKind.i64 (IntKind.wrap IntKind.i64 (p - q)))) (Tr.node (Tr.node Tr.nil (some (Value.int IntKind.i64 (IntKind.wrap IntKind.i64 (i + Int.ofNat 1)))) Tr.nil) none Tr.nil)) (some (Value.string b)) (Tr.node Tr.nil (some (Value.int IntKind.i64 q)) Tr.nil)) [] (AW.mk 0 Tr.nil Tr.nil) else bif decide (0 ≤ i) then Option.casesOn (Array.toList (ByteArray.data b))[Int.toNat i]? (CR.fail 429) fun val => bif Int.ofNat (UInt8.toNat val) == Int.ofNat 114 then bif decide (p < 0) then bif decide (q > 1000000000000000) then kr [(8, Value.bool false), (7, Value.int IntKind.i64 (Int.ofNat 0)), (6, Value.int IntKind.i64 (Int.ofNat 0))] (Tr.node (Tr.node Tr.nil (some (Value.int IntKind.i64 q)) (Tr.node (Tr.node Tr.nil (some (Value.int IntKind.i64 i)) Tr.nil) none Tr.nil)) (some (Value.string b)) (Tr.node Tr.nil (some (Value.int IntKind.i64 (IntKind.wrap IntKind.i64 (Int.ofNat 0 - p)))) Tr.nil)) [] (AW.mk 0 Tr.nil Tr.nil) else bif decide (q < Int.negSucc 999999999999999) then kr [(8, Value.bool false), (7, Value.int IntKind.i64 (Int.ofNat 0)), (6, Value.int IntKind.i64 (Int.ofNat 0))] (Tr.node (Tr.node Tr.nil (some (Value.int IntKind.i64 q)) (Tr.node (Tr.node Tr.nil (some (Value.int IntKind.i64 i)) Tr.nil) none Tr.nil)) (some (Value.string b)) (Tr.node Tr.nil (some (Value.int IntKind.i64 (IntKind.wrap IntKind.i64 (Int.ofNat 0 - p)))) Tr.nil)) [] (AW.mk 0 Tr.nil Tr.nil) else bif decide (IntKind.wrap IntKind.i64 (Int.ofNat 0 - p) > 1000000000000000) then kr [(8, Value.bool false), (7, Value.int IntKind.i64 (Int.ofNat 0)), (6, Value.int IntKind.i64 (Int.ofNat 0))] (Tr.node (Tr.node Tr.nil (some (Value.int IntKind.i64 q)) (Tr.node (Tr.node Tr.nil (some (Value.int IntKind.i64 i)) Tr.nil) none Tr.nil)) (some (Value.string b)) (Tr.node Tr.nil (some (Value.int IntKind.i64 (IntKind.wrap IntKind.i64 (Int.ofNat 0 - p)))) Tr.nil)) [] (AW.mk 0 Tr.nil Tr.nil) else kn [(15, Value.int IntKind.i64 (IntKind.wrap IntKind.i64 (i + Int.ofNat 1))), (14, Value.int IntKind.i64 i)] (Tr.node (Tr.node Tr.nil (some (Value.int IntKind.i64 q)) (Tr.node (Tr.node Tr.nil (some (Value.int IntKind.i64 (IntKind.wrap IntKind.i64 (i + Int.ofNat 1)))) Tr.nil) none Tr.nil)) (some (Value.string b)) (Tr.node Tr.nil (some (Value.int IntKind.i64 (IntKind.wrap IntKind.i64 (Int.ofNat 0 - p)))) Tr.nil)) [] (AW.mk 0 Tr.nil Tr.nil) else bif decide (0 ≤ i) then Option.casesOn (Array.toList (ByteArray.data b))[Int.toNat i]? (CR.fail 429) fun val => bif Int.ofNat (UInt8.toNat val) == Int.ofNat 114 then bif decide (p > 0) then bif IntKind.wrap IntKind.i64 (Int.ofNat 0 - q) == Int.ofNat 0 then bif decide (IntKind.wrap IntKind.i64 (Int.ofNat 0 - q) > 1000000000000000) then kr [(8, Value.bool false), (7, Value.int IntKind.i64 (Int.ofNat 0)), (6, Value.int IntKind.i64 (Int.ofNat 0))] (Tr.node (Tr.node Tr.nil (some (Value.int IntKind.i64 (IntKind.wrap IntKind.i64 (Int.ofNat 0 - q)))) (Tr.node (Tr.node Tr.nil (some (Value.int IntKind.i64 i)) Tr.nil) none Tr.nil)) (some (Value.string b)) (Tr.node Tr.nil (some (Value.int IntKind.i64 (Int.ofNat 1))) Tr.nil)) [] (AW.mk 0 Tr.nil Tr.nil) else bif decide (IntKind.wrap IntKind.i64 (Int.ofNat 0 - q) < Int.negSucc 999999999999999) then kr [(8, Value.bool false), (7, Value.int IntKind.i64 (Int.ofNat 0)), (6, Value.int IntKind.i64 (Int.ofNat 0))] (Tr.node (Tr.node Tr.nil (some (Value.int IntKind.i64 (IntKind.wrap IntKind.i64 (Int.ofNat 0 - q)))) (Tr.node (Tr.node Tr.nil (some (Value.int IntKind.i64 i)) Tr.nil) none Tr.nil)) (some (Value.string b)) (Tr.node Tr.nil (some (Value.int IntKind.i64 (Int.ofNat 1))) Tr.nil)) [] (AW.mk 0 Tr.nil Tr.nil) else kn [(15, Value.int IntKind.i64 (IntKind.wrap IntKind.i64 (i + Int.ofNat 1))), (14, Value.int IntKind.i64 i)] (Tr.node (Tr.node Tr.nil (some (Value.int IntKind.i64 (IntKind.wrap IntKind.i64 (Int.ofNat 0 - q)))) (Tr.node (Tr.node Tr.nil (some (Value.int IntKind.i64 (IntKind.wrap IntKind.i64 (i + Int.ofNat 1)))) Tr.nil) none Tr.nil)) (some (Value.string b)) (Tr.node Tr.nil (some (Value.int IntKind.i64 (Int.ofNat 1))) Tr.nil)) [] (AW.mk 0 Tr.nil Tr.nil) else bif decide (IntKind.wrap IntKind.i64 (Int.ofNat 0 - q) > 1000000000000000) then kr [(8, Value.bool false), (7, Value.int IntKind.i64 (Int.ofNat 0)), (6, Value.int IntKind.i64 (Int.ofNat 0))] (Tr.node (Tr.node Tr.nil (some (Value.int IntKind.i64 (IntKind.wrap IntKind.i64 (Int.ofNat 0 - q)))) (Tr.node (Tr.node Tr.nil (some (Value.int IntKind.i64 i)) Tr.nil) none Tr.nil)) (some (Value.string b)) (Tr.node Tr.nil (some (Value.int IntKind.i64 p)) Tr.nil)) [] (AW.mk 0 Tr.nil Tr.nil) else bif decide (IntKind.wrap IntKind.i64 (Int.ofNat 0 - q) < Int.negSucc 999999999999999) then kr [(8, Value.bool false), (7, Value.int IntKind.i64 (Int.ofNat 0)), (6, Value.int IntKind.i64 (Int.ofNat 0))] (Tr.node (Tr.node Tr.nil (some (Value.int IntKind.i64 (IntKind.wrap IntKind.i64 (Int.ofNat 0 - q)))) (Tr.node (Tr.node Tr.nil (some (Value.int IntKind.i64 i)) Tr.nil) none Tr.nil)) (some (Value.string b)) (Tr.node Tr.nil (some (Value.int IntKind.i64 p)) Tr.nil)) [] (AW.mk 0 Tr.nil Tr.nil) else bif decide (p > 1000000000000000) then kr [(8, Value.bool false), (7, Value.int IntKind.i64 (Int.ofNat 0)), (6, Value.int IntKind.i64 (Int.ofNat 0))] (Tr.node (Tr.node Tr.nil (some (Value.int IntKind.i64 (IntKind.wrap IntKind.i64 (Int.ofNat 0 - q)))) (Tr.node (Tr.node Tr.nil (some (Value.int IntKind.i64 i)) Tr.nil) none Tr.nil)) (some (Value.string b)) (Tr.node Tr.nil (some (Value.int IntKind.i64 p)) Tr.nil)) [] (AW.mk 0 Tr.nil Tr.nil) else kn [(15, Value.int IntKind.i64 (IntKind.wrap IntKind.i64 (i + Int.ofNat 1))), (14, Value.int IntKind.i64 i)] (Tr.node (Tr.node Tr.nil (some (Value.int IntKind.i64 (IntKind.wrap IntKind.i64 (Int.ofNat 0 - q)))) (Tr.node (Tr.node Tr.nil (some (Value.int IntKind.i64 (IntKind.wrap IntKind.i64 (i + Int.ofNat 1)))) Tr.nil) none Tr.nil)) (some (Value.string b)) (Tr.node Tr.nil (some (Value.int IntKind.i64 p)) Tr.nil)) [] (AW.mk 0 Tr.nil Tr.nil) else bif decide (0 ≤ i) then Option.casesOn (Array.toList (ByteArray.data b))[Int.toNat i]? (CR.fail 429) fun val => bif Int.ofNat (UInt8.toNat val) == Int.ofNat 114 then kn [(15, Value.int IntKind.i64 (IntKind.wrap IntKind.i64 (i + Int.ofNat 1))), (14, Value.int IntKind.i64 i)] (Tr.node (Tr.node Tr.nil (some (Value.int IntKind.i64 (Int.ofNat 1))) (Tr.node (Tr.node Tr.nil (some (Value.int IntKind.i64 (IntKind.wrap IntKind.i64 (i + Int.ofNat 1)))) Tr.nil) none Tr.nil)) (some (Value.string b)) (Tr.node Tr.nil (some (Value.int IntKind.i64 (Int.ofNat 0))) Tr.nil)) [] (AW.mk 0 Tr.nil Tr.nil) else bif decide (p > 1000000000000000) then kr [(8, Value.bool false), (7, Value.int IntKind.i64 (Int.ofNat 0)), (6, Value.int IntKind.i64 (Int.ofNat 0))] (Tr.node (Tr.node Tr.nil (some (Value.int IntKind.i64 p)) (Tr.node (Tr.node Tr.nil (some (Value.int IntKind.i64 i)) Tr.nil) none Tr.nil)) (some (Value.string b)) (Tr.node Tr.nil (some (Value.int IntKind.i64 q)) Tr.nil)) [] (AW.mk 0 Tr.nil Tr.nil) else bif decide (p < Int.negSucc 999999999999999) then kr [(8, Value.bool false), (7, Value.int IntKind.i64 (Int.ofNat 0)), (6, Value.int IntKind.i64 (Int.ofNat 0))] (Tr.node (Tr.node Tr.nil (some (Value.int IntKind.i64 p)) (Tr.node (Tr.node Tr.nil (some (Value.int IntKind.i64 i)) Tr.nil) none Tr.nil)) (some (Value.string b)) (Tr.node Tr.nil (some (Value.int IntKind.i64 q)) Tr.nil)) [] (AW.mk 0 Tr.nil Tr.nil) else bif decide (q > 1000000000000000) then kr [(8, Value.bool false), (7, Value.int IntKind.i64 (Int.ofNat 0)), (6, Value.int IntKind.i64 (Int.ofNat 0))] (Tr.node (Tr.node Tr.nil (some (Value.int IntKind.i64 p)) (Tr.node (Tr.node Tr.nil (some (Value.int IntKind.i64 i)) Tr.nil) none Tr.nil)) (some (Value.string b)) (Tr.node Tr.nil (some (Value.int IntKind.i64 q)) Tr.nil)) [] (AW.mk 0 Tr.nil Tr.nil) else kn [(15, Value.int IntKind.i64 (IntKind.wrap IntKind.i64 (i + Int.ofNat 1))), (14, Value.int IntKind.i64 i)] (Tr.node (Tr.node Tr.nil (some (Value.int IntKind.i64 p)) (Tr.node (Tr.node Tr.nil (some (Value.int IntKind.i64 (IntKind.wrap IntKind.i64 (i + Int.ofNat 1)))) Tr.nil) none Tr.nil)) (some (Value.string b)) (Tr.node Tr.nil (some (Value.int IntKind.i64 q)) Tr.nil)) [] (AW.mk 0 Tr.nil Tr.nil) else CR.fail 420 else bif decide (0 ≤ i) then Option.casesOn (Array.toList (ByteArray.data b))[Int.toNat i]? (CR.fail 429) fun val => bif Int.ofNat (UInt8.toNat val) == Int.ofNat 114 then kn [(15, Value.int IntKind.i64 (IntKind.wrap IntKind.i64 (i + Int.ofNat 1))), (14, Value.int IntKind.i64 i)] (Tr.node (Tr.node Tr.nil (some (Value.int IntKind.i64 (Int.ofNat 1))) (Tr.node (Tr.node Tr.nil (some (Value.int IntKind.i64 (IntKind.wrap IntKind.i64 (i + Int.ofNat 1)))) Tr.nil) none Tr.nil)) (some (Value.string b)) (Tr.node Tr.nil (some (Value.int IntKind.i64 (Int.ofNat 0))) Tr.nil)) [] (AW.mk 0 Tr.nil Tr.nil) else bif decide (p > 1000000000000000) then kr [(8, Value.bool false), (7, Value.int IntKind.i64 (Int.ofNat 0)), (6, Value.int IntKind.i64 (Int.ofNat 0))] (Tr.node (Tr.node Tr.nil (some (Value.int IntKind.i64 p)) (Tr.node (Tr.node Tr.nil (some (Value.int IntKind.i64 i)) Tr.nil) none Tr.nil)) (some (Value.string b)) (Tr.node Tr.nil (some (Value.int IntKind.i64 q)) Tr.nil)) [] (AW.mk 0 Tr.nil Tr.nil) else bif decide (p < Int.negSucc 999999999999999) then kr [(8, Value.bool false), (7, Value.int IntKind.i64 (Int.ofNat 0)), (6, Value.int IntKind.i64 (Int.ofNat 0))] (Tr.node (Tr.node Tr.nil (some (Value.int IntKind.i64 p)) (Tr.node (Tr.node Tr.nil (some (Value.int IntKind.i64 i)) Tr.nil) none Tr.nil)) (some (Value.string b)) (Tr.node Tr.nil (some (Value.int IntKind.i64 q)) Tr.nil)) [] (AW.mk 0 Tr.nil Tr.nil) else bif decide (q > 1000000000000000) then kr [(8, Value.bool false), (7, Value.int IntKind.i64 (Int.ofNat 0)), (6, Value.int IntKind.i64 (Int.ofNat 0))] (Tr.node (Tr.node Tr.nil (some (Value.int IntKind.i64 p)) (Tr.node (Tr.node Tr.nil (some (Value.int IntKind.i64 i)) Tr.nil) none Tr.nil)) (some (Value.string b)) (Tr.node Tr.nil (some (Value.int IntKind.i64 q)) Tr.nil)) [] (AW.mk 0 Tr.nil Tr.nil) else kn [(15, Value.int IntKind.i64 (IntKind.wrap IntKind.i64 (i + Int.ofNat 1))), (14, Value.int IntKind.i64 i)] (Tr.node (Tr.node Tr.nil (some (Value.int IntKind.i64 p)) (Tr.node (Tr.node Tr.nil (some (Value.int IntKind.i64 (IntKind.wrap IntKind.i64 (i + Int.ofNat 1)))) Tr.nil) none Tr.nil)) (some (Value.string b)) (Tr.node Tr.nil (some (Value.int IntKind.i64 q)) Tr.nil)) [] (AW.mk 0 Tr.nil Tr.nil) else CR.fail 420 else CR.fail 420 else bif decide (0 ≤ i) then Option.casesOn (Array.toList (ByteArray.data b))[Int.toNat i]? (CR.fail 429) fun val => bif Int.ofNat (UInt8.toNat val) == Int.ofNat 114 then bif decide (p > 0) then bif IntKind.wrap IntKind.i64 (Int.ofNat 0 - q) == Int.ofNat 0 then bif decide (IntKind.wrap IntKind.i64 (Int.ofNat 0 - q) > 1000000000000000) then kr [(8, Value.bool false), (7, Value.int IntKind.i64 (Int.ofNat 0)), (6, Value.int IntKind.i64 (Int.ofNat 0))] (Tr.node (Tr.node Tr.nil (some (Value.int IntKind.i64 (IntKind.wrap IntKind.i64 (Int.ofNat 0 - q)))) (Tr.node (Tr.node Tr.nil (some (Value.int IntKind.i64 i)) Tr.nil) none Tr.nil)) (some (Value.string b)) (Tr.node Tr.nil (some (Value.int IntKind.i64 (Int.ofNat 1))) Tr.nil)) [] (AW.mk 0 Tr.nil Tr.nil) else bif decide (IntKind.wrap IntKind.i64 (Int.ofNat 0 - q) < Int.negSucc 999999999999999) then kr [(8, Value.bool false), (7, Value.int IntKind.i64 (Int.ofNat 0)), (6, Value.int IntKind.i64 (Int.ofNat 0))] (Tr.node (Tr.node Tr.nil (some (Value.int IntKind.i64 (IntKind.wrap IntKind.i64 (Int.ofNat 0 - q)))) (Tr.node (Tr.node Tr.nil (some (Value.int IntKind.i64 i)) Tr.nil) none Tr.nil)) (some (Value.string b)) (Tr.node Tr.nil (some (Value.int IntKind.i64 (Int.ofNat 1))) Tr.nil)) [] (AW.mk 0 Tr.nil Tr.nil) else kn [(15, Value.int IntKind.i64 (IntKind.wrap IntKind.i64 (i + Int.ofNat 1))), (14, Value.int IntKind.i64 i)] (Tr.node (Tr.node Tr.nil (some (Value.int IntKind.i64 (IntKind.wrap IntKind.i64 (Int.ofNat 0 - q)))) (Tr.node (Tr.node Tr.nil (some (Value.int IntKind.i64 (IntKind.wrap IntKind.i64 (i + Int.ofNat 1)))) Tr.nil) none Tr.nil)) (some (Value.string b)) (Tr.node Tr.nil (some (Value.int IntKind.i64 (Int.ofNat 1))) Tr.nil)) [] (AW.mk 0 Tr.nil Tr.nil) else bif decide (IntKind.wrap IntKind.i64 (Int.ofNat 0 - q) > 1000000000000000) then kr [(8, Value.bool false), (7, Value.int IntKind.i64 (Int.ofNat 0)), (6, Value.int IntKind.i64 (Int.ofNat 0))] (Tr.node (Tr.node Tr.nil (some (Value.int IntKind.i64 (IntKind.wrap IntKind.i64 (Int.ofNat 0 - q)))) (Tr.node (Tr.node Tr.nil (some (Value.int IntKind.i64 i)) Tr.nil) none Tr.nil)) (some (Value.string b)) (Tr.node Tr.nil (some (Value.int IntKind.i64 p)) Tr.nil)) [] (AW.mk 0 Tr.nil Tr.nil) else bif decide (IntKind.wrap IntKind.i64 (Int.ofNat 0 - q) < Int.negSucc 999999999999999) then kr [(8, Value.bool false), (7, Value.int IntKind.i64 (Int.ofNat 0)), (6, Value.int IntKind.i64 (Int.ofNat 0))] (Tr.node (Tr.node Tr.nil (some (Value.int IntKind.i64 (IntKind.wrap IntKind.i64 (Int.ofNat 0 - q)))) (Tr.node (Tr.node Tr.nil (some (Value.int IntKind.i64 i)) Tr.nil) none Tr.nil)) (some (Value.string b)) (Tr.node Tr.nil (some (Value.int IntKind.i64 p)) Tr.nil)) [] (AW.mk 0 Tr.nil Tr.nil) else bif decide (p > 1000000000000000) then kr [(8, Value.bool false), (7, Value.int IntKind.i64 (Int.ofNat 0)), (6, Value.int IntKind.i64 (Int.ofNat 0))] (Tr.node (Tr.node Tr.nil (some (Value.int IntKind.i64 (IntKind.wrap IntKind.i64 (Int.ofNat 0 - q)))) (Tr.node (Tr.node Tr.nil (some (Value.int IntKind.i64 i)) Tr.nil) none Tr.nil)) (some (Value.string b)) (Tr.node Tr.nil (some (Value.int IntKind.i64 p)) Tr.nil)) [] (AW.mk 0 Tr.nil Tr.nil) else kn [(15, Value.int IntKind.i64 (IntKind.wrap IntKind.i64 (i + Int.ofNat 1))), (14, Value.int IntKind.i64 i)] (Tr.node (Tr.node Tr.nil (some (Value.int IntKind.i64 (IntKind.wrap IntKind.i64 (Int.ofNat 0 - q)))) (Tr.node (Tr.node Tr.nil (some (Value.int IntKind.i64 (IntKind.wrap IntKind.i64 (i + Int.ofNat 1)))) Tr.nil) none Tr.nil)) (some (Value.string b)) (Tr.node Tr.nil (some (Value.int IntKind.i64 p)) Tr.nil)) [] (AW.mk 0 Tr.nil Tr.nil) else bif decide (0 ≤ i) then Option.casesOn (Array.toList (ByteArray.data b))[Int.toNat i]? (CR.fail 429) fun val => bif Int.ofNat (UInt8.toNat val) == Int.ofNat 114 then kn [(15, Value.int IntKind.i64 (IntKind.wrap IntKind.i64 (i + Int.ofNat 1))), (14, Value.int IntKind.i64 i)] (Tr.node (Tr.node Tr.nil (some (Value.int IntKind.i64 (Int.ofNat 1))) (Tr.node (Tr.node Tr.nil (some (Value.int IntKind.i64 (IntKind.wrap IntKind.i64 (i + Int.ofNat 1)))) Tr.nil) none Tr.nil)) (some (Value.string b)) (Tr.node Tr.nil (some (Value.int IntKind.i64 (Int.ofNat 0))) Tr.nil)) [] (AW.mk 0 Tr.nil Tr.nil) else bif decide (p > 1000000000000000) then kr [(8, Value.bool false), (7, Value.int IntKind.i64 (Int.ofNat 0)), (6, Value.int IntKind.i64 (Int.ofNat 0))] (Tr.node (Tr.node Tr.nil (some (Value.int IntKind.i64 p)) (Tr.node (Tr.node Tr.nil (some (Value.int IntKind.i64 i)) Tr.nil) none Tr.nil)) (some (Value.string b)) (Tr.node Tr.nil (some (Value.int IntKind.i64 q)) Tr.nil)) [] (AW.mk 0 Tr.nil Tr.nil) else bif decide (p < Int.negSucc 999999999999999) then kr [(8, Value.bool false), (7, Value.int IntKind.i64 (Int.ofNat 0)), (6, Value.int IntKind.i64 (Int.ofNat 0))] (Tr.node (Tr.node Tr.nil (some (Value.int IntKind.i64 p)) (Tr.node (Tr.node Tr.nil (some (Value.int IntKind.i64 i)) Tr.nil) none Tr.nil)) (some (Value.string b)) (Tr.node Tr.nil (some (Value.int IntKind.i64 q)) Tr.nil)) [] (AW.mk 0 Tr.nil Tr.nil) else bif decide (q > 1000000000000000) then kr [(8, Value.bool false), (7, Value.int IntKind.i64 (Int.ofNat 0)), (6, Value.int IntKind.i64 (Int.ofNat 0))] (Tr.node (Tr.node Tr.nil (some (Value.int IntKind.i64 p)) (Tr.node (Tr.node Tr.nil (some (Value.int IntKind.i64 i)) Tr.nil) none Tr.nil)) (some (Value.string b)) (Tr.node Tr.nil (some (Value.int IntKind.i64 q)) Tr.nil)) [] (AW.mk 0 Tr.nil Tr.nil) else kn [(15, Value.int IntKind.i64 (IntKind.wrap IntKind.i64 (i + Int.ofNat 1))), (14, Value.int IntKind.i64 i)] (Tr.node (Tr.node Tr.nil (some (Value.int IntKind.i64 p)) (Tr.node (Tr.node Tr.nil (some (Value.int IntKind.i64 (IntKind.wrap IntKind.i64 (i + Int.ofNat 1)))) Tr.nil) none Tr.nil)) (some (Value.string b)) (Tr.node Tr.nil (some (Value.int IntKind.i64 q)) Tr.nil)) [] (AW.mk 0 Tr.nil Tr.nil) else CR.fail 420 else bif decide (0 ≤ i) then Option.casesOn (Array.toList (ByteArray.data b))[Int.toNat i]? (CR.fail 429) fun val => bif Int.ofNat (UInt8.toNat val) == Int.ofNat 114 then kn [(15, Value.int IntKind.i64 (IntKind.wrap IntKind.i64 (i + Int.ofNat 1))), (14, Value.int IntKind.i64 i)] (Tr.node (Tr.node Tr.nil (some (Value.int IntKind.i64 (Int.ofNat 1))) (Tr.node (Tr.node Tr.nil (some (Value.int IntKind.i64 (IntKind.wrap IntKind.i64 (i + Int.ofNat 1)))) Tr.nil) none Tr.nil)) (some (Value.string b)) (Tr.node Tr.nil (some (Value.int IntKind.i64 (Int.ofNat 0))) Tr.nil)) [] (AW.mk 0 Tr.nil Tr.nil) else bif decide (p > 1000000000000000) then kr [(8, Value.bool false), (7, Value.int IntKind.i64 (Int.ofNat 0)), (6, Value.int IntKind.i64 (Int.ofNat 0))] (Tr.node (Tr.node Tr.nil (some (Value.int IntKind.i64 p)) (Tr.node (Tr.node Tr.nil (some (Value.int IntKind.i64 i)) Tr.nil) none Tr.nil)) (some (Value.string b)) (Tr.node Tr.nil (some (Value.int IntKind.i64 q)) Tr.nil)) [] (AW.mk 0 Tr.nil Tr.nil) else bif decide (p < Int.negSucc 999999999999999) then kr [(8, Value.bool false), (7, Value.int IntKind.i64 (Int.ofNat 0)), (6, Value.int IntKind.i64 (Int.ofNat 0))] (Tr.node (Tr.node Tr.nil (some (Value.int IntKind.i64 p)) (Tr.node (Tr.node Tr.nil (some (Value.int IntKind.i64 i)) Tr.nil) none Tr.nil)) (some (Value.string b)) (Tr.node Tr.nil (some (Value.int IntKind.i64 q)) Tr.nil)) [] (AW.mk 0 Tr.nil Tr.nil) else bif decide (q > 1000000000000000) then kr [(8, Value.bool false), (7, Value.int IntKind.i64 (Int.ofNat 0)), (6, Value.int IntKind.i64 (Int.ofNat 0))] (Tr.node (Tr.node Tr.nil (some (Value.int IntKind.i64 p)) (Tr.node (Tr.node Tr.nil (some (Value.int IntKind.i64 i)) Tr.nil) none Tr.nil)) (some (Value.string b)) (Tr.node Tr.nil (some (Value.int IntKind.i64 q)) Tr.nil)) [] (AW.mk 0 Tr.nil Tr.nil) else kn [(15, Value.int IntKind.i64 (IntKind.wrap IntKind.i64 (i + Int.ofNat 1))), (14, Value.int IntKind.i64 i)] (Tr.node (Tr.node Tr.nil (some (Value.int IntKind.i64 p)) (Tr.node (Tr.node Tr.nil (some (Value.int IntKind.i64 (IntKind.wrap IntKind.i64 (i + Int.ofNat 1)))) Tr.nil) none Tr.nil)) (some (Value.string b)) (Tr.node Tr.nil (some (Value.int IntKind.i64 q)) Tr.nil)) [] (AW.mk 0 Tr.nil Tr.nil) else CR.fail 420 else CR.fail 420 else CR.fail 420 else bif decide (0 ≤ i) then Option.casesOn (Array.toList (ByteArray.data b))[Int.toNat i]? (CR.fail 429) fun val => bif Int.ofNat (UInt8.toNat val) == Int.ofNat 114 then bif decide (p < 0) then bif decide (q > 1000000000000000) then kr [(8, Value.bool false), (7, Value.int IntKind.i64 (Int.ofNat 0)), (6, Value.int IntKind.i64 (Int.ofNat 0))] (Tr.node (Tr.node Tr.nil (some (Value.int IntKind.i64 q)) (Tr.node (Tr.node Tr.nil (some (Value.int IntKind.i64 i)) Tr.nil) none Tr.nil)) (some (Value.string b)) (Tr.node Tr.nil (some (Value.int IntKind.i64 (IntKind.wrap IntKind.i64 (Int.ofNat 0 - p)))) Tr.nil)) [] (AW.mk 0 Tr.nil Tr.nil) else bif decide (q < Int.negSucc 999999999999999) then kr [(8, Value.bool false), (7, Value.int IntKind.i64 (Int.ofNat 0)), (6, Value.int IntKind.i64 (Int.ofNat 0))] (Tr.node (Tr.node Tr.nil (some (Value.int IntKind.i64 q)) (Tr.node (Tr.node Tr.nil (some (Value.int IntKind.i64 i)) Tr.nil) none Tr.nil)) (some (Value.string b)) (Tr.node Tr.nil (some (Value.int IntKind.i64 (IntKind.wrap IntKind.i64 (Int.ofNat 0 - p)))) Tr.nil)) [] (AW.mk 0 Tr.nil Tr.nil) else bif decide (IntKind.wrap IntKind.i64 (Int.ofNat 0 - p) > 1000000000000000) then kr [(8, Value.bool false), (7, Value.int IntKind.i64 (Int.ofNat 0)), (6, Value.int IntKind.i64 (Int.ofNat 0))] (Tr.node (Tr.node Tr.nil (some (Value.int IntKind.i64 q)) (Tr.node (Tr.node Tr.nil (some (Value.int IntKind.i64 i)) Tr.nil) none Tr.nil)) (some (Value.string b)) (Tr.node Tr.nil (some (Value.int IntKind.i64 (IntKind.wrap IntKind.i64 (Int.ofNat 0 - p)))) Tr.nil)) [] (AW.mk 0 Tr.nil Tr.nil) else kn [(15, Value.int IntKind.i64 (IntKind.wrap IntKind.i64 (i + Int.ofNat 1))), (14, Value.int IntKind.i64 i)] (Tr.node (Tr.node Tr.nil (some (Value.int IntKind.i64 q)) (Tr.node (Tr.node Tr.nil (some (Value.int IntKind.i64 (IntKind.wrap IntKind.i64 (i + Int.ofNat 1)))) Tr.nil) none Tr.nil)) (some (Value.string b)) (Tr.node Tr.nil (some (Value.int IntKind.i64 (IntKind.wrap IntKind.i64 (Int.ofNat 0 - p)))) Tr.nil)) [] (AW.mk 0 Tr.nil Tr.nil) else bif decide (0 ≤ i) then Option.casesOn (Array.toList (ByteArray.data b))[Int.toNat i]? (CR.fail 429) fun val => bif Int.ofNat (UInt8.toNat val) == Int.ofNat 114 then bif decide (p > 0) then bif IntKind.wrap IntKind.i64 (Int.ofNat 0 - q) == Int.ofNat 0 then bif decide (IntKind.wrap IntKind.i64 (Int.ofNat 0 - q) > 1000000000000000) then kr [(8, Value.bool false), (7, Value.int IntKind.i64 (Int.ofNat 0)), (6, Value.int IntKind.i64 (Int.ofNat 0))] (Tr.node (Tr.node Tr.nil (some (Value.int IntKind.i64 (IntKind.wrap IntKind.i64 (Int.ofNat 0 - q)))) (Tr.node (Tr.node Tr.nil (some (Value.int IntKind.i64 i)) Tr.nil) none Tr.nil)) (some (Value.string b)) (Tr.node Tr.nil (some (Value.int IntKind.i64 (Int.ofNat 1))) Tr.nil)) [] (AW.mk 0 Tr.nil Tr.nil) else bif decide (IntKind.wrap IntKind.i64 (Int.ofNat 0 - q) < Int.negSucc 999999999999999) then kr [(8, Value.bool false), (7, Value.int IntKind.i64 (Int.ofNat 0)), (6, Value.int IntKind.i64 (Int.ofNat 0))] (Tr.node (Tr.node Tr.nil (some (Value.int IntKind.i64 (IntKind.wrap IntKind.i64 (Int.ofNat 0 - q)))) (Tr.node (Tr.node Tr.nil (some (Value.int IntKind.i64 i)) Tr.nil) none Tr.nil)) (some (Value.string b)) (Tr.node Tr.nil (some (Value.int IntKind.i64 (Int.ofNat 1))) Tr.nil)) [] (AW.mk 0 Tr.nil Tr.nil) else kn [(15, Value.int IntKind.i64 (IntKind.wrap IntKind.i64 (i + Int.ofNat 1))), (14, Value.int IntKind.i64 i)] (Tr.node (Tr.node Tr.nil (some (Value.int IntKind.i64 (IntKind.wrap IntKind.i64 (Int.ofNat 0 - q)))) (Tr.node (Tr.node Tr.nil (some (Value.int IntKind.i64 (IntKind.wrap IntKind.i64 (i + Int.ofNat 1)))) Tr.nil) none Tr.nil)) (some (Value.string b)) (Tr.node Tr.nil (some (Value.int IntKind.i64 (Int.ofNat 1))) Tr.nil)) [] (AW.mk 0 Tr.nil Tr.nil) else bif decide (IntKind.wrap IntKind.i64 (Int.ofNat 0 - q) > 1000000000000000) then kr [(8, Value.bool false), (7, Value.int IntKind.i64 (Int.ofNat 0)), (6, Value.int IntKind.i64 (Int.ofNat 0))] (Tr.node (Tr.node Tr.nil (some (Value.int IntKind.i64 (IntKind.wrap IntKind.i64 (Int.ofNat 0 - q)))) (Tr.node (Tr.node Tr.nil (some (Value.int IntKind.i64 i)) Tr.nil) none Tr.nil)) (some (Value.string b)) (Tr.node Tr.nil (some (Value.int IntKind.i64 p)) Tr.nil)) [] (AW.mk 0 Tr.nil Tr.nil) else bif decide (IntKind.wrap IntKind.i64 (Int.ofNat 0 - q) < Int.negSucc 999999999999999) then kr [(8, Value.bool false), (7, Value.int IntKind.i64 (Int.ofNat 0)), (6, Value.int IntKind.i64 (Int.ofNat 0))] (Tr.node (Tr.node Tr.nil (some (Value.int IntKind.i64 (IntKind.wrap IntKind.i64 (Int.ofNat 0 - q)))) (Tr.node (Tr.node Tr.nil (some (Value.int IntKind.i64 i)) Tr.nil) none Tr.nil)) (some (Value.string b)) (Tr.node Tr.nil (some (Value.int IntKind.i64 p)) Tr.nil)) [] (AW.mk 0 Tr.nil Tr.nil) else bif decide (p > 1000000000000000) then kr [(8, Value.bool false), (7, Value.int IntKind.i64 (Int.ofNat 0)), (6, Value.int IntKind.i64 (Int.ofNat 0))] (Tr.node (Tr.node Tr.nil (some (Value.int IntKind.i64 (IntKind.wrap IntKind.i64 (Int.ofNat 0 - q)))) (Tr.node (Tr.node Tr.nil (some (Value.int IntKind.i64 i)) Tr.nil) none Tr.nil)) (some (Value.string b)) (Tr.node Tr.nil (some (Value.int IntKind.i64 p)) Tr.nil)) [] (AW.mk 0 Tr.nil Tr.nil) else kn [(15, Value.int IntKind.i64 (IntKind.wrap IntKind.i64 (i + Int.ofNat 1))), (14, Value.int IntKind.i64 i)] (Tr.node (Tr.node Tr.nil (some (Value.int IntKind.i64 (IntKind.wrap IntKind.i64 (Int.ofNat 0 - q)))) (Tr.node (Tr.node Tr.nil (some (Value.int IntKind.i64 (IntKind.wrap IntKind.i64 (i + Int.ofNat 1)))) Tr.nil) none Tr.nil)) (some (Value.string b)) (Tr.node Tr.nil (some (Value.int IntKind.i64 p)) Tr.nil)) [] (AW.mk 0 Tr.nil Tr.nil) else bif decide (0 ≤ i) then Option.casesOn (Array.toList (ByteArray.data b))[Int.toNat i]? (CR.fail 429) fun val => bif Int.ofNat (UInt8.toNat val) == Int.ofNat 114 then kn [(15, Value.int IntKind.i64 (IntKind.wrap IntKind.i64 (i + Int.ofNat 1))), (14, Value.int IntKind.i64 i)] (Tr.node (Tr.node Tr.nil (some (Value.int IntKind.i64 (Int.ofNat 1))) (Tr.node (Tr.node Tr.nil (some (Value.int IntKind.i64 (IntKind.wrap IntKind.i64 (i + Int.ofNat 1)))) Tr.nil) none Tr.nil)) (some (Value.string b)) (Tr.node Tr.nil (some (Value.int IntKind.i64 (Int.ofNat 0))) Tr.nil)) [] (AW.mk 0 Tr.nil Tr.nil) else bif decide (p > 1000000000000000) then kr [(8, Value.bool false), (7, Value.int IntKind.i64 (Int.ofNat 0)), (6, Value.int IntKind.i64 (Int.ofNat 0))] (Tr.node (Tr.node Tr.nil (some (Value.int IntKind.i64 p)) (Tr.node (Tr.node Tr.nil (some (Value.int IntKind.i64 i)) Tr.nil) none Tr.nil)) (some (Value.string b)) (Tr.node Tr.nil (some (Value.int IntKind.i64 q)) Tr.nil)) [] (AW.mk 0 Tr.nil Tr.nil) else bif decide (p < Int.negSucc 999999999999999) then kr [(8, Value.bool false), (7, Value.int IntKind.i64 (Int.ofNat 0)), (6, Value.int IntKind.i64 (Int.ofNat 0))] (Tr.node (Tr.node Tr.nil (some (Value.int IntKind.i64 p)) (Tr.node (Tr.node Tr.nil (some (Value.int IntKind.i64 i)) Tr.nil) none Tr.nil)) (some (Value.string b)) (Tr.node Tr.nil (some (Value.int IntKind.i64 q)) Tr.nil)) [] (AW.mk 0 Tr.nil Tr.nil) else bif decide (q > 1000000000000000) then kr [(8, Value.bool false), (7, Value.int IntKind.i64 (Int.ofNat 0)), (6, Value.int IntKind.i64 (Int.ofNat 0))] (Tr.node (Tr.node Tr.nil (some (Value.int IntKind.i64 p)) (Tr.node (Tr.node Tr.nil (some (Value.int IntKind.i64 i)) Tr.nil) none Tr.nil)) (some (Value.string b)) (Tr.node Tr.nil (some (Value.int IntKind.i64 q)) Tr.nil)) [] (AW.mk 0 Tr.nil Tr.nil) else kn [(15, Value.int IntKind.i64 (IntKind.wrap IntKind.i64 (i + Int.ofNat 1))), (14, Value.int IntKind.i64 i)] (Tr.node (Tr.node Tr.nil (some (Value.int IntKind.i64 p)) (Tr.node (Tr.node Tr.nil (some (Value.int IntKind.i64 (IntKind.wrap IntKind.i64 (i + Int.ofNat 1)))) Tr.nil) none Tr.nil)) (some (Value.string b)) (Tr.node Tr.nil (some (Value.int IntKind.i64 q)) Tr.nil)) [] (AW.mk 0 Tr.nil Tr.nil) else CR.fail 420 else bif decide (0 ≤ i) then Option.casesOn (Array.toList (ByteArray.data b))[Int.toNat i]? (CR.fail 429) fun val => bif Int.ofNat (UInt8.toNat val) == Int.ofNat 114 then kn [(15, Value.int IntKind.i64 (IntKind.wrap IntKind.i64 (i + Int.ofNat 1))), (14, Value.int IntKind.i64 i)] (Tr.node (Tr.node Tr.nil (some (Value.int IntKind.i64 (Int.ofNat 1))) (Tr.node (Tr.node Tr.nil (some (Value.int IntKind.i64 (IntKind.wrap IntKind.i64 (i + Int.ofNat 1)))) Tr.nil) none Tr.nil)) (some (Value.string b)) (Tr.node Tr.nil (some (Value.int IntKind.i64 (Int.ofNat 0))) Tr.nil)) [] (AW.mk 0 Tr.nil Tr.nil) else bif decide (p > 1000000000000000) then kr [(8, Value.bool false), (7, Value.int IntKind.i64 (Int.ofNat 0)), (6, Value.int IntKind.i64 (Int.ofNat 0))] (Tr.node (Tr.node Tr.nil (some (Value.int IntKind.i64 p)) (Tr.node (Tr.node Tr.nil (some (Value.int IntKind.i64 i)) Tr.nil) none Tr.nil)) (some (Value.string b)) (Tr.node Tr.nil (some (Value.int IntKind.i64 q)) Tr.nil)) [] (AW.mk 0 Tr.nil Tr.nil) else bif decide (p < Int.negSucc 999999999999999) then kr [(8, Value.bool false), (7, Value.int IntKind.i64 (Int.ofNat 0)), (6, Value.int IntKind.i64 (Int.ofNat 0))] (Tr.node (Tr.node Tr.nil (some (Value.int IntKind.i64 p)) (Tr.node (Tr.node Tr.nil (some (Value.int IntKind.i64 i)) Tr.nil) none Tr.nil)) (some (Value.string b)) (Tr.node Tr.nil (some (Value.int IntKind.i64 q)) Tr.nil)) [] (AW.mk 0 Tr.nil Tr.nil) else bif decide (q > 1000000000000000) then kr [(8, Value.bool false), (7, Value.int IntKind.i64 (Int.ofNat 0)), (6, Value.int IntKind.i64 (Int.ofNat 0))] (Tr.node (Tr.node Tr.nil (some (Value.int IntKind.i64 p)) (Tr.node (Tr.node Tr.nil (some (Value.int IntKind.i64 i)) Tr.nil) none Tr.nil)) (some (Value.string b)) (Tr.node Tr.nil (some (Value.int IntKind.i64 q)) Tr.nil)) [] (AW.mk 0 Tr.nil Tr.nil) else kn [(15, Value.int IntKind.i64 (IntKind.wrap IntKind.i64 (i + Int.ofNat 1))), (14, Value.int IntKind.i64 i)] (Tr.node (Tr.node Tr.nil (some (Value.int IntKind.i64 p)) (Tr.node (Tr.node Tr.nil (some (Value.int IntKind.i64 (IntKind.wrap IntKind.i64 (i + Int.ofNat 1)))) Tr.nil) none Tr.nil)) (some (Value.string b)) (Tr.node Tr.nil (some (Value.int IntKind.i64 q)) Tr.nil)) [] (AW.mk 0 Tr.nil Tr.nil) else CR.fail 420 else CR.fail 420 else bif decide (0 ≤ i) then Option.casesOn (Array.toList (ByteArray.data b))[Int.toNat i]? (CR.fail 429) fun val => bif Int.ofNat (UInt8.toNat val) == Int.ofNat 114 then bif decide (p > 0) then bif IntKind.wrap IntKind.i64 (Int.ofNat 0 - q) == Int.ofNat 0 then bif decide (IntKind.wrap IntKind.i64 (Int.ofNat 0 - q) > 1000000000000000) then kr [(8, Value.bool false), (7, Value.int IntKind.i64 (Int.ofNat 0)), (6, Value.int IntKind.i64 (Int.ofNat 0))] (Tr.node (Tr.node Tr.nil (some (Value.int IntKind.i64 (IntKind.wrap IntKind.i64 (Int.ofNat 0 - q)))) (Tr.node (Tr.node Tr.nil (some (Value.int IntKind.i64 i)) Tr.nil) none Tr.nil)) (some (Value.string b)) (Tr.node Tr.nil (some (Value.int IntKind.i64 (Int.ofNat 1))) Tr.nil)) [] (AW.mk 0 Tr.nil Tr.nil) else bif decide (IntKind.wrap IntKind.i64 (Int.ofNat 0 - q) < Int.negSucc 999999999999999) then kr [(8, Value.bool false), (7, Value.int IntKind.i64 (Int.ofNat 0)), (6, Value.int IntKind.i64 (Int.ofNat 0))] (Tr.node (Tr.node Tr.nil (some (Value.int IntKind.i64 (IntKind.wrap IntKind.i64 (Int.ofNat 0 - q)))) (Tr.node (Tr.node Tr.nil (some (Value.int IntKind.i64 i)) Tr.nil) none Tr.nil)) (some (Value.string b)) (Tr.node Tr.nil (some (Value.int IntKind.i64 (Int.ofNat 1))) Tr.nil)) [] (AW.mk 0 Tr.nil Tr.nil) else kn [(15, Value.int IntKind.i64 (IntKind.wrap IntKind.i64 (i + Int.ofNat 1))), (14, Value.int IntKind.i64 i)] (Tr.node (Tr.node Tr.nil (some (Value.int IntKind.i64 (IntKind.wrap IntKind.i64 (Int.ofNat 0 - q)))) (Tr.node (Tr.node Tr.nil (some (Value.int IntKind.i64 (IntKind.wrap IntKind.i64 (i + Int.ofNat 1)))) Tr.nil) none Tr.nil)) (some (Value.string b)) (Tr.node Tr.nil (some (Value.int IntKind.i64 (Int.ofNat 1))) Tr.nil)) [] (AW.mk 0 Tr.nil Tr.nil) else bif decide (IntKind.wrap IntKind.i64 (Int.ofNat 0 - q) > 1000000000000000) then kr [(8, Value.bool false), (7, Value.int IntKind.i64 (Int.ofNat 0)), (6, Value.int IntKind.i64 (Int.ofNat 0))] (Tr.node (Tr.node Tr.nil (some (Value.int IntKind.i64 (IntKind.wrap IntKind.i64 (Int.ofNat 0 - q)))) (Tr.node (Tr.node Tr.nil (some (Value.int IntKind.i64 i)) Tr.nil) none Tr.nil)) (some (Value.string b)) (Tr.node Tr.nil (some (Value.int IntKind.i64 p)) Tr.nil)) [] (AW.mk 0 Tr.nil Tr.nil) else bif decide (IntKind.wrap IntKind.i64 (Int.ofNat 0 - q) < Int.negSucc 999999999999999) then kr [(8, Value.bool false), (7, Value.int IntKind.i64 (Int.ofNat 0)), (6, Value.int IntKind.i64 (Int.ofNat 0))] (Tr.node (Tr.node Tr.nil (some (Value.int IntKind.i64 (IntKind.wrap IntKind.i64 (Int.ofNat 0 - q)))) (Tr.node (Tr.node Tr.nil (some (Value.int IntKind.i64 i)) Tr.nil) none Tr.nil)) (some (Value.string b)) (Tr.node Tr.nil (some (Value.int IntKind.i64 p)) Tr.nil)) [] (AW.mk 0 Tr.nil Tr.nil) else bif decide (p > 1000000000000000) then kr [(8, Value.bool false), (7, Value.int IntKind.i64 (Int.ofNat 0)), (6, Value.int IntKind.i64 (Int.ofNat 0))] (Tr.node (Tr.node Tr.nil (some (Value.int IntKind.i64 (IntKind.wrap IntKind.i64 (Int.ofNat 0 - q)))) (Tr.node (Tr.node Tr.nil (some (Value.int IntKind.i64 i)) Tr.nil) none Tr.nil)) (some (Value.string b)) (Tr.node Tr.nil (some (Value.int IntKind.i64 p)) Tr.nil)) [] (AW.mk 0 Tr.nil Tr.nil) else kn [(15, Value.int IntKind.i64 (IntKind.wrap IntKind.i64 (i + Int.ofNat 1))), (14, Value.int IntKind.i64 i)] (Tr.node (Tr.node Tr.nil (some (Value.int IntKind.i64 (IntKind.wrap IntKind.i64 (Int.ofNat 0 - q)))) (Tr.node (Tr.node Tr.nil (some (Value.int IntKind.i64 (IntKind.wrap IntKind.i64 (i + Int.ofNat 1)))) Tr.nil) none Tr.nil)) (some (Value.string b)) (Tr.node Tr.nil (some (Value.int IntKind.i64 p)) Tr.nil)) [] (AW.mk 0 Tr.nil Tr.nil) else bif decide (0 ≤ i) then Option.casesOn (Array.toList (ByteArray.data b))[Int.toNat i]? (CR.fail 429) fun val => bif Int.ofNat (UInt8.toNat val) == Int.ofNat 114 then kn [(15, Value.int IntKind.i64 (IntKind.wrap IntKind.i64 (i + Int.ofNat 1))), (14, Value.int IntKind.i64 i)] (Tr.node (Tr.node Tr.nil (some (Value.int IntKind.i64 (Int.ofNat 1))) (Tr.node (Tr.node Tr.nil (some (Value.int IntKind.i64 (IntKind.wrap IntKind.i64 (i + Int.ofNat 1)))) Tr.nil) none Tr.nil)) (some (Value.string b)) (Tr.node Tr.nil (some (Value.int IntKind.i64 (Int.ofNat 0))) Tr.nil)) [] (AW.mk 0 Tr.nil Tr.nil) else bif decide (p > 1000000000000000) then kr [(8, Value.bool false), (7, Value.int IntKind.i64 (Int.ofNat 0)), (6, Value.int IntKind.i64 (Int.ofNat 0))] (Tr.node (Tr.node Tr.nil (some (Value.int IntKind.i64 p)) (Tr.node (Tr.node Tr.nil (some (Value.int IntKind.i64 i)) Tr.nil) none Tr.nil)) (some (Value.string b)) (Tr.node Tr.nil (some (Value.int IntKind.i64 q)) Tr.nil)) [] (AW.mk 0 Tr.nil Tr.nil) else bif decide (p < Int.negSucc 999999999999999) then kr [(8, Value.bool false), (7, Value.int IntKind.i64 (Int.ofNat 0)), (6, Value.int IntKind.i64 (Int.ofNat 0))] (Tr.node (Tr.node Tr.nil (some (Value.int IntKind.i64 p)) (Tr.node (Tr.node Tr.nil (some (Value.int IntKind.i64 i)) Tr.nil) none Tr.nil)) (some (Value.string b)) (Tr.node Tr.nil (some (Value.int IntKind.i64 q)) Tr.nil)) [] (AW.mk 0 Tr.nil Tr.nil) else bif decide (q > 1000000000000000) then kr [(8, Value.bool false), (7, Value.int IntKind.i64 (Int.ofNat 0)), (6, Value.int IntKind.i64 (Int.ofNat 0))] (Tr.node (Tr.node Tr.nil (some (Value.int IntKind.i64 p)) (Tr.node (Tr.node Tr.nil (some (Value.int IntKind.i64 i)) Tr.nil) none Tr.nil)) (some (Value.string b)) (Tr.node Tr.nil (some (Value.int IntKind.i64 q)) Tr.nil)) [] (AW.mk 0 Tr.nil Tr.nil) else kn [(15, Value.int IntKind.i64 (IntKind.wrap IntKind.i64 (i + Int.ofNat 1))), (14, Value.int IntKind.i64 i)] (Tr.node (Tr.node Tr.nil (some (Value.int IntKind.i64 p)) (Tr.node (Tr.node Tr.nil (some (Value.int IntKind.i64 (IntKind.wrap IntKind.i64 (i + Int.ofNat 1)))) Tr.nil) none Tr.nil)) (some (Value.string b)) (Tr.node Tr.nil (some (Value.int IntKind.i64 q)) Tr.nil)) [] (AW.mk 0 Tr.nil Tr.nil) else CR.fail 420 else bif decide (0 ≤ i) then Option.casesOn (Array.toList (ByteArray.data b))[Int.toNat i]? (CR.fail 429) fun val => bif Int.ofNat (UInt8.toNat val) == Int.ofNat 114 then kn [(15, Value.int IntKind.i64 (IntKind.wrap IntKind.i64 (i + Int.ofNat 1))), (14, Value.int IntKind.i64 i)] (Tr.node (Tr.node Tr.nil (some (Value.int IntKind.i64 (Int.ofNat 1))) (Tr.node (Tr.node Tr.nil (some (Value.int IntKind.i64 (IntKind.wrap IntKind.i64 (i + Int.ofNat 1)))) Tr.nil) none Tr.nil)) (some (Value.string b)) (Tr.node Tr.nil (some (Value.int IntKind.i64 (Int.ofNat 0))) Tr.nil)) [] (AW.mk 0 Tr.nil Tr.nil) else bif decide (p > 1000000000000000) then kr [(8, Value.bool false), (7, Value.int IntKind.i64 (Int.ofNat 0)), (6, Value.int IntKind.i64 (Int.ofNat 0))] (Tr.node (Tr.node Tr.nil (some (Value.int IntKind.i64 p)) (Tr.node (Tr.node Tr.nil (some (Value.int IntKind.i64 i)) Tr.nil) none Tr.nil)) (some (Value.string b)) (Tr.node Tr.nil (some (Value.int IntKind.i64 q)) Tr.nil)) [] (AW.mk 0 Tr.nil Tr.nil) else bif decide (p < Int.negSucc 999999999999999) then kr [(8, Value.bool false), (7, Value.int IntKind.i64 (Int.ofNat 0)), (6, Value.int IntKind.i64 (Int.ofNat 0))] (Tr.node (Tr.node Tr.nil (some (Value.int IntKind.i64 p)) (Tr.node (Tr.node Tr.nil (some (Value.int IntKind.i64 i)) Tr.nil) none Tr.nil)) (some (Value.string b)) (Tr.node Tr.nil (some (Value.int IntKind.i64 q)) Tr.nil)) [] (AW.mk 0 Tr.nil Tr.nil) else bif decide (q > 1000000000000000) then kr [(8, Value.bool false), (7, Value.int IntKind.i64 (Int.ofNat 0)), (6, Value.int IntKind.i64 (Int.ofNat 0))] (Tr.node (Tr.node Tr.nil (some (Value.int IntKind.i64 p)) (Tr.node (Tr.node Tr.nil (some (Value.int IntKind.i64 i)) Tr.nil) none Tr.nil)) (some (Value.string b)) (Tr.node Tr.nil (some (Value.int IntKind.i64 q)) Tr.nil)) [] (AW.mk 0 Tr.nil Tr.nil) else kn [(15, Value.int IntKind.i64 (IntKind.wrap IntKind.i64 (i + Int.ofNat 1))), (14, Value.int IntKind.i64 i)] (Tr.node (Tr.node Tr.nil (some (Value.int IntKind.i64 p)) (Tr.node (Tr.node Tr.nil (some (Value.int IntKind.i64 (IntKind.wrap IntKind.i64 (i + Int.ofNat 1)))) Tr.nil) none Tr.nil)) (some (Value.string b)) (Tr.node Tr.nil (some (Value.int IntKind.i64 q)) Tr.nil)) [] (AW.mk 0 Tr.nil Tr.nil) else CR.fail 420 else CR.fail 420 else CR.fail 420 else CR.fail 420 else CR.fail 420 else kx 0 [(13, Value.bool false), (12, Value.int IntKind.i64 (Int.ofNat (ByteArray.size b))), (11, Value.string b), (10, Value.int IntKind.i64 i)] (Tr.node (Tr.node Tr.nil (some (Value.int IntKind.i64 p)) (Tr.node (Tr.node Tr.nil (some (Value.int IntKind.i64 i)) Tr.nil) none Tr.nil)) (some (Value.string b)) (Tr.node Tr.nil (some (Value.int IntKind.i64 q)) Tr.nil)) [] (AW.mk 0 Tr.nil Tr.nil) := by kernel_rfl

theorem rvC (r : Mem) (L : Nat) (fs : FnsC) (b : ByteArray) (p q : Int) (i : Int) (s : List (Nat × Value)) (kn : KS) (kx : Nat → KS) (kr : KS) : run (SC r) 519 83 L (rc (rc cRv)) fs none kn kx kr s (TRv b p q i) [] emptyA =
    kr [(8, Value.bool true), (7, Value.int IntKind.i64 q), (6, Value.int IntKind.i64 p), (82, Value.int IntKind.i64 q), (81, Value.int IntKind.i64 p)] (Tr.node (Tr.node Tr.nil (some (Value.int IntKind.i64 p)) (Tr.node (Tr.node Tr.nil (some (Value.int IntKind.i64 i)) Tr.nil) none Tr.nil)) (some (Value.string b)) (Tr.node Tr.nil (some (Value.int IntKind.i64 q)) Tr.nil)) [] (AW.mk 0 Tr.nil Tr.nil) := by kernel_rfl

end Go.Proofs

/- The reference's words: what the calls answer. -/
namespace Go.Proofs
open Go Go.Ev

/-- A letter. -/
def okL (c : UInt8) : Bool := c.toNat == 116 || c.toNat == 84 || c.toNat == 114
def m_rword (b : ByteArray) : Bool := b.data.toList.all okL

theorem rw_loop (r : Mem) (L : Nat) (fs : FnsC) (kx : Nat → KS) (kr : KS) (b : ByteArray) (hn : b.size ≤ 9223372036854775807) (V : Bool) (R : CR)
    (hT : V = true → ∀ s i, kx 0 s (TRw b i) [] emptyA = R) (hF : V = false → ∀ s i, kr ((2, .bool false) :: s) (TRw b i) [] emptyA = R) :
    ∀ (j k : Nat) (s : List (Nat × Value)), k ≤ b.size → b.size - k < j → (b.data.toList.drop k).all okL = V →
    cLoop (fun kl => run (SC r) 9 26 L (ic (ic (rc (lc (rc cRw))))) fs none kl kx kr) j s (TRw b k) [] emptyA = R := by
  intro j
  have hlen : b.data.toList.length = b.size := Array.length_toList
  induction j with
  | zero => intro k s _ h; omega
  | succ j ih =>
    intro k s hk hj hV
    rw [cLoop_succ, rwB]
    by_cases c : k < b.size
    · have c1 : (k : Int) < Int.ofNat b.size := by simp; omega
      have c2 : 0 ≤ (k : Int) := by omega
      have w : IntKind.wrap IntKind.i64 ((k : Int) + Int.ofNat 1) = ((k + 1 : Nat) : Int) := by rw [wrI (by simp; omega)]; simp
      have hd := List.drop_eq_getElem_cons (show k < b.data.toList.length by omega)
      have hg : b.data.toList[k]? = some b.data.toList[k] := List.getElem?_eq_getElem _
      rw [hd, List.all_cons] at hV
      simp only [dT c1, dT c2, cond_true, Int.toNat_natCast, hg, w]
      generalize b.data.toList[k] = v at *
      have hi := fun s h => ih (k + 1) s (by omega) (by omega) h
      by_cases e1 : v.toNat = 116
      · have o : okL v = true := by simp [okL, e1]
        rw [o, Bool.true_and] at hV
        simp only [e1, bne_self_eq_false, cond_false]
        exact hi _ hV
      · have n1 : ((Int.ofNat v.toNat) != Int.ofNat 116) = true := neT (by simp; omega)
        simp only [n1, cond_true]
        by_cases e2 : v.toNat = 84
        · have o : okL v = true := by simp [okL, e2]
          rw [o, Bool.true_and] at hV
          simp only [e2, bne_self_eq_false, cond_false]
          exact hi _ hV
        · have n2 : ((Int.ofNat v.toNat) != Int.ofNat 84) = true := neT (by simp; omega)
          simp only [n2, cond_true]
          by_cases e3 : v.toNat = 114
          · have o : okL v = true := by simp [okL, e3]
            rw [o, Bool.true_and] at hV
            simp only [e3, bne_self_eq_false, cond_false]
            exact hi _ hV
          · have n3 : ((Int.ofNat v.toNat) != Int.ofNat 114) = true := neT (by simp; omega)
            have o : okL v = false := by simp [okL, e1, e2, e3]
            rw [o, Bool.false_and] at hV
            simp only [n3, cond_true]
            exact hF hV.symm [] _
    · have c1 : ¬ (k : Int) < Int.ofNat b.size := by simp; omega
      simp only [dF c1, cond_false]
      have hd : b.data.toList.drop k = [] := List.drop_eq_nil_of_le (by omega)
      rw [hd] at hV
      exact hT (by simpa using hV.symm) _ _

theorem cRw_eq : cRw = .seq (lc cRw) (.seq (.seq (lc (lc (rc cRw))) (.block 0 (.loop (ic (ic (rc (lc (rc cRw)))))))) (rc (rc cRw))) := by kernel_rfl
def mskRw : Tr Nat := Tr.nil.put 21 (some 9)

theorem rWord_ok (r : Mem) (b : ByteArray) (hn : b.size ≤ 9223372036854775807) : GrT Tryd.prog r 21 [.string b] (.bool (m_rword b)) := by
  refine GrT.of (SC_ok r) TOk.nil mskRw rfl ⟨b.size + 1, 1, ?_⟩
  rw [enterN (m := 9) (n := 26) (rs := [.tmp 2]) cRw rfl (by kernel_rfl) (by kernel_rfl) (by kernel_rfl) (by kernel_rfl) (by kernel_rfl) rfl]
  generalize hk : finK (SC r) 9 [.tmp 2] fin = kr
  rw [cRw_eq, run_pre, run_while, rwA]
  refine rw_loop r _ _ _ _ b hn (m_rword b) _ ?_ ?_ _ 0 _ (by omega) (by omega) rfl
  · intro hV s i
    refine (rwC r _ _ b i s _ _ _).trans ?_
    rw [hV, ← hk]; rfl
  · intro hV s i
    rw [hV, ← hk]; rfl

end Go.Proofs

/- The reference's values: what the calls answer. -/
namespace Go.Proofs
open Go Go.Ev

/-- What a letter makes of a fraction, and whether that is too large. -/
def stepV (v : UInt8) (p q : Int) : Int × Int :=
  if v.toNat = 116 then (if q > 0 then (p + q, q) else (p, q))
  else if v.toNat = 84 then (if q > 0 then (p - q, q) else (p, q))
  else if v.toNat = 114 then (if p < 0 then (q, -p) else if p > 0 then (if q = 0 then (0, 1) else (-q, p)) else (1, 0))
  else (p, q)
def bigV (w : Int × Int) : Bool := decide (w.1 > 1000000000000000) || decide (w.1 < -1000000000000000) || decide (w.2 > 1000000000000000)
def goV : List UInt8 → Int → Int → Int × Int × Bool
  | [], p, q => (p, q, true)
  | v :: l, p, q => if bigV (stepV v p q) = true then (0, 0, false) else goV l (stepV v p q).1 (stepV v p q).2

theorem tail3 {P Q : Int} {a1 a2 a3 c R : CR} (h1 : bigV (P, Q) = true → a1 = R ∧ a2 = R ∧ a3 = R) (h2 : bigV (P, Q) = false → c = R) :
    (bif decide (P > 1000000000000000) then a1 else bif decide (P < Int.negSucc 999999999999999) then a2 else bif decide (Q > 1000000000000000) then a3 else c) = R := by
  have m : Int.negSucc 999999999999999 = -1000000000000000 := rfl
  rw [m]
  by_cases c1 : P > 1000000000000000
  · rw [dT c1, cond_true]; exact (h1 (by simp [bigV, c1])).1
  · rw [dF c1, cond_false]
    by_cases c2 : P < -1000000000000000
    · rw [dT c2, cond_true]; exact (h1 (by simp [bigV, c2])).2.1
    · rw [dF c2, cond_false]
      by_cases c3 : Q > 1000000000000000
      · rw [dT c3, cond_true]; exact (h1 (by simp [bigV, c3])).2.2
      · rw [dF c3, cond_false]; exact h2 (by simp [bigV, c1, c2, c3])
theorem tail2 {P Q : Int} {a1 a2 c R : CR} (hQ : Q ≤ 1000000000000000) (h1 : bigV (P, Q) = true → a1 = R ∧ a2 = R ∧ a2 = R) (h2 : bigV (P, Q) = false → c = R) :
    (bif decide (P > 1000000000000000) then a1 else bif decide (P < Int.negSucc 999999999999999) then a2 else c) = R := by
  have := tail3 (P := P) (Q := Q) (a3 := a2) h1 h2
  rwa [dF (show ¬ Q > 1000000000000000 by omega), cond_false] at this

theorem rv_round (r : Mem) (L : Nat) (fs : FnsC) (b : ByteArray) (k : Nat) (hk : k < b.data.toList.length) (hn : b.data.toList.length ≤ 9223372036854775807) (s : List (Nat × Value)) (kn : KS) (kx : Nat → KS) (kr : KS) (p q : Int)
    (hp1 : -1000000000000000 ≤ p) (hp2 : p ≤ 1000000000000000) (hq1 : -1000000000000000 ≤ q) (hq2 : q ≤ 1000000000000000) (R : CR)
    (h1 : bigV (stepV b.data.toList[k] p q) = true → ∀ s t, kr ((8, .bool false) :: (7, I 0) :: (6, I 0) :: s) t [] emptyA = R)
    (h2 : bigV (stepV b.data.toList[k] p q) = false → ∀ s, kn s (TRv b (stepV b.data.toList[k] p q).1 (stepV b.data.toList[k] p q).2 ((k + 1 : Nat) : Int)) [] emptyA = R) :
    run (SC r) 519 83 L (ic (ic (rc (lc (rc cRv))))) fs none kn kx kr s (TRv b p q k) [] emptyA = R := by
  rw [rvB]
  have hlen : b.data.toList.length = b.size := Array.length_toList
  have c1 : (k : Int) < Int.ofNat b.size := by simp; omega
  have c2 : 0 ≤ (k : Int) := by omega
  have w : IntKind.wrap IntKind.i64 ((k : Int) + Int.ofNat 1) = ((k + 1 : Nat) : Int) := by rw [wrI (by simp; omega)]; simp
  have hg : b.data.toList[k]? = some b.data.toList[k] := List.getElem?_eq_getElem _
  have w1 : IntKind.wrap IntKind.i64 (p + q) = p + q := wrI (by omega)
  have w2 : IntKind.wrap IntKind.i64 (p - q) = p - q := wrI (by omega)
  have w3 : IntKind.wrap IntKind.i64 (Int.ofNat 0 - p) = -p := by rw [wrI (by simp; omega)]; simp
  have w4 : IntKind.wrap IntKind.i64 (Int.ofNat 0 - q) = -q := by rw [wrI (by simp; omega)]; simp
  simp only [dT c1, dT c2, cond_true, Int.toNat_natCast, hg, w, w1, w2, w3, w4]
  generalize b.data.toList[k] = v at *
  have b1 : bigV (stepV v p q) = true → ∀ s t u u', kr ((8, .bool false) :: (7, I 0) :: (6, I 0) :: s) t [] emptyA = R ∧ kr ((8, .bool false) :: (7, I 0) :: (6, I 0) :: s) u [] emptyA = R ∧ kr ((8, .bool false) :: (7, I 0) :: (6, I 0) :: s) u' [] emptyA = R := fun h s t u u' => ⟨h1 h s t, h1 h s u, h1 h s u'⟩
  have x1 : ∀ n : Nat, v.toNat = n → (Int.ofNat v.toNat == Int.ofNat n) = true := fun n h => by rw [h]; simp
  have x2 : ∀ n : Nat, v.toNat ≠ n → (Int.ofNat v.toNat == Int.ofNat n) = false := fun n h => eqF (by simp; omega)
  by_cases e1 : v.toNat = 116
  · rw [x1 116 e1, x2 84 (by omega), x2 114 (by omega)]
    by_cases hq : q > 0
    · have st : stepV v p q = (p + q, q) := by simp [stepV, e1, hq]
      rw [st] at b1 h2
      simp only [dT hq, cond_true]
      exact tail3 (fun h => b1 h _ _ _ _) fun h => h2 h _
    · have st : stepV v p q = (p, q) := by simp [stepV, e1, hq]
      rw [st] at b1 h2
      simp only [dF hq, cond_true, cond_false]
      exact tail3 (fun h => b1 h _ _ _ _) fun h => h2 h _
  · by_cases e2 : v.toNat = 84
    · rw [x2 116 e1, x1 84 e2, x2 114 (by omega)]
      by_cases hq : q > 0
      · have st : stepV v p q = (p - q, q) := by simp [stepV, e2, hq]
        rw [st] at b1 h2
        simp only [dT hq, cond_true, cond_false]
        exact tail3 (fun h => b1 h _ _ _ _) fun h => h2 h _
      · have st : stepV v p q = (p, q) := by simp [stepV, e2, hq]
        rw [st] at b1 h2
        simp only [dF hq, cond_true, cond_false]
        exact tail3 (fun h => b1 h _ _ _ _) fun h => h2 h _
    · by_cases e3 : v.toNat = 114
      · rw [x2 116 e1, x2 84 e2, x1 114 e3]
        by_cases p0 : p < 0
        · have st : stepV v p q = (q, -p) := by simp [stepV, e3, p0]
          rw [st] at b1 h2
          simp only [dT p0, cond_true, cond_false]
          exact tail3 (fun h => b1 h _ _ _ _) fun h => h2 h _
        · by_cases p1 : p > 0
          · by_cases q0 : q = 0
            · have st : stepV v p q = (0, 1) := by simp [stepV, e3, p0, p1, q0]
              rw [st] at b1 h2
              have q1 : (-q == Int.ofNat 0) = true := eqT (by rw [q0]; rfl)
              simp only [dF p0, dT p1, q1, cond_true, cond_false]
              rw [show -q = 0 by omega]
              exact tail2 (Q := 1) (by omega) (fun h => b1 h _ _ _ _) fun h => h2 h _
            · have st : stepV v p q = (-q, p) := by simp [stepV, e3, p0, p1, q0]
              rw [st] at b1 h2
              have q1 : (-q == Int.ofNat 0) = false := eqF (by simp; omega)
              simp only [dF p0, dT p1, q1, cond_true, cond_false]
              exact tail3 (fun h => b1 h _ _ _ _) fun h => h2 h _
          · have st : stepV v p q = (1, 0) := by simp [stepV, e3, p0, p1]
            rw [st] at h2
            simp only [dF p0, dF p1, cond_true, cond_false]
            exact h2 rfl _
      · rw [x2 116 e1, x2 84 e2, x2 114 e3]
        have st : stepV v p q = (p, q) := by simp [stepV, e1, e2, e3]
        rw [st] at b1 h2
        simp only [cond_false]
        exact tail3 (fun h => b1 h _ _ _ _) fun h => h2 h _

end Go.Proofs

/- The reference's values: the loop, the call; checks. -/
namespace Go.Proofs
open Go Go.Ev

theorem bigV_no {w : Int × Int} (h : bigV w = false) : w.1 ≤ 1000000000000000 ∧ -1000000000000000 ≤ w.1 ∧ w.2 ≤ 1000000000000000 := by
  simp only [bigV, Bool.or_eq_false_iff, decide_eq_false_iff_not] at h
  omega
theorem stepV_low (v : UInt8) {p q : Int} (hp : -1000000000000000 ≤ p) (hq : -1000000000000000 ≤ q) : -1000000000000000 ≤ (stepV v p q).2 := by
  unfold stepV
  split
  · split <;> exact hq
  · split
    · split <;> exact hq
    · split
      · split
        · show _ ≤ -p; omega
        · split
          · split
            · show _ ≤ (1 : Int); omega
            · exact hp
          · show _ ≤ (0 : Int); omega
      · exact hq

theorem rv_loop (r : Mem) (L : Nat) (fs : FnsC) (kx : Nat → KS) (kr : KS) (b : ByteArray) (hn : b.data.toList.length ≤ 9223372036854775807) (V : Int × Int × Bool) (R : CR)
    (hT : V.2.2 = true → ∀ s i, kx 0 s (TRv b V.1 V.2.1 i) [] emptyA = R) (hF : V = (0, 0, false) → ∀ s t, kr ((8, .bool false) :: (7, I 0) :: (6, I 0) :: s) t [] emptyA = R) :
    ∀ (j k : Nat) (p q : Int) (s : List (Nat × Value)), k ≤ b.data.toList.length → b.data.toList.length - k < j →
    -1000000000000000 ≤ p → p ≤ 1000000000000000 → -1000000000000000 ≤ q → q ≤ 1000000000000000 → goV (b.data.toList.drop k) p q = V →
    cLoop (fun kl => run (SC r) 519 83 L (ic (ic (rc (lc (rc cRv))))) fs none kl kx kr) j s (TRv b p q k) [] emptyA = R := by
  intro j
  have hlen : b.data.toList.length = b.size := Array.length_toList
  induction j with
  | zero => intro k p q s _ h; omega
  | succ j ih =>
    intro k p q s hk hj hp1 hp2 hq1 hq2 hV
    rw [cLoop_succ]
    by_cases c : k < b.data.toList.length
    · rw [List.drop_eq_getElem_cons c, goV] at hV
      refine rv_round r L fs b k c hn s _ kx kr p q hp1 hp2 hq1 hq2 R (fun hb s t => ?_) fun hb s => ?_
      · rw [if_pos hb] at hV
        exact hF hV.symm s t
      · rw [if_neg (by rw [hb]; decide)] at hV
        have := bigV_no hb
        exact ih (k + 1) _ _ s (by omega) (by omega) this.2.1 this.1 (stepV_low _ hp1 hq1) this.2.2 hV
    · rw [rvB]
      have c1 : ¬ (k : Int) < Int.ofNat b.size := by simp; omega
      simp only [dF c1, cond_false]
      rw [List.drop_eq_nil_of_le (by omega), goV] at hV
      subst hV
      exact hT rfl _ _

theorem goV_false : ∀ (l : List UInt8) (p q : Int), (goV l p q).2.2 = false → goV l p q = (0, 0, false)
  | [], _, _, h => by simp [goV] at h
  | v :: l, p, q, h => by
    rw [goV] at h ⊢
    split
    · rfl
    · rename_i hb
      rw [if_neg hb] at h
      exact goV_false l _ _ h

theorem cRv_eq : cRv = .seq (lc cRv) (.seq (.seq (lc (lc (rc cRv))) (.block 0 (.loop (ic (ic (rc (lc (rc cRv)))))))) (rc (rc cRv))) := by kernel_rfl
def mskRv : Tr Nat := Tr.nil.put 12 (some 519)

/-- A word's value from a fraction on, or that a number is too large. -/
theorem rValue_ok (r : Mem) (b : ByteArray) (p q : Int) (hn : b.data.toList.length ≤ 9223372036854775807) (hp1 : -1000000000000000 ≤ p) (hp2 : p ≤ 1000000000000000) (hq1 : -1000000000000000 ≤ q) (hq2 : q ≤ 1000000000000000) :
    GrT Tryd.prog r 12 [.string b, I p, I q] (.tuple ⟨[I (goV b.data.toList p q).1, I (goV b.data.toList p q).2.1, .bool (goV b.data.toList p q).2.2]⟩) := by
  refine GrT.of (SC_ok r) TOk.nil mskRv rfl ⟨b.data.toList.length + 1, 1, ?_⟩
  rw [enterN (m := 519) (n := 83) (rs := [.tmp 6, .tmp 7, .tmp 8]) cRv rfl (by kernel_rfl) (by kernel_rfl) (by kernel_rfl) (by kernel_rfl) (by kernel_rfl) rfl]
  generalize hk : finK (SC r) 519 [.tmp 6, .tmp 7, .tmp 8] fin = kr
  rw [cRv_eq, run_pre, run_while, rvA]
  refine rv_loop r _ _ _ _ b hn (goV b.data.toList p q) _ ?_ ?_ _ 0 p q _ (by omega) (by omega) hp1 hp2 hq1 hq2 rfl
  · intro hV s i
    refine (rvC r _ _ b _ _ i s _ _ _).trans ?_
    rw [hV, ← hk]; rfl
  · intro hV s t
    rw [hV, ← hk]; rfl

end Go.Proofs

/- The reference's checks of words. -/
namespace Go.Proofs
open Go Go.Ev

def eS1 (g : ByteArray → Bool) (v : ByteArray → Value) : Ent := ent (fun args _ => match args with | [.string b] => g b | _ => false) (fun args _ => match args with | [.string b] => v b | _ => undef)
def eS1I2 (g : ByteArray → Int → Int → Bool) (v : ByteArray → Int → Int → Value) : Ent := ent (fun args _ => match args with | [.string b, .int .i64 p, .int .i64 q] => g b p q | _ => false) (fun args _ => match args with | [.string b, .int .i64 p, .int .i64 q] => v b p q | _ => undef)
theorem eS1_ok {C : Cfg} {f : Nat} {g : ByteArray → Bool} {v : ByteArray → Value} (h : ∀ a, g a = true → GrT C.P C.ro f [.string a] (v a)) : EOk C f (eS1 g v) := EOk.ent fun args A hg => by
  split at hg
  · exact (h _ hg).ro rfl A
  · cases hg
theorem eS1I2_ok {C : Cfg} {f : Nat} {g : ByteArray → Int → Int → Bool} {v : ByteArray → Int → Int → Value} (h : ∀ a p q, g a p q = true → GrT C.P C.ro f [.string a, I p, I q] (v a p q)) : EOk C f (eS1I2 g v) := EOk.ent fun args A hg => by
  split at hg
  · exact (h _ _ _ hg).ro rfl A
  · cases hg

def m_szG (b : ByteArray) : Bool := decide (b.size ≤ 9223372036854775807)
def m_rvG (b : ByteArray) (p q : Int) : Bool := m_szG b && (decide (-1000000000000000 ≤ p) && decide (p ≤ 1000000000000000)) && (decide (-1000000000000000 ≤ q) && decide (q ≤ 1000000000000000))
def m_rvP (b : ByteArray) (p q : Int) : Int := (goV b.data.toList p q).1
def m_rvQ (b : ByteArray) (p q : Int) : Int := (goV b.data.toList p q).2.1
def m_rvB (b : ByteArray) (p q : Int) : Bool := (goV b.data.toList p q).2.2
def eRword : Ent := eS1 m_szG fun b => .bool (m_rword b)
def eRvalue : Ent := eS1I2 m_rvG fun b p q => .tuple ⟨[I (m_rvP b p q), I (m_rvQ b p q), .bool (m_rvB b p q)]⟩

theorem rWordE_ok (r : Mem) : EOk (SC r) 21 eRword := eS1_ok fun b h => rWord_ok r b (by simpa [m_szG] using h)
theorem rValueE_ok (r : Mem) : EOk (SC r) 12 eRvalue := eS1I2_ok fun b p q h => by
  simp only [m_rvG, m_szG, Bool.and_eq_true, decide_eq_true_eq] at h
  have hlen : b.data.toList.length = b.size := Array.length_toList
  exact rValue_ok r b p q (by omega) h.1.2.1 h.1.2.2 h.2.1 h.2.2
def tRck : Tbl := tcons 21 eRword fun _ => none

theorem rckA (r : Mem) (L : Nat) (b : ByteArray) : (lvlT (SC r) tRck .nil L 1).call 10 [.string b] emptyA fin =
    bif decide (Int.ofNat (ByteArray.size b) > 2000) then CR.ret (Value.int IntKind.i64 (Int.ofNat 2)) (AW.mk 0 Tr.nil Tr.nil) else bif m_szG b then bif m_rword b then CR.ret (Value.int IntKind.i64 (Int.ofNat 0)) (AW.mk 0 Tr.nil Tr.nil) else CR.ret (Value.int IntKind.i64 (Int.ofNat 60)) (AW.mk 0 Tr.nil Tr.nil) else CR.fail 420 := by kernel_rfl

def m_rck (b : ByteArray) : Int := bif decide (b.size > 2000) then Int.ofNat 2 else bif m_rword b then Int.ofNat 0 else Int.ofNat 60
theorem rCheck_ok (r : Mem) (b : ByteArray) (h : m_szG b = true) : GrT Tryd.prog r 10 [.string b] (I (m_rck b)) :=
  GrT.of (SC_ok r) (show TOk (SC r) tRck from TOk.cons TOk.nil (rWordE_ok r)) .nil rfl ⟨1, 1, by
    rw [rckA, h]
    by_cases c : b.size > 2000
    · rw [dT (show Int.ofNat b.size > 2000 by simp; omega)]
      simp only [m_rck, dT c, cond_true]
      rfl
    · rw [dF (show ¬ Int.ofNat b.size > 2000 by simp; omega)]
      cases hw : m_rword b <;>
      · simp only [m_rck, hw, dF c, cond_true, cond_false]
        rfl⟩
def eRcheck : Ent := eS1 m_szG fun b => I (m_rck b)
theorem rCheckE_ok (r : Mem) : EOk (SC r) 10 eRcheck := eS1_ok fun b h => rCheck_ok r b h

end Go.Proofs

/- The program's check of a word: what the call answers. -/
namespace Go.Proofs
open Go Go.Ev

theorem isL_ok (r : Mem) (a : Int) : GrT Tryd.prog r 17 [.int .i32 a] (.bool (decide (a = 116) || decide (a = 84) || decide (a = 114))) :=
  GrT.of (SC_ok r) TOk.nil .nil rfl ⟨1, 1, by
    rw [tkI]
    by_cases h1 : a = 116
    · rw [eqT (show a = Int.ofNat 116 from h1), dT h1]; rfl
    · rw [eqF (show a ≠ Int.ofNat 116 from h1), dF h1]
      by_cases h2 : a = 84
      · rw [eqT (show a = Int.ofNat 84 from h2), dT h2]; rfl
      · rw [eqF (show a ≠ Int.ofNat 84 from h2), dF h2]
        by_cases h3 : a = 114
        · rw [eqT (show a = Int.ofNat 114 from h3), dT h3]; rfl
        · rw [eqF (show a ≠ Int.ofNat 114 from h3), dF h3]; rfl⟩
theorem tIsL_ok (r : Mem) : TOk (SC r) tIsL := TOk.cons TOk.nil (EOk.ent fun args A hg => by
  split at hg
  · exact (isL_ok r _).ro rfl A
  · cases hg)

theorem okL_rune (b : ByteArray) (k : Nat) (h : k < b.data.toList.length) : (decide (Int.ofNat (m_rune b k) = 116) || decide (Int.ofNat (m_rune b k) = 84) || decide (Int.ofNat (m_rune b k) = 114)) = okL b.data.toList[k] ∧ (okL b.data.toList[k] = true → m_width b k = 1) := by
  by_cases c : b.data.toList[k].toNat < 128
  · obtain ⟨e1, e2⟩ := rune_lo b k h c
    refine ⟨?_, fun _ => e2⟩
    rw [e1, okL]
    generalize b.data.toList[k].toNat = n
    rw [Bool.eq_iff_iff]
    simp
    omega
  · have e := rune_hi b k h c
    have hf : okL b.data.toList[k] = false := by
      rw [okL]
      generalize b.data.toList[k].toNat = n at c ⊢
      have h1 : ¬ n = 116 := by omega
      have h2 : ¬ n = 84 := by omega
      have h3 : ¬ n = 114 := by omega
      simp [h1, h2, h3]
    refine ⟨?_, fun h => by rw [hf] at h; cases h⟩
    rw [hf]
    have h1 : ¬ Int.ofNat (m_rune b k) = 116 := by simp; omega
    have h2 : ¬ Int.ofNat (m_rune b k) = 84 := by simp; omega
    have h3 : ¬ Int.ofNat (m_rune b k) = 114 := by simp; omega
    rw [dF h1, dF h2, dF h3]
    rfl

theorem tk_loop (r : Mem) (L : Nat) (tm : Tr Nat) (kx : Nat → KS) (kr : KS) (b : ByteArray) (V : Bool) (R : CR)
    (hT : V = true → ∀ s o k, kx 0 s (TTk b o) [] (ATk b k) = R) (hF : V = false → ∀ s o k, kr ((2, I 60) :: s) (TTk b o) [] (ATk b k) = R) :
    ∀ (j k : Nat) (s : List (Nat × Value)), k ≤ b.data.toList.length → b.data.toList.length - k < j → (b.data.toList.drop k).all okL = V →
    cLoop (fun kl => run (SC r) 1553 16 L (ic (ic (rc (lc (rc (rc cTk)))))) (lvlT (SC r) tIsL tm L 0) none kl kx kr) j s (TTk b .nil) [] (ATk b k) = R ∧
    ∀ v4 v10, cLoop (fun kl => run (SC r) 1553 16 L (ic (ic (rc (lc (rc (rc cTk)))))) (lvlT (SC r) tIsL tm L 0) none kl kx kr) j s (TTk b (TTk2 v4 v10)) [] (ATk b k) = R := by
  intro j
  have hlen : b.data.toList.length = b.size := Array.length_toList
  induction j with
  | zero => intro k s _ h; omega
  | succ j ih =>
    intro k s hk hj hV
    rw [cLoop_succ]
    by_cases c : k < b.data.toList.length
    · have c1 : Nat.blt k b.size = true := Nat.ble_eq_true_of_le (by omega)
      obtain ⟨e1, e2⟩ := okL_rune b k c
      rw [List.drop_eq_getElem_cons c, List.all_cons] at hV
      cases hl : okL b.data.toList[k] with
      | true =>
        rw [hl, Bool.true_and] at hV
        have hi := fun s => (ih (k + 1) s (by omega) (by omega) hV).2
        have hw : Nat.add k (m_width b k) = k + 1 := by rw [e2 hl]
        refine ⟨?_, fun v4 v10 => ?_⟩
        · rw [tkB1, c1, e1, hl, cond_true, cond_true, hw]
          exact hi _ _ _
        · rw [tkB2, c1, e1, hl, cond_true, cond_true, hw]
          exact hi _ _ _
      | false =>
        rw [hl, Bool.false_and] at hV
        refine ⟨?_, fun v4 v10 => ?_⟩
        · rw [tkB1, c1, e1, hl, cond_true, cond_false]
          exact hF hV.symm [] _ _
        · rw [tkB2, c1, e1, hl, cond_true, cond_false]
          exact hF hV.symm [] _ _
    · have c1 : Nat.blt k b.size = false := by
        cases h : Nat.blt k b.size with
        | false => rfl
        | true =>
          have : k + 1 ≤ b.size := Nat.le_of_ble_eq_true h
          omega
      rw [List.drop_eq_nil_of_le (by omega)] at hV
      have hV' : V = true := by simpa using hV.symm
      refine ⟨?_, fun v4 v10 => ?_⟩
      · rw [tkB1, c1, cond_false]
        exact hT hV' _ _ _
      · rw [tkB2, c1, cond_false]
        exact hT hV' _ _ _

theorem cTk_eq : cTk = .seq (lc cTk) (.seq (lc (rc cTk)) (.seq (.seq (lc (lc (rc (rc cTk)))) (.block 0 (.loop (ic (ic (rc (lc (rc (rc cTk))))))))) (rc (rc (rc cTk))))) := by kernel_rfl
def mskTk : Tr Nat := Tr.nil.put 7 (some 1553)

/-- Whether a string is a word. -/
theorem check_ok (r : Mem) (b : ByteArray) : GrT Tryd.prog r 7 [.string b] (I (m_rck b)) := by
  refine GrT.of (SC_ok r) (tIsL_ok r) mskTk rfl ⟨b.data.toList.length + 1, 1, ?_⟩
  have hlen : b.data.toList.length = b.size := Array.length_toList
  rw [enterN (m := 1553) (n := 16) (rs := [.tmp 2]) cTk rfl (by kernel_rfl) (by kernel_rfl) (by kernel_rfl) (by kernel_rfl) (by kernel_rfl) rfl]
  generalize hk : finK (SC r) 1553 [.tmp 2] fin = kr
  rw [cTk_eq, seqA, run_pre, run_while, tkA]
  by_cases c : b.size > 2000
  · rw [dT (show Int.ofNat b.size > 2000 by simp; omega), cond_true, ← hk]
    simp only [m_rck, dT c, cond_true]
    rfl
  · rw [dF (show ¬ Int.ofNat b.size > 2000 by simp; omega), cond_false]
    refine (tk_loop r _ _ _ _ b (m_rword b) _ ?_ ?_ _ 0 _ (by omega) (by omega) rfl).1
    · intro hV s o k
      refine (tkC r _ _ b k o s _ _ _).trans ?_
      simp only [m_rck, dF c, hV, cond_true, cond_false, ← hk]
      rfl
    · intro hV s o k
      simp only [m_rck, dF c, hV, cond_true, cond_false, ← hk]
      rfl

end Go.Proofs

/- Fractions, run. -/
namespace Go.Proofs
open Go Go.Ev

noncomputable def cFr : Code := bodyOf S0 42
abbrev FV (p q : Int) : Value := .agg ⟨[I p, I q]⟩
def AF (p q : Int) : AW := emptyA.new (.cells [I p, I q] 44 0 0)
def TF (p q d l : Int) : Tr Value := ((((tr0 31 [FV p q]).put 1 (some (.pointer (some ⟨0, 0, none⟩)))).put 2 (some (.bool false))).put 3 (some (I d))).put 4 (some (I l))

theorem frA (r : Mem) (L : Nat) (fs : FnsC) (p q : Int) (kn : KS) (kx : Nat → KS) (kr : KS) (ms : List Nat) : run (SC r) 31 32 L (.seq (.seq (lc cFr) (lc (rc cFr))) (lc (rc (rc cFr)))) fs none kn kx kr (sc0 31 [FV p q]) (tr0 31 [FV p q]) ms emptyA =
    bif q == Int.ofNat 0 then bif p == Int.ofNat 1 then kr [(10, Value.bool true), (9, Value.int IntKind.i64 p), (8, Value.pointer (some (Addr.mk 0 0 none)))] (Tr.node (Tr.node Tr.nil (some (Value.pointer (some (Addr.mk 0 0 none)))) Tr.nil) (some (Value.agg (Array.mk [Value.int IntKind.i64 p, Value.int IntKind.i64 q]))) (Tr.node Tr.nil (some (Value.bool true)) Tr.nil)) ms (AW.mk 1 (Tr.node Tr.nil (some (AObj.cells [Value.int IntKind.i64 p, Value.int IntKind.i64 q] 44 0 0)) Tr.nil) Tr.nil) else kr [(10, Value.bool false), (9, Value.int IntKind.i64 p), (8, Value.pointer (some (Addr.mk 0 0 none)))] (Tr.node (Tr.node Tr.nil (some (Value.pointer (some (Addr.mk 0 0 none)))) Tr.nil) (some (Value.agg (Array.mk [Value.int IntKind.i64 p, Value.int IntKind.i64 q]))) (Tr.node Tr.nil (some (Value.bool false)) Tr.nil)) ms (AW.mk 1 (Tr.node Tr.nil (some (AObj.cells [Value.int IntKind.i64 p, Value.int IntKind.i64 q] 44 0 0)) Tr.nil) Tr.nil) else kn [(14, Value.int IntKind.i64 q), (13, Value.pointer (some (Addr.mk 0 1 none))), (12, Value.int IntKind.i64 p), (11, Value.pointer (some (Addr.mk 0 0 none)))] (Tr.node (Tr.node (Tr.node Tr.nil (some (Value.int IntKind.i64 p)) Tr.nil) (some (Value.pointer (some (Addr.mk 0 0 none)))) Tr.nil) (some (Value.agg (Array.mk [Value.int IntKind.i64 p, Value.int IntKind.i64 q]))) (Tr.node (Tr.node Tr.nil (some (Value.int IntKind.i64 q)) Tr.nil) (some (Value.bool false)) Tr.nil)) ms (AW.mk 1 (Tr.node Tr.nil (some (AObj.cells [Value.int IntKind.i64 p, Value.int IntKind.i64 q] 44 0 0)) Tr.nil) Tr.nil) := by kernel_rfl

theorem frB (r : Mem) (L : Nat) (fs : FnsC) (p q d l : Int) (s : List (Nat × Value)) (kn : KS) (kx : Nat → KS) (kr : KS) (ms : List Nat) : run (SC r) 31 32 L (ic (ic (lc (rc (rc (rc cFr)))))) fs none kn kx kr s (TF p q d l) ms (AF p q) =
    bif l != Int.ofNat 0 then bif !decide (l = 0) then kn [(20, Value.int IntKind.i64 (Int.tmod d l)), (19, Value.int IntKind.i64 l), (18, Value.int IntKind.i64 d), (17, Value.int IntKind.i64 l)] (Tr.node (Tr.node (Tr.node Tr.nil (some (Value.int IntKind.i64 l)) Tr.nil) (some (Value.pointer (some (Addr.mk 0 0 none)))) Tr.nil) (some (Value.agg (Array.mk [Value.int IntKind.i64 p, Value.int IntKind.i64 q]))) (Tr.node (Tr.node Tr.nil (some (Value.int IntKind.i64 (Int.tmod d l))) Tr.nil) (some (Value.bool false)) Tr.nil)) ms (AW.mk 1 (Tr.node Tr.nil (some (AObj.cells [Value.int IntKind.i64 p, Value.int IntKind.i64 q] 44 0 0)) Tr.nil) Tr.nil) else CR.fail 420 else kx 0 [(16, Value.bool false), (15, Value.int IntKind.i64 l)] (Tr.node (Tr.node (Tr.node Tr.nil (some (Value.int IntKind.i64 d)) Tr.nil) (some (Value.pointer (some (Addr.mk 0 0 none)))) Tr.nil) (some (Value.agg (Array.mk [Value.int IntKind.i64 p, Value.int IntKind.i64 q]))) (Tr.node (Tr.node Tr.nil (some (Value.int IntKind.i64 l)) Tr.nil) (some (Value.bool false)) Tr.nil)) ms (AW.mk 1 (Tr.node Tr.nil (some (AObj.cells [Value.int IntKind.i64 p, Value.int IntKind.i64 q] 44 0 0)) Tr.nil) Tr.nil) := by kernel_rfl

theorem frC (r : Mem) (L : Nat) (fs : FnsC) (p q d l : Int) (s : List (Nat × Value)) (kn : KS) (kx : Nat → KS) (kr : KS) (ms : List Nat) : run (SC r) 31 32 L (rc (rc (rc (rc cFr)))) fs none kn kx kr s (TF p q d l) ms (AF p q) =
    bif decide (q > 0) then bif d == Int.ofNat 1 then kr [(31, Value.bool true), (30, Value.bool true), (29, Value.tuple (Array.mk [])), (28, Value.tuple (Array.mk [])), (27, Value.bool true), (26, Value.bool true), (25, Value.int IntKind.i64 d), (24, Value.bool true), (23, Value.bool true), (22, Value.int IntKind.i64 q), (21, Value.pointer (some (Addr.mk 0 1 none)))] (Tr.node (Tr.node (Tr.node Tr.nil (some (Value.int IntKind.i64 d)) Tr.nil) (some (Value.pointer (some (Addr.mk 0 0 none)))) Tr.nil) (some (Value.agg (Array.mk [Value.int IntKind.i64 p, Value.int IntKind.i64 q]))) (Tr.node (Tr.node Tr.nil (some (Value.int IntKind.i64 l)) Tr.nil) (some (Value.bool true)) Tr.nil)) ms (AW.mk 1 (Tr.node Tr.nil (some (AObj.cells [Value.int IntKind.i64 p, Value.int IntKind.i64 q] 44 0 0)) Tr.nil) Tr.nil) else bif d == Int.negSucc 0 then kr [(31, Value.bool true), (30, Value.bool true), (29, Value.bool true), (28, Value.int IntKind.i64 d), (27, Value.bool false), (26, Value.bool false), (25, Value.int IntKind.i64 d), (24, Value.bool true), (23, Value.bool true), (22, Value.int IntKind.i64 q), (21, Value.pointer (some (Addr.mk 0 1 none)))] (Tr.node (Tr.node (Tr.node Tr.nil (some (Value.int IntKind.i64 d)) Tr.nil) (some (Value.pointer (some (Addr.mk 0 0 none)))) Tr.nil) (some (Value.agg (Array.mk [Value.int IntKind.i64 p, Value.int IntKind.i64 q]))) (Tr.node (Tr.node Tr.nil (some (Value.int IntKind.i64 l)) Tr.nil) (some (Value.bool true)) Tr.nil)) ms (AW.mk 1 (Tr.node Tr.nil (some (AObj.cells [Value.int IntKind.i64 p, Value.int IntKind.i64 q] 44 0 0)) Tr.nil) Tr.nil) else kr [(31, Value.bool false), (30, Value.bool false), (29, Value.bool false), (28, Value.int IntKind.i64 d), (27, Value.bool false), (26, Value.bool false), (25, Value.int IntKind.i64 d), (24, Value.bool true), (23, Value.bool true), (22, Value.int IntKind.i64 q), (21, Value.pointer (some (Addr.mk 0 1 none)))] (Tr.node (Tr.node (Tr.node Tr.nil (some (Value.int IntKind.i64 d)) Tr.nil) (some (Value.pointer (some (Addr.mk 0 0 none)))) Tr.nil) (some (Value.agg (Array.mk [Value.int IntKind.i64 p, Value.int IntKind.i64 q]))) (Tr.node (Tr.node Tr.nil (some (Value.int IntKind.i64 l)) Tr.nil) (some (Value.bool false)) Tr.nil)) ms (AW.mk 1 (Tr.node Tr.nil (some (AObj.cells [Value.int IntKind.i64 p, Value.int IntKind.i64 q] 44 0 0)) Tr.nil) Tr.nil) else kr [(31, Value.bool false), (30, Value.tuple (Array.mk [])), (29, Value.tuple (Array.mk [])), (28, Value.tuple (Array.mk [])), (27, Value.tuple (Array.mk [])), (26, Value.tuple (Array.mk [])), (25, Value.tuple (Array.mk [])), (24, Value.bool false), (23, Value.bool false), (22, Value.int IntKind.i64 q), (21, Value.pointer (some (Addr.mk 0 1 none)))] (Tr.node (Tr.node (Tr.node Tr.nil (some (Value.int IntKind.i64 d)) Tr.nil) (some (Value.pointer (some (Addr.mk 0 0 none)))) Tr.nil) (some (Value.agg (Array.mk [Value.int IntKind.i64 p, Value.int IntKind.i64 q]))) (Tr.node (Tr.node Tr.nil (some (Value.int IntKind.i64 l)) Tr.nil) (some (Value.bool false)) Tr.nil)) ms (AW.mk 1 (Tr.node Tr.nil (some (AObj.cells [Value.int IntKind.i64 p, Value.int IntKind.i64 q] 44 0 0)) Tr.nil) Tr.nil) := by kernel_rfl

end Go.Proofs

/- The program's values of words, run. -/
namespace Go.Proofs
open Go Go.Ev

noncomputable def cRd : Code := bodyOf S0 18
def m_afP (p q a : Int) : Int := if a = 116 then p + q else if a = 84 then p - q else if p > 0 then -q else q
def m_afQ (p q a : Int) : Int := if a = 116 then q else if a = 84 then q else if p > 0 then p else -p
def m_bnd (p q : Int) : Bool := (decide (-1000000000000000 ≤ p) && decide (p ≤ 1000000000000000)) && (decide (-1000000000000000 ≤ q) && decide (q ≤ 1000000000000000))
def m_iw (p q m : Int) : Bool := decide (-m ≤ p) && decide (p ≤ m) && decide (q ≤ m)
def eAft : Ent := ent (fun args _ => match args with | [.agg ⟨[.int .i64 p, .int .i64 q]⟩, .int .i32 _] => m_bnd p q | _ => false) (fun args _ => match args with | [.agg ⟨[.int .i64 p, .int .i64 q]⟩, .int .i32 a] => FV (m_afP p q a) (m_afQ p q a) | _ => undef)
def eIw : Ent := eA1I (fun _ _ m => decide (0 ≤ m) && decide (m ≤ 9223372036854775807)) fun p q m => .bool (m_iw p q m)
def tRd : Tbl := tcons 7 (eS1 (fun _ => true) fun b => I (m_rck b)) (tcons 30 eAft (tcons 19 eIw fun _ => none))

theorem afA (r : Mem) (L : Nat) (p q a : Int) : (lvlT (SC r) (fun _ => none) .nil L 2).call 30 [FV p q, .int .i32 a] emptyA fin =
    bif a == Int.ofNat 116 then CR.ret (Value.agg (Array.mk [Value.int IntKind.i64 (IntKind.wrap IntKind.i64 (p + q)), Value.int IntKind.i64 q])) (AW.mk 0 Tr.nil Tr.nil) else bif a == Int.ofNat 84 then CR.ret (Value.agg (Array.mk [Value.int IntKind.i64 (IntKind.wrap IntKind.i64 (p - q)), Value.int IntKind.i64 q])) (AW.mk 0 Tr.nil Tr.nil) else bif decide (p > 0) then CR.ret (Value.agg (Array.mk [Value.int IntKind.i64 (IntKind.wrap IntKind.i64 (Int.ofNat 0 - q)), Value.int IntKind.i64 p])) (AW.mk 0 Tr.nil Tr.nil) else CR.ret (Value.agg (Array.mk [Value.int IntKind.i64 q, Value.int IntKind.i64 (IntKind.wrap IntKind.i64 (Int.ofNat 0 - p))])) (AW.mk 0 Tr.nil Tr.nil) := by kernel_rfl

theorem iwA (r : Mem) (L : Nat) (p q m : Int) : (lvlT (SC r) (fun _ => none) .nil L 1).call 19 [FV p q, I m] emptyA fin =
    bif decide (IntKind.wrap IntKind.i64 (Int.ofNat 0 - m) ≤ p) then bif decide (p ≤ m) then bif decide (q ≤ m) then CR.ret (Value.bool true) (AW.mk 0 Tr.nil Tr.nil) else CR.ret (Value.bool false) (AW.mk 0 Tr.nil Tr.nil) else CR.ret (Value.bool false) (AW.mk 0 Tr.nil Tr.nil) else CR.ret (Value.bool false) (AW.mk 0 Tr.nil Tr.nil) := by kernel_rfl

theorem rdA (r : Mem) (L : Nat) (tm : Tr Nat) (b : ByteArray) (kn : KS) (kx : Nat → KS) (kr : KS) : run (SC r) 196799 28 L (.seq (.seq (.seq (lc cRd) (lc (rc cRd))) (lc (rc (rc cRd)))) (lc (lc (rc (rc (rc cRd)))))) (lvlT (SC r) tRd tm L 0) none kn kx kr (sc0 196799 [.string b]) (tr0 196799 [.string b]) [] emptyA =
    bif m_rck b != Int.ofNat 0 then kr [(13, Value.int IntKind.i64 (m_rck b)), (12, Value.agg (Array.mk [Value.int IntKind.i64 (Int.ofNat 0), Value.int IntKind.i64 (Int.ofNat 0)]))] (Tr.node (Tr.node (Tr.node Tr.nil (some (Value.int IntKind.i64 (m_rck b))) Tr.nil) none Tr.nil) (some (Value.string b)) (Tr.node (Tr.node Tr.nil (some (Value.int IntKind.i64 (m_rck b))) Tr.nil) (some (Value.pointer (some (Addr.mk 0 0 none)))) Tr.nil)) [] (AW.mk 1 (Tr.node Tr.nil (some (AObj.cells [Value.int IntKind.i64 (Int.ofNat 0), Value.int IntKind.i64 (Int.ofNat 0)] 44 0 0)) Tr.nil) Tr.nil) else Option.casesOn (r 0 0) (CR.fail 423) fun val => bif isI IntKind.i64 val then Option.casesOn (r 0 1) (CR.fail 423) fun val_1 => bif isI IntKind.i64 val_1 then kn [(15, Value.string b)] (Tr.node (Tr.node (Tr.node Tr.nil (some (Value.int IntKind.i64 (Int.ofNat 0))) Tr.nil) none (Tr.node Tr.nil (some (Value.pointer (some (Addr.mk 1 0 none)))) Tr.nil)) (some (Value.string b)) (Tr.node (Tr.node (Tr.node (Tr.node Tr.nil (some (Value.pointer (some (Addr.mk 2 0 none)))) Tr.nil) none Tr.nil) (some (Value.int IntKind.i64 (m_rck b))) Tr.nil) (some (Value.pointer (some (Addr.mk 0 0 none)))) Tr.nil)) [] (AW.mk 3 (Tr.node (Tr.node Tr.nil (some (AObj.cells [Value.int IntKind.i64 (ofI val), Value.int IntKind.i64 (ofI val_1)] 44 1 0)) Tr.nil) (some (AObj.cells [Value.int IntKind.i64 (Int.ofNat 0), Value.int IntKind.i64 (Int.ofNat 0)] 44 0 0)) (Tr.node Tr.nil (some (AObj.siter b 0)) Tr.nil)) Tr.nil) else CR.fail 420 else CR.fail 420 := by kernel_rfl

end Go.Proofs

/- The program's values of words, run: a letter after the other. -/
namespace Go.Proofs
open Go Go.Ev

def TRd (b : ByteArray) (e : Int) (o7 u : Tr Value) : Tr Value := (Tr.node (Tr.node (Tr.node o7 (some (Value.int IntKind.i64 (Int.ofNat 0))) Tr.nil) none (Tr.node u (some (Value.pointer (some (Addr.mk 1 0 none)))) Tr.nil)) (some (Value.string b)) (Tr.node (Tr.node (Tr.node (Tr.node Tr.nil (some (Value.pointer (some (Addr.mk 2 0 none)))) Tr.nil) none Tr.nil) (some (Value.int IntKind.i64 e)) Tr.nil) (some (Value.pointer (some (Addr.mk 0 0 none)))) Tr.nil))
def oRd7 (v : Value) : Tr Value := Tr.node Tr.nil (some v) Tr.nil
def oRd17 (v : Value) : Tr Value := Tr.node (Tr.node Tr.nil (some v) Tr.nil) none Tr.nil
def ARd (b : ByteArray) (k : Nat) (p q : Int) : AW := (AW.mk 3 (Tr.node (Tr.node Tr.nil (some (AObj.cells [Value.int IntKind.i64 p, Value.int IntKind.i64 q] 44 1 0)) Tr.nil) (some (AObj.cells [Value.int IntKind.i64 (Int.ofNat 0), Value.int IntKind.i64 (Int.ofNat 0)] 44 0 0)) (Tr.node Tr.nil (some (AObj.siter b k)) Tr.nil)) Tr.nil)

theorem rdB1 (r : Mem) (L : Nat) (tm : Tr Nat) (b : ByteArray) (e : Int) (k : Nat) (p q : Int) (s : List (Nat × Value)) (kn : KS) (kx : Nat → KS) (kr : KS) : run (SC r) 196799 28 L (ic (ic (rc (lc (rc (rc (rc cRd))))))) (lvlT (SC r) tRd tm L 0) none kn kx kr s (TRd b e .nil .nil) [] (ARd b k p q) =
    bif Nat.blt k (ByteArray.size b) then bif m_bnd p q then bif m_iw (m_afP p q (Int.ofNat (m_rune b k))) (m_afQ p q (Int.ofNat (m_rune b k))) (Int.ofNat 1000000000000000) then kn [(25, Value.bool false), (24, Value.bool true), (23, Value.agg (Array.mk [Value.int IntKind.i64 (m_afP p q (Int.ofNat (m_rune b k))), Value.int IntKind.i64 (m_afQ p q (Int.ofNat (m_rune b k)))]))] (Tr.node (Tr.node (Tr.node (Tr.node Tr.nil (some (Value.int IntKind.i32 (Int.ofNat (m_rune b k)))) Tr.nil) (some (Value.int IntKind.i64 (Int.ofNat 0))) Tr.nil) none (Tr.node (Tr.node (Tr.node Tr.nil (some (Value.tuple (Array.mk [Value.bool true, Value.int IntKind.i64 (Int.ofNat k), Value.int IntKind.i32 (Int.ofNat (m_rune b k))]))) Tr.nil) none Tr.nil) (some (Value.pointer (some (Addr.mk 1 0 none)))) Tr.nil)) (some (Value.string b)) (Tr.node (Tr.node (Tr.node (Tr.node Tr.nil (some (Value.pointer (some (Addr.mk 2 0 none)))) Tr.nil) none Tr.nil) (some (Value.int IntKind.i64 e)) Tr.nil) (some (Value.pointer (some (Addr.mk 0 0 none)))) Tr.nil)) [] (AW.mk 3 (Tr.node (Tr.node Tr.nil (some (AObj.cells [Value.int IntKind.i64 (m_afP p q (Int.ofNat (m_rune b k))), Value.int IntKind.i64 (m_afQ p q (Int.ofNat (m_rune b k)))] 44 1 0)) Tr.nil) (some (AObj.cells [Value.int IntKind.i64 (Int.ofNat 0), Value.int IntKind.i64 (Int.ofNat 0)] 44 0 0)) (Tr.node Tr.nil (some (AObj.siter b (Nat.add k (m_width b k)))) Tr.nil)) Tr.nil) else kr [(26, Value.agg (Array.mk [Value.int IntKind.i64 (Int.ofNat 0), Value.int IntKind.i64 (Int.ofNat 0)]))] (Tr.node (Tr.node (Tr.node (Tr.node Tr.nil (some (Value.int IntKind.i32 (Int.ofNat (m_rune b k)))) Tr.nil) (some (Value.int IntKind.i64 (Int.ofNat 12))) Tr.nil) none (Tr.node (Tr.node (Tr.node Tr.nil (some (Value.tuple (Array.mk [Value.bool true, Value.int IntKind.i64 (Int.ofNat k), Value.int IntKind.i32 (Int.ofNat (m_rune b k))]))) Tr.nil) none Tr.nil) (some (Value.pointer (some (Addr.mk 1 0 none)))) Tr.nil)) (some (Value.string b)) (Tr.node (Tr.node (Tr.node (Tr.node Tr.nil (some (Value.pointer (some (Addr.mk 2 0 none)))) Tr.nil) none Tr.nil) (some (Value.int IntKind.i64 e)) Tr.nil) (some (Value.pointer (some (Addr.mk 0 0 none)))) Tr.nil)) [] (AW.mk 3 (Tr.node (Tr.node Tr.nil (some (AObj.cells [Value.int IntKind.i64 (m_afP p q (Int.ofNat (m_rune b k))), Value.int IntKind.i64 (m_afQ p q (Int.ofNat (m_rune b k)))] 44 1 0)) Tr.nil) (some (AObj.cells [Value.int IntKind.i64 (Int.ofNat 0), Value.int IntKind.i64 (Int.ofNat 0)] 44 0 0)) (Tr.node Tr.nil (some (AObj.siter b (Nat.add k (m_width b k)))) Tr.nil)) Tr.nil) else CR.fail 420 else kx 0 [(18, Value.bool false)] (Tr.node (Tr.node (Tr.node Tr.nil (some (Value.int IntKind.i64 (Int.ofNat 0))) Tr.nil) none (Tr.node (Tr.node (Tr.node Tr.nil (some (Value.tuple (Array.mk [Value.bool false]))) Tr.nil) none Tr.nil) (some (Value.pointer (some (Addr.mk 1 0 none)))) Tr.nil)) (some (Value.string b)) (Tr.node (Tr.node (Tr.node (Tr.node Tr.nil (some (Value.pointer (some (Addr.mk 2 0 none)))) Tr.nil) none Tr.nil) (some (Value.int IntKind.i64 e)) Tr.nil) (some (Value.pointer (some (Addr.mk 0 0 none)))) Tr.nil)) [] (AW.mk 3 (Tr.node (Tr.node Tr.nil (some (AObj.cells [Value.int IntKind.i64 p, Value.int IntKind.i64 q] 44 1 0)) Tr.nil) (some (AObj.cells [Value.int IntKind.i64 (Int.ofNat 0), Value.int IntKind.i64 (Int.ofNat 0)] 44 0 0)) (Tr.node Tr.nil (some (AObj.siter b k)) Tr.nil)) Tr.nil) := by kernel_rfl

theorem rdB2 (r : Mem) (L : Nat) (tm : Tr Nat) (b : ByteArray) (e : Int) (v7 v17 : Value) (k : Nat) (p q : Int) (s : List (Nat × Value)) (kn : KS) (kx : Nat → KS) (kr : KS) : run (SC r) 196799 28 L (ic (ic (rc (lc (rc (rc (rc cRd))))))) (lvlT (SC r) tRd tm L 0) none kn kx kr s (TRd b e (oRd7 v7) (oRd17 v17)) [] (ARd b k p q) =
    bif Nat.blt k (ByteArray.size b) then bif m_bnd p q then bif m_iw (m_afP p q (Int.ofNat (m_rune b k))) (m_afQ p q (Int.ofNat (m_rune b k))) (Int.ofNat 1000000000000000) then kn [(25, Value.bool false), (24, Value.bool true), (23, Value.agg (Array.mk [Value.int IntKind.i64 (m_afP p q (Int.ofNat (m_rune b k))), Value.int IntKind.i64 (m_afQ p q (Int.ofNat (m_rune b k)))]))] (Tr.node (Tr.node (Tr.node (Tr.node Tr.nil (some (Value.int IntKind.i32 (Int.ofNat (m_rune b k)))) Tr.nil) (some (Value.int IntKind.i64 (Int.ofNat 0))) Tr.nil) none (Tr.node (Tr.node (Tr.node Tr.nil (some (Value.tuple (Array.mk [Value.bool true, Value.int IntKind.i64 (Int.ofNat k), Value.int IntKind.i32 (Int.ofNat (m_rune b k))]))) Tr.nil) none Tr.nil) (some (Value.pointer (some (Addr.mk 1 0 none)))) Tr.nil)) (some (Value.string b)) (Tr.node (Tr.node (Tr.node (Tr.node Tr.nil (some (Value.pointer (some (Addr.mk 2 0 none)))) Tr.nil) none Tr.nil) (some (Value.int IntKind.i64 e)) Tr.nil) (some (Value.pointer (some (Addr.mk 0 0 none)))) Tr.nil)) [] (AW.mk 3 (Tr.node (Tr.node Tr.nil (some (AObj.cells [Value.int IntKind.i64 (m_afP p q (Int.ofNat (m_rune b k))), Value.int IntKind.i64 (m_afQ p q (Int.ofNat (m_rune b k)))] 44 1 0)) Tr.nil) (some (AObj.cells [Value.int IntKind.i64 (Int.ofNat 0), Value.int IntKind.i64 (Int.ofNat 0)] 44 0 0)) (Tr.node Tr.nil (some (AObj.siter b (Nat.add k (m_width b k)))) Tr.nil)) Tr.nil) else kr [(26, Value.agg (Array.mk [Value.int IntKind.i64 (Int.ofNat 0), Value.int IntKind.i64 (Int.ofNat 0)]))] (Tr.node (Tr.node (Tr.node (Tr.node Tr.nil (some (Value.int IntKind.i32 (Int.ofNat (m_rune b k)))) Tr.nil) (some (Value.int IntKind.i64 (Int.ofNat 12))) Tr.nil) none (Tr.node (Tr.node (Tr.node Tr.nil (some (Value.tuple (Array.mk [Value.bool true, Value.int IntKind.i64 (Int.ofNat k), Value.int IntKind.i32 (Int.ofNat (m_rune b k))]))) Tr.nil) none Tr.nil) (some (Value.pointer (some (Addr.mk 1 0 none)))) Tr.nil)) (some (Value.string b)) (Tr.node (Tr.node (Tr.node (Tr.node Tr.nil (some (Value.pointer (some (Addr.mk 2 0 none)))) Tr.nil) none Tr.nil) (some (Value.int IntKind.i64 e)) Tr.nil) (some (Value.pointer (some (Addr.mk 0 0 none)))) Tr.nil)) [] (AW.mk 3 (Tr.node (Tr.node Tr.nil (some (AObj.cells [Value.int IntKind.i64 (m_afP p q (Int.ofNat (m_rune b k))), Value.int IntKind.i64 (m_afQ p q (Int.ofNat (m_rune b k)))] 44 1 0)) Tr.nil) (some (AObj.cells [Value.int IntKind.i64 (Int.ofNat 0), Value.int IntKind.i64 (Int.ofNat 0)] 44 0 0)) (Tr.node Tr.nil (some (AObj.siter b (Nat.add k (m_width b k)))) Tr.nil)) Tr.nil) else CR.fail 420 else kx 0 [(18, Value.bool false)] (Tr.node (Tr.node (Tr.node (Tr.node Tr.nil (some v7) Tr.nil) (some (Value.int IntKind.i64 (Int.ofNat 0))) Tr.nil) none (Tr.node (Tr.node (Tr.node Tr.nil (some (Value.tuple (Array.mk [Value.bool false]))) Tr.nil) none Tr.nil) (some (Value.pointer (some (Addr.mk 1 0 none)))) Tr.nil)) (some (Value.string b)) (Tr.node (Tr.node (Tr.node (Tr.node Tr.nil (some (Value.pointer (some (Addr.mk 2 0 none)))) Tr.nil) none Tr.nil) (some (Value.int IntKind.i64 e)) Tr.nil) (some (Value.pointer (some (Addr.mk 0 0 none)))) Tr.nil)) [] (AW.mk 3 (Tr.node (Tr.node Tr.nil (some (AObj.cells [Value.int IntKind.i64 p, Value.int IntKind.i64 q] 44 1 0)) Tr.nil) (some (AObj.cells [Value.int IntKind.i64 (Int.ofNat 0), Value.int IntKind.i64 (Int.ofNat 0)] 44 0 0)) (Tr.node Tr.nil (some (AObj.siter b k)) Tr.nil)) Tr.nil) := by kernel_rfl

theorem rdC (r : Mem) (L : Nat) (fs : FnsC) (b : ByteArray) (e : Int) (o7 u : Tr Value) (k : Nat) (p q : Int) (s : List (Nat × Value)) (kn : KS) (kx : Nat → KS) (kr : KS) : run (SC r) 196799 28 L (rc (rc (rc (rc cRd)))) fs none kn kx kr s (TRd b e o7 u) [] (ARd b k p q) =
    kr [(27, Value.agg (Array.mk [Value.int IntKind.i64 p, Value.int IntKind.i64 q]))] (Tr.node (Tr.node (Tr.node o7 (some (Value.int IntKind.i64 (Int.ofNat 0))) Tr.nil) none (Tr.node u (some (Value.pointer (some (Addr.mk 1 0 none)))) Tr.nil)) (some (Value.string b)) (Tr.node (Tr.node (Tr.node (Tr.node Tr.nil (some (Value.pointer (some (Addr.mk 2 0 none)))) Tr.nil) none Tr.nil) (some (Value.int IntKind.i64 e)) Tr.nil) (some (Value.pointer (some (Addr.mk 0 0 none)))) Tr.nil)) [] (AW.mk 3 (Tr.node (Tr.node Tr.nil (some (AObj.cells [Value.int IntKind.i64 p, Value.int IntKind.i64 q] 44 1 0)) Tr.nil) (some (AObj.cells [Value.int IntKind.i64 p, Value.int IntKind.i64 q] 44 0 0)) (Tr.node Tr.nil (some (AObj.siter b k)) Tr.nil)) Tr.nil) := by kernel_rfl

end Go.Proofs

/- Numbers: greatest divisors, inverses by a modulus, as the loops find them. -/
namespace Go.Num

/-- Euclid, by rests that may be negative. -/
def euc (d l : Int) : Int := if _h : l = 0 then d else euc l (d.tmod l)
termination_by l.natAbs
decreasing_by
  rw [Int.natAbs_tmod]
  exact Nat.mod_lt _ (by omega)

theorem gcd_tmod (d l : Int) : Int.gcd l (d.tmod l) = Int.gcd d l := by
  rw [Int.gcd_eq_natAbs_gcd_natAbs, Int.natAbs_tmod, Int.gcd_comm d l, Int.gcd_eq_natAbs_gcd_natAbs, Nat.gcd_comm, ← Nat.gcd_rec]

theorem euc_gcd (d l : Int) : (euc d l).natAbs = Int.gcd d l := by
  induction d, l using euc.induct with
  | case1 d => rw [euc, dif_pos rfl]; simp
  | case2 d l h ih => rw [euc, dif_neg h, ih, gcd_tmod]

/-- The same, as long as the rest is greater than 0. -/
def gcdP (a b : Int) : Int := if _h : b > 0 then gcdP b (a.tmod b) else a
termination_by b.toNat
decreasing_by
  have h1 := Int.tmod_lt_of_pos a _h
  omega

theorem gcdP_gcd (a b : Int) (ha : 0 ≤ a) (hb : 0 ≤ b) : gcdP a b = Int.gcd a b := by
  induction a, b using gcdP.induct with
  | case1 a b h ih =>
    rw [gcdP, dif_pos h, ih hb (Int.tmod_nonneg _ ha), gcd_tmod]
  | case2 a b h =>
    have : b = 0 := by omega
    subst this
    rw [gcdP, dif_neg h]; simp; omega

/-- A fraction. -/
def frac (p q : Int) : Bool := if q = 0 then decide (p = 1) else decide (q > 0) && (decide (euc p q = 1) || decide (euc p q = -1))

theorem frac_iff (p q : Int) : frac p q = true ↔ (q = 0 ∧ p = 1) ∨ (q > 0 ∧ Int.gcd p q = 1) := by
  unfold frac
  have := euc_gcd p q
  split
  · simp; omega
  · simp; omega

/-- The reference's fraction. -/
def fracR (p q : Int) : Bool := if q < 0 then false else if q = 0 then decide (p = 1) else decide (gcdP q (if p.tmod q < 0 then p.tmod q + q else p.tmod q) = 1)

theorem fracR_eq (p q : Int) : fracR p q = frac p q := by
  rw [Bool.eq_iff_iff, frac_iff]
  unfold fracR
  split
  · simp; omega
  · split
    · simp; omega
    · rename_i h1 h2
      have hq : q > 0 := by omega
      have e1 := Int.tmod_lt_of_pos p hq
      have e2 : -q < p.tmod q := by
        have : (p.tmod q).natAbs < q.natAbs := by rw [Int.natAbs_tmod]; exact Nat.mod_lt _ (by omega)
        omega
      have e3 : Int.gcd q (if p.tmod q < 0 then p.tmod q + q else p.tmod q) = Int.gcd p q := by
        split
        · rw [Int.gcd_add_self_right, gcd_tmod]
        · rw [gcd_tmod]
      rw [gcdP_gcd _ _ (by omega) (by split <;> omega), e3]
      simp; omega

/-- A link. -/
def link (p q : Int) : Bool := decide (q < p) && decide (p ≤ 1000000) && frac p q
def linkR (p q : Int) : Bool := decide (p ≥ 1) && decide (p ≤ 1000000) && decide (q ≥ 0) && decide (q < p) && decide (gcdP p q = 1)

theorem link_iff (p q : Int) : link p q = true ↔ 1 ≤ p ∧ p ≤ 1000000 ∧ 0 ≤ q ∧ q < p ∧ Int.gcd p q = 1 := by
  unfold link
  simp only [Bool.and_eq_true, frac_iff, decide_eq_true_eq]
  constructor
  · rintro ⟨⟨h1, h2⟩, (⟨rfl, rfl⟩ | ⟨h3, h4⟩)⟩
    · decide
    · exact ⟨by omega, h2, by omega, h1, h4⟩
  · rintro ⟨h1, h2, h3, h4, h5⟩
    refine ⟨⟨h4, h2⟩, ?_⟩
    by_cases hq : q = 0
    · subst hq
      simp at h5
      omega
    · exact .inr ⟨by omega, h5⟩

theorem linkR_eq (p q : Int) : linkR p q = link p q := by
  rw [Bool.eq_iff_iff, link_iff]
  unfold linkR
  simp only [Bool.and_eq_true, decide_eq_true_eq]
  constructor
  · rintro ⟨⟨⟨⟨h1, h2⟩, h3⟩, h4⟩, h5⟩
    rw [gcdP_gcd _ _ (by omega) h3] at h5
    exact ⟨h1, h2, h3, h4, by omega⟩
  · rintro ⟨h1, h2, h3, h4, h5⟩
    rw [gcdP_gcd _ _ (by omega) h3, h5]
    exact ⟨⟨⟨⟨h1, h2⟩, h3⟩, h4⟩, rfl⟩

/-- The factor of the first of two numbers. -/
def fac (l n f g : Int) : Int := if _h : n > 0 then fac n (l - l.tdiv n * n) g (f - l.tdiv n * g) else f
termination_by n.toNat
decreasing_by
  have h1 := Int.tmod_lt_of_pos l _h
  have := Int.tmod_def l n
  have h2 : l.tdiv n * n = n * l.tdiv n := Int.mul_comm _ _
  omega

/-- What stays as it is on the way. -/
structure Inv (a m l n f g : Int) : Prop where
  l0 : 0 ≤ l
  n0 : 0 ≤ n
  sum : (0 ≤ f ∧ g ≤ 0 ∧ f * n - g * l = m) ∨ (f ≤ 0 ∧ 0 ≤ g ∧ g * l - f * n = m)
  lm : m ∣ a * f - l
  nm : m ∣ a * g - n
  gcd : Int.gcd l n = Int.gcd a m
  lt : 0 < l ∨ 0 < n

theorem Inv.start {a m : Int} (ha : 0 ≤ a) (hm : 0 < m) : Inv a m a m 1 0 :=
  ⟨ha, by omega, .inl ⟨by omega, by omega, by omega⟩, ⟨0, by omega⟩, ⟨-1, by omega⟩, rfl, .inr hm⟩

theorem Inv.step {a m l n f g : Int} (h : Inv a m l n f g) (hn : n > 0) : Inv a m n (l - l.tdiv n * n) g (f - l.tdiv n * g) := by
  obtain ⟨l0, n0, sum, lm, nm, gcd, lt⟩ := h
  have ht0 : 0 ≤ l.tdiv n := Int.tdiv_nonneg l0 n0
  have e : l - l.tdiv n * n = l.tmod n := by have := Int.tmod_def l n; rw [Int.mul_comm] at this; exact this.symm
  refine ⟨n0, ?_, ?_, nm, ?_, ?_, .inl hn⟩
  · rw [e]; exact Int.tmod_nonneg _ l0
  · generalize l.tdiv n = t at *
    rcases sum with ⟨h1, h2, h3⟩ | ⟨h1, h2, h3⟩
    · refine .inr ⟨h2, ?_, ?_⟩
      · have : t * g ≤ 0 := Int.mul_nonpos_of_nonneg_of_nonpos ht0 h2
        omega
      · grind
    · refine .inl ⟨h2, ?_, ?_⟩
      · have : 0 ≤ t * g := Int.mul_nonneg ht0 h2
        omega
      · grind
  · obtain ⟨u, hu⟩ := lm
    obtain ⟨v, hv⟩ := nm
    generalize l.tdiv n = t at *
    exact ⟨u - t * v, by grind⟩
  · rw [e, gcd_tmod, gcd]

theorem le_mul1 {x y : Int} (hx : 0 ≤ x) (hy : 1 ≤ y) : x ≤ x * y := by
  have := Int.mul_le_mul_of_nonneg_left hy hx
  omega

/-- Bounds on the way. -/
theorem Inv.bound {a m l n f g : Int} (h : Inv a m l n f g) (hn : n > 0) : -m ≤ f ∧ f ≤ m ∧ 0 ≤ l.tdiv n ∧ l.tdiv n ≤ l ∧ 0 ≤ l.tdiv n * n ∧ l.tdiv n * n ≤ l ∧ -m ≤ l.tdiv n * g ∧ l.tdiv n * g ≤ m := by
  obtain ⟨l0, n0, sum, lm, nm, gcd, lt⟩ := h
  have ht0 : 0 ≤ l.tdiv n := Int.tdiv_nonneg l0 n0
  have e : l.tdiv n * n + l.tmod n = l := Int.tdiv_mul_add_tmod l n
  have hr := Int.tmod_nonneg n l0
  have htl : l.tdiv n * n ≤ l := by omega
  have ht := le_mul1 ht0 (show (1:Int) ≤ n by omega)
  generalize l.tdiv n = t at *
  rcases sum with ⟨h1, h2, h3⟩ | ⟨h1, h2, h3⟩
  · have a1 := le_mul1 h1 (show (1:Int) ≤ n by omega)
    have a2 : 0 ≤ t * -g := Int.mul_nonneg ht0 (by omega)
    have a3 := le_mul1 a2 (show (1:Int) ≤ n by omega)
    have a4 : -g * (t * n) ≤ -g * l := Int.mul_le_mul_of_nonneg_left htl (by omega)
    have a5 : t * -g * n = -g * (t * n) := by grind
    have a6 : -g * l = -(g * l) := by grind
    have a7 : t * -g = -(t * g) := by grind
    have a8 : 0 ≤ -g * l := Int.mul_nonneg (by omega) l0
    have a9 : 0 ≤ f * n := Int.mul_nonneg h1 n0
    omega
  · have h1' : 0 ≤ -f := by omega
    have a1 := le_mul1 h1' (show (1:Int) ≤ n by omega)
    have a2 : 0 ≤ t * g := Int.mul_nonneg ht0 h2
    have a3 := le_mul1 a2 (show (1:Int) ≤ n by omega)
    have a4 : g * (t * n) ≤ g * l := Int.mul_le_mul_of_nonneg_left htl h2
    have a5 : t * g * n = g * (t * n) := by grind
    have a6 : -f * n = -(f * n) := by grind
    have a8 : 0 ≤ g * l := Int.mul_nonneg h2 l0
    have a9 : 0 ≤ -f * n := Int.mul_nonneg h1' n0
    omega

/-- The factor leaves the rest that it must. -/
theorem fac_inv {a m : Int} (l n f g : Int) (h : Inv a m l n f g) : ∃ g' l', Inv a m l' 0 (fac l n f g) g' := by
  induction l, n, f, g using fac.induct with
  | case1 l n f g hn ih =>
    rw [fac, dif_pos hn]
    exact ih (h.step hn)
  | case2 l n f g hn =>
    rw [fac, dif_neg hn]
    have : n = 0 := by have := h.n0; omega
    subst this
    exact ⟨g, l, h⟩

/-- The inverse of a by n. -/
def inv (a n : Int) : Int := (fac a n 1 0) % n

theorem inv_nonneg (a : Int) {n : Int} (h : 0 < n) : 0 ≤ inv a n := Int.emod_nonneg _ (by omega)
theorem inv_lt (a : Int) {n : Int} (h : 0 < n) : inv a n < n := Int.emod_lt_of_pos _ h

theorem inv_dvd {a n : Int} (ha : 0 ≤ a) (hn : 0 < n) (hg : Int.gcd a n = 1) : n ∣ a * inv a n - 1 := by
  obtain ⟨g', l', h⟩ := fac_inv a n 1 0 (Inv.start ha hn)
  have h1 := h.gcd
  rw [hg] at h1
  simp at h1
  have h2 : l' = 1 := by have := h.l0; omega
  subst h2
  obtain ⟨u, hu⟩ := h.lm
  have h3 := Int.emod_add_mul_ediv (fac a n 1 0) n
  exact ⟨u - a * ((fac a n 1 0) / n), by unfold inv; grind⟩

/-- There is one alone. -/
theorem inv_only {a n x : Int} (ha : 0 ≤ a) (hn : 0 < n) (hg : Int.gcd a n = 1) (h0 : 0 ≤ x) (h1 : x < n) (hx : n ∣ a * x - 1) : x = inv a n := by
  have hi := inv_dvd ha hn hg
  have hd : n ∣ a * (x - inv a n) := by
    obtain ⟨u, hu⟩ := hi
    obtain ⟨v, hv⟩ := hx
    exact ⟨v - u, by grind⟩
  have hd2 : n ∣ x - inv a n := by
    have : Int.gcd n a = 1 := by rw [Int.gcd_comm]; exact hg
    rw [← Int.gcd_eq_natAbs_left_iff_dvd, Int.gcd_mul_right_right_of_gcd_eq_one this] at hd
    exact Int.gcd_eq_natAbs_left_iff_dvd.1 hd
  have b1 := inv_nonneg a hn
  have b2 := inv_lt a hn
  obtain ⟨k, hk⟩ := hd2
  have hk0 : k = 0 := by
    by_cases c : k = 0
    · exact c
    · exfalso
      by_cases c1 : 0 < k
      · have := Int.mul_le_mul_of_nonneg_left (show (1:Int) ≤ k by omega) (show 0 ≤ n by omega)
        omega
      · have := Int.mul_le_mul_of_nonneg_left (show k ≤ -1 by omega) (show 0 ≤ n by omega)
        omega
  subst hk0
  omega

theorem inv_gcd {a n : Int} (ha : 0 ≤ a) (hn : 0 < n) (hg : Int.gcd a n = 1) : Int.gcd (inv a n) n = 1 := by
  obtain ⟨u, hu⟩ := inv_dvd ha hn hg
  rw [Int.gcd_eq_one_iff]
  intro c hc hn
  have h1 : c ∣ a * inv a n := Int.dvd_mul_of_dvd_right hc
  have h2 : c ∣ n * u := Int.dvd_mul_of_dvd_left hn
  have : (1:Int) = a * inv a n - n * u := by omega
  rw [this]
  exact Int.dvd_sub h1 h2

theorem inv_inv {a n : Int} (ha : 0 ≤ a) (han : a < n) (hg : Int.gcd a n = 1) : inv (inv a n) n = a := by
  have hn : 0 < n := by omega
  refine (inv_only (inv_nonneg a hn) hn (inv_gcd ha hn hg) ha han ?_).symm
  rw [Int.mul_comm]
  exact inv_dvd ha hn hg

/-- The second number of the first link. -/
def fst (p q : Int) : Int := min q (inv q p)

/-- Rests by products. -/
theorem rest_one {p x : Int} (hp : 1 < p) : x % p = 1 ↔ p ∣ x - 1 := by
  constructor
  · intro h
    exact ⟨x / p, by have := Int.emod_add_mul_ediv x p; omega⟩
  · rintro ⟨k, hk⟩
    have : x = 1 + p * k := by omega
    rw [this, Int.add_mul_emod_self_left]
    exact Int.emod_eq_of_lt (by omega) hp

/-- The reference's word on it: least x below q with the product, or q. -/
def fstR (p q : Int) (x : Int) : Int := if _h : x < q then (if (x * q).tmod p = (1:Int).tmod p then x else fstR p q (x + 1)) else q
termination_by (q - x).toNat
decreasing_by omega

theorem prod_iff {p q x : Int} (hp : 1 ≤ p) (hq : 0 ≤ q) (hx : 0 ≤ x) : (x * q).tmod p = (1:Int).tmod p ↔ p ∣ q * x - 1 := by
  have h0 : 0 ≤ x * q := Int.mul_nonneg hx hq
  rw [Int.tmod_eq_emod_of_nonneg h0, Int.tmod_eq_emod_of_nonneg (by omega : (0:Int) ≤ 1)]
  by_cases c : p = 1
  · subst c
    simp [Int.emod_one]
  · have : (1:Int) % p = 1 := Int.emod_eq_of_lt (by omega) (by omega)
    rw [this, rest_one (by omega), Int.mul_comm]

theorem fstR_eq {p q : Int} (hl : 0 ≤ q) (hp : q < p) (hg : Int.gcd q p = 1) : ∀ x, 0 ≤ x → x ≤ q → x ≤ inv q p → fstR p q x = fst p q := by
  have hp0 : 0 < p := by omega
  intro x
  induction x using fstR.induct p q with
  | case1 x h hc =>
    intro h0 h1 h2
    rw [fstR, dif_pos h, if_pos hc]
    rw [prod_iff (by omega) hl h0] at hc
    have := inv_only hl hp0 hg h0 (by omega) hc
    unfold fst
    omega
  | case2 x h hc ih =>
    intro h0 h1 h2
    rw [fstR, dif_pos h, if_neg hc]
    rw [prod_iff (by omega) hl h0] at hc
    refine ih (by omega) (by omega) ?_
    have : x ≠ inv q p := fun e => hc (e ▸ inv_dvd hl hp0 hg)
    omega
  | case3 x h =>
    intro h0 h1 h2
    rw [fstR, dif_neg h]
    unfold fst
    omega

theorem fst_nonneg {p q : Int} (h0 : 0 ≤ q) (h : q < p) : 0 ≤ fst p q := by
  have := inv_nonneg q (show 0 < p by omega)
  unfold fst
  omega

/-- The same links. -/
theorem fst_same {p q s : Int} (h0 : 0 ≤ q) (h1 : q < p) (hq : Int.gcd q p = 1) (h2 : 0 ≤ s) (h3 : s < p) (hs : Int.gcd s p = 1) : fst p q = fst p s ↔ p = 1 ∨ q = s ∨ (q * s).tmod p = 1 := by
  have hp : 0 < p := by omega
  have hqs : 0 ≤ q * s := Int.mul_nonneg h0 h2
  by_cases c : p = 1
  · subst c
    have : q = s := by omega
    subst this
    simp
  · have e : (q * s).tmod p = 1 ↔ s = inv q p := by
      rw [Int.tmod_eq_emod_of_nonneg hqs, rest_one (by omega)]
      constructor
      · intro h
        exact inv_only h0 hp hq h2 h3 h
      · rintro rfl
        exact inv_dvd h0 hp hq
    rw [e]
    have b1 := inv_inv h0 h1 hq
    have b2 := inv_inv h2 h3 hs
    have b3 := inv_nonneg q hp
    have b4 := inv_nonneg s hp
    constructor
    · intro h
      unfold fst at h
      by_cases c1 : q ≤ inv q p
      · by_cases c2 : s ≤ inv s p
        · exact .inr (.inl (by omega))
        · refine .inr (.inr ?_)
          have : q = inv s p := by omega
          rw [this, b2]
      · by_cases c2 : s ≤ inv s p
        · exact .inr (.inr (by omega))
        · refine .inr (.inl ?_)
          have : inv q p = inv s p := by omega
          rw [← b1, ← b2, this]
    · rintro (h | rfl | h)
      · exact absurd h c
      · rfl
      · unfold fst
        rw [h, b1]
        omega

theorem dvd_mul_cop {n a x : Int} (h : Int.gcd n a = 1) (hd : n ∣ a * x) : n ∣ x := by
  rw [← Int.gcd_eq_natAbs_left_iff_dvd, Int.gcd_mul_right_right_of_gcd_eq_one h] at hd
  exact Int.gcd_eq_natAbs_left_iff_dvd.1 hd

/-- What is closed is a link. -/
theorem close_gcd {p q r s u v : Int} (h : s * u - r * v = 1) (hg : Int.gcd p q = 1) : Int.gcd (p * s + q * r) (p * v + q * u) = 1 := by
  rw [Int.gcd_eq_one_iff] at hg ⊢
  intro c h1 h2
  refine hg c ?_ ?_
  · have e : p = u * (p * s + q * r) - r * (p * v + q * u) := by grind
    rw [e]
    exact Int.dvd_sub (Int.dvd_mul_of_dvd_right h1) (Int.dvd_mul_of_dvd_right h2)
  · have e : q = s * (p * v + q * u) - v * (p * s + q * r) := by grind
    rw [e]
    exact Int.dvd_sub (Int.dvd_mul_of_dvd_right h2) (Int.dvd_mul_of_dvd_right h1)

/-- It does not depend on the two numbers. -/
theorem close_any {p q r s u v u' v' : Int} (h : s * u - r * v = 1) (h' : s * u' - r * v' = 1) (hs : s ≠ 0) : (p * s + q * r) ∣ (p * v + q * u) - (p * v' + q * u') := by
  have hg : Int.gcd s r = 1 := by
    rw [Int.gcd_eq_one_iff]
    intro c h1 h2
    rw [← h]
    exact Int.dvd_sub (Int.dvd_mul_of_dvd_left h1) (Int.dvd_mul_of_dvd_left h2)
  have hd : s ∣ r * (v - v') := ⟨u - u', by grind⟩
  obtain ⟨k, hk⟩ := dvd_mul_cop hg hd
  have hu : u - u' = r * k := by
    have : s * (u - u') = s * (r * k) := by grind
    exact Int.eq_of_mul_eq_mul_left hs this
  exact ⟨k, by grind⟩

theorem rest_same {n a b : Int} (h : n ∣ a - b) : a % n = b % n := by
  obtain ⟨k, hk⟩ := h
  have : a = b + n * k := by omega
  rw [this, Int.add_mul_emod_self_left]

end Go.Num

/- Words: descents, their inverses, what they lead to. -/
namespace Go.Proofs
open Go Go.Ev Go.Num

/-- A fraction. -/
def Fr (p q : Int) : Prop := (0 < q ∨ (q = 0 ∧ p = 1)) ∧ Int.gcd p q = 1
theorem fr_frac (p q : Int) : frac p q = true ↔ Fr p q := by
  rw [frac_iff]
  unfold Fr
  constructor
  · rintro (⟨rfl, rfl⟩ | ⟨h1, h2⟩)
    · exact ⟨.inr ⟨rfl, rfl⟩, rfl⟩
    · exact ⟨.inl h1, h2⟩
  · rintro ⟨h1 | ⟨rfl, rfl⟩, h2⟩
    · exact .inr ⟨h1, h2⟩
    · exact .inl ⟨rfl, rfl⟩
theorem Fr.zero {p q : Int} (h : Fr p q) (hp : p = 0) : q = 1 := by
  obtain ⟨h1, h2⟩ := h
  subst hp
  rw [Int.gcd_zero_left] at h2
  omega
theorem Fr.low {p q : Int} (h : Fr p q) : 0 ≤ q := by have := h.1; omega

/-- What a letter makes of a fraction. -/
def aft (v : UInt8) (p q : Int) : Int × Int :=
  if v.toNat = 116 then (p + q, q) else if v.toNat = 84 then (p - q, q) else if p > 0 then (-q, p) else (q, -p)

theorem step_aft {v : UInt8} {p q : Int} (hv : okL v = true) (h : Fr p q) : stepV v p q = aft v p q := by
  have h0 := h.zero
  obtain ⟨h1, h2⟩ := h
  simp only [okL, Bool.or_eq_true, beq_iff_eq] at hv
  unfold stepV aft
  split
  · split
    · rfl
    · have : q = 0 := by omega
      subst this; simp
  · split
    · split
      · rfl
      · have : q = 0 := by omega
        subst this; simp
    · rw [if_pos (by omega)]
      split
      · rw [if_neg (by omega)]
      · split
        · split
          · rename_i h6; subst h6; have : p = 1 := by omega
            subst this; rfl
          · rfl
        · have hp : p = 0 := by omega
          have := h0 hp
          subst hp; subst this; rfl

theorem aft_fr {v : UInt8} {p q : Int} (h : Fr p q) : Fr (aft v p q).1 (aft v p q).2 := by
  have h0 := h.zero
  obtain ⟨h1, h2⟩ := h
  unfold aft
  split
  · refine ⟨?_, ?_⟩
    · show 0 < q ∨ (q = 0 ∧ p + q = 1); omega
    · show Int.gcd (p + q) q = 1; rw [Int.gcd_add_self_left]; exact h2
  · split
    · refine ⟨?_, ?_⟩
      · show 0 < q ∨ (q = 0 ∧ p - q = 1); omega
      · show Int.gcd (p - q) q = 1; rw [Int.gcd_sub_self_left]; exact h2
    · split
      · refine ⟨?_, ?_⟩
        · show 0 < p ∨ (p = 0 ∧ -q = 1); omega
        · show Int.gcd (-q) p = 1; rw [Int.neg_gcd, Int.gcd_comm]; exact h2
      · refine ⟨?_, ?_⟩
        · show 0 < -p ∨ (-p = 0 ∧ q = 1); omega
        · show Int.gcd q (-p) = 1; rw [Int.gcd_neg, Int.gcd_comm]; exact h2

/-- The letter of a descent. -/
def dl (p q : Int) : UInt8 := if q = 0 ∨ (-q < p ∧ p < q) then 114 else if p > 0 then 84 else 116
def desc : Nat → Int → Int → List UInt8
  | 0, _, _ => []
  | n + 1, p, q => if p = 0 ∧ q = 1 then [] else dl p q :: desc n (aft (dl p q) p q).1 (aft (dl p q) p q).2
def meas (p q : Int) : Nat := if p = 0 then 0 else if p.natAbs < q.natAbs then 2 * (p.natAbs + q.natAbs) + 1 else 2 * (p.natAbs + q.natAbs)
/-- A descent. -/
def D (p q : Int) : List UInt8 := desc (meas p q) p q

theorem dl_cases (p q : Int) : (dl p q = 114 ∧ (q = 0 ∨ (-q < p ∧ p < q))) ∨ (dl p q = 84 ∧ ¬ (q = 0 ∨ (-q < p ∧ p < q)) ∧ p > 0) ∨ (dl p q = 116 ∧ ¬ (q = 0 ∨ (-q < p ∧ p < q)) ∧ ¬ p > 0) := by
  unfold dl
  by_cases h : q = 0 ∨ (-q < p ∧ p < q)
  · rw [if_pos h]; exact .inl ⟨rfl, h⟩
  · rw [if_neg h]
    by_cases h2 : p > 0
    · rw [if_pos h2]; exact .inr (.inl ⟨rfl, h, h2⟩)
    · rw [if_neg h2]; exact .inr (.inr ⟨rfl, h, h2⟩)
theorem aft_r (p q : Int) : aft 114 p q = if p > 0 then (-q, p) else (q, -p) := rfl
theorem aft_T (p q : Int) : aft 84 p q = (p - q, q) := rfl
theorem aft_t (p q : Int) : aft 116 p q = (p + q, q) := rfl

theorem meas_dec {p q : Int} (h : Fr p q) (hn : ¬ (p = 0 ∧ q = 1)) : meas (aft (dl p q) p q).1 (aft (dl p q) p q).2 < meas p q := by
  have h0 := h.zero
  obtain ⟨h1, -⟩ := h
  have hp : p ≠ 0 := fun e => hn ⟨e, h0 e⟩
  unfold meas
  rw [if_neg hp]
  rcases dl_cases p q with ⟨e, h2⟩ | ⟨e, h2, h3⟩ | ⟨e, h2, h3⟩
  · rw [e, aft_r]
    by_cases c : p > 0
    · rw [if_pos c]
      show (if -q = 0 then 0 else if (-q).natAbs < p.natAbs then _ else _) < _
      split <;> (repeat' split) <;> omega
    · rw [if_neg c]
      show (if q = 0 then 0 else if q.natAbs < (-p).natAbs then _ else _) < _
      split <;> (repeat' split) <;> omega
  · rw [e, aft_T]
    show (if p - q = 0 then 0 else if (p - q).natAbs < q.natAbs then _ else _) < _
    split <;> (repeat' split) <;> omega
  · rw [e, aft_t]
    show (if p + q = 0 then 0 else if (p + q).natAbs < q.natAbs then _ else _) < _
    split <;> (repeat' split) <;> omega

theorem desc_fuel : ∀ (n m : Nat) (p q : Int), Fr p q → meas p q ≤ n → meas p q ≤ m → desc n p q = desc m p q := by
  have hz : ∀ (m : Nat) (p q : Int), Fr p q → meas p q = 0 → desc m p q = [] := fun m p q h h1 => by
    have hp : p = 0 := by
      unfold meas at h1
      by_cases c : p = 0
      · exact c
      · rw [if_neg c] at h1; split at h1 <;> omega
    have hq := h.zero hp
    subst hp; subst hq
    cases m <;> rfl
  intro n
  induction n with
  | zero => intro m p q h h1 h2; rw [hz m p q h (by omega)]; rfl
  | succ n ih =>
    intro m p q h h1 h2
    cases m with
    | zero => rw [hz (n + 1) p q h (by omega)]; rfl
    | succ m =>
      simp only [desc]
      split
      · rfl
      · rename_i c
        have := meas_dec h c
        rw [ih m _ _ (aft_fr h) (by omega) (by omega)]

theorem D_nil : D 0 1 = [] := rfl
theorem D_cons {p q : Int} (h : Fr p q) (hn : ¬ (p = 0 ∧ q = 1)) : D p q = dl p q :: D (aft (dl p q) p q).1 (aft (dl p q) p q).2 := by
  have hd := meas_dec h hn
  unfold D
  obtain ⟨k, hk⟩ : ∃ k, meas p q = k + 1 := ⟨meas p q - 1, by omega⟩
  rw [hk]
  simp only [desc, if_neg hn]
  rw [desc_fuel k (meas (aft (dl p q) p q).1 (aft (dl p q) p q).2) _ _ (aft_fr h) (by omega) (by omega)]

theorem desc_len : ∀ (n : Nat) (p q : Int), (desc n p q).length ≤ n
  | 0, _, _ => Nat.le_refl _
  | n + 1, p, q => by
    simp only [desc]
    split
    · simp
    · have := desc_len n (aft (dl p q) p q).1 (aft (dl p q) p q).2
      simp only [List.length_cons]; omega
theorem D_len {p q : Int} (h : Fr p q) (hp1 : -500 ≤ p) (hp2 : p ≤ 500) (hq : q ≤ 500) : (D p q).length ≤ 2000 := by
  have := desc_len (meas p q) p q
  have h1 := h.1
  unfold D
  have : meas p q ≤ 2000 := by
    unfold meas
    repeat' split
    all_goals omega
  omega
theorem dl_ok (p q : Int) : okL (dl p q) = true := by
  unfold dl
  repeat' split
  all_goals rfl
theorem desc_ok : ∀ (n : Nat) (p q : Int), ∀ v ∈ desc n p q, okL v = true
  | 0, _, _, v, h => by cases h
  | n + 1, p, q, v, h => by
    simp only [desc] at h
    split at h
    · cases h
    · rcases List.mem_cons.1 h with rfl | h
      · exact dl_ok p q
      · exact desc_ok n _ _ v h
theorem D_ok (p q : Int) : ∀ v ∈ D p q, okL v = true := desc_ok _ p q

theorem dl_small {p q : Int} (h : Fr p q) {N : Int} (h1 : -N ≤ p) (h2 : p ≤ N) (h3 : q ≤ N) : -N ≤ (aft (dl p q) p q).1 ∧ (aft (dl p q) p q).1 ≤ N ∧ (aft (dl p q) p q).2 ≤ N := by
  have h4 := h.1
  rcases dl_cases p q with ⟨e, h5⟩ | ⟨e, h5, h6⟩ | ⟨e, h5, h6⟩
  · rw [e, aft_r]
    by_cases c : p > 0
    · rw [if_pos c]; exact ⟨by show -N ≤ -q; omega, by show -q ≤ N; omega, h2⟩
    · rw [if_neg c]; exact ⟨by show -N ≤ q; omega, h3, by show -p ≤ N; omega⟩
  · rw [e, aft_T]; exact ⟨by show -N ≤ p - q; omega, by show p - q ≤ N; omega, h3⟩
  · rw [e, aft_t]; exact ⟨by show -N ≤ p + q; omega, by show p + q ≤ N; omega, h3⟩

theorem big_no {p q : Int} (h1 : -500 ≤ p) (h2 : p ≤ 500) (h3 : q ≤ 500) : bigV (p, q) = false := by
  simp only [bigV, Bool.or_eq_false_iff, decide_eq_false_iff_not]
  exact ⟨⟨by show ¬ p > _; omega, by show ¬ p < _; omega⟩, by show ¬ q > _; omega⟩

theorem goV_cons {v : UInt8} {l : List UInt8} {p q : Int} (hv : okL v = true) (h : Fr p q) : goV (v :: l) p q = if bigV (aft v p q) = true then (0, 0, false) else goV l (aft v p q).1 (aft v p q).2 := by
  rw [goV, step_aft hv h]

/-- A descent leads to 0. -/
theorem goV_D : ∀ (n : Nat) (p q : Int), meas p q ≤ n → Fr p q → -500 ≤ p → p ≤ 500 → q ≤ 500 → goV (D p q) p q = (0, 1, true) := by
  intro n
  induction n with
  | zero =>
    intro p q hm h _ _ _
    by_cases c : p = 0 ∧ q = 1
    · rw [c.1, c.2]; rfl
    · have := meas_dec h c; omega
  | succ n ih =>
    intro p q hm h h1 h2 h3
    by_cases c : p = 0 ∧ q = 1
    · rw [c.1, c.2]; rfl
    · have hd := meas_dec h c
      obtain ⟨b1, b2, b3⟩ := dl_small h h1 h2 h3
      have hb : bigV (aft (dl p q) p q) = false := big_no b1 b2 b3
      rw [D_cons h c, goV_cons (dl_ok p q) h, if_neg (by rw [hb]; decide)]
      exact ih _ _ (by omega) (aft_fr h) b1 b2 b3

/-- The letter that takes back. -/
def opp (v : UInt8) : UInt8 := if v.toNat = 116 then 84 else if v.toNat = 84 then 116 else v
def und (l : List UInt8) : List UInt8 := (l.map opp).reverse
theorem opp_ok {v : UInt8} (h : okL v = true) : okL (opp v) = true := by
  unfold opp
  split
  · rfl
  · split
    · rfl
    · exact h
theorem und_ok {l : List UInt8} (h : ∀ v ∈ l, okL v = true) : ∀ v ∈ und l, okL v = true := fun v hv => by
  simp only [und, List.mem_reverse, List.mem_map] at hv
  obtain ⟨w, hw, rfl⟩ := hv
  exact opp_ok (h w hw)
theorem und_len (l : List UInt8) : (und l).length = l.length := by simp [und]

theorem aft_opp {v : UInt8} {p q : Int} (hv : okL v = true) (h : Fr p q) : aft (opp v) (aft v p q).1 (aft v p q).2 = (p, q) := by
  have h0 := h.zero
  obtain ⟨h1, -⟩ := h
  simp only [okL, Bool.or_eq_true, beq_iff_eq] at hv
  by_cases c1 : v.toNat = 116
  · have : opp v = 84 := by simp [opp, c1]
    rw [this, aft_T]
    simp only [aft, c1, if_true]
    simp
  · by_cases c2 : v.toNat = 84
    · have : opp v = 116 := by simp [opp, c2]
      rw [this, aft_t]
      simp only [aft, c2, if_true]
      simp
    · have : opp v = v := by simp [opp, c1, c2]
      rw [this]
      simp only [aft, c1, c2, if_false]
      by_cases c : p > 0
      · simp only [c, if_true]
        rw [if_neg (by omega)]
        simp
      · simp only [c, if_false]
        rw [if_pos (by omega)]
        simp

theorem goV_app : ∀ (l m : List UInt8) (p q : Int), (goV l p q).2.2 = true → goV (l ++ m) p q = goV m (goV l p q).1 (goV l p q).2.1
  | [], _, _, _, _ => rfl
  | v :: l, m, p, q, h => by
    rw [List.cons_append, goV, goV] at *
    by_cases c : bigV (stepV v p q) = true
    · rw [if_pos c] at h; cases h
    · rw [if_neg c] at h
      rw [if_neg c, if_neg c]
      exact goV_app l m _ _ h

/-- Back from 0. -/
theorem goV_und : ∀ (n : Nat) (p q : Int), meas p q ≤ n → Fr p q → -500 ≤ p → p ≤ 500 → q ≤ 500 → goV (und (D p q)) 0 1 = (p, q, true) := by
  intro n
  induction n with
  | zero =>
    intro p q hm h _ _ _
    by_cases c : p = 0 ∧ q = 1
    · rw [c.1, c.2]; rfl
    · have := meas_dec h c; omega
  | succ n ih =>
    intro p q hm h h1 h2 h3
    by_cases c : p = 0 ∧ q = 1
    · rw [c.1, c.2]; rfl
    · have hd := meas_dec h c
      obtain ⟨b1, b2, b3⟩ := dl_small h h1 h2 h3
      have hi := ih _ _ (by omega) (aft_fr h) b1 b2 b3
      have hu : und (D p q) = und (D (aft (dl p q) p q).1 (aft (dl p q) p q).2) ++ [opp (dl p q)] := by
        rw [D_cons h c]; simp [und]
      have ha := aft_opp (dl_ok p q) h
      rw [hu, goV_app _ _ _ _ (by rw [hi]), hi]
      show goV [opp (dl p q)] (aft (dl p q) p q).1 (aft (dl p q) p q).2 = _
      rw [goV_cons (opp_ok (dl_ok p q)) (aft_fr h), ha, if_neg (by rw [big_no h1 h2 h3]; decide)]
      rfl

/-- All steps, large or not. -/
def goA : List UInt8 → Int → Int → Int × Int
  | [], p, q => (p, q)
  | v :: l, p, q => goA l (aft v p q).1 (aft v p q).2
theorem goA_fr : ∀ (l : List UInt8) {p q : Int}, Fr p q → Fr (goA l p q).1 (goA l p q).2
  | [], _, _, h => h
  | _ :: l, _, _, h => goA_fr l (aft_fr h)
theorem goV_goA : ∀ (l : List UInt8) {p q : Int}, (∀ v ∈ l, okL v = true) → Fr p q → (goV l p q).2.2 = true → goV l p q = ((goA l p q).1, (goA l p q).2, true)
  | [], _, _, _, _, _ => rfl
  | v :: l, p, q, ho, h, ht => by
    rw [goV_cons (ho v (.head _)) h] at *
    by_cases c : bigV (aft v p q) = true
    · rw [if_pos c] at ht; cases ht
    · rw [if_neg c] at ht
      rw [if_neg c]
      exact goV_goA l (fun w hw => ho w (.tail _ hw)) (aft_fr h) ht
theorem goV_fr {l : List UInt8} {p q : Int} (ho : ∀ v ∈ l, okL v = true) (h : Fr p q) (ht : (goV l p q).2.2 = true) : Fr (goV l p q).1 (goV l p q).2.1 := by
  rw [goV_goA l ho h ht]; exact goA_fr l h

theorem turn2 {p q : Int} (h : Fr p q) : goA [114, 114] p q = (p, q) := aft_opp (v := 114) rfl h
theorem turn_tT {p q : Int} (h : Fr p q) : goA [116, 84] p q = (p, q) := aft_opp (v := 116) rfl h
theorem turn_Tt {p q : Int} (h : Fr p q) : goA [84, 116] p q = (p, q) := aft_opp (v := 84) rfl h
theorem turn3 {p q : Int} (h : Fr p q) : goA [116, 114, 116, 114, 116, 114] p q = (p, q) := by
  have h1 : Fr (p + q) q := aft_fr (v := 116) h
  have z1 := h1.zero
  have z := h.zero
  have l1 := h.1
  show aft 114 (aft 116 (aft 114 (aft 116 (aft 114 (p + q) q).1 (aft 114 (p + q) q).2).1 (aft 116 (aft 114 (p + q) q).1 (aft 114 (p + q) q).2).2).1 _).1 _ = _
  simp only [aft_t, aft_r]
  by_cases c1 : p + q > 0
  · simp only [if_pos c1]
    by_cases c2 : -q + (p + q) > 0
    · simp only [if_pos c2]
      rw [if_neg (by omega)]
      ext <;> simp <;> omega
    · simp only [if_neg c2]
      by_cases c3 : p + q + -(-q + (p + q)) > 0
      · rw [if_pos c3]
        ext <;> simp <;> omega
      · rw [if_neg c3]
        ext <;> simp <;> omega
  · simp only [if_neg c1]
    by_cases c2 : q + -(p + q) > 0
    · simp only [if_pos c2]
      by_cases c3 : -(-(p + q)) + (q + -(p + q)) > 0
      · rw [if_pos c3]
        ext <;> simp <;> omega
      · rw [if_neg c3]
        ext <;> simp <;> omega
    · simp only [if_neg c2]
      by_cases c3 : -(p + q) + -(q + -(p + q)) > 0
      · rw [if_pos c3]
        ext <;> simp <;> omega
      · rw [if_neg c3]
        ext <;> simp <;> omega

end Go.Proofs

/- The program's values of words: what the calls answer. -/
namespace Go.Proofs
open Go Go.Ev Go.Num

theorem after_ok (r : Mem) (p q a : Int) (h : m_bnd p q = true) : GrT Tryd.prog r 30 [FV p q, .int .i32 a] (FV (m_afP p q a) (m_afQ p q a)) :=
  GrT.of (SC_ok r) TOk.nil .nil rfl ⟨1, 2, by
    simp only [m_bnd, Bool.and_eq_true, decide_eq_true_eq] at h
    rw [afA]
    have w1 : IntKind.wrap IntKind.i64 (p + q) = p + q := wrI (by omega)
    have w2 : IntKind.wrap IntKind.i64 (p - q) = p - q := wrI (by omega)
    have w3 : IntKind.wrap IntKind.i64 (Int.ofNat 0 - p) = -p := by rw [wrI (by simp; omega)]; simp
    have w4 : IntKind.wrap IntKind.i64 (Int.ofNat 0 - q) = -q := by rw [wrI (by simp; omega)]; simp
    rw [w1, w2, w3, w4]
    unfold m_afP m_afQ
    by_cases h1 : a = 116
    · rw [eqT (show a = Int.ofNat 116 from h1), if_pos h1, if_pos h1]; rfl
    · rw [eqF (show a ≠ Int.ofNat 116 from h1), if_neg h1, if_neg h1]
      by_cases h2 : a = 84
      · rw [eqT (show a = Int.ofNat 84 from h2), if_pos h2, if_pos h2]; rfl
      · rw [eqF (show a ≠ Int.ofNat 84 from h2), if_neg h2, if_neg h2]
        by_cases h3 : p > 0
        · rw [dT h3, if_pos h3, if_pos h3]; rfl
        · rw [dF h3, if_neg h3, if_neg h3]; rfl⟩
theorem afterE_ok (r : Mem) : EOk (SC r) 30 eAft := EOk.ent fun args A hg => by
  split at hg
  · exact (after_ok r _ _ _ hg).ro rfl A
  · cases hg
theorem within_ok (r : Mem) (p q m : Int) (h : (decide (0 ≤ m) && decide (m ≤ 9223372036854775807)) = true) : GrT Tryd.prog r 19 [FV p q, I m] (.bool (m_iw p q m)) :=
  GrT.of (SC_ok r) TOk.nil .nil rfl ⟨1, 1, by
    simp only [Bool.and_eq_true, decide_eq_true_eq] at h
    rw [iwA]
    have w3 : IntKind.wrap IntKind.i64 (Int.ofNat 0 - m) = -m := by rw [wrI (by simp; omega)]; simp
    rw [w3]
    unfold m_iw
    cases decide (-m ≤ p) <;> cases decide (p ≤ m) <;> cases decide (q ≤ m) <;> rfl⟩
theorem tRd_ok (r : Mem) : TOk (SC r) tRd :=
  TOk.cons (TOk.cons (TOk.cons TOk.nil (eA1I_ok fun p q m h => within_ok r p q m h)) (afterE_ok r)) (eS1_ok fun b _ => check_ok r b)

theorem iw_big (w : Int × Int) : m_iw w.1 w.2 (Int.ofNat 1000000000000000) = !bigV w := by
  unfold m_iw bigV
  rw [Bool.eq_iff_iff]
  simp
  omega
theorem af_aft (v : UInt8) (p q : Int) : m_afP p q (Int.ofNat v.toNat) = (aft v p q).1 ∧ m_afQ p q (Int.ofNat v.toNat) = (aft v p q).2 := by
  have e1 : (Int.ofNat v.toNat = 116) ↔ v.toNat = 116 := by simp; omega
  have e2 : (Int.ofNat v.toNat = 84) ↔ v.toNat = 84 := by simp; omega
  unfold m_afP m_afQ aft
  simp only [e1, e2]
  repeat' split
  all_goals exact ⟨rfl, rfl⟩

theorem rd_loop (r : Mem) (L : Nat) (tm : Tr Nat) (kx : Nat → KS) (kr : KS) (b : ByteArray) (e : Int) (V : Int × Int × Bool) (R : CR)
    (hT : V.2.2 = true → ∀ s o7 u k, kx 0 s (TRd b e o7 u) [] (ARd b k V.1 V.2.1) = R)
    (hF : V = (0, 0, false) → ∀ s o7 u x z A, A.heap = Tr.node x (some (AObj.cells [I 0, I 0] 44 0 0)) z → True → kr s (Tr.node (Tr.node (Tr.node o7 (some (Value.int IntKind.i64 (Int.ofNat 12))) Tr.nil) none (Tr.node u (some (Value.pointer (some (Addr.mk 1 0 none)))) Tr.nil)) (some (Value.string b)) (Tr.node (Tr.node (Tr.node (Tr.node Tr.nil (some (Value.pointer (some (Addr.mk 2 0 none)))) Tr.nil) none Tr.nil) (some (Value.int IntKind.i64 e)) Tr.nil) (some (Value.pointer (some (Addr.mk 0 0 none)))) Tr.nil)) [] A = R) :
    ∀ (j k : Nat) (p q : Int) (s : List (Nat × Value)), k ≤ b.data.toList.length → b.data.toList.length - k < j → Fr p q →
    -1000000000000000 ≤ p → p ≤ 1000000000000000 → q ≤ 1000000000000000 → (∀ v ∈ b.data.toList.drop k, okL v = true) → goV (b.data.toList.drop k) p q = V →
    cLoop (fun kl => run (SC r) 196799 28 L (ic (ic (rc (lc (rc (rc (rc cRd))))))) (lvlT (SC r) tRd tm L 0) none kl kx kr) j s (TRd b e .nil .nil) [] (ARd b k p q) = R ∧
    ∀ v7 v17, cLoop (fun kl => run (SC r) 196799 28 L (ic (ic (rc (lc (rc (rc (rc cRd))))))) (lvlT (SC r) tRd tm L 0) none kl kx kr) j s (TRd b e (oRd7 v7) (oRd17 v17)) [] (ARd b k p q) = R := by
  intro j
  have hlen : b.data.toList.length = b.size := Array.length_toList
  induction j with
  | zero => intro k p q s _ h; omega
  | succ j ih =>
    intro k p q s hk hj hfr h1 h2 h3 hok hV
    rw [cLoop_succ]
    by_cases c : k < b.data.toList.length
    · have c1 : Nat.blt k b.size = true := Nat.ble_eq_true_of_le (by omega)
      rw [List.drop_eq_getElem_cons c] at hV hok
      have hl := hok _ (.head _)
      have hb : m_bnd p q = true := by
        have := hfr.low
        simp only [m_bnd, Bool.and_eq_true, decide_eq_true_eq]; omega
      have hlt : b.data.toList[k].toNat < 128 := by
        simp only [okL, Bool.or_eq_true, beq_iff_eq] at hl; omega
      obtain ⟨e1, e2⟩ := rune_lo b k c hlt
      obtain ⟨a1, a2⟩ := af_aft b.data.toList[k] p q
      rw [goV_cons hl hfr] at hV
      have hw : Nat.add k (m_width b k) = k + 1 := by rw [e2]
      cases hbg : bigV (aft b.data.toList[k] p q) with
      | true =>
        rw [if_pos hbg] at hV
        refine ⟨?_, fun v7 v17 => ?_⟩
        · rw [rdB1, c1, hb, e1, a1, a2, iw_big, hbg, cond_true, cond_true, Bool.not_true, cond_false]
          exact hF hV.symm _ _ _ _ _ _ rfl trivial
        · rw [rdB2, c1, hb, e1, a1, a2, iw_big, hbg, cond_true, cond_true, Bool.not_true, cond_false]
          exact hF hV.symm _ _ _ _ _ _ rfl trivial
      | false =>
        rw [if_neg (by rw [hbg]; decide)] at hV
        have hno := bigV_no hbg
        have hi := fun s => (ih (k + 1) _ _ s (by omega) (by omega) (aft_fr hfr) hno.2.1 hno.1 hno.2.2 (fun v hv => hok v (.tail _ hv)) hV).2
        refine ⟨?_, fun v7 v17 => ?_⟩
        · rw [rdB1, c1, hb, e1, a1, a2, iw_big, hbg, cond_true, cond_true, Bool.not_false, cond_true, hw]
          exact hi _ _ _
        · rw [rdB2, c1, hb, e1, a1, a2, iw_big, hbg, cond_true, cond_true, Bool.not_false, cond_true, hw]
          exact hi _ _ _
    · have c1 : Nat.blt k b.size = false := by
        cases h : Nat.blt k b.size with
        | false => rfl
        | true =>
          have : k + 1 ≤ b.size := Nat.le_of_ble_eq_true h
          omega
      rw [List.drop_eq_nil_of_le (by omega), goV] at hV
      subst hV
      refine ⟨?_, fun v7 v17 => ?_⟩
      · rw [rdB1, c1, cond_false]
        exact hT rfl _ _ (oRd17 _) _
      · rw [rdB2, c1, cond_false]
        exact hT rfl _ (oRd7 _) (oRd17 _) _

theorem cRd_eq : cRd = .seq (lc cRd) (.seq (lc (rc cRd)) (.seq (lc (rc (rc cRd))) (.seq (.seq (lc (lc (rc (rc (rc cRd))))) (.block 0 (.loop (ic (ic (rc (lc (rc (rc (rc cRd)))))))))) (rc (rc (rc (rc cRd))))))) := by kernel_rfl
def mskRd : Tr Nat := Tr.nil.put 18 (some 196799)

def m_rdB (b : ByteArray) : Bool := (m_rck b == 0) && m_rvB b 0 1
def m_rdE (b : ByteArray) : Int := if m_rck b = 0 then (if m_rvB b 0 1 = true then 0 else 12) else m_rck b
def m_rdP (b : ByteArray) : Int := if m_rdB b = true then m_rvP b 0 1 else 0
def m_rdQ (b : ByteArray) : Int := if m_rdB b = true then m_rvQ b 0 1 else 0

theorem ck_word {b : ByteArray} (h : m_rck b = 0) : b.size ≤ 2000 ∧ m_rword b = true := by
  unfold m_rck at h
  by_cases c : b.size > 2000
  · rw [dT c, cond_true] at h; cases h
  · rw [dF c, cond_false] at h
    cases hw : m_rword b with
    | true => exact ⟨by omega, rfl⟩
    | false => rw [hw] at h; cases h
theorem word_ok {b : ByteArray} (h : m_rword b = true) : ∀ v ∈ b.data.toList, okL v = true := fun v hv => List.all_eq_true.1 h v hv

theorem fr01 : Fr 0 1 := ⟨.inl (by decide), rfl⟩

/-- The value of a word, or the error. -/
theorem read_ok (r : Mem) (hm : ∀ b j u, tabM b j = some u → r b j = some u) (b : ByteArray) : GrT Tryd.prog r 18 [.string b] (.tuple ⟨[FV (m_rdP b) (m_rdQ b), I (m_rdE b)]⟩) := by
  refine GrT.of (SC_ok r) (tRd_ok r) mskRd rfl ⟨b.data.toList.length + 1, 1, ?_⟩
  rw [enterN (m := 196799) (n := 28) (rs := [.cell 2 44, .tmp 3]) cRd rfl (by kernel_rfl) (by kernel_rfl) (by kernel_rfl) (by kernel_rfl) (by kernel_rfl) rfl]
  generalize hk : finK (SC r) 196799 [.cell 2 44, .tmp 3] fin = kr
  rw [cRd_eq, seqA, seqA, run_pre, run_while, rdA]
  by_cases c : m_rck b = 0
  · rw [neF (show m_rck b = Int.ofNat 0 from c), cond_false]
    have z0 : r 0 0 = some (I 0) := hm _ _ _ rfl
    have z1 : r 0 1 = some (I 1) := hm _ _ _ rfl
    rw [z0, z1]
    obtain ⟨hs, hw⟩ := ck_word c
    refine (rd_loop r _ _ _ _ b (m_rck b) (goV b.data.toList 0 1) _ ?_ ?_ _ 0 0 1 _ (by omega) (by omega) fr01 (by decide) (by decide) (by decide) (word_ok hw) rfl).1
    · intro hV s o7 u k
      refine (rdC r _ _ b (m_rck b) o7 u k _ _ s _ _ _).trans ?_
      have hB : m_rdB b = true := by simp only [m_rdB, c, m_rvB, hV]; rfl
      simp only [m_rdP, m_rdQ, m_rdE, hB, if_true, c, m_rvB, m_rvP, m_rvQ, hV, ← hk]
      rfl
    · intro hV s o7 u x z A hA _
      have hB : m_rdB b = false := by simp only [m_rdB, c, m_rvB, hV]; rfl
      obtain ⟨n, h, t⟩ := A
      simp only at hA
      subst hA
      simp only [m_rdP, m_rdQ, m_rdE, hB, c, m_rvB, hV, ← hk]
      rfl
  · rw [neT (show m_rck b ≠ Int.ofNat 0 from c), cond_true]
    have hB : m_rdB b = false := by
      have : (m_rck b == 0) = false := eqF c
      simp only [m_rdB, this, Bool.false_and]
    simp only [m_rdP, m_rdQ, m_rdE, hB, c, if_false, ← hk]
    rfl

end Go.Proofs

/- Descents, run: up to the loop. -/
namespace Go.Proofs
open Go Go.Ev

noncomputable def cDc : Code := bodyOf S0 20

theorem dcA (r : Mem) (L : Nat) (fs : FnsC) (p q : Int) (kn : KS) (kx : Nat → KS) (kr : KS) : run (SC r) 31 39 L (.seq (.seq (lc cDc) (lc (rc cDc))) (lc (rc (rc cDc)))) fs none kn kx kr (sc0 31 [FV p q]) (tr0 31 [FV p q]) [] emptyA =
    kn [(5, Value.func (Fn.func 31) (Array.mk []) (Array.mk [Value.pointer (some (Addr.mk 1 0 none)), Value.pointer (some (Addr.mk 0 0 none))]))] (Tr.node (Tr.node (Tr.node Tr.nil (some (Value.pointer (some (Addr.mk 1 0 none)))) Tr.nil) (some (Value.pointer (some (Addr.mk 0 0 none)))) Tr.nil) (some (Value.agg (Array.mk [Value.int IntKind.i64 p, Value.int IntKind.i64 q]))) (Tr.node (Tr.node Tr.nil (some (Value.func (Fn.func 31) (Array.mk []) (Array.mk [Value.pointer (some (Addr.mk 1 0 none)), Value.pointer (some (Addr.mk 0 0 none))]))) Tr.nil) (some (Value.string (ByteArray.mk #[]))) Tr.nil)) [] (AW.mk 2 (Tr.node (Tr.node Tr.nil (some (AObj.cells [Value.pointer none, Value.slice none 0 0] 65 1 0)) Tr.nil) (some (AObj.cells [Value.int IntKind.i64 p, Value.int IntKind.i64 q] 44 0 0)) Tr.nil) Tr.nil) := by kernel_rfl

end Go.Proofs

/- Descents, run: a letter after the other. -/
namespace Go.Proofs
open Go Go.Ev

def TDc (p q : Int) : Tr Value := (Tr.node (Tr.node (Tr.node Tr.nil (some (Value.pointer (some (Addr.mk 1 0 none)))) Tr.nil) (some (Value.pointer (some (Addr.mk 0 0 none)))) Tr.nil) (some (Value.agg (Array.mk [Value.int IntKind.i64 p, Value.int IntKind.i64 q]))) (Tr.node (Tr.node Tr.nil (some (Value.func (Fn.func 31) (Array.mk []) (Array.mk [Value.pointer (some (Addr.mk 1 0 none)), Value.pointer (some (Addr.mk 0 0 none))]))) Tr.nil) (some (Value.string (ByteArray.mk #[]))) Tr.nil))
def AD0 (p q : Int) : AW := (AW.mk 2 (Tr.node (Tr.node Tr.nil (some (AObj.cells [Value.pointer none, Value.slice none 0 0] 65 1 0)) Tr.nil) (some (AObj.cells [Value.int IntKind.i64 p, Value.int IntKind.i64 q] 44 0 0)) Tr.nil) Tr.nil)

def AD1 (p q : Int) (l : List Value) (n : Nat) : AW := (AW.mk 3 (Tr.node (Tr.node Tr.nil (some (AObj.cells [Value.pointer (some (Addr.mk 1 0 none)), Value.slice (some (Addr.mk 2 0 none)) n unk] 65 1 0)) Tr.nil) (some (AObj.cells [Value.int IntKind.i64 p, Value.int IntKind.i64 q] 44 0 0)) (Tr.node Tr.nil (some (AObj.cells l 5 2 1)) Tr.nil)) Tr.nil)
def tAf : Tbl := tcons 30 eAft fun _ => none

theorem dcB0 (r : Mem) (L : Nat) (p q a b : Int) (s : List (Nat × Value)) (kn : KS) (kx : Nat → KS) (kr : KS) : run (SC r) 31 39 L (ic (ic (lc (rc (rc (rc cDc)))))) (lvlT (SC r) tAf .nil L 6) none kn kx kr s (TDc p q) [] (AD0 a b) =
    Option.casesOn (r 0 0) (CR.fail 423) fun val => bif isI IntKind.i64 val then Option.casesOn (r 0 1) (CR.fail 423) fun val_1 => bif isI IntKind.i64 val_1 then bif !(a == ofI val && (b == ofI val_1 && true)) then bif b == Int.ofNat 0 then bif m_bnd a b then kn [(31, Value.tuple (Array.mk [])), (30, Value.func (Fn.func 31) (Array.mk []) (Array.mk [Value.pointer (some (Addr.mk 1 0 none)), Value.pointer (some (Addr.mk 0 0 none))]))] (Tr.node (Tr.node (Tr.node Tr.nil (some (Value.pointer (some (Addr.mk 1 0 none)))) Tr.nil) (some (Value.pointer (some (Addr.mk 0 0 none)))) Tr.nil) (some (Value.agg (Array.mk [Value.int IntKind.i64 p, Value.int IntKind.i64 q]))) (Tr.node (Tr.node Tr.nil (some (Value.func (Fn.func 31) (Array.mk []) (Array.mk [Value.pointer (some (Addr.mk 1 0 none)), Value.pointer (some (Addr.mk 0 0 none))]))) Tr.nil) (some (Value.string (ByteArray.mk #[]))) Tr.nil)) [] (AW.mk 4 (Tr.node (Tr.node (Tr.node Tr.nil (some (AObj.cells [Value.int IntKind.u8 (Int.ofNat 114)] 5 3 1)) Tr.nil) (some (AObj.cells [Value.pointer (some (Addr.mk 1 0 none)), Value.slice (some (Addr.mk 3 0 none)) 1 9223372036854775808] 65 1 0)) Tr.nil) (some (AObj.cells [Value.int IntKind.i64 (m_afP a b (Int.ofNat 114)), Value.int IntKind.i64 (m_afQ a b (Int.ofNat 114))] 44 0 0)) (Tr.node Tr.nil (some (AObj.cells [Value.int IntKind.u8 (Int.ofNat 114)] 5 2 1)) Tr.nil)) Tr.nil) else CR.fail 420 else bif decide (IntKind.wrap IntKind.i64 (Int.ofNat 0 - b) < a) then bif decide (a < b) then bif m_bnd a b then kn [(31, Value.tuple (Array.mk [])), (30, Value.func (Fn.func 31) (Array.mk []) (Array.mk [Value.pointer (some (Addr.mk 1 0 none)), Value.pointer (some (Addr.mk 0 0 none))]))] (Tr.node (Tr.node (Tr.node Tr.nil (some (Value.pointer (some (Addr.mk 1 0 none)))) Tr.nil) (some (Value.pointer (some (Addr.mk 0 0 none)))) Tr.nil) (some (Value.agg (Array.mk [Value.int IntKind.i64 p, Value.int IntKind.i64 q]))) (Tr.node (Tr.node Tr.nil (some (Value.func (Fn.func 31) (Array.mk []) (Array.mk [Value.pointer (some (Addr.mk 1 0 none)), Value.pointer (some (Addr.mk 0 0 none))]))) Tr.nil) (some (Value.string (ByteArray.mk #[]))) Tr.nil)) [] (AW.mk 4 (Tr.node (Tr.node (Tr.node Tr.nil (some (AObj.cells [Value.int IntKind.u8 (Int.ofNat 114)] 5 3 1)) Tr.nil) (some (AObj.cells [Value.pointer (some (Addr.mk 1 0 none)), Value.slice (some (Addr.mk 3 0 none)) 1 9223372036854775808] 65 1 0)) Tr.nil) (some (AObj.cells [Value.int IntKind.i64 (m_afP a b (Int.ofNat 114)), Value.int IntKind.i64 (m_afQ a b (Int.ofNat 114))] 44 0 0)) (Tr.node Tr.nil (some (AObj.cells [Value.int IntKind.u8 (Int.ofNat 114)] 5 2 1)) Tr.nil)) Tr.nil) else CR.fail 420 else bif decide (a > 0) then bif m_bnd a b then kn [(37, Value.tuple (Array.mk [])), (36, Value.func (Fn.func 31) (Array.mk []) (Array.mk [Value.pointer (some (Addr.mk 1 0 none)), Value.pointer (some (Addr.mk 0 0 none))]))] (Tr.node (Tr.node (Tr.node Tr.nil (some (Value.pointer (some (Addr.mk 1 0 none)))) Tr.nil) (some (Value.pointer (some (Addr.mk 0 0 none)))) Tr.nil) (some (Value.agg (Array.mk [Value.int IntKind.i64 p, Value.int IntKind.i64 q]))) (Tr.node (Tr.node Tr.nil (some (Value.func (Fn.func 31) (Array.mk []) (Array.mk [Value.pointer (some (Addr.mk 1 0 none)), Value.pointer (some (Addr.mk 0 0 none))]))) Tr.nil) (some (Value.string (ByteArray.mk #[]))) Tr.nil)) [] (AW.mk 4 (Tr.node (Tr.node (Tr.node Tr.nil (some (AObj.cells [Value.int IntKind.u8 (Int.ofNat 84)] 5 3 1)) Tr.nil) (some (AObj.cells [Value.pointer (some (Addr.mk 1 0 none)), Value.slice (some (Addr.mk 3 0 none)) 1 9223372036854775808] 65 1 0)) Tr.nil) (some (AObj.cells [Value.int IntKind.i64 (m_afP a b (Int.ofNat 84)), Value.int IntKind.i64 (m_afQ a b (Int.ofNat 84))] 44 0 0)) (Tr.node Tr.nil (some (AObj.cells [Value.int IntKind.u8 (Int.ofNat 84)] 5 2 1)) Tr.nil)) Tr.nil) else CR.fail 420 else bif m_bnd a b then kn [(10, Value.tuple (Array.mk [])), (9, Value.func (Fn.func 31) (Array.mk []) (Array.mk [Value.pointer (some (Addr.mk 1 0 none)), Value.pointer (some (Addr.mk 0 0 none))]))] (Tr.node (Tr.node (Tr.node Tr.nil (some (Value.pointer (some (Addr.mk 1 0 none)))) Tr.nil) (some (Value.pointer (some (Addr.mk 0 0 none)))) Tr.nil) (some (Value.agg (Array.mk [Value.int IntKind.i64 p, Value.int IntKind.i64 q]))) (Tr.node (Tr.node Tr.nil (some (Value.func (Fn.func 31) (Array.mk []) (Array.mk [Value.pointer (some (Addr.mk 1 0 none)), Value.pointer (some (Addr.mk 0 0 none))]))) Tr.nil) (some (Value.string (ByteArray.mk #[]))) Tr.nil)) [] (AW.mk 4 (Tr.node (Tr.node (Tr.node Tr.nil (some (AObj.cells [Value.int IntKind.u8 (Int.ofNat 116)] 5 3 1)) Tr.nil) (some (AObj.cells [Value.pointer (some (Addr.mk 1 0 none)), Value.slice (some (Addr.mk 3 0 none)) 1 9223372036854775808] 65 1 0)) Tr.nil) (some (AObj.cells [Value.int IntKind.i64 (m_afP a b (Int.ofNat 116)), Value.int IntKind.i64 (m_afQ a b (Int.ofNat 116))] 44 0 0)) (Tr.node Tr.nil (some (AObj.cells [Value.int IntKind.u8 (Int.ofNat 116)] 5 2 1)) Tr.nil)) Tr.nil) else CR.fail 420 else bif decide (a > 0) then bif m_bnd a b then kn [(37, Value.tuple (Array.mk [])), (36, Value.func (Fn.func 31) (Array.mk []) (Array.mk [Value.pointer (some (Addr.mk 1 0 none)), Value.pointer (some (Addr.mk 0 0 none))]))] (Tr.node (Tr.node (Tr.node Tr.nil (some (Value.pointer (some (Addr.mk 1 0 none)))) Tr.nil) (some (Value.pointer (some (Addr.mk 0 0 none)))) Tr.nil) (some (Value.agg (Array.mk [Value.int IntKind.i64 p, Value.int IntKind.i64 q]))) (Tr.node (Tr.node Tr.nil (some (Value.func (Fn.func 31) (Array.mk []) (Array.mk [Value.pointer (some (Addr.mk 1 0 none)), Value.pointer (some (Addr.mk 0 0 none))]))) Tr.nil) (some (Value.string (ByteArray.mk #[]))) Tr.nil)) [] (AW.mk 4 (Tr.node (Tr.node (Tr.node Tr.nil (some (AObj.cells [Value.int IntKind.u8 (Int.ofNat 84)] 5 3 1)) Tr.nil) (some (AObj.cells [Value.pointer (some (Addr.mk 1 0 none)), Value.slice (some (Addr.mk 3 0 none)) 1 9223372036854775808] 65 1 0)) Tr.nil) (some (AObj.cells [Value.int IntKind.i64 (m_afP a b (Int.ofNat 84)), Value.int IntKind.i64 (m_afQ a b (Int.ofNat 84))] 44 0 0)) (Tr.node Tr.nil (some (AObj.cells [Value.int IntKind.u8 (Int.ofNat 84)] 5 2 1)) Tr.nil)) Tr.nil) else CR.fail 420 else bif m_bnd a b then kn [(10, Value.tuple (Array.mk [])), (9, Value.func (Fn.func 31) (Array.mk []) (Array.mk [Value.pointer (some (Addr.mk 1 0 none)), Value.pointer (some (Addr.mk 0 0 none))]))] (Tr.node (Tr.node (Tr.node Tr.nil (some (Value.pointer (some (Addr.mk 1 0 none)))) Tr.nil) (some (Value.pointer (some (Addr.mk 0 0 none)))) Tr.nil) (some (Value.agg (Array.mk [Value.int IntKind.i64 p, Value.int IntKind.i64 q]))) (Tr.node (Tr.node Tr.nil (some (Value.func (Fn.func 31) (Array.mk []) (Array.mk [Value.pointer (some (Addr.mk 1 0 none)), Value.pointer (some (Addr.mk 0 0 none))]))) Tr.nil) (some (Value.string (ByteArray.mk #[]))) Tr.nil)) [] (AW.mk 4 (Tr.node (Tr.node (Tr.node Tr.nil (some (AObj.cells [Value.int IntKind.u8 (Int.ofNat 116)] 5 3 1)) Tr.nil) (some (AObj.cells [Value.pointer (some (Addr.mk 1 0 none)), Value.slice (some (Addr.mk 3 0 none)) 1 9223372036854775808] 65 1 0)) Tr.nil) (some (AObj.cells [Value.int IntKind.i64 (m_afP a b (Int.ofNat 116)), Value.int IntKind.i64 (m_afQ a b (Int.ofNat 116))] 44 0 0)) (Tr.node Tr.nil (some (AObj.cells [Value.int IntKind.u8 (Int.ofNat 116)] 5 2 1)) Tr.nil)) Tr.nil) else CR.fail 420 else kx 0 [(8, Value.bool false), (7, Value.agg (Array.mk [Value.int IntKind.i64 (ofI val), Value.int IntKind.i64 (ofI val_1)])), (6, Value.agg (Array.mk [Value.int IntKind.i64 a, Value.int IntKind.i64 b]))] (Tr.node (Tr.node (Tr.node Tr.nil (some (Value.pointer (some (Addr.mk 1 0 none)))) Tr.nil) (some (Value.pointer (some (Addr.mk 0 0 none)))) Tr.nil) (some (Value.agg (Array.mk [Value.int IntKind.i64 p, Value.int IntKind.i64 q]))) (Tr.node (Tr.node Tr.nil (some (Value.func (Fn.func 31) (Array.mk []) (Array.mk [Value.pointer (some (Addr.mk 1 0 none)), Value.pointer (some (Addr.mk 0 0 none))]))) Tr.nil) (some (Value.string (ByteArray.mk #[]))) Tr.nil)) [] (AW.mk 2 (Tr.node (Tr.node Tr.nil (some (AObj.cells [Value.pointer none, Value.slice none 0 0] 65 1 0)) Tr.nil) (some (AObj.cells [Value.int IntKind.i64 a, Value.int IntKind.i64 b] 44 0 0)) Tr.nil) Tr.nil) else CR.fail 420 else CR.fail 420 := by kernel_rfl

theorem dcB1 (r : Mem) (L : Nat) (p q a b : Int) (l : List Value) (n : Nat) (s : List (Nat × Value)) (kn : KS) (kx : Nat → KS) (kr : KS) : run (SC r) 31 39 L (ic (ic (lc (rc (rc (rc cDc)))))) (lvlT (SC r) tAf .nil L 6) none kn kx kr s (TDc p q) [] (AD1 a b l n) =
    Option.casesOn (r 0 0) (CR.fail 423) fun val => bif isI IntKind.i64 val then Option.casesOn (r 0 1) (CR.fail 423) fun val_1 => bif isI IntKind.i64 val_1 then bif !(a == ofI val && (b == ofI val_1 && true)) then bif b == Int.ofNat 0 then bif Nat.ble (Nat.add n 1) 1000000 then Option.casesOn (takeAt l 0 (Nat.mul n 1)) (CR.fail 439) fun val => bif m_bnd a b then kn [(31, Value.tuple (Array.mk [])), (30, Value.func (Fn.func 31) (Array.mk []) (Array.mk [Value.pointer (some (Addr.mk 1 0 none)), Value.pointer (some (Addr.mk 0 0 none))]))] (Tr.node (Tr.node (Tr.node Tr.nil (some (Value.pointer (some (Addr.mk 1 0 none)))) Tr.nil) (some (Value.pointer (some (Addr.mk 0 0 none)))) Tr.nil) (some (Value.agg (Array.mk [Value.int IntKind.i64 p, Value.int IntKind.i64 q]))) (Tr.node (Tr.node Tr.nil (some (Value.func (Fn.func 31) (Array.mk []) (Array.mk [Value.pointer (some (Addr.mk 1 0 none)), Value.pointer (some (Addr.mk 0 0 none))]))) Tr.nil) (some (Value.string (ByteArray.mk #[]))) Tr.nil)) [] (AW.mk 5 (Tr.node (Tr.node (Tr.node Tr.nil (some (AObj.cells [Value.int IntKind.u8 (Int.ofNat 114)] 5 3 1)) Tr.nil) (some (AObj.cells [Value.pointer (some (Addr.mk 1 0 none)), Value.slice (some (Addr.mk 4 0 none)) (Nat.add n 1) 9223372036854775808] 65 1 0)) Tr.nil) (some (AObj.cells [Value.int IntKind.i64 (m_afP a b (Int.ofNat 114)), Value.int IntKind.i64 (m_afQ a b (Int.ofNat 114))] 44 0 0)) (Tr.node (Tr.node Tr.nil (some (AObj.cells (val ++ [Value.int IntKind.u8 (Int.ofNat 114)]) 5 2 1)) Tr.nil) none Tr.nil)) (Tr.node Tr.nil none (Tr.node Tr.nil (some [4]) Tr.nil))) else CR.fail 420 else CR.fail 420 else bif decide (IntKind.wrap IntKind.i64 (Int.ofNat 0 - b) < a) then bif decide (a < b) then bif Nat.ble (Nat.add n 1) 1000000 then Option.casesOn (takeAt l 0 (Nat.mul n 1)) (CR.fail 439) fun val => bif m_bnd a b then kn [(31, Value.tuple (Array.mk [])), (30, Value.func (Fn.func 31) (Array.mk []) (Array.mk [Value.pointer (some (Addr.mk 1 0 none)), Value.pointer (some (Addr.mk 0 0 none))]))] (Tr.node (Tr.node (Tr.node Tr.nil (some (Value.pointer (some (Addr.mk 1 0 none)))) Tr.nil) (some (Value.pointer (some (Addr.mk 0 0 none)))) Tr.nil) (some (Value.agg (Array.mk [Value.int IntKind.i64 p, Value.int IntKind.i64 q]))) (Tr.node (Tr.node Tr.nil (some (Value.func (Fn.func 31) (Array.mk []) (Array.mk [Value.pointer (some (Addr.mk 1 0 none)), Value.pointer (some (Addr.mk 0 0 none))]))) Tr.nil) (some (Value.string (ByteArray.mk #[]))) Tr.nil)) [] (AW.mk 5 (Tr.node (Tr.node (Tr.node Tr.nil (some (AObj.cells [Value.int IntKind.u8 (Int.ofNat 114)] 5 3 1)) Tr.nil) (some (AObj.cells [Value.pointer (some (Addr.mk 1 0 none)), Value.slice (some (Addr.mk 4 0 none)) (Nat.add n 1) 9223372036854775808] 65 1 0)) Tr.nil) (some (AObj.cells [Value.int IntKind.i64 (m_afP a b (Int.ofNat 114)), Value.int IntKind.i64 (m_afQ a b (Int.ofNat 114))] 44 0 0)) (Tr.node (Tr.node Tr.nil (some (AObj.cells (val ++ [Value.int IntKind.u8 (Int.ofNat 114)]) 5 2 1)) Tr.nil) none Tr.nil)) (Tr.node Tr.nil none (Tr.node Tr.nil (some [4]) Tr.nil))) else CR.fail 420 else CR.fail 420 else bif decide (a > 0) then bif Nat.ble (Nat.add n 1) 1000000 then Option.casesOn (takeAt l 0 (Nat.mul n 1)) (CR.fail 439) fun val => bif m_bnd a b then kn [(37, Value.tuple (Array.mk [])), (36, Value.func (Fn.func 31) (Array.mk []) (Array.mk [Value.pointer (some (Addr.mk 1 0 none)), Value.pointer (some (Addr.mk 0 0 none))]))] (Tr.node (Tr.node (Tr.node Tr.nil (some (Value.pointer (some (Addr.mk 1 0 none)))) Tr.nil) (some (Value.pointer (some (Addr.mk 0 0 none)))) Tr.nil) (some (Value.agg (Array.mk [Value.int IntKind.i64 p, Value.int IntKind.i64 q]))) (Tr.node (Tr.node Tr.nil (some (Value.func (Fn.func 31) (Array.mk []) (Array.mk [Value.pointer (some (Addr.mk 1 0 none)), Value.pointer (some (Addr.mk 0 0 none))]))) Tr.nil) (some (Value.string (ByteArray.mk #[]))) Tr.nil)) [] (AW.mk 5 (Tr.node (Tr.node (Tr.node Tr.nil (some (AObj.cells [Value.int IntKind.u8 (Int.ofNat 84)] 5 3 1)) Tr.nil) (some (AObj.cells [Value.pointer (some (Addr.mk 1 0 none)), Value.slice (some (Addr.mk 4 0 none)) (Nat.add n 1) 9223372036854775808] 65 1 0)) Tr.nil) (some (AObj.cells [Value.int IntKind.i64 (m_afP a b (Int.ofNat 84)), Value.int IntKind.i64 (m_afQ a b (Int.ofNat 84))] 44 0 0)) (Tr.node (Tr.node Tr.nil (some (AObj.cells (val ++ [Value.int IntKind.u8 (Int.ofNat 84)]) 5 2 1)) Tr.nil) none Tr.nil)) (Tr.node Tr.nil none (Tr.node Tr.nil (some [4]) Tr.nil))) else CR.fail 420 else CR.fail 420 else bif Nat.ble (Nat.add n 1) 1000000 then Option.casesOn (takeAt l 0 (Nat.mul n 1)) (CR.fail 439) fun val => bif m_bnd a b then kn [(10, Value.tuple (Array.mk [])), (9, Value.func (Fn.func 31) (Array.mk []) (Array.mk [Value.pointer (some (Addr.mk 1 0 none)), Value.pointer (some (Addr.mk 0 0 none))]))] (Tr.node (Tr.node (Tr.node Tr.nil (some (Value.pointer (some (Addr.mk 1 0 none)))) Tr.nil) (some (Value.pointer (some (Addr.mk 0 0 none)))) Tr.nil) (some (Value.agg (Array.mk [Value.int IntKind.i64 p, Value.int IntKind.i64 q]))) (Tr.node (Tr.node Tr.nil (some (Value.func (Fn.func 31) (Array.mk []) (Array.mk [Value.pointer (some (Addr.mk 1 0 none)), Value.pointer (some (Addr.mk 0 0 none))]))) Tr.nil) (some (Value.string (ByteArray.mk #[]))) Tr.nil)) [] (AW.mk 5 (Tr.node (Tr.node (Tr.node Tr.nil (some (AObj.cells [Value.int IntKind.u8 (Int.ofNat 116)] 5 3 1)) Tr.nil) (some (AObj.cells [Value.pointer (some (Addr.mk 1 0 none)), Value.slice (some (Addr.mk 4 0 none)) (Nat.add n 1) 9223372036854775808] 65 1 0)) Tr.nil) (some (AObj.cells [Value.int IntKind.i64 (m_afP a b (Int.ofNat 116)), Value.int IntKind.i64 (m_afQ a b (Int.ofNat 116))] 44 0 0)) (Tr.node (Tr.node Tr.nil (some (AObj.cells (val ++ [Value.int IntKind.u8 (Int.ofNat 116)]) 5 2 1)) Tr.nil) none Tr.nil)) (Tr.node Tr.nil none (Tr.node Tr.nil (some [4]) Tr.nil))) else CR.fail 420 else CR.fail 420 else bif decide (a > 0) then bif Nat.ble (Nat.add n 1) 1000000 then Option.casesOn (takeAt l 0 (Nat.mul n 1)) (CR.fail 439) fun val => bif m_bnd a b then kn [(37, Value.tuple (Array.mk [])), (36, Value.func (Fn.func 31) (Array.mk []) (Array.mk [Value.pointer (some (Addr.mk 1 0 none)), Value.pointer (some (Addr.mk 0 0 none))]))] (Tr.node (Tr.node (Tr.node Tr.nil (some (Value.pointer (some (Addr.mk 1 0 none)))) Tr.nil) (some (Value.pointer (some (Addr.mk 0 0 none)))) Tr.nil) (some (Value.agg (Array.mk [Value.int IntKind.i64 p, Value.int IntKind.i64 q]))) (Tr.node (Tr.node Tr.nil (some (Value.func (Fn.func 31) (Array.mk []) (Array.mk [Value.pointer (some (Addr.mk 1 0 none)), Value.pointer (some (Addr.mk 0 0 none))]))) Tr.nil) (some (Value.string (ByteArray.mk #[]))) Tr.nil)) [] (AW.mk 5 (Tr.node (Tr.node (Tr.node Tr.nil (some (AObj.cells [Value.int IntKind.u8 (Int.ofNat 84)] 5 3 1)) Tr.nil) (some (AObj.cells [Value.pointer (some (Addr.mk 1 0 none)), Value.slice (some (Addr.mk 4 0 none)) (Nat.add n 1) 9223372036854775808] 65 1 0)) Tr.nil) (some (AObj.cells [Value.int IntKind.i64 (m_afP a b (Int.ofNat 84)), Value.int IntKind.i64 (m_afQ a b (Int.ofNat 84))] 44 0 0)) (Tr.node (Tr.node Tr.nil (some (AObj.cells (val ++ [Value.int IntKind.u8 (Int.ofNat 84)]) 5 2 1)) Tr.nil) none Tr.nil)) (Tr.node Tr.nil none (Tr.node Tr.nil (some [4]) Tr.nil))) else CR.fail 420 else CR.fail 420 else bif Nat.ble (Nat.add n 1) 1000000 then Option.casesOn (takeAt l 0 (Nat.mul n 1)) (CR.fail 439) fun val => bif m_bnd a b then kn [(10, Value.tuple (Array.mk [])), (9, Value.func (Fn.func 31) (Array.mk []) (Array.mk [Value.pointer (some (Addr.mk 1 0 none)), Value.pointer (some (Addr.mk 0 0 none))]))] (Tr.node (Tr.node (Tr.node Tr.nil (some (Value.pointer (some (Addr.mk 1 0 none)))) Tr.nil) (some (Value.pointer (some (Addr.mk 0 0 none)))) Tr.nil) (some (Value.agg (Array.mk [Value.int IntKind.i64 p, Value.int IntKind.i64 q]))) (Tr.node (Tr.node Tr.nil (some (Value.func (Fn.func 31) (Array.mk []) (Array.mk [Value.pointer (some (Addr.mk 1 0 none)), Value.pointer (some (Addr.mk 0 0 none))]))) Tr.nil) (some (Value.string (ByteArray.mk #[]))) Tr.nil)) [] (AW.mk 5 (Tr.node (Tr.node (Tr.node Tr.nil (some (AObj.cells [Value.int IntKind.u8 (Int.ofNat 116)] 5 3 1)) Tr.nil) (some (AObj.cells [Value.pointer (some (Addr.mk 1 0 none)), Value.slice (some (Addr.mk 4 0 none)) (Nat.add n 1) 9223372036854775808] 65 1 0)) Tr.nil) (some (AObj.cells [Value.int IntKind.i64 (m_afP a b (Int.ofNat 116)), Value.int IntKind.i64 (m_afQ a b (Int.ofNat 116))] 44 0 0)) (Tr.node (Tr.node Tr.nil (some (AObj.cells (val ++ [Value.int IntKind.u8 (Int.ofNat 116)]) 5 2 1)) Tr.nil) none Tr.nil)) (Tr.node Tr.nil none (Tr.node Tr.nil (some [4]) Tr.nil))) else CR.fail 420 else CR.fail 420 else kx 0 [(8, Value.bool false), (7, Value.agg (Array.mk [Value.int IntKind.i64 (ofI val), Value.int IntKind.i64 (ofI val_1)])), (6, Value.agg (Array.mk [Value.int IntKind.i64 a, Value.int IntKind.i64 b]))] (Tr.node (Tr.node (Tr.node Tr.nil (some (Value.pointer (some (Addr.mk 1 0 none)))) Tr.nil) (some (Value.pointer (some (Addr.mk 0 0 none)))) Tr.nil) (some (Value.agg (Array.mk [Value.int IntKind.i64 p, Value.int IntKind.i64 q]))) (Tr.node (Tr.node Tr.nil (some (Value.func (Fn.func 31) (Array.mk []) (Array.mk [Value.pointer (some (Addr.mk 1 0 none)), Value.pointer (some (Addr.mk 0 0 none))]))) Tr.nil) (some (Value.string (ByteArray.mk #[]))) Tr.nil)) [] (AW.mk 3 (Tr.node (Tr.node Tr.nil (some (AObj.cells [Value.pointer (some (Addr.mk 1 0 none)), Value.slice (some (Addr.mk 2 0 none)) n 9223372036854775808] 65 1 0)) Tr.nil) (some (AObj.cells [Value.int IntKind.i64 a, Value.int IntKind.i64 b] 44 0 0)) (Tr.node Tr.nil (some (AObj.cells l 5 2 1)) Tr.nil)) Tr.nil) else CR.fail 420 else CR.fail 420 := by kernel_rfl

theorem dcC0 (r : Mem) (L : Nat) (p q a b : Int) (s : List (Nat × Value)) (kn : KS) (kx : Nat → KS) (kr : KS) : run (SC r) 31 39 L (rc (rc (rc (rc cDc)))) (lvlT (SC r) tAf .nil L 6) none kn kx kr s (TDc p q) [] (AD0 a b) =
    kr [(38, Value.string (ByteArray.mk #[]))] (Tr.node (Tr.node (Tr.node Tr.nil (some (Value.pointer (some (Addr.mk 1 0 none)))) Tr.nil) (some (Value.pointer (some (Addr.mk 0 0 none)))) Tr.nil) (some (Value.agg (Array.mk [Value.int IntKind.i64 p, Value.int IntKind.i64 q]))) (Tr.node (Tr.node Tr.nil (some (Value.func (Fn.func 31) (Array.mk []) (Array.mk [Value.pointer (some (Addr.mk 1 0 none)), Value.pointer (some (Addr.mk 0 0 none))]))) Tr.nil) (some (Value.string (ByteArray.mk #[]))) Tr.nil)) [] (AW.mk 2 (Tr.node (Tr.node Tr.nil (some (AObj.cells [Value.pointer none, Value.slice none 0 0] 65 1 0)) Tr.nil) (some (AObj.cells [Value.int IntKind.i64 a, Value.int IntKind.i64 b] 44 0 0)) Tr.nil) Tr.nil) := by kernel_rfl

theorem dcC1 (r : Mem) (L : Nat) (p q a b : Int) (l : List Value) (n : Nat) (s : List (Nat × Value)) (kn : KS) (kx : Nat → KS) (kr : KS) : run (SC r) 31 39 L (rc (rc (rc (rc cDc)))) (lvlT (SC r) tAf .nil L 6) none kn kx kr s (TDc p q) [] (AD1 a b l n) =
    bif !Nat.beq n 0 then bif Nat.beq (Int.toNat (Int.ofNat n)) 0 then bif m_eqv (Value.int IntKind.i64 (Int.ofNat n)) (Value.int IntKind.i64 (Int.ofNat n)) then bif m_eqv (Value.slice (some (Addr.mk 2 0 none)) n 9223372036854775808) (Value.slice (some (Addr.mk 2 0 none)) n 9223372036854775808) then bif !Nat.beq n 0 then bif m_eqv (Value.slice (some (Addr.mk 2 0 none)) n 9223372036854775808) (Value.slice (some (Addr.mk 2 0 none)) n 9223372036854775808) then kr [(38, Value.string (ByteArray.mk #[]))] (Tr.node (Tr.node (Tr.node Tr.nil (some (Value.pointer (some (Addr.mk 1 0 none)))) Tr.nil) (some (Value.pointer (some (Addr.mk 0 0 none)))) Tr.nil) (some (Value.agg (Array.mk [Value.int IntKind.i64 p, Value.int IntKind.i64 q]))) (Tr.node (Tr.node Tr.nil (some (Value.func (Fn.func 31) (Array.mk []) (Array.mk [Value.pointer (some (Addr.mk 1 0 none)), Value.pointer (some (Addr.mk 0 0 none))]))) Tr.nil) (some (Value.string (ByteArray.mk #[]))) Tr.nil)) [] (AW.mk 3 (Tr.node (Tr.node Tr.nil (some (AObj.cells [Value.pointer (some (Addr.mk 1 0 none)), Value.slice (some (Addr.mk 2 0 none)) n 9223372036854775808] 65 1 0)) Tr.nil) (some (AObj.cells [Value.int IntKind.i64 a, Value.int IntKind.i64 b] 44 0 0)) (Tr.node Tr.nil (some (AObj.cells l 5 2 1)) Tr.nil)) Tr.nil) else CR.fail 420 else CR.fail 420 else CR.fail 420 else CR.fail 420 else bif Nat.ble (Int.toNat (Int.ofNat n)) 9223372036854775807 then Option.casesOn (takeAt l 0 (Int.toNat (Int.ofNat n))) (CR.fail 474) fun val => bif List.all val (isI IntKind.u8) then bif m_eqv (Value.int IntKind.i64 (Int.ofNat n)) (Value.int IntKind.i64 (Int.ofNat n)) then bif m_eqv (Value.slice (some (Addr.mk 2 0 none)) n 9223372036854775808) (Value.slice (some (Addr.mk 2 0 none)) n 9223372036854775808) then bif !Nat.beq n 0 then bif m_eqv (Value.slice (some (Addr.mk 2 0 none)) n 9223372036854775808) (Value.slice (some (Addr.mk 2 0 none)) n 9223372036854775808) then kr [(38, Value.string (ByteArray.mk (Array.mk (List.map Ev.byteOf val))))] (Tr.node (Tr.node (Tr.node Tr.nil (some (Value.pointer (some (Addr.mk 1 0 none)))) Tr.nil) (some (Value.pointer (some (Addr.mk 0 0 none)))) Tr.nil) (some (Value.agg (Array.mk [Value.int IntKind.i64 p, Value.int IntKind.i64 q]))) (Tr.node (Tr.node Tr.nil (some (Value.func (Fn.func 31) (Array.mk []) (Array.mk [Value.pointer (some (Addr.mk 1 0 none)), Value.pointer (some (Addr.mk 0 0 none))]))) Tr.nil) (some (Value.string (ByteArray.mk (Array.mk (List.map Ev.byteOf val))))) Tr.nil)) [] (AW.mk 3 (Tr.node (Tr.node Tr.nil (some (AObj.cells [Value.pointer (some (Addr.mk 1 0 none)), Value.slice (some (Addr.mk 2 0 none)) n 9223372036854775808] 65 1 0)) Tr.nil) (some (AObj.cells [Value.int IntKind.i64 a, Value.int IntKind.i64 b] 44 0 0)) (Tr.node Tr.nil none Tr.nil)) Tr.nil) else CR.fail 420 else CR.fail 420 else CR.fail 420 else CR.fail 420 else CR.fail 420 else CR.fail 420 else CR.fail 420 := by kernel_rfl

end Go.Proofs

/- Descents: the loop, the row of letters by other names. -/
namespace Go.Proofs
open Go Go.Ev Go.Num

theorem fn_of {C : Cfg} {f : Nat} (h : hasBody C f = true) : ∃ fn, C.fns.get f = some fn ∧ fn.body = some (bodyOf C f) ∧ fn.ntmps = ntm C f ∧ fn.results.toList = resOf C f := by
  unfold hasBody at h
  unfold bodyOf ntm resOf
  split at h
  · rename_i fn hfn
    split at h
    · rename_i c hc
      exact ⟨fn, hfn, by simp only [hfn, hc], by simp only [hfn], by simp only [hfn]⟩
    · cases h
  · cases h

/-- A call that answers a plain value, whatever else it leaves. -/
theorem GrT.ends_of {P : Program} {r : Mem} {f : Nat} {args : List Value} {v : Value} {A' : AW} (hg : gnd v = true)
    (h : ∀ F, Wide F → ∀ k W args', Ro r noG W → VsRel noG args (Array.toList args') → CallsIn F k P f args' W (Go.Ev.Ends noG W v A')) : GrT P r f args v :=
  ⟨hg, fun F hF k W args' hR ha => (h F hF k W args' hR ha).mono fun e W' he => by
    obtain ⟨v', γ', rfl, hv, hw', hx⟩ := he
    exact ⟨by rw [hv.eq_of_gnd hg], hx.below⟩⟩

/-- Bytes as cells. -/
def m_by (l : List UInt8) : List Value := l.map fun b => .int .u8 (.ofNat b.toNat)
theorem by_gnd (l : List UInt8) : ∀ v ∈ m_by l, gnd v = true := fun v hv => by
  obtain ⟨z, _, rfl⟩ := List.mem_map.1 hv
  rfl
theorem by_len (l : List UInt8) : (m_by l).length = l.length := List.length_map ..
theorem by_u8 (l : List UInt8) : (m_by l).all (isI .u8) = true := by
  rw [List.all_eq_true]
  intro v hv
  obtain ⟨z, _, rfl⟩ := List.mem_map.1 hv
  rfl
theorem by_of (l : List UInt8) : (m_by l).map Ev.byteOf = l := by
  unfold m_by
  rw [List.map_map]
  refine (List.map_congr_left fun b _ => ?_).trans (List.map_id _)
  show UInt8.ofNat (Int.ofNat b.toNat).toNat = b
  simp
theorem by_snoc (l : List UInt8) (v : UInt8) : m_by l ++ [.int .u8 (.ofNat v.toNat)] = m_by (l ++ [v]) := by simp [m_by]
theorem takeFull (l : List Value) (n : Nat) (h : l.length = n) : takeAt l 0 n = some l := takeAt_all l n 0 l h fun j _ => by rw [Nat.zero_add]

section
variable {r : Mem} {γ0 : Gam} {W0 : World} {p q : Int}

/-- The states at the loop's head, by their own names. -/
inductive DcSt (p q : Int) : Nat → St → Prop
  | first : DcSt p q (meas p q) ⟨⟨[], TDc p q⟩, [], AD0 p q⟩
  | more {a b : Int} {bs : List UInt8} (fr : Fr a b) (h1 : -500 ≤ a) (h2 : a ≤ 500) (h3 : b ≤ 500) (h : bs ++ D a b = D p q) (hb : bs ≠ []) : DcSt p q (meas a b) ⟨⟨[], TDc p q⟩, [], AD1 a b (m_by bs) bs.length⟩

/-- What the loop leaves. -/
def DcQ (p q : Int) : Exit → St → Prop
  | .exit id, st => id = 0 ∧ ∃ st1, Ren (SC r) 31 39 γ0 W0 st st1 ∧ ((st1 = ⟨⟨[], TDc p q⟩, [], AD0 0 1⟩ ∧ D p q = []) ∨ (st1 = ⟨⟨[], TDc p q⟩, [], AD1 0 1 (m_by (D p q)) (D p q).length⟩ ∧ D p q ≠ []))
  | _, _ => False

def AX0 (x y : Int) (c : Nat) : AW := (AW.mk 4 (Tr.node (Tr.node (Tr.node Tr.nil (some (AObj.cells [Value.int IntKind.u8 (Int.ofNat c)] 5 3 1)) Tr.nil) (some (AObj.cells [Value.pointer (some (Addr.mk 1 0 none)), Value.slice (some (Addr.mk 3 0 none)) 1 unk] 65 1 0)) Tr.nil) (some (AObj.cells [Value.int IntKind.i64 x, Value.int IntKind.i64 y] 44 0 0)) (Tr.node Tr.nil (some (AObj.cells [Value.int IntKind.u8 (Int.ofNat c)] 5 2 1)) Tr.nil)) Tr.nil)
def AX1 (x y : Int) (l : List Value) (n : Nat) (c : Nat) : AW := (AW.mk 5 (Tr.node (Tr.node (Tr.node Tr.nil (some (AObj.cells [Value.int IntKind.u8 (Int.ofNat c)] 5 3 1)) Tr.nil) (some (AObj.cells [Value.pointer (some (Addr.mk 1 0 none)), Value.slice (some (Addr.mk 4 0 none)) (Nat.add n 1) unk] 65 1 0)) Tr.nil) (some (AObj.cells [Value.int IntKind.i64 x, Value.int IntKind.i64 y] 44 0 0)) (Tr.node (Tr.node Tr.nil (some (AObj.cells (l ++ [Value.int IntKind.u8 (Int.ofNat c)]) 5 2 1)) Tr.nil) none Tr.nil)) (Tr.node Tr.nil none (Tr.node Tr.nil (some [4]) Tr.nil)))

theorem ren_dc0 (h0 : ∀ i, 0 ≤ i → γ0 i = none) (s : List (Nat × Value)) (p q a b : Int) : Ren (SC r) 31 39 γ0 W0 ⟨⟨s, TDc p q⟩, [], AD0 a b⟩ ⟨⟨[], TDc p q⟩, [], AD0 a b⟩ := by
  refine Ren.of (fun i => i) 0 rfl h0 (Nat.zero_le _) (fun i hi => absurd hi (Nat.not_lt_zero i)) ?_ rfl ?_ trivial
  · simp only [Tr.All, TDc]
    repeat' (first | exact trivial | apply And.intro)
    all_goals exact ⟨_, rfl, rfl⟩
  · simp only [Tr.All, AD0]
    repeat' (first | exact trivial | apply And.intro)
    all_goals first | rfl | exact .head _ | exact ⟨_, rfl, .cells rfl⟩ | exact ⟨_, rfl, .plain (fun _ _ => rfl)⟩ | skip
theorem ren_dc1 (h0 : ∀ i, 0 ≤ i → γ0 i = none) (s : List (Nat × Value)) (p q a b : Int) (l : List Value) (n : Nat) (hl : ∀ v ∈ l, gnd v = true) : Ren (SC r) 31 39 γ0 W0 ⟨⟨s, TDc p q⟩, [], AD1 a b l n⟩ ⟨⟨[], TDc p q⟩, [], AD1 a b l n⟩ := by
  refine Ren.of (fun i => i) 0 rfl h0 (Nat.zero_le _) (fun i hi => absurd hi (Nat.not_lt_zero i)) ?_ rfl ?_ trivial
  · simp only [Tr.All, TDc]
    repeat' (first | exact trivial | apply And.intro)
    all_goals exact ⟨_, rfl, rfl⟩
  · simp only [Tr.All, AD1]
    repeat' (first | exact trivial | apply And.intro)
    all_goals first | rfl | exact .head _ | exact ⟨_, rfl, .cells rfl⟩ | exact ⟨_, rfl, .plain (hl)⟩ | skip
theorem ren_x0 (h0 : ∀ i, 0 ≤ i → γ0 i = none) (s : List (Nat × Value)) (p q a b : Int) (c : Nat) : Ren (SC r) 31 39 γ0 W0 ⟨⟨s, TDc p q⟩, [], AX0 a b c⟩ ⟨⟨[], TDc p q⟩, [], AD1 a b [.int .u8 (.ofNat c)] 1⟩ := by
  refine Ren.of (fun i => bif Nat.beq i 2 then 3 else i) 0 rfl h0 (Nat.zero_le _) (fun i hi => absurd hi (Nat.not_lt_zero i)) ?_ rfl ?_ trivial
  · simp only [Tr.All, TDc]
    repeat' (first | exact trivial | apply And.intro)
    all_goals exact ⟨_, rfl, rfl⟩
  · simp only [Tr.All, AD1]
    repeat' (first | exact trivial | apply And.intro)
    all_goals first | rfl | exact .head _ | exact ⟨_, rfl, .cells rfl⟩ | exact ⟨_, rfl, .plain (fun v hv => by rw [List.mem_singleton.1 hv]; rfl)⟩ | skip
theorem ren_x1 (h0 : ∀ i, 0 ≤ i → γ0 i = none) (s : List (Nat × Value)) (p q a b : Int) (l : List Value) (n c : Nat) (hl : ∀ v ∈ l, gnd v = true) : Ren (SC r) 31 39 γ0 W0 ⟨⟨s, TDc p q⟩, [], AX1 a b l n c⟩ ⟨⟨[], TDc p q⟩, [], AD1 a b (l ++ [.int .u8 (.ofNat c)]) (n + 1)⟩ := by
  have hl' : ∀ v ∈ l ++ [.int .u8 (.ofNat c)], gnd v = true := fun v hv => by
    rcases List.mem_append.1 hv with h | h
    · exact hl v h
    · rw [List.mem_singleton.1 h]; rfl
  refine Ren.of (fun i => bif Nat.beq i 2 then 4 else i) 0 rfl h0 (Nat.zero_le _) (fun i hi => absurd hi (Nat.not_lt_zero i)) ?_ rfl ?_ trivial
  · simp only [Tr.All, TDc]
    repeat' (first | exact trivial | apply And.intro)
    all_goals exact ⟨_, rfl, rfl⟩
  · simp only [Tr.All, AD1]
    repeat' (first | exact trivial | apply And.intro)
    all_goals first | rfl | exact .head _ | exact ⟨_, rfl, .cells rfl⟩ | exact ⟨_, rfl, .plain (hl')⟩ | skip

theorem dl_pick {a b : Int} {X Y Z R : CR} (h1 : -1000 ≤ b) (h2 : b ≤ 1000) (hX : dl a b = 114 → X = R) (hY : dl a b = 84 → Y = R) (hZ : dl a b = 116 → Z = R) :
    (bif b == Int.ofNat 0 then X else bif decide (IntKind.wrap IntKind.i64 (Int.ofNat 0 - b) < a) then bif decide (a < b) then X else bif decide (a > 0) then Y else Z else bif decide (a > 0) then Y else Z) = R := by
  have w : IntKind.wrap IntKind.i64 (Int.ofNat 0 - b) = -b := by rw [wrI (by simp; omega)]; simp
  rw [w]
  have e1 : (b = 0 ∨ (-b < a ∧ a < b)) → X = R := fun h => hX (by unfold dl; rw [if_pos h])
  have e2 : ¬ (b = 0 ∨ (-b < a ∧ a < b)) → (bif decide (a > 0) then Y else Z) = R := fun h => by
    by_cases c : a > 0
    · rw [dT c, cond_true]; exact hY (by unfold dl; rw [if_neg h, if_pos c])
    · rw [dF c, cond_false]; exact hZ (by unfold dl; rw [if_neg h, if_neg c])
  by_cases c1 : b = 0
  · rw [eqT (show b = Int.ofNat 0 from c1), cond_true]; exact e1 (.inl c1)
  · rw [eqF (show b ≠ Int.ofNat 0 from c1), cond_false]
    by_cases c2 : -b < a
    · rw [dT c2, cond_true]
      by_cases c3 : a < b
      · rw [dT c3, cond_true]; exact e1 (.inr ⟨c2, c3⟩)
      · rw [dF c3, cond_false]; exact e2 (by omega)
    · rw [dF c2, cond_false]; exact e2 (by omega)

theorem dc_body (hm : ∀ b j u, tabM b j = some u → r b j = some u) (hfr : Fr p q) (hp1 : -500 ≤ p) (hp2 : p ≤ 500) (hq2 : q ≤ 500) (h0 : ∀ i, 0 ≤ i → γ0 i = none) {F : Fence} {k : Nat} (hF : Wide F) (hro : F.round = none) {j : Nat} {st : St} (hs : DcSt p q j st) :
    Go.Ev.Reach (SC r) 31 39 F k γ0 W0 (ic (ic (lc (rc (rc (rc cDc)))))) st fun ex st' => match ex with
      | .normal => ∃ j', j' < j ∧ ∃ st1, Ren (SC r) 31 39 γ0 W0 st' st1 ∧ DcSt p q j' st1
      | ex => DcQ (r := r) (γ0 := γ0) (W0 := W0) p q ex st' := by
  have tok : TOk (SC r) tAf := TOk.cons TOk.nil (afterE_ok r)
  have z0 : r 0 0 = some (I 0) := hm _ _ _ rfl
  have z1 : r 0 1 = some (I 1) := hm _ _ _ rfl
  have i0 : ofI (I 0) = 0 := rfl
  have i1 : ofI (I 1) = 1 := rfl
  have ii : ∀ z, isI IntKind.i64 (I z) = true := fun _ => rfl
  cases hs with
  | first =>
    have hlow := hfr.low
    have bn : m_bnd p q = true := by simp only [m_bnd, Bool.and_eq_true, decide_eq_true_eq]; omega
    refine Go.Ev.Reach.seg (SC_ok r) tok (tm := .nil) (L := 1) (L' := 1) (d := 6) hF hro ?_
    rw [dcB0, z0, z1]
    dsimp only
    rw [ii, ii, cond_true, cond_true, i0, i1]
    by_cases c : p = 0 ∧ q = 1
    · obtain ⟨rfl, rfl⟩ := c
      exact qn_ok ⟨rfl, _, ren_dc0 h0 _ _ _ _ _, .inl ⟨rfl, rfl⟩⟩
    · have hne : (!(p == 0 && (q == 1 && true))) = true := by
        simp only [Bool.and_true, Bool.not_eq_true', Bool.and_eq_false_iff, beq_eq_false_iff_ne]
        omega
      rw [hne, cond_true, bn]
      obtain ⟨d1, d2, d3⟩ := dl_small hfr hp1 hp2 hq2
      have leaf : ∀ (s : List (Nat × Value)) (v : UInt8), dl p q = v → qn (fun st' => ∃ j', j' < meas p q ∧ ∃ st1, Ren (SC r) 31 39 γ0 W0 st' st1 ∧ DcSt p q j' st1) s (TDc p q) [] (AX0 (m_afP p q (.ofNat v.toNat)) (m_afQ p q (.ofNat v.toNat)) v.toNat) = .ret undef ⟨0, .nil, .nil⟩ := fun s v hv => by
        subst hv
        obtain ⟨a1, a2⟩ := af_aft (dl p q) p q
        rw [a1, a2]
        exact qn_ok ⟨_, meas_dec hfr c, _, ren_x0 h0 _ _ _ _ _ _, .more (bs := [dl p q]) (aft_fr hfr) d1 d2 d3 (by rw [D_cons hfr c]; rfl) (by simp)⟩
      refine dl_pick (by omega) (by omega) (fun e => ?_) (fun e => ?_) (fun e => ?_)
      · rw [cond_true]; exact leaf _ 114 e
      · rw [cond_true]; exact leaf _ 84 e
      · rw [cond_true]; exact leaf _ 116 e
  | more fr h1 h2 h3 h hb =>
    rename_i a b bs
    have hlow := fr.low
    have bn : m_bnd a b = true := by simp only [m_bnd, Bool.and_eq_true, decide_eq_true_eq]; omega
    refine Go.Ev.Reach.seg (SC_ok r) tok (tm := .nil) (L := 1) (L' := 1) (d := 6) hF hro ?_
    rw [dcB1, z0, z1]
    dsimp only
    rw [ii, ii, cond_true, cond_true, i0, i1]
    by_cases c : a = 0 ∧ b = 1
    · obtain ⟨rfl, rfl⟩ := c
      rw [D_nil, List.append_nil] at h
      subst h
      exact qn_ok ⟨rfl, _, ren_dc1 h0 _ _ _ _ _ _ _ (by_gnd _), .inr ⟨rfl, hb⟩⟩
    · have hne : (!(a == 0 && (b == 1 && true))) = true := by
        simp only [Bool.and_true, Bool.not_eq_true', Bool.and_eq_false_iff, beq_eq_false_iff_ne]
        omega
      have hlen := D_len hfr hp1 hp2 hq2
      rw [← h, List.length_append] at hlen
      have g1 : Nat.ble (Nat.add bs.length 1) 1000000 = true := Nat.ble_eq_true_of_le (by simp only [Nat.add_eq]; omega)
      have g2 : takeAt (m_by bs) 0 (Nat.mul bs.length 1) = some (m_by bs) := takeFull _ _ (by rw [by_len]; simp)
      rw [hne, cond_true, bn, g1, g2]
      dsimp only
      obtain ⟨d1, d2, d3⟩ := dl_small fr h1 h2 h3
      have leaf : ∀ (s : List (Nat × Value)) (v : UInt8), dl a b = v → qn (fun st' => ∃ j', j' < meas a b ∧ ∃ st1, Ren (SC r) 31 39 γ0 W0 st' st1 ∧ DcSt p q j' st1) s (TDc p q) [] (AX1 (m_afP a b (.ofNat v.toNat)) (m_afQ a b (.ofNat v.toNat)) (m_by bs) bs.length v.toNat) = .ret undef ⟨0, .nil, .nil⟩ := fun s v hv => by
        subst hv
        obtain ⟨a1, a2⟩ := af_aft (dl a b) a b
        rw [a1, a2]
        refine qn_ok ⟨_, meas_dec fr c, _, ren_x1 h0 _ _ _ _ _ _ _ _ (by_gnd _), ?_⟩
        have := DcSt.more (p := p) (q := q) (bs := bs ++ [dl a b]) (aft_fr (v := dl a b) fr) d1 d2 d3 (by rw [← h, D_cons fr c]; simp) (by simp)
        rw [by_snoc]
        simpa using this
      refine dl_pick (by omega) (by omega) (fun e => ?_) (fun e => ?_) (fun e => ?_)
      · rw [cond_true, cond_true]; exact leaf _ 114 e
      · rw [cond_true, cond_true]; exact leaf _ 84 e
      · rw [cond_true, cond_true]; exact leaf _ 116 e

end

end Go.Proofs

