/- What the claim is proved with, part 3: the evaluator and the contracts of the calls. -/
import Derived.Test.YtpcofojbkahfbaaGreatDoorPack1
import Derived.Test.YtpcofojbkahfbaaGreatDoorEvOwn
import Derived.Test.YtpcofojbkahfbaaGreatDoorEvSetB
import Derived.Test.YtpcofojbkahfbaaGreatDoorPack2
/- maps.Keys and slices.AppendSeq over it, run: keys of kind u16. -/
namespace Go.Proofs.VV
open Go Go.Ev Go.Proofs
set_option maxRecDepth 100000
set_option linter.unusedVariables false
set_option linter.unusedSimpArgs false

def rfAs : Code → Code | .rangeFunc _ _ a _ => a | c => c
def rfBd : Code → Code | .rangeFunc _ _ _ b => b | c => c
noncomputable def cKs : Code := bodyOf S0 102
noncomputable def cAq : Code := bodyOf S0 113
noncomputable def cCo : Code := bodyOf S0 100

abbrev seqV : Value := .func (.func 102) ⟨[]⟩ ⟨[.pointer (some ⟨0, 0, none⟩)]⟩
def AK0 (e z clock : Nat) (es : List MapEntry) : AW := ⟨2, .node (.node .nil (some (.map es clock)) .nil) (some (.cells [.map (some 1)] e 0 z)) .nil, .nil⟩

noncomputable def k_aqA : Code := rfAs (ic (rc (lc (rc cAq))))
noncomputable def k_aqB : Code := rfBd (ic (rc (lc (rc cAq))))
def TQ : Tr Value := .node (.node .nil (some seqV) .nil) (some (.slice none 0 0)) (.node (.node .nil (some (.slice none 0 0)) .nil) (some (.pointer (some ⟨2, 0, none⟩))) .nil)
noncomputable def AKg (e z clock : Nat) (es : List MapEntry) (n : Nat) (sv : Value) (s5 s6 : Tr AObj) : AW :=
 ⟨n, .node (.node (.node .nil (some .defd) .nil) (some (.map es clock)) s5) (some (.cells [.map (some 1)] e 0 z)) (.node (.node .nil (some (.loop .ready none 183 ⟨[(6, seqV)], TQ⟩ 13 ⟨[7]⟩ k_aqA k_aqB 3)) .nil) (some (.cells [sv] 67 2 0)) s6), .nil⟩
def miT (clock : Nat) (seen : List Nat) : Tr AObj := .node .nil (some (.miter 1 clock seen clock)) .nil
def rwT (i : Nat) (l : List Value) : Tr AObj := .node .nil (some (.cells l 52 i 1)) .nil
def yK : List Value := [.func (.yield 4) ⟨[]⟩ ⟨[]⟩, .pointer (some ⟨0, 0, none⟩)]

def TK : Tr Value := .node (.node .nil (some (.pointer (some ⟨0, 0, none⟩))) .nil) (some (.func (.yield 4) ⟨[]⟩ ⟨[]⟩)) (.node .nil none (.node .nil (some (.pointer (some ⟨5, 0, none⟩))) .nil))
def TKz (z : Int) : Tr Value := .node (.node .nil (some (.pointer (some ⟨0, 0, none⟩))) .nil) (some (.func (.yield 4) ⟨[]⟩ ⟨[]⟩)) (.node (.node .nil (some (.int .u64 z)) .nil) none (.node .nil (some (.pointer (some ⟨5, 0, none⟩))) .nil))

theorem kyA (r : Mem) (L : Nat) (fs : FnsC) (e z clock : Nat) (es : List MapEntry) (kn : KS) (kx : Nat → KS) (kr : KS) (ms : List Nat) : run (SC r) 183 13 L (.seq (lc cAq) (lc (lc (rc cAq)))) fs none kn kx kr (sc0 183 [.slice none 0 0, seqV]) (tr0 183 [.slice none 0 0, seqV]) ms (AK0 e z clock es) =
    kn [(6, .func (Fn.func 102) ⟨[]⟩ ⟨[.pointer (some ⟨0, 0, none⟩)]⟩)] (.node (.node .nil (some (.func (Fn.func 102) ⟨[]⟩ ⟨[.pointer (some ⟨0, 0, none⟩)]⟩)) .nil) (some (.slice none 0 0)) (.node (.node .nil (some (.slice none 0 0)) .nil) (some (.pointer (some ⟨2, 0, none⟩))) .nil)) ms (AW.mk 3 (.node (.node .nil (some (AObj.map es clock)) .nil) (some (.cells [Value.map (some 1)] e 0 z)) (.node .nil (some (.cells [.slice none 0 0] 67 2 0)) .nil)) .nil) := by kernel_rfl

theorem kyB (r : Mem) (L : Nat) (fs : FnsC) (e z clock : Nat) (es : List MapEntry) (kn : KS) (kx : Nat → KS) (kr : KS) (ms : List Nat) : run (SC r) 83 15 L (lc cKs) fs none kn kx kr (sc0 83 yK) (tr0 83 yK) ms (AKg e z clock es 5 (.slice none 0 0) .nil .nil) =
    kn [(5, Value.map (some 1))] (.node (.node .nil (some (.pointer (some ⟨0, 0, none⟩))) .nil) (some (.func (Fn.yield 4) ⟨[]⟩ ⟨[]⟩)) (.node .nil none (.node .nil (some (.pointer (some ⟨5, 0, none⟩))) .nil))) ms (AW.mk 6 (.node (.node (.node .nil (some .defd) .nil) (some (AObj.map es clock)) (.node .nil (some (AObj.miter 1 clock [] clock)) .nil)) (some (.cells [Value.map (some 1)] e 0 z)) (.node (.node .nil (some (AObj.loop LoopState.ready none 183 (En.mk [(6, .func (Fn.func 102) ⟨[]⟩ ⟨[.pointer (some ⟨0, 0, none⟩)]⟩)] (.node (.node .nil (some (.func (Fn.func 102) ⟨[]⟩ ⟨[.pointer (some ⟨0, 0, none⟩)]⟩)) .nil) (some (.slice none 0 0)) (.node (.node .nil (some (.slice none 0 0)) .nil) (some (.pointer (some ⟨2, 0, none⟩))) .nil))) 13 ⟨[7]⟩ (Code.region 2 #[Oper.mk (some 5) (Op.assign (Operand.tmp 7)) 52 "iter.go:51" #[] none] false) (Code.block 1 (Code.region 3 #[Oper.mk (some 8) (Op.load 67 (Operand.tmp 2)) 67 "iter.go:52" #[] none, Oper.mk (some 9) (Op.move (Operand.tmp 5)) 52 "iter.go:52" #[] none, Oper.mk (some 10) (Op.buildSlice 67 1 #[(0, Operand.tmp 9)]) 67 "iter.go:52" #[Edge.mk 1 Ground.data] none, Oper.mk (some 11) (Op.call (Call.mk (Callee.builtin Builtin.append) #[Operand.tmp 8, Operand.tmp 10] #[67, 67])) 67 "iter.go:52" #[Edge.mk 0 Ground.data, Edge.mk 2 Ground.data] none, Oper.mk none (Op.store 67 (Operand.tmp 2) (Operand.tmp 11)) 0 "iter.go:52" #[Edge.mk 3 Ground.data, Edge.mk 3 Ground.chain, Edge.mk 0 Ground.phase, Edge.mk 1 Ground.phase, Edge.mk 2 Ground.phase, Edge.mk 3 Ground.phase] none] false)) 3)) .nil) (some (.cells [.slice none 0 0] 67 2 0)) .nil)) .nil) := by kernel_rfl

theorem kyC (r : Mem) (L : Nat) (fs : FnsC) (s : List (Nat × Value)) (b : Tr Value) (q : Bool) (kn : KS) (kx : Nat → KS) (kr : KS) (ms : List Nat) (A : AW) : run (SC r) 83 15 L (lc (rc (ic (ic (rc cKs))))) fs none kn kx kr ((8, .bool q) :: s) b ms A =
    bif q then kn ((8, .bool q) :: s) b ms A else kx 0 ((8, .bool q) :: s) b ms A := by kernel_rfl

theorem kyP (r : Mem) (fs : FnsC) (kn : KS) (ms : List Nat) (A : AW) : preK (SC r) 83 15 (lc (ic (ic (rc cKs)))) 0 fs kn [] TK ms A =
    kn [] (.node (.node .nil (some (.pointer (some ⟨0, 0, none⟩))) .nil) (some (.func (Fn.yield 4) ⟨[]⟩ ⟨[]⟩)) (.node .nil none (.node .nil (some (.pointer (some ⟨5, 0, none⟩))) .nil))) ms A := by kernel_rfl

theorem kyN (r : Mem) (fs : FnsC) (x : Int) (vb : Int) (kn : KS) (ms : List Nat) (A : AW) : tailK (SC r) 83 15 (lc (ic (ic (rc cKs)))) 0 fs kn (.tuple ⟨[.bool true, .int .u64 vb, .int .u64 x]⟩) [] TK ms A =
    kn [(8, .bool true), (7, .tuple ⟨[.bool true, .int .u64 vb, .int .u64 x]⟩)] (.node (.node .nil (some (.pointer (some ⟨0, 0, none⟩))) .nil) (some (.func (Fn.yield 4) ⟨[]⟩ ⟨[]⟩)) (.node .nil none (.node .nil (some (.pointer (some ⟨5, 0, none⟩))) .nil))) ms A := by kernel_rfl

theorem kyM (r : Mem) (fs : FnsC) (kn : KS) (ms : List Nat) (A : AW) : tailK (SC r) 83 15 (lc (ic (ic (rc cKs)))) 0 fs kn (.tuple ⟨[.bool false]⟩) [] TK ms A =
    kn [(8, .bool false), (7, .tuple ⟨[.bool false]⟩)] (.node (.node .nil (some (.pointer (some ⟨0, 0, none⟩))) .nil) (some (.func (Fn.yield 4) ⟨[]⟩ ⟨[]⟩)) (.node .nil none (.node .nil (some (.pointer (some ⟨5, 0, none⟩))) .nil))) ms A := by kernel_rfl

theorem kyQ (r : Mem) (fs : FnsC) (kn : KS) (ms : List Nat) (A : AW) : preK (SC r) 83 15 (lc (ic (rc (rc (ic (ic (rc cKs))))))) 0 fs kn [] TK ms A =
    kn [] (.node (.node .nil (some (.pointer (some ⟨0, 0, none⟩))) .nil) (some (.func (Fn.yield 4) ⟨[]⟩ ⟨[]⟩)) (.node .nil none (.node .nil (some (.pointer (some ⟨5, 0, none⟩))) .nil))) ms A := by kernel_rfl

theorem kyE (r : Mem) (fs : FnsC) (x : Int) (vb : Int) (kn : KS) (ms : List Nat) (A : AW) : tailK (SC r) 83 15 (lc (ic (rc (rc (ic (ic (rc cKs))))))) 0 fs kn (.tuple ⟨[.int .u64 vb, .int .u64 x]⟩) [] TK ms A =
    kn [(10, .int .u64 x), (9, .tuple ⟨[.int .u64 vb, .int .u64 x]⟩)] (.node (.node .nil (some (.pointer (some ⟨0, 0, none⟩))) .nil) (some (.func (Fn.yield 4) ⟨[]⟩ ⟨[]⟩)) (.node (.node .nil (some (.int .u64 x)) .nil) none (.node .nil (some (.pointer (some ⟨5, 0, none⟩))) .nil))) ms A := by kernel_rfl

theorem kyY (r : Mem) (L : Nat) (tm : Tr Nat) (e z clock : Nat) (es : List MapEntry) (seen : List Nat) (x : Int) (s : List (Nat × Value)) (kn : KS) (kx : Nat → KS) (kr : KS) (ms : List Nat) : run (SC r) 83 15 L (rc (ic (rc (rc (ic (ic (rc cKs))))))) (lvlT (SC r) (fun _ => none) tm L 1) none kn kx kr s (TKz x) ms (AKg e z clock es 6 (.slice none 0 0) (miT clock seen) .nil) =
    kn [(14, .bool false), (13, .bool true), (12, .int .u64 x), (11, .func (Fn.yield 4) ⟨[]⟩ ⟨[]⟩)] (.node (.node .nil (some (.pointer (some ⟨0, 0, none⟩))) .nil) (some (.func (Fn.yield 4) ⟨[]⟩ ⟨[]⟩)) (.node (.node .nil (some (.int .u64 x)) .nil) none (.node .nil (some (.pointer (some ⟨5, 0, none⟩))) .nil))) ms (AW.mk 8 (.node (.node (.node (.node .nil (some (.cells [.int .u64 x] 52 7 1)) .nil) (some .defd) .nil) (some (AObj.map es clock)) (.node .nil (some (AObj.miter 1 clock seen clock)) .nil)) (some (.cells [Value.map (some 1)] e 0 z)) (.node (.node .nil (some (AObj.loop LoopState.ready none 183 (En.mk [(6, .func (Fn.func 102) ⟨[]⟩ ⟨[.pointer (some ⟨0, 0, none⟩)]⟩)] (.node (.node .nil (some (.func (Fn.func 102) ⟨[]⟩ ⟨[.pointer (some ⟨0, 0, none⟩)]⟩)) .nil) (some (.slice none 0 0)) (.node (.node .nil (some (.slice none 0 0)) .nil) (some (.pointer (some ⟨2, 0, none⟩))) .nil))) 13 ⟨[7]⟩ (Code.region 2 #[Oper.mk (some 5) (Op.assign (Operand.tmp 7)) 52 "iter.go:51" #[] none] false) (Code.block 1 (Code.region 3 #[Oper.mk (some 8) (Op.load 67 (Operand.tmp 2)) 67 "iter.go:52" #[] none, Oper.mk (some 9) (Op.move (Operand.tmp 5)) 52 "iter.go:52" #[] none, Oper.mk (some 10) (Op.buildSlice 67 1 #[(0, Operand.tmp 9)]) 67 "iter.go:52" #[Edge.mk 1 Ground.data] none, Oper.mk (some 11) (Op.call (Call.mk (Callee.builtin Builtin.append) #[Operand.tmp 8, Operand.tmp 10] #[67, 67])) 67 "iter.go:52" #[Edge.mk 0 Ground.data, Edge.mk 2 Ground.data] none, Oper.mk none (Op.store 67 (Operand.tmp 2) (Operand.tmp 11)) 0 "iter.go:52" #[Edge.mk 3 Ground.data, Edge.mk 3 Ground.chain, Edge.mk 0 Ground.phase, Edge.mk 1 Ground.phase, Edge.mk 2 Ground.phase, Edge.mk 3 Ground.phase] none] false)) 3)) .nil) (some (.cells [.slice (some ⟨7, 0, none⟩) 1 unk] 67 2 0)) (.node .nil (some (.cells [.int .u64 x] 52 6 1)) .nil))) .nil) := by kernel_rfl

theorem kyZ (r : Mem) (L : Nat) (tm : Tr Nat) (e z clock : Nat) (es : List MapEntry) (seen : List Nat) (x : Int) (l : List Value) (n : Nat) (s : List (Nat × Value)) (kn : KS) (kx : Nat → KS) (kr : KS) (ms : List Nat) : run (SC r) 83 15 L (rc (ic (rc (rc (ic (ic (rc cKs))))))) (lvlT (SC r) (fun _ => none) tm L 1) none kn kx kr s (TKz x) ms (AKg e z clock es 7 (.slice (some ⟨6, 0, none⟩) n unk) (miT clock seen) (rwT 6 l)) =
    bif Nat.ble (Nat.add n 1) 1000000 then Option.casesOn (takeAt l 0 (Nat.mul n 1)) (.fail 439) fun val => kn [(14, .bool false), (13, .bool true), (12, .int .u64 x), (11, .func (Fn.yield 4) ⟨[]⟩ ⟨[]⟩)] (.node (.node .nil (some (.pointer (some ⟨0, 0, none⟩))) .nil) (some (.func (Fn.yield 4) ⟨[]⟩ ⟨[]⟩)) (.node (.node .nil (some (.int .u64 x)) .nil) none (.node .nil (some (.pointer (some ⟨5, 0, none⟩))) .nil))) ms (AW.mk 9 (.node (.node (.node (.node .nil (some (.cells [.int .u64 x] 52 7 1)) .nil) (some .defd) .nil) (some (AObj.map es clock)) (.node .nil (some (AObj.miter 1 clock seen clock)) .nil)) (some (.cells [Value.map (some 1)] e 0 z)) (.node (.node (.node .nil (some (.cells (val ++ [.int .u64 x]) 52 6 1)) .nil) (some (AObj.loop LoopState.ready none 183 (En.mk [(6, .func (Fn.func 102) ⟨[]⟩ ⟨[.pointer (some ⟨0, 0, none⟩)]⟩)] (.node (.node .nil (some (.func (Fn.func 102) ⟨[]⟩ ⟨[.pointer (some ⟨0, 0, none⟩)]⟩)) .nil) (some (.slice none 0 0)) (.node (.node .nil (some (.slice none 0 0)) .nil) (some (.pointer (some ⟨2, 0, none⟩))) .nil))) 13 ⟨[7]⟩ (Code.region 2 #[Oper.mk (some 5) (Op.assign (Operand.tmp 7)) 52 "iter.go:51" #[] none] false) (Code.block 1 (Code.region 3 #[Oper.mk (some 8) (Op.load 67 (Operand.tmp 2)) 67 "iter.go:52" #[] none, Oper.mk (some 9) (Op.move (Operand.tmp 5)) 52 "iter.go:52" #[] none, Oper.mk (some 10) (Op.buildSlice 67 1 #[(0, Operand.tmp 9)]) 67 "iter.go:52" #[Edge.mk 1 Ground.data] none, Oper.mk (some 11) (Op.call (Call.mk (Callee.builtin Builtin.append) #[Operand.tmp 8, Operand.tmp 10] #[67, 67])) 67 "iter.go:52" #[Edge.mk 0 Ground.data, Edge.mk 2 Ground.data] none, Oper.mk none (Op.store 67 (Operand.tmp 2) (Operand.tmp 11)) 0 "iter.go:52" #[Edge.mk 3 Ground.data, Edge.mk 3 Ground.chain, Edge.mk 0 Ground.phase, Edge.mk 1 Ground.phase, Edge.mk 2 Ground.phase, Edge.mk 3 Ground.phase] none] false)) 3)) .nil) (some (.cells [.slice (some ⟨8, 0, none⟩) (Nat.add n 1) unk] 67 2 0)) (.node .nil none .nil))) (.node .nil none (.node .nil none (.node .nil (some [8]) .nil)))) else .fail 420 := by kernel_rfl

end Go.Proofs.VV

/- maps.Keys over slices.AppendSeq: the walk, each key once, in any order. -/
namespace Go.Proofs.VV
open Go Go.Ev Go.Proofs
set_option maxRecDepth 100000
set_option linter.unusedVariables false
set_option linter.unusedSimpArgs false

abbrev K16 : Type := {x : Int // 0 ≤ x ∧ x < 65536}
abbrev KT : Type := K16 × Int × Nat
def mkE (t : KT) : MapEntry := ⟨.int .u64 t.2.1, .int .u64 t.1.1, t.2.2⟩
def rowK (l : List KT) : List Value := l.map fun t => .int .u64 t.1.1
def bornK (l : List KT) : List Nat := l.map fun t => t.2.2
theorem rowK_len (l : List KT) : (rowK l).length = l.length := by simp [rowK]
theorem rowK_gnd (l : List KT) : ∀ v ∈ rowK l, gnd v = true := fun v hv => by
 obtain ⟨t, _, rfl⟩ := List.mem_map.1 hv
 rfl
theorem takeAt_fullK (l : List Value) (n : Nat) (h : l.length = n) : takeAt l 0 n = some l := takeAt_all l n 0 l h fun j _ => by rw [Nat.zero_add]
theorem natFK {i j : Nat} (h : i ≠ j) : Nat.beq i j = false := by
 cases e : Nat.beq i j with
 | false => rfl
 | true => exact absurd (Nat.eq_of_beq_eq_true e) h

structure KOk (q : List KT) (clock : Nat) : Prop where
 born : ∀ t ∈ q, t.2.2 < clock
 nodup : (bornK q).Nodup
 few : q.length < 1000000

theorem left_mem {q : List KT} {seen : List Nat} {e : MapEntry} (h : e ∈ nextLeft (q.map mkE) seen) : ∃ t ∈ q, e = mkE t ∧ t.2.2 ∉ seen := by
 unfold nextLeft at h
 obtain ⟨h1, h2⟩ := List.mem_filter.1 h
 obtain ⟨t, ht, rfl⟩ := List.mem_map.1 h1
 refine ⟨t, ht, rfl, fun hm => ?_⟩
 simp [mkE, hm] at h2

theorem left_nil {q : List KT} {seen : List Nat} (h : nextLeft (q.map mkE) seen = []) : ∀ t ∈ q, t.2.2 ∈ seen := fun t ht => by
 unfold nextLeft at h
 have := List.filter_eq_nil_iff.1 h (mkE t) (List.mem_map_of_mem ht)
 simpa [mkE] using this

theorem left_done {q vis rest : List KT} {clock : Nat} (hq : KOk q clock) (hp : (vis ++ rest).Perm q) (h : nextLeft (q.map mkE) (bornK vis) = []) : rest = [] := by
 cases rest with
 | nil => rfl
 | cons t l =>
  exfalso
  have h1 := left_nil h t (hp.mem_iff.1 (by simp))
  have h2 : (bornK (vis ++ t :: l)).Nodup := (hp.map _).nodup_iff.2 hq.nodup
  unfold bornK at h1 h2
  rw [List.map_append, List.nodup_append] at h2
  exact h2.2.2 _ h1 t.2.2 (by simp) rfl

theorem left_more {q vis rest : List KT} {clock : Nat} (hq : KOk q clock) (hp : (vis ++ rest).Perm q) {e : MapEntry} (h : e ∈ nextLeft (q.map mkE) (bornK vis)) : ∃ t rest', e = mkE t ∧ rest'.length < rest.length ∧ ((vis ++ [t]) ++ rest').Perm q := by
 obtain ⟨t, ht, rfl, hn⟩ := left_mem h
 have hm : t ∈ rest := by
  rcases List.mem_append.1 (hp.mem_iff.2 ht) with h1 | h1
  ·exact absurd (List.mem_map_of_mem (f := fun t : KT => t.2.2) h1) hn
  ·exact h1
 obtain ⟨a, b, rfl⟩ := List.append_of_mem hm
 refine ⟨t, a ++ b, rfl, by simp, List.Perm.trans ?_ hp⟩
 rw [List.append_assoc]
 refine List.Perm.append_left vis ?_
 simpa using List.perm_middle.symm

theorem same_ok {q : List KT} {clock : Nat} (hq : KOk q clock) (seen : List Nat) : nextSame (q.map mkE) clock seen clock = true := by
 unfold nextSame
 simp only [Bool.and_eq_true, Bool.not_eq_true', List.all_eq_true, decide_eq_true_eq]
 refine ⟨?_, fun e he => ?_⟩
 ·cases q with
  | nil => simp
  | cons t l =>
   have := hq.born t (by simp)
   have h2 : (List.map mkE (t :: l)).all (fun e => decide (clock ≤ e.born)) = false := by
    simp [mkE]
    intro h
    omega
   rw [h2]
   simp
 ·obtain ⟨t, ht, rfl, _⟩ := left_mem he
  exact hq.born t ht

theorem find_ok {q : List KT} {clock : Nat} (hq : KOk q clock) {t : KT} (ht : t ∈ q) : (q.map mkE).find? (fun e => Nat.beq e.born t.2.2) = some (mkE t) := by
 have key : ∀ (l : List KT), (bornK l).Nodup → t ∈ l → (l.map mkE).find? (fun e => Nat.beq e.born t.2.2) = some (mkE t) := by
  intro l
  induction l with
  | nil => intro _ h; cases h
  | cons x l ih =>
   intro hn hm
   rw [List.map_cons, List.find?_cons]
   unfold bornK at hn
   rw [List.map_cons, List.nodup_cons] at hn
   rcases List.mem_cons.1 hm with rfl | hm
   ·rw [show Nat.beq (mkE t).born t.2.2 = true from Nat.beq_refl _]
   ·have hne : x.2.2 ≠ t.2.2 := fun h => hn.1 (by rw [h]; exact List.mem_map_of_mem (f := fun t : KT => t.2.2) hm)
    rw [show Nat.beq (mkE x).born t.2.2 = false from natFK hne]
    exact ih hn.2 hm
 exact key q hq.nodup ht

section
variable {r : Mem} {γ0 : Gam} {W0 : World} {e z clock : Nat} {q : List KT}

noncomputable def AKv (e z clock : Nat) (q : List KT) : List KT → AW
 | [] => AKg e z clock (q.map mkE) 6 (.slice none 0 0) (miT clock []) .nil
 | t :: l => AKg e z clock (q.map mkE) 7 (.slice (some ⟨6, 0, none⟩) (t :: l).length unk) (miT clock (bornK (t :: l))) (rwT 6 (rowK (t :: l)))
noncomputable def AKf (e z clock : Nat) (q : List KT) : List KT → AW
 | [] => AKg e z clock (q.map mkE) 5 (.slice none 0 0) .nil .nil
 | t :: l => AKg e z clock (q.map mkE) 6 (.slice (some ⟨5, 0, none⟩) (t :: l).length unk) (rwT 5 (rowK (t :: l))) .nil
noncomputable def AKn (e z clock : Nat) (q : List KT) (seen : List Nat) : List KT → AW
 | [] => AKg e z clock (q.map mkE) 6 (.slice none 0 0) (miT clock seen) .nil
 | t :: l => AKg e z clock (q.map mkE) 7 (.slice (some ⟨6, 0, none⟩) (t :: l).length unk) (miT clock seen) (rwT 6 (rowK (t :: l)))


theorem ksG (q : List KT) : ∀ x ∈ q.map mkE, gnd x.key = true ∧ gnd x.val = true := fun x hx => by
 obtain ⟨t, _, rfl⟩ := List.mem_map.1 hx
 exact ⟨rfl, rfl⟩

theorem ren_start (h0 : ∀ i, 5 ≤ i → γ0 i = none) (s : List (Nat × Value)) : Ren (SC r) 83 15 γ0 W0 ⟨⟨s, TK⟩, [], AKv e z clock q []⟩ ⟨⟨[], TK⟩, [], AKv e z clock q []⟩ := by
 refine Ren.of (fun i => i) 5 rfl h0 (Nat.le_of_ble_eq_true rfl) (fun i hi => rfl) ?_ rfl ?_ trivial
 ·simp only [Tr.All, TK]
  repeat' (first | exact trivial | apply And.intro)
  all_goals exact ⟨_, rfl, rfl⟩
 ·simp only [Tr.All, AKv, AKg, miT]
  repeat' (first | exact trivial | apply And.intro)
  all_goals first | rfl | exact .head _ | exact ⟨_, rfl, .defd⟩ | exact ⟨_, rfl, .map (ksG q)⟩ | exact ⟨_, rfl, .miter rfl rfl⟩ | exact ⟨_, rfl, .cells rfl⟩ | exact ⟨_, rfl, .plain (by skip)⟩ | skip
  refine ⟨_, rfl, .same ?_ ?_ rfl rfl⟩
  ·simp only [Tr.All, TQ]
   repeat' (first | exact trivial | apply And.intro)
   all_goals rfl
  ·simp only [scrFix]
   repeat' (first | exact trivial | apply And.intro)
   all_goals rfl

def KeySt (e z clock : Nat) (q : List KT) (j : Nat) (st : St) : Prop := ∃ vis rest, rest.length = j ∧ (vis ++ rest).Perm q ∧ st = ⟨⟨[], TK⟩, [], AKv e z clock q vis⟩

def KeyQ (r : Mem) (γ0 : Gam) (W0 : World) (e z clock : Nat) (q : List KT) : Exit → St → Prop
 | .exit id, st => id = 0 ∧ ∃ vis, vis.Perm q ∧ ∃ st1, Ren (SC r) 83 15 γ0 W0 st st1 ∧ st1 = ⟨⟨[], .nil⟩, [], AKf e z clock q vis⟩
 | _, _ => False

theorem ren_out (h0 : ∀ i, 5 ≤ i → γ0 i = none) (s : List (Nat × Value)) (vis : List KT) : Ren (SC r) 83 15 γ0 W0 ⟨⟨s, TK⟩, [], AKv e z clock q vis⟩ ⟨⟨[], .nil⟩, [], AKf e z clock q vis⟩ := by
 cases vis with
 | nil =>
  refine Ren.of (fun i => i) 5 rfl h0 (Nat.le_of_ble_eq_true rfl) (fun i hi => rfl) ?_ rfl ?_ trivial
  ·simp only [Tr.All, TK]
   repeat' (first | exact trivial | apply And.intro)
   all_goals exact ⟨_, rfl, rfl⟩
  ·simp only [Tr.All, AKv, AKf, AKg, miT]
   repeat' (first | exact trivial | apply And.intro)
   all_goals first | rfl | exact .head _ | exact ⟨_, rfl, .defd⟩ | exact ⟨_, rfl, .map (ksG q)⟩ | exact ⟨_, rfl, .miter rfl rfl⟩ | exact ⟨_, rfl, .cells rfl⟩ | exact ⟨_, rfl, .plain (by skip)⟩ | skip
   refine ⟨_, rfl, .same ?_ ?_ rfl rfl⟩
   ·simp only [Tr.All, TQ]
    repeat' (first | exact trivial | apply And.intro)
    all_goals rfl
   ·simp only [scrFix]
    repeat' (first | exact trivial | apply And.intro)
    all_goals rfl
 | cons t l =>
  refine Ren.of (fun i => bif Nat.beq i 5 then 6 else i) 5 rfl h0 (Nat.le_of_ble_eq_true rfl) (fun i hi => by have : Nat.beq i 5 = false := natFK (by omega); rw [this]; rfl) ?_ rfl ?_ trivial
  ·simp only [Tr.All, TK]
   repeat' (first | exact trivial | apply And.intro)
   all_goals exact ⟨_, rfl, rfl⟩
  ·simp only [Tr.All, AKv, AKf, AKg, miT, rwT]
   repeat' (first | exact trivial | apply And.intro)
   all_goals first | rfl | exact .head _ | exact ⟨_, rfl, .defd⟩ | exact ⟨_, rfl, .map (ksG q)⟩ | exact ⟨_, rfl, .miter rfl rfl⟩ | exact ⟨_, rfl, .cells rfl⟩ | exact ⟨_, rfl, .plain (by exact rowK_gnd (t :: l))⟩ | skip
   refine ⟨_, rfl, .same ?_ ?_ rfl rfl⟩
   ·simp only [Tr.All, TQ]
    repeat' (first | exact trivial | apply And.intro)
    all_goals rfl
   ·simp only [scrFix]
    repeat' (first | exact trivial | apply And.intro)
    all_goals rfl

theorem put_seen {vis : List KT} {seen : List Nat} : ({ AKv e z clock q vis with heap := (AKv e z clock q vis).heap.put 5 (some (.miter 1 clock seen clock)) } : AW) = AKn e z clock q seen vis := by
 cases vis <;> rfl

theorem key_body (hq : KOk q clock) (h0 : ∀ i, 5 ≤ i → γ0 i = none) {F : Fence} {k : Nat} (hF : Wide F) (hro : F.round = none) {j : Nat} {st : St} (hs : KeySt e z clock q j st) :
  Go.Ev.Reach (SC r) 83 15 F k γ0 W0 (ic (ic (rc cKs))) st fun ex st' => match ex with
   | .normal => ∃ j', j' < j ∧ ∃ st1, Ren (SC r) 83 15 γ0 W0 st' st1 ∧ KeySt e z clock q j' st1
   | ex => KeyQ r γ0 W0 e z clock q ex st' := by
 obtain ⟨vis, rest, rfl, hp, rfl⟩ := hs
 rw [show ic (ic (rc cKs)) = Code.seq (lc (ic (ic (rc cKs)))) (.seq (lc (rc (ic (ic (rc cKs))))) (.block 1 (ic (rc (rc (ic (ic (rc cKs)))))))) from by kernel_rfl]
 have hi : (AKv e z clock q vis).heap.get 5 = some (.miter 1 clock (bornK vis) clock) := by cases vis <;> rfl
 have hm : (AKv e z clock q vis).heap.get 1 = some (.map (q.map mkE) clock) := by cases vis <;> rfl
 refine Go.Ev.Reach.seq (Go.Ev.Reach.nextP (SC_ok r) hF TOk.nil (tm := .nil) (L := 0) (d := 0) 0 (s1 := []) (b1 := TK) (ms1 := []) (A1 := AKv e z clock q vis) ?_ (by kernel_rfl) hi hm (same_ok hq _) fun v A' hv => ?_)
 ·rw [kyP]
  exact qn_ok rfl
 rcases hv with ⟨hnil, rfl, rfl⟩ | ⟨x, hx, rfl, rfl⟩
 ·rw [kyM]
  refine qn_ok (Go.Ev.Reach.seq (Go.Ev.Reach.seg (SC_ok r) TOk.nil (tm := .nil) (L := 1) (L' := 1) (d := 1) hF hro ?_))
  rw [kyC]
  simp only [cond_false]
  have := left_done hq hp hnil
  subst this
  rw [List.append_nil] at hp
  exact qn_ok ⟨rfl, vis, hp, _, ren_out h0 _ vis, rfl⟩
 ·obtain ⟨t, rest', rfl, hlt, hp'⟩ := left_more hq hp hx
  rw [show (mkE t).key = .int .u64 t.2.1 from rfl, show (mkE t).val = .int .u64 t.1.1 from rfl, show (mkE t).born = t.2.2 from rfl, kyN, put_seen]
  refine qn_ok (Go.Ev.Reach.seq (Go.Ev.Reach.seg (SC_ok r) TOk.nil (tm := .nil) (L := 1) (L' := 1) (d := 1) hF hro ?_))
  rw [kyC]
  simp only [cond_true]
  have ht : t ∈ q := hp'.mem_iff.1 (by simp)
  have hi : (AKn e z clock q (bornK vis ++ [t.2.2]) vis).heap.get 5 = some (.miter 1 clock (bornK vis ++ [t.2.2]) clock) := by cases vis <;> rfl
  have hm : (AKn e z clock q (bornK vis ++ [t.2.2]) vis).heap.get 1 = some (.map (q.map mkE) clock) := by cases vis <;> rfl
  refine qn_ok (Go.Ev.Reach.block ?_)
  rw [show ic (rc (rc (ic (ic (rc cKs))))) = Code.seq (lc (ic (rc (rc (ic (ic (rc cKs))))))) (rc (ic (rc (rc (ic (ic (rc cKs))))))) from by kernel_rfl]
  refine Go.Ev.Reach.seq (Go.Ev.Reach.entryP (SC_ok r) hF TOk.nil (tm := .nil) (L := 0) (d := 0) 0 (s1 := []) (b1 := TK) (ms1 := []) (A1 := AKn e z clock q (bornK vis ++ [t.2.2]) vis) (i := 5) ?_ (by kernel_rfl) hi hm (by simp) (find_ok hq ht) ?_)
  ·exact (kyQ ..).trans (qn_ok rfl)
  rw [show (mkE t).key = .int .u64 t.2.1 from rfl, show (mkE t).val = .int .u64 t.1.1 from rfl, kyE]
  refine qn_ok (Go.Ev.Reach.seg (SC_ok r) TOk.nil (tm := .nil) (L := 1) (L' := 1) (d := 1) hF hro ?_)
  cases vis with
  | nil =>
   refine (kyY ..).trans (qn_ok ⟨rest'.length, hlt, _, ?_, [t], rest', rfl, hp', rfl⟩)
   show Ren _ _ _ _ _ _ ⟨⟨[], TK⟩, [], AKg e z clock (q.map mkE) 7 (.slice (some ⟨6, 0, none⟩) 1 unk) (miT clock [t.2.2]) (rwT 6 [.int .u64 t.1.1])⟩
   refine Ren.of (fun i => bif Nat.beq i 6 then 7 else i) 5 rfl h0 (Nat.le_of_ble_eq_true rfl) (fun i hi => by have : Nat.beq i 6 = false := natFK (by omega); rw [this]; rfl) ?_ rfl ?_ trivial
   ·simp only [Tr.All, TK]
    repeat' (first | exact trivial | apply And.intro)
    all_goals exact ⟨_, rfl, rfl⟩
   ·simp only [Tr.All, AKg, miT, rwT]
    repeat' (first | exact trivial | apply And.intro)
    all_goals first | rfl | exact .head _ | exact ⟨_, rfl, .defd⟩ | exact ⟨_, rfl, .map (ksG q)⟩ | exact ⟨_, rfl, .miter rfl rfl⟩ | exact ⟨_, rfl, .cells rfl⟩ | exact ⟨_, rfl, .plain (by intro v hv; rw [List.mem_singleton.1 hv]; rfl)⟩ | skip
    refine ⟨_, rfl, .same ?_ ?_ rfl rfl⟩
    ·simp only [Tr.All, TQ]
     repeat' (first | exact trivial | apply And.intro)
     all_goals rfl
    ·simp only [scrFix]
     repeat' (first | exact trivial | apply And.intro)
     all_goals rfl
  | cons t0 l =>
   have hlen : (t0 :: l).length + 1 ≤ q.length := by
    have := hp'.length_eq
    simp only [List.length_append, List.length_cons, List.length_nil] at this ⊢
    omega
   have hfew := hq.few
   have g1 : Nat.ble (Nat.add (t0 :: l).length 1) 1000000 = true := Nat.ble_eq_true_of_le (by simp only [Nat.add_eq]; omega)
   have g2 : takeAt (rowK (t0 :: l)) 0 (Nat.mul (t0 :: l).length 1) = some (rowK (t0 :: l)) := takeAt_fullK _ _ (by rw [rowK_len]; simp)
   refine (kyZ ..).trans ?_
   rw [g1, g2]
   simp only [cond_true]
   refine qn_ok ⟨rest'.length, hlt, _, ?_, (t0 :: l) ++ [t], rest', rfl, hp', rfl⟩
   show Ren _ _ _ _ _ _ ⟨⟨[], TK⟩, [], AKg e z clock (q.map mkE) 7 (.slice (some ⟨6, 0, none⟩) ((t0 :: l) ++ [t]).length unk) (miT clock (bornK ((t0 :: l) ++ [t]))) (rwT 6 (rowK ((t0 :: l) ++ [t])))⟩
   have e1 : ((t0 :: l) ++ [t]).length = Nat.add (t0 :: l).length 1 := by simp
   have e2 : bornK ((t0 :: l) ++ [t]) = bornK (t0 :: l) ++ [t.2.2] := by simp [bornK]
   have e3 : rowK ((t0 :: l) ++ [t]) = rowK (t0 :: l) ++ [.int .u64 t.1.1] := by simp [rowK]
   rw [e1, e2, e3]
   refine Ren.of (fun i => bif Nat.beq i 6 then 8 else i) 5 rfl h0 (Nat.le_of_ble_eq_true rfl) (fun i hi => by have : Nat.beq i 6 = false := natFK (by omega); rw [this]; rfl) ?_ rfl ?_ trivial
   ·simp only [Tr.All, TK]
    repeat' (first | exact trivial | apply And.intro)
    all_goals exact ⟨_, rfl, rfl⟩
   ·simp only [Tr.All, AKg, miT, rwT]
    repeat' (first | exact trivial | apply And.intro)
    all_goals first | rfl | exact .head _ | exact ⟨_, rfl, .defd⟩ | exact ⟨_, rfl, .map (ksG q)⟩ | exact ⟨_, rfl, .miter rfl rfl⟩ | exact ⟨_, rfl, .cells rfl⟩ | exact ⟨_, rfl, .plain (by exact e3 ▸ rowK_gnd ((t0 :: l) ++ [t]))⟩ | skip
    refine ⟨_, rfl, .same ?_ ?_ rfl rfl⟩
    ·simp only [Tr.All, TQ]
     repeat' (first | exact trivial | apply And.intro)
     all_goals rfl
    ·simp only [scrFix]
     repeat' (first | exact trivial | apply And.intro)
     all_goals rfl

theorem keys_S (hq : KOk q clock) : SOk (SC r) 102 yK (AKg e z clock (q.map mkE) 5 (.slice none 0 0) .nil .nil) fun v A' => v = .tuple ⟨[]⟩ ∧ ∃ vis, vis.Perm q ∧ A' = AKf e z clock q vis := by
 obtain ⟨fn, h1, h2, h3, h4⟩ := fn_of (C := SC r) (f := 102) (by kernel_rfl)
 have hn : fn.ntmps = 15 := h3.trans (by kernel_rfl)
 have hr : fn.results.toList = [] := h4.trans (by kernel_rfl)
 rw [bodySC] at h2
 refine call_reachS (SC_ok r) h1 h2 83 (by rw [hn]; rfl) fun γ W F k hw hF hro => ?_
 rw [hn, hr]
 have h0 : ∀ i, 5 ≤ i → γ i = none := hw.fresh
 show Go.Ev.Reach (SC r) 83 15 F k γ W cKs _ _
 rw [show cKs = Code.seq (lc cKs) (.block 0 (.loop (ic (ic (rc cKs))))) from by kernel_rfl]
 refine Go.Ev.Reach.seq (Go.Ev.Reach.seg (SC_ok r) TOk.nil (tm := .nil) (L := 1) (L' := 1) (d := 1) hF hro ((kyB ..).trans (qn_ok ?_)))
 refine Go.Ev.Reach.pre (ren_start h0 _) ?_
 refine Go.Ev.Reach.block ?_
 refine Go.Ev.Reach.loop (I := fun j st => ∃ st1, Ren (SC r) 83 15 γ W st st1 ∧ KeySt e z clock q j st1) (fun j st ⟨st1, hr, hs⟩ => Go.Ev.Reach.pre hr (Go.Ev.Reach.mono (key_body hq h0 hF hro hs) fun ex st' h => ?_)) ⟨_, Ren.refl _, [], q, rfl, by simp, rfl⟩
 cases ex with
 | normal => exact h
 | exit id =>
  obtain ⟨rfl, vis, hv, st2, hr2, rfl⟩ := h
  exact ⟨.inl rfl, _, _, _, hr2, rfl, rfl, vis, hv, rfl⟩
 | _ => exact h.elim

end

end Go.Proofs.VV

/- slices.AppendSeq and Collect over maps.Keys: one row, the keys in any order. -/
namespace Go.Proofs.VV
open Go Go.Ev Go.Proofs
set_option maxRecDepth 100000
set_option linter.unusedVariables false
set_option linter.unusedSimpArgs false

def TQ0 : Tr Value := .node (.node .nil (some seqV) .nil) (some (.slice none 0 0)) .nil
def AR (e z clock : Nat) (es : List MapEntry) (l : List Value) : AW := ⟨4, .node (.node (.node .nil none .nil) (some (.map es clock)) .nil) (some (.cells [.map (some 1)] e 0 z)) (.node .nil (some (.cells l 52 2 1)) .nil), .nil⟩
noncomputable def AR3 (e z clock : Nat) (es : List MapEntry) (l : List Value) : AW := ⟨4, .node (.node (.node .nil (some .defd) .nil) (some (.map es clock)) .nil) (some (.cells [.map (some 1)] e 0 z)) (.node .nil (some (.cells l 52 2 1)) .nil), .nil⟩
noncomputable def AKh (e z clock : Nat) (es : List MapEntry) (n : Nat) (sv : Value) (s5 : Tr AObj) : AW :=
 ⟨n, .node (.node (.node .nil (some .defd) .nil) (some (.map es clock)) s5) (some (.cells [.map (some 1)] e 0 z)) (.node (.node .nil (some (.loop .exhausted none 183 ⟨[(6, seqV)], TQ⟩ 13 ⟨[7]⟩ k_aqA k_aqB 3)) .nil) (some (.cells [sv] 67 2 0)) .nil), .nil⟩
def TQ4 (sv : Value) : Tr Value := .node .nil none (.node (.node .nil (some sv) .nil) none .nil)

def TC0 (v : Value) : Tr Value := .node .nil (some seqV) (.node .nil (some v) .nil)

theorem kcA (r : Mem) (L : Nat) (fs : FnsC) (e z clock : Nat) (es : List MapEntry) (kn : KS) (kx : Nat → KS) (kr : KS) (ms : List Nat) : run (SC r) 183 13 L (lc cAq) fs none kn kx kr (sc0 183 [.slice none 0 0, seqV]) (tr0 183 [.slice none 0 0, seqV]) ms (AK0 e z clock es) =
    kn [] (.node (.node .nil (some (.func (Fn.func 102) ⟨[]⟩ ⟨[.pointer (some ⟨0, 0, none⟩)]⟩)) .nil) (some (.slice none 0 0)) (.node (.node .nil (some (.slice none 0 0)) .nil) (some (.pointer (some ⟨2, 0, none⟩))) .nil)) ms (AW.mk 3 (.node (.node .nil (some (AObj.map es clock)) .nil) (some (.cells [Value.map (some 1)] e 0 z)) (.node .nil (some (.cells [.slice none 0 0] 67 2 0)) .nil)) .nil) := by kernel_rfl

theorem kcB (r : Mem) (L : Nat) (fs : FnsC) (s : List (Nat × Value)) (kn : KS) (kx : Nat → KS) (kr : KS) (ms : List Nat) (A : AW) : run (SC r) 183 13 L (lc (lc (rc cAq))) fs none kn kx kr s TQ ms A =
    kn [(6, .func (Fn.func 102) ⟨[]⟩ ⟨[.pointer (some ⟨0, 0, none⟩)]⟩)] (.node (.node .nil (some (.func (Fn.func 102) ⟨[]⟩ ⟨[.pointer (some ⟨0, 0, none⟩)]⟩)) .nil) (some (.slice none 0 0)) (.node (.node .nil (some (.slice none 0 0)) .nil) (some (.pointer (some ⟨2, 0, none⟩))) .nil)) ms A := by kernel_rfl

theorem kcC (r : Mem) (L : Nat) (fs : FnsC) (e z clock : Nat) (es : List MapEntry) (n : Nat) (l : List Value) (kn : KS) (kx : Nat → KS) (kr : KS) : run (SC r) 183 13 L (rc (rc cAq)) fs none kn kx kr [(6, seqV)] TQ [3] (AKh e z clock es 6 (.slice (some ⟨5, 0, none⟩) n unk) (rwT 5 l)) =
    kr [(12, .slice (some ⟨5, 0, none⟩) n unk)] (.node (.node .nil (some (.func (Fn.func 102) ⟨[]⟩ ⟨[.pointer (some ⟨0, 0, none⟩)]⟩)) .nil) (some (.slice none 0 0)) (.node (.node .nil (some (.slice (some ⟨5, 0, none⟩) n unk)) .nil) (some (.pointer (some ⟨2, 0, none⟩))) .nil)) [3] (AW.mk 6 (.node (.node (.node .nil (some .defd) .nil) (some (AObj.map es clock)) (.node .nil (some (.cells l 52 5 1)) .nil)) (some (.cells [Value.map (some 1)] e 0 z)) (.node (.node .nil (some (AObj.loop LoopState.exhausted none 183 (En.mk [(6, .func (Fn.func 102) ⟨[]⟩ ⟨[.pointer (some ⟨0, 0, none⟩)]⟩)] (.node (.node .nil (some (.func (Fn.func 102) ⟨[]⟩ ⟨[.pointer (some ⟨0, 0, none⟩)]⟩)) .nil) (some (.slice none 0 0)) (.node (.node .nil (some (.slice none 0 0)) .nil) (some (.pointer (some ⟨2, 0, none⟩))) .nil))) 13 ⟨[7]⟩ (Code.region 2 #[Oper.mk (some 5) (Op.assign (Operand.tmp 7)) 52 "iter.go:51" #[] none] false) (Code.block 1 (Code.region 3 #[Oper.mk (some 8) (Op.load 67 (Operand.tmp 2)) 67 "iter.go:52" #[] none, Oper.mk (some 9) (Op.move (Operand.tmp 5)) 52 "iter.go:52" #[] none, Oper.mk (some 10) (Op.buildSlice 67 1 #[(0, Operand.tmp 9)]) 67 "iter.go:52" #[Edge.mk 1 Ground.data] none, Oper.mk (some 11) (Op.call (Call.mk (Callee.builtin Builtin.append) #[Operand.tmp 8, Operand.tmp 10] #[67, 67])) 67 "iter.go:52" #[Edge.mk 0 Ground.data, Edge.mk 2 Ground.data] none, Oper.mk none (Op.store 67 (Operand.tmp 2) (Operand.tmp 11)) 0 "iter.go:52" #[Edge.mk 3 Ground.data, Edge.mk 3 Ground.chain, Edge.mk 0 Ground.phase, Edge.mk 1 Ground.phase, Edge.mk 2 Ground.phase, Edge.mk 3 Ground.phase] none] false)) 3)) .nil) (some (.cells [.slice (some ⟨5, 0, none⟩) n unk] 67 2 0)) .nil)) .nil) := by kernel_rfl

theorem kcF (r : Mem) (e z clock : Nat) (es : List MapEntry) (n : Nat) (l : List Value) (k : KV) : finK (SC r) 183 (resOf (SC r) 113) k [] (TQ4 (.slice (some ⟨2, 0, none⟩) n unk)) [3] (AR3 e z clock es l) =
    k (.slice (some ⟨2, 0, none⟩) n unk) (AW.mk 4 (.node (.node (.node .nil none .nil) (some (AObj.map es clock)) .nil) (some (.cells [Value.map (some 1)] e 0 z)) (.node .nil (some (.cells l 52 2 1)) .nil)) .nil) := by kernel_rfl

theorem kcG (r : Mem) (L : Nat) (fs : FnsC) (kn : KS) (kx : Nat → KS) (kr : KS) (ms : List Nat) (A : AW) : run (SC r) 5 5 L (lc cCo) fs none kn kx kr (sc0 5 [seqV]) (tr0 5 [seqV]) ms A =
    kn [] (.node .nil (some (.func (Fn.func 102) ⟨[]⟩ ⟨[.pointer (some ⟨0, 0, none⟩)]⟩)) (.node .nil (some (.slice none 0 0)) .nil)) ms A := by kernel_rfl

theorem kcH (r : Mem) (fs : FnsC) (kn : KS) (ms : List Nat) (A : AW) : preK (SC r) 5 5 (lc (rc cCo)) 1 fs kn [] (TC0 (.slice none 0 0)) ms A =
    kn [(3, .func (Fn.func 102) ⟨[]⟩ ⟨[.pointer (some ⟨0, 0, none⟩)]⟩)] (.node .nil (some (.func (Fn.func 102) ⟨[]⟩ ⟨[.pointer (some ⟨0, 0, none⟩)]⟩)) (.node .nil (some (.slice none 0 0)) .nil)) ms A := by kernel_rfl

theorem kcI (r : Mem) (fs : FnsC) (n : Nat) (kn : KS) (ms : List Nat) (A : AW) : tailK (SC r) 5 5 (lc (rc cCo)) 1 fs kn (.slice (some ⟨2, 0, none⟩) n unk) [(3, seqV)] (TC0 (.slice none 0 0)) ms A =
    kn [(4, .slice (some ⟨2, 0, none⟩) n unk), (3, .func (Fn.func 102) ⟨[]⟩ ⟨[.pointer (some ⟨0, 0, none⟩)]⟩)] (.node .nil (some (.func (Fn.func 102) ⟨[]⟩ ⟨[.pointer (some ⟨0, 0, none⟩)]⟩)) (.node .nil (some (.slice (some ⟨2, 0, none⟩) n unk)) .nil)) ms A := by kernel_rfl

theorem kcK (r : Mem) (L : Nat) (fs : FnsC) (s : List (Nat × Value)) (n : Nat) (kn : KS) (kx : Nat → KS) (kr : KS) (ms : List Nat) (A : AW) : run (SC r) 5 5 L (rc (rc cCo)) fs none kn kx kr s (TC0 (.slice (some ⟨2, 0, none⟩) n unk)) ms A =
    kr s (.node .nil (some (.func (Fn.func 102) ⟨[]⟩ ⟨[.pointer (some ⟨0, 0, none⟩)]⟩)) (.node .nil (some (.slice (some ⟨2, 0, none⟩) n unk)) .nil)) ms A := by kernel_rfl

theorem kcL (r : Mem) (s : List (Nat × Value)) (n : Nat) (k : KV) (A : AW) : finK (SC r) 5 (resOf (SC r) 100) k s (TC0 (.slice (some ⟨2, 0, none⟩) n unk)) [] A =
    k (.slice (some ⟨2, 0, none⟩) n unk) A := by kernel_rfl

theorem kcJ (r : Mem) (A : AW) : callAt (SC r) 5 (lc (rc cCo)) 1 ⟨[(3, seqV)], TC0 (.slice none 0 0)⟩ A = some (113, [.slice none 0 0, seqV], A) := by kernel_rfl

section
variable {r : Mem} {γ0 : Gam} {W0 : World} {e z clock : Nat} {q : List KT}


theorem append_S (hq : KOk q clock) (hne : q ≠ []) : SOk (SC r) 113 [.slice none 0 0, seqV] (AK0 e z clock (q.map mkE)) fun v A' => ∃ vis, vis.Perm q ∧ v = .slice (some ⟨2, 0, none⟩) vis.length unk ∧ A' = AR e z clock (q.map mkE) (rowK vis) := by
 obtain ⟨fn, h1, h2, h3, h4⟩ := fn_of (C := SC r) (f := 113) (by kernel_rfl)
 have hn : fn.ntmps = 13 := h3.trans (by kernel_rfl)
 rw [bodySC] at h2
 refine call_reachS (SC_ok r) h1 h2 183 (by rw [hn]; rfl) fun γ W F k hw hF hro => ?_
 rw [hn, h4]
 have h0 : ∀ i, 2 ≤ i → γ i = none := hw.fresh
 show Go.Ev.Reach (SC r) 183 13 F k γ W cAq _ _
 obtain ⟨fo, ps, hrf⟩ : ∃ fo ps, cAq = Code.seq (lc cAq) (.seq (.seq (lc (lc (rc cAq))) (.block 0 (.rangeFunc fo ps k_aqA k_aqB))) (rc (rc cAq))) ∧ ps = ⟨[7]⟩ ∧ fo = .tmp 6 := ⟨.tmp 6, ⟨[7]⟩, by kernel_rfl, rfl, rfl⟩
 obtain ⟨hrf, rfl, rfl⟩ := hrf
 rw [hrf]
 refine Go.Ev.Reach.seq (Go.Ev.Reach.seg (SC_ok r) TOk.nil (tm := .nil) (L := 1) (L' := 1) (d := 1) hF hro ((kcA ..).trans (qn_ok ?_)))
 refine Go.Ev.Reach.seq (Go.Ev.Reach.seq (Go.Ev.Reach.seg (SC_ok r) TOk.nil (tm := .nil) (L := 1) (L' := 1) (d := 1) hF hro ((kcB r 1 _ [] _ _ _ [] _).trans (qn_ok ?_))))
 have eA : (((⟨3, .node (.node .nil (some (.map (q.map mkE) clock)) .nil) (some (.cells [.map (some 1)] e 0 z)) (.node .nil (some (.cells [.slice none 0 0] 67 2 0)) .nil), .nil⟩ : AW).new .defd).new (.loop .ready none 183 ⟨[(6, seqV)], TQ⟩ 13 ⟨[7]⟩ k_aqA k_aqB 3)) = AKg e z clock (q.map mkE) 5 (.slice none 0 0) .nil .nil := by kernel_rfl
 have hkey := keys_S (r := r) (e := e) (z := z) hq
 rw [← eA] at hkey
 refine Go.Ev.Reach.block (Go.Ev.Reach.rangeS (SC_ok r) hF hro (g := 102) (first := []) (captured := [.pointer (some ⟨0, 0, none⟩)]) rfl (by kernel_rfl) hkey fun v A' ⟨_, vis, hv, hA⟩ => ?_)
 subst hA
 cases vis with
 | nil => exact absurd hv.nil_eq.symm hne
 | cons t l =>
  refine ⟨⟨⟨[(6, seqV)], TQ⟩, [3], AKh e z clock (q.map mkE) 6 (.slice (some ⟨5, 0, none⟩) (t :: l).length unk) (rwT 5 (rowK (t :: l)))⟩, by kernel_rfl, ?_⟩
  refine Go.Ev.Reach.seg (SC_ok r) TOk.nil (tm := .nil) (L := 1) (L' := 1) (d := 1) hF hro ((kcC ..).trans (qn_ok ⟨.inr rfl, ⟨⟨[], TQ4 (.slice (some ⟨2, 0, none⟩) (t :: l).length unk)⟩, [3], AR3 e z clock (q.map mkE) (rowK (t :: l))⟩, _, _, ?_, ?_, t :: l, hv, rfl, rfl⟩))
  ·
   refine Ren.of (fun i => bif Nat.beq i 2 then 5 else i) 2 rfl h0 (Nat.le_of_ble_eq_true rfl) (fun i hi => by have : Nat.beq i 2 = false := natFK (by omega); rw [this]; rfl) ?_ rfl ?_ trivial
   ·simp only [Tr.All, TQ4]
    repeat' (first | exact trivial | apply And.intro)
    all_goals exact ⟨_, rfl, rfl⟩
   ·simp only [Tr.All, AR3]
    repeat' (first | exact trivial | apply And.intro)
    all_goals first | rfl | exact .head _ | exact ⟨_, rfl, .defd⟩ | exact ⟨_, rfl, .map (ksG q)⟩ | exact ⟨_, rfl, .cells rfl⟩ | exact ⟨_, rfl, .plain (by exact rowK_gnd (t :: l))⟩
  ·rw [← finK_finish]
   exact kcF ..

theorem collect_S (hq : KOk q clock) (hne : q ≠ []) : SOk (SC r) 100 [seqV] (AK0 e z clock (q.map mkE)) fun v A' => ∃ vis, vis.Perm q ∧ v = .slice (some ⟨2, 0, none⟩) vis.length unk ∧ A' = AR e z clock (q.map mkE) (rowK vis) := by
 obtain ⟨fn, h1, h2, h3, h4⟩ := fn_of (C := SC r) (f := 100) (by kernel_rfl)
 have hn : fn.ntmps = 5 := h3.trans (by kernel_rfl)
 rw [bodySC] at h2
 refine call_reachS (SC_ok r) h1 h2 5 (by rw [hn]; rfl) fun γ W F k hw hF hro => ?_
 rw [hn, h4]
 show Go.Ev.Reach (SC r) 5 5 F k γ W cCo _ _
 rw [show cCo = Code.seq (lc cCo) (.seq (lc (rc cCo)) (rc (rc cCo))) from by kernel_rfl]
 refine Go.Ev.Reach.seq (Go.Ev.Reach.seg (SC_ok r) TOk.nil (tm := .nil) (L := 1) (L' := 1) (d := 1) hF hro ((kcG ..).trans (qn_ok ?_)))
 refine Go.Ev.Reach.seq (Go.Ev.Reach.callP (SC_ok r) hF TOk.nil (tm := .nil) (L := 0) (d := 0) 1 ((kcH ..).trans (qn_ok rfl)) (kcJ ..) (append_S (e := e) (z := z) hq hne) fun v A' ⟨vis, hv, h1, h2⟩ => ?_)
 subst h1 h2
 refine (kcI ..).trans (qn_ok (Go.Ev.Reach.seg (SC_ok r) TOk.nil (tm := .nil) (L := 1) (L' := 1) (d := 1) hF hro ((kcK ..).trans (qn_ok ⟨.inr rfl, _, _, _, Ren.refl _, ?_, vis, hv, rfl, rfl⟩))))
 rw [← finK_finish]
 exact kcL ..

end

end Go.Proofs.VV

/- slices.Sort and Sorted of at most twelve, run. -/
namespace Go.Proofs
open Go Go.Ev
set_option linter.unusedVariables false
set_option linter.unusedSimpArgs false
set_option maxRecDepth 100000

def m_bl (x : Int) : Int := if x < 1 then 0 else if x < 2 then 1 else if x < 4 then 2 else if x < 8 then 3 else 4
def few12 (x : Int) : Bool := decide (0 ≤ x) && decide (x ≤ 12)
def eBl : Ent := ent (fun args _ => match args with | [.int .u64 x] => few12 x | _ => false) (fun args _ => match args with | [.int .u64 x] => I (m_bl x) | _ => undef)
noncomputable def tPq (n : Nat) (A0 A1 : AW) : Tbl := tcons 117 (entAt [slW n, I 0, I n] A0 (.tuple ⟨[]⟩) A1) fun _ => none
noncomputable def tSrt (n : Nat) (A0 A1 : AW) : Tbl := tcons 62 eBl (tcons 114 (entAt [slW n, I 0, I n, I (m_bl n)] A0 (.tuple ⟨[]⟩) A1) fun _ => none)
noncomputable def cPq : Code := bodyOf S0 114
noncomputable def xPq : Code := ic (ic (ic (rc (rc cPq))))
abbrev pqA (n : Nat) (m : Int) : List Value := [slW n, I 0, I n, I m]
noncomputable def tSd (n : Nat) (A0 A1 : AW) : Tbl := tcons 101 (entAt [slW n] A0 (.tuple ⟨[]⟩) A1) fun _ => none

noncomputable def cSd : Code := bodyOf S0 74
def TD0 (q : Value) : Tr Value := .node .nil (some q) (.node .nil (some (.slice none 0 0)) .nil)
def TD1 (q : Value) (n : Nat) : Tr Value := .node (.node (.node .nil (some (slW n)) .nil) none .nil) (some q) (.node .nil (some (.slice none 0 0)) .nil)
def TD2 (q : Value) (n : Nat) : Tr Value := .node (.node (.node .nil (some (slW n)) .nil) none .nil) (some q) (.node .nil (some (slW n)) .nil)

theorem pqA1 (r : Mem) (L : Nat) (fs : FnsC) (n : Nat) (m : Int) (kn : KS) (kx : Nat → KS) (kr : KS) (ms : List Nat) (A : AW) : run (SC r) 1807 134 L (lc cPq) fs none kn kx kr (sc0 1807 (pqA n m)) (tr0 1807 (pqA n m)) ms A =
    kn [] (.node (.node (.node .nil (some (I m)) .nil) (some (I (Int.ofNat 0))) .nil) (some (.slice (some ⟨2, 0, none⟩) n unk)) (.node (.node (.node .nil (some (.bool true)) .nil) none .nil) (some (I (Int.ofNat n))) .nil)) ms A := by kernel_rfl

theorem pqB (r : Mem) (L : Nat) (fs : FnsC) (n : Nat) (m : Int) (s : List (Nat × Value)) (kn : KS) (kx : Nat → KS) (kr : KS) (ms : List Nat) (A : AW) : run (SC r) 1807 134 L (lc (rc cPq)) fs none kn kx kr s ((tr0 1807 (pqA n m)).put 8 (some (.bool true))) ms A =
    kn [] (.node (.node (.node .nil (some (I m)) .nil) (some (I (Int.ofNat 0))) (.node (.node .nil (some (.bool true)) .nil) none .nil)) (some (.slice (some ⟨2, 0, none⟩) n unk)) (.node (.node (.node .nil (some (.bool true)) .nil) none .nil) (some (I (Int.ofNat n))) .nil)) ms A := by kernel_rfl

theorem pqC (r : Mem) (L : Nat) (fs : FnsC) (n : Nat) (m : Int) (s : List (Nat × Value)) (kn : KS) (kx : Nat → KS) (kr : KS) (ms : List Nat) (A : AW) : run (SC r) 1807 134 L (lc xPq) fs none kn kx kr s (((tr0 1807 (pqA n m)).put 8 (some (.bool true))).put 9 (some (.bool true))) ms A =
    kn [(21, I (IntKind.wrap .i64 (Int.ofNat n - Int.ofNat 0))), (20, I (Int.ofNat 0)), (19, I (Int.ofNat n))] (.node (.node (.node .nil (some (I m)) .nil) (some (I (Int.ofNat 0))) (.node (.node .nil (some (.bool true)) .nil) none .nil)) (some (.slice (some ⟨2, 0, none⟩) n unk)) (.node (.node (.node .nil (some (.bool true)) .nil) none .nil) (some (I (Int.ofNat n))) (.node (.node .nil (some (I (IntKind.wrap .i64 (Int.ofNat n - Int.ofNat 0)))) .nil) none .nil))) ms A := by kernel_rfl

theorem pqD (r : Mem) (L : Nat) (n : Nat) (m : Int) (e z clock : Nat) (es : List MapEntry) (l l' : List Value) (s : List (Nat × Value)) (kn : KS) (kx : Nat → KS) (kr : KS) (ms : List Nat) : run (SC r) 1807 134 L (lc (rc xPq)) (lvlT (SC r) (tPq n (VK.AR e z clock es l) (VK.AR e z clock es l')) .nil 1 1) none kn kx kr s ((((tr0 1807 (pqA n m)).put 8 (some (.bool true))).put 9 (some (.bool true))).put 10 (some (I n))) ms (VK.AR e z clock es l) =
    bif decide (Int.ofNat n ≤ 12) then bif m_at [.slice (some ⟨2, 0, none⟩) n unk, I (Int.ofNat 0), I (Int.ofNat n)] [.slice (some ⟨2, 0, none⟩) n unk, I (Int.ofNat 0), I (Int.ofNat n)] (AW.mk 4 (.node (.node (.node .nil none .nil) (some (AObj.map es clock)) .nil) (some (.cells [Value.map (some 1)] e 0 z)) (.node .nil (some (.cells l 52 2 1)) .nil)) .nil) (AW.mk 4 (.node (.node (.node .nil none .nil) (some (AObj.map es clock)) .nil) (some (.cells [Value.map (some 1)] e 0 z)) (.node .nil (some (.cells l 52 2 1)) .nil)) .nil) then kr [(27, .tuple ⟨[]⟩), (26, I (Int.ofNat n)), (25, I (Int.ofNat 0)), (24, .slice (some ⟨2, 0, none⟩) n unk)] (.node (.node (.node .nil (some (I m)) .nil) (some (I (Int.ofNat 0))) (.node (.node .nil (some (.bool true)) .nil) none .nil)) (some (.slice (some ⟨2, 0, none⟩) n unk)) (.node (.node (.node .nil (some (.bool true)) .nil) none .nil) (some (I (Int.ofNat n))) (.node (.node .nil (some (I (Int.ofNat n))) .nil) none .nil))) ms (AW.mk 4 (.node (.node (.node .nil none .nil) (some (AObj.map es clock)) .nil) (some (.cells [Value.map (some 1)] e 0 z)) (.node .nil (some (.cells l' 52 2 1)) .nil)) .nil) else .fail 420 else kn [(23, .bool false), (22, I (Int.ofNat n))] (.node (.node (.node .nil (some (I m)) .nil) (some (I (Int.ofNat 0))) (.node (.node .nil (some (.bool true)) .nil) none .nil)) (some (.slice (some ⟨2, 0, none⟩) n unk)) (.node (.node (.node .nil (some (.bool true)) .nil) none .nil) (some (I (Int.ofNat n))) (.node (.node .nil (some (I (Int.ofNat n))) .nil) none .nil))) ms (AW.mk 4 (.node (.node (.node .nil none .nil) (some (AObj.map es clock)) .nil) (some (.cells [Value.map (some 1)] e 0 z)) (.node .nil (some (.cells l 52 2 1)) .nil)) .nil) := by kernel_rfl

theorem pqF (r : Mem) (n : Nat) (m : Int) (s : List (Nat × Value)) (k : KV) (A : AW) : finK (SC r) 1807 (resOf (SC r) 114) k s ((((tr0 1807 (pqA n m)).put 8 (some (.bool true))).put 9 (some (.bool true))).put 10 (some (I n))) [] A =
    k (.tuple ⟨[]⟩) A := by kernel_rfl

theorem soA (r : Mem) (n e z clock : Nat) (es : List MapEntry) (l l' : List Value) : (lvlT (SC r) (tSrt n (VK.AR e z clock es l) (VK.AR e z clock es l')) .nil 2 1).call 101 [slW n] (VK.AR e z clock es l) .ret =
    bif decide (0 ≤ IntKind.wrap .u64 (Int.ofNat n)) && decide (IntKind.wrap .u64 (Int.ofNat n) ≤ 12) then bif m_at [.slice (some ⟨2, 0, none⟩) n unk, I (Int.ofNat 0), I (Int.ofNat n), I (m_bl (IntKind.wrap .u64 (Int.ofNat n)))] [.slice (some ⟨2, 0, none⟩) n unk, I (Int.ofNat 0), I (Int.ofNat n), I (m_bl (Int.ofNat n))] (AW.mk 4 (.node (.node (.node .nil none .nil) (some (AObj.map es clock)) .nil) (some (.cells [Value.map (some 1)] e 0 z)) (.node .nil (some (.cells l 52 2 1)) .nil)) .nil) (AW.mk 4 (.node (.node (.node .nil none .nil) (some (AObj.map es clock)) .nil) (some (.cells [Value.map (some 1)] e 0 z)) (.node .nil (some (.cells l 52 2 1)) .nil)) .nil) then .ret (.tuple ⟨[]⟩) (AW.mk 4 (.node (.node (.node .nil none .nil) (some (AObj.map es clock)) .nil) (some (.cells [Value.map (some 1)] e 0 z)) (.node .nil (some (.cells l' 52 2 1)) .nil)) .nil) else .fail 420 else .fail 420 := by kernel_rfl

theorem sdA (r : Mem) (L : Nat) (fs : FnsC) (q : Nat) (kn : KS) (kx : Nat → KS) (kr : KS) (ms : List Nat) (A : AW) : run (SC r) 13 9 L (lc cSd) fs none kn kx kr (sc0 13 [.func (.func q) ⟨[]⟩ ⟨[.pointer (some ⟨0, 0, none⟩)]⟩]) (tr0 13 [.func (.func q) ⟨[]⟩ ⟨[.pointer (some ⟨0, 0, none⟩)]⟩]) ms A =
    kn [] (.node .nil (some (.func (Fn.func q) ⟨[]⟩ ⟨[.pointer (some ⟨0, 0, none⟩)]⟩)) (.node .nil (some (.slice none 0 0)) .nil)) ms A := by kernel_rfl

theorem sdB (r : Mem) (fs : FnsC) (q : Nat) (kn : KS) (ms : List Nat) (A : AW) : preK (SC r) 13 9 (lc (rc cSd)) 1 fs kn [] (TD0 (.func (.func q) ⟨[]⟩ ⟨[.pointer (some ⟨0, 0, none⟩)]⟩)) ms A =
    kn [(4, .func (Fn.func q) ⟨[]⟩ ⟨[.pointer (some ⟨0, 0, none⟩)]⟩)] (.node .nil (some (.func (Fn.func q) ⟨[]⟩ ⟨[.pointer (some ⟨0, 0, none⟩)]⟩)) (.node .nil (some (.slice none 0 0)) .nil)) ms A := by kernel_rfl

theorem sdC (r : Mem) (fs : FnsC) (q n : Nat) (s : List (Nat × Value)) (kn : KS) (ms : List Nat) (A : AW) : tailK (SC r) 13 9 (lc (rc cSd)) 1 fs kn (slW n) s (TD0 (.func (.func q) ⟨[]⟩ ⟨[.pointer (some ⟨0, 0, none⟩)]⟩)) ms A =
    kn ((5, .slice (some ⟨2, 0, none⟩) n unk) :: s) (.node (.node (.node .nil (some (.slice (some ⟨2, 0, none⟩) n unk)) .nil) none .nil) (some (.func (Fn.func q) ⟨[]⟩ ⟨[.pointer (some ⟨0, 0, none⟩)]⟩)) (.node .nil (some (.slice none 0 0)) .nil)) ms A := by kernel_rfl

theorem sdD (r : Mem) (L : Nat) (q n e z clock : Nat) (es : List MapEntry) (l l' : List Value) (s : List (Nat × Value)) (kn : KS) (kx : Nat → KS) (kr : KS) (ms : List Nat) : run (SC r) 13 9 L (rc (rc cSd)) (lvlT (SC r) (tSd n (VK.AR e z clock es l) (VK.AR e z clock es l')) .nil 1 1) none kn kx kr s (TD1 (.func (.func q) ⟨[]⟩ ⟨[.pointer (some ⟨0, 0, none⟩)]⟩) n) ms (VK.AR e z clock es l) =
    bif m_at [.slice (some ⟨2, 0, none⟩) n unk] [.slice (some ⟨2, 0, none⟩) n unk] (AW.mk 4 (.node (.node (.node .nil none .nil) (some (AObj.map es clock)) .nil) (some (.cells [Value.map (some 1)] e 0 z)) (.node .nil (some (.cells l 52 2 1)) .nil)) .nil) (AW.mk 4 (.node (.node (.node .nil none .nil) (some (AObj.map es clock)) .nil) (some (.cells [Value.map (some 1)] e 0 z)) (.node .nil (some (.cells l 52 2 1)) .nil)) .nil) then kr [(8, .slice (some ⟨2, 0, none⟩) n unk)] (.node (.node (.node .nil (some (.slice (some ⟨2, 0, none⟩) n unk)) .nil) none .nil) (some (.func (Fn.func q) ⟨[]⟩ ⟨[.pointer (some ⟨0, 0, none⟩)]⟩)) (.node .nil (some (.slice (some ⟨2, 0, none⟩) n unk)) .nil)) ms (AW.mk 4 (.node (.node (.node .nil none .nil) (some (AObj.map es clock)) .nil) (some (.cells [Value.map (some 1)] e 0 z)) (.node .nil (some (.cells l' 52 2 1)) .nil)) .nil) else .fail 420 := by kernel_rfl

theorem sdE (r : Mem) (s : List (Nat × Value)) (q n : Nat) (k : KV) (A : AW) : finK (SC r) 13 (resOf (SC r) 74) k s (TD2 (.func (.func q) ⟨[]⟩ ⟨[.pointer (some ⟨0, 0, none⟩)]⟩) n) [] A =
    k (.slice (some ⟨2, 0, none⟩) n unk) A := by kernel_rfl

end Go.Proofs

/- slices.Sorted of at most twelve: what it answers. -/
namespace Go.Proofs
open Go Go.Ev
set_option linter.unusedVariables false
set_option linter.unusedSimpArgs false
set_option maxRecDepth 100000

theorem bl_calls : ∀ i : Fin 13, GrT Tryz.prog (fun _ _ => none) 62 [.int .u64 (Int.ofNat i.val)] (I (m_bl (Int.ofNat i.val)))
 | ⟨0, _⟩ => GrT.closed evMixed evNames .nil 100 10 (by kernel_rfl)
 | ⟨1, _⟩ => GrT.closed evMixed evNames .nil 100 10 (by kernel_rfl)
 | ⟨2, _⟩ => GrT.closed evMixed evNames .nil 100 10 (by kernel_rfl)
 | ⟨3, _⟩ => GrT.closed evMixed evNames .nil 100 10 (by kernel_rfl)
 | ⟨4, _⟩ => GrT.closed evMixed evNames .nil 100 10 (by kernel_rfl)
 | ⟨5, _⟩ => GrT.closed evMixed evNames .nil 100 10 (by kernel_rfl)
 | ⟨6, _⟩ => GrT.closed evMixed evNames .nil 100 10 (by kernel_rfl)
 | ⟨7, _⟩ => GrT.closed evMixed evNames .nil 100 10 (by kernel_rfl)
 | ⟨8, _⟩ => GrT.closed evMixed evNames .nil 100 10 (by kernel_rfl)
 | ⟨9, _⟩ => GrT.closed evMixed evNames .nil 100 10 (by kernel_rfl)
 | ⟨10, _⟩ => GrT.closed evMixed evNames .nil 100 10 (by kernel_rfl)
 | ⟨11, _⟩ => GrT.closed evMixed evNames .nil 100 10 (by kernel_rfl)
 | ⟨12, _⟩ => GrT.closed evMixed evNames .nil 100 10 (by kernel_rfl)

theorem eBl_ok (r : Mem) : EOk (SC r) 62 eBl := EOk.ent fun args A hg => by
 split at hg
 ·rename_i x
  simp only [few12, Bool.and_eq_true, decide_eq_true_eq] at hg
  obtain ⟨n, rfl⟩ := Int.eq_ofNat_of_zero_le hg.1
  exact ((bl_calls ⟨n, by omega⟩).plain (C := SC r) rfl A)
 ·cases hg

section
variable {r : Mem} {e z clock n : Nat} {es : List MapEntry} {zs T : List Int}

theorem SOk.at {C : Cfg} {f : Nat} {args : List Value} {A A1 : AW} {v : Value} (h : SOk C f args A fun u B => u = v ∧ B = A1) : EOk C f (entAt args A v A1) := entAt_ok fun F hF k γ W args' hw hR ha => h.one F hF k γ W args' hw hR ha

theorem pdq_S (m : Int) (hn : zs.length = n) (h12 : n ≤ 12) (h1 : 1 ≤ n) (hT : Srt T) (hp : T.Perm zs) :
  SOk (SC r) 114 (pqA n m) (VK.AR e z clock es (rowU zs)) fun v A' => v = .tuple ⟨[]⟩ ∧ A' = VK.AR e z clock es (rowU T) := by
 obtain ⟨fn, h1', h2, h3, h4⟩ := fn_of (C := SC r) (f := 114) (by kernel_rfl)
 have hn' : fn.ntmps = 134 := h3.trans (by kernel_rfl)
 rw [bodySC] at h2
 refine call_reachS (SC_ok r) h1' h2 1807 (by rw [hn']; rfl) fun γ W F k hw hF hro => ?_
 rw [hn', h4]
 show Go.Ev.Reach (SC r) 1807 134 F k γ W cPq _ _
 rw [show cPq = Code.seq (lc cPq) (.seq (lc (rc cPq)) (.block 0 (.loop (.block 1 (.seq (lc xPq) (.seq (lc (rc xPq)) (rc (rc xPq)))))))) from by kernel_rfl]
 refine Go.Ev.Reach.seq (Go.Ev.Reach.seg (SC_ok r) TOk.nil (tm := .nil) (L := 1) (L' := 1) (d := 1) hF hro ((pqA1 ..).trans (qn_ok ?_)))
 refine Go.Ev.Reach.seq (Go.Ev.Reach.seg (SC_ok r) TOk.nil (tm := .nil) (L := 1) (L' := 1) (d := 1) hF hro ((pqB r 1 _ n m [] ..).trans (qn_ok ?_)))
 refine Go.Ev.Reach.block (Go.Ev.Reach.loop (I := fun j st => st = ⟨⟨[], ((tr0 1807 (pqA n m)).put 8 (some (.bool true))).put 9 (some (.bool true))⟩, [], VK.AR e z clock es (rowU zs)⟩) (fun j st h => ?_) (j := 0) rfl)
 subst h
 refine Go.Ev.Reach.block (Go.Ev.Reach.seq (Go.Ev.Reach.seg (SC_ok r) TOk.nil (tm := .nil) (L := 1) (L' := 1) (d := 1) hF hro ((pqC ..).trans (qn_ok ?_))))
 have g : IntKind.wrap IntKind.i64 (Int.ofNat n - Int.ofNat 0) = (n : Int) := by rw [wrI (by simp; omega)]; simp
 rw [g]
 have hins := SOk.at (insertion_S (r := r) (e := e) (z := z) (clock := clock) (es := es) hn (by omega) h1 hT hp)
 refine Go.Ev.Reach.seq (Go.Ev.Reach.seg (SC_ok r) (t := tPq n (VK.AR e z clock es (rowU zs)) (VK.AR e z clock es (rowU T))) (TOk.nil.cons hins) (tm := .nil) (L := 1) (L' := 1) (d := 1) hF hro ((pqD ..).trans ?_))
 have c : Int.ofNat n ≤ 12 := by simp; omega
 rw [dT c, cond_true, at_rfl, cond_true]
 refine qn_ok ⟨.inr rfl, _, .tuple ⟨[]⟩, _, Ren.refl _, ?_, rfl, rfl⟩
 rw [← finK_finish]
 exact pqF ..

theorem wrUi (h12 : n ≤ 12) : IntKind.wrap IntKind.u64 (Int.ofNat n) = Int.ofNat n := by
 have : ∀ i : Fin 13, IntKind.wrap IntKind.u64 (Int.ofNat i.val) = Int.ofNat i.val := by decide +kernel
 exact this ⟨n, by omega⟩

theorem sort_at12 (hn : zs.length = n) (h12 : n ≤ 12) (h1 : 1 ≤ n) (hT : Srt T) (hp : T.Perm zs) :
  EOk (SC r) 101 (entAt [slW n] (VK.AR e z clock es (rowU zs)) (.tuple ⟨[]⟩) (VK.AR e z clock es (rowU T))) :=
 entAt_run (SC_ok r) (t := tSrt n (VK.AR e z clock es (rowU zs)) (VK.AR e z clock es (rowU T))) ((TOk.nil.cons (SOk.at (pdq_S (m_bl n) hn h12 h1 hT hp))).cons (eBl_ok r)) .nil ⟨2, 1, (soA ..).trans (by
  have c1 : (0 : Int) ≤ Int.ofNat n := by simp
  have c2 : Int.ofNat n ≤ 12 := by simp; omega
  rw [wrUi h12, dT c1, dT c2, Bool.and_self, cond_true, at_rfl, cond_true]
  rfl)⟩

abbrev seqQ (q : Nat) : Value := .func (.func q) ⟨[]⟩ ⟨[.pointer (some ⟨0, 0, none⟩)]⟩
theorem sdJ (r : Mem) (q : Nat) (A : AW) : callAt (SC r) 13 (lc (rc cSd)) 1 ⟨[(4, seqQ q)], TD0 (seqQ q)⟩ A = some (100, [seqQ q], A) := by kernel_rfl

theorem sortedU_S {q : Nat} {A0 : AW} {zs : List Int} (hl : zs.length ≤ 12) (h1 : 1 ≤ zs.length) (hT : Srt T) (hp : T.Perm zs)
  (hC : SOk (SC r) 100 [seqQ q] A0 fun v A' => ∃ vs : List Int, vs.Perm zs ∧ v = slW vs.length ∧ A' = VK.AR e z clock es (rowU vs)) :
  SOk (SC r) 74 [seqQ q] A0 fun v A' => v = slW zs.length ∧ A' = VK.AR e z clock es (rowU T) := by
 obtain ⟨fn, h1', h2, h3, h4⟩ := fn_of (C := SC r) (f := 74) (by kernel_rfl)
 have hn' : fn.ntmps = 9 := h3.trans (by kernel_rfl)
 rw [bodySC] at h2
 refine call_reachS (SC_ok r) h1' h2 13 (by rw [hn']; rfl) fun γ W F k hw hF hro => ?_
 rw [hn', h4]
 show Go.Ev.Reach (SC r) 13 9 F k γ W cSd _ _
 rw [show cSd = Code.seq (lc cSd) (.seq (lc (rc cSd)) (rc (rc cSd))) from by kernel_rfl]
 refine Go.Ev.Reach.seq (Go.Ev.Reach.seg (SC_ok r) TOk.nil (tm := .nil) (L := 1) (L' := 1) (d := 1) hF hro ((sdA ..).trans (qn_ok ?_)))
 refine Go.Ev.Reach.seq (Go.Ev.Reach.callP (SC_ok r) hF TOk.nil (tm := .nil) (L := 0) (d := 0) 1 ((sdB ..).trans (qn_ok rfl)) (sdJ ..) hC fun v A' ⟨vs, hv, h1, h2⟩ => ?_)
 subst h1 h2
 refine (sdC ..).trans (qn_ok ?_)
 have hlen : vs.length = zs.length := hv.length_eq
 have hent := sort_at12 (r := r) (e := e) (z := z) (clock := clock) (es := es) (zs := vs) rfl (by omega) (by omega) hT (hp.trans hv.symm)
 refine Go.Ev.Reach.seg (SC_ok r) (t := tSd vs.length (VK.AR e z clock es (rowU vs)) (VK.AR e z clock es (rowU T))) (TOk.nil.cons hent) (tm := .nil) (L := 1) (L' := 1) (d := 1) hF hro ((sdD ..).trans ?_)
 rw [at_rfl, cond_true]
 refine qn_ok ⟨.inr rfl, _, slW vs.length, _, Ren.refl _, ?_, by rw [hlen], rfl⟩
 rw [← finK_finish]
 exact sdE ..

end

end Go.Proofs

/- From a small world of a box and a map to the caller's: one new row more. -/
namespace Go.Proofs.VK
open Go Go.Ev Go.Proofs
set_option linter.unusedVariables false
set_option linter.unusedSimpArgs false

def g2 (γ : Gam) (b m : Nat) : Gam := fun i => match i with | 0 => γ b | 1 => γ m | _ => none

theorem g2_cases {γ : Gam} {b m i : Nat} {g : GI} (h : g2 γ b m i = some g) : (i = 0 ∧ γ b = some g) ∨ (i = 1 ∧ γ m = some g) := by
 unfold g2 at h
 split at h
 ·exact .inl ⟨rfl, h⟩
 ·exact .inr ⟨rfl, h⟩
 ·cases h

theorem ak0_get {e z clock : Nat} {es : List MapEntry} {i : Nat} {o : AObj} (h : (AK0 e z clock es).heap.get i = some o) : (i = 0 ∧ o = .cells [.map (some 1)] e 0 z) ∨ (i = 1 ∧ o = .map es clock) := by
 have : Tr.All (fun i o => (i = 0 ∧ o = AObj.cells [.map (some 1)] e 0 z) ∨ (i = 1 ∧ o = .map es clock)) (AK0 e z clock es).heap id := by
  exact ⟨.inl ⟨rfl, rfl⟩, ⟨.inr ⟨rfl, rfl⟩, trivial, trivial⟩, trivial⟩
 exact this.get h

theorem WRel.pair {γ : Gam} {A : AW} {W : World} (hw : WRel γ A W) {b m e f z clock : Nat} {es : List MapEntry} (hb : A.heap.get b = some (.cells [.map (some m)] e f z)) (hm : A.heap.get m = some (.map es clock))
  (hg : ∀ x ∈ es, gnd x.key = true ∧ gnd x.val = true) : WRel (g2 γ b m) (AK0 e z clock es) W := by
 obtain ⟨gb, hgb, hob⟩ := hw.obj _ _ hb
 obtain ⟨gm, hgm, hom⟩ := hw.obj _ _ hm
 refine ⟨fun i o hi => ?_, fun i g hi => ?_, fun i hi => ?_, fun i j o o' g g' hi hj hgi hgj hbb => ?_, fun i c e' fam sz hi => ?_, fun i c e' fam sz hi => ?_, fun f _ => rfl⟩
 ·rcases ak0_get hi with ⟨rfl, rfl⟩ | ⟨rfl, rfl⟩
  ·refine ⟨gb, hgb, ?_⟩
   cases hob with
   | cells h hf hn hz hc =>
    refine .cells h hf hn hz fun k v hk => ?_
    cases k with
    | zero =>
     cases hk
     obtain ⟨v', h1, h2⟩ := hc 0 _ rfl
     refine ⟨v', h1, ?_⟩
     cases h2 with
     | map hx => exact .map (show g2 γ b m 1 = _ from hx)
    | succ k => cases hk
  ·refine ⟨gm, hgm, ?_⟩
   cases hom with
   | map h he => exact .map h (he.of_gnds hg)
 ·rcases g2_cases hi with ⟨_, h⟩ | ⟨_, h⟩
  ·exact hw.lt _ _ h
  ·exact hw.lt _ _ h
 ·unfold g2
  split
  ·have : (2 : Nat) ≤ 0 := hi
   omega
  ·have : (2 : Nat) ≤ 1 := hi
   omega
  ·rfl
 ·have no : ∀ {g : GI}, gb = g → gm = g → False := fun h1 h2 => by
   have hbb : gb.blk = gm.blk := by rw [h1, h2]
   rcases hw.sep b m _ _ gb gm hb hm hgb hgm hbb with h | ⟨_, _, _, _, _, _, _, _, h⟩
   ·subst h
    rw [hb] at hm
    cases hm
   ·exact nomatch h.1
  have no' : gb.blk = gm.blk → False := fun hbb => by
   rcases hw.sep b m _ _ gb gm hb hm hgb hgm hbb with h | ⟨_, _, _, _, _, _, _, _, h⟩
   ·subst h
    rw [hb] at hm
    cases hm
   ·exact nomatch h.1
  rcases g2_cases hgi with ⟨rfl, h1⟩ | ⟨rfl, h1⟩ <;> rcases g2_cases hgj with ⟨rfl, h2⟩ | ⟨rfl, h2⟩
  ·exact .inl rfl
  ·rw [hgb] at h1; rw [hgm] at h2
   cases h1; cases h2
   exact (no' hbb).elim
  ·rw [hgm] at h1; rw [hgb] at h2
   cases h1; cases h2
   exact (no' hbb.symm).elim
  ·exact .inl rfl
 ·rcases ak0_get hi with ⟨rfl, h⟩ | ⟨rfl, h⟩
  ·cases h
   exact .head _
  ·cases h
 ·rcases ak0_get hi with ⟨rfl, h⟩ | ⟨rfl, h⟩
  ·cases h
   show 0 < 2
   omega
  ·cases h

theorem _root_.Go.Ev.Ro.pair {r : Nat → Nat → Option Value} {γ : Gam} {W : World} (h : Ro r γ W) (b m : Nat) : Ro r (g2 γ b m) W := fun b' k v e => by
 obtain ⟨hno, h2⟩ := h b' k v e
 refine ⟨fun i g hi => ?_, h2⟩
 rcases g2_cases hi with ⟨_, h⟩ | ⟨_, h⟩
 ·exact hno _ _ h
 ·exact hno _ _ h

theorem Ends.pair {γ : Gam} {A : AW} {W : World} (hw : WRel γ A W) {b m e f z clock n eK : Nat} {es : List MapEntry} {l : List Value} (hb : A.heap.get b = some (.cells [.map (some m)] e f z)) (hm : A.heap.get m = some (.map es clock))
  (hf : A.members f = [b]) (hg : ∀ x ∈ es, gnd x.key = true ∧ gnd x.val = true) (hl : ∀ v ∈ l, gnd v = true) {x : Ending} {W' : World} {AR' : AW}
  (h0 : AR'.heap.get 0 = some (.cells [.map (some 1)] e 0 z)) (h1 : AR'.heap.get 1 = some (.map es clock)) (h2 : AR'.heap.get 2 = some (.cells l eK 2 1))
  (h : Go.Ev.Ends (g2 γ b m) W (.slice (some ⟨2, 0, none⟩) n unk) AR' x W') : Go.Ev.Ends γ W (.slice (some ⟨A.next, 0, none⟩) n unk) (A.new (.cells l eK A.next 1)) x W' := by
 obtain ⟨v', γ', rfl, hv, hw', hx⟩ := h
 obtain ⟨gb, hgb, hob⟩ := hw.obj _ _ hb
 obtain ⟨gm, hgm, hom⟩ := hw.obj _ _ hm
 have hb' : γ' 0 = some gb := hx.le 0 gb hgb
 have hm' : γ' 1 = some gm := hx.le 1 gm hgm
 obtain ⟨gr, hgr, hor⟩ := hw'.obj _ _ h2
 have hnew : W.heap.size ≤ gr.blk := by
  rcases hx.new 2 gr hgr with hh | ⟨_, hh | ⟨j, y, hj, hy⟩⟩
  ·cases hh
  ·exact hh
  ·exfalso
   rcases g2_cases hj with ⟨_, hj⟩ | ⟨_, hj⟩
   ·rw [hgb] at hj; cases hj
    rcases hw'.sep 2 0 _ _ gr gb h2 h0 hgr hb' hy.symm with h | ⟨_, _, _, _, _, _, _, q1, q2⟩
    ·cases h
    ·cases q1; exact nomatch q2.1
   ·rw [hgm] at hj; cases hj
    rcases hw'.sep 2 1 _ _ gr gm h2 h1 hgr hm' hy.symm with h | ⟨_, _, _, _, _, _, _, _, q2⟩
    ·cases h
    ·exact nomatch q2.1
 have hkeep : ∀ k, k < W.heap.size → k ≠ gb.blk → k ≠ gm.blk → W'.heap[k]? = W.heap[k]? := fun k hk h1 h2 => by
  refine hx.block k hk fun i g hi hbk => ?_
  rcases g2_cases hi with ⟨_, h⟩ | ⟨_, h⟩
  ·rw [hgb] at h; cases h
   exact h1 hbk.symm
  ·rw [hgm] at h; cases h
   exact h2 hbk.symm
 have hwA : WRel γ A W' := by
  refine ⟨fun i o hi => ?_, fun i g hi => Nat.lt_of_lt_of_le (hw.lt i g hi) hx.size, hw.fresh, hw.sep, hw.mem, hw.famlt, hw.famfresh⟩
  obtain ⟨g, hgi, hr⟩ := hw.obj i o hi
  refine ⟨g, hgi, ?_⟩
  have onB : i = b → ORel γ W' g o := fun h => by
   subst h
   rw [hb] at hi; rw [hgb] at hgi
   cases hi; cases hgi
   obtain ⟨g', hg', ho'⟩ := hw'.obj _ _ h0
   rw [hb'] at hg'; cases hg'
   cases ho' with
   | cells q1 q2 q3 q4 q5 =>
    refine .cells q1 q2 q3 q4 fun k v hk => ?_
    cases k with
    | zero =>
     cases hk
     obtain ⟨u, k1, k2⟩ := q5 0 _ rfl
     refine ⟨u, k1, ?_⟩
     cases k2 with
     | map hy => rw [hm'] at hy; cases hy; exact .map hgm
    | succ k => cases hk
  have onM : i = m → ORel γ W' g o := fun h => by
   subst h
   rw [hm] at hi; rw [hgm] at hgi
   cases hi; cases hgi
   obtain ⟨g', hg', ho'⟩ := hw'.obj _ _ h1
   rw [hm'] at hg'; cases hg'
   cases ho' with
   | map q1 q2 => exact .map q1 (q2.of_gnds hg)
  by_cases c1 : g.blk = gb.blk
  ·rcases hw.sep i b _ _ g gb hi hb hgi hgb c1 with h | ⟨c, e1, c', e2, fam, s1, s2, q1, q2⟩
   ·exact onB h
   ·obtain ⟨q2, _⟩ := q2
    cases q2
    subst q1
    have := hw.mem i _ _ _ _ hi
    rw [hf] at this
    exact onB (List.mem_singleton.1 this)
  ·by_cases c2 : g.blk = gm.blk
   ·rcases hw.sep i m _ _ g gm hi hm hgi hgm c2 with h | ⟨_, _, _, _, _, _, _, _, q2⟩
    ·exact onM h
    ·exact nomatch q2.1
   ·exact hr.mono γ.le_refl (hkeep _ (hw.lt _ _ hgi) c1 c2)
 have hun : ∀ i g', γ i = some g' → g'.blk ≠ gr.blk := fun i g' hi hbk => by
  have := hw.lt i g' hi
  omega
 have ho' : ORel γ W' gr (.cells l eK A.next 1) := by
  cases hor with
  | cells q1 q2 q3 q4 q5 =>
   refine .cells q1 q2 q3 q4 fun k v hk => ?_
   obtain ⟨u, k1, k2⟩ := q5 k v hk
   have hgv := hl v (List.mem_of_getElem? hk)
   exact ⟨u, k1, by rw [k2.eq_of_gnd hgv]; exact VRel.of_gnd _ v hgv⟩
 refine ⟨v', γ.set A.next gr, rfl, ?_, hwA.add ho' hun, ⟨Gam.le_set _ (hw.fresh _ (Nat.le_refl _)), fun i y hi => ?_, hx.size, fun k hk hno => ?_, hx.os, hx.tape, hx.output, hx.drawn⟩⟩
 ·generalize hc : unk = c0 at hv
  cases hv with
  | slice k l0 c c' hg1 hc1 =>
   subst hc
   rw [hgr] at hg1; cases hg1
   exact .slice _ _ _ _ (Gam.set_same _ _ _) hc1
  | sliceE => exact absurd hc (by decide)
 ·rcases Gam.set_cases hi with ⟨rfl, rfl⟩ | ⟨_, hi⟩
  ·exact .inr ⟨hw.fresh _ (Nat.le_refl _), .inl hnew⟩
  ·exact .inl hi
 ·exact hkeep k hk (fun h => hno b gb hgb h.symm) (fun h => hno m gm hgm h.symm)

end Go.Proofs.VK

/- slices.Sorted over maps.Keys and maps.Values, as an entry in any world. -/
namespace Go.Proofs
open Go Go.Ev
set_option linter.unusedVariables false
set_option linter.unusedSimpArgs false
set_option maxRecDepth 100000

def insI (x : Int) : List Int → List Int
 | [] => [x]
 | y :: l => bif decide (x ≤ y) then x :: y :: l else y :: insI x l
def sortI : List Int → List Int
 | [] => []
 | x :: l => insI x (sortI l)
theorem insI_perm (x : Int) (l : List Int) : (insI x l).Perm (x :: l) := by
 induction l with
 | nil => exact .refl _
 | cons y l ih =>
  simp only [insI]
  cases decide (x ≤ y)
  ·exact (List.Perm.cons y ih).trans (.swap ..)
  ·exact .refl _
theorem sortI_perm (l : List Int) : (sortI l).Perm l := by
 induction l with
 | nil => exact .refl _
 | cons x l ih => exact (insI_perm x _).trans (.cons x ih)
theorem insI_srt (x : Int) {l : List Int} (h : Srt l) : Srt (insI x l) := by
 induction l with
 | nil => exact Srt.one x
 | cons y l ih =>
  unfold Srt at h
  rw [List.pairwise_cons] at h
  simp only [insI]
  by_cases c : x ≤ y
  ·rw [dT c, cond_true]
   refine List.pairwise_cons.2 ⟨fun b hb => ?_, List.pairwise_cons.2 h⟩
   rcases List.mem_cons.1 hb with rfl | hb
   ·exact c
   ·exact Int.le_trans c (h.1 b hb)
  ·rw [dF c, cond_false]
   refine List.pairwise_cons.2 ⟨fun b hb => ?_, ih h.2⟩
   rcases List.mem_cons.1 ((insI_perm x l).mem_iff.1 hb) with rfl | hb
   ·omega
   ·exact h.1 b hb
theorem sortI_srt (l : List Int) : Srt (sortI l) := by
 induction l with
 | nil => exact .nil
 | cons x l ih => exact insI_srt x ih

def sdArgs (args : List Value) (A : AW) : Option (Nat × List MapEntry × Nat) := match args with
 | [.func (.func q) ⟨[]⟩ ⟨[.pointer (some ⟨b, 0, none⟩)]⟩] => match A.heap.get b with
  | some (.cells [.map (some m)] _ fam _) => match A.members fam with
   | [b'] => match Nat.beq b' b, A.heap.get m with
    | true, some (.map es clock) => some (q, es, clock)
    | _, _ => none
   | _ => none
  | _ => none
 | _ => none

def in16 (x : Int) : Bool := decide (0 ≤ x) && decide (x < 65536)
def okK (clock : Nat) (e : MapEntry) : Bool := match e.key, e.val with
 | .int .u64 x, .bool _ => in16 x && Nat.blt e.born clock
 | _, _ => false
def okV (clock : Nat) (e : MapEntry) : Bool := match e.key, e.val with
 | .int .u64 _, .int .u64 x => in16 x && Nat.blt e.born clock
 | _, _ => false
def freshB (n : Nat) : List MapEntry → Bool
 | [] => true
 | e :: l => (!Nat.beq e.born n) && freshB n l
def okEs (p : MapEntry → Bool) : List MapEntry → Bool
 | [] => true
 | e :: l => p e && freshB e.born l && okEs p l

theorem okEs_of {α : Type} {p : MapEntry → Bool} {mk : α → MapEntry} {clock : Nat} (hp : ∀ e, p e = true → ∃ t, e = mk t ∧ (mk t).born < clock) : ∀ {es : List MapEntry}, okEs p es = true → ∃ q : List α, es = q.map mk ∧ (∀ t ∈ q, (mk t).born < clock) ∧ (q.map fun t => (mk t).born).Nodup
 | [], _ => ⟨[], rfl, fun _ h => (nomatch h), .nil⟩
 | e :: l, h => by
  simp only [okEs, Bool.and_eq_true] at h
  obtain ⟨⟨h1, h2⟩, h3⟩ := h
  obtain ⟨t, rfl, ht⟩ := hp _ h1
  obtain ⟨q, rfl, hq1, hq2⟩ := okEs_of hp h3
  refine ⟨t :: q, rfl, fun x hx => ?_, ?_⟩
  ·rcases List.mem_cons.1 hx with rfl | hx
   ·exact ht
   ·exact hq1 x hx
  ·rw [List.map_cons, List.nodup_cons]
   refine ⟨fun hm => ?_, hq2⟩
   obtain ⟨x, hx, hxe⟩ := List.mem_map.1 hm
   have key : ∀ (l : List α), freshB (mk t).born (l.map mk) = true → ∀ x ∈ l, (mk x).born ≠ (mk t).born := by
    intro l
    induction l with
    | nil => intro _ x hx; cases hx
    | cons y l ih =>
     intro h x hx
     simp only [List.map_cons, freshB, Bool.and_eq_true] at h
     rcases List.mem_cons.1 hx with rfl | hx
     ·intro he
      have h1 := h.1
      rw [he, show Nat.beq (mk t).born (mk t).born = true from Nat.beq_refl _] at h1
      cases h1
     ·exact ih h.2 x hx
   exact key q h2 x hx hxe

theorem okK_of {clock : Nat} (e : MapEntry) (h : okK clock e = true) : ∃ t : VK.KT, e = VK.mkE t ∧ (VK.mkE t).born < clock := by
 obtain ⟨k, v, n⟩ := e
 unfold okK at h
 split at h
 ·rename_i x b h1 h2
  simp only [in16, Bool.and_eq_true, decide_eq_true_eq] at h
  simp only at h1 h2
  subst h1 h2
  exact ⟨(⟨x, h.1.1, h.1.2⟩, b, n), rfl, Nat.le_of_ble_eq_true h.2⟩
 ·cases h
theorem okV_of {clock : Nat} (e : MapEntry) (h : okV clock e = true) : ∃ t : VV.KT, e = VV.mkE t ∧ (VV.mkE t).born < clock := by
 obtain ⟨k, v, n⟩ := e
 unfold okV at h
 split at h
 ·rename_i y x h1 h2
  simp only [in16, Bool.and_eq_true, decide_eq_true_eq] at h
  simp only at h1 h2
  subst h1 h2
  exact ⟨(⟨x, h.1.1, h.1.2⟩, y, n), rfl, Nat.le_of_ble_eq_true h.2⟩
 ·cases h

def keyZ (e : MapEntry) : Int := match e.key with
 | .int _ x => x
 | _ => 0
def valZ (e : MapEntry) : Int := match e.val with
 | .int _ x => x
 | _ => 0
def emptyL : List MapEntry → Bool
 | [] => true
 | _ => false
def isK (q : Nat) : Bool := Nat.beq q 112
def isV (q : Nat) : Bool := Nat.beq q 102
def numsOf (q : Nat) (es : List MapEntry) : List Int := match isK q with
 | true => es.map keyZ
 | false => es.map valZ
def eSD : Ent := ⟨fun args A => match sdArgs args A with
  | some (q, es, clock) => !emptyL es && Nat.ble es.length 12 && ((isK q && okEs (okK clock) es) || (isV q && okEs (okV clock) es))
  | none => false, fun _ _ => true,
 fun args A => match sdArgs args A with
  | some (_, es, _) => .slice (some ⟨A.next, 0, none⟩) es.length unk
  | none => undef,
 fun args A => match sdArgs args A with
  | some (q, es, _) => A.new (.cells (rowU (sortI (numsOf q es))) 52 A.next 1)
  | none => A, fun _ _ => undef, fun _ A => A⟩

theorem sdArgs_of {args : List Value} {A : AW} {q clock : Nat} {es : List MapEntry} (h : sdArgs args A = some (q, es, clock)) : ∃ b m e fam z, args = [.func (.func q) ⟨[]⟩ ⟨[.pointer (some ⟨b, 0, none⟩)]⟩] ∧ A.heap.get b = some (.cells [.map (some m)] e fam z) ∧ A.members fam = [b] ∧ A.heap.get m = some (.map es clock) := by
 unfold sdArgs at h
 split at h
 ·rename_i q' b
  split at h
  ·rename_i m e fam z hbx
   split at h
   ·rename_i b' hmem
    split at h
    ·rename_i es' clock' hbb hmm
     cases h
     have e3 := Nat.eq_of_beq_eq_true hbb
     subst e3
     exact ⟨_, m, e, fam, z, rfl, hbx, hmem, hmm⟩
    ·cases h
   ·cases h
  ·cases h
 ·cases h

theorem seq_args {γ : Gam} {q b m : Nat} {args' : Array Value} (ha : VsRel γ [.func (.func q) ⟨[]⟩ ⟨[.pointer (some ⟨b, 0, none⟩)]⟩] args'.toList) : VsRel (VK.g2 γ b m) [seqQ q] args'.toList := by
 obtain ⟨la⟩ := args'
 cases ha with
 | cons h1 h2 =>
 cases h2
 refine .cons ?_ .nil
 cases h1 with
 | func p1 p2 p3 =>
  rename_i f' a' c'
  obtain ⟨a'⟩ := a'
  obtain ⟨c'⟩ := c'
  cases p1
  cases p2
  cases p3 with
  | cons k1 k2 =>
   cases k2
   cases k1 with
   | ptr k hg1 => exact .func (.func _) .nil (.cons (.ptr _ (show VK.g2 γ b m 0 = _ from hg1)) .nil)

theorem sorted_frame (r : Mem) {q b m e fam z clock : Nat} {es : List MapEntry} {l : List Int} {A : AW} {n : Nat} (hbx : A.heap.get b = some (.cells [.map (some m)] e fam z)) (hmem : A.members fam = [b]) (hmm : A.heap.get m = some (.map es clock))
  (hgs : ∀ x ∈ es, gnd x.key = true ∧ gnd x.val = true)
  (hS : SOk (SC r) 74 [seqQ q] (VK.AK0 e z clock es) fun v A' => v = slW n ∧ A' = VK.AR e z clock es (rowU l))
  {F : Fence} (hF : Wide F) {k : Nat} {γ : Gam} {W : World} {args' : Array Value} (hw : WRel γ A W) (hR : Ro (SC r).ro γ W) (ha : VsRel γ [.func (.func q) ⟨[]⟩ ⟨[.pointer (some ⟨b, 0, none⟩)]⟩] args'.toList) :
  CallsIn F k (SC r).P 74 args' W (Go.Ev.Ends γ W (.slice (some ⟨A.next, 0, none⟩) n unk) (A.new (.cells (rowU l) 52 A.next 1))) := by
 refine (hS F hF k (VK.g2 γ b m) W args' (VK.WRel.pair hw hbx hmm hgs) (Ro.pair hR b m) (seq_args ha)).mono fun x W' ⟨v, A', hS', he⟩ => ?_
 obtain ⟨rfl, rfl⟩ := hS'
 exact VK.Ends.pair hw hbx hmm hmem hgs (fun v hv => by obtain ⟨y, _, rfl⟩ := List.mem_map.1 hv; rfl) rfl rfl rfl he

theorem eSD_ok (r : Mem) : EOk (SC r) 74 eSD := fun args A hg F hF k γ W args' hw hR ha => by
 refine ⟨fun _ => ?_, fun h => nomatch h⟩
 simp only [eSD] at hg ⊢
 cases hs : sdArgs args A with
 | none => rw [hs] at hg; cases hg
 | some p =>
  obtain ⟨q, es, clock⟩ := p
  rw [hs] at hg
  simp only [Bool.and_eq_true, Bool.or_eq_true] at hg ⊢
  obtain ⟨⟨hne, hfew⟩, hok⟩ := hg
  have hfew' : es.length ≤ 12 := Nat.le_of_ble_eq_true hfew
  have hpos : 1 ≤ es.length := by
   cases es with
   | nil => cases hne
   | cons _ _ => simp
  obtain ⟨b, m, e, fam, z, rfl, hbx, hmem, hmm⟩ := sdArgs_of hs
  rcases hok with ⟨hk, hok⟩ | ⟨hv, hok⟩
  ·obtain ⟨qs, rfl, hq1, hq2⟩ := okEs_of okK_of hok
   have hq := Nat.eq_of_beq_eq_true hk
   subst hq
   rw [List.length_map] at hfew' hpos ⊢
   have hqn : qs ≠ [] := fun h => by subst h; simp at hpos
   have hnum : numsOf 112 (qs.map VK.mkE) = qs.map fun t => t.1.1 := by
    show (qs.map VK.mkE).map keyZ = _
    simp [VK.mkE, keyZ]
   rw [hnum]
   have hC : SOk (SC r) 100 [seqQ 112] (VK.AK0 e z clock (qs.map VK.mkE)) fun v A' => ∃ vs : List Int, vs.Perm (qs.map fun t => t.1.1) ∧ v = slW vs.length ∧ A' = VK.AR e z clock (qs.map VK.mkE) (rowU vs) := fun F hF k γ W args' hw hR ha =>
    (VK.collect_S (r := r) (e := e) (z := z) (clock := clock) ⟨hq1, hq2, by omega⟩ hqn F hF k γ W args' hw hR ha).mono fun x W' ⟨v, A', ⟨vis, hv, h1, h2⟩, he⟩ => ⟨v, A', ⟨vis.map fun t => t.1.1, hv.map _, by rw [List.length_map]; exact h1, by rw [h2]; simp only [rowU, VK.rowK, List.map_map]; rfl⟩, he⟩
   have hS := sortedU_S (r := r) (zs := qs.map fun t => t.1.1) (by rw [List.length_map]; exact hfew') (by rw [List.length_map]; exact hpos) (sortI_srt _) (sortI_perm _) hC
   rw [List.length_map] at hS
   exact sorted_frame r hbx hmem hmm (VK.ksG qs) hS hF hw hR ha
  ·obtain ⟨qs, rfl, hq1, hq2⟩ := okEs_of okV_of hok
   have hq := Nat.eq_of_beq_eq_true hv
   subst hq
   rw [List.length_map] at hfew' hpos ⊢
   have hqn : qs ≠ [] := fun h => by subst h; simp at hpos
   have hnum : numsOf 102 (qs.map VV.mkE) = qs.map fun t => t.1.1 := by
    show (qs.map VV.mkE).map valZ = _
    simp [VV.mkE, valZ]
   rw [hnum]
   have hC : SOk (SC r) 100 [seqQ 102] (VK.AK0 e z clock (qs.map VV.mkE)) fun v A' => ∃ vs : List Int, vs.Perm (qs.map fun t => t.1.1) ∧ v = slW vs.length ∧ A' = VK.AR e z clock (qs.map VV.mkE) (rowU vs) := fun F hF k γ W args' hw hR ha =>
    (VV.collect_S (r := r) (e := e) (z := z) (clock := clock) ⟨hq1, hq2, by omega⟩ hqn F hF k γ W args' hw hR ha).mono fun x W' ⟨v, A', ⟨vis, hv, h1, h2⟩, he⟩ => ⟨v, A', ⟨vis.map fun t => t.1.1, hv.map _, by rw [List.length_map]; exact h1, by rw [h2]; simp only [rowU, VV.rowK, List.map_map]; rfl⟩, he⟩
   have hS := sortedU_S (r := r) (zs := qs.map fun t => t.1.1) (by rw [List.length_map]; exact hfew') (by rw [List.length_map]; exact hpos) (sortI_srt _) (sortI_perm _) hC
   rw [List.length_map] at hS
   exact sorted_frame r hbx hmem hmm (VV.ksG qs) hS hF hw hR ha

end Go.Proofs

/- Chapter 4: the example calls, run. -/
namespace Go.Proofs
open Go Go.Ev
set_option linter.unusedVariables false
set_option linter.unusedSimpArgs false
set_option maxRecDepth 100000

def mskP : Tr Nat := (.node (.node (.node (.node (.node (.node (.node (.node .nil (some 71) .nil) (some 3) .nil) (some 31) (.node .nil (some 5) .nil)) (some 51) (.node (.node (.node .nil (some 0) .nil) (some 199) .nil) none (.node .nil (some 51) .nil))) (some 243) (.node (.node (.node (.node .nil (some 0) .nil) (some 1574527) .nil) (some 219) (.node .nil (some 783) .nil)) none (.node (.node .nil (some 3855) .nil) (some 5) (.node .nil (some 1991) .nil)))) (some 262087) (.node (.node (.node (.node (.node .nil (some 0) .nil) (some 29) .nil) none (.node .nil (some 919515) .nil)) (some 29) (.node (.node .nil (some 199) .nil) (some 13) (.node .nil (some 783) .nil))) (some 29) (.node (.node (.node (.node .nil (some 0) .nil) (some 7) .nil) none (.node .nil (some 1055) .nil)) (some 23) (.node (.node .nil (some 19) .nil) (some 459507) (.node .nil (some 19) .nil))))) none (.node (.node (.node (.node (.node (.node .nil (some 5) .nil) (some 5) .nil) (some 125) (.node .nil (some 55) .nil)) (some 183295) (.node (.node (.node .nil (some 0) .nil) (some 1991) .nil) (some 5) (.node .nil (some 183) .nil))) (some 51) (.node (.node (.node (.node .nil (some 0) .nil) (some 61) .nil) none (.node .nil (some 5) .nil)) (some 831) (.node (.node .nil (some 5) .nil) none (.node .nil (some 199) .nil)))) (some 4039) (.node (.node (.node (.node (.node .nil (some 0) .nil) (some 5) .nil) (some 16778495) (.node .nil (some 5) .nil)) (some 253) (.node (.node .nil (some 19) .nil) (some 11) (.node .nil (some 199) .nil))) (some 967) (.node (.node (.node (.node .nil (some 0) .nil) (some 19) .nil) (some 7) (.node .nil (some 0) .nil)) (some 7) (.node (.node .nil (some 5) .nil) (some 524047) (.node .nil (some 3855) .nil)))))) none (.node (.node (.node (.node (.node (.node (.node .nil (some 1055) .nil) (some 51) .nil) (some 243) (.node .nil (some 5) .nil)) (some 243) (.node (.node (.node .nil (some 0) .nil) (some 1991) .nil) (some 7) (.node .nil (some 43) .nil))) (some 12584947) (.node (.node (.node (.node .nil (some 0) .nil) (some 7) .nil) (some 8447) (.node .nil (some 5) .nil)) none (.node (.node .nil (some 5) .nil) (some 144115188478625759) (.node .nil (some 562949953429447) .nil)))) (some 1011) (.node (.node (.node (.node (.node .nil (some 0) .nil) (some 499) .nil) (some 4083) (.node .nil (some 5) .nil)) none (.node (.node .nil (some 1991) .nil) (some 5) (.node .nil (some 19) .nil))) (some 125) (.node (.node (.node (.node .nil (some 0) .nil) (some 131327) .nil) (some 58721999) (.node .nil (some 5) .nil)) (some 5) (.node (.node .nil (some 51) .nil) (some 19) (.node .nil (some 1807) .nil))))) none (.node (.node (.node (.node (.node (.node .nil (some 783) .nil) (some 115) .nil) (some 2035) (.node .nil (some 7) .nil)) (some 51) (.node (.node (.node .nil (some 0) .nil) (some 562949953429447) .nil) (some 64563608106274133427) (.node .nil (some 524047) .nil))) (some 61) (.node (.node (.node (.node .nil (some 0) .nil) (some 13) .nil) (some 14447) (.node .nil (some 71) .nil)) (some 7) (.node (.node .nil (some 1) .nil) (some 23) (.node .nil (some 1991) .nil)))) (some 499) (.node (.node (.node (.node (.node .nil (some 0) .nil) (some 5) .nil) (some 19) (.node .nil (some 83) .nil)) (some 251) (.node (.node .nil (some 1807) .nil) (some 5) (.node .nil (some 1991) .nil))) (some 5) (.node (.node (.node (.node .nil (some 0) .nil) (some 435) .nil) (some 115) (.node .nil (some 0) .nil)) (some 3645) (.node (.node .nil (some 5) .nil) (some 5) (.node .nil (some 783) .nil)))))))
noncomputable abbrev CC (r : Mem) : Cfg := Cfg.ofRo Tryz.prog r
theorem CC_ok (r : Mem) : (CC r).Ok := Cfg.ofRo_ok evMixed evNames r
noncomputable def tSD : Tbl := tcons 74 eSD fun _ => none
theorem tSD_ok (r : Mem) : TOk (CC r) tSD := (show TOk (SC r) tSD from TOk.nil.cons (eSD_ok r))

end Go.Proofs

