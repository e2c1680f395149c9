/- What the claim is proved with, part 2: the evaluator and the contracts of the calls. -/
import Derived.Test.YtdalaifnhppidaaDoorPack1
import Derived.Test.YtdalaifnhppidaaDoorEvOwn
import Derived.Test.YtdalaifnhppidaaDoorEvSetB
import Derived.Test.YtdalaifnhppidaaDoorSymBase
import Derived.Shelf.Lay
import Derived.Shelf.SlSortCmp.Whole1
/- shift.Boats, run. -/
namespace Go.Proofs
open Go Go.Ev Go.Num
set_option linter.unusedVariables false
set_option linter.unusedSimpArgs false
set_option maxRecDepth 100000

noncomputable def gOwn (sl : Value) (c : List Value) (args : List Value) (A : AW) : Bool := match args with
 | [.slice (some ⟨i, k, none⟩) l cap] => match A.heap.get i with
  | some (.cells c' _ _ _) => m_sv [.slice (some ⟨0, k, none⟩) l cap, .agg ⟨c'⟩] [sl, .agg ⟨c⟩]
  | _ => false
 | _ => false
noncomputable def eVal (a0 : List Value) (v : Value) : Ent := ent (fun args _ => m_sv args a0) fun _ _ => v
noncomputable def eRi (sl : Value) (n : Nat) (c : List Value) : Ent := ⟨fun args _ => m_sv args [sl], fun _ _ => true, fun _ A => .tuple ⟨[.slice (some ⟨A.next, 0, none⟩) n n, I 0]⟩, fun _ A => A.new (.cells c 75 A.next 2), fun _ _ => undef, fun _ A => A⟩
noncomputable def eBt (n : Nat) (c d : List Value) : Ent := ⟨fun args A => gOwn (ow 0 n) c args A, fun _ _ => true, fun _ A => .slice (some ⟨A.next, 0, none⟩) n n, fun _ A => A.new (.cells d 3 A.next 1), fun _ _ => undef, fun _ A => A⟩
noncomputable def ePk (n : Nat) (c : List Value) (p : Int) : Ent := ent (fun args A => gOwn (ow 0 n) c args A) fun _ _ => I p
noncomputable def tBo (sl : Value) (n : Nat) (c d : List Value) (p : Int) : Tbl := tcons 19 (eRi sl n c) (tcons 22 (eBt n c d) (tcons 23 (ePk n c p) fun _ => none))
noncomputable def tBe (sl : Value) (e : Int) : Tbl := tcons 19 (eVal [sl] (.tuple ⟨[.slice none 0 0, I e]⟩)) fun _ => none

theorem boA (r : Mem) (b off n cap : Nat) (c d : List Value) (p : Int) (K : Value → AW → CR) : (lvlT (SC r) (tBo (RS2 b off n cap) n c d p) .nil 1 2).call 7 [RS2 b off n cap] emptyA K =
    bif m_sv [.slice (some ⟨b, off, some 0⟩) n cap] [.slice (some ⟨b, off, some 0⟩) n cap] then bif m_sv [.slice (some ⟨0, 0, none⟩) n n, .agg ⟨c⟩] [.slice (some ⟨0, 0, none⟩) n n, .agg ⟨c⟩] then bif m_sv [.slice (some ⟨0, 0, none⟩) n n, .agg ⟨c⟩] [.slice (some ⟨0, 0, none⟩) n n, .agg ⟨c⟩] then K (.tuple ⟨[.slice (some ⟨1, 0, none⟩) n n, I p, I (Int.ofNat 0)]⟩) (AW.mk 2 (.node (.node .nil (some (.cells d 3 1 1)) .nil) (some (.cells c 75 0 2)) .nil) .nil) else .fail 420 else .fail 420 else .fail 420 := by kernel_rfl

theorem boE (r : Mem) (b off n cap : Nat) (e : Int) : (lvlT (SC r) (tBe (RS2 b off n cap) e) .nil 1 2).call 7 [RS2 b off n cap] emptyA fin =
    bif m_sv [.slice (some ⟨b, off, some 0⟩) n cap] [.slice (some ⟨b, off, some 0⟩) n cap] then bif e != Int.ofNat 0 then .ret (.tuple ⟨[.slice none 0 0, I (Int.ofNat 0), I e]⟩) (AW.mk 0 .nil .nil) else .fail 400 else .fail 420 := by kernel_rfl

theorem boN (r : Mem) : (lvlT (SC r) (fun _ => none) .nil 1 3).call 7 [.slice none 0 0] emptyA fin =
    .ret (.tuple ⟨[.slice none 0 0, I (Int.ofNat 0), I (Int.ofNat 1)]⟩) (AW.mk 0 .nil .nil) := by kernel_rfl

theorem spR (r : Mem) (b off n cap : Nat) (K : Value → AW → CR) : (lvlT (SC r) (fun _ => none) .nil 1 2).call 5 [RS2 b off n cap] emptyA K =
    bif decide (0 ≤ bif decide (13 < Int.ofNat n) then Int.ofNat 13 else Int.ofNat n) then bif Nat.beq cap 9223372036854775809 then .fail 435 else bif Nat.ble (Int.toNat (bif decide (13 < Int.ofNat n) then Int.ofNat 13 else Int.ofNat n)) cap then bif Nat.beq (Int.toNat (bif decide (13 < Int.ofNat n) then Int.ofNat 13 else Int.ofNat n)) 0 then K (.slice none 0 0) (AW.mk 0 .nil .nil) else bif Nat.ble (Nat.add 0 (Nat.sub (Int.toNat (bif decide (13 < Int.ofNat n) then Int.ofNat 13 else Int.ofNat n)) 0)) 1000000 then Option.casesOn (match Nat.beq (Nat.sub cap 0) unkE with | true => none | false => takeF (Cfg.ro (SC r) b) (Nat.add off (Nat.mul 0 (TypeInfo.size Tryd.t61))) (Nat.mul (Nat.sub (Int.toNat (bif decide (13 < Int.ofNat n) then 13 else Int.ofNat n)) 0) (TypeInfo.size Tryd.t61))) (.fail 443) fun val => bif Nat.beq (List.length val) (Nat.mul (Nat.sub (Int.toNat (bif decide (13 < Int.ofNat n) then Int.ofNat 13 else Int.ofNat n)) 0) 2) then bif Nat.beq (Nat.sub (Int.toNat (bif decide (13 < Int.ofNat n) then Int.ofNat 13 else Int.ofNat n)) 0) 0 then K (.slice none 0 0) (AW.mk 0 .nil .nil) else K (.slice (some ⟨0, 0, none⟩) (Nat.sub (Int.toNat (bif decide (13 < Int.ofNat n) then Int.ofNat 13 else Int.ofNat n)) 0) unk) (AW.mk 1 (.node .nil (some (.cells val 61 0 2)) .nil) .nil) else .fail 420 else .fail 420 else .fail 420 else .fail 420 := by kernel_rfl

theorem spN (r : Mem) : (lvlT (SC r) (fun _ => none) .nil 1 2).call 5 [.slice none 0 0] emptyA fin =
    .ret (.slice none 0 0) (AW.mk 0 .nil .nil) := by kernel_rfl

end Go.Proofs

/- maps.Keys and slices.AppendSeq over it, run: keys of kind u16. -/
namespace Go.Proofs
open Go Go.Ev
set_option linter.unusedVariables false
set_option linter.unusedSimpArgs false

def rfAs : Code → Code | .rangeFunc _ _ a _ => a | c => c
def rfBd : Code → Code | .rangeFunc _ _ _ b => b | c => c
noncomputable def cKs : Code := bodyOf S0 68
noncomputable def cAq : Code := bodyOf S0 77
noncomputable def cCo : Code := bodyOf S0 66

abbrev seqV : Value := .func (.func 68) ⟨[]⟩ ⟨[.pointer (some ⟨0, 0, none⟩)]⟩
def AK0 (e z clock : Nat) (es : List MapEntry) : AW := ⟨2, .node (.node .nil (some (.map es clock)) .nil) (some (.cells [.map (some 1)] e 0 z)) .nil, .nil⟩

noncomputable def k_aqA : Code := rfAs (ic (rc (lc (rc cAq))))
noncomputable def k_aqB : Code := rfBd (ic (rc (lc (rc cAq))))
def TQ : Tr Value := .node (.node .nil (some seqV) .nil) (some (.slice none 0 0)) (.node (.node .nil (some (.slice none 0 0)) .nil) (some (.pointer (some ⟨2, 0, none⟩))) .nil)
noncomputable def AKg (e z clock : Nat) (es : List MapEntry) (n : Nat) (sv : Value) (s5 s6 : Tr AObj) : AW :=
 ⟨n, .node (.node (.node .nil (some .defd) .nil) (some (.map es clock)) s5) (some (.cells [.map (some 1)] e 0 z)) (.node (.node .nil (some (.loop .ready none 183 ⟨[(6, seqV)], TQ⟩ 13 ⟨[7]⟩ k_aqA k_aqB 3)) .nil) (some (.cells [sv] 72 2 0)) s6), .nil⟩
def miT (clock : Nat) (seen : List Nat) : Tr AObj := .node .nil (some (.miter 1 clock seen clock)) .nil
def rwT (i : Nat) (l : List Value) : Tr AObj := .node .nil (some (.cells l 53 i 1)) .nil
def yK : List Value := [.func (.yield 4) ⟨[]⟩ ⟨[]⟩, .pointer (some ⟨0, 0, none⟩)]

def TK : Tr Value := .node (.node .nil (some (.pointer (some ⟨0, 0, none⟩))) (.node .nil (some (.pointer (some ⟨5, 0, none⟩))) .nil)) (some (.func (.yield 4) ⟨[]⟩ ⟨[]⟩)) .nil
def TKz (z : Int) : Tr Value := .node (.node (.node .nil (some (.int .u16 z)) .nil) (some (.pointer (some ⟨0, 0, none⟩))) (.node .nil (some (.pointer (some ⟨5, 0, none⟩))) .nil)) (some (.func (.yield 4) ⟨[]⟩ ⟨[]⟩)) .nil

theorem kyA (r : Mem) (L : Nat) (fs : FnsC) (e z clock : Nat) (es : List MapEntry) (kn : KS) (kx : Nat → KS) (kr : KS) (ms : List Nat) : run (SC r) 183 13 L (.seq (lc cAq) (lc (lc (rc cAq)))) fs none kn kx kr (sc0 183 [.slice none 0 0, seqV]) (tr0 183 [.slice none 0 0, seqV]) ms (AK0 e z clock es) =
    kn [(6, .func (Fn.func 68) ⟨[]⟩ ⟨[.pointer (some ⟨0, 0, none⟩)]⟩)] (.node (.node .nil (some (.func (Fn.func 68) ⟨[]⟩ ⟨[.pointer (some ⟨0, 0, none⟩)]⟩)) .nil) (some (.slice none 0 0)) (.node (.node .nil (some (.slice none 0 0)) .nil) (some (.pointer (some ⟨2, 0, none⟩))) .nil)) ms (AW.mk 3 (.node (.node .nil (some (AObj.map es clock)) .nil) (some (.cells [Value.map (some 1)] e 0 z)) (.node .nil (some (.cells [.slice none 0 0] 72 2 0)) .nil)) .nil) := by kernel_rfl

theorem kyB (r : Mem) (L : Nat) (fs : FnsC) (e z clock : Nat) (es : List MapEntry) (kn : KS) (kx : Nat → KS) (kr : KS) (ms : List Nat) : run (SC r) 43 14 L (lc cKs) fs none kn kx kr (sc0 43 yK) (tr0 43 yK) ms (AKg e z clock es 5 (.slice none 0 0) .nil .nil) =
    kn [(4, Value.map (some 1))] (.node (.node .nil (some (.pointer (some ⟨0, 0, none⟩))) (.node .nil (some (.pointer (some ⟨5, 0, none⟩))) .nil)) (some (.func (Fn.yield 4) ⟨[]⟩ ⟨[]⟩)) .nil) ms (AW.mk 6 (.node (.node (.node .nil (some .defd) .nil) (some (AObj.map es clock)) (.node .nil (some (AObj.miter 1 clock [] clock)) .nil)) (some (.cells [Value.map (some 1)] e 0 z)) (.node (.node .nil (some (AObj.loop LoopState.ready none 183 (En.mk [(6, .func (Fn.func 68) ⟨[]⟩ ⟨[.pointer (some ⟨0, 0, none⟩)]⟩)] (.node (.node .nil (some (.func (Fn.func 68) ⟨[]⟩ ⟨[.pointer (some ⟨0, 0, none⟩)]⟩)) .nil) (some (.slice none 0 0)) (.node (.node .nil (some (.slice none 0 0)) .nil) (some (.pointer (some ⟨2, 0, none⟩))) .nil))) 13 ⟨[7]⟩ k_aqA k_aqB 3)) .nil) (some (.cells [.slice none 0 0] 72 2 0)) .nil)) .nil) := by kernel_rfl

theorem kyC (r : Mem) (L : Nat) (fs : FnsC) (s : List (Nat × Value)) (b : Tr Value) (q : Bool) (kn : KS) (kx : Nat → KS) (kr : KS) (ms : List Nat) (A : AW) : run (SC r) 43 14 L (lc (rc (ic (ic (rc cKs))))) fs none kn kx kr ((7, .bool q) :: s) b ms A =
    bif q then kn ((7, .bool q) :: s) b ms A else kx 0 ((7, .bool q) :: s) b ms A := by kernel_rfl

theorem kyP (r : Mem) (fs : FnsC) (kn : KS) (ms : List Nat) (A : AW) : preK (SC r) 43 14 (lc (ic (ic (rc cKs)))) 0 fs kn [] TK ms A =
    kn [] (.node (.node .nil (some (.pointer (some ⟨0, 0, none⟩))) (.node .nil (some (.pointer (some ⟨5, 0, none⟩))) .nil)) (some (.func (Fn.yield 4) ⟨[]⟩ ⟨[]⟩)) .nil) ms A := by kernel_rfl

theorem kyN (r : Mem) (fs : FnsC) (x : Int) (vb : Bool) (kn : KS) (ms : List Nat) (A : AW) : tailK (SC r) 43 14 (lc (ic (ic (rc cKs)))) 0 fs kn (.tuple ⟨[.bool true, .int .u16 x, .bool vb]⟩) [] TK ms A =
    kn [(7, .bool true), (6, .tuple ⟨[.bool true, .int .u16 x, .bool vb]⟩)] (.node (.node .nil (some (.pointer (some ⟨0, 0, none⟩))) (.node .nil (some (.pointer (some ⟨5, 0, none⟩))) .nil)) (some (.func (Fn.yield 4) ⟨[]⟩ ⟨[]⟩)) .nil) ms A := by kernel_rfl

theorem kyM (r : Mem) (fs : FnsC) (kn : KS) (ms : List Nat) (A : AW) : tailK (SC r) 43 14 (lc (ic (ic (rc cKs)))) 0 fs kn (.tuple ⟨[.bool false]⟩) [] TK ms A =
    kn [(7, .bool false), (6, .tuple ⟨[.bool false]⟩)] (.node (.node .nil (some (.pointer (some ⟨0, 0, none⟩))) (.node .nil (some (.pointer (some ⟨5, 0, none⟩))) .nil)) (some (.func (Fn.yield 4) ⟨[]⟩ ⟨[]⟩)) .nil) ms A := by kernel_rfl

theorem kyQ (r : Mem) (fs : FnsC) (kn : KS) (ms : List Nat) (A : AW) : preK (SC r) 43 14 (lc (ic (rc (rc (ic (ic (rc cKs))))))) 0 fs kn [] TK ms A =
    kn [] (.node (.node .nil (some (.pointer (some ⟨0, 0, none⟩))) (.node .nil (some (.pointer (some ⟨5, 0, none⟩))) .nil)) (some (.func (Fn.yield 4) ⟨[]⟩ ⟨[]⟩)) .nil) ms A := by kernel_rfl

theorem kyE (r : Mem) (fs : FnsC) (x : Int) (vb : Bool) (kn : KS) (ms : List Nat) (A : AW) : tailK (SC r) 43 14 (lc (ic (rc (rc (ic (ic (rc cKs))))))) 0 fs kn (.tuple ⟨[.int .u16 x, .bool vb]⟩) [] TK ms A =
    kn [(9, .int .u16 x), (8, .tuple ⟨[.int .u16 x, .bool vb]⟩)] (.node (.node (.node .nil (some (.int .u16 x)) .nil) (some (.pointer (some ⟨0, 0, none⟩))) (.node .nil (some (.pointer (some ⟨5, 0, none⟩))) .nil)) (some (.func (Fn.yield 4) ⟨[]⟩ ⟨[]⟩)) .nil) ms A := by kernel_rfl

theorem kyY (r : Mem) (L : Nat) (tm : Tr Nat) (e z clock : Nat) (es : List MapEntry) (seen : List Nat) (x : Int) (s : List (Nat × Value)) (kn : KS) (kx : Nat → KS) (kr : KS) (ms : List Nat) : run (SC r) 43 14 L (rc (ic (rc (rc (ic (ic (rc cKs))))))) (lvlT (SC r) (fun _ => none) tm L 1) none kn kx kr s (TKz x) ms (AKg e z clock es 6 (.slice none 0 0) (miT clock seen) .nil) =
    kn [(13, .bool false), (12, .bool true), (11, .int .u16 x), (10, .func (Fn.yield 4) ⟨[]⟩ ⟨[]⟩)] (.node (.node (.node .nil (some (.int .u16 x)) .nil) (some (.pointer (some ⟨0, 0, none⟩))) (.node .nil (some (.pointer (some ⟨5, 0, none⟩))) .nil)) (some (.func (Fn.yield 4) ⟨[]⟩ ⟨[]⟩)) .nil) ms (AW.mk 8 (.node (.node (.node (.node .nil (some (.cells [.int .u16 x] 53 7 1)) .nil) (some .defd) .nil) (some (AObj.map es clock)) (.node .nil (some (AObj.miter 1 clock seen clock)) .nil)) (some (.cells [Value.map (some 1)] e 0 z)) (.node (.node .nil (some (AObj.loop LoopState.ready none 183 (En.mk [(6, .func (Fn.func 68) ⟨[]⟩ ⟨[.pointer (some ⟨0, 0, none⟩)]⟩)] (.node (.node .nil (some (.func (Fn.func 68) ⟨[]⟩ ⟨[.pointer (some ⟨0, 0, none⟩)]⟩)) .nil) (some (.slice none 0 0)) (.node (.node .nil (some (.slice none 0 0)) .nil) (some (.pointer (some ⟨2, 0, none⟩))) .nil))) 13 ⟨[7]⟩ k_aqA k_aqB 3)) .nil) (some (.cells [.slice (some ⟨7, 0, none⟩) 1 unk] 72 2 0)) (.node .nil (some (.cells [.int .u16 x] 53 6 1)) .nil))) .nil) := by kernel_rfl

theorem kyZ (r : Mem) (L : Nat) (tm : Tr Nat) (e z clock : Nat) (es : List MapEntry) (seen : List Nat) (x : Int) (l : List Value) (n : Nat) (s : List (Nat × Value)) (kn : KS) (kx : Nat → KS) (kr : KS) (ms : List Nat) : run (SC r) 43 14 L (rc (ic (rc (rc (ic (ic (rc cKs))))))) (lvlT (SC r) (fun _ => none) tm L 1) none kn kx kr s (TKz x) ms (AKg e z clock es 7 (.slice (some ⟨6, 0, none⟩) n unk) (miT clock seen) (rwT 6 l)) =
    bif Nat.ble (Nat.add n 1) 1000000 then Option.casesOn (takeAt l 0 (Nat.mul n 1)) (.fail 439) fun val => kn [(13, .bool false), (12, .bool true), (11, .int .u16 x), (10, .func (Fn.yield 4) ⟨[]⟩ ⟨[]⟩)] (.node (.node (.node .nil (some (.int .u16 x)) .nil) (some (.pointer (some ⟨0, 0, none⟩))) (.node .nil (some (.pointer (some ⟨5, 0, none⟩))) .nil)) (some (.func (Fn.yield 4) ⟨[]⟩ ⟨[]⟩)) .nil) ms (AW.mk 9 (.node (.node (.node (.node .nil (some (.cells [.int .u16 x] 53 7 1)) .nil) (some .defd) .nil) (some (AObj.map es clock)) (.node .nil (some (AObj.miter 1 clock seen clock)) .nil)) (some (.cells [Value.map (some 1)] e 0 z)) (.node (.node (.node .nil (some (.cells (val ++ [.int .u16 x]) 53 6 1)) .nil) (some (AObj.loop LoopState.ready none 183 (En.mk [(6, .func (Fn.func 68) ⟨[]⟩ ⟨[.pointer (some ⟨0, 0, none⟩)]⟩)] (.node (.node .nil (some (.func (Fn.func 68) ⟨[]⟩ ⟨[.pointer (some ⟨0, 0, none⟩)]⟩)) .nil) (some (.slice none 0 0)) (.node (.node .nil (some (.slice none 0 0)) .nil) (some (.pointer (some ⟨2, 0, none⟩))) .nil))) 13 ⟨[7]⟩ k_aqA k_aqB 3)) .nil) (some (.cells [.slice (some ⟨8, 0, none⟩) (Nat.add n 1) unk] 72 2 0)) (.node .nil none .nil))) (.node .nil none (.node .nil none (.node .nil (some [8]) .nil)))) else .fail 420 := by kernel_rfl

end Go.Proofs

/- maps.Keys over slices.AppendSeq: the walk, each key once, in any order. -/
namespace Go.Proofs
open Go Go.Ev
set_option linter.unusedVariables false
set_option linter.unusedSimpArgs false

abbrev K16 : Type := {x : Int // 0 ≤ x ∧ x < 65536}
abbrev KT : Type := K16 × Bool × Nat
def mkE (t : KT) : MapEntry := ⟨.int .u16 t.1.1, .bool t.2.1, t.2.2⟩
def rowK (l : List KT) : List Value := l.map fun t => .int .u16 t.1.1
def bornK (l : List KT) : List Nat := l.map fun t => t.2.2
theorem rowK_len (l : List KT) : (rowK l).length = l.length := by simp [rowK]
theorem rowK_gnd (l : List KT) : ∀ v ∈ rowK l, gnd v = true := fun v hv => by
 obtain ⟨t, _, rfl⟩ := List.mem_map.1 hv
 rfl
theorem takeAt_fullK (l : List Value) (n : Nat) (h : l.length = n) : takeAt l 0 n = some l := takeAt_all l n 0 l h fun j _ => by rw [Nat.zero_add]
theorem natFK {i j : Nat} (h : i ≠ j) : Nat.beq i j = false := by
 cases e : Nat.beq i j with
 | false => rfl
 | true => exact absurd (Nat.eq_of_beq_eq_true e) h

structure KOk (q : List KT) (clock : Nat) : Prop where
 born : ∀ t ∈ q, t.2.2 < clock
 nodup : (bornK q).Nodup
 few : q.length < 1000000

theorem left_mem {q : List KT} {seen : List Nat} {e : MapEntry} (h : e ∈ nextLeft (q.map mkE) seen) : ∃ t ∈ q, e = mkE t ∧ t.2.2 ∉ seen := by
 unfold nextLeft at h
 obtain ⟨h1, h2⟩ := List.mem_filter.1 h
 obtain ⟨t, ht, rfl⟩ := List.mem_map.1 h1
 refine ⟨t, ht, rfl, fun hm => ?_⟩
 simp [mkE, hm] at h2

theorem left_nil {q : List KT} {seen : List Nat} (h : nextLeft (q.map mkE) seen = []) : ∀ t ∈ q, t.2.2 ∈ seen := fun t ht => by
 unfold nextLeft at h
 have := List.filter_eq_nil_iff.1 h (mkE t) (List.mem_map_of_mem ht)
 simpa [mkE] using this

theorem left_done {q vis rest : List KT} {clock : Nat} (hq : KOk q clock) (hp : (vis ++ rest).Perm q) (h : nextLeft (q.map mkE) (bornK vis) = []) : rest = [] := by
 cases rest with
 | nil => rfl
 | cons t l =>
  exfalso
  have h1 := left_nil h t (hp.mem_iff.1 (by simp))
  have h2 : (bornK (vis ++ t :: l)).Nodup := (hp.map _).nodup_iff.2 hq.nodup
  unfold bornK at h1 h2
  rw [List.map_append, List.nodup_append] at h2
  exact h2.2.2 _ h1 t.2.2 (by simp) rfl

theorem left_more {q vis rest : List KT} {clock : Nat} (hq : KOk q clock) (hp : (vis ++ rest).Perm q) {e : MapEntry} (h : e ∈ nextLeft (q.map mkE) (bornK vis)) : ∃ t rest', e = mkE t ∧ rest'.length < rest.length ∧ ((vis ++ [t]) ++ rest').Perm q := by
 obtain ⟨t, ht, rfl, hn⟩ := left_mem h
 have hm : t ∈ rest := by
  rcases List.mem_append.1 (hp.mem_iff.2 ht) with h1 | h1
  ·exact absurd (List.mem_map_of_mem (f := fun t : KT => t.2.2) h1) hn
  ·exact h1
 obtain ⟨a, b, rfl⟩ := List.append_of_mem hm
 refine ⟨t, a ++ b, rfl, by simp, List.Perm.trans ?_ hp⟩
 rw [List.append_assoc]
 refine List.Perm.append_left vis ?_
 simpa using List.perm_middle.symm

theorem same_ok {q : List KT} {clock : Nat} (hq : KOk q clock) (seen : List Nat) : nextSame (q.map mkE) clock seen clock = true := by
 unfold nextSame
 simp only [Bool.and_eq_true, Bool.not_eq_true', List.all_eq_true, decide_eq_true_eq]
 refine ⟨?_, fun e he => ?_⟩
 ·cases q with
  | nil => simp
  | cons t l =>
   have := hq.born t (by simp)
   have h2 : (List.map mkE (t :: l)).all (fun e => decide (clock ≤ e.born)) = false := by
    simp [mkE]
    intro h
    omega
   rw [h2]
   simp
 ·obtain ⟨t, ht, rfl, _⟩ := left_mem he
  exact hq.born t ht

theorem find_ok {q : List KT} {clock : Nat} (hq : KOk q clock) {t : KT} (ht : t ∈ q) : (q.map mkE).find? (fun e => Nat.beq e.born t.2.2) = some (mkE t) := by
 have key : ∀ (l : List KT), (bornK l).Nodup → t ∈ l → (l.map mkE).find? (fun e => Nat.beq e.born t.2.2) = some (mkE t) := by
  intro l
  induction l with
  | nil => intro _ h; cases h
  | cons x l ih =>
   intro hn hm
   rw [List.map_cons, List.find?_cons]
   unfold bornK at hn
   rw [List.map_cons, List.nodup_cons] at hn
   rcases List.mem_cons.1 hm with rfl | hm
   ·rw [show Nat.beq (mkE t).born t.2.2 = true from Nat.beq_refl _]
   ·have hne : x.2.2 ≠ t.2.2 := fun h => hn.1 (by rw [h]; exact List.mem_map_of_mem (f := fun t : KT => t.2.2) hm)
    rw [show Nat.beq (mkE x).born t.2.2 = false from natFK hne]
    exact ih hn.2 hm
 exact key q hq.nodup ht

section
variable {r : Mem} {γ0 : Gam} {W0 : World} {e z clock : Nat} {q : List KT}

noncomputable def AKv (e z clock : Nat) (q : List KT) : List KT → AW
 | [] => AKg e z clock (q.map mkE) 6 (.slice none 0 0) (miT clock []) .nil
 | t :: l => AKg e z clock (q.map mkE) 7 (.slice (some ⟨6, 0, none⟩) (t :: l).length unk) (miT clock (bornK (t :: l))) (rwT 6 (rowK (t :: l)))
noncomputable def AKf (e z clock : Nat) (q : List KT) : List KT → AW
 | [] => AKg e z clock (q.map mkE) 5 (.slice none 0 0) .nil .nil
 | t :: l => AKg e z clock (q.map mkE) 6 (.slice (some ⟨5, 0, none⟩) (t :: l).length unk) (rwT 5 (rowK (t :: l))) .nil
noncomputable def AKn (e z clock : Nat) (q : List KT) (seen : List Nat) : List KT → AW
 | [] => AKg e z clock (q.map mkE) 6 (.slice none 0 0) (miT clock seen) .nil
 | t :: l => AKg e z clock (q.map mkE) 7 (.slice (some ⟨6, 0, none⟩) (t :: l).length unk) (miT clock seen) (rwT 6 (rowK (t :: l)))


theorem ksG (q : List KT) : ∀ x ∈ q.map mkE, gnd x.key = true ∧ gnd x.val = true := fun x hx => by
 obtain ⟨t, _, rfl⟩ := List.mem_map.1 hx
 exact ⟨rfl, rfl⟩

theorem ren_start (h0 : ∀ i, 5 ≤ i → γ0 i = none) (s : List (Nat × Value)) : Ren (SC r) 43 14 γ0 W0 ⟨⟨s, TK⟩, [], AKv e z clock q []⟩ ⟨⟨[], TK⟩, [], AKv e z clock q []⟩ := by
 refine Ren.of (fun i => i) 5 rfl h0 (Nat.le_of_ble_eq_true rfl) (fun i hi => rfl) ?_ rfl ?_ trivial
 ·simp only [Tr.All, TK]
  repeat' (first | exact trivial | apply And.intro)
  all_goals exact ⟨_, rfl, rfl⟩
 ·simp only [Tr.All, AKv, AKg, miT]
  repeat' (first | exact trivial | apply And.intro)
  all_goals first | rfl | exact .head _ | exact ⟨_, rfl, .defd⟩ | exact ⟨_, rfl, .map (ksG q)⟩ | exact ⟨_, rfl, .miter rfl rfl⟩ | exact ⟨_, rfl, .cells rfl⟩ | exact ⟨_, rfl, .plain (by skip)⟩ | skip
  refine ⟨_, rfl, .same ?_ ?_ rfl rfl⟩
  ·simp only [Tr.All, TQ]
   repeat' (first | exact trivial | apply And.intro)
   all_goals rfl
  ·simp only [scrFix]
   repeat' (first | exact trivial | apply And.intro)
   all_goals rfl

def KeySt (e z clock : Nat) (q : List KT) (j : Nat) (st : St) : Prop := ∃ vis rest, rest.length = j ∧ (vis ++ rest).Perm q ∧ st = ⟨⟨[], TK⟩, [], AKv e z clock q vis⟩

def KeyQ (r : Mem) (γ0 : Gam) (W0 : World) (e z clock : Nat) (q : List KT) : Exit → St → Prop
 | .exit id, st => id = 0 ∧ ∃ vis, vis.Perm q ∧ ∃ st1, Ren (SC r) 43 14 γ0 W0 st st1 ∧ st1 = ⟨⟨[], .nil⟩, [], AKf e z clock q vis⟩
 | _, _ => False

theorem ren_out (h0 : ∀ i, 5 ≤ i → γ0 i = none) (s : List (Nat × Value)) (vis : List KT) : Ren (SC r) 43 14 γ0 W0 ⟨⟨s, TK⟩, [], AKv e z clock q vis⟩ ⟨⟨[], .nil⟩, [], AKf e z clock q vis⟩ := by
 cases vis with
 | nil =>
  refine Ren.of (fun i => i) 5 rfl h0 (Nat.le_of_ble_eq_true rfl) (fun i hi => rfl) ?_ rfl ?_ trivial
  ·simp only [Tr.All, TK]
   repeat' (first | exact trivial | apply And.intro)
   all_goals exact ⟨_, rfl, rfl⟩
  ·simp only [Tr.All, AKv, AKf, AKg, miT]
   repeat' (first | exact trivial | apply And.intro)
   all_goals first | rfl | exact .head _ | exact ⟨_, rfl, .defd⟩ | exact ⟨_, rfl, .map (ksG q)⟩ | exact ⟨_, rfl, .miter rfl rfl⟩ | exact ⟨_, rfl, .cells rfl⟩ | exact ⟨_, rfl, .plain (by skip)⟩ | skip
   refine ⟨_, rfl, .same ?_ ?_ rfl rfl⟩
   ·simp only [Tr.All, TQ]
    repeat' (first | exact trivial | apply And.intro)
    all_goals rfl
   ·simp only [scrFix]
    repeat' (first | exact trivial | apply And.intro)
    all_goals rfl
 | cons t l =>
  refine Ren.of (fun i => bif Nat.beq i 5 then 6 else i) 5 rfl h0 (Nat.le_of_ble_eq_true rfl) (fun i hi => by have : Nat.beq i 5 = false := natFK (by omega); rw [this]; rfl) ?_ rfl ?_ trivial
  ·simp only [Tr.All, TK]
   repeat' (first | exact trivial | apply And.intro)
   all_goals exact ⟨_, rfl, rfl⟩
  ·simp only [Tr.All, AKv, AKf, AKg, miT, rwT]
   repeat' (first | exact trivial | apply And.intro)
   all_goals first | rfl | exact .head _ | exact ⟨_, rfl, .defd⟩ | exact ⟨_, rfl, .map (ksG q)⟩ | exact ⟨_, rfl, .miter rfl rfl⟩ | exact ⟨_, rfl, .cells rfl⟩ | exact ⟨_, rfl, .plain (by exact rowK_gnd (t :: l))⟩ | skip
   refine ⟨_, rfl, .same ?_ ?_ rfl rfl⟩
   ·simp only [Tr.All, TQ]
    repeat' (first | exact trivial | apply And.intro)
    all_goals rfl
   ·simp only [scrFix]
    repeat' (first | exact trivial | apply And.intro)
    all_goals rfl

theorem put_seen {vis : List KT} {seen : List Nat} : ({ AKv e z clock q vis with heap := (AKv e z clock q vis).heap.put 5 (some (.miter 1 clock seen clock)) } : AW) = AKn e z clock q seen vis := by
 cases vis <;> rfl

theorem key_body (hq : KOk q clock) (h0 : ∀ i, 5 ≤ i → γ0 i = none) {F : Fence} {k : Nat} (hF : Wide F) (hro : F.round = none) {j : Nat} {st : St} (hs : KeySt e z clock q j st) :
  Go.Ev.Reach (SC r) 43 14 F k γ0 W0 (ic (ic (rc cKs))) st fun ex st' => match ex with
   | .normal => ∃ j', j' < j ∧ ∃ st1, Ren (SC r) 43 14 γ0 W0 st' st1 ∧ KeySt e z clock q j' st1
   | ex => KeyQ r γ0 W0 e z clock q ex st' := by
 obtain ⟨vis, rest, rfl, hp, rfl⟩ := hs
 rw [show ic (ic (rc cKs)) = Code.seq (lc (ic (ic (rc cKs)))) (.seq (lc (rc (ic (ic (rc cKs))))) (.block 1 (ic (rc (rc (ic (ic (rc cKs)))))))) from by kernel_rfl]
 have hi : (AKv e z clock q vis).heap.get 5 = some (.miter 1 clock (bornK vis) clock) := by cases vis <;> rfl
 have hm : (AKv e z clock q vis).heap.get 1 = some (.map (q.map mkE) clock) := by cases vis <;> rfl
 refine Go.Ev.Reach.seq (Go.Ev.Reach.nextP (SC_ok r) hF TOk.nil (tm := .nil) (L := 0) (d := 0) 0 (s1 := []) (b1 := TK) (ms1 := []) (A1 := AKv e z clock q vis) ?_ (by kernel_rfl) hi hm (same_ok hq _) fun v A' hv => ?_)
 ·rw [kyP]
  exact qn_ok rfl
 rcases hv with ⟨hnil, rfl, rfl⟩ | ⟨x, hx, rfl, rfl⟩
 ·rw [kyM]
  refine qn_ok (Go.Ev.Reach.seq (Go.Ev.Reach.seg (SC_ok r) TOk.nil (tm := .nil) (L := 1) (L' := 1) (d := 1) hF hro ?_))
  rw [kyC]
  simp only [cond_false]
  have := left_done hq hp hnil
  subst this
  rw [List.append_nil] at hp
  exact qn_ok ⟨rfl, vis, hp, _, ren_out h0 _ vis, rfl⟩
 ·obtain ⟨t, rest', rfl, hlt, hp'⟩ := left_more hq hp hx
  rw [show (mkE t).key = .int .u16 t.1.1 from rfl, show (mkE t).val = .bool t.2.1 from rfl, show (mkE t).born = t.2.2 from rfl, kyN, put_seen]
  refine qn_ok (Go.Ev.Reach.seq (Go.Ev.Reach.seg (SC_ok r) TOk.nil (tm := .nil) (L := 1) (L' := 1) (d := 1) hF hro ?_))
  rw [kyC]
  simp only [cond_true]
  have ht : t ∈ q := hp'.mem_iff.1 (by simp)
  have hi : (AKn e z clock q (bornK vis ++ [t.2.2]) vis).heap.get 5 = some (.miter 1 clock (bornK vis ++ [t.2.2]) clock) := by cases vis <;> rfl
  have hm : (AKn e z clock q (bornK vis ++ [t.2.2]) vis).heap.get 1 = some (.map (q.map mkE) clock) := by cases vis <;> rfl
  refine qn_ok (Go.Ev.Reach.block ?_)
  rw [show ic (rc (rc (ic (ic (rc cKs))))) = Code.seq (lc (ic (rc (rc (ic (ic (rc cKs))))))) (rc (ic (rc (rc (ic (ic (rc cKs))))))) from by kernel_rfl]
  refine Go.Ev.Reach.seq (Go.Ev.Reach.entryP (SC_ok r) hF TOk.nil (tm := .nil) (L := 0) (d := 0) 0 (s1 := []) (b1 := TK) (ms1 := []) (A1 := AKn e z clock q (bornK vis ++ [t.2.2]) vis) (i := 5) ?_ (by kernel_rfl) hi hm (by simp) (find_ok hq ht) ?_)
  ·exact (kyQ ..).trans (qn_ok rfl)
  rw [show (mkE t).key = .int .u16 t.1.1 from rfl, show (mkE t).val = .bool t.2.1 from rfl, kyE]
  refine qn_ok (Go.Ev.Reach.seg (SC_ok r) TOk.nil (tm := .nil) (L := 1) (L' := 1) (d := 1) hF hro ?_)
  cases vis with
  | nil =>
   refine (kyY ..).trans (qn_ok ⟨rest'.length, hlt, _, ?_, [t], rest', rfl, hp', rfl⟩)
   show Ren _ _ _ _ _ _ ⟨⟨[], TK⟩, [], AKg e z clock (q.map mkE) 7 (.slice (some ⟨6, 0, none⟩) 1 unk) (miT clock [t.2.2]) (rwT 6 [.int .u16 t.1.1])⟩
   refine Ren.of (fun i => bif Nat.beq i 6 then 7 else i) 5 rfl h0 (Nat.le_of_ble_eq_true rfl) (fun i hi => by have : Nat.beq i 6 = false := natFK (by omega); rw [this]; rfl) ?_ rfl ?_ trivial
   ·simp only [Tr.All, TK]
    repeat' (first | exact trivial | apply And.intro)
    all_goals exact ⟨_, rfl, rfl⟩
   ·simp only [Tr.All, AKg, miT, rwT]
    repeat' (first | exact trivial | apply And.intro)
    all_goals first | rfl | exact .head _ | exact ⟨_, rfl, .defd⟩ | exact ⟨_, rfl, .map (ksG q)⟩ | exact ⟨_, rfl, .miter rfl rfl⟩ | exact ⟨_, rfl, .cells rfl⟩ | exact ⟨_, rfl, .plain (by intro v hv; rw [List.mem_singleton.1 hv]; rfl)⟩ | skip
    refine ⟨_, rfl, .same ?_ ?_ rfl rfl⟩
    ·simp only [Tr.All, TQ]
     repeat' (first | exact trivial | apply And.intro)
     all_goals rfl
    ·simp only [scrFix]
     repeat' (first | exact trivial | apply And.intro)
     all_goals rfl
  | cons t0 l =>
   have hlen : (t0 :: l).length + 1 ≤ q.length := by
    have := hp'.length_eq
    simp only [List.length_append, List.length_cons, List.length_nil] at this ⊢
    omega
   have hfew := hq.few
   have g1 : Nat.ble (Nat.add (t0 :: l).length 1) 1000000 = true := Nat.ble_eq_true_of_le (by simp only [Nat.add_eq]; omega)
   have g2 : takeAt (rowK (t0 :: l)) 0 (Nat.mul (t0 :: l).length 1) = some (rowK (t0 :: l)) := takeAt_fullK _ _ (by rw [rowK_len]; simp)
   refine (kyZ ..).trans ?_
   rw [g1, g2]
   simp only [cond_true]
   refine qn_ok ⟨rest'.length, hlt, _, ?_, (t0 :: l) ++ [t], rest', rfl, hp', rfl⟩
   show Ren _ _ _ _ _ _ ⟨⟨[], TK⟩, [], AKg e z clock (q.map mkE) 7 (.slice (some ⟨6, 0, none⟩) ((t0 :: l) ++ [t]).length unk) (miT clock (bornK ((t0 :: l) ++ [t]))) (rwT 6 (rowK ((t0 :: l) ++ [t])))⟩
   have e1 : ((t0 :: l) ++ [t]).length = Nat.add (t0 :: l).length 1 := by simp
   have e2 : bornK ((t0 :: l) ++ [t]) = bornK (t0 :: l) ++ [t.2.2] := by simp [bornK]
   have e3 : rowK ((t0 :: l) ++ [t]) = rowK (t0 :: l) ++ [.int .u16 t.1.1] := by simp [rowK]
   rw [e1, e2, e3]
   refine Ren.of (fun i => bif Nat.beq i 6 then 8 else i) 5 rfl h0 (Nat.le_of_ble_eq_true rfl) (fun i hi => by have : Nat.beq i 6 = false := natFK (by omega); rw [this]; rfl) ?_ rfl ?_ trivial
   ·simp only [Tr.All, TK]
    repeat' (first | exact trivial | apply And.intro)
    all_goals exact ⟨_, rfl, rfl⟩
   ·simp only [Tr.All, AKg, miT, rwT]
    repeat' (first | exact trivial | apply And.intro)
    all_goals first | rfl | exact .head _ | exact ⟨_, rfl, .defd⟩ | exact ⟨_, rfl, .map (ksG q)⟩ | exact ⟨_, rfl, .miter rfl rfl⟩ | exact ⟨_, rfl, .cells rfl⟩ | exact ⟨_, rfl, .plain (by exact e3 ▸ rowK_gnd ((t0 :: l) ++ [t]))⟩ | skip
    refine ⟨_, rfl, .same ?_ ?_ rfl rfl⟩
    ·simp only [Tr.All, TQ]
     repeat' (first | exact trivial | apply And.intro)
     all_goals rfl
    ·simp only [scrFix]
     repeat' (first | exact trivial | apply And.intro)
     all_goals rfl

theorem keys_S (hq : KOk q clock) : SOk (SC r) 68 yK (AKg e z clock (q.map mkE) 5 (.slice none 0 0) .nil .nil) fun v A' => v = .tuple ⟨[]⟩ ∧ ∃ vis, vis.Perm q ∧ A' = AKf e z clock q vis := by
 obtain ⟨fn, h1, h2, h3, h4⟩ := fn_of (C := SC r) (f := 68) (by kernel_rfl)
 have hn : fn.ntmps = 14 := h3.trans (by kernel_rfl)
 have hr : fn.results.toList = [] := h4.trans (by kernel_rfl)
 rw [bodySC] at h2
 refine call_reachS (SC_ok r) h1 h2 43 (by rw [hn]; rfl) fun γ W F k hw hF hro => ?_
 rw [hn, hr]
 have h0 : ∀ i, 5 ≤ i → γ i = none := hw.fresh
 show Go.Ev.Reach (SC r) 43 14 F k γ W cKs _ _
 rw [show cKs = Code.seq (lc cKs) (.block 0 (.loop (ic (ic (rc cKs))))) from by kernel_rfl]
 refine Go.Ev.Reach.seq (Go.Ev.Reach.seg (SC_ok r) TOk.nil (tm := .nil) (L := 1) (L' := 1) (d := 1) hF hro ((kyB ..).trans (qn_ok ?_)))
 refine Go.Ev.Reach.pre (ren_start h0 _) ?_
 refine Go.Ev.Reach.block ?_
 refine Go.Ev.Reach.loop (I := fun j st => ∃ st1, Ren (SC r) 43 14 γ W st st1 ∧ KeySt e z clock q j st1) (fun j st ⟨st1, hr, hs⟩ => Go.Ev.Reach.pre hr (Go.Ev.Reach.mono (key_body hq h0 hF hro hs) fun ex st' h => ?_)) ⟨_, Ren.refl _, [], q, rfl, by simp, rfl⟩
 cases ex with
 | normal => exact h
 | exit id =>
  obtain ⟨rfl, vis, hv, st2, hr2, rfl⟩ := h
  exact ⟨.inl rfl, _, _, _, hr2, rfl, rfl, vis, hv, rfl⟩
 | _ => exact h.elim

end

end Go.Proofs

/- slices.AppendSeq and Collect over maps.Keys: one row, the keys in any order. -/
namespace Go.Proofs
open Go Go.Ev
set_option linter.unusedVariables false
set_option linter.unusedSimpArgs false

def TQ0 : Tr Value := .node (.node .nil (some seqV) .nil) (some (.slice none 0 0)) .nil
def AR (e z clock : Nat) (es : List MapEntry) (l : List Value) : AW := ⟨4, .node (.node (.node .nil none .nil) (some (.map es clock)) .nil) (some (.cells [.map (some 1)] e 0 z)) (.node .nil (some (.cells l 53 2 1)) .nil), .nil⟩
noncomputable def AR3 (e z clock : Nat) (es : List MapEntry) (l : List Value) : AW := ⟨4, .node (.node (.node .nil (some .defd) .nil) (some (.map es clock)) .nil) (some (.cells [.map (some 1)] e 0 z)) (.node .nil (some (.cells l 53 2 1)) .nil), .nil⟩
noncomputable def AKh (e z clock : Nat) (es : List MapEntry) (n : Nat) (sv : Value) (s5 : Tr AObj) : AW :=
 ⟨n, .node (.node (.node .nil (some .defd) .nil) (some (.map es clock)) s5) (some (.cells [.map (some 1)] e 0 z)) (.node (.node .nil (some (.loop .exhausted none 183 ⟨[(6, seqV)], TQ⟩ 13 ⟨[7]⟩ k_aqA k_aqB 3)) .nil) (some (.cells [sv] 72 2 0)) .nil), .nil⟩
def TQ4 (sv : Value) : Tr Value := .node .nil none (.node (.node .nil (some sv) .nil) none .nil)

def TC0 (v : Value) : Tr Value := .node .nil (some seqV) (.node .nil (some v) .nil)

theorem kcA (r : Mem) (L : Nat) (fs : FnsC) (e z clock : Nat) (es : List MapEntry) (kn : KS) (kx : Nat → KS) (kr : KS) (ms : List Nat) : run (SC r) 183 13 L (lc cAq) fs none kn kx kr (sc0 183 [.slice none 0 0, seqV]) (tr0 183 [.slice none 0 0, seqV]) ms (AK0 e z clock es) =
    kn [] (.node (.node .nil (some (.func (Fn.func 68) ⟨[]⟩ ⟨[.pointer (some ⟨0, 0, none⟩)]⟩)) .nil) (some (.slice none 0 0)) (.node (.node .nil (some (.slice none 0 0)) .nil) (some (.pointer (some ⟨2, 0, none⟩))) .nil)) ms (AW.mk 3 (.node (.node .nil (some (AObj.map es clock)) .nil) (some (.cells [Value.map (some 1)] e 0 z)) (.node .nil (some (.cells [.slice none 0 0] 72 2 0)) .nil)) .nil) := by kernel_rfl

theorem kcB (r : Mem) (L : Nat) (fs : FnsC) (s : List (Nat × Value)) (kn : KS) (kx : Nat → KS) (kr : KS) (ms : List Nat) (A : AW) : run (SC r) 183 13 L (lc (lc (rc cAq))) fs none kn kx kr s TQ ms A =
    kn [(6, .func (Fn.func 68) ⟨[]⟩ ⟨[.pointer (some ⟨0, 0, none⟩)]⟩)] (.node (.node .nil (some (.func (Fn.func 68) ⟨[]⟩ ⟨[.pointer (some ⟨0, 0, none⟩)]⟩)) .nil) (some (.slice none 0 0)) (.node (.node .nil (some (.slice none 0 0)) .nil) (some (.pointer (some ⟨2, 0, none⟩))) .nil)) ms A := by kernel_rfl

theorem kcC (r : Mem) (L : Nat) (fs : FnsC) (e z clock : Nat) (es : List MapEntry) (n : Nat) (l : List Value) (kn : KS) (kx : Nat → KS) (kr : KS) : run (SC r) 183 13 L (rc (rc cAq)) fs none kn kx kr [(6, seqV)] TQ [3] (AKh e z clock es 6 (.slice (some ⟨5, 0, none⟩) n unk) (rwT 5 l)) =
    kr [(12, .slice (some ⟨5, 0, none⟩) n unk)] (.node (.node .nil (some (.func (Fn.func 68) ⟨[]⟩ ⟨[.pointer (some ⟨0, 0, none⟩)]⟩)) .nil) (some (.slice none 0 0)) (.node (.node .nil (some (.slice (some ⟨5, 0, none⟩) n unk)) .nil) (some (.pointer (some ⟨2, 0, none⟩))) .nil)) [3] (AW.mk 6 (.node (.node (.node .nil (some .defd) .nil) (some (AObj.map es clock)) (.node .nil (some (.cells l 53 5 1)) .nil)) (some (.cells [Value.map (some 1)] e 0 z)) (.node (.node .nil (some (AObj.loop LoopState.exhausted none 183 (En.mk [(6, .func (Fn.func 68) ⟨[]⟩ ⟨[.pointer (some ⟨0, 0, none⟩)]⟩)] (.node (.node .nil (some (.func (Fn.func 68) ⟨[]⟩ ⟨[.pointer (some ⟨0, 0, none⟩)]⟩)) .nil) (some (.slice none 0 0)) (.node (.node .nil (some (.slice none 0 0)) .nil) (some (.pointer (some ⟨2, 0, none⟩))) .nil))) 13 ⟨[7]⟩ k_aqA k_aqB 3)) .nil) (some (.cells [.slice (some ⟨5, 0, none⟩) n unk] 72 2 0)) .nil)) .nil) := by kernel_rfl

theorem kcF (r : Mem) (e z clock : Nat) (es : List MapEntry) (n : Nat) (l : List Value) (k : KV) : finK (SC r) 183 (resOf (SC r) 77) k [] (TQ4 (.slice (some ⟨2, 0, none⟩) n unk)) [3] (AR3 e z clock es l) =
    k (.slice (some ⟨2, 0, none⟩) n unk) (AW.mk 4 (.node (.node (.node .nil none .nil) (some (AObj.map es clock)) .nil) (some (.cells [Value.map (some 1)] e 0 z)) (.node .nil (some (.cells l 53 2 1)) .nil)) .nil) := by kernel_rfl

theorem kcG (r : Mem) (L : Nat) (fs : FnsC) (kn : KS) (kx : Nat → KS) (kr : KS) (ms : List Nat) (A : AW) : run (SC r) 5 5 L (lc cCo) fs none kn kx kr (sc0 5 [seqV]) (tr0 5 [seqV]) ms A =
    kn [] (.node .nil (some (.func (Fn.func 68) ⟨[]⟩ ⟨[.pointer (some ⟨0, 0, none⟩)]⟩)) (.node .nil (some (.slice none 0 0)) .nil)) ms A := by kernel_rfl

theorem kcH (r : Mem) (fs : FnsC) (kn : KS) (ms : List Nat) (A : AW) : preK (SC r) 5 5 (lc (rc cCo)) 1 fs kn [] (TC0 (.slice none 0 0)) ms A =
    kn [(3, .func (Fn.func 68) ⟨[]⟩ ⟨[.pointer (some ⟨0, 0, none⟩)]⟩)] (.node .nil (some (.func (Fn.func 68) ⟨[]⟩ ⟨[.pointer (some ⟨0, 0, none⟩)]⟩)) (.node .nil (some (.slice none 0 0)) .nil)) ms A := by kernel_rfl

theorem kcI (r : Mem) (fs : FnsC) (n : Nat) (kn : KS) (ms : List Nat) (A : AW) : tailK (SC r) 5 5 (lc (rc cCo)) 1 fs kn (.slice (some ⟨2, 0, none⟩) n unk) [(3, seqV)] (TC0 (.slice none 0 0)) ms A =
    kn [(4, .slice (some ⟨2, 0, none⟩) n unk), (3, .func (Fn.func 68) ⟨[]⟩ ⟨[.pointer (some ⟨0, 0, none⟩)]⟩)] (.node .nil (some (.func (Fn.func 68) ⟨[]⟩ ⟨[.pointer (some ⟨0, 0, none⟩)]⟩)) (.node .nil (some (.slice (some ⟨2, 0, none⟩) n unk)) .nil)) ms A := by kernel_rfl

theorem kcK (r : Mem) (L : Nat) (fs : FnsC) (s : List (Nat × Value)) (n : Nat) (kn : KS) (kx : Nat → KS) (kr : KS) (ms : List Nat) (A : AW) : run (SC r) 5 5 L (rc (rc cCo)) fs none kn kx kr s (TC0 (.slice (some ⟨2, 0, none⟩) n unk)) ms A =
    kr s (.node .nil (some (.func (Fn.func 68) ⟨[]⟩ ⟨[.pointer (some ⟨0, 0, none⟩)]⟩)) (.node .nil (some (.slice (some ⟨2, 0, none⟩) n unk)) .nil)) ms A := by kernel_rfl

theorem kcL (r : Mem) (s : List (Nat × Value)) (n : Nat) (k : KV) (A : AW) : finK (SC r) 5 (resOf (SC r) 66) k s (TC0 (.slice (some ⟨2, 0, none⟩) n unk)) [] A =
    k (.slice (some ⟨2, 0, none⟩) n unk) A := by kernel_rfl

theorem kcJ (r : Mem) (A : AW) : callAt (SC r) 5 (lc (rc cCo)) 1 ⟨[(3, seqV)], TC0 (.slice none 0 0)⟩ A = some (77, [.slice none 0 0, seqV], A) := by kernel_rfl

section
variable {r : Mem} {γ0 : Gam} {W0 : World} {e z clock : Nat} {q : List KT}


theorem append_S (hq : KOk q clock) (hne : q ≠ []) : SOk (SC r) 77 [.slice none 0 0, seqV] (AK0 e z clock (q.map mkE)) fun v A' => ∃ vis, vis.Perm q ∧ v = .slice (some ⟨2, 0, none⟩) vis.length unk ∧ A' = AR e z clock (q.map mkE) (rowK vis) := by
 obtain ⟨fn, h1, h2, h3, h4⟩ := fn_of (C := SC r) (f := 77) (by kernel_rfl)
 have hn : fn.ntmps = 13 := h3.trans (by kernel_rfl)
 rw [bodySC] at h2
 refine call_reachS (SC_ok r) h1 h2 183 (by rw [hn]; rfl) fun γ W F k hw hF hro => ?_
 rw [hn, h4]
 have h0 : ∀ i, 2 ≤ i → γ i = none := hw.fresh
 show Go.Ev.Reach (SC r) 183 13 F k γ W cAq _ _
 obtain ⟨fo, ps, hrf⟩ : ∃ fo ps, cAq = Code.seq (lc cAq) (.seq (.seq (lc (lc (rc cAq))) (.block 0 (.rangeFunc fo ps k_aqA k_aqB))) (rc (rc cAq))) ∧ ps = ⟨[7]⟩ ∧ fo = .tmp 6 := ⟨.tmp 6, ⟨[7]⟩, by kernel_rfl, rfl, rfl⟩
 obtain ⟨hrf, rfl, rfl⟩ := hrf
 rw [hrf]
 refine Go.Ev.Reach.seq (Go.Ev.Reach.seg (SC_ok r) TOk.nil (tm := .nil) (L := 1) (L' := 1) (d := 1) hF hro ((kcA ..).trans (qn_ok ?_)))
 refine Go.Ev.Reach.seq (Go.Ev.Reach.seq (Go.Ev.Reach.seg (SC_ok r) TOk.nil (tm := .nil) (L := 1) (L' := 1) (d := 1) hF hro ((kcB r 1 _ [] _ _ _ [] _).trans (qn_ok ?_))))
 have eA : (((⟨3, .node (.node .nil (some (.map (q.map mkE) clock)) .nil) (some (.cells [.map (some 1)] e 0 z)) (.node .nil (some (.cells [.slice none 0 0] 72 2 0)) .nil), .nil⟩ : AW).new .defd).new (.loop .ready none 183 ⟨[(6, seqV)], TQ⟩ 13 ⟨[7]⟩ k_aqA k_aqB 3)) = AKg e z clock (q.map mkE) 5 (.slice none 0 0) .nil .nil := by kernel_rfl
 have hkey := keys_S (r := r) (e := e) (z := z) hq
 rw [← eA] at hkey
 refine Go.Ev.Reach.block (Go.Ev.Reach.rangeS (SC_ok r) hF hro (g := 68) (first := []) (captured := [.pointer (some ⟨0, 0, none⟩)]) rfl (by kernel_rfl) hkey fun v A' ⟨_, vis, hv, hA⟩ => ?_)
 subst hA
 cases vis with
 | nil => exact absurd hv.nil_eq.symm hne
 | cons t l =>
  refine ⟨⟨⟨[(6, seqV)], TQ⟩, [3], AKh e z clock (q.map mkE) 6 (.slice (some ⟨5, 0, none⟩) (t :: l).length unk) (rwT 5 (rowK (t :: l)))⟩, by kernel_rfl, ?_⟩
  refine Go.Ev.Reach.seg (SC_ok r) TOk.nil (tm := .nil) (L := 1) (L' := 1) (d := 1) hF hro ((kcC ..).trans (qn_ok ⟨.inr rfl, ⟨⟨[], TQ4 (.slice (some ⟨2, 0, none⟩) (t :: l).length unk)⟩, [3], AR3 e z clock (q.map mkE) (rowK (t :: l))⟩, _, _, ?_, ?_, t :: l, hv, rfl, rfl⟩))
  ·
   refine Ren.of (fun i => bif Nat.beq i 2 then 5 else i) 2 rfl h0 (Nat.le_of_ble_eq_true rfl) (fun i hi => by have : Nat.beq i 2 = false := natFK (by omega); rw [this]; rfl) ?_ rfl ?_ trivial
   ·simp only [Tr.All, TQ4]
    repeat' (first | exact trivial | apply And.intro)
    all_goals exact ⟨_, rfl, rfl⟩
   ·simp only [Tr.All, AR3]
    repeat' (first | exact trivial | apply And.intro)
    all_goals first | rfl | exact .head _ | exact ⟨_, rfl, .defd⟩ | exact ⟨_, rfl, .map (ksG q)⟩ | exact ⟨_, rfl, .cells rfl⟩ | exact ⟨_, rfl, .plain (by exact rowK_gnd (t :: l))⟩
  ·rw [← finK_finish]
   exact kcF ..

theorem collect_S (hq : KOk q clock) (hne : q ≠ []) : SOk (SC r) 66 [seqV] (AK0 e z clock (q.map mkE)) fun v A' => ∃ vis, vis.Perm q ∧ v = .slice (some ⟨2, 0, none⟩) vis.length unk ∧ A' = AR e z clock (q.map mkE) (rowK vis) := by
 obtain ⟨fn, h1, h2, h3, h4⟩ := fn_of (C := SC r) (f := 66) (by kernel_rfl)
 have hn : fn.ntmps = 5 := h3.trans (by kernel_rfl)
 rw [bodySC] at h2
 refine call_reachS (SC_ok r) h1 h2 5 (by rw [hn]; rfl) fun γ W F k hw hF hro => ?_
 rw [hn, h4]
 show Go.Ev.Reach (SC r) 5 5 F k γ W cCo _ _
 rw [show cCo = Code.seq (lc cCo) (.seq (lc (rc cCo)) (rc (rc cCo))) from by kernel_rfl]
 refine Go.Ev.Reach.seq (Go.Ev.Reach.seg (SC_ok r) TOk.nil (tm := .nil) (L := 1) (L' := 1) (d := 1) hF hro ((kcG ..).trans (qn_ok ?_)))
 refine Go.Ev.Reach.seq (Go.Ev.Reach.callP (SC_ok r) hF TOk.nil (tm := .nil) (L := 0) (d := 0) 1 ((kcH ..).trans (qn_ok rfl)) (kcJ ..) (append_S (e := e) (z := z) hq hne) fun v A' ⟨vis, hv, h1, h2⟩ => ?_)
 subst h1 h2
 refine (kcI ..).trans (qn_ok (Go.Ev.Reach.seg (SC_ok r) TOk.nil (tm := .nil) (L := 1) (L' := 1) (d := 1) hF hro ((kcK ..).trans (qn_ok ⟨.inr rfl, _, _, _, Ren.refl _, ?_, vis, hv, rfl, rfl⟩))))
 rw [← finK_finish]
 exact kcL ..

end

end Go.Proofs

/- slices.SortedFunc over maps.Keys, run around the sort. -/
namespace Go.Proofs
open Go Go.Ev
set_option linter.unusedVariables false
set_option linter.unusedSimpArgs false

noncomputable def cSf : Code := bodyOf S0 47
abbrev cmpV : Value := .func (.func 49) ⟨[]⟩ ⟨[]⟩
abbrev slV (n : Nat) : Value := .slice (some ⟨2, 0, none⟩) n unk
def TS0 : Tr Value := .node (.node .nil (some cmpV) .nil) (some seqV) (.node (.node .nil (some (.slice none 0 0)) .nil) none .nil)
def TS1 (n : Nat) : Tr Value := .node (.node .nil (some cmpV) (.node .nil (some (slV n)) .nil)) (some seqV) (.node (.node .nil (some (.slice none 0 0)) .nil) none .nil)
def TS2 (n : Nat) : Tr Value := .node (.node .nil (some cmpV) (.node .nil (some (slV n)) .nil)) (some seqV) (.node (.node .nil (some (slV n)) .nil) none .nil)
noncomputable def tSo (n : Nat) (A0 A1 : AW) : Tbl := tcons 67 (entAt [slV n, cmpV] A0 (.tuple ⟨[]⟩) A1) fun _ => none

theorem kdA (r : Mem) (L : Nat) (fs : FnsC) (kn : KS) (kx : Nat → KS) (kr : KS) (ms : List Nat) (A : AW) : run (SC r) 51 12 L (lc cSf) fs none kn kx kr (sc0 51 [seqV, cmpV]) (tr0 51 [seqV, cmpV]) ms A =
    kn [] (.node (.node .nil (some (.func (Fn.func 49) ⟨[]⟩ ⟨[]⟩)) .nil) (some (.func (Fn.func 68) ⟨[]⟩ ⟨[.pointer (some ⟨0, 0, none⟩)]⟩)) (.node (.node .nil (some (.slice none 0 0)) .nil) none .nil)) ms A := by kernel_rfl

theorem kdB (r : Mem) (fs : FnsC) (kn : KS) (ms : List Nat) (A : AW) : preK (SC r) 51 12 (lc (rc cSf)) 1 fs kn [] TS0 ms A =
    kn [(6, .func (Fn.func 68) ⟨[]⟩ ⟨[.pointer (some ⟨0, 0, none⟩)]⟩)] (.node (.node .nil (some (.func (Fn.func 49) ⟨[]⟩ ⟨[]⟩)) .nil) (some (.func (Fn.func 68) ⟨[]⟩ ⟨[.pointer (some ⟨0, 0, none⟩)]⟩)) (.node (.node .nil (some (.slice none 0 0)) .nil) none .nil)) ms A := by kernel_rfl

theorem kdC (r : Mem) (fs : FnsC) (n : Nat) (kn : KS) (ms : List Nat) (A : AW) : tailK (SC r) 51 12 (lc (rc cSf)) 1 fs kn (slV n) [(6, seqV)] TS0 ms A =
    kn [(7, .slice (some ⟨2, 0, none⟩) n unk), (6, .func (Fn.func 68) ⟨[]⟩ ⟨[.pointer (some ⟨0, 0, none⟩)]⟩)] (.node (.node .nil (some (.func (Fn.func 49) ⟨[]⟩ ⟨[]⟩)) (.node .nil (some (.slice (some ⟨2, 0, none⟩) n unk)) .nil)) (some (.func (Fn.func 68) ⟨[]⟩ ⟨[.pointer (some ⟨0, 0, none⟩)]⟩)) (.node (.node .nil (some (.slice none 0 0)) .nil) none .nil)) ms A := by kernel_rfl

theorem kdD (r : Mem) (L : Nat) (e z clock : Nat) (es : List MapEntry) (l l' : List Value) (n : Nat) (s : List (Nat × Value)) (kn : KS) (kx : Nat → KS) (kr : KS) (ms : List Nat) : run (SC r) 51 12 L (rc (rc cSf)) (lvlT (SC r) (tSo n (AR e z clock es l) (AR e z clock es l')) .nil 1 1) none kn kx kr s (TS1 n) ms (AR e z clock es l) =
    bif m_at [.slice (some ⟨2, 0, none⟩) n unk, .func (Fn.func 49) ⟨[]⟩ ⟨[]⟩] [.slice (some ⟨2, 0, none⟩) n unk, .func (Fn.func 49) ⟨[]⟩ ⟨[]⟩] (AW.mk 4 (.node (.node (.node .nil none .nil) (some (AObj.map es clock)) .nil) (some (.cells [Value.map (some 1)] e 0 z)) (.node .nil (some (.cells l 53 2 1)) .nil)) .nil) (AW.mk 4 (.node (.node (.node .nil none .nil) (some (AObj.map es clock)) .nil) (some (.cells [Value.map (some 1)] e 0 z)) (.node .nil (some (.cells l 53 2 1)) .nil)) .nil) then kr [(11, .slice (some ⟨2, 0, none⟩) n unk)] (.node (.node .nil (some (.func (Fn.func 49) ⟨[]⟩ ⟨[]⟩)) (.node .nil (some (.slice (some ⟨2, 0, none⟩) n unk)) .nil)) (some (.func (Fn.func 68) ⟨[]⟩ ⟨[.pointer (some ⟨0, 0, none⟩)]⟩)) (.node (.node .nil (some (.slice (some ⟨2, 0, none⟩) n unk)) .nil) none .nil)) ms (AW.mk 4 (.node (.node (.node .nil none .nil) (some (AObj.map es clock)) .nil) (some (.cells [Value.map (some 1)] e 0 z)) (.node .nil (some (.cells l' 53 2 1)) .nil)) .nil) else .fail 420 := by kernel_rfl

theorem kdE (r : Mem) (s : List (Nat × Value)) (n : Nat) (k : KV) (A : AW) : finK (SC r) 51 (resOf (SC r) 47) k s (TS2 n) [] A =
    k (.slice (some ⟨2, 0, none⟩) n unk) A := by kernel_rfl

theorem kdJ (r : Mem) (A : AW) : callAt (SC r) 51 (lc (rc cSf)) 1 ⟨[(6, seqV)], TS0⟩ A = some (66, [seqV], A) := by kernel_rfl

end Go.Proofs

/- The order of the sets: by their size, then as numbers. -/
namespace Go.Proofs
open Go Go.Ev
set_option linter.unusedVariables false
set_option linter.unusedSimpArgs false

def ones : Nat → Nat → Nat
 | 0, _ => 0
 | n + 1, x => x % 2 + ones n (x / 2)
def popTab : List UInt8 := (List.range 256).map fun i => UInt8.ofNat (ones 8 i)
def m_sz (x : Int) : Int := Int.ofNat (ones 8 (x.toNat / 256) + ones 8 (x.toNat % 256))
def m_cp (x y : Int) : Int := bif decide (x < y) then -1 else bif decide (x > y) then 1 else 0
def m_cf (x y : Int) : Int := bif m_cp (m_sz x) (m_sz y) != 0 then m_cp (m_sz x) (m_sz y) else m_cp x y

def in16 (x : Int) : Bool := decide (0 ≤ x) && decide (x < 65536)
def eSz : Ent := ent (fun args _ => match args with | [.int .u16 x] => in16 x | _ => false) (fun args _ => match args with | [.int .u16 x] => I (m_sz x) | _ => undef)
def eC16 : Ent := ent (fun args _ => match args with | [.int .u16 _, .int .u16 _] => true | _ => false) (fun args _ => match args with | [.int .u16 x, .int .u16 y] => I (m_cp x y) | _ => undef)
def tCf : Tbl := tcons 52 eSz (tcons 53 eC16 (tcons 51 (eI2 (fun _ _ => true) fun x y => I (m_cp x y)) fun _ => none))

theorem pop_get : ∀ i : Fin 256, popTab[i.val]? = some (UInt8.ofNat (ones 8 i.val)) := by decide +kernel
theorem ones_lt : ∀ i : Fin 256, ones 8 i.val ≤ 8 := by decide +kernel

theorem keS (r : Mem) (x : Int) : (lvlT (SC r) (fun _ => none) .nil 2 3).call 52 [.int .u16 x] emptyA fin =
  bif decide (0 ≤ Int.fdiv x (Int.ofNat 256)) then Option.casesOn popTab[Int.toNat (Int.fdiv x (Int.ofNat 256))]? (CR.fail 429) fun val => Option.casesOn popTab[Int.toNat (ibits BinOp.and IntKind.u16 x (Int.ofNat 255))]? (CR.fail 429) fun val_1 => CR.ret (Value.int IntKind.i64 (IntKind.wrap IntKind.i64 (IntKind.wrap IntKind.u8 (Int.ofNat (UInt8.toNat val) + Int.ofNat (UInt8.toNat val_1))))) (AW.mk 0 Tr.nil Tr.nil) else CR.fail 420 := by kernel_rfl

theorem and255 (n : Nat) (h : n < 65536) : ibits BinOp.and IntKind.u16 (n : Int) (Int.ofNat 255) = ((n % 256 : Nat) : Int) := by
 have e : (BitVec.ofInt 16 (n : Int) &&& BitVec.ofInt 16 (Int.ofNat 255)).toNat = n % 256 := by
  rw [BitVec.toNat_and, BitVec.ofInt_natCast, BitVec.toNat_ofNat, Nat.mod_eq_of_lt (by omega)]
  exact Nat.and_two_pow_sub_one_eq_mod n 8
 show IntKind.wrap .u16 ((BitVec.ofInt 16 (n : Int) &&& BitVec.ofInt 16 (Int.ofNat 255)).toNat : Int) = _
 rw [e]
 have : n % 256 < 256 := Nat.mod_lt _ (by omega)
 generalize n % 256 = m at this ⊢
 have : ∀ m : Fin 256, IntKind.wrap .u16 (m.val : Int) = (m.val : Int) := by decide +kernel
 exact this ⟨m, by omega⟩

theorem size_calls (r : Mem) (x : Int) (h0 : 0 ≤ x) (h1 : x < 65536) : GrT Tryd.prog r 52 [.int .u16 x] (I (m_sz x)) := by
 refine GrT.of (SC_ok r) TOk.nil .nil rfl ⟨2, 3, (keS r x).trans ?_⟩
 obtain ⟨n, rfl⟩ := Int.eq_ofNat_of_zero_le h0
 have hn : n < 65536 := by omega
 have e1 : Int.fdiv (n : Int) (Int.ofNat 256) = ((n / 256 : Nat) : Int) := by rw [Int.fdiv_eq_ediv_of_nonneg _ (by decide)]; rfl
 have hd : n / 256 < 256 := by omega
 have hm : n % 256 < 256 := Nat.mod_lt _ (by omega)
 rw [e1, and255 n hn, Int.toNat_natCast, Int.toNat_natCast, pop_get ⟨n / 256, hd⟩, pop_get ⟨n % 256, hm⟩]
 rw [show decide ((0 : Int) ≤ ((n / 256 : Nat) : Int)) = true from decide_eq_true (by omega)]
 simp only [cond_true]
 unfold m_sz
 rw [Int.toNat_natCast]
 have k1 := ones_lt ⟨n / 256, hd⟩
 have k2 := ones_lt ⟨n % 256, hm⟩
 simp only at k1 k2
 generalize ones 8 (n / 256) = a at k1 ⊢
 generalize ones 8 (n % 256) = b at k2 ⊢
 have key : ∀ a b : Fin 9, IntKind.wrap IntKind.i64 (IntKind.wrap IntKind.u8 (Int.ofNat (UInt8.toNat (UInt8.ofNat a.val)) + Int.ofNat (UInt8.toNat (UInt8.ofNat b.val)))) = Int.ofNat (a.val + b.val) := by decide +kernel
 rw [key ⟨a, by omega⟩ ⟨b, by omega⟩]
 rfl

theorem keC (r : Mem) (x y : Int) : (lvlT (SC r) (fun _ => none) .nil 2 3).call 51 [I x, I y] emptyA fin =
    bif x != x then bif y != y then .ret (I (Int.ofNat 0)) (AW.mk 0 .nil .nil) else .ret (I (Int.negSucc 0)) (AW.mk 0 .nil .nil) else bif y != y then .ret (I (Int.ofNat 1)) (AW.mk 0 .nil .nil) else bif decide (x < y) then .ret (I (Int.negSucc 0)) (AW.mk 0 .nil .nil) else bif decide (x > y) then .ret (I (Int.ofNat 1)) (AW.mk 0 .nil .nil) else .ret (I (Int.ofNat 0)) (AW.mk 0 .nil .nil) := by kernel_rfl

theorem keD (r : Mem) (x y : Int) : (lvlT (SC r) (fun _ => none) .nil 2 3).call 53 [.int .u16 x, .int .u16 y] emptyA fin =
    bif x != x then bif y != y then .ret (I (Int.ofNat 0)) (AW.mk 0 .nil .nil) else .ret (I (Int.negSucc 0)) (AW.mk 0 .nil .nil) else bif y != y then .ret (I (Int.ofNat 1)) (AW.mk 0 .nil .nil) else bif decide (x < y) then .ret (I (Int.negSucc 0)) (AW.mk 0 .nil .nil) else bif decide (x > y) then .ret (I (Int.ofNat 1)) (AW.mk 0 .nil .nil) else .ret (I (Int.ofNat 0)) (AW.mk 0 .nil .nil) := by kernel_rfl

theorem cmp_calls (r : Mem) (x y : Int) : GrT Tryd.prog r 51 [I x, I y] (I (m_cp x y)) := by
 refine GrT.of (SC_ok r) TOk.nil .nil rfl ⟨2, 3, ?_⟩
 rw [keC]
 simp only [neF (show x = x from rfl), neF (show y = y from rfl), cond_false, m_cp]
 cases decide (x < y) <;> cases decide (x > y) <;> rfl
theorem cmp16_calls (r : Mem) (x y : Int) : GrT Tryd.prog r 53 [.int .u16 x, .int .u16 y] (I (m_cp x y)) := by
 refine GrT.of (SC_ok r) TOk.nil .nil rfl ⟨2, 3, ?_⟩
 rw [keD]
 simp only [neF (show x = x from rfl), neF (show y = y from rfl), cond_false, m_cp]
 cases decide (x < y) <;> cases decide (x > y) <;> rfl

theorem eSz_ok (r : Mem) : EOk (SC r) 52 eSz := EOk.ent fun args A hg => by
 split at hg
 ·rename_i x
  simp only [in16, Bool.and_eq_true, decide_eq_true_eq] at hg
  exact (size_calls r x hg.1 hg.2).ro rfl A
 ·cases hg
theorem eC16_ok (r : Mem) : EOk (SC r) 53 eC16 := EOk.ent fun args A hg => by
 split at hg
 ·exact (cmp16_calls r _ _).ro rfl A
 ·cases hg
theorem tCf_ok (r : Mem) : TOk (SC r) tCf := ((TOk.nil.cons (eI2_ok fun x y _ => cmp_calls r x y)).cons (eC16_ok r)).cons (eSz_ok r)

theorem keF (r : Mem) (x y : Int) : (lvlT (SC r) tCf .nil 4 3).call 49 [.int .u16 x, .int .u16 y] emptyA fin =
    bif decide (0 ≤ x) && decide (x < 65536) then bif decide (0 ≤ y) && decide (y < 65536) then bif m_cp (m_sz x) (m_sz y) != Int.ofNat 0 then .ret (I (m_cp (m_sz x) (m_sz y))) (AW.mk 0 .nil .nil) else bif m_cp x y != Int.ofNat 0 then .ret (I (m_cp x y)) (AW.mk 0 .nil .nil) else .ret (I (Int.ofNat 0)) (AW.mk 0 .nil .nil) else .fail 420 else .fail 420 := by kernel_rfl

end Go.Proofs

/- From a small world of a box and a map to the caller's: one new row more. -/
namespace Go.Proofs
open Go Go.Ev
set_option linter.unusedVariables false
set_option linter.unusedSimpArgs false

def g2 (γ : Gam) (b m : Nat) : Gam := fun i => match i with | 0 => γ b | 1 => γ m | _ => none

theorem g2_cases {γ : Gam} {b m i : Nat} {g : GI} (h : g2 γ b m i = some g) : (i = 0 ∧ γ b = some g) ∨ (i = 1 ∧ γ m = some g) := by
 unfold g2 at h
 split at h
 ·exact .inl ⟨rfl, h⟩
 ·exact .inr ⟨rfl, h⟩
 ·cases h

theorem ak0_get {e z clock : Nat} {es : List MapEntry} {i : Nat} {o : AObj} (h : (AK0 e z clock es).heap.get i = some o) : (i = 0 ∧ o = .cells [.map (some 1)] e 0 z) ∨ (i = 1 ∧ o = .map es clock) := by
 have : Tr.All (fun i o => (i = 0 ∧ o = AObj.cells [.map (some 1)] e 0 z) ∨ (i = 1 ∧ o = .map es clock)) (AK0 e z clock es).heap id := by
  exact ⟨.inl ⟨rfl, rfl⟩, ⟨.inr ⟨rfl, rfl⟩, trivial, trivial⟩, trivial⟩
 exact this.get h

theorem WRel.pair {γ : Gam} {A : AW} {W : World} (hw : WRel γ A W) {b m e f z clock : Nat} {es : List MapEntry} (hb : A.heap.get b = some (.cells [.map (some m)] e f z)) (hm : A.heap.get m = some (.map es clock))
  (hg : ∀ x ∈ es, gnd x.key = true ∧ gnd x.val = true) : WRel (g2 γ b m) (AK0 e z clock es) W := by
 obtain ⟨gb, hgb, hob⟩ := hw.obj _ _ hb
 obtain ⟨gm, hgm, hom⟩ := hw.obj _ _ hm
 refine ⟨fun i o hi => ?_, fun i g hi => ?_, fun i hi => ?_, fun i j o o' g g' hi hj hgi hgj hbb => ?_, fun i c e' fam sz hi => ?_, fun i c e' fam sz hi => ?_, fun f _ => rfl⟩
 ·rcases ak0_get hi with ⟨rfl, rfl⟩ | ⟨rfl, rfl⟩
  ·refine ⟨gb, hgb, ?_⟩
   cases hob with
   | cells h hf hn hz hc =>
    refine .cells h hf hn hz fun k v hk => ?_
    cases k with
    | zero =>
     cases hk
     obtain ⟨v', h1, h2⟩ := hc 0 _ rfl
     refine ⟨v', h1, ?_⟩
     cases h2 with
     | map hx => exact .map (show g2 γ b m 1 = _ from hx)
    | succ k => cases hk
  ·refine ⟨gm, hgm, ?_⟩
   cases hom with
   | map h he => exact .map h (he.of_gnds hg)
 ·rcases g2_cases hi with ⟨_, h⟩ | ⟨_, h⟩
  ·exact hw.lt _ _ h
  ·exact hw.lt _ _ h
 ·unfold g2
  split
  ·have : (2 : Nat) ≤ 0 := hi
   omega
  ·have : (2 : Nat) ≤ 1 := hi
   omega
  ·rfl
 ·have no : ∀ {g : GI}, gb = g → gm = g → False := fun h1 h2 => by
   have hbb : gb.blk = gm.blk := by rw [h1, h2]
   rcases hw.sep b m _ _ gb gm hb hm hgb hgm hbb with h | ⟨_, _, _, _, _, _, _, _, h⟩
   ·subst h
    rw [hb] at hm
    cases hm
   ·exact nomatch h.1
  have no' : gb.blk = gm.blk → False := fun hbb => by
   rcases hw.sep b m _ _ gb gm hb hm hgb hgm hbb with h | ⟨_, _, _, _, _, _, _, _, h⟩
   ·subst h
    rw [hb] at hm
    cases hm
   ·exact nomatch h.1
  rcases g2_cases hgi with ⟨rfl, h1⟩ | ⟨rfl, h1⟩ <;> rcases g2_cases hgj with ⟨rfl, h2⟩ | ⟨rfl, h2⟩
  ·exact .inl rfl
  ·rw [hgb] at h1; rw [hgm] at h2
   cases h1; cases h2
   exact (no' hbb).elim
  ·rw [hgm] at h1; rw [hgb] at h2
   cases h1; cases h2
   exact (no' hbb.symm).elim
  ·exact .inl rfl
 ·rcases ak0_get hi with ⟨rfl, h⟩ | ⟨rfl, h⟩
  ·cases h
   exact .head _
  ·cases h
 ·rcases ak0_get hi with ⟨rfl, h⟩ | ⟨rfl, h⟩
  ·cases h
   show 0 < 2
   omega
  ·cases h

theorem _root_.Go.Ev.Ro.pair {r : Nat → Nat → Option Value} {γ : Gam} {W : World} (h : Ro r γ W) (b m : Nat) : Ro r (g2 γ b m) W := fun b' k v e => by
 obtain ⟨hno, h2⟩ := h b' k v e
 refine ⟨fun i g hi => ?_, h2⟩
 rcases g2_cases hi with ⟨_, h⟩ | ⟨_, h⟩
 ·exact hno _ _ h
 ·exact hno _ _ h

theorem Ends.pair {γ : Gam} {A : AW} {W : World} (hw : WRel γ A W) {b m e f z clock n eK : Nat} {es : List MapEntry} {l : List Value} (hb : A.heap.get b = some (.cells [.map (some m)] e f z)) (hm : A.heap.get m = some (.map es clock))
  (hf : A.members f = [b]) (hg : ∀ x ∈ es, gnd x.key = true ∧ gnd x.val = true) (hl : ∀ v ∈ l, gnd v = true) {x : Ending} {W' : World} {AR' : AW}
  (h0 : AR'.heap.get 0 = some (.cells [.map (some 1)] e 0 z)) (h1 : AR'.heap.get 1 = some (.map es clock)) (h2 : AR'.heap.get 2 = some (.cells l eK 2 1))
  (h : Go.Ev.Ends (g2 γ b m) W (.slice (some ⟨2, 0, none⟩) n unk) AR' x W') : Go.Ev.Ends γ W (.slice (some ⟨A.next, 0, none⟩) n unk) (A.new (.cells l eK A.next 1)) x W' := by
 obtain ⟨v', γ', rfl, hv, hw', hx⟩ := h
 obtain ⟨gb, hgb, hob⟩ := hw.obj _ _ hb
 obtain ⟨gm, hgm, hom⟩ := hw.obj _ _ hm
 have hb' : γ' 0 = some gb := hx.le 0 gb hgb
 have hm' : γ' 1 = some gm := hx.le 1 gm hgm
 obtain ⟨gr, hgr, hor⟩ := hw'.obj _ _ h2
 have hnew : W.heap.size ≤ gr.blk := by
  rcases hx.new 2 gr hgr with hh | ⟨_, hh | ⟨j, y, hj, hy⟩⟩
  ·cases hh
  ·exact hh
  ·exfalso
   rcases g2_cases hj with ⟨_, hj⟩ | ⟨_, hj⟩
   ·rw [hgb] at hj; cases hj
    rcases hw'.sep 2 0 _ _ gr gb h2 h0 hgr hb' hy.symm with h | ⟨_, _, _, _, _, _, _, q1, q2⟩
    ·cases h
    ·cases q1; exact nomatch q2.1
   ·rw [hgm] at hj; cases hj
    rcases hw'.sep 2 1 _ _ gr gm h2 h1 hgr hm' hy.symm with h | ⟨_, _, _, _, _, _, _, _, q2⟩
    ·cases h
    ·exact nomatch q2.1
 have hkeep : ∀ k, k < W.heap.size → k ≠ gb.blk → k ≠ gm.blk → W'.heap[k]? = W.heap[k]? := fun k hk h1 h2 => by
  refine hx.block k hk fun i g hi hbk => ?_
  rcases g2_cases hi with ⟨_, h⟩ | ⟨_, h⟩
  ·rw [hgb] at h; cases h
   exact h1 hbk.symm
  ·rw [hgm] at h; cases h
   exact h2 hbk.symm
 have hwA : WRel γ A W' := by
  refine ⟨fun i o hi => ?_, fun i g hi => Nat.lt_of_lt_of_le (hw.lt i g hi) hx.size, hw.fresh, hw.sep, hw.mem, hw.famlt, hw.famfresh⟩
  obtain ⟨g, hgi, hr⟩ := hw.obj i o hi
  refine ⟨g, hgi, ?_⟩
  have onB : i = b → ORel γ W' g o := fun h => by
   subst h
   rw [hb] at hi; rw [hgb] at hgi
   cases hi; cases hgi
   obtain ⟨g', hg', ho'⟩ := hw'.obj _ _ h0
   rw [hb'] at hg'; cases hg'
   cases ho' with
   | cells q1 q2 q3 q4 q5 =>
    refine .cells q1 q2 q3 q4 fun k v hk => ?_
    cases k with
    | zero =>
     cases hk
     obtain ⟨u, k1, k2⟩ := q5 0 _ rfl
     refine ⟨u, k1, ?_⟩
     cases k2 with
     | map hy => rw [hm'] at hy; cases hy; exact .map hgm
    | succ k => cases hk
  have onM : i = m → ORel γ W' g o := fun h => by
   subst h
   rw [hm] at hi; rw [hgm] at hgi
   cases hi; cases hgi
   obtain ⟨g', hg', ho'⟩ := hw'.obj _ _ h1
   rw [hm'] at hg'; cases hg'
   cases ho' with
   | map q1 q2 => exact .map q1 (q2.of_gnds hg)
  by_cases c1 : g.blk = gb.blk
  ·rcases hw.sep i b _ _ g gb hi hb hgi hgb c1 with h | ⟨c, e1, c', e2, fam, s1, s2, q1, q2⟩
   ·exact onB h
   ·obtain ⟨q2, _⟩ := q2
    cases q2
    subst q1
    have := hw.mem i _ _ _ _ hi
    rw [hf] at this
    exact onB (List.mem_singleton.1 this)
  ·by_cases c2 : g.blk = gm.blk
   ·rcases hw.sep i m _ _ g gm hi hm hgi hgm c2 with h | ⟨_, _, _, _, _, _, _, _, q2⟩
    ·exact onM h
    ·exact nomatch q2.1
   ·exact hr.mono γ.le_refl (hkeep _ (hw.lt _ _ hgi) c1 c2)
 have hun : ∀ i g', γ i = some g' → g'.blk ≠ gr.blk := fun i g' hi hbk => by
  have := hw.lt i g' hi
  omega
 have ho' : ORel γ W' gr (.cells l eK A.next 1) := by
  cases hor with
  | cells q1 q2 q3 q4 q5 =>
   refine .cells q1 q2 q3 q4 fun k v hk => ?_
   obtain ⟨u, k1, k2⟩ := q5 k v hk
   have hgv := hl v (List.mem_of_getElem? hk)
   exact ⟨u, k1, by rw [k2.eq_of_gnd hgv]; exact VRel.of_gnd _ v hgv⟩
 refine ⟨v', γ.set A.next gr, rfl, ?_, hwA.add ho' hun, ⟨Gam.le_set _ (hw.fresh _ (Nat.le_refl _)), fun i y hi => ?_, hx.size, fun k hk hno => ?_, hx.os, hx.tape, hx.output, hx.drawn⟩⟩
 ·generalize hc : unk = c0 at hv
  cases hv with
  | slice k l0 c c' hg1 hc1 =>
   subst hc
   rw [hgr] at hg1; cases hg1
   exact .slice _ _ _ _ (Gam.set_same _ _ _) hc1
  | sliceE => exact absurd hc (by decide)
 ·rcases Gam.set_cases hi with ⟨rfl, rfl⟩ | ⟨_, hi⟩
  ·exact .inr ⟨hw.fresh _ (Nat.le_refl _), .inl hnew⟩
  ·exact .inl hi
 ·exact hkeep k hk (fun h => hno b gb hgb h.symm) (fun h => hno m gm hgm h.symm)

end Go.Proofs

/- The sort of this program, laid: the numbers of the functions and types. -/
set_option linter.unusedVariables false
set_option linter.unusedSimpArgs false
namespace Go.Proofs
open Go Go.Shelf

noncomputable def nameK (n : Nat) : String := match Tryd.prog.funcs[n]? with
 | some f => f.name
 | none => ""
def Tryd.sortK_ren : Shelf.Ren where
 f := fun x => match x with
  | 6 => 67
  | 15 => 73
  | 14 => 78
  | 28 => 87
  | 29 => 88
  | 20 => 89
  | 21 => 90
  | 22 => 91
  | 23 => 92
  | 24 => 93
  | 25 => 94
  | 26 => 95
  | 27 => 96
  | 46 => 102
  | 47 => 98
  | 48 => 99
  | 49 => 103
  | 50 => 104
  | 57 => 106
  | n => n
 t := fun x => match x with
  | 22 => 72
  | 24 => 53
  | 25 => 92
  | 3 => 3
  | 39 => 110
  | 0 => 0
  | 53 => 113
  | 55 => 126
  | 4 => 4
  | 46 => 118
  | 45 => 117
  | 50 => 122
  | 5 => 5
  | 9 => 9
  | 66 => 132
  | 70 => 136
  | 76 => 140
  | 77 => 33
  | n => n
 g := fun x => x

theorem Tryd.sortK : SlLaysF.n6 Tryd.prog Tryd.sortK_ren where
 mixed := by kernel_rfl
 f6 := ⟨nameK 67, of_decide_eq_true (by kernel_rfl), Tryd.func67.trans (by kernel_rfl)⟩
 f14 := ⟨nameK 78, of_decide_eq_true (by kernel_rfl), Tryd.func78.trans (by kernel_rfl)⟩
 f15 := Tryd.func73.trans (by kernel_rfl)
 f20 := ⟨nameK 89, of_decide_eq_true (by kernel_rfl), Tryd.func89.trans (by kernel_rfl)⟩
 f21 := ⟨nameK 90, of_decide_eq_true (by kernel_rfl), Tryd.func90.trans (by kernel_rfl)⟩
 f22 := ⟨nameK 91, of_decide_eq_true (by kernel_rfl), Tryd.func91.trans (by kernel_rfl)⟩
 f23 := ⟨nameK 92, of_decide_eq_true (by kernel_rfl), Tryd.func92.trans (by kernel_rfl)⟩
 f24 := ⟨nameK 93, of_decide_eq_true (by kernel_rfl), Tryd.func93.trans (by kernel_rfl)⟩
 f25 := ⟨nameK 94, of_decide_eq_true (by kernel_rfl), Tryd.func94.trans (by kernel_rfl)⟩
 f26 := ⟨nameK 95, of_decide_eq_true (by kernel_rfl), Tryd.func95.trans (by kernel_rfl)⟩
 f27 := ⟨nameK 96, of_decide_eq_true (by kernel_rfl), Tryd.func96.trans (by kernel_rfl)⟩
 f28 := Tryd.func87.trans (by kernel_rfl)
 f29 := Tryd.func88.trans (by kernel_rfl)
 f46 := ⟨nameK 102, of_decide_eq_true (by kernel_rfl), Tryd.func102.trans (by kernel_rfl)⟩
 f47 := Tryd.func98.trans (by kernel_rfl)
 f48 := Tryd.func99.trans (by kernel_rfl)
 f49 := ⟨nameK 103, of_decide_eq_true (by kernel_rfl), Tryd.func103.trans (by kernel_rfl)⟩
 f50 := ⟨nameK 104, of_decide_eq_true (by kernel_rfl), Tryd.func104.trans (by kernel_rfl)⟩
 f57 := ⟨nameK 106, of_decide_eq_true (by kernel_rfl), Tryd.func106.trans (by kernel_rfl)⟩
 t0 := Tryd.underlying0
 a0 := Tryd.isAgg0
 z0 := Tryd.sizeOf0
 v0 := Tryd.zeroValue0
 t3 := Tryd.underlying3
 a3 := Tryd.isAgg3
 z3 := Tryd.sizeOf3
 v3 := Tryd.zeroValue3
 t4 := Tryd.underlying4
 a4 := Tryd.isAgg4
 z4 := Tryd.sizeOf4
 v4 := Tryd.zeroValue4
 t5 := Tryd.underlying5
 a5 := Tryd.isAgg5
 z5 := Tryd.sizeOf5
 v5 := Tryd.zeroValue5
 t9 := Tryd.underlying9
 a9 := Tryd.isAgg9
 z9 := Tryd.sizeOf9
 v9 := Tryd.zeroValue9
 t22 := Tryd.underlying72
 a22 := Tryd.isAgg72
 z22 := Tryd.sizeOf72
 v22 := Tryd.zeroValue72
 a24 := Tryd.isAgg53
 z24 := Tryd.sizeOf53
 t25 := Tryd.underlying92
 a25 := Tryd.isAgg92
 z25 := Tryd.sizeOf92
 v25 := Tryd.zeroValue92
 t39 := Tryd.underlying110
 a39 := Tryd.isAgg110
 z39 := Tryd.sizeOf110
 v39 := Tryd.zeroValue110
 t45 := Tryd.underlying117
 a45 := Tryd.isAgg117
 z45 := Tryd.sizeOf117
 v45 := Tryd.zeroValue117
 t46 := Tryd.underlying118
 a46 := Tryd.isAgg118
 z46 := Tryd.sizeOf118
 v46 := Tryd.zeroValue118
 t50 := Tryd.underlying122
 a50 := Tryd.isAgg122
 z50 := Tryd.sizeOf122
 v50 := Tryd.zeroValue122
 t53 := Tryd.underlying113
 a53 := Tryd.isAgg113
 z53 := Tryd.sizeOf113
 v53 := Tryd.zeroValue113
 t55 := Tryd.underlying126
 a55 := Tryd.isAgg126
 z55 := Tryd.sizeOf126
 v55 := Tryd.zeroValue126
 t66 := Tryd.underlying132
 a66 := Tryd.isAgg132
 z66 := Tryd.sizeOf132
 v66 := Tryd.zeroValue132
 t70 := Tryd.underlying136
 a70 := Tryd.isAgg136
 z70 := Tryd.sizeOf136
 v70 := Tryd.zeroValue136
 t76 := Tryd.underlying140
 a76 := Tryd.isAgg140
 z76 := Tryd.sizeOf140
 v76 := Tryd.zeroValue140
 t77 := Tryd.underlying33
 a77 := Tryd.isAgg33
 z77 := Tryd.sizeOf33
 v77 := Tryd.zeroValue33

end Go.Proofs

/- slices.SortedFunc over maps.Keys: the keys in their order, as an entry of a table. -/
namespace Go.Proofs
open Go Go.Ev Go.Shelf Go.Lib Go.Sort
set_option linter.unusedVariables false
set_option linter.unusedSimpArgs false
set_option maxRecDepth 100000

instance : Inhabited K16 := ⟨⟨0, by decide⟩⟩
def encK (x : K16) : Value := .int .u16 x.1
def cfK (x y : K16) : Int := m_cf x.1 y.1

theorem cf_calls (r : Mem) (x y : K16) : GrT Tryd.prog r 49 [encK x, encK y] (I (cfK x y)) := by
 refine GrT.of (SC_ok r) (tCf_ok r) .nil rfl ⟨4, 3, (keF r x.1 y.1).trans ?_⟩
 obtain ⟨x, h1, h2⟩ := x
 obtain ⟨y, h3, h4⟩ := y
 simp only [dT h1, dT h2, dT h3, dT h4, Bool.and_self, cond_true]
 unfold cfK m_cf
 simp only
 rw [show (Int.ofNat 0 : Int) = 0 from rfl]
 cases m_cp (m_sz x) (m_sz y) != 0
 ·simp only [cond_false]
  cases h : m_cp x y != 0
  ·simp only [cond_false]
   have : m_cp x y = 0 := by simpa using h
   rw [this]
   rfl
  ·rfl
 ·rfl

theorem cp_neg (x y : Int) : m_cp x y < 0 ↔ x < y := by
 unfold m_cp
 by_cases h : x < y
 ·simp [h]
 ·by_cases h2 : x > y <;> simp [h, h2]
theorem cp_zero (x y : Int) : (m_cp x y != 0) = false ↔ x = y := by
 unfold m_cp
 by_cases h : x < y
 ·simp [h]; omega
 ·by_cases h2 : x > y
  ·simp [h, h2]; omega
  ·simp [h, h2]; omega
theorem ltK (x y : K16) : ltOf cfK x y = decide (m_sz x.1 < m_sz y.1 ∨ (m_sz x.1 = m_sz y.1 ∧ x.1 < y.1)) := by
 unfold ltOf cfK m_cf
 cases h : m_cp (m_sz x.1) (m_sz y.1) != 0
 ·have := (cp_zero _ _).1 h
  simp only [cond_false, cp_neg, this]
  simp
 ·have : m_sz x.1 ≠ m_sz y.1 := fun e => by rw [(cp_zero _ _).2 e] at h; cases h
  simp only [cond_true, cp_neg]
  simp [this]
theorem swoK : SWO (ltOf cfK) where
 irrefl x := by rw [ltK]; simp
 trans x y z h1 h2 := by rw [ltK] at *; simp only [decide_eq_true_eq] at *; omega
 ntrans x y z h1 h2 := by rw [ltK] at *; simp only [decide_eq_false_iff_not] at *; omega
theorem totK (x y : K16) (h1 : ltOf cfK x y = false) (h2 : ltOf cfK y x = false) : x = y := by
 rw [ltK] at *
 simp only [decide_eq_false_iff_not] at *
 apply Subtype.ext
 omega

def insZ (x : Int) : List Int → List Int
 | [] => [x]
 | y :: l => bif decide (m_cf x y < 0) then x :: y :: l else y :: insZ x l
def sortZ : List Int → List Int
 | [] => []
 | x :: l => insZ x (sortZ l)
def insK (x : K16) : List K16 → List K16
 | [] => [x]
 | y :: l => bif ltOf cfK x y then x :: y :: l else y :: insK x l
def sortK : List K16 → List K16
 | [] => []
 | x :: l => insK x (sortK l)
theorem insK_val (x : K16) (l : List K16) : (insK x l).map (·.1) = insZ x.1 (l.map (·.1)) := by
 induction l with
 | nil => rfl
 | cons y l ih =>
  simp only [insK, List.map_cons, insZ]
  rw [show decide (m_cf x.1 y.1 < 0) = ltOf cfK x y from rfl]
  cases ltOf cfK x y
  ·simp only [cond_false, List.map_cons, ih]
  ·rfl
theorem sortK_val (l : List K16) : (sortK l).map (·.1) = sortZ (l.map (·.1)) := by
 induction l with
 | nil => rfl
 | cons x l ih => simp only [sortK, List.map_cons, sortZ, insK_val, ih]
theorem insK_perm (x : K16) (l : List K16) : (insK x l).Perm (x :: l) := by
 induction l with
 | nil => exact .refl _
 | cons y l ih =>
  simp only [insK]
  cases ltOf cfK x y
  ·exact (List.Perm.cons y ih).trans (.swap ..)
  ·exact .refl _
theorem sortK_perm (l : List K16) : (sortK l).Perm l := by
 induction l with
 | nil => exact .refl _
 | cons x l ih => exact (insK_perm x _).trans (.cons x ih)
theorem insK_sorted (x : K16) {l : List K16} (h : l.Pairwise fun a b => ltOf cfK b a = false) : (insK x l).Pairwise fun a b => ltOf cfK b a = false := by
 induction l with
 | nil => simp [insK]
 | cons y l ih =>
  simp only [insK]
  rw [List.pairwise_cons] at h
  cases hc : ltOf cfK x y with
  | true =>
   simp only [cond_true]
   have hyx : ltOf cfK y x = false := by
    rw [ltK] at *
    simp only [decide_eq_true_eq, decide_eq_false_iff_not] at *
    omega
   refine List.pairwise_cons.2 ⟨fun b hb => ?_, List.pairwise_cons.2 h⟩
   rcases List.mem_cons.1 hb with rfl | hb
   ·exact hyx
   ·have := h.1 b hb
    rw [ltK] at *
    simp only [decide_eq_true_eq, decide_eq_false_iff_not] at *
    omega
  | false =>
   simp only [cond_false]
   refine List.pairwise_cons.2 ⟨fun b hb => ?_, ih h.2⟩
   rcases List.mem_cons.1 ((insK_perm x l).mem_iff.1 hb) with rfl | hb
   ·exact hc
   ·exact h.1 b hb
theorem sortK_sorted (l : List K16) : (sortK l).Pairwise fun a b => ltOf cfK b a = false := by
 induction l with
 | nil => exact .nil
 | cons x l ih => exact insK_sorted x ih
theorem sortK_one {d l : List K16} (hp : d.Perm l) (hs : d.Pairwise fun a b => ltOf cfK b a = false) : d = sortK l :=
 (hp.trans (sortK_perm l).symm).eq_of_pairwise (fun a b _ _ h1 h2 => totK a b h2 h1) hs (sortK_sorted l)

theorem sort_entry (r : Mem) {A0 : AW} {i : Nat} {e : TypeId} {fam z : Nat} {zs l : List K16} (hi : A0.heap.get i = some (.cells (zs.map encK) e fam z)) (hsz : zs.length < 1000000) (hl : zs.Perm l) :
  EOk (SC r) 67 (entAt [.slice (some ⟨i, 0, none⟩) zs.length unk, cmpV] A0 (.tuple ⟨[]⟩) (A0.only fam i (.cells ((sortK l).map encK) e fam z))) := by
 refine entAt_ok fun F hF k γ W args' hw hR ha => ?_
 exact sort_gen Tryd.sortK encK (fun _ => rfl) (fun _ => rfl) 49 cfK swoK (fun args w => callFunc_ok (SC_ok r) (by kernel_rfl) args w) (cf_calls _) (C := SC r) rfl hi (by omega) (by decide) (fun d hp hs => sortK_one (hp.trans hl) hs) F hF k γ W args' hw hR ha

theorem rowK_enc (vis : List KT) : rowK vis = (vis.map (·.1)).map encK := by simp [rowK, encK]

theorem sorted_S {r : Mem} {e z clock : Nat} {q : List KT} (hq : KOk q clock) (hne : q ≠ []) : SOk (SC r) 47 [seqV, cmpV] (AK0 e z clock (q.map mkE)) fun v A' => v = .slice (some ⟨2, 0, none⟩) q.length unk ∧ A' = AR e z clock (q.map mkE) ((sortK (q.map (·.1))).map encK) := by
 obtain ⟨fn, h1, h2, h3, h4⟩ := fn_of (C := SC r) (f := 47) (by kernel_rfl)
 have hn : fn.ntmps = 12 := h3.trans (by kernel_rfl)
 rw [bodySC] at h2
 refine call_reachS (SC_ok r) h1 h2 51 (by rw [hn]; rfl) fun γ W F k hw hF hro => ?_
 rw [hn, h4]
 show Go.Ev.Reach (SC r) 51 12 F k γ W cSf _ _
 rw [show cSf = Code.seq (lc cSf) (.seq (lc (rc cSf)) (rc (rc cSf))) from by kernel_rfl]
 refine Go.Ev.Reach.seq (Go.Ev.Reach.seg (SC_ok r) TOk.nil (tm := .nil) (L := 1) (L' := 1) (d := 1) hF hro ((kdA ..).trans (qn_ok ?_)))
 refine Go.Ev.Reach.seq (Go.Ev.Reach.callP (SC_ok r) hF TOk.nil (tm := .nil) (L := 0) (d := 0) 1 ((kdB ..).trans (qn_ok rfl)) (kdJ ..) (collect_S (e := e) (z := z) hq hne) fun v A' ⟨vis, hv, h1, h2⟩ => ?_)
 subst h1 h2
 refine (kdC ..).trans (qn_ok ?_)
 have hlen : vis.length = q.length := hv.length_eq
 have hent := sort_entry r (A0 := AR e z clock (q.map mkE) (rowK vis)) (i := 2) (e := 53) (fam := 2) (z := 1) (zs := vis.map (·.1)) (l := q.map (·.1)) (by rw [← rowK_enc]; kernel_rfl) (by rw [List.length_map, hlen]; exact hq.few) (hv.map _)
 rw [List.length_map] at hent
 have hA1 : (AR e z clock (q.map mkE) (rowK vis)).only 2 2 (.cells ((sortK (q.map (·.1))).map encK) 53 2 1) = AR e z clock (q.map mkE) ((sortK (q.map (·.1))).map encK) := by kernel_rfl
 refine Go.Ev.Reach.seg (SC_ok r) (t := tSo vis.length (AR e z clock (q.map mkE) (rowK vis)) (AR e z clock (q.map mkE) ((sortK (q.map (·.1))).map encK))) (TOk.nil.cons (hA1 ▸ hent)) (tm := .nil) (L := 1) (L' := 1) (d := 1) hF hro ((kdD ..).trans ?_)
 rw [at_rfl, cond_true]
 refine qn_ok ⟨.inr rfl, _, slV vis.length, _, Ren.refl _, ?_, by rw [hlen], rfl⟩
 rw [← finK_finish]
 exact kdE ..

end Go.Proofs

/- slices.SortedFunc over maps.Keys, as an entry in any world. -/
namespace Go.Proofs
open Go Go.Ev
set_option linter.unusedVariables false
set_option linter.unusedSimpArgs false

def sfArgs (args : List Value) (A : AW) : Option (List MapEntry × Nat) := match args with
 | [.func (.func f) ⟨[]⟩ ⟨[.pointer (some ⟨b, 0, none⟩)]⟩, .func (.func g) ⟨[]⟩ ⟨[]⟩] => match Nat.beq f 68 && Nat.beq g 49, A.heap.get b with
  | true, some (.cells [.map (some m)] _ fam _) => match A.members fam with
   | [b'] => match Nat.beq b' b, A.heap.get m with
    | true, some (.map es clock) => some (es, clock)
    | _, _ => none
   | _ => none
  | _, _ => none
 | _ => none

def keyZ (e : MapEntry) : Int := match e.key with
 | .int .u16 x => x
 | _ => 0
def okE (clock : Nat) (e : MapEntry) : Bool := match e.key, e.val with
 | .int .u16 x, .bool _ => decide (0 ≤ x) && decide (x < 65536) && Nat.blt e.born clock
 | _, _ => false
def freshB (n : Nat) : List MapEntry → Bool
 | [] => true
 | e :: l => (!Nat.beq e.born n) && freshB n l
def okEs (clock : Nat) : List MapEntry → Bool
 | [] => true
 | e :: l => okE clock e && freshB e.born l && okEs clock l

theorem okE_of {clock : Nat} {e : MapEntry} (h : okE clock e = true) : ∃ t : KT, e = mkE t ∧ t.2.2 < clock := by
 obtain ⟨k, v, n⟩ := e
 unfold okE at h
 split at h
 ·rename_i x b h1 h2
  simp only [Bool.and_eq_true, decide_eq_true_eq] at h
  simp only at h1 h2
  subst h1 h2
  exact ⟨(⟨x, h.1.1, h.1.2⟩, b, n), rfl, Nat.le_of_ble_eq_true h.2⟩
 ·cases h

theorem okEs_of {clock : Nat} : ∀ {es : List MapEntry}, okEs clock es = true → ∃ q : List KT, es = q.map mkE ∧ (∀ t ∈ q, t.2.2 < clock) ∧ (bornK q).Nodup
 | [], _ => ⟨[], rfl, fun _ h => (nomatch h), .nil⟩
 | e :: l, h => by
  simp only [okEs, Bool.and_eq_true] at h
  obtain ⟨⟨h1, h2⟩, h3⟩ := h
  obtain ⟨t, rfl, ht⟩ := okE_of h1
  obtain ⟨q, rfl, hq1, hq2⟩ := okEs_of h3
  refine ⟨t :: q, rfl, fun x hx => ?_, ?_⟩
  ·rcases List.mem_cons.1 hx with rfl | hx
   ·exact ht
   ·exact hq1 x hx
  ·unfold bornK at *
   rw [List.map_cons, List.nodup_cons]
   refine ⟨fun hm => ?_, hq2⟩
   obtain ⟨x, hx, hxe⟩ := List.mem_map.1 hm
   have key : ∀ (l : List KT), freshB t.2.2 (l.map mkE) = true → ∀ x ∈ l, x.2.2 ≠ t.2.2 := by
    intro l
    induction l with
    | nil => intro _ x hx; cases hx
    | cons y l ih =>
     intro h x hx
     simp only [List.map_cons, freshB, Bool.and_eq_true] at h
     rcases List.mem_cons.1 hx with rfl | hx
     ·intro he
      have h1 := h.1
      rw [show (mkE x).born = x.2.2 from rfl, he, show Nat.beq t.2.2 t.2.2 = true from Nat.beq_refl _] at h1
      cases h1
     ·exact ih h.2 x hx
   exact key q h2 x hx hxe

def emptyL : List MapEntry → Bool
 | [] => true
 | _ => false
def eSF : Ent := ⟨fun args A => match sfArgs args A with
  | some (es, clock) => !emptyL es && Nat.blt es.length 1000000 && okEs clock es
  | none => false, fun _ _ => true,
 fun args A => match sfArgs args A with
  | some (es, _) => .slice (some ⟨A.next, 0, none⟩) es.length unk
  | none => undef,
 fun args A => match sfArgs args A with
  | some (es, _) => A.new (.cells ((sortZ (es.map keyZ)).map fun x => .int .u16 x) 53 A.next 1)
  | none => A, fun _ _ => undef, fun _ A => A⟩

theorem eSF_ok (r : Mem) : EOk (SC r) 47 eSF := fun args A hg F hF k γ W args' hw hR ha => by
 refine ⟨fun _ => ?_, fun h => nomatch h⟩
 simp only [eSF] at hg ⊢
 cases hs : sfArgs args A with
 | none => rw [hs] at hg; cases hg
 | some p =>
  obtain ⟨es, clock⟩ := p
  rw [hs] at hg
  simp only [Bool.and_eq_true] at hg ⊢
  obtain ⟨⟨hne, hfew⟩, hok⟩ := hg
  obtain ⟨q, rfl, hq1, hq2⟩ := okEs_of hok
  have hfew' : q.length < 1000000 := by
   have := Nat.le_of_ble_eq_true hfew
   simp at this
   omega
  have hqn : q ≠ [] := fun h => by subst h; cases hne
  unfold sfArgs at hs
  split at hs
  ·rename_i f b g
   split at hs
   ·rename_i m e fam z hfg hbx
    split at hs
    ·rename_i b' hmem
     split at hs
     ·rename_i es' clock' hbb hmm
      cases hs
      simp only [Bool.and_eq_true] at hfg
      have e1 := Nat.eq_of_beq_eq_true hfg.1
      have e2 := Nat.eq_of_beq_eq_true hfg.2
      have e3 := Nat.eq_of_beq_eq_true hbb
      subst e1 e2 e3
      have hsorted := sorted_S (r := r) (e := e) (z := z) ⟨hq1, hq2, hfew'⟩ hqn
      have hks : ((sortZ ((q.map mkE).map keyZ)).map fun x => Value.int .u16 x) = (sortK (q.map (·.1))).map encK := by
       have h1 : (q.map mkE).map keyZ = (q.map (·.1)).map (·.1) := by simp [mkE, keyZ]
       rw [h1, ← sortK_val, List.map_map]
       rfl
      have hgs := ksG q
      have hw2 := WRel.pair hw hbx hmm hgs
      have hcall := hsorted F hF k (g2 γ b' m) W args' hw2 (Ro.pair hR b' m) ?_
      ·refine hcall.mono fun x W' ⟨v, A', hS, he⟩ => ?_
       obtain ⟨rfl, rfl⟩ := hS
       rw [hks, List.length_map]
       exact Ends.pair hw hbx hmm hmem hgs (fun v hv => by obtain ⟨y, _, rfl⟩ := List.mem_map.1 hv; rfl) rfl rfl rfl he
      ·obtain ⟨la⟩ := args'
       cases ha with
       | cons h1 h2 =>
       cases h2 with
       | cons h2 h3 =>
       cases h3
       refine .cons ?_ (.cons ?_ .nil)
       ·cases h1 with
        | func p1 p2 p3 =>
         rename_i f' a' c'
         obtain ⟨a'⟩ := a'
         obtain ⟨c'⟩ := c'
         cases p1
         cases p2
         cases p3 with
         | cons k1 k2 =>
          cases k2
          cases k1 with
          | ptr k hg1 => exact .func (.func _) .nil (.cons (.ptr _ (show g2 γ b' m 0 = _ from hg1)) .nil)
       ·cases h2 with
        | func p1 p2 p3 =>
         rename_i f' a' c'
         obtain ⟨a'⟩ := a'
         obtain ⟨c'⟩ := c'
         cases p1
         cases p2
         cases p3
         exact .func (.func _) .nil .nil
     ·cases hs
    ·cases hs
   ·cases hs
  ·cases hs

end Go.Proofs

/- Chapter 10: the example calls, run. -/
namespace Go.Proofs
open Go Go.Ev
set_option linter.unusedVariables false
set_option linter.unusedSimpArgs false
set_option maxRecDepth 100000

def mskH : Tr Nat := (.node (.node (.node (.node (.node (.node (.node .nil (some 19) .nil) (some 117900287) (.node .nil (some 7199) .nil)) (some 61) (.node (.node .nil (some 783) .nil) (some 51) (.node .nil (some 0) .nil))) (some 125) (.node (.node (.node .nil (some 5) .nil) (some 1971) (.node .nil (some 271) .nil)) (some 2013) (.node (.node .nil (some 5) .nil) (some 11) (.node .nil (some 0) .nil)))) (some 4093) (.node (.node (.node (.node .nil (some 19) .nil) (some 7) (.node .nil (some 5) .nil)) (some 458877) (.node (.node .nil (some 775) .nil) (some 115) (.node .nil (some 0) .nil))) (some 115) (.node (.node (.node .nil (some 23) .nil) none (.node .nil (some 0) .nil)) (some 61) (.node (.node .nil (some 7943) .nil) (some 7351) .nil)))) none (.node (.node (.node (.node (.node .nil (some 5) .nil) (some 415) (.node .nil (some 3103) .nil)) (some 61) (.node (.node .nil (some 7943) .nil) (some 19) (.node .nil (some 0) .nil))) (some 49119) (.node (.node (.node .nil (some 5) .nil) (some 29) (.node .nil (some 3103) .nil)) (some 13) (.node (.node .nil (some 783) .nil) (some 39) (.node .nil (some 0) .nil)))) (some 13) (.node (.node (.node (.node .nil (some 5) .nil) (some 435) (.node .nil (some 4159) .nil)) (some 33557567) (.node (.node .nil (some 7199) .nil) (some 115) (.node .nil (some 0) .nil))) (some 455) (.node (.node (.node .nil (some 183) .nil) (some 19) (.node .nil (some 0) .nil)) none (.node (.node .nil (some 775) .nil) (some 479) .nil))))) none (.node (.node (.node (.node (.node (.node .nil (some 435) .nil) none (.node .nil (some 15391) .nil)) none (.node (.node .nil (some 7951) .nil) (some 7) (.node .nil (some 0) .nil))) (some 13) (.node (.node (.node .nil (some 2096159) .nil) none (.node .nil (some 4159) .nil)) none (.node (.node .nil (some 5) .nil) (some 19) (.node .nil (some 0) .nil)))) (some 1048307) (.node (.node (.node (.node .nil (some 43) .nil) (some 1567) (.node .nil (some 271) .nil)) none (.node (.node .nil (some 7951) .nil) (some 5) (.node .nil (some 0) .nil))) (some 125) (.node (.node (.node .nil (some 23) .nil) (some 12351) (.node .nil (some 0) .nil)) (some 253) (.node (.node .nil (some 36028797018996495) .nil) (some 25166847) .nil)))) none (.node (.node (.node (.node (.node .nil (some 5) .nil) (some 7) (.node .nil (some 5) .nil)) (some 253) (.node (.node .nil (some 36028797018996495) .nil) (some 493) (.node .nil (some 0) .nil))) (some 509) (.node (.node (.node .nil (some 7) .nil) (some 511) (.node .nil (some 3103) .nil)) (some 123) (.node (.node .nil (some 7951) .nil) (some 23) (.node .nil (some 0) .nil)))) (some 61) (.node (.node (.node (.node .nil (some 5) .nil) (some 23) (.node .nil (some 3103) .nil)) (some 28895) (.node (.node .nil (some 15391) .nil) (some 5) (.node .nil (some 0) .nil))) (some 65533) (.node (.node (.node .nil (some 2096159) .nil) (some 5) (.node .nil (some 0) .nil)) (some 23) (.node (.node .nil (some 7951) .nil) (some 79) .nil))))))
noncomputable abbrev CC (r : Mem) : Cfg := Cfg.ofRo Tryd.prog r
theorem CC_ok (r : Mem) : (CC r).Ok := Cfg.ofRo_ok evMixed evNames r
noncomputable def tSF : Tbl := tcons 47 eSF fun _ => none
theorem tSF_ok (r : Mem) : TOk (CC r) tSF := (show TOk (SC r) tSF from TOk.nil.cons (eSF_ok r))

end Go.Proofs

