/- What the claim is proved with, part 2: the evaluator and the contracts of the calls. -/
import Derived.Test.YtdalaifnhppidaaGreatDoorPack1
import Derived.Test.YtdalaifnhppidaaGreatDoorEvOwn
import Derived.Test.YtdalaifnhppidaaGreatDoorEvSetB
import Derived.Shelf.SlSortCmp.Whole1
import Derived.Test.YtdalaifnhppidaaGreatDoorSymBase
import Derived.Shelf.Lay
import Derived.Test.YtdalaifnhppidaaGreatDoorEvRd
import Derived.Test.YtdalaifnhppidaaGreatDoorEvGp
set_option linter.unusedVariables false
set_option linter.unusedSimpArgs false
set_option maxRecDepth 100000
namespace Go.Proofs
open Go Go.Ev
def rfAs : Code → Code | .rangeFunc _ _ a _ => a | c => c
def rfBd : Code → Code | .rangeFunc _ _ _ b => b | c => c
noncomputable def cKs : Code := bodyOf S0 82
noncomputable def cAq : Code := bodyOf S0 97
noncomputable def cCo : Code := bodyOf S0 80
abbrev seqV : Value := .func (.func 82) ⟨[]⟩ ⟨[.pointer (some ⟨0, 0, none⟩)]⟩
def AK0 (e z clock : Nat) (es : List MapEntry) : AW := ⟨2, .node (.node .nil (some (.map es clock)) .nil) (some (.cells [.map (some 1)] e 0 z)) .nil, .nil⟩
noncomputable def k_aqA : Code := rfAs (ic (rc (lc (rc cAq))))
noncomputable def k_aqB : Code := rfBd (ic (rc (lc (rc cAq))))
def TQ : Tr Value := .node (.node .nil (some seqV) .nil) (some (.slice none 0 0)) (.node (.node .nil (some (.slice none 0 0)) .nil) (some (.pointer (some ⟨2, 0, none⟩))) .nil)
noncomputable def AKg (e z clock : Nat) (es : List MapEntry) (n : Nat) (sv : Value) (s5 s6 : Tr AObj) : AW :=
 ⟨n, .node (.node (.node .nil (some .defd) .nil) (some (.map es clock)) s5) (some (.cells [.map (some 1)] e 0 z)) (.node (.node .nil (some (.loop .ready none 183 ⟨[(6, seqV)], TQ⟩ 13 ⟨[7]⟩ k_aqA k_aqB 3)) .nil) (some (.cells [sv] 62 2 0)) s6), .nil⟩
def miT (clock : Nat) (seen : List Nat) : Tr AObj := .node .nil (some (.miter 1 clock seen clock)) .nil
def rwT (i : Nat) (l : List Value) : Tr AObj := .node .nil (some (.cells l 56 i 1)) .nil
def yK : List Value := [.func (.yield 4) ⟨[]⟩ ⟨[]⟩, .pointer (some ⟨0, 0, none⟩)]
def TK : Tr Value := .node (.node .nil (some (.pointer (some ⟨0, 0, none⟩))) (.node .nil (some (.pointer (some ⟨5, 0, none⟩))) .nil)) (some (.func (.yield 4) ⟨[]⟩ ⟨[]⟩)) .nil
def TKz (z : Int) : Tr Value := .node (.node (.node .nil (some (.int .u16 z)) .nil) (some (.pointer (some ⟨0, 0, none⟩))) (.node .nil (some (.pointer (some ⟨5, 0, none⟩))) .nil)) (some (.func (.yield 4) ⟨[]⟩ ⟨[]⟩)) .nil
theorem kyB (r : Mem) (L : Nat) (fs : FnsC) (e z clock : Nat) (es : List MapEntry) (kn : KS) (kx : Nat → KS) (kr : KS) (ms : List Nat) : run (SC r) 43 14 L (lc cKs) fs none kn kx kr (sc0 43 yK) (tr0 43 yK) ms (AKg e z clock es 5 (.slice none 0 0) .nil .nil) =
    kn [(4, Value.map (some 1))] (.node (.node .nil (some (.pointer (some ⟨0, 0, none⟩))) (.node .nil (some (.pointer (some ⟨5, 0, none⟩))) .nil)) (some (.func (Fn.yield 4) ⟨[]⟩ ⟨[]⟩)) .nil) ms (AW.mk 6 (.node (.node (.node .nil (some .defd) .nil) (some (AObj.map es clock)) (.node .nil (some (AObj.miter 1 clock [] clock)) .nil)) (some (.cells [Value.map (some 1)] e 0 z)) (.node (.node .nil (some (AObj.loop LoopState.ready none 183 (En.mk [(6, .func (Fn.func 82) ⟨[]⟩ ⟨[.pointer (some ⟨0, 0, none⟩)]⟩)] (.node (.node .nil (some (.func (Fn.func 82) ⟨[]⟩ ⟨[.pointer (some ⟨0, 0, none⟩)]⟩)) .nil) (some (.slice none 0 0)) (.node (.node .nil (some (.slice none 0 0)) .nil) (some (.pointer (some ⟨2, 0, none⟩))) .nil))) 13 ⟨[7]⟩ k_aqA k_aqB 3)) .nil) (some (.cells [.slice none 0 0] 62 2 0)) .nil)) .nil) := by kernel_rfl
theorem kyC (r : Mem) (L : Nat) (fs : FnsC) (s : List (Nat × Value)) (b : Tr Value) (q : Bool) (kn : KS) (kx : Nat → KS) (kr : KS) (ms : List Nat) (A : AW) : run (SC r) 43 14 L (lc (rc (ic (ic (rc cKs))))) fs none kn kx kr ((7, .bool q) :: s) b ms A =
    bif q then kn ((7, .bool q) :: s) b ms A else kx 0 ((7, .bool q) :: s) b ms A := by kernel_rfl
theorem kyP (r : Mem) (fs : FnsC) (kn : KS) (ms : List Nat) (A : AW) : preK (SC r) 43 14 (lc (ic (ic (rc cKs)))) 0 fs kn [] TK ms A =
    kn [] (.node (.node .nil (some (.pointer (some ⟨0, 0, none⟩))) (.node .nil (some (.pointer (some ⟨5, 0, none⟩))) .nil)) (some (.func (Fn.yield 4) ⟨[]⟩ ⟨[]⟩)) .nil) ms A := by kernel_rfl
theorem kyN (r : Mem) (fs : FnsC) (x : Int) (vb : Bool) (kn : KS) (ms : List Nat) (A : AW) : tailK (SC r) 43 14 (lc (ic (ic (rc cKs)))) 0 fs kn (.tuple ⟨[.bool true, .int .u16 x, .bool vb]⟩) [] TK ms A =
    kn [(7, .bool true), (6, .tuple ⟨[.bool true, .int .u16 x, .bool vb]⟩)] (.node (.node .nil (some (.pointer (some ⟨0, 0, none⟩))) (.node .nil (some (.pointer (some ⟨5, 0, none⟩))) .nil)) (some (.func (Fn.yield 4) ⟨[]⟩ ⟨[]⟩)) .nil) ms A := by kernel_rfl
theorem kyM (r : Mem) (fs : FnsC) (kn : KS) (ms : List Nat) (A : AW) : tailK (SC r) 43 14 (lc (ic (ic (rc cKs)))) 0 fs kn (.tuple ⟨[.bool false]⟩) [] TK ms A =
    kn [(7, .bool false), (6, .tuple ⟨[.bool false]⟩)] (.node (.node .nil (some (.pointer (some ⟨0, 0, none⟩))) (.node .nil (some (.pointer (some ⟨5, 0, none⟩))) .nil)) (some (.func (Fn.yield 4) ⟨[]⟩ ⟨[]⟩)) .nil) ms A := by kernel_rfl
theorem kyQ (r : Mem) (fs : FnsC) (kn : KS) (ms : List Nat) (A : AW) : preK (SC r) 43 14 (lc (ic (rc (rc (ic (ic (rc cKs))))))) 0 fs kn [] TK ms A =
    kn [] (.node (.node .nil (some (.pointer (some ⟨0, 0, none⟩))) (.node .nil (some (.pointer (some ⟨5, 0, none⟩))) .nil)) (some (.func (Fn.yield 4) ⟨[]⟩ ⟨[]⟩)) .nil) ms A := by kernel_rfl
theorem kyE (r : Mem) (fs : FnsC) (x : Int) (vb : Bool) (kn : KS) (ms : List Nat) (A : AW) : tailK (SC r) 43 14 (lc (ic (rc (rc (ic (ic (rc cKs))))))) 0 fs kn (.tuple ⟨[.int .u16 x, .bool vb]⟩) [] TK ms A =
    kn [(9, .int .u16 x), (8, .tuple ⟨[.int .u16 x, .bool vb]⟩)] (.node (.node (.node .nil (some (.int .u16 x)) .nil) (some (.pointer (some ⟨0, 0, none⟩))) (.node .nil (some (.pointer (some ⟨5, 0, none⟩))) .nil)) (some (.func (Fn.yield 4) ⟨[]⟩ ⟨[]⟩)) .nil) ms A := by kernel_rfl
theorem kyY (r : Mem) (L : Nat) (tm : Tr Nat) (e z clock : Nat) (es : List MapEntry) (seen : List Nat) (x : Int) (s : List (Nat × Value)) (kn : KS) (kx : Nat → KS) (kr : KS) (ms : List Nat) : run (SC r) 43 14 L (rc (ic (rc (rc (ic (ic (rc cKs))))))) (lvlT (SC r) (fun _ => none) tm L 1) none kn kx kr s (TKz x) ms (AKg e z clock es 6 (.slice none 0 0) (miT clock seen) .nil) =
    kn [(13, .bool false), (12, .bool true), (11, .int .u16 x), (10, .func (Fn.yield 4) ⟨[]⟩ ⟨[]⟩)] (.node (.node (.node .nil (some (.int .u16 x)) .nil) (some (.pointer (some ⟨0, 0, none⟩))) (.node .nil (some (.pointer (some ⟨5, 0, none⟩))) .nil)) (some (.func (Fn.yield 4) ⟨[]⟩ ⟨[]⟩)) .nil) ms (AW.mk 8 (.node (.node (.node (.node .nil (some (.cells [.int .u16 x] 56 7 1)) .nil) (some .defd) .nil) (some (AObj.map es clock)) (.node .nil (some (AObj.miter 1 clock seen clock)) .nil)) (some (.cells [Value.map (some 1)] e 0 z)) (.node (.node .nil (some (AObj.loop LoopState.ready none 183 (En.mk [(6, .func (Fn.func 82) ⟨[]⟩ ⟨[.pointer (some ⟨0, 0, none⟩)]⟩)] (.node (.node .nil (some (.func (Fn.func 82) ⟨[]⟩ ⟨[.pointer (some ⟨0, 0, none⟩)]⟩)) .nil) (some (.slice none 0 0)) (.node (.node .nil (some (.slice none 0 0)) .nil) (some (.pointer (some ⟨2, 0, none⟩))) .nil))) 13 ⟨[7]⟩ k_aqA k_aqB 3)) .nil) (some (.cells [.slice (some ⟨7, 0, none⟩) 1 unk] 62 2 0)) (.node .nil (some (.cells [.int .u16 x] 56 6 1)) .nil))) .nil) := by kernel_rfl
theorem kyZ (r : Mem) (L : Nat) (tm : Tr Nat) (e z clock : Nat) (es : List MapEntry) (seen : List Nat) (x : Int) (l : List Value) (n : Nat) (s : List (Nat × Value)) (kn : KS) (kx : Nat → KS) (kr : KS) (ms : List Nat) : run (SC r) 43 14 L (rc (ic (rc (rc (ic (ic (rc cKs))))))) (lvlT (SC r) (fun _ => none) tm L 1) none kn kx kr s (TKz x) ms (AKg e z clock es 7 (.slice (some ⟨6, 0, none⟩) n unk) (miT clock seen) (rwT 6 l)) =
    bif Nat.ble (Nat.add n 1) 1000000 then Option.casesOn (takeAt l 0 (Nat.mul n 1)) (.fail 439) fun val => kn [(13, .bool false), (12, .bool true), (11, .int .u16 x), (10, .func (Fn.yield 4) ⟨[]⟩ ⟨[]⟩)] (.node (.node (.node .nil (some (.int .u16 x)) .nil) (some (.pointer (some ⟨0, 0, none⟩))) (.node .nil (some (.pointer (some ⟨5, 0, none⟩))) .nil)) (some (.func (Fn.yield 4) ⟨[]⟩ ⟨[]⟩)) .nil) ms (AW.mk 9 (.node (.node (.node (.node .nil (some (.cells [.int .u16 x] 56 7 1)) .nil) (some .defd) .nil) (some (AObj.map es clock)) (.node .nil (some (AObj.miter 1 clock seen clock)) .nil)) (some (.cells [Value.map (some 1)] e 0 z)) (.node (.node (.node .nil (some (.cells (val ++ [.int .u16 x]) 56 6 1)) .nil) (some (AObj.loop LoopState.ready none 183 (En.mk [(6, .func (Fn.func 82) ⟨[]⟩ ⟨[.pointer (some ⟨0, 0, none⟩)]⟩)] (.node (.node .nil (some (.func (Fn.func 82) ⟨[]⟩ ⟨[.pointer (some ⟨0, 0, none⟩)]⟩)) .nil) (some (.slice none 0 0)) (.node (.node .nil (some (.slice none 0 0)) .nil) (some (.pointer (some ⟨2, 0, none⟩))) .nil))) 13 ⟨[7]⟩ k_aqA k_aqB 3)) .nil) (some (.cells [.slice (some ⟨8, 0, none⟩) (Nat.add n 1) unk] 62 2 0)) (.node .nil none .nil))) (.node .nil none (.node .nil none (.node .nil (some [8]) .nil)))) else F4 := by kernel_rfl
end Go.Proofs
namespace Go.Proofs
open Go Go.Ev
abbrev K16 : Type := {x : Int // 0 ≤ x ∧ x < 65536}
abbrev KT : Type := K16 × Bool × Nat
def mkE (t : KT) : MapEntry := ⟨.int .u16 t.1.1, .bool t.2.1, t.2.2⟩
def rowK (l : List KT) : List Value := l.map fun t => .int .u16 t.1.1
def bornK (l : List KT) : List Nat := l.map fun t => t.2.2
theorem rowK_len (l : List KT) : (rowK l).length = l.length := by simp [rowK]
theorem rowK_gnd (l : List KT) : ∀ v ∈ rowK l, gnd v = true := fun v hv => by
 obtain ⟨t, _, rfl⟩ := List.mem_map.1 hv
 rfl
theorem takeAt_fullK (l : List Value) (n : Nat) (h : l.length = n) : takeAt l 0 n = some l := takeAt_all l n 0 l h fun j _ => by rw [Nat.zero_add]
theorem natFK {i j : Nat} (h : i ≠ j) : Nat.beq i j = false := by
 cases e : Nat.beq i j with
 | false => rfl
 | true => exact absurd (Nat.eq_of_beq_eq_true e) h
structure KOk (q : List KT) (clock : Nat) : Prop where
 born : ∀ t ∈ q, t.2.2 < clock
 nodup : (bornK q).Nodup
 few : q.length < 1000000
theorem left_mem {q : List KT} {seen : List Nat} {e : MapEntry} (h : e ∈ nextLeft (q.map mkE) seen) : ∃ t ∈ q, e = mkE t ∧ t.2.2 ∉ seen := by
 unfold nextLeft at h
 obtain ⟨h1, h2⟩ := List.mem_filter.1 h
 obtain ⟨t, ht, rfl⟩ := List.mem_map.1 h1
 refine ⟨t, ht, rfl, fun hm => ?_⟩
 simp [mkE, hm] at h2
theorem left_nil {q : List KT} {seen : List Nat} (h : nextLeft (q.map mkE) seen = []) : ∀ t ∈ q, t.2.2 ∈ seen := fun t ht => by
 unfold nextLeft at h
 have := List.filter_eq_nil_iff.1 h (mkE t) (List.mem_map_of_mem ht)
 simpa [mkE] using this
theorem left_done {q vis rest : List KT} {clock : Nat} (hq : KOk q clock) (hp : (vis ++ rest).Perm q) (h : nextLeft (q.map mkE) (bornK vis) = []) : rest = [] := by
 cases rest with
 | nil => rfl
 | cons t l =>
  exfalso
  have h1 := left_nil h t (hp.mem_iff.1 (by simp))
  have h2 : (bornK (vis ++ t :: l)).Nodup := (hp.map _).nodup_iff.2 hq.nodup
  unfold bornK at h1 h2
  rw [List.map_append, List.nodup_append] at h2
  exact h2.2.2 _ h1 t.2.2 (by simp) rfl
theorem left_more {q vis rest : List KT} {clock : Nat} (hq : KOk q clock) (hp : (vis ++ rest).Perm q) {e : MapEntry} (h : e ∈ nextLeft (q.map mkE) (bornK vis)) : ∃ t rest', e = mkE t ∧ rest'.length < rest.length ∧ ((vis ++ [t]) ++ rest').Perm q := by
 obtain ⟨t, ht, rfl, hn⟩ := left_mem h
 have hm : t ∈ rest := by
  rcases List.mem_append.1 (hp.mem_iff.2 ht) with h1 | h1
  ·exact absurd (List.mem_map_of_mem (f := fun t : KT => t.2.2) h1) hn
  ·exact h1
 obtain ⟨a, b, rfl⟩ := List.append_of_mem hm
 refine ⟨t, a ++ b, rfl, by simp, List.Perm.trans ?_ hp⟩
 rw [List.append_assoc]
 refine List.Perm.append_left vis ?_
 simpa using List.perm_middle.symm
theorem same_ok {q : List KT} {clock : Nat} (hq : KOk q clock) (seen : List Nat) : nextSame (q.map mkE) clock seen clock = true := by
 unfold nextSame
 simp only [Bool.and_eq_true, Bool.not_eq_true', List.all_eq_true, decide_eq_true_eq]
 refine ⟨?_, fun e he => ?_⟩
 ·cases q with
  | nil => simp
  | cons t l =>
   have := hq.born t (by simp)
   have h2 : (List.map mkE (t :: l)).all (fun e => decide (clock ≤ e.born)) = false := by
    simp [mkE]
    intro h
    omega
   rw [h2]
   simp
 ·obtain ⟨t, ht, rfl, _⟩ := left_mem he
  exact hq.born t ht
theorem find_ok {q : List KT} {clock : Nat} (hq : KOk q clock) {t : KT} (ht : t ∈ q) : (q.map mkE).find? (fun e => Nat.beq e.born t.2.2) = some (mkE t) := by
 have key : ∀ (l : List KT), (bornK l).Nodup → t ∈ l → (l.map mkE).find? (fun e => Nat.beq e.born t.2.2) = some (mkE t) := by
  intro l
  induction l with
  | nil => intro _ h; cases h
  | cons x l ih =>
   intro hn hm
   rw [List.map_cons, List.find?_cons]
   unfold bornK at hn
   rw [List.map_cons, List.nodup_cons] at hn
   rcases List.mem_cons.1 hm with rfl | hm
   ·rw [show Nat.beq (mkE t).born t.2.2 = true from Nat.beq_refl _]
   ·have hne : x.2.2 ≠ t.2.2 := fun h => hn.1 (by rw [h]; exact List.mem_map_of_mem (f := fun t : KT => t.2.2) hm)
    rw [show Nat.beq (mkE x).born t.2.2 = false from natFK hne]
    exact ih hn.2 hm
 exact key q hq.nodup ht
section
variable {r : Mem} {γ0 : Gam} {W0 : World} {e z clock : Nat} {q : List KT}
noncomputable def AKv (e z clock : Nat) (q : List KT) : List KT → AW
 | [] => AKg e z clock (q.map mkE) 6 (.slice none 0 0) (miT clock []) .nil
 | t :: l => AKg e z clock (q.map mkE) 7 (.slice (some ⟨6, 0, none⟩) (t :: l).length unk) (miT clock (bornK (t :: l))) (rwT 6 (rowK (t :: l)))
noncomputable def AKf (e z clock : Nat) (q : List KT) : List KT → AW
 | [] => AKg e z clock (q.map mkE) 5 (.slice none 0 0) .nil .nil
 | t :: l => AKg e z clock (q.map mkE) 6 (.slice (some ⟨5, 0, none⟩) (t :: l).length unk) (rwT 5 (rowK (t :: l))) .nil
noncomputable def AKn (e z clock : Nat) (q : List KT) (seen : List Nat) : List KT → AW
 | [] => AKg e z clock (q.map mkE) 6 (.slice none 0 0) (miT clock seen) .nil
 | t :: l => AKg e z clock (q.map mkE) 7 (.slice (some ⟨6, 0, none⟩) (t :: l).length unk) (miT clock seen) (rwT 6 (rowK (t :: l)))
theorem ksG (q : List KT) : ∀ x ∈ q.map mkE, gnd x.key = true ∧ gnd x.val = true := fun x hx => by
 obtain ⟨t, _, rfl⟩ := List.mem_map.1 hx
 exact ⟨rfl, rfl⟩
theorem ren_start (h0 : ∀ i, 5 ≤ i → γ0 i = none) (s : List (Nat × Value)) : Ren (SC r) 43 14 γ0 W0 ⟨⟨s, TK⟩, [], AKv e z clock q []⟩ ⟨⟨[], TK⟩, [], AKv e z clock q []⟩ := by
 refine Ren.of (fun i => i) 5 rfl h0 (Nat.le_of_ble_eq_true rfl) (fun i hi => rfl) ?_ rfl ?_ trivial
 ·simp only [Tr.All, TK]
  repeat' (first | exact trivial | apply And.intro)
  all_goals exact ⟨_, rfl, rfl⟩
 ·simp only [Tr.All, AKv, AKg, miT]
  repeat' (first | exact trivial | apply And.intro)
  all_goals first | rfl | exact .head _ | exact ⟨_, rfl, .defd⟩ | exact ⟨_, rfl, .map (ksG q)⟩ | exact ⟨_, rfl, .miter rfl rfl⟩ | exact ⟨_, rfl, .cells rfl⟩ | exact ⟨_, rfl, .plain (by skip)⟩ | skip
  refine ⟨_, rfl, .same ?_ ?_ rfl rfl⟩
  ·simp only [Tr.All, TQ]
   repeat' (first | exact trivial | apply And.intro)
   all_goals rfl
  ·simp only [scrFix]
   repeat' (first | exact trivial | apply And.intro)
   all_goals rfl
def KeySt (e z clock : Nat) (q : List KT) (j : Nat) (st : St) : Prop := ∃ vis rest, rest.length = j ∧ (vis ++ rest).Perm q ∧ st = ⟨⟨[], TK⟩, [], AKv e z clock q vis⟩
def KeyQ (r : Mem) (γ0 : Gam) (W0 : World) (e z clock : Nat) (q : List KT) : Exit → St → Prop
 | .exit id, st => id = 0 ∧ ∃ vis, vis.Perm q ∧ ∃ st1, Ren (SC r) 43 14 γ0 W0 st st1 ∧ st1 = ⟨⟨[], .nil⟩, [], AKf e z clock q vis⟩
 | _, _ => False
theorem ren_out (h0 : ∀ i, 5 ≤ i → γ0 i = none) (s : List (Nat × Value)) (vis : List KT) : Ren (SC r) 43 14 γ0 W0 ⟨⟨s, TK⟩, [], AKv e z clock q vis⟩ ⟨⟨[], .nil⟩, [], AKf e z clock q vis⟩ := by
 cases vis with
 | nil =>
  refine Ren.of (fun i => i) 5 rfl h0 (Nat.le_of_ble_eq_true rfl) (fun i hi => rfl) ?_ rfl ?_ trivial
  ·simp only [Tr.All, TK]
   repeat' (first | exact trivial | apply And.intro)
   all_goals exact ⟨_, rfl, rfl⟩
  ·simp only [Tr.All, AKv, AKf, AKg, miT]
   repeat' (first | exact trivial | apply And.intro)
   all_goals first | rfl | exact .head _ | exact ⟨_, rfl, .defd⟩ | exact ⟨_, rfl, .map (ksG q)⟩ | exact ⟨_, rfl, .miter rfl rfl⟩ | exact ⟨_, rfl, .cells rfl⟩ | exact ⟨_, rfl, .plain (by skip)⟩ | skip
   refine ⟨_, rfl, .same ?_ ?_ rfl rfl⟩
   ·simp only [Tr.All, TQ]
    repeat' (first | exact trivial | apply And.intro)
    all_goals rfl
   ·simp only [scrFix]
    repeat' (first | exact trivial | apply And.intro)
    all_goals rfl
 | cons t l =>
  refine Ren.of (fun i => bif Nat.beq i 5 then 6 else i) 5 rfl h0 (Nat.le_of_ble_eq_true rfl) (fun i hi => by have : Nat.beq i 5 = false := natFK (by omega); rw [this]; rfl) ?_ rfl ?_ trivial
  ·simp only [Tr.All, TK]
   repeat' (first | exact trivial | apply And.intro)
   all_goals exact ⟨_, rfl, rfl⟩
  ·simp only [Tr.All, AKv, AKf, AKg, miT, rwT]
   repeat' (first | exact trivial | apply And.intro)
   all_goals first | rfl | exact .head _ | exact ⟨_, rfl, .defd⟩ | exact ⟨_, rfl, .map (ksG q)⟩ | exact ⟨_, rfl, .miter rfl rfl⟩ | exact ⟨_, rfl, .cells rfl⟩ | exact ⟨_, rfl, .plain (by exact rowK_gnd (t :: l))⟩ | skip
   refine ⟨_, rfl, .same ?_ ?_ rfl rfl⟩
   ·simp only [Tr.All, TQ]
    repeat' (first | exact trivial | apply And.intro)
    all_goals rfl
   ·simp only [scrFix]
    repeat' (first | exact trivial | apply And.intro)
    all_goals rfl
theorem put_seen {vis : List KT} {seen : List Nat} : ({ AKv e z clock q vis with heap := (AKv e z clock q vis).heap.put 5 (some (.miter 1 clock seen clock)) } : AW) = AKn e z clock q seen vis := by
 cases vis <;> rfl
theorem key_body (hq : KOk q clock) (h0 : ∀ i, 5 ≤ i → γ0 i = none) {F : Fence} {k : Nat} (hF : Wide F) (hro : F.round = none) {j : Nat} {st : St} (hs : KeySt e z clock q j st) :
  Go.Ev.Reach (SC r) 43 14 F k γ0 W0 (ic (ic (rc cKs))) st fun ex st' => match ex with
   | .normal => ∃ j', j' < j ∧ ∃ st1, Ren (SC r) 43 14 γ0 W0 st' st1 ∧ KeySt e z clock q j' st1
   | ex => KeyQ r γ0 W0 e z clock q ex st' := by
 obtain ⟨vis, rest, rfl, hp, rfl⟩ := hs
 rw [show ic (ic (rc cKs)) = Code.seq (lc (ic (ic (rc cKs)))) (.seq (lc (rc (ic (ic (rc cKs))))) (.block 1 (ic (rc (rc (ic (ic (rc cKs)))))))) from by kernel_rfl]
 have hi : (AKv e z clock q vis).heap.get 5 = some (.miter 1 clock (bornK vis) clock) := by cases vis <;> rfl
 have hm : (AKv e z clock q vis).heap.get 1 = some (.map (q.map mkE) clock) := by cases vis <;> rfl
 refine Go.Ev.Reach.seq (Go.Ev.Reach.nextP (SC_ok r) hF TOk.nil (tm := .nil) (L := 0) (d := 0) 0 (s1 := []) (b1 := TK) (ms1 := []) (A1 := AKv e z clock q vis) ?_ (by kernel_rfl) hi hm (same_ok hq _) fun v A' hv => ?_)
 ·rw [kyP]
  exact qn_ok rfl
 rcases hv with ⟨hnil, rfl, rfl⟩ | ⟨x, hx, rfl, rfl⟩
 ·rw [kyM]
  refine qn_ok (Go.Ev.Reach.seq (Go.Ev.Reach.seg (SC_ok r) TOk.nil (tm := .nil) (L := 1) (L' := 1) (d := 1) hF hro ?_))
  rw [kyC]
  simp only [cond_false]
  have := left_done hq hp hnil
  subst this
  rw [List.append_nil] at hp
  exact qn_ok ⟨rfl, vis, hp, _, ren_out h0 _ vis, rfl⟩
 ·obtain ⟨t, rest', rfl, hlt, hp'⟩ := left_more hq hp hx
  rw [show (mkE t).key = .int .u16 t.1.1 from rfl, show (mkE t).val = .bool t.2.1 from rfl, show (mkE t).born = t.2.2 from rfl, kyN, put_seen]
  refine qn_ok (Go.Ev.Reach.seq (Go.Ev.Reach.seg (SC_ok r) TOk.nil (tm := .nil) (L := 1) (L' := 1) (d := 1) hF hro ?_))
  rw [kyC]
  simp only [cond_true]
  have ht : t ∈ q := hp'.mem_iff.1 (by simp)
  have hi : (AKn e z clock q (bornK vis ++ [t.2.2]) vis).heap.get 5 = some (.miter 1 clock (bornK vis ++ [t.2.2]) clock) := by cases vis <;> rfl
  have hm : (AKn e z clock q (bornK vis ++ [t.2.2]) vis).heap.get 1 = some (.map (q.map mkE) clock) := by cases vis <;> rfl
  refine qn_ok (Go.Ev.Reach.block ?_)
  rw [show ic (rc (rc (ic (ic (rc cKs))))) = Code.seq (lc (ic (rc (rc (ic (ic (rc cKs))))))) (rc (ic (rc (rc (ic (ic (rc cKs))))))) from by kernel_rfl]
  refine Go.Ev.Reach.seq (Go.Ev.Reach.entryP (SC_ok r) hF TOk.nil (tm := .nil) (L := 0) (d := 0) 0 (s1 := []) (b1 := TK) (ms1 := []) (A1 := AKn e z clock q (bornK vis ++ [t.2.2]) vis) (i := 5) ?_ (by kernel_rfl) hi hm (by simp) (find_ok hq ht) ?_)
  ·exact (kyQ ..).trans (qn_ok rfl)
  rw [show (mkE t).key = .int .u16 t.1.1 from rfl, show (mkE t).val = .bool t.2.1 from rfl, kyE]
  refine qn_ok (Go.Ev.Reach.seg (SC_ok r) TOk.nil (tm := .nil) (L := 1) (L' := 1) (d := 1) hF hro ?_)
  cases vis with
  | nil =>
   refine (kyY ..).trans (qn_ok ⟨rest'.length, hlt, _, ?_, [t], rest', rfl, hp', rfl⟩)
   show Ren _ _ _ _ _ _ ⟨⟨[], TK⟩, [], AKg e z clock (q.map mkE) 7 (.slice (some ⟨6, 0, none⟩) 1 unk) (miT clock [t.2.2]) (rwT 6 [.int .u16 t.1.1])⟩
   refine Ren.of (fun i => bif Nat.beq i 6 then 7 else i) 5 rfl h0 (Nat.le_of_ble_eq_true rfl) (fun i hi => by have : Nat.beq i 6 = false := natFK (by omega); rw [this]; rfl) ?_ rfl ?_ trivial
   ·simp only [Tr.All, TK]
    repeat' (first | exact trivial | apply And.intro)
    all_goals exact ⟨_, rfl, rfl⟩
   ·simp only [Tr.All, AKg, miT, rwT]
    repeat' (first | exact trivial | apply And.intro)
    all_goals first | rfl | exact .head _ | exact ⟨_, rfl, .defd⟩ | exact ⟨_, rfl, .map (ksG q)⟩ | exact ⟨_, rfl, .miter rfl rfl⟩ | exact ⟨_, rfl, .cells rfl⟩ | exact ⟨_, rfl, .plain (by intro v hv; rw [List.mem_singleton.1 hv]; rfl)⟩ | skip
    refine ⟨_, rfl, .same ?_ ?_ rfl rfl⟩
    ·simp only [Tr.All, TQ]
     repeat' (first | exact trivial | apply And.intro)
     all_goals rfl
    ·simp only [scrFix]
     repeat' (first | exact trivial | apply And.intro)
     all_goals rfl
  | cons t0 l =>
   have hlen : (t0 :: l).length + 1 ≤ q.length := by
    have := hp'.length_eq
    simp only [List.length_append, List.length_cons, List.length_nil] at this ⊢
    omega
   have hfew := hq.few
   have g1 : Nat.ble (Nat.add (t0 :: l).length 1) 1000000 = true := Nat.ble_eq_true_of_le (by simp only [Nat.add_eq]; omega)
   have g2 : takeAt (rowK (t0 :: l)) 0 (Nat.mul (t0 :: l).length 1) = some (rowK (t0 :: l)) := takeAt_fullK _ _ (by rw [rowK_len]; simp)
   refine (kyZ ..).trans ?_
   rw [g1, g2]
   simp only [cond_true]
   refine qn_ok ⟨rest'.length, hlt, _, ?_, (t0 :: l) ++ [t], rest', rfl, hp', rfl⟩
   show Ren _ _ _ _ _ _ ⟨⟨[], TK⟩, [], AKg e z clock (q.map mkE) 7 (.slice (some ⟨6, 0, none⟩) ((t0 :: l) ++ [t]).length unk) (miT clock (bornK ((t0 :: l) ++ [t]))) (rwT 6 (rowK ((t0 :: l) ++ [t])))⟩
   have e1 : ((t0 :: l) ++ [t]).length = Nat.add (t0 :: l).length 1 := by simp
   have e2 : bornK ((t0 :: l) ++ [t]) = bornK (t0 :: l) ++ [t.2.2] := by simp [bornK]
   have e3 : rowK ((t0 :: l) ++ [t]) = rowK (t0 :: l) ++ [.int .u16 t.1.1] := by simp [rowK]
   rw [e1, e2, e3]
   refine Ren.of (fun i => bif Nat.beq i 6 then 8 else i) 5 rfl h0 (Nat.le_of_ble_eq_true rfl) (fun i hi => by have : Nat.beq i 6 = false := natFK (by omega); rw [this]; rfl) ?_ rfl ?_ trivial
   ·simp only [Tr.All, TK]
    repeat' (first | exact trivial | apply And.intro)
    all_goals exact ⟨_, rfl, rfl⟩
   ·simp only [Tr.All, AKg, miT, rwT]
    repeat' (first | exact trivial | apply And.intro)
    all_goals first | rfl | exact .head _ | exact ⟨_, rfl, .defd⟩ | exact ⟨_, rfl, .map (ksG q)⟩ | exact ⟨_, rfl, .miter rfl rfl⟩ | exact ⟨_, rfl, .cells rfl⟩ | exact ⟨_, rfl, .plain (by exact e3 ▸ rowK_gnd ((t0 :: l) ++ [t]))⟩ | skip
    refine ⟨_, rfl, .same ?_ ?_ rfl rfl⟩
    ·simp only [Tr.All, TQ]
     repeat' (first | exact trivial | apply And.intro)
     all_goals rfl
    ·simp only [scrFix]
     repeat' (first | exact trivial | apply And.intro)
     all_goals rfl
theorem keys_S (hq : KOk q clock) : SOk (SC r) 82 yK (AKg e z clock (q.map mkE) 5 (.slice none 0 0) .nil .nil) fun v A' => v = .tuple ⟨[]⟩ ∧ ∃ vis, vis.Perm q ∧ A' = AKf e z clock q vis := by
 obtain ⟨fn, h1, h2, h3, h4⟩ := fn_of (C := SC r) (f := 82) (by kernel_rfl)
 have hn : fn.ntmps = 14 := h3.trans (by kernel_rfl)
 have hr : fn.results.toList = [] := h4.trans (by kernel_rfl)
 rw [bodySC] at h2
 refine call_reachS (SC_ok r) h1 h2 43 (by rw [hn]; rfl) fun γ W F k hw hF hro => ?_
 rw [hn, hr]
 have h0 : ∀ i, 5 ≤ i → γ i = none := hw.fresh
 show Go.Ev.Reach (SC r) 43 14 F k γ W cKs _ _
 rw [show cKs = Code.seq (lc cKs) (.block 0 (.loop (ic (ic (rc cKs))))) from by kernel_rfl]
 refine Go.Ev.Reach.seq (Go.Ev.Reach.seg (SC_ok r) TOk.nil (tm := .nil) (L := 1) (L' := 1) (d := 1) hF hro ((kyB ..).trans (qn_ok ?_)))
 refine Go.Ev.Reach.pre (ren_start h0 _) ?_
 refine Go.Ev.Reach.block ?_
 refine Go.Ev.Reach.loop (I := fun j st => ∃ st1, Ren (SC r) 43 14 γ W st st1 ∧ KeySt e z clock q j st1) (fun j st ⟨st1, hr, hs⟩ => Go.Ev.Reach.pre hr (Go.Ev.Reach.mono (key_body hq h0 hF hro hs) fun ex st' h => ?_)) ⟨_, Ren.refl _, [], q, rfl, by simp, rfl⟩
 cases ex with
 | normal => exact h
 | exit id =>
  obtain ⟨rfl, vis, hv, st2, hr2, rfl⟩ := h
  exact ⟨.inl rfl, _, _, _, hr2, rfl, rfl, vis, hv, rfl⟩
 | _ => exact h.elim
end
end Go.Proofs
namespace Go.Proofs
open Go Go.Ev
def AR (e z clock : Nat) (es : List MapEntry) (l : List Value) : AW := ⟨4, .node (.node (.node .nil none .nil) (some (.map es clock)) .nil) (some (.cells [.map (some 1)] e 0 z)) (.node .nil (some (.cells l 56 2 1)) .nil), .nil⟩
noncomputable def AR3 (e z clock : Nat) (es : List MapEntry) (l : List Value) : AW := ⟨4, .node (.node (.node .nil (some .defd) .nil) (some (.map es clock)) .nil) (some (.cells [.map (some 1)] e 0 z)) (.node .nil (some (.cells l 56 2 1)) .nil), .nil⟩
noncomputable def AKh (e z clock : Nat) (es : List MapEntry) (n : Nat) (sv : Value) (s5 : Tr AObj) : AW :=
 ⟨n, .node (.node (.node .nil (some .defd) .nil) (some (.map es clock)) s5) (some (.cells [.map (some 1)] e 0 z)) (.node (.node .nil (some (.loop .exhausted none 183 ⟨[(6, seqV)], TQ⟩ 13 ⟨[7]⟩ k_aqA k_aqB 3)) .nil) (some (.cells [sv] 62 2 0)) .nil), .nil⟩
def TQ4 (sv : Value) : Tr Value := .node .nil none (.node (.node .nil (some sv) .nil) none .nil)
def TC0 (v : Value) : Tr Value := .node .nil (some seqV) (.node .nil (some v) .nil)
theorem kcA (r : Mem) (L : Nat) (fs : FnsC) (e z clock : Nat) (es : List MapEntry) (kn : KS) (kx : Nat → KS) (kr : KS) (ms : List Nat) : run (SC r) 183 13 L (lc cAq) fs none kn kx kr (sc0 183 [.slice none 0 0, seqV]) (tr0 183 [.slice none 0 0, seqV]) ms (AK0 e z clock es) =
    kn [] (.node (.node .nil (some (.func (Fn.func 82) ⟨[]⟩ ⟨[.pointer (some ⟨0, 0, none⟩)]⟩)) .nil) (some (.slice none 0 0)) (.node (.node .nil (some (.slice none 0 0)) .nil) (some (.pointer (some ⟨2, 0, none⟩))) .nil)) ms (AW.mk 3 (.node (.node .nil (some (AObj.map es clock)) .nil) (some (.cells [Value.map (some 1)] e 0 z)) (.node .nil (some (.cells [.slice none 0 0] 62 2 0)) .nil)) .nil) := by kernel_rfl
theorem kcB (r : Mem) (L : Nat) (fs : FnsC) (s : List (Nat × Value)) (kn : KS) (kx : Nat → KS) (kr : KS) (ms : List Nat) (A : AW) : run (SC r) 183 13 L (lc (lc (rc cAq))) fs none kn kx kr s TQ ms A =
    kn [(6, .func (Fn.func 82) ⟨[]⟩ ⟨[.pointer (some ⟨0, 0, none⟩)]⟩)] (.node (.node .nil (some (.func (Fn.func 82) ⟨[]⟩ ⟨[.pointer (some ⟨0, 0, none⟩)]⟩)) .nil) (some (.slice none 0 0)) (.node (.node .nil (some (.slice none 0 0)) .nil) (some (.pointer (some ⟨2, 0, none⟩))) .nil)) ms A := by kernel_rfl
theorem kcC (r : Mem) (L : Nat) (fs : FnsC) (e z clock : Nat) (es : List MapEntry) (n : Nat) (l : List Value) (kn : KS) (kx : Nat → KS) (kr : KS) : run (SC r) 183 13 L (rc (rc cAq)) fs none kn kx kr [(6, seqV)] TQ [3] (AKh e z clock es 6 (.slice (some ⟨5, 0, none⟩) n unk) (rwT 5 l)) =
    kr [(12, .slice (some ⟨5, 0, none⟩) n unk)] (.node (.node .nil (some (.func (Fn.func 82) ⟨[]⟩ ⟨[.pointer (some ⟨0, 0, none⟩)]⟩)) .nil) (some (.slice none 0 0)) (.node (.node .nil (some (.slice (some ⟨5, 0, none⟩) n unk)) .nil) (some (.pointer (some ⟨2, 0, none⟩))) .nil)) [3] (AW.mk 6 (.node (.node (.node .nil (some .defd) .nil) (some (AObj.map es clock)) (.node .nil (some (.cells l 56 5 1)) .nil)) (some (.cells [Value.map (some 1)] e 0 z)) (.node (.node .nil (some (AObj.loop LoopState.exhausted none 183 (En.mk [(6, .func (Fn.func 82) ⟨[]⟩ ⟨[.pointer (some ⟨0, 0, none⟩)]⟩)] (.node (.node .nil (some (.func (Fn.func 82) ⟨[]⟩ ⟨[.pointer (some ⟨0, 0, none⟩)]⟩)) .nil) (some (.slice none 0 0)) (.node (.node .nil (some (.slice none 0 0)) .nil) (some (.pointer (some ⟨2, 0, none⟩))) .nil))) 13 ⟨[7]⟩ k_aqA k_aqB 3)) .nil) (some (.cells [.slice (some ⟨5, 0, none⟩) n unk] 62 2 0)) .nil)) .nil) := by kernel_rfl
theorem kcF (r : Mem) (e z clock : Nat) (es : List MapEntry) (n : Nat) (l : List Value) (k : KV) : finK (SC r) 183 (resOf (SC r) 97) k [] (TQ4 (.slice (some ⟨2, 0, none⟩) n unk)) [3] (AR3 e z clock es l) =
    k (.slice (some ⟨2, 0, none⟩) n unk) (AW.mk 4 (.node (.node (.node .nil none .nil) (some (AObj.map es clock)) .nil) (some (.cells [Value.map (some 1)] e 0 z)) (.node .nil (some (.cells l 56 2 1)) .nil)) .nil) := by kernel_rfl
theorem kcG (r : Mem) (L : Nat) (fs : FnsC) (kn : KS) (kx : Nat → KS) (kr : KS) (ms : List Nat) (A : AW) : run (SC r) 5 5 L (lc cCo) fs none kn kx kr (sc0 5 [seqV]) (tr0 5 [seqV]) ms A =
    kn [] (.node .nil (some (.func (Fn.func 82) ⟨[]⟩ ⟨[.pointer (some ⟨0, 0, none⟩)]⟩)) (.node .nil (some (.slice none 0 0)) .nil)) ms A := by kernel_rfl
theorem kcH (r : Mem) (fs : FnsC) (kn : KS) (ms : List Nat) (A : AW) : preK (SC r) 5 5 (lc (rc cCo)) 1 fs kn [] (TC0 (.slice none 0 0)) ms A =
    kn [(3, .func (Fn.func 82) ⟨[]⟩ ⟨[.pointer (some ⟨0, 0, none⟩)]⟩)] (.node .nil (some (.func (Fn.func 82) ⟨[]⟩ ⟨[.pointer (some ⟨0, 0, none⟩)]⟩)) (.node .nil (some (.slice none 0 0)) .nil)) ms A := by kernel_rfl
theorem kcI (r : Mem) (fs : FnsC) (n : Nat) (kn : KS) (ms : List Nat) (A : AW) : tailK (SC r) 5 5 (lc (rc cCo)) 1 fs kn (.slice (some ⟨2, 0, none⟩) n unk) [(3, seqV)] (TC0 (.slice none 0 0)) ms A =
    kn [(4, .slice (some ⟨2, 0, none⟩) n unk), (3, .func (Fn.func 82) ⟨[]⟩ ⟨[.pointer (some ⟨0, 0, none⟩)]⟩)] (.node .nil (some (.func (Fn.func 82) ⟨[]⟩ ⟨[.pointer (some ⟨0, 0, none⟩)]⟩)) (.node .nil (some (.slice (some ⟨2, 0, none⟩) n unk)) .nil)) ms A := by kernel_rfl
theorem kcK (r : Mem) (L : Nat) (fs : FnsC) (s : List (Nat × Value)) (n : Nat) (kn : KS) (kx : Nat → KS) (kr : KS) (ms : List Nat) (A : AW) : run (SC r) 5 5 L (rc (rc cCo)) fs none kn kx kr s (TC0 (.slice (some ⟨2, 0, none⟩) n unk)) ms A =
    kr s (.node .nil (some (.func (Fn.func 82) ⟨[]⟩ ⟨[.pointer (some ⟨0, 0, none⟩)]⟩)) (.node .nil (some (.slice (some ⟨2, 0, none⟩) n unk)) .nil)) ms A := by kernel_rfl
theorem kcL (r : Mem) (s : List (Nat × Value)) (n : Nat) (k : KV) (A : AW) : finK (SC r) 5 (resOf (SC r) 80) k s (TC0 (.slice (some ⟨2, 0, none⟩) n unk)) [] A =
    k (.slice (some ⟨2, 0, none⟩) n unk) A := by kernel_rfl
theorem kcJ (r : Mem) (A : AW) : callAt (SC r) 5 (lc (rc cCo)) 1 ⟨[(3, seqV)], TC0 (.slice none 0 0)⟩ A = some (97, [.slice none 0 0, seqV], A) := by kernel_rfl
section
variable {r : Mem} {γ0 : Gam} {W0 : World} {e z clock : Nat} {q : List KT}
theorem append_S (hq : KOk q clock) (hne : q ≠ []) : SOk (SC r) 97 [.slice none 0 0, seqV] (AK0 e z clock (q.map mkE)) fun v A' => ∃ vis, vis.Perm q ∧ v = .slice (some ⟨2, 0, none⟩) vis.length unk ∧ A' = AR e z clock (q.map mkE) (rowK vis) := by
 obtain ⟨fn, h1, h2, h3, h4⟩ := fn_of (C := SC r) (f := 97) (by kernel_rfl)
 have hn : fn.ntmps = 13 := h3.trans (by kernel_rfl)
 rw [bodySC] at h2
 refine call_reachS (SC_ok r) h1 h2 183 (by rw [hn]; rfl) fun γ W F k hw hF hro => ?_
 rw [hn, h4]
 have h0 : ∀ i, 2 ≤ i → γ i = none := hw.fresh
 show Go.Ev.Reach (SC r) 183 13 F k γ W cAq _ _
 obtain ⟨fo, ps, hrf⟩ : ∃ fo ps, cAq = Code.seq (lc cAq) (.seq (.seq (lc (lc (rc cAq))) (.block 0 (.rangeFunc fo ps k_aqA k_aqB))) (rc (rc cAq))) ∧ ps = ⟨[7]⟩ ∧ fo = .tmp 6 := ⟨.tmp 6, ⟨[7]⟩, by kernel_rfl, rfl, rfl⟩
 obtain ⟨hrf, rfl, rfl⟩ := hrf
 rw [hrf]
 refine Go.Ev.Reach.seq (Go.Ev.Reach.seg (SC_ok r) TOk.nil (tm := .nil) (L := 1) (L' := 1) (d := 1) hF hro ((kcA ..).trans (qn_ok ?_)))
 refine Go.Ev.Reach.seq (Go.Ev.Reach.seq (Go.Ev.Reach.seg (SC_ok r) TOk.nil (tm := .nil) (L := 1) (L' := 1) (d := 1) hF hro ((kcB r 1 _ [] _ _ _ [] _).trans (qn_ok ?_))))
 have eA : (((⟨3, .node (.node .nil (some (.map (q.map mkE) clock)) .nil) (some (.cells [.map (some 1)] e 0 z)) (.node .nil (some (.cells [.slice none 0 0] 62 2 0)) .nil), .nil⟩ : AW).new .defd).new (.loop .ready none 183 ⟨[(6, seqV)], TQ⟩ 13 ⟨[7]⟩ k_aqA k_aqB 3)) = AKg e z clock (q.map mkE) 5 (.slice none 0 0) .nil .nil := by kernel_rfl
 have hkey := keys_S (r := r) (e := e) (z := z) hq
 rw [← eA] at hkey
 refine Go.Ev.Reach.block (Go.Ev.Reach.rangeS (SC_ok r) hF hro (g := 82) (first := []) (captured := [.pointer (some ⟨0, 0, none⟩)]) rfl (by kernel_rfl) hkey fun v A' ⟨_, vis, hv, hA⟩ => ?_)
 subst hA
 cases vis with
 | nil => exact absurd hv.nil_eq.symm hne
 | cons t l =>
  refine ⟨⟨⟨[(6, seqV)], TQ⟩, [3], AKh e z clock (q.map mkE) 6 (.slice (some ⟨5, 0, none⟩) (t :: l).length unk) (rwT 5 (rowK (t :: l)))⟩, by kernel_rfl, ?_⟩
  refine Go.Ev.Reach.seg (SC_ok r) TOk.nil (tm := .nil) (L := 1) (L' := 1) (d := 1) hF hro ((kcC ..).trans (qn_ok ⟨.inr rfl, ⟨⟨[], TQ4 (.slice (some ⟨2, 0, none⟩) (t :: l).length unk)⟩, [3], AR3 e z clock (q.map mkE) (rowK (t :: l))⟩, _, _, ?_, ?_, t :: l, hv, rfl, rfl⟩))
  ·
   refine Ren.of (fun i => bif Nat.beq i 2 then 5 else i) 2 rfl h0 (Nat.le_of_ble_eq_true rfl) (fun i hi => by have : Nat.beq i 2 = false := natFK (by omega); rw [this]; rfl) ?_ rfl ?_ trivial
   ·simp only [Tr.All, TQ4]
    repeat' (first | exact trivial | apply And.intro)
    all_goals exact ⟨_, rfl, rfl⟩
   ·simp only [Tr.All, AR3]
    repeat' (first | exact trivial | apply And.intro)
    all_goals first | rfl | exact .head _ | exact ⟨_, rfl, .defd⟩ | exact ⟨_, rfl, .map (ksG q)⟩ | exact ⟨_, rfl, .cells rfl⟩ | exact ⟨_, rfl, .plain (by exact rowK_gnd (t :: l))⟩
  ·rw [← finK_finish]
   exact kcF ..
theorem collect_S (hq : KOk q clock) (hne : q ≠ []) : SOk (SC r) 80 [seqV] (AK0 e z clock (q.map mkE)) fun v A' => ∃ vis, vis.Perm q ∧ v = .slice (some ⟨2, 0, none⟩) vis.length unk ∧ A' = AR e z clock (q.map mkE) (rowK vis) := by
 obtain ⟨fn, h1, h2, h3, h4⟩ := fn_of (C := SC r) (f := 80) (by kernel_rfl)
 have hn : fn.ntmps = 5 := h3.trans (by kernel_rfl)
 rw [bodySC] at h2
 refine call_reachS (SC_ok r) h1 h2 5 (by rw [hn]; rfl) fun γ W F k hw hF hro => ?_
 rw [hn, h4]
 show Go.Ev.Reach (SC r) 5 5 F k γ W cCo _ _
 rw [show cCo = Code.seq (lc cCo) (.seq (lc (rc cCo)) (rc (rc cCo))) from by kernel_rfl]
 refine Go.Ev.Reach.seq (Go.Ev.Reach.seg (SC_ok r) TOk.nil (tm := .nil) (L := 1) (L' := 1) (d := 1) hF hro ((kcG ..).trans (qn_ok ?_)))
 refine Go.Ev.Reach.seq (Go.Ev.Reach.callP (SC_ok r) hF TOk.nil (tm := .nil) (L := 0) (d := 0) 1 ((kcH ..).trans (qn_ok rfl)) (kcJ ..) (append_S (e := e) (z := z) hq hne) fun v A' ⟨vis, hv, h1, h2⟩ => ?_)
 subst h1 h2
 refine (kcI ..).trans (qn_ok (Go.Ev.Reach.seg (SC_ok r) TOk.nil (tm := .nil) (L := 1) (L' := 1) (d := 1) hF hro ((kcK ..).trans (qn_ok ⟨.inr rfl, _, _, _, Ren.refl _, ?_, vis, hv, rfl, rfl⟩))))
 rw [← finK_finish]
 exact kcL ..
end
end Go.Proofs
namespace Go.Proofs
open Go Go.Ev
noncomputable def cSf : Code := bodyOf S0 53
abbrev cmpV : Value := .func (.func 55) ⟨[]⟩ ⟨[]⟩
abbrev slV (n : Nat) : Value := .slice (some ⟨2, 0, none⟩) n unk
def TS0 : Tr Value := .node (.node .nil (some cmpV) .nil) (some seqV) (.node (.node .nil (some (.slice none 0 0)) .nil) none .nil)
def TS1 (n : Nat) : Tr Value := .node (.node .nil (some cmpV) (.node .nil (some (slV n)) .nil)) (some seqV) (.node (.node .nil (some (.slice none 0 0)) .nil) none .nil)
def TS2 (n : Nat) : Tr Value := .node (.node .nil (some cmpV) (.node .nil (some (slV n)) .nil)) (some seqV) (.node (.node .nil (some (slV n)) .nil) none .nil)
noncomputable def tSo (n : Nat) (A0 A1 : AW) : Tbl := tcons 81 (entAt [slV n, cmpV] A0 (.tuple ⟨[]⟩) A1) fun _ => none
theorem kdA (r : Mem) (L : Nat) (fs : FnsC) (kn : KS) (kx : Nat → KS) (kr : KS) (ms : List Nat) (A : AW) : run (SC r) 51 12 L (lc cSf) fs none kn kx kr (sc0 51 [seqV, cmpV]) (tr0 51 [seqV, cmpV]) ms A =
    kn [] (.node (.node .nil (some (.func (Fn.func 55) ⟨[]⟩ ⟨[]⟩)) .nil) (some (.func (Fn.func 82) ⟨[]⟩ ⟨[.pointer (some ⟨0, 0, none⟩)]⟩)) (.node (.node .nil (some (.slice none 0 0)) .nil) none .nil)) ms A := by kernel_rfl
theorem kdB (r : Mem) (fs : FnsC) (kn : KS) (ms : List Nat) (A : AW) : preK (SC r) 51 12 (lc (rc cSf)) 1 fs kn [] TS0 ms A =
    kn [(6, .func (Fn.func 82) ⟨[]⟩ ⟨[.pointer (some ⟨0, 0, none⟩)]⟩)] (.node (.node .nil (some (.func (Fn.func 55) ⟨[]⟩ ⟨[]⟩)) .nil) (some (.func (Fn.func 82) ⟨[]⟩ ⟨[.pointer (some ⟨0, 0, none⟩)]⟩)) (.node (.node .nil (some (.slice none 0 0)) .nil) none .nil)) ms A := by kernel_rfl
theorem kdC (r : Mem) (fs : FnsC) (n : Nat) (kn : KS) (ms : List Nat) (A : AW) : tailK (SC r) 51 12 (lc (rc cSf)) 1 fs kn (slV n) [(6, seqV)] TS0 ms A =
    kn [(7, .slice (some ⟨2, 0, none⟩) n unk), (6, .func (Fn.func 82) ⟨[]⟩ ⟨[.pointer (some ⟨0, 0, none⟩)]⟩)] (.node (.node .nil (some (.func (Fn.func 55) ⟨[]⟩ ⟨[]⟩)) (.node .nil (some (.slice (some ⟨2, 0, none⟩) n unk)) .nil)) (some (.func (Fn.func 82) ⟨[]⟩ ⟨[.pointer (some ⟨0, 0, none⟩)]⟩)) (.node (.node .nil (some (.slice none 0 0)) .nil) none .nil)) ms A := by kernel_rfl
theorem kdD (r : Mem) (L : Nat) (e z clock : Nat) (es : List MapEntry) (l l' : List Value) (n : Nat) (s : List (Nat × Value)) (kn : KS) (kx : Nat → KS) (kr : KS) (ms : List Nat) : run (SC r) 51 12 L (rc (rc cSf)) (lvlT (SC r) (tSo n (AR e z clock es l) (AR e z clock es l')) .nil 1 1) none kn kx kr s (TS1 n) ms (AR e z clock es l) =
    bif m_at [.slice (some ⟨2, 0, none⟩) n unk, .func (Fn.func 55) ⟨[]⟩ ⟨[]⟩] [.slice (some ⟨2, 0, none⟩) n unk, .func (Fn.func 55) ⟨[]⟩ ⟨[]⟩] (AW.mk 4 (.node (.node (.node .nil none .nil) (some (AObj.map es clock)) .nil) (some (.cells [Value.map (some 1)] e 0 z)) (.node .nil (some (.cells l 56 2 1)) .nil)) .nil) (AW.mk 4 (.node (.node (.node .nil none .nil) (some (AObj.map es clock)) .nil) (some (.cells [Value.map (some 1)] e 0 z)) (.node .nil (some (.cells l 56 2 1)) .nil)) .nil) then kr [(11, .slice (some ⟨2, 0, none⟩) n unk)] (.node (.node .nil (some (.func (Fn.func 55) ⟨[]⟩ ⟨[]⟩)) (.node .nil (some (.slice (some ⟨2, 0, none⟩) n unk)) .nil)) (some (.func (Fn.func 82) ⟨[]⟩ ⟨[.pointer (some ⟨0, 0, none⟩)]⟩)) (.node (.node .nil (some (.slice (some ⟨2, 0, none⟩) n unk)) .nil) none .nil)) ms (AW.mk 4 (.node (.node (.node .nil none .nil) (some (AObj.map es clock)) .nil) (some (.cells [Value.map (some 1)] e 0 z)) (.node .nil (some (.cells l' 56 2 1)) .nil)) .nil) else F4 := by kernel_rfl
theorem kdE (r : Mem) (s : List (Nat × Value)) (n : Nat) (k : KV) (A : AW) : finK (SC r) 51 (resOf (SC r) 53) k s (TS2 n) [] A =
    k (.slice (some ⟨2, 0, none⟩) n unk) A := by kernel_rfl
theorem kdJ (r : Mem) (A : AW) : callAt (SC r) 51 (lc (rc cSf)) 1 ⟨[(6, seqV)], TS0⟩ A = some (80, [seqV], A) := by kernel_rfl
end Go.Proofs
namespace Go.Proofs
open Go Go.Ev
def ones : Nat → Nat → Nat
 | 0, _ => 0
 | n + 1, x => x % 2 + ones n (x / 2)
def popTab : List UInt8 := (List.range 256).map fun i => UInt8.ofNat (ones 8 i)
def m_sz (x : Int) : Int := Int.ofNat (ones 8 (x.toNat / 256) + ones 8 (x.toNat % 256))
def m_cp (x y : Int) : Int := bif decide (x < y) then -1 else bif decide (x > y) then 1 else 0
def m_cf (x y : Int) : Int := bif m_cp (m_sz x) (m_sz y) != 0 then m_cp (m_sz x) (m_sz y) else m_cp x y
def in16 (x : Int) : Bool := decide (0 ≤ x) && decide (x < 65536)
def eSz : Ent := ent (fun args _ => match args with | [.int .u16 x] => in16 x | _ => false) (fun args _ => match args with | [.int .u16 x] => I (m_sz x) | _ => undef)
def eC16 : Ent := ent (fun args _ => match args with | [.int .u16 _, .int .u16 _] => true | _ => false) (fun args _ => match args with | [.int .u16 x, .int .u16 y] => I (m_cp x y) | _ => undef)
def tCf : Tbl := tcons 58 eSz (tcons 59 eC16 (tcons 57 (eI2 (fun _ _ => true) fun x y => I (m_cp x y)) fun _ => none))
theorem pop_get : ∀ i : Fin 256, popTab[i.val]? = some (UInt8.ofNat (ones 8 i.val)) := by decide +kernel
theorem ones_lt : ∀ i : Fin 256, ones 8 i.val ≤ 8 := by decide +kernel
theorem keS (r : Mem) (x : Int) : (lvlT (SC r) (fun _ => none) .nil 2 3).call 58 [.int .u16 x] emptyA fin =
  bif decide (0 ≤ Int.fdiv x (Int.ofNat 256)) then Option.casesOn popTab[Int.toNat (Int.fdiv x (Int.ofNat 256))]? (CR.fail 429) fun val => Option.casesOn popTab[Int.toNat (ibits BinOp.and IntKind.u16 x (Int.ofNat 255))]? (CR.fail 429) fun val_1 => CR.ret (Value.int IntKind.i64 (IntKind.wrap IntKind.i64 (IntKind.wrap IntKind.u8 (Int.ofNat (UInt8.toNat val) + Int.ofNat (UInt8.toNat val_1))))) (AW.mk 0 Tr.nil Tr.nil) else F4 := by kernel_rfl
theorem and255 (n : Nat) (h : n < 65536) : ibits BinOp.and IntKind.u16 (n : Int) (Int.ofNat 255) = ((n % 256 : Nat) : Int) := by
 have e : (BitVec.ofInt 16 (n : Int) &&& BitVec.ofInt 16 (Int.ofNat 255)).toNat = n % 256 := by
  rw [BitVec.toNat_and, BitVec.ofInt_natCast, BitVec.toNat_ofNat, Nat.mod_eq_of_lt (by omega)]
  exact Nat.and_two_pow_sub_one_eq_mod n 8
 show IntKind.wrap .u16 ((BitVec.ofInt 16 (n : Int) &&& BitVec.ofInt 16 (Int.ofNat 255)).toNat : Int) = _
 rw [e]
 have : n % 256 < 256 := Nat.mod_lt _ (by omega)
 generalize n % 256 = m at this ⊢
 have : ∀ m : Fin 256, IntKind.wrap .u16 (m.val : Int) = (m.val : Int) := by decide +kernel
 exact this ⟨m, by omega⟩
theorem size_calls (r : Mem) (x : Int) (h0 : 0 ≤ x) (h1 : x < 65536) : GrT Tryz.prog r 58 [.int .u16 x] (I (m_sz x)) := by
 refine GrT.of (SC_ok r) TOk.nil .nil rfl ⟨2, 3, (keS r x).trans ?_⟩
 obtain ⟨n, rfl⟩ := Int.eq_ofNat_of_zero_le h0
 have hn : n < 65536 := by omega
 have e1 : Int.fdiv (n : Int) (Int.ofNat 256) = ((n / 256 : Nat) : Int) := by rw [Int.fdiv_eq_ediv_of_nonneg _ (by decide)]; rfl
 have hd : n / 256 < 256 := by omega
 have hm : n % 256 < 256 := Nat.mod_lt _ (by omega)
 rw [e1, and255 n hn, Int.toNat_natCast, Int.toNat_natCast, pop_get ⟨n / 256, hd⟩, pop_get ⟨n % 256, hm⟩]
 rw [show decide ((0 : Int) ≤ ((n / 256 : Nat) : Int)) = true from decide_eq_true (by omega)]
 simp only [cond_true]
 unfold m_sz
 rw [Int.toNat_natCast]
 have k1 := ones_lt ⟨n / 256, hd⟩
 have k2 := ones_lt ⟨n % 256, hm⟩
 simp only at k1 k2
 generalize ones 8 (n / 256) = a at k1 ⊢
 generalize ones 8 (n % 256) = b at k2 ⊢
 have key : ∀ a b : Fin 9, IntKind.wrap IntKind.i64 (IntKind.wrap IntKind.u8 (Int.ofNat (UInt8.toNat (UInt8.ofNat a.val)) + Int.ofNat (UInt8.toNat (UInt8.ofNat b.val)))) = Int.ofNat (a.val + b.val) := by decide +kernel
 rw [key ⟨a, by omega⟩ ⟨b, by omega⟩]
 rfl
theorem keC (r : Mem) (x y : Int) : (lvlT (SC r) (fun _ => none) .nil 2 3).call 57 [I x, I y] emptyA fin =
    bif x != x then bif y != y then .ret (I (Int.ofNat 0)) (AW.mk 0 .nil .nil) else .ret (I (Int.negSucc 0)) (AW.mk 0 .nil .nil) else bif y != y then .ret (I (Int.ofNat 1)) (AW.mk 0 .nil .nil) else bif decide (x < y) then .ret (I (Int.negSucc 0)) (AW.mk 0 .nil .nil) else bif decide (x > y) then .ret (I (Int.ofNat 1)) (AW.mk 0 .nil .nil) else .ret (I (Int.ofNat 0)) (AW.mk 0 .nil .nil) := by kernel_rfl
theorem keD (r : Mem) (x y : Int) : (lvlT (SC r) (fun _ => none) .nil 2 3).call 59 [.int .u16 x, .int .u16 y] emptyA fin =
    bif x != x then bif y != y then .ret (I (Int.ofNat 0)) (AW.mk 0 .nil .nil) else .ret (I (Int.negSucc 0)) (AW.mk 0 .nil .nil) else bif y != y then .ret (I (Int.ofNat 1)) (AW.mk 0 .nil .nil) else bif decide (x < y) then .ret (I (Int.negSucc 0)) (AW.mk 0 .nil .nil) else bif decide (x > y) then .ret (I (Int.ofNat 1)) (AW.mk 0 .nil .nil) else .ret (I (Int.ofNat 0)) (AW.mk 0 .nil .nil) := by kernel_rfl
theorem cmp_calls (r : Mem) (x y : Int) : GrT Tryz.prog r 57 [I x, I y] (I (m_cp x y)) := by
 refine GrT.of (SC_ok r) TOk.nil .nil rfl ⟨2, 3, ?_⟩
 rw [keC]
 simp only [neF (show x = x from rfl), neF (show y = y from rfl), cond_false, m_cp]
 cases decide (x < y) <;> cases decide (x > y) <;> rfl
theorem cmp16_calls (r : Mem) (x y : Int) : GrT Tryz.prog r 59 [.int .u16 x, .int .u16 y] (I (m_cp x y)) := by
 refine GrT.of (SC_ok r) TOk.nil .nil rfl ⟨2, 3, ?_⟩
 rw [keD]
 simp only [neF (show x = x from rfl), neF (show y = y from rfl), cond_false, m_cp]
 cases decide (x < y) <;> cases decide (x > y) <;> rfl
theorem eSz_ok (r : Mem) : EOk (SC r) 58 eSz := EOk.ent fun args A hg => by
 split at hg
 ·rename_i x
  simp only [in16, Bool.and_eq_true, decide_eq_true_eq] at hg
  exact (size_calls r x hg.1 hg.2).ro rfl A
 ·cases hg
theorem eC16_ok (r : Mem) : EOk (SC r) 59 eC16 := EOk.ent fun args A hg => by
 split at hg
 ·exact (cmp16_calls r _ _).ro rfl A
 ·cases hg
theorem tCf_ok (r : Mem) : TOk (SC r) tCf := ((TOk.nil.cons (eI2_ok fun x y _ => cmp_calls r x y)).cons (eC16_ok r)).cons (eSz_ok r)
theorem keF (r : Mem) (x y : Int) : (lvlT (SC r) tCf .nil 4 3).call 55 [.int .u16 x, .int .u16 y] emptyA fin =
    bif decide (0 ≤ x) && decide (x < 65536) then bif decide (0 ≤ y) && decide (y < 65536) then bif m_cp (m_sz x) (m_sz y) != Int.ofNat 0 then .ret (I (m_cp (m_sz x) (m_sz y))) (AW.mk 0 .nil .nil) else bif m_cp x y != Int.ofNat 0 then .ret (I (m_cp x y)) (AW.mk 0 .nil .nil) else .ret (I (Int.ofNat 0)) (AW.mk 0 .nil .nil) else F4 else F4 := by kernel_rfl
end Go.Proofs
namespace Go.Proofs
open Go Go.Ev
def g2 (γ : Gam) (b m : Nat) : Gam := fun i => match i with | 0 => γ b | 1 => γ m | _ => none
theorem g2_cases {γ : Gam} {b m i : Nat} {g : GI} (h : g2 γ b m i = some g) : (i = 0 ∧ γ b = some g) ∨ (i = 1 ∧ γ m = some g) := by
 unfold g2 at h
 split at h
 ·exact .inl ⟨rfl, h⟩
 ·exact .inr ⟨rfl, h⟩
 ·cases h
theorem ak0_get {e z clock : Nat} {es : List MapEntry} {i : Nat} {o : AObj} (h : (AK0 e z clock es).heap.get i = some o) : (i = 0 ∧ o = .cells [.map (some 1)] e 0 z) ∨ (i = 1 ∧ o = .map es clock) := by
 have : Tr.All (fun i o => (i = 0 ∧ o = AObj.cells [.map (some 1)] e 0 z) ∨ (i = 1 ∧ o = .map es clock)) (AK0 e z clock es).heap id := by
  exact ⟨.inl ⟨rfl, rfl⟩, ⟨.inr ⟨rfl, rfl⟩, trivial, trivial⟩, trivial⟩
 exact this.get h
theorem WRel.pair {γ : Gam} {A : AW} {W : World} (hw : WRel γ A W) {b m e f z clock : Nat} {es : List MapEntry} (hb : A.heap.get b = some (.cells [.map (some m)] e f z)) (hm : A.heap.get m = some (.map es clock))
  (hg : ∀ x ∈ es, gnd x.key = true ∧ gnd x.val = true) : WRel (g2 γ b m) (AK0 e z clock es) W := by
 obtain ⟨gb, hgb, hob⟩ := hw.obj _ _ hb
 obtain ⟨gm, hgm, hom⟩ := hw.obj _ _ hm
 refine ⟨fun i o hi => ?_, fun i g hi => ?_, fun i hi => ?_, fun i j o o' g g' hi hj hgi hgj hbb => ?_, fun i c e' fam sz hi => ?_, fun i c e' fam sz hi => ?_, fun f _ => rfl⟩
 ·rcases ak0_get hi with ⟨rfl, rfl⟩ | ⟨rfl, rfl⟩
  ·refine ⟨gb, hgb, ?_⟩
   cases hob with
   | cells h hf hn hz hc =>
    refine .cells h hf hn hz fun k v hk => ?_
    cases k with
    | zero =>
     cases hk
     obtain ⟨v', h1, h2⟩ := hc 0 _ rfl
     refine ⟨v', h1, ?_⟩
     cases h2 with
     | map hx => exact .map (show g2 γ b m 1 = _ from hx)
    | succ k => cases hk
  ·refine ⟨gm, hgm, ?_⟩
   cases hom with
   | map h he => exact .map h (he.of_gnds hg)
 ·rcases g2_cases hi with ⟨_, h⟩ | ⟨_, h⟩
  ·exact hw.lt _ _ h
  ·exact hw.lt _ _ h
 ·unfold g2
  split
  ·have : (2 : Nat) ≤ 0 := hi
   omega
  ·have : (2 : Nat) ≤ 1 := hi
   omega
  ·rfl
 ·have no : ∀ {g : GI}, gb = g → gm = g → False := fun h1 h2 => by
   have hbb : gb.blk = gm.blk := by rw [h1, h2]
   rcases hw.sep b m _ _ gb gm hb hm hgb hgm hbb with h | ⟨_, _, _, _, _, _, _, _, h⟩
   ·subst h
    rw [hb] at hm
    cases hm
   ·exact nomatch h.1
  have no' : gb.blk = gm.blk → False := fun hbb => by
   rcases hw.sep b m _ _ gb gm hb hm hgb hgm hbb with h | ⟨_, _, _, _, _, _, _, _, h⟩
   ·subst h
    rw [hb] at hm
    cases hm
   ·exact nomatch h.1
  rcases g2_cases hgi with ⟨rfl, h1⟩ | ⟨rfl, h1⟩ <;> rcases g2_cases hgj with ⟨rfl, h2⟩ | ⟨rfl, h2⟩
  ·exact .inl rfl
  ·rw [hgb] at h1; rw [hgm] at h2
   cases h1; cases h2
   exact (no' hbb).elim
  ·rw [hgm] at h1; rw [hgb] at h2
   cases h1; cases h2
   exact (no' hbb.symm).elim
  ·exact .inl rfl
 ·rcases ak0_get hi with ⟨rfl, h⟩ | ⟨rfl, h⟩
  ·cases h
   exact .head _
  ·cases h
 ·rcases ak0_get hi with ⟨rfl, h⟩ | ⟨rfl, h⟩
  ·cases h
   show 0 < 2
   omega
  ·cases h
theorem _root_.Go.Ev.Ro.pair {r : Mem} {γ : Gam} {W : World} (h : Ro r γ W) (b m : Nat) : Ro r (g2 γ b m) W :=
 have key : ∀ b', (∀ i g, γ i = some g → g.blk ≠ b') → ∀ i g, g2 γ b m i = some g → g.blk ≠ b' := fun b' hno i g hi => by
  rcases g2_cases hi with ⟨_, h⟩ | ⟨_, h⟩
  ·exact hno _ _ h
  ·exact hno _ _ h
 ⟨fun b' k v e => ⟨key b' (h.rd b' k v e).1, (h.rd b' k v e).2⟩, fun b' e => ⟨key b' (h.wr b' e).1, (h.wr b' e).2⟩⟩
theorem Ends.pair {γ : Gam} {A : AW} {W : World} (hw : WRel γ A W) {b m e f z clock n eK : Nat} {es : List MapEntry} {l : List Value} (hb : A.heap.get b = some (.cells [.map (some m)] e f z)) (hm : A.heap.get m = some (.map es clock))
  (hf : A.members f = [b]) (hg : ∀ x ∈ es, gnd x.key = true ∧ gnd x.val = true) (hl : ∀ v ∈ l, gnd v = true) {x : Ending} {W' : World} {AR' : AW}
  (h0 : AR'.heap.get 0 = some (.cells [.map (some 1)] e 0 z)) (h1 : AR'.heap.get 1 = some (.map es clock)) (h2 : AR'.heap.get 2 = some (.cells l eK 2 1))
  (h : Go.Ev.Ends (g2 γ b m) W (.slice (some ⟨2, 0, none⟩) n unk) AR' x W') : Go.Ev.Ends γ W (.slice (some ⟨A.next, 0, none⟩) n unk) (A.new (.cells l eK A.next 1)) x W' := by
 obtain ⟨v', γ', rfl, hv, hw', hx⟩ := h
 obtain ⟨gb, hgb, hob⟩ := hw.obj _ _ hb
 obtain ⟨gm, hgm, hom⟩ := hw.obj _ _ hm
 have hb' : γ' 0 = some gb := hx.le 0 gb hgb
 have hm' : γ' 1 = some gm := hx.le 1 gm hgm
 obtain ⟨gr, hgr, hor⟩ := hw'.obj _ _ h2
 have hnew : W.heap.size ≤ gr.blk := by
  rcases hx.new 2 gr hgr with hh | ⟨_, hh | ⟨j, y, hj, hy⟩⟩
  ·cases hh
  ·exact hh
  ·exfalso
   rcases g2_cases hj with ⟨_, hj⟩ | ⟨_, hj⟩
   ·rw [hgb] at hj; cases hj
    rcases hw'.sep 2 0 _ _ gr gb h2 h0 hgr hb' hy.symm with h | ⟨_, _, _, _, _, _, _, q1, q2⟩
    ·cases h
    ·cases q1; exact nomatch q2.1
   ·rw [hgm] at hj; cases hj
    rcases hw'.sep 2 1 _ _ gr gm h2 h1 hgr hm' hy.symm with h | ⟨_, _, _, _, _, _, _, _, q2⟩
    ·cases h
    ·exact nomatch q2.1
 have hkeep : ∀ k, k < W.heap.size → k ≠ gb.blk → k ≠ gm.blk → W'.heap[k]? = W.heap[k]? := fun k hk h1 h2 => by
  refine hx.block k hk fun i g hi hbk => ?_
  rcases g2_cases hi with ⟨_, h⟩ | ⟨_, h⟩
  ·rw [hgb] at h; cases h
   exact h1 hbk.symm
  ·rw [hgm] at h; cases h
   exact h2 hbk.symm
 have hwA : WRel γ A W' := by
  refine ⟨fun i o hi => ?_, fun i g hi => Nat.lt_of_lt_of_le (hw.lt i g hi) hx.size, hw.fresh, hw.sep, hw.mem, hw.famlt, hw.famfresh⟩
  obtain ⟨g, hgi, hr⟩ := hw.obj i o hi
  refine ⟨g, hgi, ?_⟩
  have onB : i = b → ORel γ W' g o := fun h => by
   subst h
   rw [hb] at hi; rw [hgb] at hgi
   cases hi; cases hgi
   obtain ⟨g', hg', ho'⟩ := hw'.obj _ _ h0
   rw [hb'] at hg'; cases hg'
   cases ho' with
   | cells q1 q2 q3 q4 q5 =>
    refine .cells q1 q2 q3 q4 fun k v hk => ?_
    cases k with
    | zero =>
     cases hk
     obtain ⟨u, k1, k2⟩ := q5 0 _ rfl
     refine ⟨u, k1, ?_⟩
     cases k2 with
     | map hy => rw [hm'] at hy; cases hy; exact .map hgm
    | succ k => cases hk
  have onM : i = m → ORel γ W' g o := fun h => by
   subst h
   rw [hm] at hi; rw [hgm] at hgi
   cases hi; cases hgi
   obtain ⟨g', hg', ho'⟩ := hw'.obj _ _ h1
   rw [hm'] at hg'; cases hg'
   cases ho' with
   | map q1 q2 => exact .map q1 (q2.of_gnds hg)
  by_cases c1 : g.blk = gb.blk
  ·rcases hw.sep i b _ _ g gb hi hb hgi hgb c1 with h | ⟨c, e1, c', e2, fam, s1, s2, q1, q2⟩
   ·exact onB h
   ·obtain ⟨q2, _⟩ := q2
    cases q2
    subst q1
    have := hw.mem i _ _ _ _ hi
    rw [hf] at this
    exact onB (List.mem_singleton.1 this)
  ·by_cases c2 : g.blk = gm.blk
   ·rcases hw.sep i m _ _ g gm hi hm hgi hgm c2 with h | ⟨_, _, _, _, _, _, _, _, q2⟩
    ·exact onM h
    ·exact nomatch q2.1
   ·exact hr.mono γ.le_refl (hkeep _ (hw.lt _ _ hgi) c1 c2)
 have hun : ∀ i g', γ i = some g' → g'.blk ≠ gr.blk := fun i g' hi hbk => by
  have := hw.lt i g' hi
  omega
 have ho' : ORel γ W' gr (.cells l eK A.next 1) := by
  cases hor with
  | cells q1 q2 q3 q4 q5 =>
   refine .cells q1 q2 q3 q4 fun k v hk => ?_
   obtain ⟨u, k1, k2⟩ := q5 k v hk
   have hgv := hl v (List.mem_of_getElem? hk)
   exact ⟨u, k1, by rw [k2.eq_of_gnd hgv]; exact VRel.of_gnd _ v hgv⟩
 refine ⟨v', γ.set A.next gr, rfl, ?_, hwA.add ho' hun, ⟨Gam.le_set _ (hw.fresh _ (Nat.le_refl _)), fun i y hi => ?_, hx.size, fun k hk hno => ?_, hx.os, hx.tape, hx.output, hx.drawn⟩⟩
 ·generalize hc : unk = c0 at hv
  cases hv with
  | slice k l0 c c' hg1 hc1 =>
   subst hc
   rw [hgr] at hg1; cases hg1
   exact .slice _ _ _ _ (Gam.set_same _ _ _) hc1
  | sliceE => exact absurd hc (by decide)
 ·rcases Gam.set_cases hi with ⟨rfl, rfl⟩ | ⟨_, hi⟩
  ·exact .inr ⟨hw.fresh _ (Nat.le_refl _), .inl hnew⟩
  ·exact .inl hi
 ·exact hkeep k hk (fun h => hno b gb hgb h.symm) (fun h => hno m gm hgm h.symm)
end Go.Proofs
namespace Go.Proofs
open Go Go.Ev Go.Shelf Go.RowKit Go.Lib Go.Sort
theorem mapBlock_setB {W : World} {b : Nat} {cc : Array Value} {e : TypeId} {fr : Nat × Nat} (hb : W.heap[b]? = some (.cells cc e fr)) (f : Array Value → Array Value) : mapBlock W b f = setB W b (.cells (f cc) e fr) := by
 unfold mapBlock setB
 congr 1
 apply Array.ext_getElem?
 intro k
 simp only [Array.getElem?_modify, Array.getElem?_setIfInBounds]
 by_cases hk : b = k
 ·subst hk
  have hlt : b < W.heap.size := by
   rcases Nat.lt_or_ge b W.heap.size with h | h
   ·exact h
   ·rw [Array.getElem?_eq_none h] at hb; cases hb
  rw [if_pos rfl, if_pos rfl, if_pos hlt, hb]
  rfl
 ·rw [if_neg hk, if_neg hk]
theorem WRel.ahead {γ : Gam} {A : AW} {W : World} (h : WRel γ A W) (n : Nat) : WRel γ A (Sort.ahead W n) :=
 ⟨fun i o hi => let ⟨g, hg, hr⟩ := h.obj i o hi; ⟨g, hg, hr.mono γ.le_refl rfl⟩, h.lt, h.fresh, h.sep, h.mem, h.famlt, h.famfresh⟩
theorem Ext.ahead (γ : Gam) (W : World) (n : Nat) : Ext γ W γ (Sort.ahead W n) := ⟨γ.le_refl, fun _ _ h => .inl h, Nat.le_refl _, fun _ _ _ => rfl, rfl, rfl, rfl, Nat.le_add_right _ _⟩
theorem below_grow (W : World) (os : Array Obj) : BelowD W.heap.size W (Sort.grow W os) := by
 refine ⟨⟨rfl, rfl, rfl, by simp [Sort.grow], fun k hk => ?_⟩, Nat.le_refl _⟩
 show (W.heap ++ os)[k]? = _
 rw [Array.getElem?_append_left hk]
theorem _root_.Go.Ev.GrT.callsD {P : Program} {r : Mem} {f : Nat} {args : List Value} {v : Value} (h : GrT P r f args v) {W : World} {args' : Array Value} (hR : Ro r noG W) (ha : VsRel noG args args'.toList) :
  Calls P f args' W fun e W' => e = .returned v ∧ BelowD W.heap.size W W' :=
 callsIn_wide.1 (h.2 Fence.wide ⟨fun _ => trivial, rfl, rfl⟩ 0 W args' hR ha)
theorem _root_.Go.Ev.BelowD.grow {W W' : World} (h : BelowD W.heap.size W W') : ∃ q os', W' = Sort.grow (W.drewN q) os' := by
 refine ⟨W'.drawn - W.drawn, W'.heap.extract W.heap.size W'.heap.size, ?_⟩
 obtain ⟨⟨h1, h2, h3, h4, h5⟩, h6⟩ := h
 obtain ⟨heap, tape, drawn, os, output⟩ := W'
 obtain ⟨heap0, tape0, drawn0, os0, output0⟩ := W
 simp only at h1 h2 h3 h4 h5 h6
 subst h1 h2 h3
 simp only [Sort.grow, World.drewN, World.mk.injEq, true_and, and_true]
 refine ⟨?_, by omega⟩
 apply Array.ext_getElem?
 intro k
 by_cases hk : k < heap0.size
 ·rw [Array.getElem?_append_left hk, h5 k hk]
 ·rw [Array.getElem?_append_right (by omega), Array.getElem?_extract]
  by_cases hk2 : k < heap.size
  ·rw [if_pos (by omega)]
   congr 1
   omega
  ·rw [if_neg (by omega), Array.getElem?_eq_none (by omega)]
theorem cells_enc {α : Type} {enc : α → Value} (hg : ∀ x, gnd (enc x) = true) {γ : Gam} {o : Nat} {zs : List α} {cc : Array Value} (h : CellsRel γ o (zs.map enc) cc) (j : Nat) (hj : j < zs.length) : cc[o + j]? = some (enc zs[j]) := by
 obtain ⟨v', h1, h2⟩ := h j (enc zs[j]) (by simp [hj])
 rw [h1, h2.eq_of_gnd (hg _)]
theorem sort_genC {P : Program} {ρ : Shelf.Ren} (L : SlLaysF.n6 P ρ) {α : Type} [Inhabited α] (enc : α → Value) (h1 : OneCell enc) (hgnd : ∀ x, gnd (enc x) = true) (g0 : Nat) (capt : List Value) (cf : α → α → Int) (hO : SWO (ltOf cf))
  (eg : ∀ args w, (callFunc g0 args).run P w = .ok (.enter g0 args) w)
  {C : Cfg} (hP : C.P = P) {A0 : AW} {i cap : Nat} {e : TypeId} {fam z : Nat} {zs R : List α} (hi : A0.heap.get i = some (.cells (zs.map enc) e fam z)) (hsz : zs.length < 4611686018427387904) (hcap : cap ≠ unkE)
  (hcmp : ∀ γ W capt' g, WRel γ A0 W → Ro C.ro γ W → VsRel γ capt capt' → γ i = some g → CmpLays1 P g0 ⟨capt'⟩ enc cf g.blk g.off zs.length W)
  (hR : ∀ d : List α, d.Perm zs → d.Pairwise (fun x y => ltOf cf y x = false) → d = R) :
  ∀ F, Wide F → ∀ k γ W args', WRel γ A0 W → Ro C.ro γ W → VsRel γ [.slice (some ⟨i, 0, none⟩) zs.length cap, .func (.func g0) ⟨[]⟩ ⟨capt⟩] (Array.toList args') →
   CallsIn F k C.P (ρ.f 6) args' W (Go.Ev.Ends γ W (.tuple ⟨[]⟩) (A0.only fam i (.cells (R.map enc) e fam z))) := by
 intro F hF k γ W args' hw hro ha
 subst hP
 obtain ⟨g, hg, ho⟩ := hw.obj _ _ hi
 cases ho with
 | cells hb hf hn hz hc =>
 rename_i cc fr
 obtain ⟨l'⟩ := args'
 cases ha with
 | cons h1' h2 =>
 cases h2 with
 | cons h2 h3 =>
 cases h3
 cases h2 with
 | func q1 q2 q3 =>
 cases q1
 rename_i a1 a2
 obtain ⟨a1⟩ := a1
 obtain ⟨a2⟩ := a2
 cases q2
 generalize hm : zs.length = m at h1'
 cases h1' with
 | sliceE => exact absurd rfl hcap
 | slice _ _ _ c' hg' _ =>
 subst hm
 rw [hg] at hg'
 cases hg'
 have hlt := hw.lt _ _ hg
 have hcz := cells_enc hgnd hc
 have hH : Holds enc W g.blk g.off zs.toArray := fun j hj => by
  have hj' : j < zs.length := by simpa using hj
  have h0 := hcz j hj'
  have hjc : g.off + j < cc.size := by
   rcases Nat.lt_or_ge (g.off + j) cc.size with h | h
   ·exact h
   ·rw [Array.getElem?_eq_none h] at h0; cases h0
  refine ⟨?_, ?_⟩
  ·unfold World.cell?
   rw [hb]
   simp only [Option.isSome_none, Bool.false_eq_true, if_false, h0]
   rw [getElem!_pos _ j (by simpa using hj')]
   simp
  ·unfold World.frozen?
   rw [hb]
   have := hf (g.off + j) hjc
   simp only [Bool.and_eq_false_iff, decide_eq_false_iff_not]
   omega
 have hcr : CmpLays1 C.P g0 ⟨a2⟩ enc cf g.blk g.off zs.toArray.size W := by
  rw [show zs.toArray.size = zs.length by simp]
  exact hcmp γ W a2 g hw hro q3 hg
 have hcon := Any.slices_SortFunc L enc h1 cf hO g0 ⟨a2⟩ g.blk g.off c' zs.toArray W eg hcr hH hlt (by simpa using hsz)
 rw [show zs.toArray.size = zs.length by simp] at hcon
 refine (hF.calls hcon).mono fun e' W' he => ?_
 obtain ⟨rfl, d', n, os, hp, hs, rfl⟩ := he
 have hds : d'.size = zs.length := by simpa using hp.1
 have hd : d'.toList = R := by
  refine hR _ ?_ ?_
  ·have := hp.2.2
   rw [show d'.extract 0 zs.length = d' by rw [← hds]; simp] at this
   simpa using this
  ·rw [List.pairwise_iff_getElem]
   intro a b h1 h2 h3
   have := hs a b (Nat.zero_le _) h3 (by rw [← hds]; simpa using h2)
   rw [getElem!_pos _ b (by simpa using h2), getElem!_pos _ a (by simpa using h1)] at this
   simpa using this
 have hw1 := WRel.ahead hw n
 have hb1 : (Sort.ahead W n).heap[g.blk]? = some (.cells cc e fr) := hb
 have e1 : putRow enc (Sort.ahead W n) g.blk g.off d' = setB (Sort.ahead W n) g.blk (.cells (putCells enc g.off d' cc) e fr) := mapBlock_setB hb1 _
 have hps : (putCells enc g.off d' cc).size = cc.size := by simp [putCells]
 have hor : ORel γ (setB (Sort.ahead W n) g.blk (.cells (putCells enc g.off d' cc) e fr)) g (.cells (R.map enc) e fam z) := by
  refine .cells (setB_same _ hlt) (by rw [hps]; exact hf) (by rw [hps]; exact hn) hz fun k v hk => ?_
  rw [List.getElem?_map] at hk
  cases hr : R[k]? with
  | none => rw [hr] at hk; cases hk
  | some x =>
   rw [hr] at hk
   cases hk
   have hkR : k < R.length := by
    rcases Nat.lt_or_ge k R.length with h | h
    ·exact h
    ·rw [List.getElem?_eq_none h] at hr; cases hr
   have hkd : k < d'.size := by rw [← hd] at hkR; simpa using hkR
   have hkz : k < zs.length := by omega
   refine ⟨enc x, ?_, VRel.of_gnd _ _ (hgnd x)⟩
   have h0 := hcz k hkz
   simp only [putCells, Array.getElem?_mapIdx, h0, Option.map_some]
   rw [if_pos ⟨by omega, by omega⟩, show g.off + k - g.off = k by omega]
   rw [getElem!_pos _ k hkd]
   have : d'.toList[k]? = some x := by rw [hd]; exact hr
   rw [show d'[k] = x by simpa [hkd] using this]
 have hw2 := WRel.setRow hw1 hi hg hor
 have hx2 : Ext γ W γ (setB (Sort.ahead W n) g.blk (.cells (putCells enc g.off d' cc) e fr)) := (Ext.ahead γ W n).trans (Ext.setB _ hg)
 have hbl := below_grow (setB (Sort.ahead W n) g.blk (.cells (putCells enc g.off d' cc) e fr)) os
 obtain ⟨hw3, hx3⟩ := WRel.below hw2 hbl
 refine ⟨.tuple #[], γ, rfl, .tuple .nil, ?_, ?_⟩
 ·unfold sortWorld
  rw [e1]
  exact hw3
 ·unfold sortWorld
  rw [e1]
  exact hx2.trans hx3
theorem sort_gen {P : Program} {ρ : Shelf.Ren} (L : SlLaysF.n6 P ρ) {α : Type} [Inhabited α] (enc : α → Value) (h1 : OneCell enc) (hgnd : ∀ x, gnd (enc x) = true) (g0 : Nat) (cf : α → α → Int) (hO : SWO (ltOf cf))
  (eg : ∀ args w, (callFunc g0 args).run P w = .ok (.enter g0 args) w)
  (hcmp : ∀ x y, GrT P Mem.no g0 [enc x, enc y] (.int .i64 (cf x y)))
  {C : Cfg} (hP : C.P = P) {A0 : AW} {i cap : Nat} {e : TypeId} {fam z : Nat} {zs R : List α} (hi : A0.heap.get i = some (.cells (zs.map enc) e fam z)) (hsz : zs.length < 4611686018427387904) (hcap : cap ≠ unkE)
  (hR : ∀ d : List α, d.Perm zs → d.Pairwise (fun x y => ltOf cf y x = false) → d = R) :
  ∀ F, Wide F → ∀ k γ W args', WRel γ A0 W → Ro C.ro γ W → VsRel γ [.slice (some ⟨i, 0, none⟩) zs.length cap, .func (.func g0) #[] #[]] (Array.toList args') →
   CallsIn F k C.P (ρ.f 6) args' W (Go.Ev.Ends γ W (.tuple ⟨[]⟩) (A0.only fam i (.cells (R.map enc) e fam z))) :=
 sort_genC L enc h1 hgnd g0 [] cf hO eg hP hi hsz hcap (fun γ W capt' g _ _ hc _ => by
  cases hc
  exact fun _ _ _ _ x y =>
  (GrT.callsD (hcmp x y) (args' := #[enc x, enc y] ++ #[]) Ro.nought (by simpa using VsRel.of_gnds noG [enc x, enc y] (by simp [gnds, hgnd]))).mono fun _ _ ⟨he, hb⟩ => ⟨he, hb.grow⟩) hR
end Go.Proofs
namespace Go.Proofs
open Go Go.Shelf
noncomputable def nameK (n : Nat) : String := match Tryz.prog.funcs[n]? with
 | some f => f.name
 | none => ""
def Tryz.sortK_ren : Shelf.Ren where
 f := fun x => match x with
  | 6 => 81
  | 15 => 99
  | 14 => 98
  | 28 => 111
  | 29 => 112
  | 20 => 103
  | 21 => 104
  | 22 => 105
  | 23 => 106
  | 24 => 107
  | 25 => 108
  | 26 => 109
  | 27 => 110
  | 46 => 114
  | 47 => 115
  | 48 => 116
  | 49 => 117
  | 50 => 118
  | 57 => 127
  | n => n
 t := fun x => match x with
  | 22 => 62
  | 24 => 56
  | 25 => 89
  | 3 => 3
  | 39 => 51
  | 0 => 0
  | 53 => 134
  | 55 => 146
  | 4 => 4
  | 46 => 138
  | 45 => 137
  | 50 => 142
  | 5 => 5
  | 9 => 9
  | 66 => 148
  | 70 => 152
  | 76 => 159
  | 77 => 160
  | n => n
 g := fun x => x
theorem Tryz.sortK : SlLaysF.n6 Tryz.prog Tryz.sortK_ren where
 mixed := by kernel_rfl
 f6 := ⟨nameK 81, of_decide_eq_true (by kernel_rfl), Tryz.func81.trans (by kernel_rfl)⟩
 f14 := ⟨nameK 98, of_decide_eq_true (by kernel_rfl), Tryz.func98.trans (by kernel_rfl)⟩
 f15 := Tryz.func99.trans (by kernel_rfl)
 f20 := ⟨nameK 103, of_decide_eq_true (by kernel_rfl), Tryz.func103.trans (by kernel_rfl)⟩
 f21 := ⟨nameK 104, of_decide_eq_true (by kernel_rfl), Tryz.func104.trans (by kernel_rfl)⟩
 f22 := ⟨nameK 105, of_decide_eq_true (by kernel_rfl), Tryz.func105.trans (by kernel_rfl)⟩
 f23 := ⟨nameK 106, of_decide_eq_true (by kernel_rfl), Tryz.func106.trans (by kernel_rfl)⟩
 f24 := ⟨nameK 107, of_decide_eq_true (by kernel_rfl), Tryz.func107.trans (by kernel_rfl)⟩
 f25 := ⟨nameK 108, of_decide_eq_true (by kernel_rfl), Tryz.func108.trans (by kernel_rfl)⟩
 f26 := ⟨nameK 109, of_decide_eq_true (by kernel_rfl), Tryz.func109.trans (by kernel_rfl)⟩
 f27 := ⟨nameK 110, of_decide_eq_true (by kernel_rfl), Tryz.func110.trans (by kernel_rfl)⟩
 f28 := Tryz.func111.trans (by kernel_rfl)
 f29 := Tryz.func112.trans (by kernel_rfl)
 f46 := ⟨nameK 114, of_decide_eq_true (by kernel_rfl), Tryz.func114.trans (by kernel_rfl)⟩
 f47 := Tryz.func115.trans (by kernel_rfl)
 f48 := Tryz.func116.trans (by kernel_rfl)
 f49 := ⟨nameK 117, of_decide_eq_true (by kernel_rfl), Tryz.func117.trans (by kernel_rfl)⟩
 f50 := ⟨nameK 118, of_decide_eq_true (by kernel_rfl), Tryz.func118.trans (by kernel_rfl)⟩
 f57 := ⟨nameK 127, of_decide_eq_true (by kernel_rfl), Tryz.func127.trans (by kernel_rfl)⟩
 t0 := Tryz.underlying0
 a0 := Tryz.isAgg0
 z0 := Tryz.sizeOf0
 v0 := Tryz.zeroValue0
 t3 := Tryz.underlying3
 a3 := Tryz.isAgg3
 z3 := Tryz.sizeOf3
 v3 := Tryz.zeroValue3
 t4 := Tryz.underlying4
 a4 := Tryz.isAgg4
 z4 := Tryz.sizeOf4
 v4 := Tryz.zeroValue4
 t5 := Tryz.underlying5
 a5 := Tryz.isAgg5
 z5 := Tryz.sizeOf5
 v5 := Tryz.zeroValue5
 t9 := Tryz.underlying9
 a9 := Tryz.isAgg9
 z9 := Tryz.sizeOf9
 v9 := Tryz.zeroValue9
 t22 := Tryz.underlying62
 a22 := Tryz.isAgg62
 z22 := Tryz.sizeOf62
 v22 := Tryz.zeroValue62
 a24 := Tryz.isAgg56
 z24 := Tryz.sizeOf56
 t25 := Tryz.underlying89
 a25 := Tryz.isAgg89
 z25 := Tryz.sizeOf89
 v25 := Tryz.zeroValue89
 t39 := Tryz.underlying51
 a39 := Tryz.isAgg51
 z39 := Tryz.sizeOf51
 v39 := Tryz.zeroValue51
 t45 := Tryz.underlying137
 a45 := Tryz.isAgg137
 z45 := Tryz.sizeOf137
 v45 := Tryz.zeroValue137
 t46 := Tryz.underlying138
 a46 := Tryz.isAgg138
 z46 := Tryz.sizeOf138
 v46 := Tryz.zeroValue138
 t50 := Tryz.underlying142
 a50 := Tryz.isAgg142
 z50 := Tryz.sizeOf142
 v50 := Tryz.zeroValue142
 t53 := Tryz.underlying134
 a53 := Tryz.isAgg134
 z53 := Tryz.sizeOf134
 v53 := Tryz.zeroValue134
 t55 := Tryz.underlying146
 a55 := Tryz.isAgg146
 z55 := Tryz.sizeOf146
 v55 := Tryz.zeroValue146
 t66 := Tryz.underlying148
 a66 := Tryz.isAgg148
 z66 := Tryz.sizeOf148
 v66 := Tryz.zeroValue148
 t70 := Tryz.underlying152
 a70 := Tryz.isAgg152
 z70 := Tryz.sizeOf152
 v70 := Tryz.zeroValue152
 t76 := Tryz.underlying159
 a76 := Tryz.isAgg159
 z76 := Tryz.sizeOf159
 v76 := Tryz.zeroValue159
 t77 := Tryz.underlying160
 a77 := Tryz.isAgg160
 z77 := Tryz.sizeOf160
 v77 := Tryz.zeroValue160
end Go.Proofs
namespace Go.Proofs
open Go Go.Ev Go.Shelf Go.Lib Go.Sort
instance : Inhabited K16 := ⟨⟨0, by decide⟩⟩
def encK (x : K16) : Value := .int .u16 x.1
def cfK (x y : K16) : Int := m_cf x.1 y.1
theorem cf_calls (r : Mem) (x y : K16) : GrT Tryz.prog r 55 [encK x, encK y] (I (cfK x y)) := by
 refine GrT.of (SC_ok r) (tCf_ok r) .nil rfl ⟨4, 3, (keF r x.1 y.1).trans ?_⟩
 obtain ⟨x, h1, h2⟩ := x
 obtain ⟨y, h3, h4⟩ := y
 simp only [dT h1, dT h2, dT h3, dT h4, Bool.and_self, cond_true]
 unfold cfK m_cf
 simp only
 rw [show (Int.ofNat 0 : Int) = 0 from rfl]
 cases m_cp (m_sz x) (m_sz y) != 0
 ·simp only [cond_false]
  cases h : m_cp x y != 0
  ·simp only [cond_false]
   have : m_cp x y = 0 := by simpa using h
   rw [this]
   rfl
  ·rfl
 ·rfl
theorem cp_neg (x y : Int) : m_cp x y < 0 ↔ x < y := by
 unfold m_cp
 by_cases h : x < y
 ·simp [h]
 ·by_cases h2 : x > y <;> simp [h, h2]
theorem cp_zero (x y : Int) : (m_cp x y != 0) = false ↔ x = y := by
 unfold m_cp
 by_cases h : x < y
 ·simp [h]; omega
 ·by_cases h2 : x > y
  ·simp [h, h2]; omega
  ·simp [h, h2]; omega
theorem ltK (x y : K16) : ltOf cfK x y = decide (m_sz x.1 < m_sz y.1 ∨ (m_sz x.1 = m_sz y.1 ∧ x.1 < y.1)) := by
 unfold ltOf cfK m_cf
 cases h : m_cp (m_sz x.1) (m_sz y.1) != 0
 ·have := (cp_zero _ _).1 h
  simp only [cond_false, cp_neg, this]
  simp
 ·have : m_sz x.1 ≠ m_sz y.1 := fun e => by rw [(cp_zero _ _).2 e] at h; cases h
  simp only [cond_true, cp_neg]
  simp [this]
theorem swoK : SWO (ltOf cfK) where
 irrefl x := by rw [ltK]; simp
 trans x y z h1 h2 := by rw [ltK] at *; simp only [decide_eq_true_eq] at *; omega
 ntrans x y z h1 h2 := by rw [ltK] at *; simp only [decide_eq_false_iff_not] at *; omega
theorem totK (x y : K16) (h1 : ltOf cfK x y = false) (h2 : ltOf cfK y x = false) : x = y := by
 rw [ltK] at *
 simp only [decide_eq_false_iff_not] at *
 apply Subtype.ext
 omega
def insZ (x : Int) : List Int → List Int
 | [] => [x]
 | y :: l => bif decide (m_cf x y < 0) then x :: y :: l else y :: insZ x l
def sortZ : List Int → List Int
 | [] => []
 | x :: l => insZ x (sortZ l)
def insK (x : K16) : List K16 → List K16
 | [] => [x]
 | y :: l => bif ltOf cfK x y then x :: y :: l else y :: insK x l
def sortK : List K16 → List K16
 | [] => []
 | x :: l => insK x (sortK l)
theorem insK_val (x : K16) (l : List K16) : (insK x l).map (·.1) = insZ x.1 (l.map (·.1)) := by
 induction l with
 | nil => rfl
 | cons y l ih =>
  simp only [insK, List.map_cons, insZ]
  rw [show decide (m_cf x.1 y.1 < 0) = ltOf cfK x y from rfl]
  cases ltOf cfK x y
  ·simp only [cond_false, List.map_cons, ih]
  ·rfl
theorem sortK_val (l : List K16) : (sortK l).map (·.1) = sortZ (l.map (·.1)) := by
 induction l with
 | nil => rfl
 | cons x l ih => simp only [sortK, List.map_cons, sortZ, insK_val, ih]
theorem insK_perm (x : K16) (l : List K16) : (insK x l).Perm (x :: l) := by
 induction l with
 | nil => exact .refl _
 | cons y l ih =>
  simp only [insK]
  cases ltOf cfK x y
  ·exact (List.Perm.cons y ih).trans (.swap ..)
  ·exact .refl _
theorem sortK_perm (l : List K16) : (sortK l).Perm l := by
 induction l with
 | nil => exact .refl _
 | cons x l ih => exact (insK_perm x _).trans (.cons x ih)
theorem insK_sorted (x : K16) {l : List K16} (h : l.Pairwise fun a b => ltOf cfK b a = false) : (insK x l).Pairwise fun a b => ltOf cfK b a = false := by
 induction l with
 | nil => simp [insK]
 | cons y l ih =>
  simp only [insK]
  rw [List.pairwise_cons] at h
  cases hc : ltOf cfK x y with
  | true =>
   simp only [cond_true]
   have hyx : ltOf cfK y x = false := by
    rw [ltK] at *
    simp only [decide_eq_true_eq, decide_eq_false_iff_not] at *
    omega
   refine List.pairwise_cons.2 ⟨fun b hb => ?_, List.pairwise_cons.2 h⟩
   rcases List.mem_cons.1 hb with rfl | hb
   ·exact hyx
   ·have := h.1 b hb
    rw [ltK] at *
    simp only [decide_eq_true_eq, decide_eq_false_iff_not] at *
    omega
  | false =>
   simp only [cond_false]
   refine List.pairwise_cons.2 ⟨fun b hb => ?_, ih h.2⟩
   rcases List.mem_cons.1 ((insK_perm x l).mem_iff.1 hb) with rfl | hb
   ·exact hc
   ·exact h.1 b hb
theorem sortK_sorted (l : List K16) : (sortK l).Pairwise fun a b => ltOf cfK b a = false := by
 induction l with
 | nil => exact .nil
 | cons x l ih => exact insK_sorted x ih
theorem sortK_one {d l : List K16} (hp : d.Perm l) (hs : d.Pairwise fun a b => ltOf cfK b a = false) : d = sortK l :=
 (hp.trans (sortK_perm l).symm).eq_of_pairwise (fun a b _ _ h1 h2 => totK a b h2 h1) hs (sortK_sorted l)
theorem sort_entry (r : Mem) {A0 : AW} {i : Nat} {e : TypeId} {fam z : Nat} {zs l : List K16} (hi : A0.heap.get i = some (.cells (zs.map encK) e fam z)) (hsz : zs.length < 1000000) (hl : zs.Perm l) :
  EOk (SC r) 81 (entAt [.slice (some ⟨i, 0, none⟩) zs.length unk, cmpV] A0 (.tuple ⟨[]⟩) (A0.only fam i (.cells ((sortK l).map encK) e fam z))) := by
 refine entAt_ok fun F hF k γ W args' hw hR ha => ?_
 exact sort_gen Tryz.sortK encK (fun _ => rfl) (fun _ => rfl) 55 cfK swoK (fun args w => callFunc_ok (SC_ok r) (by kernel_rfl) args w) (cf_calls _) (C := SC r) rfl hi (by omega) (by decide) (fun d hp hs => sortK_one (hp.trans hl) hs) F hF k γ W args' hw hR ha
theorem rowK_enc (vis : List KT) : rowK vis = (vis.map (·.1)).map encK := by simp [rowK, encK]
theorem sorted_S {r : Mem} {e z clock : Nat} {q : List KT} (hq : KOk q clock) (hne : q ≠ []) : SOk (SC r) 53 [seqV, cmpV] (AK0 e z clock (q.map mkE)) fun v A' => v = .slice (some ⟨2, 0, none⟩) q.length unk ∧ A' = AR e z clock (q.map mkE) ((sortK (q.map (·.1))).map encK) := by
 obtain ⟨fn, h1, h2, h3, h4⟩ := fn_of (C := SC r) (f := 53) (by kernel_rfl)
 have hn : fn.ntmps = 12 := h3.trans (by kernel_rfl)
 rw [bodySC] at h2
 refine call_reachS (SC_ok r) h1 h2 51 (by rw [hn]; rfl) fun γ W F k hw hF hro => ?_
 rw [hn, h4]
 show Go.Ev.Reach (SC r) 51 12 F k γ W cSf _ _
 rw [show cSf = Code.seq (lc cSf) (.seq (lc (rc cSf)) (rc (rc cSf))) from by kernel_rfl]
 refine Go.Ev.Reach.seq (Go.Ev.Reach.seg (SC_ok r) TOk.nil (tm := .nil) (L := 1) (L' := 1) (d := 1) hF hro ((kdA ..).trans (qn_ok ?_)))
 refine Go.Ev.Reach.seq (Go.Ev.Reach.callP (SC_ok r) hF TOk.nil (tm := .nil) (L := 0) (d := 0) 1 ((kdB ..).trans (qn_ok rfl)) (kdJ ..) (collect_S (e := e) (z := z) hq hne) fun v A' ⟨vis, hv, h1, h2⟩ => ?_)
 subst h1 h2
 refine (kdC ..).trans (qn_ok ?_)
 have hlen : vis.length = q.length := hv.length_eq
 have hent := sort_entry r (A0 := AR e z clock (q.map mkE) (rowK vis)) (i := 2) (e := 56) (fam := 2) (z := 1) (zs := vis.map (·.1)) (l := q.map (·.1)) (by rw [← rowK_enc]; kernel_rfl) (by rw [List.length_map, hlen]; exact hq.few) (hv.map _)
 rw [List.length_map] at hent
 have hA1 : (AR e z clock (q.map mkE) (rowK vis)).only 2 2 (.cells ((sortK (q.map (·.1))).map encK) 56 2 1) = AR e z clock (q.map mkE) ((sortK (q.map (·.1))).map encK) := by kernel_rfl
 refine Go.Ev.Reach.seg (SC_ok r) (t := tSo vis.length (AR e z clock (q.map mkE) (rowK vis)) (AR e z clock (q.map mkE) ((sortK (q.map (·.1))).map encK))) (TOk.nil.cons (hA1 ▸ hent)) (tm := .nil) (L := 1) (L' := 1) (d := 1) hF hro ((kdD ..).trans ?_)
 rw [at_rfl, cond_true]
 refine qn_ok ⟨.inr rfl, _, slV vis.length, _, Ren.refl _, ?_, by rw [hlen], rfl⟩
 rw [← finK_finish]
 exact kdE ..
end Go.Proofs
namespace Go.Proofs
open Go Go.Ev
def sfArgs (args : List Value) (A : AW) : Option (List MapEntry × Nat) := match args with
 | [.func (.func f) ⟨[]⟩ ⟨[.pointer (some ⟨b, 0, none⟩)]⟩, .func (.func g) ⟨[]⟩ ⟨[]⟩] => match Nat.beq f 82 && Nat.beq g 55, A.heap.get b with
  | true, some (.cells [.map (some m)] _ fam _) => match A.members fam with
   | [b'] => match Nat.beq b' b, A.heap.get m with
    | true, some (.map es clock) => some (es, clock)
    | _, _ => none
   | _ => none
  | _, _ => none
 | _ => none
def keyZ (e : MapEntry) : Int := match e.key with
 | .int .u16 x => x
 | _ => 0
def okE (clock : Nat) (e : MapEntry) : Bool := match e.key, e.val with
 | .int .u16 x, .bool _ => decide (0 ≤ x) && decide (x < 65536) && Nat.blt e.born clock
 | _, _ => false
def freshB (n : Nat) : List MapEntry → Bool
 | [] => true
 | e :: l => (!Nat.beq e.born n) && freshB n l
def okEs (clock : Nat) : List MapEntry → Bool
 | [] => true
 | e :: l => okE clock e && freshB e.born l && okEs clock l
theorem okE_of {clock : Nat} {e : MapEntry} (h : okE clock e = true) : ∃ t : KT, e = mkE t ∧ t.2.2 < clock := by
 obtain ⟨k, v, n⟩ := e
 unfold okE at h
 split at h
 ·rename_i x b h1 h2
  simp only [Bool.and_eq_true, decide_eq_true_eq] at h
  simp only at h1 h2
  subst h1 h2
  exact ⟨(⟨x, h.1.1, h.1.2⟩, b, n), rfl, Nat.le_of_ble_eq_true h.2⟩
 ·cases h
theorem okEs_of {clock : Nat} : ∀ {es : List MapEntry}, okEs clock es = true → ∃ q : List KT, es = q.map mkE ∧ (∀ t ∈ q, t.2.2 < clock) ∧ (bornK q).Nodup
 | [], _ => ⟨[], rfl, fun _ h => (nomatch h), .nil⟩
 | e :: l, h => by
  simp only [okEs, Bool.and_eq_true] at h
  obtain ⟨⟨h1, h2⟩, h3⟩ := h
  obtain ⟨t, rfl, ht⟩ := okE_of h1
  obtain ⟨q, rfl, hq1, hq2⟩ := okEs_of h3
  refine ⟨t :: q, rfl, fun x hx => ?_, ?_⟩
  ·rcases List.mem_cons.1 hx with rfl | hx
   ·exact ht
   ·exact hq1 x hx
  ·unfold bornK at *
   rw [List.map_cons, List.nodup_cons]
   refine ⟨fun hm => ?_, hq2⟩
   obtain ⟨x, hx, hxe⟩ := List.mem_map.1 hm
   have key : ∀ (l : List KT), freshB t.2.2 (l.map mkE) = true → ∀ x ∈ l, x.2.2 ≠ t.2.2 := by
    intro l
    induction l with
    | nil => intro _ x hx; cases hx
    | cons y l ih =>
     intro h x hx
     simp only [List.map_cons, freshB, Bool.and_eq_true] at h
     rcases List.mem_cons.1 hx with rfl | hx
     ·intro he
      have h1 := h.1
      rw [show (mkE x).born = x.2.2 from rfl, he, show Nat.beq t.2.2 t.2.2 = true from Nat.beq_refl _] at h1
      cases h1
     ·exact ih h.2 x hx
   exact key q h2 x hx hxe
def emptyL : List MapEntry → Bool
 | [] => true
 | _ => false
def eSF : Ent := ⟨fun args A => match sfArgs args A with
  | some (es, clock) => !emptyL es && Nat.blt es.length 1000000 && okEs clock es
  | none => false, fun _ _ => true,
 fun args A => match sfArgs args A with
  | some (es, _) => .slice (some ⟨A.next, 0, none⟩) es.length unk
  | none => undef,
 fun args A => match sfArgs args A with
  | some (es, _) => A.new (.cells ((sortZ (es.map keyZ)).map fun x => .int .u16 x) 56 A.next 1)
  | none => A, fun _ _ => undef, fun _ A => A⟩
theorem eSF_ok (r : Mem) : EOk (SC r) 53 eSF := fun args A hg F hF k γ W args' hw hR ha => by
 refine ⟨fun _ => ?_, fun h => nomatch h⟩
 simp only [eSF] at hg ⊢
 cases hs : sfArgs args A with
 | none => rw [hs] at hg; cases hg
 | some p =>
  obtain ⟨es, clock⟩ := p
  rw [hs] at hg
  simp only [Bool.and_eq_true] at hg ⊢
  obtain ⟨⟨hne, hfew⟩, hok⟩ := hg
  obtain ⟨q, rfl, hq1, hq2⟩ := okEs_of hok
  have hfew' : q.length < 1000000 := by
   have := Nat.le_of_ble_eq_true hfew
   simp at this
   omega
  have hqn : q ≠ [] := fun h => by subst h; cases hne
  unfold sfArgs at hs
  split at hs
  ·rename_i f b g
   split at hs
   ·rename_i m e fam z hfg hbx
    split at hs
    ·rename_i b' hmem
     split at hs
     ·rename_i es' clock' hbb hmm
      cases hs
      simp only [Bool.and_eq_true] at hfg
      have e1 := Nat.eq_of_beq_eq_true hfg.1
      have e2 := Nat.eq_of_beq_eq_true hfg.2
      have e3 := Nat.eq_of_beq_eq_true hbb
      subst e1 e2 e3
      have hsorted := sorted_S (r := r) (e := e) (z := z) ⟨hq1, hq2, hfew'⟩ hqn
      have hks : ((sortZ ((q.map mkE).map keyZ)).map fun x => Value.int .u16 x) = (sortK (q.map (·.1))).map encK := by
       have h1 : (q.map mkE).map keyZ = (q.map (·.1)).map (·.1) := by simp [mkE, keyZ]
       rw [h1, ← sortK_val, List.map_map]
       rfl
      have hgs := ksG q
      have hw2 := WRel.pair hw hbx hmm hgs
      have hcall := hsorted F hF k (g2 γ b' m) W args' hw2 (Ro.pair hR b' m) ?_
      ·refine hcall.mono fun x W' ⟨v, A', hS, he⟩ => ?_
       obtain ⟨rfl, rfl⟩ := hS
       rw [hks, List.length_map]
       exact Ends.pair hw hbx hmm hmem hgs (fun v hv => by obtain ⟨y, _, rfl⟩ := List.mem_map.1 hv; rfl) rfl rfl rfl he
      ·obtain ⟨la⟩ := args'
       cases ha with
       | cons h1 h2 =>
       cases h2 with
       | cons h2 h3 =>
       cases h3
       refine .cons ?_ (.cons ?_ .nil)
       ·cases h1 with
        | func p1 p2 p3 =>
         rename_i f' a' c'
         obtain ⟨a'⟩ := a'
         obtain ⟨c'⟩ := c'
         cases p1
         cases p2
         cases p3 with
         | cons k1 k2 =>
          cases k2
          cases k1 with
          | ptr k hg1 => exact .func (.func _) .nil (.cons (.ptr _ (show g2 γ b' m 0 = _ from hg1)) .nil)
       ·cases h2 with
        | func p1 p2 p3 =>
         rename_i f' a' c'
         obtain ⟨a'⟩ := a'
         obtain ⟨c'⟩ := c'
         cases p1
         cases p2
         cases p3
         exact .func (.func _) .nil .nil
     ·cases hs
    ·cases hs
   ·cases hs
  ·cases hs
end Go.Proofs
namespace Go.Proofs
open Go Go.Ev Go.Num
def szK (s : Nat) : Nat → Nat
 | 0 => 0
 | k + 1 => szK s k + s / 2 ^ k % 2
def szN (s : Nat) : Nat := szK s 12
theorem sz_all : ∀ (h : Fin 16) (l : Fin 256), ones 8 h.val + ones 8 l.val = szN (256 * h.val + l.val) := by decide +kernel
theorem msz_eq {s : Nat} (h : s < 4096) : m_sz (s : Int) = (szN s : Int) := by
 have h1 := sz_all ⟨s / 256, by omega⟩ ⟨s % 256, by omega⟩
 simp only at h1
 rw [show 256 * (s / 256) + s % 256 = s by omega] at h1
 unfold m_sz
 rw [Int.toNat_natCast, h1]
 rfl
theorem szK_more {s k : Nat} (h : s / 2 ^ k = 0) : ∀ d, szK s (k + d) = szK s k
 | 0 => rfl
 | d + 1 => by
  have e : s / 2 ^ (k + d) = 0 := by rw [Nat.pow_add, ← Nat.div_div_eq_div_mul, h, Nat.zero_div]
  rw [← Nat.add_assoc, szK, szK_more h d, e]
  rfl
theorem szK_end {s k : Nat} (hs : s < 4096) (hk : k ≤ 12) (h : s / 2 ^ k = 0) : szK s k = szN s := by
 have := szK_more h (12 - k)
 rw [show k + (12 - k) = 12 by omega] at this
 exact this.symm
theorem szK_le (s : Nat) : ∀ k, szK s k ≤ k
 | 0 => Nat.le_refl _
 | k + 1 => by have := szK_le s k; rw [szK]; omega
def ltS (a b : Nat) : Bool := decide (szN a < szN b ∨ (szN a = szN b ∧ a < b))
theorem ltS_irr (a : Nat) : ltS a a = false := by unfold ltS; simp
theorem ltS_tr {a b c : Nat} (h1 : ltS a b = true) (h2 : ltS b c = true) : ltS a c = true := by
 unfold ltS at *
 simp only [decide_eq_true_eq] at *
 omega
theorem ltS_tot {a b : Nat} (h1 : ltS a b = false) (h2 : ltS b a = false) : a = b := by
 unfold ltS at *
 simp only [decide_eq_false_iff_not] at *
 omega
theorem ltS_as {a b : Nat} (h1 : ltS a b = true) : ltS b a = false := by
 unfold ltS at *
 simp only [decide_eq_false_iff_not, decide_eq_true_eq] at *
 omega
def insU (s : Nat) : List Nat → List Nat
 | [] => [s]
 | y :: l => bif ltS y s then y :: insU s l else bif Nat.beq y s then y :: l else s :: y :: l
theorem insU_mem {s x : Nat} : ∀ {l : List Nat}, x ∈ insU s l ↔ x = s ∨ x ∈ l
 | [] => by simp [insU]
 | y :: l => by
  have ih := insU_mem (s := s) (x := x) (l := l)
  rw [insU]
  cases h : ltS y s with
  | true => simp only [cond_true, List.mem_cons, ih]; exact ⟨fun h => by rcases h with h | h | h <;> simp [h], fun h => by rcases h with h | h | h <;> simp [h]⟩
  | false =>
   cases h2 : Nat.beq y s with
   | true =>
    have := Nat.eq_of_beq_eq_true h2
    subst this
    simp
   | false => simp
theorem insU_sorted {s : Nat} : ∀ {l : List Nat}, (l.Pairwise fun a b => ltS a b = true) → (insU s l).Pairwise fun a b => ltS a b = true
 | [], _ => by simp [insU]
 | y :: l, h => by
  rw [List.pairwise_cons] at h
  rw [insU]
  cases c : ltS y s with
  | true =>
   simp only [cond_true]
   refine List.pairwise_cons.2 ⟨fun b hb => ?_, insU_sorted h.2⟩
   rcases insU_mem.1 hb with rfl | hb
   ·exact c
   ·exact h.1 b hb
  | false =>
   cases c2 : Nat.beq y s with
   | true => exact List.pairwise_cons.2 h
   | false =>
    have hne : y ≠ s := fun e => by rw [e, Nat.beq_refl] at c2; cases c2
    have hsy : ltS s y = true := by
     cases q : ltS s y with
     | true => rfl
     | false => exact absurd (ltS_tot c q) hne
    refine List.pairwise_cons.2 ⟨fun b hb => ?_, List.pairwise_cons.2 h⟩
    rcases List.mem_cons.1 hb with rfl | hb
    ·exact hsy
    ·exact ltS_tr hsy (h.1 b hb)
def rsN (w : Nat → Nat) : Nat → List Nat
 | 0 => []
 | k + 1 => insU (w k) (rsN w k)
theorem rsN_mem {w : Nat → Nat} {x : Nat} : ∀ {n : Nat}, x ∈ rsN w n ↔ ∃ k, k < n ∧ w k = x
 | 0 => ⟨fun h => (nomatch h), fun ⟨_, h, _⟩ => absurd h (by omega)⟩
 | n + 1 => by
  rw [rsN, insU_mem, rsN_mem (n := n)]
  exact ⟨fun h => by
   rcases h with rfl | ⟨k, h1, h2⟩
   ·exact ⟨n, by omega, rfl⟩
   ·exact ⟨k, by omega, h2⟩, fun ⟨k, h1, h2⟩ => by
   by_cases c : k = n
   ·subst c; exact .inl h2.symm
   ·exact .inr ⟨k, by omega, h2⟩⟩
theorem rsN_sorted (w : Nat → Nat) : ∀ n, (rsN w n).Pairwise fun a b => ltS a b = true
 | 0 => .nil
 | n + 1 => insU_sorted (rsN_sorted w n)
theorem rsN_nodup (w : Nat → Nat) (n : Nat) : (rsN w n).Nodup :=
 (rsN_sorted w n).imp fun {a b} h e => by subst e; rw [ltS_irr] at h; cases h
def seL (w : Nat → Nat) : Nat → List Nat
 | 0 => []
 | k + 1 => bif (seL w k).contains (w k) then seL w k else seL w k ++ [w k]
theorem seL_mem {w : Nat → Nat} {x : Nat} : ∀ {n : Nat}, x ∈ seL w n ↔ ∃ k, k < n ∧ w k = x
 | 0 => ⟨fun h => (nomatch h), fun ⟨_, h, _⟩ => absurd h (by omega)⟩
 | n + 1 => by
  have ih := seL_mem (w := w) (x := x) (n := n)
  have step : x ∈ seL w (n + 1) ↔ x ∈ seL w n ∨ x = w n := by
   rw [seL]
   cases c : (seL w n).contains (w n) with
   | true =>
    have hm : w n ∈ seL w n := by simpa using c
    exact ⟨.inl, fun h => h.elim id fun e => e ▸ hm⟩
   | false => simp
  rw [step, ih]
  exact ⟨fun h => by
   rcases h with ⟨k, h1, h2⟩ | rfl
   ·exact ⟨k, by omega, h2⟩
   ·exact ⟨n, by omega, rfl⟩, fun ⟨k, h1, h2⟩ => by
   by_cases c : k = n
   ·subst c; exact .inr h2.symm
   ·exact .inl ⟨k, by omega, h2⟩⟩
theorem seL_nodup (w : Nat → Nat) : ∀ n, (seL w n).Nodup
 | 0 => .nil
 | n + 1 => by
  rw [seL]
  cases c : (seL w n).contains (w n) with
  | true => exact seL_nodup w n
  | false =>
   have hm : ¬ w n ∈ seL w n := fun h => by simp [h] at c
   exact List.nodup_append.2 ⟨seL_nodup w n, by simp, fun a ha b hb => by
    rw [List.mem_singleton] at hb
    subst hb
    exact fun e => hm (e ▸ ha)⟩
theorem seL_len (w : Nat → Nat) : ∀ n, (seL w n).length ≤ n
 | 0 => Nat.le_refl _
 | n + 1 => by
  have := seL_len w n
  rw [seL]
  cases (seL w n).contains (w n) <;> simp <;> omega
theorem rs_perm (w : Nat → Nat) (n : Nat) : (rsN w n).Perm (seL w n) :=
 (List.perm_ext_iff_of_nodup (rsN_nodup w n) (seL_nodup w n)).2 fun a => by rw [rsN_mem, seL_mem]
def toK (x : Nat) : K16 := if h : x < 65536 then ⟨(x : Int), by omega, by omega⟩ else ⟨0, by decide⟩
theorem toK_val {x : Nat} (h : x < 65536) : (toK x).1 = (x : Int) := by unfold toK; rw [dif_pos h]
theorem rs_sort {w : Nat → Nat} (hw : ∀ j, w j < 4096) (n : Nat) : sortZ ((seL w n).map fun x : Nat => (x : Int)) = (rsN w n).map fun x : Nat => (x : Int) := by
 have hv : ∀ l : List Nat, (∀ x ∈ l, x < 65536) → (l.map toK).map (·.1) = l.map fun x : Nat => (x : Int) := fun l h => by
  rw [List.map_map]
  exact List.map_congr_left fun x hx => toK_val (h x hx)
 have h1 : ∀ x ∈ seL w n, x < 4096 := fun x hx => by obtain ⟨k, _, rfl⟩ := seL_mem.1 hx; exact hw k
 have h2 : ∀ x ∈ rsN w n, x < 4096 := fun x hx => by obtain ⟨k, _, rfl⟩ := rsN_mem.1 hx; exact hw k
 rw [← hv _ fun x hx => by have := h1 x hx; omega, ← sortK_val, ← hv _ fun x hx => by have := h2 x hx; omega]
 refine congrArg _ (sortK_one ((rs_perm w n).map toK) ?_).symm
 rw [List.pairwise_map]
 have h0 : ∀ {a b : Nat}, [a, b].Sublist (rsN w n) → ltS a b = true := fun h => List.pairwise_iff_forall_sublist.1 (rsN_sorted w n) h
 refine List.pairwise_iff_forall_sublist.2 fun {a b} hab => ?_
 have hl := h0 hab
 have ha := h2 a (hab.subset (by simp))
 have hb := h2 b (hab.subset (by simp))
 rw [ltK, toK_val (by omega), toK_val (by omega), msz_eq ha, msz_eq hb]
 have h3 := ltS_as hl
 unfold ltS at h3
 simp only [decide_eq_false_iff_not] at h3 ⊢
 omega
end Go.Proofs
namespace Go.Proofs
open Go Go.Ev
def enT : List Nat → Nat → List MapEntry
 | [], _ => []
 | x :: l, b => { key := .int .u16 (x : Int), val := .bool true, born := b } :: enT l (b + 1)
theorem enT_len : ∀ (l : List Nat) (b : Nat), (enT l b).length = l.length
 | [], _ => rfl
 | _ :: l, b => by simp [enT, enT_len l]
theorem enT_app (z : Nat) : ∀ (l : List Nat) (b : Nat), enT (l ++ [z]) b = enT l b ++ [{ key := .int .u16 (z : Int), val := .bool true, born := b + l.length }]
 | [], b => by simp [enT]
 | x :: l, b => by
  simp only [List.cons_append, enT, enT_app z l (b + 1), List.length_cons]
  rw [show b + 1 + l.length = b + (l.length + 1) by omega]
theorem enT_keys : ∀ (l : List Nat) (b : Nat), keysG (enT l b) = true
 | [], _ => rfl
 | x :: l, b => by
  simp only [enT, keysG, show gnd (Value.int .u16 (x : Int)) = true from rfl, enT_keys l]
theorem enT_gnd : ∀ (l : List Nat) (b : Nat), m_gndes (enT l b) = true
 | [], _ => rfl
 | x :: l, b => by
  have ih := enT_gnd l (b + 1)
  unfold m_gndes at ih ⊢
  simp only [enT, List.all_cons, ih, show gnd (Value.int .u16 (x : Int)) = true from rfl, show gnd (Value.bool true) = true from rfl, Bool.and_self]
theorem enT_get : ∀ (l : List Nat) (b i : Nat) (h : i < l.length), (enT l b)[i]? = some { key := .int .u16 (l[i] : Nat), val := .bool true, born := b + i }
 | x :: l, b, 0, _ => rfl
 | x :: l, b, i + 1, h => by
  have := enT_get l (b + 1) i (by simpa using h)
  simp only [enT, List.getElem?_cons_succ, this, List.getElem_cons_succ]
  rw [show b + 1 + i = b + (i + 1) by omega]
theorem find_en (z : Nat) : ∀ (l : List Nat) (b i : Nat), Instr.findNow (.int .u16) (.int .u16 (z : Int)) (enT l b) i = some (bif l.contains z then some (i + l.idxOf z, .bool true) else none)
 | [], _, _ => rfl
 | x :: l, b, i => by
  have ih := find_en z l (b + 1) (i + 1)
  simp only [enT, Instr.findNow, Instr.sameNow, if_true]
  by_cases c : z = x
  ·subst c
   simp
  ·have h1 : ((z : Int) == (x : Int)) = false := eqF (by omega)
   have h2 : (x == z) = false := by simpa using fun e : x = z => c e.symm
   have h3 : (z == x) = false := by simpa using c
   simp only [h1, ih, List.contains_cons, h3, Bool.false_or, List.idxOf_cons, h2, cond_false]
   rw [show i + 1 + l.idxOf z = i + (l.idxOf z + 1) by omega]
theorem check_int {P : Program} {kt : Nat} (hU : plain? P (underlying kt) = some (.int .u16)) (em : Bool) (n : Nat) (z : Int) : plain? P (Instr.checkKey em (n + 1) kt (.int .u16 z)) = some () := by
 simp only [Instr.checkKey, plain_bind, hU, Option.bind_some, plain_pure]
theorem mapR_en {P : Program} {kt : Nat} (hU : plain? P (underlying kt) = some (.int .u16)) (em : Bool) (l : List Nat) (z : Nat) : mapR P em kt (enT l 0) (.int .u16 (z : Int)) = some (bif l.contains z then some (l.idxOf z, .bool true) else none) := by
 have h1 := check_int hU em 9999 (z : Int)
 have h2 : plain? P (Instr.findKey kt (.int .u16 (z : Int)) (enT l 0)) = some (bif l.contains z then some (l.idxOf z, .bool true) else none) := by
  simp only [Instr.findKey, plain_bind, hU, Option.bind_some, find_en, plain_pure, Nat.zero_add]
 unfold mapR
 simp only [enT_keys, show gnd (Value.int .u16 (z : Int)) = true from rfl, h2]
 rw [show Instr.checkKey em 10000 kt (.int .u16 (z : Int)) = Instr.checkKey em (9999 + 1) kt (.int .u16 (z : Int)) from rfl, h1]
theorem idx_lt {l : List Nat} {z : Nat} (h : l.contains z = true) : ∃ h : l.idxOf z < l.length, l[l.idxOf z] = z := by
 have hm : z ∈ l := by simpa using h
 exact ⟨List.idxOf_lt_length_of_mem hm, List.getElem_idxOf _⟩
theorem putG_en {P : Program} {kt : Nat} (hU : plain? P (underlying kt) = some (.int .u16)) (l : List Nat) (z : Nat) : m_putG P kt (enT l 0) (.int .u16 (z : Int)) = true := by
 unfold m_putG
 rw [mapR_en hU]
 cases h : l.contains z with
 | true =>
  obtain ⟨h1, h2⟩ := idx_lt h
  simp only [cond_true]
  rw [enT_get l 0 _ h1]
  simp only [h2]
  simp [Instr.sameBits]
 | false => rfl
theorem setE_en : ∀ (l : List Nat) (b i : Nat) (h : i < l.length), setE (.int .u16 (l[i] : Nat)) (.bool true) (enT l b) i = enT l b
 | x :: l, b, 0, _ => rfl
 | x :: l, b, i + 1, h => by
  have := setE_en l (b + 1) i (by simpa using h)
  unfold setE at this ⊢
  simp only [enT, List.modify_succ_cons, List.getElem_cons_succ, this]
theorem put_en {P : Program} {kt : Nat} (hU : plain? P (underlying kt) = some (.int .u16)) (l : List Nat) (z : Nat) : m_put P kt (enT l 0) (.int .u16 (z : Int)) (.bool true) l.length = enT (bif l.contains z then l else l ++ [z]) 0 := by
 unfold m_put
 rw [mapR_en hU]
 cases h : l.contains z with
 | true =>
  obtain ⟨h1, h2⟩ := idx_lt h
  simp only [cond_true]
  have := setE_en l 0 _ h1
  rw [h2] at this
  exact this
 | false =>
  simp only [cond_false]
  rw [enT_app, Nat.zero_add]
theorem clk_en {P : Program} {kt : Nat} (hU : plain? P (underlying kt) = some (.int .u16)) (l : List Nat) (z : Nat) : m_clk P kt (enT l 0) (.int .u16 (z : Int)) l.length = (bif l.contains z then l else l ++ [z]).length := by
 unfold m_clk
 rw [mapR_en hU]
 cases h : l.contains z with
 | true => rfl
 | false => simp
end Go.Proofs
namespace Go.Proofs
open Go Go.Ev Go.Num
noncomputable def cSt : Code := bodyOf S0 32
noncomputable def St_0 : Code := (lc cSt)
noncomputable def St_1 : Code := (lc (rc cSt))
noncomputable def St_2 : Code := (lc (lc (rc (rc cSt))))
noncomputable def St_3 : Code := (ic (ic (rc (lc (rc (rc cSt))))))
noncomputable def St_4 : Code := (rc (rc (rc cSt)))
theorem St_eq : cSt = (.seq St_0 (.seq St_1 (.seq (.seq St_2 (.block 0 (.loop St_3))) St_4))) := by kernel_rfl
noncomputable def cIs : Code := bodyOf S0 76
noncomputable def Is_0 : Code := (lc cIs)
noncomputable def Is_1 : Code := (lc (lc (rc cIs)))
noncomputable def Is_2 : Code := (ic (ic (rc (lc (rc cIs)))))
noncomputable def Is_3 : Code := (rc (rc cIs))
theorem Is_eq : cIs = (.seq Is_0 (.seq (.seq Is_1 (.block 0 (.loop Is_2))) Is_3)) := by kernel_rfl
noncomputable def cLf : Code := bodyOf S0 47
noncomputable def Lf_0 : Code := (lc cLf)
noncomputable def Lf_1 : Code := (lc (rc cLf))
noncomputable def Lf_2 : Code := (lc (rc (rc cLf)))
noncomputable def Lf_3 : Code := (lc (lc (rc (rc (rc cLf)))))
noncomputable def Lf_4 : Code := (ic (ic (rc (lc (rc (rc (rc cLf)))))))
noncomputable def Lf_5 : Code := (rc (rc (rc (rc cLf))))
theorem Lf_eq : cLf = (.seq Lf_0 (.seq Lf_1 (.seq Lf_2 (.seq (.seq Lf_3 (.block 0 (.loop Lf_4))) Lf_5)))) := by kernel_rfl
def oSs (c : List Value) (i : Nat) : Option AObj := some (.cells c 56 i 1)
def oI1 (c : List Value) (i : Nat) : Option AObj := some (.cells c 3 i 1)
def oMp (es : List MapEntry) (clock : Nat) : Option AObj := some (.map es clock)
def lvSt : List Nat := [1, 3, 7, 8]
def vSt (n k : Nat) : OV := [some (pq 0), some (.map (some 1)), some (I (n : Nat)), some (I (k : Nat))]
noncomputable def m_sfE (l : List Nat) (es : List MapEntry) (clock : Nat) : Bool := @decide (es = enT l 0 ∧ clock = l.length) (Classical.propDecidable _)
noncomputable def eSFs (l : List Nat) (k : Nat) (c : List Value) : Ent := ⟨fun args A => match sfArgs args A with
  | some (es, clock) => m_sfE l es clock
  | none => false, fun _ _ => true, fun _ A => .slice (some ⟨A.next, 0, none⟩) k unk, fun _ A => A.new (.cells c 56 A.next 1), fun _ _ => undef, fun _ A => A⟩
noncomputable def tSs (l : List Nat) (k : Nat) (c : List Value) : Tbl := tcons 53 (eSFs l k c) fun _ => none
abbrev gx (i k : Nat) : Value := .slice (some ⟨i, 0, none⟩) k unk
abbrev gy (i k : Nat) : Value := .slice (some ⟨i, 0, none⟩) k k
def lvIs : List Nat := [0, 1, 7, 8]
def vIs (b off n cap : Nat) (z : Int) (k : Nat) : OV := [some (RS b off n cap), some (V z), some (I (n : Nat)), some (I (k : Nat))]
noncomputable def eNw (a0 : List Value) (e k : Nat) (c : List Value) : Ent := ⟨fun args _ => m_svv args a0, fun _ _ => true, fun _ A => .slice (some ⟨A.next, 0, none⟩) k unk, fun _ A => A.new (.cells c e A.next 1), fun _ _ => undef, fun _ A => A⟩
noncomputable def eNy (a0 : List Value) (e k : Nat) (c : List Value) : Ent := ⟨fun args _ => m_svv args a0, fun _ _ => true, fun _ A => .slice (some ⟨A.next, 0, none⟩) k k, fun _ A => A.new (.cells c e A.next 1), fun _ _ => undef, fun _ A => A⟩
noncomputable def m_ig (k : Nat) (c : List Value) (l z : Nat) (ci : List Value) : Bool := @decide (l = k ∧ z ≠ unkE ∧ ci = c) (Classical.propDecidable _)
def m_ix (L : List Nat) (x : Int) : Int := (L.idxOf x.toNat : Nat)
def m_in (L : List Nat) (x : Int) : Bool := decide (0 ≤ x) && L.contains x.toNat
noncomputable def eIs (L : List Nat) (c : List Value) : Ent := ent (fun args A => match args with
 | [.slice (some ⟨j, 0, none⟩) l z, .int .u16 x] => match A.heap.get j with
  | some (.cells ci _ _ _) => m_ig L.length c l z ci && m_in L x
  | _ => false
 | _ => false) fun args _ => match args with
 | [_, .int .u16 x] => I (m_ix L x)
 | _ => undef
noncomputable def tLfA (m : Nat) (w a : Nat → Nat) (k : Nat) (c : List Value) : Tbl := tcons 32 (eNw [.agg ⟨orC m w a⟩] 56 k c) fun _ => none
noncomputable def tLfB (L : List Nat) (c : List Value) : Tbl := tcons 76 (eIs L c) fun _ => none
def lvLf : List Nat := [1, 3, 4, 12, 13]
def vLf (n q k : Nat) : OV := [some (pq 0), some (gx 1 q), some (gy 2 n), some (I (n : Nat)), some (I (k : Nat))]
theorem stA (r : Mem) (m : Nat) (w a : Nat → Nat) (fs : FnsC) (K : KO) (kx : Nat → KS) (kr : KS) : run (SC r) 415 20 1 (.seq St_0 (.seq St_1 St_2)) fs none (rbK 0 lvSt [] K) kx kr (sc0 415 [.agg ⟨orC m w a⟩]) (tr0 415 [.agg ⟨orC m w a⟩]) [] emptyA =
    K [some (pq 0), some (Value.map (some 1)), some (I (Int.ofNat m)), some (I (Int.ofNat 0))] [] [some (.cells (orC m w a) 59 0 0), some (AObj.map [] 0)] := by kernel_rfl
theorem stB (r : Mem) (m : Nat) (w a : Nat → Nat) (k : Nat) (es : List MapEntry) (clock : Nat) (fs : FnsC) (K : KO) (KX : Nat → KO) (kr : KS) : run (SC r) 415 20 1 St_3 fs none (rbK 0 lvSt [] K) (fun j => rbK 0 [3] [] (KX j)) kr [] (bT lvSt (vSt m k) .nil) [] (mkA [oOr (orC m w a) 0, oMp es clock]) =
    bif decide (Int.ofNat k < Int.ofNat m) then bif Nat.blt (Int.toNat (Int.ofNat k)) 12 then Option.casesOn (orC m w a)[Nat.add 1 (Nat.mul (Int.toNat (Int.ofNat k)) 1)]? (.fail 423) fun val => bif isI IntKind.u16 val then bif m_putG (Cfg.P (SC r)) 56 es (.int .u16 (ofI val)) then bif m_nns (orC m w a) && (m_gndes (m_put (Cfg.P (SC r)) 56 es (.int .u16 (ofI val)) (.bool true) clock) && true) then K [some (pq 0), some (Value.map (some 1)), some (I (Int.ofNat m)), some (I (IntKind.wrap .i64 (Int.ofNat k + Int.ofNat 1)))] [] [some (.cells (orC m w a) 59 0 0), some (AObj.map (m_put (Cfg.P (SC r)) 56 es (.int .u16 (ofI val)) (.bool true) clock) (m_clk (Cfg.P (SC r)) 56 es (.int .u16 (ofI val)) clock))] else F4 else F4 else F4 else F4 else bif m_gndes es && true then KX 0 [some (Value.map (some 0))] [] [some (AObj.map es clock)] else F4 := by kernel_rfl
theorem stC (r : Mem) (es : List MapEntry) (clock : Nat) (l : List Nat) (k : Nat) (c : List Value) (K KR : KO) (kx : Nat → KS) : run (SC r) 415 20 1 St_4 (lvlT (SC r) (tSs l k c) .nil 1 3) none (rbK 0 [2] [] K) kx (rbK 0 [2] [] KR) [] (bT [3] [some (.map (some 0))] .nil) [] (mkA [oMp es clock]) =
    bif m_sfE l es clock then bif m_nns c && true then KR [some (gx 0 k)] [] [some (.cells c 56 0 1)] else F4 else F4 := by kernel_rfl
theorem isA (r : Mem) (b off n cap : Nat) (z : Int) (fs : FnsC) (K : KO) (kx : Nat → KS) (kr : KS) : run (SC r) 435 19 1 (.seq Is_0 Is_1) fs none (rbK 0 lvIs [] K) kx kr (sc0 435 [RS b off n cap, V z]) (tr0 435 [RS b off n cap, V z]) [] emptyA =
    K [some (RS b off n cap), some (.int .u16 z), some (I (Int.ofNat n)), some (I (Int.ofNat 0))] [] [] := by kernel_rfl
theorem isB (r : Mem) (b off n cap : Nat) (z : Int) (k : Nat) (fs : FnsC) (K : KO) (KX : Nat → KO) (KR : KO) : run (SC r) 435 19 1 Is_2 fs none (rbK 0 lvIs [] K) (fun j => rbK 0 [] [] (KX j)) (rbK 0 [4] [] KR) [] (bT lvIs (vIs b off n cap z k) .nil) [] (mkA []) =
    bif decide (Int.ofNat k < Int.ofNat n) then bif Nat.blt (Int.toNat (Int.ofNat k)) n then Option.casesOn (r b (Nat.add off (Nat.mul (Int.toNat (Int.ofNat k)) 1))) (.fail 423) fun val => bif isI IntKind.u16 val then bif z == ofI val then KR [some (I (Int.ofNat k))] [] [] else K [some (RS b off n cap), some (.int .u16 z), some (I (Int.ofNat n)), some (I (IntKind.wrap .i64 (Int.ofNat k + Int.ofNat 1)))] [] [] else F4 else F4 else KX 0 [] [] [] := by kernel_rfl
theorem lfA (r : Mem) (m : Nat) (w a : Nat → Nat) (q : Nat) (c : List Value) (K : KO) (kx : Nat → KS) (kr : KS) : run (SC r) 12351 27 1 (.seq Lf_0 (.seq Lf_1 (.seq Lf_2 Lf_3))) (lvlT (SC r) (tLfA m w a q c) .nil 1 1) none (rbK 0 lvLf [] K) kx kr (sc0 12351 [.agg ⟨orC m w a⟩]) (tr0 12351 [.agg ⟨orC m w a⟩]) [] emptyA =
    bif m_svv [.agg ⟨(orC m w a)⟩] [.agg ⟨(orC m w a)⟩] then bif Nat.ble (Int.toNat (Int.ofNat m)) (Int.toNat (Int.ofNat m)) then bif Nat.ble (Int.toNat (Int.ofNat m)) 1000000 then bif m_nns (orC m w a) && (m_nns c && (m_nns (zerosL (Nat.mul (Int.toNat (Int.ofNat m)) 1) [I (Int.ofNat 0)]) && true)) then K [some (pq 0), some (gx 1 q), some (.slice (some ⟨2, 0, none⟩) (Int.toNat (Int.ofNat m)) (Int.toNat (Int.ofNat m))), some (I (Int.ofNat (Int.toNat (Int.ofNat m)))), some (I (Int.ofNat 0))] [] [some (.cells (orC m w a) 59 0 0), some (.cells c 56 1 1), some (.cells (zerosL (Nat.mul (Int.toNat (Int.ofNat m)) 1) [I (Int.ofNat 0)]) 3 2 1)] else F4 else F4 else F4 else F4 := by kernel_rfl
theorem lfB (r : Mem) (m : Nat) (w a : Nat → Nat) (L : List Nat) (q k : Nat) (c d : List Value) (K : KO) (KX : Nat → KO) (kr : KS) : run (SC r) 12351 27 1 Lf_4 (lvlT (SC r) (tLfB L c) .nil 1 1) none (rbK 0 lvLf [] K) (fun j => rbK 0 [4] [] (KX j)) kr [] (bT lvLf (vLf m q k) .nil) [] (mkA [oOr (orC m w a) 0, oSs c 1, oI1 d 2]) =
    bif decide (Int.ofNat k < Int.ofNat m) then bif Nat.blt (Int.toNat (Int.ofNat k)) 12 then Option.casesOn (orC m w a)[Nat.add 1 (Nat.mul (Int.toNat (Int.ofNat k)) 1)]? (.fail 423) fun val => bif isI IntKind.u16 val then bif m_ig (List.length L) c q unk c && m_in L (ofI val) then bif Nat.blt (Int.toNat (Int.ofNat k)) m then bif Nat.blt (Nat.add 0 (Nat.mul (Int.toNat (Int.ofNat k)) 1)) (List.length d) then bif m_nns (orC m w a) && (m_nns c && (m_nns (List.set d (Nat.add 0 (Nat.mul (Int.toNat (Int.ofNat k)) 1)) (I (m_ix L (ofI val)))) && true)) then K [some (pq 0), some (gx 1 q), some (gy 2 m), some (I (Int.ofNat m)), some (I (IntKind.wrap .i64 (Int.ofNat k + Int.ofNat 1)))] [] [some (.cells (orC m w a) 59 0 0), some (.cells c 56 1 1), some (.cells (List.set d (Nat.add 0 (Nat.mul (Int.toNat (Int.ofNat k)) 1)) (I (m_ix L (ofI val)))) 3 2 1)] else F4 else F4 else F4 else F4 else F4 else F4 else bif m_nns d && true then KX 0 [some (gy 0 m)] [] [some (.cells d 3 0 1)] else F4 := by kernel_rfl
theorem lfC (r : Mem) (n : Nat) (d : List Value) (fs : FnsC) (K KR : KO) (kx : Nat → KS) : run (SC r) 12351 27 1 Lf_5 fs none (rbK 0 [2] [] K) kx (rbK 0 [2] [] KR) [] (bT [4] [some (gy 0 n)] .nil) [] (mkA [oI1 d 0]) =
    bif m_nns d && true then KR [some (gy 0 n)] [] [some (.cells d 3 0 1)] else F4 := by kernel_rfl
end Go.Proofs
namespace Go.Proofs
open Go Go.Ev Go.Num
noncomputable def cBf : Code := bodyOf S0 42
noncomputable def Bf_0 : Code := (lc cBf)
noncomputable def Bf_1 : Code := (lc (rc cBf))
noncomputable def Bf_2 : Code := (lc (lc (rc (rc cBf))))
noncomputable def Bf_3 : Code := (ic (ic (rc (lc (rc (rc cBf))))))
noncomputable def Bf_4 : Code := (rc (rc (rc cBf)))
theorem Bf_eq : cBf = (.seq Bf_0 (.seq Bf_1 (.seq (.seq Bf_2 (.block 0 (.loop Bf_3))) Bf_4))) := by kernel_rfl
noncomputable def cSz : Code := bodyOf S0 62
noncomputable def Sz_0 : Code := (lc cSz)
noncomputable def Sz_1 : Code := (lc (rc cSz))
noncomputable def Sz_2 : Code := (lc (lc (rc (rc cSz))))
noncomputable def Sz_3 : Code := (ic (ic (rc (lc (rc (rc cSz))))))
noncomputable def Sz_4 : Code := (rc (rc (rc cSz)))
theorem Sz_eq : cSz = (.seq Sz_0 (.seq Sz_1 (.seq (.seq Sz_2 (.block 0 (.loop Sz_3))) Sz_4))) := by kernel_rfl
noncomputable def cRs : Code := bodyOf S0 36
noncomputable def Rs_0 : Code := (lc cRs)
noncomputable def Rs_1 : Code := (lc (rc cRs))
noncomputable def Rs_2 : Code := (lc (lc (rc (rc cRs))))
noncomputable def Rs_3 : Code := (lc (ic (ic (rc (lc (rc (rc cRs)))))))
noncomputable def Rs_4 : Code := (lc (ic (lc (rc (ic (ic (rc (lc (rc (rc cRs))))))))))
noncomputable def Rs_5 : Code := (lc (rc (ic (lc (rc (ic (ic (rc (lc (rc (rc cRs)))))))))))
noncomputable def Rs_6 : Code := (ic (ic (lc (rc (rc (ic (lc (rc (ic (ic (rc (lc (rc (rc cRs))))))))))))))
noncomputable def Rs_7 : Code := (rc (rc (rc (ic (lc (rc (ic (ic (rc (lc (rc (rc cRs))))))))))))
noncomputable def Rs_8 : Code := (rc (rc (ic (ic (rc (lc (rc (rc cRs))))))))
noncomputable def Rs_9 : Code := (rc (rc (rc cRs)))
theorem Rs_eq : cRs = (.seq Rs_0 (.seq Rs_1 (.seq (.seq Rs_2 (.block 0 (.loop (.seq Rs_3 (.seq (.block 1 (.seq Rs_4 (.seq Rs_5 (.seq (.block 2 (.loop Rs_6)) Rs_7)))) Rs_8))))) Rs_9))) := by kernel_rfl
def lvBf : List Nat := [0, 1, 5, 6]
def vBf (b off n cap x s k : Nat) : OV := [some (RS b off n cap), some (I (x : Nat)), some (I (s : Nat)), some (I (k : Nat))]
def lvSz : List Nat := [0, 3, 4]
def vSz (s z k : Nat) : OV := [some (I (s : Nat)), some (I (z : Nat)), some (I (k : Nat))]
noncomputable def m_bg (s : Value) (n : Nat) (o : Value) (y : Int) : Bool := @decide (o = s ∧ 0 ≤ y ∧ y < n) (Classical.propDecidable _)
noncomputable def eBe (s : Value) (n : Nat) (w : Nat → Nat) : Ent := ent (fun args _ => match args with
 | [o, .int .i64 y] => m_bg s n o y
 | _ => false) fun args _ => match args with
 | [_, .int .i64 y] => I (m_ow w y)
 | _ => undef
def m_s12 (s : Int) : Bool := decide (0 ≤ s ∧ s < 4096)
def m_szI (s : Int) : Int := ((szN s.toNat : Nat) : Int)
noncomputable def eS12 : Ent := ent (fun args _ => match args with
 | [.int .i64 s] => m_s12 s
 | _ => false) fun args _ => match args with
 | [.int .i64 s] => I (m_szI s)
 | _ => undef
noncomputable def tRs (s : Value) (n : Nat) (w : Nat → Nat) : Tbl := tcons 42 (eBe s n w) (tcons 62 eS12 fun _ => none)
def lvRn : List Nat := [0, 3, 4]
def vRn (b off n cap x : Nat) (o : Value) : OV := [some (RS b off n cap), some o, some (I (x : Nat))]
def lvRm : List Nat := [0, 3, 4, 5, 6]
def vRm (b off n cap x : Nat) (o : Value) (s k : Nat) : OV := [some (RS b off n cap), some o, some (I (x : Nat)), some (I (s : Nat)), some (I (k : Nat))]
theorem bfA (r : Mem) (b off n cap x : Nat) (fs : FnsC) (K : KO) (kx : Nat → KS) (kr : KS) : run (SC r) 115 25 1 (.seq Bf_0 (.seq Bf_1 Bf_2)) fs none (rbK 0 lvBf [] K) kx kr (sc0 115 [RS b off n cap, I (x : Nat)]) (tr0 115 [RS b off n cap, I (x : Nat)]) [] emptyA =
    K [some (RS b off n cap), some (I (Int.ofNat x)), some (I (Int.ofNat 0)), some (I (Int.ofNat 0))] [] [] := by kernel_rfl
theorem bfB (r : Mem) (b off n cap x s k : Nat) (fs : FnsC) (K : KO) (KX : Nat → KO) (kr : KS) : run (SS r 2) 115 25 1 Bf_3 fs none (rbK 0 lvBf [] K) (fun j => rbK 0 [5] [] (KX j)) kr [] (bT lvBf (vBf b off n cap x s k) .nil) [] (mkA []) =
    bif decide (Int.ofNat k < Int.ofNat n) then bif Nat.blt (Int.toNat (Int.ofNat k)) n then Option.casesOn (r b (Nat.add off (Nat.mul (Int.toNat (Int.ofNat k)) 1))) (.fail 423) fun val => bif isRoS val then bif Nat.blt (Int.toNat (Int.ofNat x)) (lnOf val) then Option.casesOn (r (blkOf val) (Nat.add (offOf val) (Nat.mul (Int.toNat (Int.ofNat x)) 1))) (.fail 423) fun val => bif Ev.isB val then bif ofB val then K [some (RS b off n cap), some (I (Int.ofNat x)), some (I (ibits BinOp.or IntKind.i64 (Int.ofNat s) (IntKind.wrap .i64 (Int.ofNat 1 * Int.ofNat 2 ^ min (Int.toNat (Int.ofNat k)) 64)))), some (I (IntKind.wrap .i64 (Int.ofNat k + Int.ofNat 1)))] [] [] else K [some (RS b off n cap), some (I (Int.ofNat x)), some (I (Int.ofNat s)), some (I (IntKind.wrap .i64 (Int.ofNat k + Int.ofNat 1)))] [] [] else F4 else F4 else F4 else F4 else KX 0 [some (I (Int.ofNat s))] [] [] := by kernel_rfl
theorem bfC (r : Mem) (s : Nat) (fs : FnsC) (K KR : KO) (kx : Nat → KS) : run (SC r) 115 25 1 Bf_4 fs none (rbK 0 [4] [] K) kx (rbK 0 [4] [] KR) [] (bT [5] [some (I (s : Nat))] .nil) [] (mkA []) =
    KR [some (I (Int.ofNat s))] [] [] := by kernel_rfl
theorem szA (r : Mem) (s : Nat) (fs : FnsC) (K : KO) (kx : Nat → KS) (kr : KS) : run (SC r) 29 18 1 (.seq Sz_0 (.seq Sz_1 Sz_2)) fs none (rbK 0 lvSz [] K) kx kr (sc0 29 [I (s : Nat)]) (tr0 29 [I (s : Nat)]) [] emptyA =
    K [some (I (Int.ofNat s)), some (I (Int.ofNat 0)), some (I (Int.ofNat 0))] [] [] := by kernel_rfl
theorem szB (r : Mem) (s z k : Nat) (fs : FnsC) (K : KO) (KX : Nat → KO) (kr : KS) : run (SC r) 29 18 1 Sz_3 fs none (rbK 0 lvSz [] K) (fun j => rbK 0 [3] [] (KX j)) kr [] (bT lvSz (vSz s z k) .nil) [] (mkA []) =
    bif decide (Int.fdiv (Int.ofNat s) (Int.ofNat 2 ^ min (Int.toNat (Int.ofNat k)) 64) > 0) then K [some (I (Int.ofNat s)), some (I (IntKind.wrap .i64 (Int.ofNat z + Int.tmod (Int.fdiv (Int.ofNat s) (Int.ofNat 2 ^ min (Int.toNat (Int.ofNat k)) 64)) (Int.ofNat 2)))), some (I (IntKind.wrap .i64 (Int.ofNat k + Int.ofNat 1)))] [] [] else KX 0 [some (I (Int.ofNat z))] [] [] := by kernel_rfl
theorem szC (r : Mem) (s : Nat) (fs : FnsC) (K KR : KO) (kx : Nat → KS) : run (SC r) 29 18 1 Sz_4 fs none (rbK 0 [2] [] K) kx (rbK 0 [2] [] KR) [] (bT [3] [some (I (s : Nat))] .nil) [] (mkA []) =
    KR [some (I (Int.ofNat s))] [] [] := by kernel_rfl
theorem rzA (r : Mem) (b off n cap : Nat) (fs : FnsC) (K : KO) (kx : Nat → KS) (kr : KS) : run (SC r) 253 78 1 (.seq Rs_0 (.seq Rs_1 Rs_2)) fs none (rbK 0 lvRn [] K) kx kr (sc0 253 [RS b off n cap]) (tr0 253 [RS b off n cap]) [] emptyA =
    K [some (RS b off n cap), some (.slice none 0 0), some (I (Int.ofNat 0))] [] [] := by kernel_rfl
theorem rzN (r : Mem) (b off n cap : Nat) (w : Nat → Nat) (K : KO) (kx : Nat → KS) (kr : KS) : run (SC r) 253 78 3 (.seq Rs_3 (.seq (.block 1 (.seq Rs_4 (.seq Rs_5 (.seq (.block 2 (.loop Rs_6)) Rs_7)))) Rs_8)) (lvlT (SC r) (tRs (RS b off n cap) n w) .nil 1 1) none (rbK 0 lvRn [] K) kx kr [] (bT lvRn (vRn b off n cap 0 nilT) .nil) [] (mkA []) =
    bif decide (0 < Int.ofNat n) then bif m_bg (RS b off n cap) n (RS b off n cap) (Int.ofNat 0) then K [some (RS b off n cap), some (.slice (some ⟨0, 0, none⟩) 1 unk), some (I (Int.ofNat 1))] [] [some (.cells [I (m_ow w (Int.ofNat 0))] 3 0 1)] else F4 else kx 0 [(11, .bool false), (10, I (Int.ofNat n)), (9, RS b off n cap), (8, I (Int.ofNat 0))] (.node (.node (.node .nil (some (.slice none 0 0)) .nil) none .nil) (some (RS b off n cap)) (.node (.node .nil (some (I (Int.ofNat 0))) .nil) none .nil)) [] (AW.mk 0 .nil .nil) := by kernel_rfl
theorem rzB (r : Mem) (b off n cap x q : Nat) (c : List Value) (fs : FnsC) (K : KO) (KX : Nat → KO) (kr : KS) : run (SC r) 253 78 1 Rs_3 fs none (rbK 0 lvRn [] K) (fun j => rbK 0 [3] [] (KX j)) kr [] (bT lvRn (vRn b off n cap x (gx 0 q)) .nil) [] (mkA [oI1 c 0]) =
    bif decide (Int.ofNat x < Int.ofNat n) then bif m_nns c && true then K [some (RS b off n cap), some (gx 0 q), some (I (Int.ofNat x))] [] [some (.cells c 3 0 1)] else F4 else bif m_nns c && true then KX 0 [some (gx 0 q)] [] [some (.cells c 3 0 1)] else F4 := by kernel_rfl
theorem rzC (r : Mem) (b off n cap x q : Nat) (c : List Value) (w : Nat → Nat) (K : KO) (kx : Nat → KS) (kr : KS) : run (SC r) 253 78 1 (.seq Rs_4 Rs_5) (lvlT (SC r) (tRs (RS b off n cap) n w) .nil 1 1) none (rbK 0 lvRm [] K) kx kr [] (bT lvRn (vRn b off n cap x (gx 0 q)) .nil) [] (mkA [oI1 c 0]) =
    bif m_bg (RS b off n cap) n (RS b off n cap) (Int.ofNat x) then bif m_nns c && true then K [some (RS b off n cap), some (gx 0 q), some (I (Int.ofNat x)), some (I (m_ow w (Int.ofNat x))), some (I (Int.ofNat 0))] [] [some (.cells c 3 0 1)] else F4 else F4 := by kernel_rfl
theorem rzD (r : Mem) (b off n cap x q s k : Nat) (c : List Value) (w : Nat → Nat) (K : KO) (KX : Nat → KO) (kr : KS) : run (SC r) 253 78 1 Rs_6 (lvlT (SC r) (tRs (RS b off n cap) n w) .nil 1 1) none (rbK 0 lvRm [] K) (fun j => rbK 0 lvRm [] (KX j)) kr [] (bT lvRm (vRm b off n cap x (gx 0 q) s k) .nil) [] (mkA [oI1 c 0]) =
    bif decide (Int.ofNat k < Int.ofNat q) then bif Nat.blt (Int.toNat (Int.ofNat k)) q then Option.casesOn c[Nat.add 0 (Nat.mul (Int.toNat (Int.ofNat k)) 1)]? (.fail 423) fun val => bif isI IntKind.i64 val then bif m_s12 (ofI val) then bif m_s12 (Int.ofNat s) then bif decide (m_szI (ofI val) < m_szI (Int.ofNat s)) then bif m_nns c && true then K [some (RS b off n cap), some (gx 0 q), some (I (Int.ofNat x)), some (I (Int.ofNat s)), some (I (IntKind.wrap .i64 (Int.ofNat k + Int.ofNat 1)))] [] [some (.cells c 3 0 1)] else F4 else bif Nat.blt (Int.toNat (Int.ofNat k)) q then Option.casesOn c[Nat.add 0 (Nat.mul (Int.toNat (Int.ofNat k)) 1)]? (.fail 423) fun val => bif isI IntKind.i64 val then bif m_s12 (ofI val) then bif m_s12 (Int.ofNat s) then bif m_szI (ofI val) == m_szI (Int.ofNat s) then bif Nat.blt (Int.toNat (Int.ofNat k)) q then Option.casesOn c[Nat.add 0 (Nat.mul (Int.toNat (Int.ofNat k)) 1)]? (.fail 423) fun val => bif isI IntKind.i64 val then bif decide (ofI val < Int.ofNat s) then bif m_nns c && true then K [some (RS b off n cap), some (gx 0 q), some (I (Int.ofNat x)), some (I (Int.ofNat s)), some (I (IntKind.wrap .i64 (Int.ofNat k + Int.ofNat 1)))] [] [some (.cells c 3 0 1)] else F4 else bif m_nns c && true then KX 2 [some (RS b off n cap), some (gx 0 q), some (I (Int.ofNat x)), some (I (Int.ofNat s)), some (I (Int.ofNat k))] [] [some (.cells c 3 0 1)] else F4 else F4 else F4 else bif m_nns c && true then KX 2 [some (RS b off n cap), some (gx 0 q), some (I (Int.ofNat x)), some (I (Int.ofNat s)), some (I (Int.ofNat k))] [] [some (.cells c 3 0 1)] else F4 else F4 else F4 else F4 else F4 else F4 else F4 else F4 else F4 else bif m_nns c && true then KX 2 [some (RS b off n cap), some (gx 0 q), some (I (Int.ofNat x)), some (I (Int.ofNat s)), some (I (Int.ofNat k))] [] [some (.cells c 3 0 1)] else F4 := by kernel_rfl
theorem rzF (r : Mem) (b off n cap x q : Nat) (c : List Value) (fs : FnsC) (K : KO) (kx : Nat → KS) (kr : KS) : run (SC r) 253 78 1 Rs_8 fs none (rbK 0 lvRn [] K) kx kr [] (bT lvRn (vRn b off n cap x (gx 0 q)) .nil) [] (mkA [oI1 c 0]) =
    bif m_nns c && true then K [some (RS b off n cap), some (gx 0 q), some (I (IntKind.wrap .i64 (Int.ofNat x + Int.ofNat 1)))] [] [some (.cells c 3 0 1)] else F4 := by kernel_rfl
theorem rzG (r : Mem) (q : Nat) (c : List Value) (fs : FnsC) (K KR : KO) (kx : Nat → KS) : run (SC r) 253 78 1 Rs_9 fs none (rbK 0 [2] [] K) kx (rbK 0 [2] [] KR) [] (bT [3] [some (gx 0 q)] .nil) [] (mkA [oI1 c 0]) =
    bif m_nns c && true then KR [some (gx 0 q)] [] [some (.cells c 3 0 1)] else F4 := by kernel_rfl
end Go.Proofs
namespace Go.Proofs
open Go Go.Ev Go.Num
def rowV (l : List Nat) : List Value := l.map fun x : Nat => V (x : Int)
theorem rowV_nn (l : List Nat) : m_nns (rowV l) = true := by
 unfold m_nns
 induction l with
 | nil => rfl
 | cons x l ih => show (true && nns (rowV l)) = true; rw [ih]; rfl
theorem rowV_gnd (l : List Nat) : gnds (rowV l) = true := by
 induction l with
 | nil => rfl
 | cons x l ih => show (true && gnds (rowV l)) = true; rw [ih]; rfl
theorem rowV_get {l : List Nat} {k : Nat} (h : k < l.length) : (rowV l)[k]? = some (V ((l[k] : Nat) : Int)) := by simp [rowV, h]
def rsV (w : Nat → Nat) (n : Nat) : List Value := rowV (rsN w n)
theorem okEs_en (c : Nat) : ∀ (l : List Nat) (b : Nat), (∀ x ∈ l, x < 65536) → b + l.length ≤ c → okEs c (enT l b) = true ∧ ∀ n, n < b → freshB n (enT l b) = true
 | [], _, _, _ => ⟨rfl, fun _ _ => rfl⟩
 | x :: l, b, hx, hc => by
  have hl : (x :: l).length = l.length + 1 := rfl
  obtain ⟨h1, h2⟩ := okEs_en c l (b + 1) (fun y hy => hx y (List.mem_cons_of_mem _ hy)) (by omega)
  have hxx := hx x (by simp)
  refine ⟨?_, fun n hn => ?_⟩
  ·have e1 : okE c { key := .int .u16 (x : Int), val := .bool true, born := b } = true := by
    show (decide (0 ≤ (x : Int)) && decide ((x : Int) < 65536) && Nat.blt b c) = true
    rw [dT (show 0 ≤ (x : Int) by omega), dT (show (x : Int) < 65536 by omega), show Nat.blt b c = true from Nat.ble_eq_true_of_le (by omega)]
    rfl
   simp only [enT, okEs, e1, h2 b (by omega), h1, Bool.and_self]
  ·have : Nat.beq b n = false := natFx (by omega)
   simp only [enT, freshB, this, h2 n (by omega), Bool.not_false, Bool.and_self]
theorem enT_z (l : List Nat) : ∀ b, (enT l b).map keyZ = l.map fun x : Nat => (x : Int) := by
 induction l with
 | nil => intro b; rfl
 | cons x l ih => intro b; simp only [enT, List.map_cons, ih]; rfl
theorem eSFs_ok {r : Mem} {w : Nat → Nat} {n : Nat} (hw : ∀ j, w j < 4096) (h1 : 1 ≤ n) (hn : n ≤ 12) : EOk (SC r) 53 (eSFs (seL w n) (rsN w n).length (rsV w n)) := fun args A hg F hF k γ W args' hwr hR ha => by
 refine ⟨fun _ => ?_, fun h => nomatch h⟩
 simp only [eSFs] at hg ⊢
 have hl : (rsN w n).length = (seL w n).length := (rs_perm w n).length_eq
 have hlen := seL_len w n
 have hall : ∀ x ∈ seL w n, x < 65536 := fun x hx => by
  obtain ⟨j, _, rfl⟩ := seL_mem.1 hx
  have := hw j
  omega
 have hne : seL w n ≠ [] := fun h => by
  have : w 0 ∈ seL w n := seL_mem.2 ⟨0, by omega, rfl⟩
  rw [h] at this
  cases this
 cases hs : sfArgs args A with
 | none => rw [hs] at hg; cases hg
 | some p =>
  obtain ⟨es, clock⟩ := p
  rw [hs] at hg
  obtain ⟨rfl, rfl⟩ := @of_decide_eq_true _ (Classical.propDecidable _) hg
  have hg2 : eSF.g args A = true := by
   simp only [eSF, hs]
   have e1 : emptyL (enT (seL w n) 0) = false := by
    generalize seL w n = l at hne
    cases l with
    | nil => exact absurd rfl hne
    | cons _ _ => rfl
   rw [e1, show Nat.blt (enT (seL w n) 0).length 1000000 = true from Nat.ble_eq_true_of_le (by rw [enT_len]; omega), (okEs_en _ _ 0 hall (by omega)).1]
   rfl
  have h := (eSF_ok r args A hg2 F hF k γ W args' hwr hR ha).1 rfl
  simp only [eSF, hs, enT_len, enT_z, rs_sort hw n, List.map_map, ← hl] at h
  exact h
theorem idx_le {x : Nat} : ∀ {L : List Nat} {k : Nat} (h : k < L.length), L[k] = x → L.idxOf x ≤ k
 | y :: L, 0, _, h => by
  have h : y = x := h
  subst h
  simp
 | y :: L, k + 1, hk, h => by
  have ih := idx_le (L := L) (k := k) (by simpa using hk) (by simpa using h)
  rw [List.idxOf_cons]
  cases y == x
  ·simp only [cond_false]; omega
  ·simp only [cond_true]; omega
section
variable {r : Mem} {m : Nat} {w a : Nat → Nat}
theorem sets_S (hw : ∀ j, w j < 4096) (h1 : 1 ≤ m) (hm : m ≤ 12) : SOk (SC r) 32 [.agg ⟨orC m w a⟩] emptyA fun v A => v = gx 0 (rsN w m).length ∧ A = mkA [oSs (rsV w m) 0] := by
 have hU : plain? (Cfg.P (SC r)) (underlying 56) = some (.int .u16) := by kernel_rfl
 refine callL (SC_ok r) (by kernel_rfl) ((bodySC r _).trans St_eq) (nt := 20) (by kernel_rfl) (rs := [.tmp 2]) (by kernel_rfl) 415 rfl (.step (.step .base)) TOk.nil (tm := .nil) (L := 1) (d := 1) lvSt []
  (fun j vs ms os => ∃ k, k ≤ m ∧ j = m - k ∧ vs = vSt m k ∧ ms = [] ∧ os = [oOr (orC m w a) 0, oMp (enT (seL w k) 0) (seL w k).length])
  ⟨[3], [], fun vs ms os => vs = [some (.map (some 0))] ∧ ms = [] ∧ os = [oMp (enT (seL w m) 0) (seL w m).length]⟩
  ⟨[2], [], fun vs ms os => vs = [some (gx 0 (rsN w m).length)] ∧ ms = [] ∧ os = [oSs (rsV w m) 0]⟩ ?_ ?_ ?_ ?_
 ·exact (stA r m w a _ _ _ _).trans (qq_ok ⟨m, 0, Nat.zero_le _, rfl, rfl, rfl, rfl⟩)
 ·rintro j vs ms os ⟨k, hk, rfl, rfl, rfl, rfl⟩
  refine ⟨_, TOk.nil, .nil, 1, 1, 1, ?_⟩
  have hn' := stB r m w a k (enT (seL w k) 0) (seL w k).length
  by_cases c : k < m
  ·have b1 : Nat.blt k 12 = true := Nat.ble_eq_true_of_le (by omega)
   have g1 : (orC m w a)[Nat.add 1 (Nat.mul k 1)]? = some (V ((w k : Nat) : Int)) := by
    rw [show Nat.add 1 (Nat.mul k 1) = 1 + k by simp]; exact orC_w (by omega)
   have e1 := putG_en hU (seL w k) (w k)
   have e2 := put_en hU (seL w k) (w k)
   have e3 := clk_en hU (seL w k) (w k)
   simp only [tnO, dT (show Int.ofNat k < Int.ofNat m by simp; omega), b1, g1, isV_V, ofI_V, cond_true] at hn'
   simp only [e1, e2, e3, orC_nn, enT_gnd, Bool.and_true, Bool.and_self, cond_true] at hn'
   rw [show IntKind.wrap .i64 (Int.ofNat k + Int.ofNat 1) = ((k + 1 : Nat) : Int) from inc1 (by omega)] at hn'
   exact (hn' _ _ _ _).trans (qq_ok ⟨m - (k + 1), by omega, k + 1, c, rfl, rfl, rfl, rfl⟩)
  ·obtain rfl : k = m := by omega
   simp only [dF (show ¬ Int.ofNat k < Int.ofNat k by simp), cond_false, enT_gnd, Bool.and_true, cond_true] at hn'
   exact (hn' _ _ _ _).trans (qq_ok ⟨rfl, rfl, rfl⟩)
 ·rintro vs ms os ⟨rfl, rfl, rfl⟩
  have hn' := stC r (enT (seL w m) 0) (seL w m).length (seL w m) (rsN w m).length (rsV w m)
  have e1 : m_sfE (seL w m) (enT (seL w m) 0) (seL w m).length = true := @decide_eq_true _ (Classical.propDecidable _) ⟨rfl, rfl⟩
  simp only [e1, show m_nns (rsV w m) = true from rowV_nn _, Bool.and_true, cond_true] at hn'
  exact ⟨_, TOk.nil.cons (eSFs_ok hw h1 hm), .nil, 1, 1, 3, (hn' _ _ _).trans (qq_ok ⟨rfl, rfl, rfl⟩)⟩
 ·rintro vs ms os ⟨rfl, rfl, rfl⟩
  exact ⟨_, mkA [oSs (rsV w m) 0], by kernel_rfl, rfl, rfl⟩
theorem eNw_ok {f e k : Nat} {a0 : List Value} {c : List Value} {A1 : AW} (ha0 : roVs a0 = true) (hgc : gnds c = true) (h : SOk (SC r) f a0 emptyA fun v A => v = gx 0 k ∧ A = mkA [some (.cells c e 0 1)]) : EOk (SC r) f (eNw a0 e k c) := fun args A hgd F hF kk γ W args' hw hR ha => by
 refine ⟨fun hcc => ?_, fun h => nomatch h⟩
 have hs := @of_decide_eq_true _ (Classical.propDecidable _) hgd
 subst hs
 have hg : GrM Tryz.prog r f args (gx 0 k) (rowA c e 1) := GrM.ofS (C := SC r) rfl rfl h
 have hof : ofV 0 (gx 0 k) = true := by simp [ofV, of1]
 exact hg.ends (γ := γ) (A := A) hof hgc hF hw (hR.noG noG fun _ => rfl) (ha.of_ros ha0) ha
theorem eNy_ok {f e k : Nat} {a0 : List Value} {c : List Value} (ha0 : roVs a0 = true) (hgc : gnds c = true) (h : SOk (SC r) f a0 emptyA fun v A => v = gy 0 k ∧ A = mkA [some (.cells c e 0 1)]) : EOk (SC r) f (eNy a0 e k c) := fun args A hgd F hF kk γ W args' hw hR ha => by
 refine ⟨fun hcc => ?_, fun h => nomatch h⟩
 have hs := @of_decide_eq_true _ (Classical.propDecidable _) hgd
 subst hs
 have hg : GrM Tryz.prog r f args (gy 0 k) (rowA c e 1) := GrM.ofS (C := SC r) rfl rfl h
 have hof : ofV 0 (gy 0 k) = true := by simp [ofV, of1]
 exact hg.ends (γ := γ) (A := A) hof hgc hF hw (hR.noG noG fun _ => rfl) (ha.of_ros ha0) ha
theorem is_ok {b off cap : Nat} {L : List Nat} (hr : ∀ j, (h : j < L.length) → r b (off + j) = some (V ((L[j] : Nat) : Int))) (hl : L.length ≤ 1000000) {x : Nat} (hx : L.contains x = true) : GrT Tryz.prog r 76 [RS b off L.length cap, V (x : Nat)] (I (L.idxOf x : Nat)) := by
 obtain ⟨hi1, hi2⟩ := idx_lt hx
 refine GrT.ofS (C := SC r) rfl rfl rfl (callL (SC_ok r) (by kernel_rfl) ((bodySC r _).trans Is_eq) (nt := 19) (by kernel_rfl) (rs := [.tmp 4]) (by kernel_rfl) 435 rfl (.step .base) TOk.nil (tm := .nil) (L := 1) (d := 1) lvIs []
  (fun j vs ms os => ∃ k, k ≤ L.idxOf x ∧ j = L.length - k ∧ vs = vIs b off L.length cap (x : Nat) k ∧ ms = [] ∧ os = [])
  Outs.no
  ⟨[4], [], fun vs ms os => vs = [some (I (L.idxOf x : Nat))] ∧ ms = [] ∧ os = []⟩ ?_ ?_ ?_ ?_)
 ·exact (isA r b off L.length cap (x : Nat) _ _ _ _).trans (qq_ok ⟨L.length, 0, Nat.zero_le _, rfl, rfl, rfl, rfl⟩)
 ·rintro j vs ms os ⟨k, hk, rfl, rfl, rfl, rfl⟩
  refine ⟨_, TOk.nil, .nil, 1, 1, 1, ?_⟩
  have hn' := isB r b off L.length cap (x : Nat) k
  have hkl : k < L.length := by omega
  have b1 : Nat.blt k L.length = true := Nat.ble_eq_true_of_le hkl
  have g1 : r b (Nat.add off (Nat.mul k 1)) = some (V ((L[k] : Nat) : Int)) := by
   rw [show Nat.add off (Nat.mul k 1) = off + k by simp]; exact hr k hkl
  simp only [tnO, dT (show Int.ofNat k < Int.ofNat L.length by simp; omega), b1, g1, isV_V, ofI_V, cond_true] at hn'
  by_cases c : L[k] = x
  ·have hk2 : k = L.idxOf x := by
    have h3 : L.idxOf x ≤ k := idx_le hkl c
    omega
   rw [c] at hn'
   simp only [eqT (show (x : Int) = (x : Int) from rfl), cond_true] at hn'
   refine (hn' _ _ _ _).trans (qq_ok ⟨?_, rfl, rfl⟩)
   rw [← hk2]; rfl
  ·have hk2 : k ≠ L.idxOf x := fun e => c (by subst e; exact hi2)
   simp only [eqF (show (x : Int) ≠ ((L[k] : Nat) : Int) by omega), cond_false] at hn'
   rw [show IntKind.wrap .i64 (Int.ofNat k + Int.ofNat 1) = ((k + 1 : Nat) : Int) from inc1 (by omega)] at hn'
   exact (hn' _ _ _ _).trans (qq_ok ⟨L.length - (k + 1), by omega, k + 1, by omega, rfl, rfl, rfl, rfl⟩)
 ·intro vs ms os h
  exact h.elim
 ·rintro vs ms os ⟨rfl, rfl, rfl⟩
  exact ⟨_, mkA [], by kernel_rfl, rfl⟩
theorem eIs_ok {L : List Nat} (hl : L.length ≤ 1000000) : EOk (SC r) 76 (eIs L (rowV L)) := EOk.ent fun args A hgd => by
 split at hgd
 ·rename_i j l z x
  split at hgd
  ·rename_i ci e f sz hget
   rw [Bool.and_eq_true] at hgd
   obtain ⟨hg1, hg2⟩ := hgd
   obtain ⟨rfl, hz, rfl⟩ := @of_decide_eq_true _ (Classical.propDecidable _) hg1
   unfold m_in at hg2
   rw [Bool.and_eq_true, decide_eq_true_eq] at hg2
   have hcap : Nat.beq z unkE = false := natFx hz
   refine POk.of rfl fun γ W args' hw hR ha => ?_
   obtain ⟨la⟩ := args'
   cases ha with
   | cons h1 h2 =>
   cases h2 with
   | cons h2 h3 =>
   cases h3
   cases h2
   obtain ⟨b, k', p1, p2⟩ := own_row hw hR hcap hget h1
   refine ⟨memW W, [RS b k' L.length 0, V x], memW_ro W, .cons p1 (.cons (.int _ _) .nil), ?_⟩
   have := is_ok (r := memW W) (b := b) (off := k') (cap := 0) (L := L) (fun j hj => p2 j _ (rowV_get hj) rfl) hl (x := x.toNat) hg2.2
   rw [show ((x.toNat : Nat) : Int) = x by omega] at this
   exact this
  ·cases hgd
 ·cases hgd
end
end Go.Proofs
namespace Go.Proofs
open Go Go.Ev Go.Num
def lfZ (w : Nat → Nat) (m j : Nat) : Int := ((rsN w m).idxOf (w j) : Nat)
def lfK (w : Nat → Nat) (m k j : Nat) : Int := if j < k then lfZ w m j else 0
theorem rs_has {w : Nat → Nat} {m j : Nat} (h : j < m) : (rsN w m).contains (w j) = true := by
 have : w j ∈ rsN w m := rsN_mem.2 ⟨j, h, rfl⟩
 simpa using this
theorem rs_len (w : Nat → Nat) (m : Nat) : (rsN w m).length ≤ m := by rw [(rs_perm w m).length_eq]; exact seL_len w m
section
variable {r : Mem} {m : Nat} {w a : Nat → Nat}
theorem lf_S (hw : ∀ j, w j < 4096) (h1 : 1 ≤ m) (hm : m ≤ 12) : SOk (SC r) 47 [.agg ⟨orC m w a⟩] emptyA fun v A => v = gy 0 m ∧ A = mkA [oI1 (ixN (lfZ w m) m) 0] := by
 have hrl := rs_len w m
 have hnn : m_nns (rsV w m) = true := rowV_nn _
 refine callL (SC_ok r) (by kernel_rfl) ((bodySC r _).trans Lf_eq) (nt := 27) (by kernel_rfl) (rs := [.tmp 2]) (by kernel_rfl) 12351 rfl (.step (.step (.step .base))) (t := tLfA m w a (rsN w m).length (rsV w m)) (TOk.nil.cons (eNw_ok (e := 56) (A1 := emptyA) rfl (rowV_gnd _) (sets_S hw h1 hm))) (tm := .nil) (L := 1) (d := 1) lvLf []
  (fun j vs ms os => ∃ k, k ≤ m ∧ j = m - k ∧ vs = vLf m (rsN w m).length k ∧ ms = [] ∧ os = [oOr (orC m w a) 0, oSs (rsV w m) 1, oI1 (ixN (lfK w m k) m) 2])
  ⟨[4], [], fun vs ms os => vs = [some (gy 0 m)] ∧ ms = [] ∧ os = [oI1 (ixN (lfZ w m) m) 0]⟩
  ⟨[2], [], fun vs ms os => vs = [some (gy 0 m)] ∧ ms = [] ∧ os = [oI1 (ixN (lfZ w m) m) 0]⟩ ?_ ?_ ?_ ?_
 ·have hn' := lfA r m w a (rsN w m).length (rsV w m)
  have e0 := ix_zero1 m
  simp only [tnO, svv_rfl, Nat.ble_eq_true_of_le (show m ≤ 1000000 by omega), Nat.ble_eq_true_of_le (Nat.le_refl m), e0, ix_nn, orC_nn, hnn, Bool.and_true, Bool.and_self, cond_true] at hn'
  exact (hn' _ _ _).trans (qq_ok ⟨m, 0, Nat.zero_le _, rfl, rfl, rfl, by rw [ix_ext (f := lfK w m 0) (g := fun _ => 0) fun j _ => if_neg (by omega)]; rfl⟩)
 ·rintro j vs ms os ⟨k, hk, rfl, rfl, rfl, rfl⟩
  refine ⟨_, TOk.nil.cons (eIs_ok (L := rsN w m) (by omega)), .nil, 1, 1, 1, ?_⟩
  have hn' := lfB r m w a (rsN w m) (rsN w m).length k (rowV (rsN w m)) (ixN (lfK w m k) m)
  by_cases c : k < m
  ·have b1 : Nat.blt k 12 = true := Nat.ble_eq_true_of_le (by omega)
   have b2 : Nat.blt k m = true := Nat.ble_eq_true_of_le (by omega)
   have g1 : (orC m w a)[Nat.add 1 (Nat.mul k 1)]? = some (V ((w k : Nat) : Int)) := by
    rw [show Nat.add 1 (Nat.mul k 1) = 1 + k by simp]; exact orC_w (by omega)
   have e1 : m_ig (rsN w m).length (rowV (rsN w m)) (rsN w m).length unk (rowV (rsN w m)) = true := @decide_eq_true _ (Classical.propDecidable _) ⟨rfl, by decide, rfl⟩
   have e2 : m_in (rsN w m) ((w k : Nat) : Int) = true := by
    unfold m_in
    rw [Int.toNat_natCast, rs_has c, dT (by omega)]; rfl
   have e3 : m_ix (rsN w m) ((w k : Nat) : Int) = lfZ w m k := by
    unfold m_ix lfZ
    rw [Int.toNat_natCast]
   have e4 : Nat.add 0 (Nat.mul k 1) = k := by simp
   have e5 : (ixN (lfK w m k) m).set k (I (lfZ w m k)) = ixN (lfK w m (k + 1)) m := by
    rw [ix_set]
    refine ix_ext fun j hj => ?_
    unfold lfK
    by_cases d : j = k
    ·subst d; rw [if_pos rfl, if_pos (by omega)]
    ·rw [if_neg d]
     by_cases d2 : j < k
     ·rw [if_pos d2, if_pos (by omega)]
     ·rw [if_neg d2, if_neg (by omega)]
   simp only [tnO, dT (show Int.ofNat k < Int.ofNat m by simp; omega), b1, b2, g1, isV_V, ofI_V, e1, e2, e3, e4, e5, ix_len, Bool.and_self, cond_true] at hn'
   simp only [ix_nn, orC_nn, rowV_nn, Bool.and_true, Bool.and_self, cond_true] at hn'
   rw [show IntKind.wrap .i64 (Int.ofNat k + Int.ofNat 1) = ((k + 1 : Nat) : Int) from inc1 (by omega)] at hn'
   exact (hn' _ _ _).trans (qq_ok ⟨m - (k + 1), by omega, k + 1, c, rfl, rfl, rfl, rfl⟩)
  ·obtain rfl : k = m := by omega
   simp only [dF (show ¬ Int.ofNat k < Int.ofNat k by simp), cond_false, ix_nn, Bool.and_true, cond_true] at hn'
   exact (hn' _ _ _).trans (qq_ok ⟨rfl, rfl, by rw [ix_ext (f := lfK w k k) (g := lfZ w k) fun j hj => if_pos hj]; rfl⟩)
 ·rintro vs ms os ⟨rfl, rfl, rfl⟩
  have hn' := lfC r m (ixN (lfZ w m) m)
  simp only [ix_nn, Bool.and_true, cond_true] at hn'
  exact ⟨_, TOk.nil, .nil, 1, 1, 1, (hn' _ _ _ _).trans (qq_ok ⟨rfl, rfl, rfl⟩)⟩
 ·rintro vs ms os ⟨rfl, rfl, rfl⟩
  exact ⟨_, mkA [oI1 (ixN (lfZ w m) m) 0], by kernel_rfl, rfl, rfl⟩
end
end Go.Proofs
namespace Go.Proofs
open Go Go.Ev Go.Num
theorem fin_b (v : Bool) : (bif v then CR.ret (.bool true) emptyA else CR.ret (.bool false) emptyA) = .ret (.bool v) emptyA := by cases v <;> rfl
section
variable {r : Mem} {m : Nat} {w a : Nat → Nat}
theorem tEl_ok (hm : m ≤ 12) (hw : ∀ j, w j < 4096) {x : Nat → Int} {v : Bool} (hv : insB m x = v) : TOk (SC r) (tEl m w a x v) := (TOk.nil.cons (eBf_ok hw)).cons (eV_ok rfl (by subst hv; exact el_ok x))
theorem tEh_ok (hm : m ≤ 12) (hw : ∀ j, w j < 4096) (ha : ∀ j, a j < 4096) {x : Nat → Int} (hv : insB m x = true) : TOk (SC r) (tEh m w a (ovW m w a) (2 ^ m - 1) x) := (((tEl_ok hm hw hv)).cons (eAl_ok hm)).cons (eOg_ok hm hw ha)
theorem bf_t {x y : Int} (hx : 0 ≤ x ∧ x < m) (hy : 0 ≤ y ∧ y < m) (hm : m ≤ 12) : m_bf m w a (.agg ⟨orC m w a⟩) x y = true := @decide_eq_true _ (Classical.propDecidable _) ⟨rfl, by omega, by omega, by omega, by omega⟩
theorem og_t {x : Int} (hx : 0 ≤ x ∧ x < m) : m_og m w a (.agg ⟨orC m w a⟩) x = true := @decide_eq_true _ (Classical.propDecidable _) ⟨rfl, hx.1, hx.2⟩
theorem tw_or (hm : m ≤ 12) (hw : ∀ j, w j < 4096) (x : Nat → Int) : GrT Tryz.prog r 38 [.agg ⟨orC m w a⟩, x4 x] (.bool (insB m x && (m_bv w (x 0) (x 1) && (m_bv w (x 2) (x 3) && (!m_bv w (x 0) (x 3) && !m_bv w (x 2) (x 1)))))) := by
 by_cases c : insB m x = true
 ·have hi := insB_iff.1 c
  refine GrT.of (SC_ok r) (tEl_ok (a := a) hm hw c) .nil rfl ⟨2, 3, ?_⟩
  have hn' := juT r m w a x
  simp only [svv_rfl, bf_t hi.1 hi.2.1 hm, bf_t hi.2.2.1 hi.2.2.2 hm, bf_t hi.1 hi.2.2.2 hm, bf_t hi.2.2.1 hi.2.1 hm, cond_true] at hn'
  refine hn'.trans ?_
  rw [c]
  cases m_bv w (x 0) (x 1) <;> cases m_bv w (x 2) (x 3) <;> cases m_bv w (x 0) (x 3) <;> cases m_bv w (x 2) (x 1) <;> rfl
 ·have c : insB m x = false := by simpa using c
  refine GrT.of (SC_ok r) (tEl_ok (a := a) hm hw c) .nil rfl ⟨2, 3, ?_⟩
  have hn' := juTf r m w a x
  simp only [svv_rfl, cond_true] at hn'
  refine hn'.trans ?_
  rw [c]; rfl
def ovB (w a : Nat → Nat) (x d : Nat) : Bool := !(w x).testBit d && (!(a x).testBit d && !decide (x = d))
theorem ovW_bit (x : Nat) {d : Nat} (hd : d < m) : (ovW m w a x).testBit d = ovB w a x d := by
 unfold ovW ovB
 rw [an_bit, Nat.testBit_two_pow_sub_one, Nat.testBit_or, Nat.testBit_or, Nat.testBit_two_pow]
 simp only [hd, decide_true, Bool.true_and, Bool.not_or, Bool.and_assoc]
theorem th_or (hm : m ≤ 12) (hw : ∀ j, w j < 4096) (ha : ∀ j, a j < 4096) (x : Nat → Int) : GrT Tryz.prog r 49 [.agg ⟨orC m w a⟩, x4 x] (.bool (insB m x && (m_bv w (x 0) (x 1) && (m_bv w (x 1) (x 2) && (ovB w a (x 0).toNat (x 3).toNat && (ovB w a (x 1).toNat (x 3).toNat && ovB w a (x 2).toNat (x 3).toNat)))))) := by
 by_cases c : insB m x = true
 ·have hi := insB_iff.1 c
  obtain ⟨y, hy, hxy, hyn⟩ := x4_nat c
  have c2 : insB m (fun i => (y i : Nat)) = true := by
   rw [insB_iff]
   have h0 := hyn 0 (by omega)
   have h1 := hyn 1 (by omega)
   have h2 := hyn 2 (by omega)
   have h3 := hyn 3 (by omega)
   exact ⟨⟨by omega, by omega⟩, ⟨by omega, by omega⟩, ⟨by omega, by omega⟩, by omega, by omega⟩
  have i2 := insB_iff.1 c2
  rw [hy, c, hxy 0 (by omega), hxy 1 (by omega), hxy 2 (by omega), hxy 3 (by omega)]
  refine GrT.of (SC_ok r) (tEh_ok hm hw ha c2) .nil rfl ⟨6, 8, ?_⟩
  have hn' := juH r m w a (ovW m w a) (2 ^ m - 1) y
  have l := fun x => ovW_lt (m := m) (w := w) (a := a) hm x
  have l0 := l (y 0)
  have l1 := l (y 1)
  have l2 := l (y 2)
  have lm := m_lt16 hm
  have a1 : 2 ^ m - 1 &&& ovW m w a (y 0) < 65536 := Nat.and_lt_two_pow (n := 16) _ (by omega)
  have a2 : (2 ^ m - 1 &&& ovW m w a (y 0)) &&& ovW m w a (y 1) < 65536 := Nat.and_lt_two_pow (n := 16) _ (by omega)
  have a3 : ((2 ^ m - 1 &&& ovW m w a (y 0)) &&& ovW m w a (y 1)) &&& ovW m w a (y 2) < 65536 := Nat.and_lt_two_pow (n := 16) _ (by omega)
  have o1 := (uV (show 2 ^ m - 1 < 65536 by omega) (show ovW m w a (y 0) < 65536 by omega)).2.1
  have o2 := (uV a1 (show ovW m w a (y 1) < 65536 by omega)).2.1
  have o3 := (uV a2 (show ovW m w a (y 2) < 65536 by omega)).2.1
  have hd := hyn 3 (by omega)
  have ow : ∀ z : Nat, m_ow (ovW m w a) (Int.ofNat z) = ((ovW m w a z : Nat) : Int) := fun _ => rfl
  have t1 : ((((2 ^ m - 1 &&& ovW m w a (y 0)) &&& ovW m w a (y 1)) &&& ovW m w a (y 2))).testBit (y 3) = (ovB w a (y 0) (y 3) && (ovB w a (y 1) (y 3) && ovB w a (y 2) (y 3))) := by
   rw [Nat.testBit_and, Nat.testBit_and, Nat.testBit_and, Nat.testBit_two_pow_sub_one, ovW_bit _ hd, ovW_bit _ hd, ovW_bit _ hd]
   simp only [hd, decide_true, Bool.true_and, Bool.and_assoc]
  have b0 : ∀ (i j : Nat), i < 4 → j < 4 → m_bf m w a (.agg ⟨orC m w a⟩) (Int.ofNat (y i)) (Int.ofNat (y j)) = true := fun i j hi hj => by
   have h1 := hyn i hi
   have h2 := hyn j hj
   exact bf_t ⟨by simp, by simpa using h1⟩ ⟨by simp, by simpa using h2⟩ hm
  have b1 : ∀ (i : Nat), i < 4 → m_og m w a (.agg ⟨orC m w a⟩) (Int.ofNat (y i)) = true := fun i hi => by
   have h1 := hyn i hi
   exact og_t ⟨by simp, by simpa using h1⟩
  have q0 : (Int.ofNat (2 ^ m - 1)) = ((2 ^ m - 1 : Nat) : Int) := rfl
  simp only [svv_rfl, b0 0 1 (by omega) (by omega), b0 1 2 (by omega) (by omega), b1 0 (by omega), b1 1 (by omega), b1 2 (by omega), cond_true, ow, q0, o1, o2, o3] at hn'
  simp only [tnO, has_v a3 (show y 3 ≤ 16 by omega), t1] at hn'
  refine hn'.trans ?_
  simp only [Int.ofNat_eq_natCast, Int.toNat_natCast]
  cases m_bv w (y 0 : Nat) (y 1 : Nat) <;> cases m_bv w (y 1 : Nat) (y 2 : Nat) <;> cases ovB w a (y 0) (y 3) <;> cases ovB w a (y 1) (y 3) <;> cases ovB w a (y 2) (y 3) <;> rfl
 ·have c : insB m x = false := by simpa using c
  refine GrT.of (SC_ok r) (tEl_ok (a := a) hm hw c) .nil rfl ⟨2, 3, ?_⟩
  have hn' := juHf r m w a x
  simp only [svv_rfl, cond_true] at hn'
  refine hn'.trans ?_
  rw [c]; rfl
end
section
variable {r : Mem} {b off n cap : Nat} {T : List (List Bool)}
theorem ck_len (hc : ckO T = true) : 1 ≤ T.length ∧ T.length ≤ 12 := by
 unfold ckO at hc
 rw [Bool.and_eq_true, decide_eq_true_eq] at hc
 exact hc.1
theorem ck_row (hc : ckO T = true) {i : Nat} (hi : i < T.length) : (T.getD i []).length = T.length ∧ gT T i i = false := by
 unfold ckO at hc
 rw [Bool.and_eq_true, Bool.and_eq_true] at hc
 exact lenI_get hc.2.1 i hi
theorem wB_bitJ {i j : Nat} (hi : i < T.length) : (wB T T.length 0 j).testBit i = gT T i j := by
 rw [wB_cl, clW_bit]
 simp [hi]
theorem rd_okJ (hmt : ∀ b j u, tabM b j = some u → r b j = some u) (hM : TabM r b off T) (hn : T.length = n) (hc : ckO T = true) {x : Nat → Int} {u v : Bool} (hu : ∀ r : Mem, GrT Tryz.prog r 38 [.agg ⟨orC n (wB T n 0) (wA T n 0)⟩, x4 x] (.bool u)) (hv : ∀ r : Mem, GrT Tryz.prog r 49 [.agg ⟨orC n (wB T n 0) (wA T n 0)⟩, x4 x] (.bool v)) : TOk (SC r) (tSh (RS b off n cap) n (wB T n 0) (wA T n 0) x u v) := by
 refine ((TOk.nil.cons (eV_ok rfl (hv r))).cons (eV_ok rfl (hu r))).cons (EOk.ent fun args A hgd => ?_)
 have hs := @of_decide_eq_true _ (Classical.propDecidable _) hgd
 subst hs
 have h := ro_ok (cap := cap) hmt hM hn (by have := (ck_len hc).2; omega)
 unfold roC at h
 rw [hc, if_pos rfl, if_pos rfl, hn] at h
 exact h.ro rfl A
theorem toN {x : Int} {n : Nat} (h : 0 ≤ x ∧ x < n) : x.toNat < n := by omega
theorem sh_tw (hmt : ∀ b j u, tabM b j = some u → r b j = some u) (hM : TabM r b off T) (hn : T.length = n) (hc : ckO T = true) (x : Nat → Int) : GrT Tryz.prog r 14 [RS b off n cap, x4 x] (.bool (twB T x)) := by
 have hl := (ck_len hc).2
 subst hn
 have hw : ∀ j, wB T T.length 0 j < 4096 := fun j => by rw [wB_cl]; exact Nat.lt_of_lt_of_le (clO_lt T j T.length) (Nat.pow_le_pow_right (by decide) hl)
 have ha : ∀ j, wA T T.length 0 j < 4096 := fun j => wA_lt hl (by omega) _ j
 refine GrT.of (SC_ok r) (rd_okJ (cap := cap) hmt hM rfl hc (fun r => tw_or hl hw x) (fun r => th_or hl hw ha x)) .nil rfl ⟨2, 3, ?_⟩
 have hn' := juS r b off T.length cap T.length (wB T T.length 0) (wA T T.length 0) x
 simp only [svv_rfl, cond_true] at hn'
 refine ((hn' _ _).trans (fin_b _)).trans ?_
 unfold twB
 by_cases c : insB T.length x = true
 ·have hi := insB_iff.1 c
  unfold m_bv
  rw [wB_bitJ (toN hi.1), wB_bitJ (toN hi.2.2.1), wB_bitJ (toN hi.1), wB_bitJ (toN hi.2.2.1)]
 ·have c : insB T.length x = false := by simpa using c
  rw [c, Bool.false_and, Bool.false_and]
end
end Go.Proofs
namespace Go.Proofs
open Go Go.Ev Go.Num
section
variable {r : Mem} {b off n cap : Nat} {T : List (List Bool)}
theorem qe_t (y : Nat → Nat) (i : Nat) : qe y i = true := eqv_i _
theorem tab_all (hM : TabM r b off T) (hc : ckO T = true) (hn : T.length = n) : ∃ b2 o2 c2 : Nat → Nat, ∀ i, i < n → r b (off + i) = some (RS (b2 i) (o2 i) n (c2 i)) ∧ ∀ k, k < n → r (b2 i) (o2 i + k) = some (.bool (gT T i k)) := by
 subst hn
 have h : ∀ i, ∃ q : Nat × Nat × Nat, i < T.length → r b (off + i) = some (RS q.1 q.2.1 T.length q.2.2) ∧ ∀ k, k < T.length → r q.1 (q.2.1 + k) = some (.bool (gT T i k)) := fun i => by
  by_cases hi : i < T.length
  ·have hr := (ck_row hc hi).1
   obtain ⟨b2, o2, c2, h1, h2⟩ := tab_RS hM hi (by rw [hr]; omega)
   rw [hr] at h1 h2
   exact ⟨(b2, o2, c2), fun _ => ⟨h1, h2⟩⟩
  ·exact ⟨(0, 0, 0), fun h => absurd h hi⟩
 exact ⟨fun i => (Classical.choose (h i)).1, fun i => (Classical.choose (h i)).2.1, fun i => (Classical.choose (h i)).2.2, fun i hi => Classical.choose_spec (h i) hi⟩
theorem rf_ov (hM : TabM r b off T) (hn : T.length = n) (hc : ckO T = true) {y z : Nat} (hy : y < n) (hz : z < n) : GrT Tryz.prog r 28 [RS b off n cap, I (y : Nat), I (z : Nat)] (.bool (m_ovv T (y : Nat) (z : Nat))) := by
 obtain ⟨b2, o2, c2, h⟩ := tab_all hM hc hn
 refine GrT.of (C := SS r 2) (SS_ok r 2) TOk.nil .nil rfl ⟨2, 3, ?_⟩
 have hn' := jrO r b off n cap y z
 have b1 : Nat.blt y n = true := Nat.ble_eq_true_of_le hy
 have b2' : Nat.blt z n = true := Nat.ble_eq_true_of_le hz
 have e0 : ∀ o k : Nat, Nat.add o (Nat.mul k 1) = o + k := fun o k => by simp
 simp only [tnO, b1, b2', e0, (h y hy).1, (h z hz).1, (h y hy).2 z hz, (h z hz).2 y hy, ro_RS, ln_RS, bk_RS, of_RS, b_bl, o_bl, cond_true] at hn'
 refine hn'.trans ?_
 have e1 : (Int.ofNat y != Int.ofNat z) = decide ((y : Int) ≠ (z : Int)) := by
  rw [Bool.eq_iff_iff]; simp
 rw [e1]
 unfold m_ovv
 simp only [Int.toNat_natCast]
 cases decide ((y : Int) ≠ (z : Int)) <;> cases gT T y z <;> cases gT T z y <;> rfl
theorem eOv_ok (hM : TabM r b off T) (hn : T.length = n) (hc : ckO T = true) {sh : Nat} : EOk (SS r sh) 28 (eOv (RS b off n cap) n T) := EOk.ent fun args A hgd => by
 split at hgd
 ·rename_i o y z
  obtain ⟨rfl, h1, h2, h3, h4⟩ := @of_decide_eq_true _ (Classical.propDecidable _) hgd
  have h := rf_ov (cap := cap) hM hn hc (y := y.toNat) (z := z.toNat) (by omega) (by omega)
  rw [show ((y.toNat : Nat) : Int) = y by omega, show ((z.toNat : Nat) : Int) = z by omega] at h
  exact GrT.ro (C := SS r sh) h (by rfl) A
 ·cases hgd
theorem tIn_ok (hM : TabM r b off T) (hn : T.length = n) (hc : ckO T = true) {x : Nat → Int} {v : Bool} (hv : insB n x = v) : TOk (SC r) (tIn (RS b off n cap) n T x v) := (TOk.nil.cons (eOv_ok (sh := 0) hM hn hc)).cons (eV_ok rfl (by subst hv; exact in_ok x))
theorem ov_t {s : Value} {x y : Int} (hx : 0 ≤ x ∧ x < n) (hy : 0 ≤ y ∧ y < n) : m_ov s s n x y = true := @decide_eq_true _ (Classical.propDecidable _) ⟨rfl, hx.1, hx.2, hy.1, hy.2⟩
theorem rf_tw (hM : TabM r b off T) (hn : T.length = n) (hc : ckO T = true) (x : Nat → Int) : GrT Tryz.prog r 13 [RS b off n cap, x4 x] (.bool (twB T x)) := by
 subst hn
 by_cases c : insB T.length x = true
 ·obtain ⟨y, hy, hxy, hyn⟩ := x4_nat c
  have c2 : insB T.length (fun i => (y i : Nat)) = true := by
   rw [insB_iff]
   have h0 := hyn 0 (by omega)
   have h1 := hyn 1 (by omega)
   have h2 := hyn 2 (by omega)
   have h3 := hyn 3 (by omega)
   exact ⟨⟨by omega, by omega⟩, ⟨by omega, by omega⟩, ⟨by omega, by omega⟩, by omega, by omega⟩
  unfold twB
  rw [hy, c, hxy 0 (by omega), hxy 1 (by omega), hxy 2 (by omega), hxy 3 (by omega)]
  obtain ⟨b2, o2, c2', h⟩ := tab_all hM hc rfl
  refine GrT.of (C := SS r 2) (SS_ok r 2) (TOk.sh 2 (tIn_ok (cap := cap) hM rfl hc c2)) .nil rfl ⟨2, 3, ?_⟩
  have hn' := jrT r b off T.length cap y T
  have b1 : ∀ i, i < 4 → Nat.blt (y i) T.length = true := fun i hi => Nat.ble_eq_true_of_le (hyn i hi)
  have e0 : ∀ o k : Nat, Nat.add o (Nat.mul k 1) = o + k := fun o k => by simp
  have h0 := hyn 0 (by omega)
  have h1 := hyn 1 (by omega)
  have h2 := hyn 2 (by omega)
  have h3 := hyn 3 (by omega)
  simp only [svv_rfl, qe_t, eqv_i, eqv_x4, tnO, b1 0 (by omega), b1 1 (by omega), b1 2 (by omega), b1 3 (by omega), e0, (h _ h0).1, (h _ h2).1, (h _ h0).2 _ h1, (h _ h2).2 _ h3, (h _ h0).2 _ h3, (h _ h2).2 _ h1, ro_RS, ln_RS, bk_RS, of_RS, b_bl, o_bl, cond_true] at hn'
  refine hn'.trans ?_
  simp only [Int.toNat_natCast]
  cases gT T (y 0) (y 1) <;> cases gT T (y 2) (y 3) <;> cases gT T (y 0) (y 3) <;> cases gT T (y 2) (y 1) <;> rfl
 ·have c : insB T.length x = false := by simpa using c
  refine GrT.of (SC_ok r) (tIn_ok (cap := cap) hM rfl hc c) .nil rfl ⟨2, 3, ?_⟩
  have hn' := jrTf r b off T.length cap x T
  simp only [svv_rfl, eqv_x4, cond_true] at hn'
  refine hn'.trans ?_
  unfold twB
  rw [c]; rfl
theorem rf_th (hM : TabM r b off T) (hn : T.length = n) (hc : ckO T = true) (x : Nat → Int) : GrT Tryz.prog r 21 [RS b off n cap, x4 x] (.bool (thB T x)) := by
 subst hn
 by_cases c : insB T.length x = true
 ·obtain ⟨y, hy, hxy, hyn⟩ := x4_nat c
  have c2 : insB T.length (fun i => (y i : Nat)) = true := by
   rw [insB_iff]
   have h0 := hyn 0 (by omega)
   have h1 := hyn 1 (by omega)
   have h2 := hyn 2 (by omega)
   have h3 := hyn 3 (by omega)
   exact ⟨⟨by omega, by omega⟩, ⟨by omega, by omega⟩, ⟨by omega, by omega⟩, by omega, by omega⟩
  have i2 := insB_iff.1 c2
  unfold thB
  rw [hy, c, hxy 0 (by omega), hxy 1 (by omega), hxy 2 (by omega), hxy 3 (by omega)]
  obtain ⟨b2, o2, c2', h⟩ := tab_all hM hc rfl
  refine GrT.of (C := SS r 2) (SS_ok r 2) (TOk.sh 2 (tIn_ok (cap := cap) hM rfl hc c2)) .nil rfl ⟨2, 3, ?_⟩
  have hn' := jrH r b off T.length cap y T
  have b1 : ∀ i, i < 4 → Nat.blt (y i) T.length = true := fun i hi => Nat.ble_eq_true_of_le (hyn i hi)
  have e0 : ∀ o k : Nat, Nat.add o (Nat.mul k 1) = o + k := fun o k => by simp
  have h0 := hyn 0 (by omega)
  have h1 := hyn 1 (by omega)
  have h2 := hyn 2 (by omega)
  have h3 := hyn 3 (by omega)
  have v0 : m_ov (RS b off T.length cap) (RS b off T.length cap) T.length (Int.ofNat (y 3)) (Int.ofNat (y 0)) = true := ov_t i2.2.2.2 i2.1
  have v1 : m_ov (RS b off T.length cap) (RS b off T.length cap) T.length (Int.ofNat (y 3)) (Int.ofNat (y 1)) = true := ov_t i2.2.2.2 i2.2.1
  have v2 : m_ov (RS b off T.length cap) (RS b off T.length cap) T.length (Int.ofNat (y 3)) (Int.ofNat (y 2)) = true := ov_t i2.2.2.2 i2.2.2.1
  simp only [svv_rfl, qe_t, eqv_i, eqv_x4, v0, v1, v2, tnO, b1 0 (by omega), b1 1 (by omega), b1 2 (by omega), b1 3 (by omega), e0, (h _ h0).1, (h _ h1).1, (h _ h0).2 _ h1, (h _ h1).2 _ h2, ro_RS, ln_RS, bk_RS, of_RS, b_bl, o_bl, cond_true] at hn'
  refine hn'.trans ?_
  simp only [Int.toNat_natCast, Int.ofNat_eq_natCast]
  cases gT T (y 0) (y 1) <;> cases gT T (y 1) (y 2) <;> cases m_ovv T (y 3 : Nat) (y 0 : Nat) <;> cases m_ovv T (y 3 : Nat) (y 1 : Nat) <;> cases m_ovv T (y 3 : Nat) (y 2 : Nat) <;> rfl
 ·have c : insB T.length x = false := by simpa using c
  refine GrT.of (SC_ok r) (tIn_ok (cap := cap) hM rfl hc c) .nil rfl ⟨2, 3, ?_⟩
  have hn' := jrHf r b off T.length cap x T
  simp only [svv_rfl, eqv_x4, cond_true] at hn'
  refine hn'.trans ?_
  unfold thB
  rw [c]; rfl
end
end Go.Proofs
namespace Go.Proofs
open Go Go.Ev Go.Num
end Go.Proofs
namespace Go.Proofs
open Go Go.Ev Go.Num
theorem e0w (o k : Nat) : Nat.add o (Nat.mul k 1) = o + k := by simp
section
variable {r : Mem}
end
section
variable {r : Mem} {b off n cap b2 o2 k c2 : Nat} {T : List (List Bool)} {z : Nat → Int} {w : Int}
end
end Go.Proofs
namespace Go.Proofs
open Go Go.Ev Go.Num
theorem bvI (a : Nat) (h : a < 65536) : (BitVec.ofInt 64 (a : Int)).toNat = a := by
 rw [BitVec.ofInt_natCast, BitVec.toNat_ofNat]
 exact Nat.mod_eq_of_lt (by omega)
theorem orI {a b : Nat} (ha : a < 4096) (hb : b < 4096) : ibits .or .i64 (a : Int) (b : Int) = ((a ||| b : Nat) : Int) := by
 have e1 : (BitVec.ofInt 64 (a : Int) ||| BitVec.ofInt 64 (b : Int)).toNat = a ||| b := by rw [BitVec.toNat_or, bvI a (by omega), bvI b (by omega)]
 show IntKind.wrap .i64 ((BitVec.ofInt 64 (a : Int) ||| BitVec.ofInt 64 (b : Int)).toNat : Int) = _
 have h : a ||| b < 4096 := Nat.or_lt_two_pow (n := 12) ha hb
 rw [e1, wrI (by omega)]
theorem shl12 {k : Nat} (h : k ≤ 12) : IntKind.wrap .i64 (Int.ofNat 1 * Int.ofNat 2 ^ min k 64) = ((2 ^ k : Nat) : Int) := by
 have h2 : 2 ^ k ≤ 4096 := Nat.pow_le_pow_right (n := 2) (by decide) h
 rw [Nat.min_eq_left (by omega), show (Int.ofNat 1 * Int.ofNat 2 ^ k : Int) = ((2 ^ k : Nat) : Int) by simp]
 generalize 2 ^ k = x at *
 exact wrI (by omega)
theorem shr12 (s : Nat) {k : Nat} (h : k ≤ 12) : Int.fdiv (Int.ofNat s) (Int.ofNat 2 ^ min k 64) = ((s / 2 ^ k : Nat) : Int) := by
 rw [Nat.min_eq_left (by omega), show (Int.ofNat 2 ^ k : Int) = ((2 ^ k : Nat) : Int) by simp, Int.fdiv_eq_ediv_of_nonneg _ (Int.natCast_nonneg _)]
 rfl
section
variable {r : Mem} {b off n cap : Nat} {T : List (List Bool)}
theorem bf_ok (hM : TabM r b off T) (hn : T.length = n) (hc : ckO T = true) {x : Nat} (hx : x < n) : GrT Tryz.prog r 42 [RS b off n cap, I (x : Nat)] (I (clW T x : Nat)) := by
 obtain ⟨rb, ro, rc2, hrow⟩ := tab_all hM hc hn
 have hl := ck_len hc
 refine GrT.ofS (C := SC r) rfl rfl rfl (callO (SC_ok r) (by kernel_rfl) ((bodySC r _).trans Bf_eq) (nt := 25) (by kernel_rfl) (rs := [.tmp 4]) (by kernel_rfl) 115 rfl ⟨[4], [], fun vs ms os => vs = [some (I (clW T x : Nat))] ∧ ms = [] ∧ os = []⟩ ?_ fun γ W F kk hwr hF hro h0' => ?_)
 ·rintro vs ms os ⟨rfl, rfl, rfl⟩
  exact ⟨_, mkA [], by kernel_rfl, rfl⟩
 have h0' : ∀ i, 0 ≤ i → γ i = none := h0'
 refine Go.Ev.Reach.after3R (SC_ok r) TOk.nil (tm := .nil) (L := 1) (L' := 1) (d := 1) hF hro h0' (.step (.step .base)) (o1 := ⟨lvBf, [], fun vs ms os => vs = vBf b off n cap x 0 0 ∧ ms = [] ∧ os = []⟩) (o2 := ⟨[5], [], fun vs ms os => vs = [some (I (clW T x : Nat))] ∧ ms = [] ∧ os = []⟩) [] (fun p hp => nomatch hp) ?_ ?_ ((bfA r b off n cap x _ _ _ _).trans (qq_ok ⟨rfl, rfl, rfl⟩))
 ·rintro vs ms os ⟨rfl, rfl, rfl⟩
  refine Go.Ev.Reach.blockC (Go.Ev.Reach.loopC (j := n) (lv := lvBf) (fl := []) (I := fun j vs ms os => ∃ k : Nat, k ≤ n ∧ j = n - k ∧ vs = vBf b off n cap x (clO T x k) k ∧ ms = [] ∧ os = []) (fun j vs ms os hI => ?_) ⟨0, by omega, rfl, rfl, rfl, rfl⟩)
  obtain ⟨k, hk, rfl, rfl, rfl, rfl⟩ := hI
  refine segSh 2 TOk.nil (tm := .nil) (L := 1) (L' := 1) (d := 1) hF hro h0' [(0, ⟨[5], [], fun vs ms os => vs = [some (I (clW T x : Nat))] ∧ ms = [] ∧ os = []⟩)] (fun p hp => by simp only [List.mem_cons, List.not_mem_nil, or_false] at hp; subst hp; rfl) ?_
  have hn' := bfB r b off n cap x (clO T x k) k
  simp only [tnO] at hn'
  by_cases c : k < n
  ·have q1 : Nat.blt k n = true := Nat.ble_eq_true_of_le c
   have q2 : Nat.blt x n = true := Nat.ble_eq_true_of_le hx
   have q3 := lt12 (show k ≤ 12 by omega) (clO_lt T x k)
   have q4 : 2 ^ k < 4096 := Nat.pow_lt_pow_right (n := 12) (by decide) (by omega)
   have q5 : ibits BinOp.or IntKind.i64 (Int.ofNat (clO T x k)) ((2 ^ k : Nat) : Int) = ((clO T x k ||| 2 ^ k : Nat) : Int) := orI q3 q4
   simp only [dT (show Int.ofNat k < Int.ofNat n by simp; omega), q1, q2, e0w, (hrow k c).1, (hrow k c).2 x hx, ro_RS, ln_RS, bk_RS, of_RS, b_bl, o_bl, cond_true] at hn'
   simp only [shl12 (show k ≤ 12 by omega), q5] at hn'
   rw [show IntKind.wrap .i64 (Int.ofNat k + Int.ofNat 1) = ((k + 1 : Nat) : Int) from inc1 (by omega)] at hn'
   cases hg : gT T k x with
   | true =>
    simp only [hg, cond_true] at hn'
    exact (hn' _ _ _ _).trans (qq_ok ⟨n - (k + 1), by omega, k + 1, c, rfl, by rw [clO, if_pos hg]; rfl, rfl, rfl⟩)
   | false =>
    simp only [hg, cond_false] at hn'
    exact (hn' _ _ _ _).trans (qq_ok ⟨n - (k + 1), by omega, k + 1, c, rfl, by rw [clO, if_neg (by rw [hg]; simp)]; rfl, rfl, rfl⟩)
  ·obtain rfl : k = n := by omega
   simp only [dF (show ¬ Int.ofNat k < Int.ofNat k by simp), cond_false] at hn'
   exact (hn' _ _ _ _).trans (qq_ok ⟨by unfold clW; rw [hn]; rfl, rfl, rfl⟩)
 ·rintro vs ms os ⟨rfl, rfl, rfl⟩
  exact Go.Ev.Reach.segR (SC_ok r) TOk.nil (tm := .nil) (L := 1) (L' := 1) (d := 1) hF hro h0' [] (fun p hp => nomatch hp) ((bfC r (clW T x) _ _ _ _).trans (qq_ok ⟨rfl, rfl, rfl⟩))
theorem sz_ok {s : Nat} (hs : s < 4096) : GrT Tryz.prog r 62 [I (s : Nat)] (I (szN s : Nat)) := by
 refine GrT.ofS (C := SC r) rfl rfl rfl (callL (SC_ok r) (by kernel_rfl) ((bodySC r _).trans Sz_eq) (nt := 18) (by kernel_rfl) (rs := [.tmp 2]) (by kernel_rfl) 29 rfl (.step (.step .base)) TOk.nil (tm := .nil) (L := 1) (d := 1) lvSz []
  (fun j vs ms os => ∃ k, k ≤ 12 ∧ j = 12 - k ∧ vs = vSz s (szK s k) k ∧ ms = [] ∧ os = [])
  ⟨[3], [], fun vs ms os => vs = [some (I (szN s : Nat))] ∧ ms = [] ∧ os = []⟩
  ⟨[2], [], fun vs ms os => vs = [some (I (szN s : Nat))] ∧ ms = [] ∧ os = []⟩ ?_ ?_ ?_ ?_)
 ·exact (szA r s _ _ _ _).trans (qq_ok ⟨12, 0, Nat.zero_le _, rfl, rfl, rfl, rfl⟩)
 ·rintro j vs ms os ⟨k, hk, rfl, rfl, rfl, rfl⟩
  refine ⟨_, TOk.nil, .nil, 1, 1, 1, ?_⟩
  have hn' := szB r s (szK s k) k
  simp only [tnO, shr12 s hk] at hn'
  have hz : szK s (k + 1) = szK s k + s / 2 ^ k % 2 := rfl
  by_cases c : s / 2 ^ k = 0
  ·rw [c] at hn'
   simp only [dF (show ¬ ((0 : Nat) : Int) > 0 by omega), cond_false] at hn'
   exact (hn' _ _ _ _).trans (qq_ok ⟨by rw [← szK_end hs hk c]; rfl, rfl, rfl⟩)
  ·have hk2 : k ≠ 12 := fun e => c (by subst e; exact Nat.div_eq_of_lt hs)
   have h1 := szK_le s k
   obtain ⟨y, hy⟩ : ∃ y, s / 2 ^ k = y := ⟨_, rfl⟩
   rw [hy] at hn' hz c
   have e1 : IntKind.wrap .i64 (Int.ofNat (szK s k) + Int.tmod ((y : Nat) : Int) (Int.ofNat 2)) = ((szK s (k + 1) : Nat) : Int) := by
    have e2 : Int.tmod ((y : Nat) : Int) (Int.ofNat 2) = ((y % 2 : Nat) : Int) := rfl
    have e3 : Int.ofNat (szK s k) = ((szK s k : Nat) : Int) := rfl
    rw [e2, e3, hz, wrI (by omega)]
    omega
   simp only [dT (show ((y : Nat) : Int) > 0 by omega), cond_true, e1] at hn'
   rw [show IntKind.wrap .i64 (Int.ofNat k + Int.ofNat 1) = ((k + 1 : Nat) : Int) from inc1 (by omega)] at hn'
   exact (hn' _ _ _ _).trans (qq_ok ⟨12 - (k + 1), by omega, k + 1, by omega, rfl, rfl, rfl, rfl⟩)
 ·rintro vs ms os ⟨rfl, rfl, rfl⟩
  exact ⟨_, TOk.nil, .nil, 1, 1, 1, (szC r _ _ _ _ _).trans (qq_ok ⟨rfl, rfl, rfl⟩)⟩
 ·rintro vs ms os ⟨rfl, rfl, rfl⟩
  exact ⟨_, mkA [], by kernel_rfl, rfl⟩
theorem eBe_ok (hM : TabM r b off T) (hn : T.length = n) (hc : ckO T = true) : EOk (SC r) 42 (eBe (RS b off n cap) n (clW T)) := EOk.ent fun args A hgd => by
 split at hgd
 ·rename_i o y
  obtain ⟨rfl, h1, h2⟩ := @of_decide_eq_true _ (Classical.propDecidable _) hgd
  have h := bf_ok (cap := cap) hM hn hc (x := y.toNat) (by omega)
  rw [show ((y.toNat : Nat) : Int) = y by omega] at h
  exact h.ro (by rfl) A
 ·cases hgd
theorem eS12_ok : EOk (SC r) 62 eS12 := EOk.ent fun args A hgd => by
 split at hgd
 ·rename_i s
  have h0 := of_decide_eq_true hgd
  have h := sz_ok (r := r) (s := s.toNat) (by omega)
  rw [show ((s.toNat : Nat) : Int) = s by omega] at h
  exact h.ro (by rfl) A
 ·cases hgd
theorem tRs_ok (hM : TabM r b off T) (hn : T.length = n) (hc : ckO T = true) : TOk (SC r) (tRs (RS b off n cap) n (clW T)) := (TOk.nil.cons eS12_ok).cons (eBe_ok hM hn hc)
end
end Go.Proofs
namespace Go.Proofs
open Go Go.Ev Go.Num
noncomputable def Ru_1 : Code := lc Rs_7
noncomputable def Ru_2 : Code := lc (rc Rs_7)
noncomputable def Ru_3 : Code := lc (rc (rc Rs_7))
noncomputable def Ru_4 : Code := lc (rc (rc (rc Rs_7)))
noncomputable def Ru_5 : Code := rc (rc (rc (rc Rs_7)))
theorem Ru_eq : Rs_7 = (.seq Ru_1 (.seq Ru_2 (.seq Ru_3 (.seq Ru_4 Ru_5)))) := by kernel_rfl
def lvRo : List Nat := [0, 3, 4, 6, 7]
def vRo (b off n cap x q k : Nat) : OV := [some (RS b off n cap), some (gx 0 q), some (I (x : Nat)), some (I (k : Nat)), some (gx 1 (k + 1))]
theorem ruA (r : Mem) (b off n cap x q s k : Nat) (c : List Value) (fs : FnsC) (K : KO) (KX : Nat → KO) (kr : KS) : run (SC r) 253 78 1 Ru_1 fs none (rbK 0 lvRm [] K) (fun j => rbK 0 lvRn [] (KX j)) kr [] (bT lvRm (vRm b off n cap x (gx 0 q) s k) .nil) [] (mkA [oI1 c 0]) =
    bif decide (Int.ofNat k < Int.ofNat q) then bif Nat.blt (Int.toNat (Int.ofNat k)) q then Option.casesOn c[Nat.add 0 (Nat.mul (Int.toNat (Int.ofNat k)) 1)]? (.fail 423) fun val => bif isI IntKind.i64 val then bif ofI val == Int.ofNat s then bif m_nns c && true then KX 1 [some (RS b off n cap), some (gx 0 q), some (I (Int.ofNat x))] [] [some (.cells c 3 0 1)] else F4 else bif m_nns c && true then K [some (RS b off n cap), some (gx 0 q), some (I (Int.ofNat x)), some (I (Int.ofNat s)), some (I (Int.ofNat k))] [] [some (.cells c 3 0 1)] else F4 else F4 else F4 else bif m_nns c && true then K [some (RS b off n cap), some (gx 0 q), some (I (Int.ofNat x)), some (I (Int.ofNat s)), some (I (Int.ofNat k))] [] [some (.cells c 3 0 1)] else F4 := by kernel_rfl
theorem ruB (r : Mem) (b off n cap x q s k : Nat) (c : List Value) (fs : FnsC) (K : KO) (kx : Nat → KS) (kr : KS) : run (SC r) 253 78 1 (.seq Ru_2 (.seq Ru_3 Ru_4)) fs none (rbK 0 lvRo [] K) kx kr [] (bT lvRm (vRm b off n cap x (gx 0 q) s k) .nil) [] (mkA [oI1 c 0]) =
    bif Nat.ble (Int.toNat (Int.ofNat k)) q then bif Nat.ble (Nat.add 0 (Int.toNat (Int.ofNat k))) 1000000 then Option.casesOn (takeAt c 0 (Nat.mul (Int.toNat (Int.ofNat k)) 1)) (.fail 443) fun val => bif Nat.beq (List.length val) (Nat.mul (Int.toNat (Int.ofNat k)) 1) then bif Nat.beq (Int.toNat (Int.ofNat k)) 0 then bif m_nns c && (m_nns [I (Int.ofNat s)] && true) then K [some (RS b off n cap), some (gx 0 q), some (I (Int.ofNat x)), some (I (Int.ofNat k)), some (.slice (some ⟨1, 0, none⟩) 1 unk)] [] [some (.cells c 3 0 1), some (.cells [I (Int.ofNat s)] 3 1 1)] else F4 else bif Nat.ble (Nat.add (Int.toNat (Int.ofNat k)) 1) 1000000 then Option.casesOn (takeAt val 0 (Nat.mul (Int.toNat (Int.ofNat k)) 1)) (.fail 439) fun val => bif m_nns c && (m_nns (val ++ [I (Int.ofNat s)]) && true) then K [some (RS b off n cap), some (gx 0 q), some (I (Int.ofNat x)), some (I (Int.ofNat k)), some (.slice (some ⟨1, 0, none⟩) (Nat.add (Int.toNat (Int.ofNat k)) 1) unk)] [] [some (.cells c 3 0 1), some (.cells (val ++ [I (Int.ofNat s)]) 3 1 1)] else F4 else F4 else F4 else F4 else F4 := by kernel_rfl
theorem ruC (r : Mem) (b off n cap x q k : Nat) (c d : List Value) (fs : FnsC) (K : KO) (kx : Nat → KS) (kr : KS) : run (SC r) 253 78 1 Ru_5 fs none (rbK 0 lvRn [] K) kx kr [] (bT lvRo (vRo b off n cap x q k) .nil) [] (mkA [oI1 c 0, oI1 d 1]) =
    bif Nat.ble (Int.toNat (Int.ofNat k)) q then bif Nat.ble q q then bif Nat.beq (Int.toNat (Int.ofNat k)) 0 then bif Nat.ble (Nat.add (k + 1) q) 1000000 then Option.casesOn (takeAt c 0 (Nat.mul q 1)) (.fail 443) fun val => bif Nat.beq (List.length val) (Nat.mul q 1) then bif Nat.beq q 0 then bif m_nns d && true then K [some (RS b off n cap), some (.slice (some ⟨0, 0, none⟩) (k + 1) unk), some (I (Int.ofNat x))] [] [some (.cells d 3 0 1)] else F4 else bif Ev.ones val then Option.casesOn (takeAt d 0 (Nat.mul (k + 1) 1)) (.fail 439) fun val_1 => bif m_nns (val_1 ++ val) && true then K [some (RS b off n cap), some (.slice (some ⟨0, 0, none⟩) (Nat.add (k + 1) q) unk), some (I (Int.ofNat x))] [] [some (.cells (val_1 ++ val) 3 0 1)] else F4 else F4 else F4 else F4 else bif Nat.blt (Int.toNat (Int.ofNat k)) q then bif Nat.ble (Nat.add (k + 1) (Nat.sub q (Int.toNat (Int.ofNat k)))) 1000000 then Option.casesOn (takeAt c (Nat.add 0 (Nat.mul (Int.toNat (Int.ofNat k)) 1)) (Nat.mul (Nat.sub q (Int.toNat (Int.ofNat k))) 1)) (.fail 443) fun val => bif Nat.beq (List.length val) (Nat.mul (Nat.sub q (Int.toNat (Int.ofNat k))) 1) then bif Nat.beq (Nat.sub q (Int.toNat (Int.ofNat k))) 0 then bif m_nns d && true then K [some (RS b off n cap), some (.slice (some ⟨0, 0, none⟩) (k + 1) unk), some (I (Int.ofNat x))] [] [some (.cells d 3 0 1)] else F4 else bif Ev.ones val then Option.casesOn (takeAt d 0 (Nat.mul (k + 1) 1)) (.fail 439) fun val_1 => bif m_nns (val_1 ++ val) && true then K [some (RS b off n cap), some (.slice (some ⟨0, 0, none⟩) (Nat.add (k + 1) (Nat.sub q (Int.toNat (Int.ofNat k)))) unk), some (I (Int.ofNat x))] [] [some (.cells (val_1 ++ val) 3 0 1)] else F4 else F4 else F4 else F4 else bif Nat.ble (Nat.add (k + 1) 0) 1000000 then bif m_nns d && true then K [some (RS b off n cap), some (.slice (some ⟨0, 0, none⟩) (k + 1) unk), some (I (Int.ofNat x))] [] [some (.cells d 3 0 1)] else F4 else F4 else F4 else F4 := by kernel_rfl
end Go.Proofs
namespace Go.Proofs
open Go Go.Ev Go.Num
def eI (l : List Nat) : List Int := l.map fun x : Nat => (x : Int)
theorem eI_len (l : List Nat) : (eI l).length = l.length := by simp [eI]
theorem eI_get {l : List Nat} {k : Nat} (h : k < l.length) : (eI l).getD k 0 = ((l[k] : Nat) : Int) := by simp [eI, h]
theorem insU_at {s : Nat} : ∀ {l : List Nat} {k : Nat}, (∀ j, (h : j < l.length) → j < k → ltS l[j] s = true) → k ≤ l.length → (∀ h : k < l.length, ltS l[k] s = false) →
  insU s l = (if ∃ h : k < l.length, l[k] = s then l else l.take k ++ s :: l.drop k)
 | [], k, _, hk, _ => by
  have : k = 0 := by simpa using hk
  subst this
  simp [insU]
 | y :: l, 0, _, _, hf => by
  have h0 := hf (by simp)
  simp only [List.getElem_cons_zero] at h0
  rw [insU, h0, cond_false]
  by_cases c : y = s
  ·subst c
   rw [Nat.beq_refl, cond_true, if_pos ⟨by simp, rfl⟩]
  ·rw [natFx c, cond_false, if_neg (fun ⟨_, h⟩ => c h)]
   simp
 | y :: l, k + 1, hp, hk, hf => by
  have h0 := hp 0 (by simp) (by omega)
  simp only [List.getElem_cons_zero] at h0
  have ih := insU_at (s := s) (l := l) (k := k) (fun j hj hjk => by
   have := hp (j + 1) (by simpa using hj) (by omega)
   simpa using this) (by simpa using hk) (fun h => by
   have := hf (by simpa using h)
   simpa using this)
  rw [insU, h0, cond_true, ih]
  by_cases c : ∃ h : k < l.length, l[k] = s
  ·rw [if_pos c, if_pos]
   obtain ⟨h1, h2⟩ := c
   exact ⟨by simpa using h1, by simpa using h2⟩
  ·rw [if_neg c, if_neg]
   ·simp
   ·rintro ⟨h1, h2⟩
    exact c ⟨by simpa using h1, by simpa using h2⟩
theorem rs_lt {w : Nat → Nat} (hw : ∀ j, w j < 4096) {n k : Nat} (h : k < (rsN w n).length) : (rsN w n)[k] < 4096 := by
 obtain ⟨j, _, e⟩ := rsN_mem.1 (List.getElem_mem h)
 rw [← e]; exact hw j
section
variable {r : Mem} {b off n cap : Nat} {T : List (List Bool)}
theorem sy_round (hM : TabM r b off T) (hn : T.length = n) (hc : ckO T = true) {w : Nat → Nat} (hwT : w = clW T) (hw : ∀ j, w j < 4096) {x : Nat} (hx : x < n) (hn12 : n ≤ 12) (hx1 : 1 ≤ x) {F : Fence} {kk : Nat} {γ : Gam} {W : World} (hF : Wide F) (hro : RoRel γ none F.round) (h0' : ∀ i, 0 ≤ i → γ i = none) {ox : Nat → Outs} {orr : Outs} :
  Go.Ev.Reach (SC r) 253 78 F kk γ W (.block 1 (.seq Rs_4 (.seq Rs_5 (.seq (.block 2 (.loop Rs_6)) Rs_7)))) (St.of lvRn (vRn b off n cap x (gx 0 (rsN w x).length)) [] [oI1 (rowI (eI (rsN w x))) 0]) (CanQ (SC r) 253 78 γ W ⟨lvRn, [], fun vs ms os => vs = vRn b off n cap x (gx 0 (rsN w (x + 1)).length) ∧ ms = [] ∧ os = [oI1 (rowI (eI (rsN w (x + 1)))) 0]⟩ ox orr) := by
 have htR : TOk (SC r) (tRs (RS b off n cap) n w) := by rw [hwT]; exact tRs_ok hM hn hc
 obtain ⟨L, hL⟩ : ∃ L, L = rsN w x := ⟨_, rfl⟩
 have hLn : rsN w (x + 1) = insU (w x) L := by rw [hL]; rfl
 have hlen : L.length ≤ x := by rw [hL]; exact rs_len w x
 have hlt : ∀ k, (h : k < L.length) → L[k] < 4096 := fun k h => by subst hL; exact rs_lt hw h
 rw [← hL, hLn]
 have hnn := rowI_nn (eI L)
 refine Go.Ev.Reach.blockC (Go.Ev.Reach.afterR (SC_ok r) htR (tm := .nil) (L := 1) (L' := 1) (d := 1) hF hro h0' (.step .base) (o1 := ⟨lvRm, [], fun vs ms os => vs = vRm b off n cap x (gx 0 L.length) (w x) 0 ∧ ms = [] ∧ os = [oI1 (rowI (eI L)) 0]⟩) [] (fun p hp => nomatch hp) (fun vs ms os hq => ?_) ?_)
 ·obtain ⟨rfl, rfl, rfl⟩ := hq
  refine Go.Ev.Reach.seqC (o1 := ⟨lvRm, [], fun vs ms os => ∃ k, k ≤ L.length ∧ (∀ j, (h : j < L.length) → j < k → ltS L[j] (w x) = true) ∧ (∀ h : k < L.length, ltS L[k] (w x) = false) ∧ vs = vRm b off n cap x (gx 0 L.length) (w x) k ∧ ms = [] ∧ os = [oI1 (rowI (eI L)) 0]⟩) (Go.Ev.Reach.blockC (Go.Ev.Reach.loopC (j := L.length) (lv := lvRm) (fl := []) (I := fun j vs ms os => ∃ k : Nat, k ≤ L.length ∧ j = L.length - k ∧ (∀ j, (h : j < L.length) → j < k → ltS L[j] (w x) = true) ∧ vs = vRm b off n cap x (gx 0 L.length) (w x) k ∧ ms = [] ∧ os = [oI1 (rowI (eI L)) 0]) (fun j vs ms os hI => ?_) ⟨0, by omega, rfl, fun _ _ h => absurd h (by omega), rfl, rfl, rfl⟩)) ?_
  ·obtain ⟨k, hk, rfl, hp, rfl, rfl, rfl⟩ := hI
   refine Go.Ev.Reach.segR (SC_ok r) htR (tm := .nil) (L := 1) (L' := 1) (d := 1) hF hro h0' [(2, ⟨lvRm, [], fun vs ms os => ∃ k, k ≤ L.length ∧ (∀ j, (h : j < L.length) → j < k → ltS L[j] (w x) = true) ∧ (∀ h : k < L.length, ltS L[k] (w x) = false) ∧ vs = vRm b off n cap x (gx 0 L.length) (w x) k ∧ ms = [] ∧ os = [oI1 (rowI (eI L)) 0]⟩)] (fun p hp => by simp only [List.mem_cons, List.not_mem_nil, or_false] at hp; subst hp; rfl) ?_
   have hn' := rzD r b off n cap x L.length (w x) k (rowI (eI L)) w
   simp only [tnO, hnn, Bool.and_true, cond_true] at hn'
   by_cases c : k < L.length
   ·have q1 : Nat.blt k L.length = true := Nat.ble_eq_true_of_le c
    have q2 : (rowI (eI L))[Nat.add 0 (Nat.mul k 1)]? = some (I ((L[k] : Nat) : Int)) := by
     rw [show Nat.add 0 (Nat.mul k 1) = k by simp, rowI_get (by rw [eI_len]; exact c), eI_get c]
    have q3 : m_s12 ((L[k] : Nat) : Int) = true := by have := hlt k c; exact dT (by omega)
    have q4 : m_s12 (Int.ofNat (w x)) = true := by have := hw x; exact dT (by simp; omega)
    have q5 : m_szI ((L[k] : Nat) : Int) = (szN L[k] : Int) := by unfold m_szI; rw [Int.toNat_natCast]
    have q6 : m_szI (Int.ofNat (w x)) = (szN (w x) : Int) := rfl
    simp only [dT (show Int.ofNat k < Int.ofNat L.length by simp; omega), q1, q2, isI_I, cond_true] at hn'
    dsimp +instances only [ofI_I] at hn'
    simp only [q3, q4, q5, q6, cond_true] at hn'
    rw [show IntKind.wrap .i64 (Int.ofNat k + Int.ofNat 1) = ((k + 1 : Nat) : Int) from inc1 (by omega)] at hn'
    have hlts : ltS L[k] (w x) = decide (szN L[k] < szN (w x) ∨ (szN L[k] = szN (w x) ∧ L[k] < w x)) := rfl
    have next : ltS L[k] (w x) = true → ∀ j, (h : j < L.length) → j < k + 1 → ltS L[j] (w x) = true := fun h j hj hjk => by
     by_cases e : j = k
     ·subst e; exact h
     ·exact hp j hj (by omega)
    by_cases d1 : szN L[k] < szN (w x)
    ·simp only [dT (show (szN L[k] : Int) < (szN (w x) : Int) by omega), cond_true] at hn'
     exact (hn' _ _ _).trans (qq_ok ⟨L.length - (k + 1), by omega, k + 1, c, rfl, next (by rw [hlts]; exact dT (.inl d1)), rfl, rfl, rfl⟩)
    ·simp only [dF (show ¬ (szN L[k] : Int) < (szN (w x) : Int) by omega), cond_false] at hn'
     by_cases d2 : szN L[k] = szN (w x)
     ·simp only [eqT (show (szN L[k] : Int) = (szN (w x) : Int) by omega), cond_true] at hn'
      by_cases d3 : L[k] < w x
      ·simp only [dT (show ((L[k] : Nat) : Int) < Int.ofNat (w x) by simp; omega), cond_true] at hn'
       exact (hn' _ _ _).trans (qq_ok ⟨L.length - (k + 1), by omega, k + 1, c, rfl, next (by rw [hlts]; exact dT (.inr ⟨d2, d3⟩)), rfl, rfl, rfl⟩)
      ·simp only [dF (show ¬ ((L[k] : Nat) : Int) < Int.ofNat (w x) by simp; omega), cond_false] at hn'
       exact (hn' _ _ _).trans (qq_ok ⟨k, hk, hp, fun _ => by rw [hlts]; exact dF (by omega), rfl, rfl, rfl⟩)
     ·simp only [eqF (show (szN L[k] : Int) ≠ (szN (w x) : Int) by omega), cond_false] at hn'
      exact (hn' _ _ _).trans (qq_ok ⟨k, hk, hp, fun _ => by rw [hlts]; exact dF (by omega), rfl, rfl, rfl⟩)
   ·obtain rfl : k = L.length := by omega
    simp only [dF (show ¬ Int.ofNat L.length < Int.ofNat L.length by simp), cond_false] at hn'
    exact (hn' _ _ _).trans (qq_ok ⟨L.length, hk, hp, fun h => absurd h c, rfl, rfl, rfl⟩)
  rintro vs ms os ⟨k, hk, hp, hf, rfl, rfl, rfl⟩
  have hins := insU_at hp hk hf
  rw [Ru_eq]
  have hq1 : 1 ≤ L.length := by
   have : w 0 ∈ rsN w x := rsN_mem.2 ⟨0, by omega, rfl⟩
   rw [← hL] at this
   exact List.length_pos_of_mem this
  refine Go.Ev.Reach.seqC (o1 := ⟨lvRm, [], fun vs ms os => (¬ ∃ h : k < L.length, L[k] = w x) ∧ vs = vRm b off n cap x (gx 0 L.length) (w x) k ∧ ms = [] ∧ os = [oI1 (rowI (eI L)) 0]⟩) (Go.Ev.Reach.segR (SC_ok r) TOk.nil (tm := .nil) (L := 1) (L' := 1) (d := 1) hF hro h0' [(1, ⟨lvRn, [], fun vs ms os => vs = vRn b off n cap x (gx 0 (insU (w x) L).length) ∧ ms = [] ∧ os = [oI1 (rowI (eI (insU (w x) L))) 0]⟩)] (fun p hp => by simp only [List.mem_cons, List.not_mem_nil, or_false] at hp; subst hp; rfl) ?_) ?_
  ·have hn' := ruA r b off n cap x L.length (w x) k (rowI (eI L))
   simp only [tnO, hnn, Bool.and_true, cond_true] at hn'
   by_cases c : k < L.length
   ·have q1 : Nat.blt k L.length = true := Nat.ble_eq_true_of_le c
    have q2 : (rowI (eI L))[Nat.add 0 (Nat.mul k 1)]? = some (I ((L[k] : Nat) : Int)) := by
     rw [show Nat.add 0 (Nat.mul k 1) = k by simp, rowI_get (by rw [eI_len]; exact c), eI_get c]
    simp only [dT (show Int.ofNat k < Int.ofNat L.length by simp; omega), q1, q2, isI_I, cond_true] at hn'
    dsimp +instances only [ofI_I] at hn'
    by_cases d : L[k] = w x
    ·simp only [eqT (show ((L[k] : Nat) : Int) = Int.ofNat (w x) by simp; omega), cond_true] at hn'
     rw [if_pos ⟨c, d⟩] at hins
     rw [hins]
     exact (hn' _ _ _ _).trans (qq_ok ⟨rfl, rfl, rfl⟩)
    ·simp only [eqF (show ((L[k] : Nat) : Int) ≠ Int.ofNat (w x) by simp; omega), cond_false] at hn'
     exact (hn' _ _ _ _).trans (qq_ok ⟨fun ⟨_, h⟩ => d h, rfl, rfl, rfl⟩)
   ·simp only [dF (show ¬ Int.ofNat k < Int.ofNat L.length by simp; omega), cond_false] at hn'
    exact (hn' _ _ _ _).trans (qq_ok ⟨fun ⟨h, _⟩ => c h, rfl, rfl, rfl⟩)
  rintro vs ms os ⟨hno, rfl, rfl, rfl⟩
  rw [if_neg hno] at hins
  have hel : (eI L).length = L.length := eI_len L
  have htk : takeAt (rowI (eI L)) 0 k = some (rowI ((eI L).take k)) := rowI_take (by omega)
  have hdl : ((eI L).take k ++ [Int.ofNat (w x)]).length = k + 1 := by simp [hel]; omega
  refine Go.Ev.Reach.afterR (SC_ok r) TOk.nil (tm := .nil) (L := 1) (L' := 1) (d := 1) hF hro h0' (.step (.step .base)) (o1 := ⟨lvRo, [], fun vs ms os => vs = vRo b off n cap x L.length k ∧ ms = [] ∧ os = [oI1 (rowI (eI L)) 0, oI1 (rowI ((eI L).take k ++ [Int.ofNat (w x)])) 1]⟩) [] (fun p hp => nomatch hp) (fun vs ms os hq => ?_) ?_
  ·obtain ⟨rfl, rfl, rfl⟩ := hq
   have hn' := ruC r b off n cap x L.length k (rowI (eI L)) (rowI ((eI L).take k ++ [Int.ofNat (w x)]))
   have hres : eI (insU (w x) L) = (eI L).take k ++ [Int.ofNat (w x)] ++ (eI L).drop k := by
    rw [hins]
    simp [eI, List.map_take, List.map_drop]
   have hrl : (insU (w x) L).length = k + 1 + (L.length - k) := by
    rw [hins]; simp; omega
   rw [hres, hrl]
   have b1 : Nat.ble k L.length = true := Nat.ble_eq_true_of_le hk
   have b2 : Nat.ble L.length L.length = true := Nat.ble_eq_true_of_le (Nat.le_refl _)
   have hdd : takeAt (rowI ((eI L).take k ++ [Int.ofNat (w x)])) 0 (k + 1) = some (rowI ((eI L).take k ++ [Int.ofNat (w x)])) := takeL_row _ _ (by rw [rowI_len, hdl])
   simp only [tnO, Nat.mul_eq, Nat.mul_one, b1, b2, hdd, rowI_nn, Bool.and_true, cond_true] at hn'
   have happ : ∀ e1 e2 : List Int, rowI e1 ++ rowI e2 = rowI (e1 ++ e2) := fun e1 e2 => by simp [rowI]
   by_cases k0 : k = 0
   ·subst k0
    have ht : takeAt (rowI (eI L)) 0 L.length = some (rowI (eI L)) := takeL_row _ _ (by rw [rowI_len, hel])
    simp only [show Nat.beq 0 0 = true from rfl, ht, rowI_len, hel, Nat.beq_refl, natFx (show L.length ≠ 0 by omega), Nat.ble_eq_true_of_le (show Nat.add (0 + 1) L.length ≤ 1000000 by simp; omega), rowI_ones, happ, rowI_nn, Bool.and_true, cond_true, cond_false] at hn'
    exact Go.Ev.Reach.segR (SC_ok r) TOk.nil (tm := .nil) (L := 1) (L' := 1) (d := 1) hF hro h0' [] (fun p hp => nomatch hp) ((hn' _ _ _ _).trans (qq_ok ⟨by rw [Nat.sub_zero]; rfl, rfl, rfl⟩))
   ·by_cases c : k < L.length
    ·have q1 : Nat.blt k L.length = true := Nat.ble_eq_true_of_le c
     have ht : takeAt (rowI (eI L)) (Nat.add 0 k) (Nat.sub L.length k) = some (rowI ((eI L).drop k)) := by
      rw [Nat.add_eq, Nat.zero_add, Nat.sub_eq]
      exact rowI_drop (by omega)
     have hdl2 : (rowI ((eI L).drop k)).length = Nat.sub L.length k := by rw [rowI_len, List.length_drop, hel]; rfl
     simp only [natFx k0, q1, ht, hdl2, Nat.beq_refl, natFx (show Nat.sub L.length k ≠ 0 by rw [Nat.sub_eq]; omega), Nat.ble_eq_true_of_le (show Nat.add (k + 1) (Nat.sub L.length k) ≤ 1000000 by rw [Nat.add_eq, Nat.sub_eq]; omega), rowI_ones, happ, rowI_nn, Bool.and_true, cond_true, cond_false] at hn'
     exact Go.Ev.Reach.segR (SC_ok r) TOk.nil (tm := .nil) (L := 1) (L' := 1) (d := 1) hF hro h0' [] (fun p hp => nomatch hp) ((hn' _ _ _ _).trans (qq_ok ⟨rfl, rfl, rfl⟩))
    ·obtain rfl : k = L.length := by omega
     have q1 : Nat.blt L.length L.length = false := by
      cases h : Nat.blt L.length L.length with
      | false => rfl
      | true => exact absurd (Nat.le_of_ble_eq_true h) (by omega)
     simp only [natFx k0, q1, Nat.ble_eq_true_of_le (show Nat.add (L.length + 1) 0 ≤ 1000000 by simp; omega), cond_true, cond_false] at hn'
     exact Go.Ev.Reach.segR (SC_ok r) TOk.nil (tm := .nil) (L := 1) (L' := 1) (d := 1) hF hro h0' [] (fun p hp => nomatch hp) ((hn' _ _ _ _).trans (qq_ok ⟨by rw [Nat.sub_self]; rfl, rfl, by rw [List.drop_of_length_le (by omega), List.append_nil]; rfl⟩))
  ·have hn' := ruB r b off n cap x L.length (w x) k (rowI (eI L))
   have b1 : Nat.ble k L.length = true := Nat.ble_eq_true_of_le hk
   have hl1 : (rowI ((eI L).take k)).length = k := by rw [rowI_len]; simp [hel]; omega
   have htt : takeAt (rowI ((eI L).take k)) 0 k = some (rowI ((eI L).take k)) := takeL_row _ _ hl1
   simp only [tnO, Nat.mul_eq, Nat.mul_one, b1, Nat.ble_eq_true_of_le (show Nat.add 0 k ≤ 1000000 by simp; omega), htk, hl1, Nat.beq_refl, htt, Nat.ble_eq_true_of_le (show Nat.add k 1 ≤ 1000000 by simp; omega), hnn, cond_true] at hn'
   by_cases k0 : k = 0
   ·subst k0
    simp only [show Nat.beq 0 0 = true from rfl, cond_true] at hn'
    exact (hn' _ _ _ _).trans (qq_ok ⟨rfl, rfl, rfl⟩)
   ·simp only [natFx k0, cond_false] at hn'
    have e1 : rowI ((eI L).take k) ++ [I (Int.ofNat (w x))] = rowI ((eI L).take k ++ [Int.ofNat (w x)]) := by simp [rowI]
    simp only [e1, rowI_nn, Bool.and_true, cond_true] at hn'
    exact (hn' _ _ _ _).trans (qq_ok ⟨rfl, rfl, rfl⟩)
 ·have hn' := rzC r b off n cap x L.length (rowI (eI L)) w
  have e1 : m_bg (.slice (some ⟨b, off, some 0⟩) n cap) n (.slice (some ⟨b, off, some 0⟩) n cap) (Int.ofNat x) = true := @decide_eq_true _ (Classical.propDecidable _) ⟨rfl, by simp, by simp; omega⟩
  simp only [e1, hnn, Bool.and_true, cond_true] at hn'
  exact (hn' _ _ _).trans (qq_ok ⟨rfl, rfl, rfl⟩)
end
end Go.Proofs
namespace Go.Proofs
open Go Go.Ev Go.Num
noncomputable def tRm (s : Value) (k : Nat) (c : List Value) : Tbl := tcons 36 (eNw [s] 3 k c) fun _ => none
noncomputable def tMg (s : Value) (m : Nat) (w a : Nat → Nat) (k : Nat) (c : List Value) : Tbl := tcons 31 (eRd s m w a) (tcons 32 (eNw [.agg ⟨orC m w a⟩] 56 k c) fun _ => none)
theorem rmA (r : Mem) (b off n cap k : Nat) (c : List Value) : (lvlT (SC r) (tRm (RS b off n cap) k c) .nil 1 2).call 12 [RS b off n cap] emptyA fin =
    bif m_svv [.slice (some ⟨b, off, some 0⟩) n cap] [.slice (some ⟨b, off, some 0⟩) n cap] then .ret (I (Int.ofNat k)) (AW.mk 0 .nil .nil) else F4 := by kernel_rfl
theorem mgA (r : Mem) (b off n cap m : Nat) (w a : Nat → Nat) (k : Nat) (c : List Value) : (lvlT (SC r) (tMg (RS b off n cap) m w a k c) .nil 1 2).call 8 [RS b off n cap] emptyA fin =
    bif m_svv [.slice (some ⟨b, off, some 0⟩) n cap] [.slice (some ⟨b, off, some 0⟩) n cap] then bif m_svv [.agg ⟨(orC m w a)⟩] [.agg ⟨(orC m w a)⟩] then .ret (.tuple ⟨[I (Int.ofNat k), I (Int.ofNat 0)]⟩) (AW.mk 0 .nil .nil) else F4 else F4 := by kernel_rfl
section
variable {r : Mem} {b off n cap : Nat} {T : List (List Bool)}
theorem rs_S (hM : TabM r b off T) (hn : T.length = n) (hc : ckO T = true) : SOk (SC r) 36 [RS b off n cap] emptyA fun v A => v = gx 0 (rsN (clW T) n).length ∧ A = mkA [oI1 (rowI (eI (rsN (clW T) n))) 0] := by
 have hl := ck_len hc
 obtain ⟨w, hwT⟩ : ∃ w, w = clW T := ⟨_, rfl⟩
 have hw : ∀ j, w j < 4096 := fun j => by subst hwT; exact lt12 (show T.length ≤ 12 by omega) (clO_lt T j T.length)
 rw [← hwT]
 refine callO (SC_ok r) (by kernel_rfl) ((bodySC r _).trans Rs_eq) (nt := 78) (by kernel_rfl) (rs := [.tmp 2]) (by kernel_rfl) 253 rfl ⟨[2], [], fun vs ms os => vs = [some (gx 0 (rsN w n).length)] ∧ ms = [] ∧ os = [oI1 (rowI (eI (rsN w n))) 0]⟩ ?_ fun γ W F kk hwr hF hro h0' => ?_
 ·rintro vs ms os ⟨rfl, rfl, rfl⟩
  exact ⟨_, mkA [oI1 (rowI (eI (rsN w n))) 0], by kernel_rfl, rfl, rfl⟩
 have h0' : ∀ i, 0 ≤ i → γ i = none := h0'
 refine Go.Ev.Reach.after3R (SC_ok r) TOk.nil (tm := .nil) (L := 1) (L' := 1) (d := 1) hF hro h0' (.step (.step .base)) (o1 := ⟨lvRn, [], fun vs ms os => vs = vRn b off n cap 0 nilT ∧ ms = [] ∧ os = []⟩) (o2 := ⟨[3], [], fun vs ms os => vs = [some (gx 0 (rsN w n).length)] ∧ ms = [] ∧ os = [oI1 (rowI (eI (rsN w n))) 0]⟩) [] (fun p hp => nomatch hp) ?_ ?_ ((rzA r b off n cap _ _ _ _).trans (qq_ok ⟨rfl, rfl, rfl⟩))
 ·rintro vs ms os ⟨rfl, rfl, rfl⟩
  refine Go.Ev.Reach.blockC (Go.Ev.Reach.loopC (j := n) (lv := lvRn) (fl := []) (I := fun j vs ms os => ∃ x : Nat, x ≤ n ∧ j = n - x ∧ ms = [] ∧ ((x = 0 ∧ vs = vRn b off n cap 0 nilT ∧ os = []) ∨ (1 ≤ x ∧ vs = vRn b off n cap x (gx 0 (rsN w x).length) ∧ os = [oI1 (rowI (eI (rsN w x))) 0]))) (fun j vs ms os hI => ?_) ⟨0, by omega, rfl, rfl, .inl ⟨rfl, rfl, rfl⟩⟩)
  obtain ⟨x, hx, rfl, rfl, ⟨rfl, rfl, rfl⟩ | ⟨hx1, rfl, rfl⟩⟩ := hI
  ·refine Go.Ev.Reach.segR (SC_ok r) (t := tRs (RS b off n cap) n w) (by rw [hwT]; exact tRs_ok hM hn hc) (tm := .nil) (L := 3) (L' := 1) (d := 1) hF hro h0' [] (fun p hp => nomatch hp) ?_
   have hn' := rzN r b off n cap w
   have e1 : m_bg (.slice (some ⟨b, off, some 0⟩) n cap) n (.slice (some ⟨b, off, some 0⟩) n cap) (Int.ofNat 0) = true := @decide_eq_true _ (Classical.propDecidable _) ⟨rfl, by simp, by simp; omega⟩
   simp only [dT (show (0 : Int) < Int.ofNat n by simp; omega), e1, cond_true] at hn'
   exact (hn' _ _ _).trans (qq_ok ⟨n - 1, by omega, 1, by omega, rfl, rfl, .inr ⟨Nat.le_refl _, rfl, rfl⟩⟩)
  ·have hnn := rowI_nn (eI (rsN w x))
   refine Go.Ev.Reach.seqC (o1 := ⟨lvRn, [], fun vs ms os => x < n ∧ vs = vRn b off n cap x (gx 0 (rsN w x).length) ∧ ms = [] ∧ os = [oI1 (rowI (eI (rsN w x))) 0]⟩) (Go.Ev.Reach.segR (SC_ok r) TOk.nil (tm := .nil) (L := 1) (L' := 1) (d := 1) hF hro h0' [(0, ⟨[3], [], fun vs ms os => vs = [some (gx 0 (rsN w n).length)] ∧ ms = [] ∧ os = [oI1 (rowI (eI (rsN w n))) 0]⟩)] (fun p hp => by simp only [List.mem_cons, List.not_mem_nil, or_false] at hp; subst hp; rfl) ?_) ?_
   ·have hn' := rzB r b off n cap x (rsN w x).length (rowI (eI (rsN w x)))
    simp only [hnn, Bool.and_true, cond_true] at hn'
    by_cases c : x < n
    ·simp only [dT (show Int.ofNat x < Int.ofNat n by simp; omega), cond_true] at hn'
     exact (hn' _ _ _ _).trans (qq_ok ⟨c, rfl, rfl, rfl⟩)
    ·obtain rfl : x = n := by omega
     simp only [dF (show ¬ Int.ofNat x < Int.ofNat x by simp), cond_false] at hn'
     exact (hn' _ _ _ _).trans (qq_ok ⟨rfl, rfl, rfl⟩)
   rintro vs ms os ⟨c, rfl, rfl, rfl⟩
   refine Go.Ev.Reach.seqC (sy_round hM hn hc hwT hw c (by omega) hx1 hF hro h0') ?_
   rintro vs ms os ⟨rfl, rfl, rfl⟩
   refine Go.Ev.Reach.segR (SC_ok r) TOk.nil (tm := .nil) (L := 1) (L' := 1) (d := 1) hF hro h0' [] (fun p hp => nomatch hp) ?_
   have hn' := rzF r b off n cap x (rsN w (x + 1)).length (rowI (eI (rsN w (x + 1))))
   simp only [rowI_nn, Bool.and_true, cond_true] at hn'
   rw [show IntKind.wrap .i64 (Int.ofNat x + Int.ofNat 1) = ((x + 1 : Nat) : Int) from inc1 (by omega)] at hn'
   exact (hn' _ _ _ _).trans (qq_ok ⟨n - (x + 1), by omega, x + 1, c, rfl, rfl, .inr ⟨by omega, rfl, rfl⟩⟩)
 ·rintro vs ms os ⟨rfl, rfl, rfl⟩
  have hn' := rzG r (rsN w n).length (rowI (eI (rsN w n)))
  simp only [rowI_nn, Bool.and_true, cond_true] at hn'
  exact Go.Ev.Reach.segR (SC_ok r) TOk.nil (tm := .nil) (L := 1) (L' := 1) (d := 1) hF hro h0' [] (fun p hp => nomatch hp) ((hn' _ _ _ _).trans (qq_ok ⟨rfl, rfl, rfl⟩))
theorem rm_ok (hM : TabM r b off T) (hn : T.length = n) (hc : ckO T = true) : GrT Tryz.prog r 12 [RS b off n cap] (I ((rsN (clW T) n).length : Nat)) := by
 refine GrT.of (SC_ok r) (t := tRm (RS b off n cap) (rsN (clW T) n).length (rowI (eI (rsN (clW T) n)))) (TOk.nil.cons (eNw_ok (A1 := emptyA) rfl (rowI_gnd _) (rs_S hM hn hc))) .nil rfl ⟨1, 2, ?_⟩
 have hn' := rmA r b off n cap (rsN (clW T) n).length (rowI (eI (rsN (clW T) n)))
 simp only [svv_rfl, cond_true] at hn'
 exact hn'.trans rfl
theorem eRd_okS (hmt : ∀ b j u, tabM b j = some u → r b j = some u) (hM : TabM r b off T) (hn : T.length = n) (hc : ckO T = true) : EOk (SC r) 31 (eRd (RS b off n cap) n (clW T) (wA T n 0)) := EOk.ent fun args A hgd => by
 have hs := @of_decide_eq_true _ (Classical.propDecidable _) hgd
 subst hs
 have hl := ck_len hc
 subst hn
 have h := ro_ok (cap := cap) hmt hM rfl (by omega)
 unfold roC at h
 rw [hc, if_pos rfl, if_pos rfl, wB_cl] at h
 exact h.ro rfl A
theorem mg_ok (hmt : ∀ b j u, tabM b j = some u → r b j = some u) (hM : TabM r b off T) (hn : T.length = n) (hc : ckO T = true) : GrT Tryz.prog r 8 [RS b off n cap] (.tuple ⟨[I ((rsN (clW T) n).length : Nat), I 0]⟩) := by
 have hl := ck_len hc
 have hw : ∀ j, clW T j < 4096 := fun j => lt12 (show T.length ≤ 12 by omega) (clO_lt T j T.length)
 refine GrT.of (SC_ok r) (t := tMg (RS b off n cap) n (clW T) (wA T n 0) (rsN (clW T) n).length (rsV (clW T) n)) ((TOk.nil.cons (eNw_ok (A1 := emptyA) rfl (rowV_gnd _) (sets_S hw (by omega) (by omega)))).cons (eRd_okS hmt hM hn hc)) .nil rfl ⟨1, 2, ?_⟩
 have hn' := mgA r b off n cap n (clW T) (wA T n 0) (rsN (clW T) n).length (rsV (clW T) n)
 simp only [svv_rfl, cond_true] at hn'
 exact hn'.trans rfl
end
end Go.Proofs
namespace Go.Proofs
open Go Go.Ev Go.Num
noncomputable def cIv : Code := bodyOf S0 34
noncomputable def Iv_0 : Code := (lc cIv)
noncomputable def Iv_1 : Code := (lc (rc cIv))
noncomputable def Iv_2 : Code := (lc (rc (rc cIv)))
noncomputable def Iv_3 : Code := (lc (lc (rc (rc (rc cIv)))))
noncomputable def cIw : Code := (ic (ic (rc (lc (rc (rc (rc cIv)))))))
noncomputable def Iv_4 : Code := (lc cIw)
noncomputable def Iv_5 : Code := (lc (rc cIw))
noncomputable def cIx : Code := (ic (lc (rc (rc cIw))))
noncomputable def Iv_6 : Code := (lc cIx)
noncomputable def Iv_7 : Code := (lc (rc cIx))
noncomputable def Iv_8 : Code := (lc (lc (rc (rc cIx))))
noncomputable def Iv_9 : Code := (ic (ic (rc (lc (rc (rc cIx))))))
noncomputable def Iv_10 : Code := (rc (rc (rc cIx)))
noncomputable def Iv_11 : Code := (rc (rc (rc cIw)))
noncomputable def Iv_12 : Code := (rc (rc (rc (rc cIv))))
theorem Iv_eq : cIv = (.seq Iv_0 (.seq Iv_1 (.seq Iv_2 (.seq (.seq Iv_3 (.block 0 (.loop (.seq Iv_4 (.seq Iv_5 (.seq (.block 1 (.seq Iv_6 (.seq Iv_7 (.seq (.seq Iv_8 (.block 2 (.loop Iv_9))) Iv_10)))) Iv_11)))))) Iv_12)))) := by kernel_rfl
noncomputable def cTw : Code := bodyOf S0 35
noncomputable def Tw_0 : Code := (lc cTw)
noncomputable def Tw_1 : Code := (lc (lc (rc cTw)))
noncomputable def Tw_2 : Code := (lc (ic (ic (rc (lc (rc cTw))))))
noncomputable def Tw_3 : Code := (lc (rc (ic (ic (rc (lc (rc cTw)))))))
noncomputable def Tw_4 : Code := (lc (ic (lc (rc (rc (ic (ic (rc (lc (rc cTw))))))))))
noncomputable def Tw_5 : Code := (lc (rc (ic (lc (rc (rc (ic (ic (rc (lc (rc cTw)))))))))))
noncomputable def Tw_6 : Code := (ic (ic (rc (rc (ic (lc (rc (rc (ic (ic (rc (lc (rc cTw)))))))))))))
noncomputable def Tw_7 : Code := (rc (rc (rc (ic (ic (rc (lc (rc cTw))))))))
noncomputable def Tw_8 : Code := (rc (rc cTw))
theorem Tw_eq : cTw = (.seq Tw_0 (.seq (.seq Tw_1 (.block 0 (.loop (.seq Tw_2 (.seq Tw_3 (.seq (.block 1 (.seq Tw_4 (.seq Tw_5 (.block 2 (.loop Tw_6))))) Tw_7)))))) Tw_8)) := by kernel_rfl
def mIv : Nat := 117900287
def mTw : Nat := 2 ^ 0 + 2 ^ 1 + 2 ^ 2 + 2 ^ 3 + 2 ^ 4 + 2 ^ 5 + 2 ^ 6 + 2 ^ 7 + 2 ^ 9 + 2 ^ 10 + 2 ^ 13 + 2 ^ 14
def oP2 (c : List Value) (i : Nat) : Option AObj := some (.cells c 71 i 2)
def o4 (c : List Value) (i : Nat) : Option AObj := some (.cells c 30 i 0)
noncomputable def tIv (m : Nat) (w a : Nat → Nat) (k : Nat) (c d : List Value) : Tbl := tcons 32 (eNw [.agg ⟨orC m w a⟩] 56 k c) (tcons 47 (eNy [.agg ⟨orC m w a⟩] 3 m d) fun _ => none)
def lvIv : List Nat := [3, 4, 16, 17, 18]
def vIv (n q k : Nat) : OV := [some (gx 0 q), some (gy 1 n), some (gy 2 n), some (I (n : Nat)), some (I (k : Nat))]
def lvIw : List Nat := [3, 4, 5, 6, 7, 16, 17, 18, 24, 25, 26]
def vIw (n q k : Nat) (l : Int) (t : Nat) (i : Nat) : OV := [some (gx 0 q), some (gy 1 n), some (I (k : Nat)), some (I l), some (I (t : Nat)), some (gy 2 n), some (I (n : Nat)), some (I (k : Nat)), some (gx 0 q), some (I (q : Nat)), some (I (i : Nat))]
def lvIx : List Nat := [3, 4, 5, 6, 7, 16, 17, 18]
def vIx (n q k : Nat) (l : Int) (t : Nat) : OV := [some (gx 0 q), some (gy 1 n), some (I (k : Nat)), some (I l), some (I (t : Nat)), some (gy 2 n), some (I (n : Nat)), some (I (k : Nat))]
def lvT0 : List Nat := [1, 2, 9, 10]
def vT0 (n k : Nat) : OV := [some (pq 0), some (pq 1), some (I (n : Nat)), some (I (k : Nat))]
def lvT1 : List Nat := [1, 2, 4, 9, 10, 13, 14]
def vT1 (n k d : Nat) : OV := [some (pq 0), some (pq 1), some (I (k : Nat)), some (I (n : Nat)), some (I (k : Nat)), some (I (k : Nat)), some (I (d : Nat))]
def z4 : List Value := [I 0, I 0, I 0, I 0]
theorem ivA (r : Mem) (m : Nat) (w a : Nat → Nat) (q : Nat) (c d : List Value) (K : KO) (kx : Nat → KS) (kr : KS) : run (SC r) mIv 45 1 (.seq Iv_0 (.seq Iv_1 (.seq Iv_2 Iv_3))) (lvlT (SC r) (tIv m w a q c d) .nil 1 1) none (rbK 0 lvIv [] K) kx kr (sc0 mIv [.agg ⟨orC m w a⟩]) (tr0 mIv [.agg ⟨orC m w a⟩]) [] emptyA =
    bif m_svv [.agg ⟨(orC m w a)⟩] [.agg ⟨(orC m w a)⟩] then bif Nat.ble (Int.toNat (Int.ofNat m)) (Int.toNat (Int.ofNat m)) then bif Nat.ble (Int.toNat (Int.ofNat m)) 1000000 then bif m_svv [.agg ⟨(orC m w a)⟩] [.agg ⟨(orC m w a)⟩] then bif m_nns c && (m_nns (zerosL (Nat.mul (Int.toNat (Int.ofNat m)) 2) [I (Int.ofNat 0), I (Int.ofNat 0)]) && (m_nns d && true)) then K [some (gx 0 q), some (.slice (some ⟨1, 0, none⟩) (Int.toNat (Int.ofNat m)) (Int.toNat (Int.ofNat m))), some (gy 2 m), some (I (Int.ofNat m)), some (I (Int.ofNat 0))] [] [some (.cells c 56 0 1), some (.cells (zerosL (Nat.mul (Int.toNat (Int.ofNat m)) 2) [I (Int.ofNat 0), I (Int.ofNat 0)]) 71 1 2), some (.cells d 3 2 1)] else F4 else F4 else F4 else F4 else F4 := by kernel_rfl
theorem ivB (r : Mem) (n q k : Nat) (c e d : List Value) (fs : FnsC) (K : KO) (KX : Nat → KO) (kr : KS) : run (SC r) mIv 45 1 (.seq Iv_4 Iv_5) fs none (rbK 0 lvIv [] K) (fun j => rbK 0 [4] [] (KX j)) kr [] (bT lvIv (vIv n q k) .nil) [] (mkA [oSs c 0, oP2 e 1, oI1 d 2]) =
    bif decide (Int.ofNat k < Int.ofNat n) then bif m_nns c && (m_nns e && (m_nns d && true)) then K [some (gx 0 q), some (gy 1 n), some (gy 2 n), some (I (Int.ofNat n)), some (I (Int.ofNat k))] [] [some (.cells c 56 0 1), some (.cells e 71 1 2), some (.cells d 3 2 1)] else F4 else bif m_nns e && true then KX 0 [some (gy 0 n)] [] [some (.cells e 71 0 2)] else F4 := by kernel_rfl
theorem ivC (r : Mem) (n q k : Nat) (c e d : List Value) (fs : FnsC) (K : KO) (kx : Nat → KS) (kr : KS) : run (SC r) mIv 45 1 (.seq Iv_6 (.seq Iv_7 Iv_8)) fs none (rbK 0 lvIw [] K) kx kr [] (bT lvIv (vIv n q k) .nil) [] (mkA [oSs c 0, oP2 e 1, oI1 d 2]) =
    bif Nat.blt (Int.toNat (Int.ofNat k)) n then Option.casesOn d[Nat.add 0 (Nat.mul (Int.toNat (Int.ofNat k)) 1)]? (.fail 423) fun val => bif isI IntKind.i64 val then bif m_nns c && (m_nns e && (m_nns d && true)) then K [some (gx 0 q), some (gy 1 n), some (I (Int.ofNat k)), some (I (ofI val)), some (I (ofI val)), some (gy 2 n), some (I (Int.ofNat n)), some (I (Int.ofNat k)), some (gx 0 q), some (I (Int.ofNat q)), some (I (Int.ofNat 0))] [] [some (.cells c 56 0 1), some (.cells e 71 1 2), some (.cells d 3 2 1)] else F4 else F4 else F4 := by kernel_rfl
theorem ivD (r : Mem) (n q k : Nat) (l : Int) (t i : Nat) (c e d : List Value) (K : KO) (KX : Nat → KO) (kr : KS) : run (SC r) mIv 45 1 Iv_9 (lvlT (SC r) (fun _ => none) .nil 1 2) none (rbK 0 lvIw [] K) (fun j => rbK 0 lvIx [] (KX j)) kr [] (bT lvIw (vIw n q k l t i) .nil) [] (mkA [oSs c 0, oP2 e 1, oI1 d 2]) =
    bif decide (Int.ofNat i < Int.ofNat q) then bif Nat.blt (Int.toNat (Int.ofNat i)) q then Option.casesOn c[Nat.add 0 (Nat.mul (Int.toNat (Int.ofNat i)) 1)]? (.fail 423) fun val => bif isI IntKind.u16 val then bif ibits BinOp.and IntKind.u16 (Int.fdiv (ofI val) (Int.ofNat 2 ^ min (Int.toNat (Int.ofNat k)) 16)) (Int.ofNat 1) == Int.ofNat 1 then bif m_nns c && (m_nns e && (m_nns d && true)) then K [some (gx 0 q), some (gy 1 n), some (I (Int.ofNat k)), some (I l), some (I (Int.ofNat t)), some (gy 2 n), some (I (Int.ofNat n)), some (I (Int.ofNat k)), some (gx 0 q), some (I (Int.ofNat q)), some (I (IntKind.wrap .i64 (Int.ofNat i + Int.ofNat 1)))] [] [some (.cells c 56 0 1), some (.cells e 71 1 2), some (.cells d 3 2 1)] else F4 else bif m_nns c && (m_nns e && (m_nns d && true)) then K [some (gx 0 q), some (gy 1 n), some (I (Int.ofNat k)), some (I l), some (I (Int.ofNat i)), some (gy 2 n), some (I (Int.ofNat n)), some (I (Int.ofNat k)), some (gx 0 q), some (I (Int.ofNat q)), some (I (IntKind.wrap .i64 (Int.ofNat i + Int.ofNat 1)))] [] [some (.cells c 56 0 1), some (.cells e 71 1 2), some (.cells d 3 2 1)] else F4 else F4 else F4 else bif m_nns c && (m_nns e && (m_nns d && true)) then KX 2 [some (gx 0 q), some (gy 1 n), some (I (Int.ofNat k)), some (I l), some (I (Int.ofNat t)), some (gy 2 n), some (I (Int.ofNat n)), some (I (Int.ofNat k))] [] [some (.cells c 56 0 1), some (.cells e 71 1 2), some (.cells d 3 2 1)] else F4 := by kernel_rfl
theorem ivE (r : Mem) (n q k : Nat) (l : Int) (t : Nat) (c e d : List Value) (fs : FnsC) (K : KO) (kx : Nat → KS) (kr : KS) : run (SC r) mIv 45 1 Iv_10 fs none (rbK 0 lvIv [] K) kx kr [] (bT lvIx (vIx n q k l t) .nil) [] (mkA [oSs c 0, oP2 e 1, oI1 d 2]) =
    bif Nat.blt (Int.toNat (Int.ofNat k)) n then Option.casesOn (setAt e (Nat.add 0 (Nat.mul (Int.toNat (Int.ofNat k)) 2)) [I l, I (Int.ofNat t)]) (.fail 450) fun val => bif m_nns c && (m_nns val && (m_nns d && true)) then K [some (gx 0 q), some (gy 1 n), some (gy 2 n), some (I (Int.ofNat n)), some (I (Int.ofNat k))] [] [some (.cells c 56 0 1), some (.cells val 71 1 2), some (.cells d 3 2 1)] else F4 else F4 := by kernel_rfl
theorem ivF (r : Mem) (n q k : Nat) (c e d : List Value) (fs : FnsC) (K : KO) (kx : Nat → KS) (kr : KS) : run (SC r) mIv 45 1 Iv_11 fs none (rbK 0 lvIv [] K) kx kr [] (bT lvIv (vIv n q k) .nil) [] (mkA [oSs c 0, oP2 e 1, oI1 d 2]) =
    bif m_nns c && (m_nns e && (m_nns d && true)) then K [some (gx 0 q), some (gy 1 n), some (gy 2 n), some (I (Int.ofNat n)), some (I (IntKind.wrap .i64 (Int.ofNat k + Int.ofNat 1)))] [] [some (.cells c 56 0 1), some (.cells e 71 1 2), some (.cells d 3 2 1)] else F4 := by kernel_rfl
theorem ivG (r : Mem) (n : Nat) (e : List Value) (fs : FnsC) (K KR : KO) (kx : Nat → KS) : run (SC r) mIv 45 1 Iv_12 fs none (rbK 0 [2] [] K) kx (rbK 0 [2] [] KR) [] (bT [4] [some (gy 0 n)] .nil) [] (mkA [oP2 e 0]) =
    bif m_nns e && true then KR [some (gy 0 n)] [] [some (.cells e 71 0 2)] else F4 := by kernel_rfl
theorem t4A (r : Mem) (m : Nat) (w a : Nat → Nat) (fs : FnsC) (K : KO) (kx : Nat → KS) (kr : KS) : run (SC r) mTw 51 1 (.seq Tw_0 Tw_1) fs none (rbK 0 lvT0 [] K) kx kr (sc0 mTw [.agg ⟨orC m w a⟩]) (tr0 mTw [.agg ⟨orC m w a⟩]) [] emptyA =
    K [some (pq 0), some (pq 1), some (I (Int.ofNat m)), some (I (Int.ofNat 0))] [] [some (.cells (orC m w a) 59 0 0), some (.cells [I (Int.ofNat 0), I (Int.ofNat 0), I (Int.ofNat 0), I (Int.ofNat 0)] 30 1 0)] := by kernel_rfl
theorem t4B (r : Mem) (m : Nat) (w a : Nat → Nat) (k : Nat) (fs : FnsC) (K : KO) (KX : Nat → KO) (kr : KS) : run (SC r) mTw 51 1 (.seq Tw_2 Tw_3) fs none (rbK 0 lvT0 [] K) (fun j => rbK 0 [2] [] (KX j)) kr [] (bT lvT0 (vT0 m k) .nil) [] (mkA [oOr (orC m w a) 0, o4 z4 1]) =
    bif decide (Int.ofNat k < Int.ofNat m) then K [some (pq 0), some (pq 1), some (I (Int.ofNat m)), some (I (Int.ofNat k))] [] [some (.cells (orC m w a) 59 0 0), some (.cells [I (Int.ofNat 0), I (Int.ofNat 0), I (Int.ofNat 0), I (Int.ofNat 0)] 30 1 0)] else KX 0 [some (pq 0)] [] [some (.cells [I (Int.ofNat 0), I (Int.ofNat 0), I (Int.ofNat 0), I (Int.ofNat 0)] 30 0 0)] := by kernel_rfl
theorem t4C (r : Mem) (m : Nat) (w a : Nat → Nat) (k : Nat) (fs : FnsC) (K : KO) (kx : Nat → KS) (kr : KS) : run (SC r) mTw 51 1 (.seq Tw_4 Tw_5) fs none (rbK 0 lvT1 [] K) kx kr [] (bT lvT0 (vT0 m k) .nil) [] (mkA [oOr (orC m w a) 0, o4 z4 1]) =
    K [some (pq 0), some (pq 1), some (I (Int.ofNat k)), some (I (Int.ofNat m)), some (I (Int.ofNat k)), some (I (Int.ofNat k)), some (I (Int.ofNat 0))] [] [some (.cells (orC m w a) 59 0 0), some (.cells [I (Int.ofNat 0), I (Int.ofNat 0), I (Int.ofNat 0), I (Int.ofNat 0)] 30 1 0)] := by kernel_rfl
theorem t4D (r : Mem) (m : Nat) (w a : Nat → Nat) (k d : Nat) (K : KO) (KX : Nat → KO) (KR : KO) : run (SC r) mTw 51 1 Tw_6 (lvlT (SC r) tEs .nil 1 3) none (rbK 0 lvT1 [] K) (fun j => rbK 0 lvT0 [] (KX j)) (rbK 0 [2, 3] [] KR) [] (bT lvT1 (vT1 m k d) .nil) [] (mkA [oOr (orC m w a) 0, o4 z4 1]) =
    bif decide (Int.ofNat d < Int.ofNat k) then bif Nat.blt (Int.toNat (Int.ofNat k)) 12 then Option.casesOn (orC m w a)[Nat.add 1 (Nat.mul (Int.toNat (Int.ofNat k)) 1)]? (.fail 423) fun val => bif isI IntKind.u16 val then bif Nat.blt (Int.toNat (Int.ofNat d)) 12 then Option.casesOn (orC m w a)[Nat.add 1 (Nat.mul (Int.toNat (Int.ofNat d)) 1)]? (.fail 423) fun val_1 => bif isI IntKind.u16 val_1 then bif Nat.blt (Int.toNat (Int.ofNat d)) 12 then Option.casesOn (orC m w a)[Nat.add 1 (Nat.mul (Int.toNat (Int.ofNat d)) 1)]? (.fail 423) fun val_2 => bif isI IntKind.u16 val_2 then bif Nat.blt (Int.toNat (Int.ofNat k)) 12 then Option.casesOn (orC m w a)[Nat.add 1 (Nat.mul (Int.toNat (Int.ofNat k)) 1)]? (.fail 423) fun val_3 => bif isI IntKind.u16 val_3 then bif ibits BinOp.andNot IntKind.u16 (ofI val) (ofI val_1) != Int.ofNat 0 then bif ibits BinOp.andNot IntKind.u16 (ofI val_2) (ofI val_3) != Int.ofNat 0 then bif m_tvG (ibits BinOp.andNot IntKind.u16 (ofI val) (ofI val_1)) then bif m_tvG (ibits BinOp.andNot IntKind.u16 (ofI val_2) (ofI val_3)) then KR [some (pq 0), some (.bool true)] [] [some (.cells [I (m_tv (ibits BinOp.andNot IntKind.u16 (ofI val) (ofI val_1))), I (Int.ofNat k), I (m_tv (ibits BinOp.andNot IntKind.u16 (ofI val_2) (ofI val_3))), I (Int.ofNat d)] 30 0 0)] else F4 else F4 else K [some (pq 0), some (pq 1), some (I (Int.ofNat k)), some (I (Int.ofNat m)), some (I (Int.ofNat k)), some (I (Int.ofNat k)), some (I (IntKind.wrap .i64 (Int.ofNat d + Int.ofNat 1)))] [] [some (.cells (orC m w a) 59 0 0), some (.cells [I (Int.ofNat 0), I (Int.ofNat 0), I (Int.ofNat 0), I (Int.ofNat 0)] 30 1 0)] else K [some (pq 0), some (pq 1), some (I (Int.ofNat k)), some (I (Int.ofNat m)), some (I (Int.ofNat k)), some (I (Int.ofNat k)), some (I (IntKind.wrap .i64 (Int.ofNat d + Int.ofNat 1)))] [] [some (.cells (orC m w a) 59 0 0), some (.cells [I (Int.ofNat 0), I (Int.ofNat 0), I (Int.ofNat 0), I (Int.ofNat 0)] 30 1 0)] else F4 else F4 else F4 else F4 else F4 else F4 else F4 else F4 else KX 2 [some (pq 0), some (pq 1), some (I (Int.ofNat m)), some (I (Int.ofNat k))] [] [some (.cells (orC m w a) 59 0 0), some (.cells [I (Int.ofNat 0), I (Int.ofNat 0), I (Int.ofNat 0), I (Int.ofNat 0)] 30 1 0)] := by kernel_rfl
theorem t4E (r : Mem) (m : Nat) (w a : Nat → Nat) (k : Nat) (fs : FnsC) (K : KO) (kx : Nat → KS) (kr : KS) : run (SC r) mTw 51 1 Tw_7 fs none (rbK 0 lvT0 [] K) kx kr [] (bT lvT0 (vT0 m k) .nil) [] (mkA [oOr (orC m w a) 0, o4 z4 1]) =
    K [some (pq 0), some (pq 1), some (I (Int.ofNat m)), some (I (IntKind.wrap .i64 (Int.ofNat k + Int.ofNat 1)))] [] [some (.cells (orC m w a) 59 0 0), some (.cells [I (Int.ofNat 0), I (Int.ofNat 0), I (Int.ofNat 0), I (Int.ofNat 0)] 30 1 0)] := by kernel_rfl
theorem t4F (r : Mem) (fs : FnsC) (K KR : KO) (kx : Nat → KS) : run (SC r) mTw 51 1 Tw_8 fs none (rbK 0 [2, 3] [] K) kx (rbK 0 [2, 3] [] KR) [] (bT [2] [some (pq 0)] .nil) [] (mkA [o4 z4 0]) =
    KR [some (pq 0), some (.bool false)] [] [some (.cells [I (Int.ofNat 0), I (Int.ofNat 0), I (Int.ofNat 0), I (Int.ofNat 0)] 30 0 0)] := by kernel_rfl
end Go.Proofs
namespace Go.Proofs
open Go Go.Ev Go.Num
def rtK (L : List Nat) (x i0 : Nat) : Nat → Nat
 | 0 => i0
 | k + 1 => bif (L.getD k 0).testBit x then rtK L x i0 k else k
def rtZ (w : Nat → Nat) (m x : Nat) : Nat := rtK (rsN w m) x ((rsN w m).idxOf (w x)) (rsN w m).length
def ciZ (w : Nat → Nat) (m j : Nat) : Int := if j % 2 = 0 then lfZ w m (j / 2) else (rtZ w m (j / 2) : Nat)
def ciK (w : Nat → Nat) (m k j : Nat) : Int := if j < 2 * k then ciZ w m j else 0
def twI (w : Nat → Nat) (b d : Nat) : Bool := !Nat.beq (anN (w b) (w d)) 0 && !Nat.beq (anN (w d) (w b)) 0
def twJ (w : Nat → Nat) (b : Nat) : Nat → Option Nat
 | 0 => none
 | d + 1 => match twJ w b d with
  | some e => some e
  | none => bif twI w b d then some d else none
def twO (w : Nat → Nat) : Nat → Option (Nat × Nat)
 | 0 => none
 | b + 1 => match twO w b with
  | some p => some p
  | none => match twJ w b b with
   | some d => some (b, d)
   | none => none
def twV (w : Nat → Nat) (n i : Nat) : Int := match twO w n with
 | none => 0
 | some (b, d) => match i with
  | 0 => (tzN 16 (anN (w b) (w d)) : Nat)
  | 1 => (b : Nat)
  | 2 => (tzN 16 (anN (w d) (w b)) : Nat)
  | _ => (d : Nat)
theorem twJ_none {w : Nat → Nat} {b : Nat} : ∀ {k : Nat}, (∀ d, d < k → twI w b d = false) → twJ w b k = none
 | 0, _ => rfl
 | k + 1, h => by rw [twJ, twJ_none fun d hd => h d (by omega), h k (by omega)]; rfl
theorem twJ_some {w : Nat → Nat} {b d : Nat} (h : ∀ e, e < d → twI w b e = false) (hd : twI w b d = true) : ∀ k, d < k → twJ w b k = some d
 | k + 1, hk => by
  by_cases c : d = k
  ·subst c
   rw [twJ, twJ_none h, hd]; rfl
  ·rw [twJ, twJ_some h hd k (by omega)]
theorem twO_next {w : Nat → Nat} {b : Nat} (h : twO w b = none) (h2 : twJ w b b = none) : twO w (b + 1) = none := by rw [twO, h, h2]
theorem twO_some {w : Nat → Nat} {b d : Nat} (h : twO w b = none) (hd : twJ w b b = some d) : ∀ k, b < k → twO w k = some (b, d)
 | k + 1, hk => by
  by_cases c : b = k
  ·subst c
   rw [twO, h, hd]
  ·rw [twO, twO_some h hd k (by omega)]
theorem beq_ne {a : Nat} : (!Nat.beq a 0) = decide (a ≠ 0) := by
 by_cases h : a = 0
 ·subst h; rfl
 ·rw [natFx h, dT h]; rfl
section
variable {r : Mem} {m : Nat} {w a : Nat → Nat}
theorem iv_S (hw : ∀ j, w j < 4096) (h1 : 1 ≤ m) (hm : m ≤ 12) : SOk (SC r) 34 [.agg ⟨orC m w a⟩] emptyA fun v A => v = gy 0 m ∧ A = mkA [oP2 (ixN (ciZ w m) (2 * m)) 0] := by
 have hrl := rs_len w m
 obtain ⟨c, hcV⟩ : ∃ c, c = rsV w m := ⟨_, rfl⟩
 obtain ⟨d, hdV⟩ : ∃ d, d = ixN (lfZ w m) m := ⟨_, rfl⟩
 have hcn : m_nns c = true := by rw [hcV]; exact rowV_nn _
 have hdn : m_nns d = true := by rw [hdV]; exact ix_nn _ _
 refine callO (SC_ok r) (by kernel_rfl) ((bodySC r _).trans Iv_eq) (nt := 45) (by kernel_rfl) (rs := [.tmp 2]) (by kernel_rfl) mIv rfl ⟨[2], [], fun vs ms os => vs = [some (gy 0 m)] ∧ ms = [] ∧ os = [oP2 (ixN (ciZ w m) (2 * m)) 0]⟩ ?_ fun γ W F kk hwr hF hro h0' => ?_
 ·rintro vs ms os ⟨rfl, rfl, rfl⟩
  exact ⟨_, mkA [oP2 (ixN (ciZ w m) (2 * m)) 0], by kernel_rfl, rfl, rfl⟩
 have h0' : ∀ i, 0 ≤ i → γ i = none := h0'
 have ht : TOk (SC r) (tIv m w a (rsN w m).length c d) := by
  rw [hcV, hdV]
  exact (TOk.nil.cons (eNy_ok rfl (ix_gnd _ _) (lf_S hw h1 hm))).cons (eNw_ok (A1 := emptyA) rfl (rowV_gnd _) (sets_S hw h1 hm))
 refine Go.Ev.Reach.after3R (SC_ok r) ht (tm := .nil) (L := 1) (L' := 1) (d := 1) hF hro h0' (.step (.step (.step .base))) (o1 := ⟨lvIv, [], fun vs ms os => vs = vIv m (rsN w m).length 0 ∧ ms = [] ∧ os = [oSs c 0, oP2 (ixN (ciK w m 0) (2 * m)) 1, oI1 d 2]⟩) (o2 := ⟨[4], [], fun vs ms os => vs = [some (gy 0 m)] ∧ ms = [] ∧ os = [oP2 (ixN (ciZ w m) (2 * m)) 0]⟩) [] (fun p hp => nomatch hp) ?_ ?_ ?_
 ·rintro vs ms os ⟨rfl, rfl, rfl⟩
  refine Go.Ev.Reach.blockC (Go.Ev.Reach.loopC (j := m) (lv := lvIv) (fl := []) (I := fun j vs ms os => ∃ k : Nat, k ≤ m ∧ j = m - k ∧ vs = vIv m (rsN w m).length k ∧ ms = [] ∧ os = [oSs c 0, oP2 (ixN (ciK w m k) (2 * m)) 1, oI1 d 2]) (fun j vs ms os hI => ?_) ⟨0, by omega, rfl, rfl, rfl, rfl⟩)
  obtain ⟨k, hk, rfl, rfl, rfl, rfl⟩ := hI
  refine Go.Ev.Reach.afterR (SC_ok r) TOk.nil (tm := .nil) (L := 1) (L' := 1) (d := 1) hF hro h0' (.step .base) (o1 := ⟨lvIv, [], fun vs ms os => k < m ∧ vs = vIv m (rsN w m).length k ∧ ms = [] ∧ os = [oSs c 0, oP2 (ixN (ciK w m k) (2 * m)) 1, oI1 d 2]⟩) [(0, ⟨[4], [], fun vs ms os => vs = [some (gy 0 m)] ∧ ms = [] ∧ os = [oP2 (ixN (ciZ w m) (2 * m)) 0]⟩)] (fun p hp => by simp only [List.mem_cons, List.not_mem_nil, or_false] at hp; subst hp; rfl) (fun vs ms os hq => ?_) ?_
  ·obtain ⟨ck, rfl, rfl, rfl⟩ := hq
   refine Go.Ev.Reach.seqC (o1 := ⟨lvIv, [], fun vs ms os => vs = vIv m (rsN w m).length k ∧ ms = [] ∧ os = [oSs c 0, oP2 (ixN (ciK w m (k + 1)) (2 * m)) 1, oI1 d 2]⟩) (Go.Ev.Reach.blockC ?_) ?_
   ·refine Go.Ev.Reach.after3R (SC_ok r) TOk.nil (tm := .nil) (L := 1) (L' := 1) (d := 1) hF hro h0' (.step (.step .base)) (o1 := ⟨lvIw, [], fun vs ms os => vs = vIw m (rsN w m).length k (lfZ w m k) ((rsN w m).idxOf (w k)) 0 ∧ ms = [] ∧ os = [oSs c 0, oP2 (ixN (ciK w m k) (2 * m)) 1, oI1 d 2]⟩) (o2 := ⟨lvIx, [], fun vs ms os => vs = vIx m (rsN w m).length k (lfZ w m k) (rtZ w m k) ∧ ms = [] ∧ os = [oSs c 0, oP2 (ixN (ciK w m k) (2 * m)) 1, oI1 d 2]⟩) [] (fun p hp => nomatch hp) ?_ ?_ ?_
    ·rintro vs ms os ⟨rfl, rfl, rfl⟩
     refine Go.Ev.Reach.blockC (Go.Ev.Reach.loopC (j := (rsN w m).length) (lv := lvIw) (fl := []) (I := fun j vs ms os => ∃ i : Nat, i ≤ (rsN w m).length ∧ j = (rsN w m).length - i ∧ vs = vIw m (rsN w m).length k (lfZ w m k) (rtK (rsN w m) k ((rsN w m).idxOf (w k)) i) i ∧ ms = [] ∧ os = [oSs c 0, oP2 (ixN (ciK w m k) (2 * m)) 1, oI1 d 2]) (fun j vs ms os hI => ?_) ⟨0, by omega, rfl, rfl, rfl, rfl⟩)
     obtain ⟨i, hi, rfl, rfl, rfl, rfl⟩ := hI
     refine Go.Ev.Reach.segR (SC_ok r) TOk.nil (tm := .nil) (L := 1) (L' := 1) (d := 2) hF hro h0' [(2, ⟨lvIx, [], fun vs ms os => vs = vIx m (rsN w m).length k (lfZ w m k) (rtZ w m k) ∧ ms = [] ∧ os = [oSs c 0, oP2 (ixN (ciK w m k) (2 * m)) 1, oI1 d 2]⟩)] (fun p hp => by simp only [List.mem_cons, List.not_mem_nil, or_false] at hp; subst hp; rfl) ?_
     have hn' := ivD r m (rsN w m).length k (lfZ w m k) (rtK (rsN w m) k ((rsN w m).idxOf (w k)) i) i c (ixN (ciK w m k) (2 * m)) d
     simp only [tnO, hcn, hdn, ix_nn, Bool.and_true, Bool.and_self, cond_true] at hn'
     by_cases ci : i < (rsN w m).length
     ·have q1 : Nat.blt i (rsN w m).length = true := Nat.ble_eq_true_of_le ci
      have q2 : c[Nat.add 0 (Nat.mul i 1)]? = some (V (((rsN w m)[i] : Nat) : Int)) := by
       rw [show Nat.add 0 (Nat.mul i 1) = i by simp, hcV]; exact rowV_get ci
      have q3 : (rsN w m)[i] < 65536 := by
       obtain ⟨j, _, e⟩ := rsN_mem.1 (List.getElem_mem ci)
       have := hw j
       omega
      have q4 : (rsN w m).getD i 0 = (rsN w m)[i] := by simp [ci]
      have q5 : rtK (rsN w m) k ((rsN w m).idxOf (w k)) (i + 1) = bif ((rsN w m)[i]).testBit k then rtK (rsN w m) k ((rsN w m).idxOf (w k)) i else i := by rw [rtK, q4]
      simp only [dT (show Int.ofNat i < Int.ofNat (rsN w m).length by simp; omega), q1, q2, isV_V, ofI_V, has_v q3 (show k ≤ 16 by omega), cond_true] at hn'
      rw [show IntKind.wrap .i64 (Int.ofNat i + Int.ofNat 1) = ((i + 1 : Nat) : Int) from inc1 (by omega)] at hn'
      cases hb : ((rsN w m)[i]).testBit k with
      | true =>
       simp only [hb, cond_true] at hn'
       rw [hb, cond_true] at q5
       exact (hn' _ _ _).trans (qq_ok ⟨(rsN w m).length - (i + 1), by omega, i + 1, ci, rfl, by rw [q5]; rfl, rfl, rfl⟩)
      | false =>
       simp only [hb, cond_false] at hn'
       rw [hb, cond_false] at q5
       exact (hn' _ _ _).trans (qq_ok ⟨(rsN w m).length - (i + 1), by omega, i + 1, ci, rfl, by rw [q5]; rfl, rfl, rfl⟩)
     ·obtain rfl : i = (rsN w m).length := by omega
      simp only [dF (show ¬ Int.ofNat (rsN w m).length < Int.ofNat (rsN w m).length by simp), cond_false] at hn'
      exact (hn' _ _ _).trans (qq_ok ⟨rfl, rfl, rfl⟩)
    ·rintro vs ms os ⟨rfl, rfl, rfl⟩
     refine Go.Ev.Reach.segR (SC_ok r) TOk.nil (tm := .nil) (L := 1) (L' := 1) (d := 1) hF hro h0' [] (fun p hp => nomatch hp) ?_
     have hn' := ivE r m (rsN w m).length k (lfZ w m k) (rtZ w m k) c (ixN (ciK w m k) (2 * m)) d
     have q1 : Nat.blt k m = true := Nat.ble_eq_true_of_le ck
     have e5 : setAt (ixN (ciK w m k) (2 * m)) (Nat.add 0 (Nat.mul k 2)) [I (lfZ w m k), I (Int.ofNat (rtZ w m k))] = some (ixN (ciK w m (k + 1)) (2 * m)) := by
      rw [Nat.add_eq, Nat.mul_eq, Nat.zero_add, ix_set2 (by omega)]
      refine congrArg some (ix_ext fun j hj => ?_)
      unfold ciK ciZ
      by_cases e : j < 2 * k
      ·rw [if_neg (show ¬ j = k * 2 + 1 by omega), if_neg (show ¬ j = k * 2 by omega), if_pos e, if_pos (show j < 2 * (k + 1) by omega)]
      ·by_cases d1 : j = k * 2 + 1
       ·rw [if_pos d1, if_pos (show j < 2 * (k + 1) by omega), if_neg (show ¬ j % 2 = 0 by omega), show j / 2 = k by omega]; rfl
       ·by_cases d2 : j = k * 2
        ·rw [if_neg d1, if_pos d2, if_pos (show j < 2 * (k + 1) by omega), if_pos (show j % 2 = 0 by omega), show j / 2 = k by omega]
        ·rw [if_neg d1, if_neg d2, if_neg e, if_neg (show ¬ j < 2 * (k + 1) by omega)]
     simp only [tnO, q1, e5, hcn, hdn, ix_nn, Bool.and_true, Bool.and_self, cond_true] at hn'
     exact (hn' _ _ _ _).trans (qq_ok ⟨rfl, rfl, rfl⟩)
    ·have hn' := ivC r m (rsN w m).length k c (ixN (ciK w m k) (2 * m)) d
     have q1 : Nat.blt k m = true := Nat.ble_eq_true_of_le ck
     have q2 : d[Nat.add 0 (Nat.mul k 1)]? = some (I (lfZ w m k)) := by
      rw [show Nat.add 0 (Nat.mul k 1) = k by simp, hdV]; exact ix_get ck
     simp only [tnO, q1, q2, isI_I, hcn, hdn, ix_nn, Bool.and_true, Bool.and_self, cond_true] at hn'
     dsimp +instances only [ofI_I] at hn'
     exact (hn' _ _ _ _).trans (qq_ok ⟨rfl, rfl, rfl⟩)
   ·rintro vs ms os ⟨rfl, rfl, rfl⟩
    refine Go.Ev.Reach.segR (SC_ok r) TOk.nil (tm := .nil) (L := 1) (L' := 1) (d := 1) hF hro h0' [] (fun p hp => nomatch hp) ?_
    have hn' := ivF r m (rsN w m).length k c (ixN (ciK w m (k + 1)) (2 * m)) d
    simp only [hcn, hdn, ix_nn, Bool.and_true, Bool.and_self, cond_true] at hn'
    rw [show IntKind.wrap .i64 (Int.ofNat k + Int.ofNat 1) = ((k + 1 : Nat) : Int) from inc1 (by omega)] at hn'
    exact (hn' _ _ _ _).trans (qq_ok ⟨m - (k + 1), by omega, k + 1, ck, rfl, rfl, rfl, rfl⟩)
  ·have hn' := ivB r m (rsN w m).length k c (ixN (ciK w m k) (2 * m)) d
   simp only [hcn, hdn, ix_nn, Bool.and_true, Bool.and_self, cond_true] at hn'
   by_cases ck : k < m
   ·simp only [dT (show Int.ofNat k < Int.ofNat m by simp; omega), cond_true] at hn'
    exact (hn' _ _ _ _).trans (qq_ok ⟨ck, rfl, rfl, rfl⟩)
   ·obtain rfl : k = m := by omega
    simp only [dF (show ¬ Int.ofNat k < Int.ofNat k by simp), cond_false] at hn'
    exact (hn' _ _ _ _).trans (qq_ok ⟨rfl, rfl, by rw [ix_ext (f := ciK w k k) (g := ciZ w k) fun j hj => if_pos hj]; rfl⟩)
 ·rintro vs ms os ⟨rfl, rfl, rfl⟩
  have hn' := ivG r m (ixN (ciZ w m) (2 * m))
  simp only [ix_nn, Bool.and_true, cond_true] at hn'
  exact Go.Ev.Reach.segR (SC_ok r) TOk.nil (tm := .nil) (L := 1) (L' := 1) (d := 1) hF hro h0' [] (fun p hp => nomatch hp) ((hn' _ _ _ _).trans (qq_ok ⟨rfl, rfl, rfl⟩))
 ·have hn' := ivA r m w a (rsN w m).length c d
  have e0 := ix_zero2 m
  simp only [tnO, svv_rfl, Nat.ble_eq_true_of_le (show m ≤ 1000000 by omega), Nat.ble_eq_true_of_le (Nat.le_refl m), e0, ix_nn, hcn, hdn, Bool.and_true, Bool.and_self, cond_true] at hn'
  exact (hn' _ _ _).trans (qq_ok ⟨rfl, rfl, by rw [ix_ext (f := ciK w m 0) (g := fun _ => 0) fun j _ => if_neg (by omega)]; rfl⟩)
theorem tw_okS (hmt : ∀ b j u, tabM b j = some u → r b j = some u) (hw : ∀ j, w j < 4096) (h1 : 1 ≤ m) (hm : m ≤ 12) : GrT Tryz.prog r 35 [.agg ⟨orC m w a⟩] (.tuple ⟨[x4 (twV w m), .bool (twO w m).isSome]⟩) := by
 obtain ⟨v, hv⟩ : ∃ v, v = twV w m := ⟨_, rfl⟩
 obtain ⟨bb, hb⟩ : ∃ bb, bb = (twO w m).isSome := ⟨_, rfl⟩
 rw [← hv, ← hb]
 refine GrT.ofS (C := SC r) rfl rfl rfl (callO (SC_ok r) (by kernel_rfl) ((bodySC r _).trans Tw_eq) (nt := 51) (by kernel_rfl) (rs := [.cell 2 30, .tmp 3]) (by kernel_rfl) mTw rfl ⟨[2, 3], [], fun vs ms os => vs = [some (pq 0), some (.bool bb)] ∧ ms = [] ∧ os = [o4 [I (v 0), I (v 1), I (v 2), I (v 3)] 0]⟩ ?_ fun γ W F kk hwr hF hro h0' => ?_)
 ·rintro vs ms os ⟨rfl, rfl, rfl⟩
  exact ⟨_, mkA [o4 [I (v 0), I (v 1), I (v 2), I (v 3)] 0], by kernel_rfl, rfl⟩
 have h0' : ∀ i, 0 ≤ i → γ i = none := h0'
 have hnn : ∀ m w a, m_nns (orC m w a) = true := orC_nn
 refine Go.Ev.Reach.after3R (SC_ok r) TOk.nil (tm := .nil) (L := 1) (L' := 1) (d := 1) hF hro h0' (.step .base) (o1 := ⟨lvT0, [], fun vs ms os => vs = vT0 m 0 ∧ ms = [] ∧ os = [oOr (orC m w a) 0, o4 z4 1]⟩) (o2 := ⟨[2], [], fun vs ms os => twO w m = none ∧ vs = [some (pq 0)] ∧ ms = [] ∧ os = [o4 z4 0]⟩) [] (fun p hp => nomatch hp) ?_ ?_ ((t4A r m w a _ _ _ _).trans (qq_ok ⟨rfl, rfl, rfl⟩))
 ·rintro vs ms os ⟨rfl, rfl, rfl⟩
  refine Go.Ev.Reach.blockC (Go.Ev.Reach.loopC (j := m) (lv := lvT0) (fl := []) (I := fun j vs ms os => ∃ k : Nat, k ≤ m ∧ j = m - k ∧ twO w k = none ∧ vs = vT0 m k ∧ ms = [] ∧ os = [oOr (orC m w a) 0, o4 z4 1]) (fun j vs ms os hI => ?_) ⟨0, by omega, rfl, rfl, rfl, rfl, rfl⟩)
  obtain ⟨k, hk, rfl, hO, rfl, rfl, rfl⟩ := hI
  refine Go.Ev.Reach.afterR (SC_ok r) TOk.nil (tm := .nil) (L := 1) (L' := 1) (d := 1) hF hro h0' (.step .base) (o1 := ⟨lvT0, [], fun vs ms os => k < m ∧ vs = vT0 m k ∧ ms = [] ∧ os = [oOr (orC m w a) 0, o4 z4 1]⟩) [(0, ⟨[2], [], fun vs ms os => twO w m = none ∧ vs = [some (pq 0)] ∧ ms = [] ∧ os = [o4 z4 0]⟩)] (fun p hp => by simp only [List.mem_cons, List.not_mem_nil, or_false] at hp; subst hp; rfl) (fun vs ms os hq => ?_) ?_
  ·obtain ⟨ck, rfl, rfl, rfl⟩ := hq
   refine Go.Ev.Reach.seqC (o1 := ⟨lvT0, [], fun vs ms os => twJ w k k = none ∧ vs = vT0 m k ∧ ms = [] ∧ os = [oOr (orC m w a) 0, o4 z4 1]⟩) (Go.Ev.Reach.blockC ?_) ?_
   ·refine Go.Ev.Reach.afterR (SC_ok r) TOk.nil (tm := .nil) (L := 1) (L' := 1) (d := 1) hF hro h0' (.step .base) (o1 := ⟨lvT1, [], fun vs ms os => vs = vT1 m k 0 ∧ ms = [] ∧ os = [oOr (orC m w a) 0, o4 z4 1]⟩) [] (fun p hp => nomatch hp) (fun vs ms os hq => ?_) ((t4C r m w a k _ _ _ _).trans (qq_ok ⟨rfl, rfl, rfl⟩))
    obtain ⟨rfl, rfl, rfl⟩ := hq
    refine Go.Ev.Reach.blockC (Go.Ev.Reach.loopC (j := k) (lv := lvT1) (fl := []) (I := fun j vs ms os => ∃ d : Nat, d ≤ k ∧ j = k - d ∧ (∀ e, e < d → twI w k e = false) ∧ vs = vT1 m k d ∧ ms = [] ∧ os = [oOr (orC m w a) 0, o4 z4 1]) (fun j vs ms os hI => ?_) ⟨0, by omega, rfl, fun _ h => absurd h (by omega), rfl, rfl, rfl⟩)
    obtain ⟨d, hd, rfl, hno, rfl, rfl, rfl⟩ := hI
    refine Go.Ev.Reach.segR (SC_ok r) (tEs_ok r hmt) (tm := .nil) (L := 1) (L' := 1) (d := 3) hF hro h0' [(2, ⟨lvT0, [], fun vs ms os => twJ w k k = none ∧ vs = vT0 m k ∧ ms = [] ∧ os = [oOr (orC m w a) 0, o4 z4 1]⟩)] (fun p hp => by simp only [List.mem_cons, List.not_mem_nil, or_false] at hp; subst hp; rfl) ?_
    have hn' := t4D r m w a k d
    simp only [tnO] at hn'
    by_cases c : d < k
    ·have b1 : Nat.blt k 12 = true := Nat.ble_eq_true_of_le (by omega)
     have b2 : Nat.blt d 12 = true := Nat.ble_eq_true_of_le (by omega)
     have g1 : (orC m w a)[Nat.add 1 (Nat.mul k 1)]? = some (V ((w k : Nat) : Int)) := by
      rw [show Nat.add 1 (Nat.mul k 1) = 1 + k by simp]; exact orC_w (by omega)
     have g2 : (orC m w a)[Nat.add 1 (Nat.mul d 1)]? = some (V ((w d : Nat) : Int)) := by
      rw [show Nat.add 1 (Nat.mul d 1) = 1 + d by simp]; exact orC_w (by omega)
     have hk1 := hw k
     have hd1 := hw d
     have u1 := (uV (show w k < 65536 by omega) (show w d < 65536 by omega)).2.2
     have u2 := (uV (show w d < 65536 by omega) (show w k < 65536 by omega)).2.2
     have l1 : anN (w k) (w d) < 65536 := an_lt (k := 16) (by omega)
     have l2 : anN (w d) (w k) < 65536 := an_lt (k := 16) (by omega)
     have hI : twI w k d = (decide (anN (w k) (w d) ≠ 0) && decide (anN (w d) (w k) ≠ 0)) := by unfold twI; rw [beq_ne, beq_ne]
     simp only [dT (show Int.ofNat d < Int.ofNat k by simp; omega), b1, b2, g1, g2, isV_V, ofI_V, u1, u2, cond_true] at hn'
     rw [show IntKind.wrap .i64 (Int.ofNat d + Int.ofNat 1) = ((d + 1 : Nat) : Int) from inc1 (by omega)] at hn'
     have nx : twI w k d = false → ∀ e, e < d + 1 → twI w k e = false := fun h e he => by
      by_cases q : e = d
      ·subst q; exact h
      ·exact hno e (by omega)
     by_cases c1 : anN (w k) (w d) = 0
     ·simp only [neF (show ((anN (w k) (w d) : Nat) : Int) = Int.ofNat 0 by rw [c1]; rfl), cond_false] at hn'
      exact (hn' _ _ _).trans (qq_ok ⟨k - (d + 1), by omega, d + 1, c, rfl, nx (by rw [hI, dF (by simpa using c1)]; rfl), rfl, rfl, rfl⟩)
     ·simp only [neT (show ((anN (w k) (w d) : Nat) : Int) ≠ Int.ofNat 0 by simp; omega), cond_true] at hn'
      by_cases c2 : anN (w d) (w k) = 0
      ·simp only [neF (show ((anN (w d) (w k) : Nat) : Int) = Int.ofNat 0 by rw [c2]; rfl), cond_false] at hn'
       exact (hn' _ _ _).trans (qq_ok ⟨k - (d + 1), by omega, d + 1, c, rfl, nx (by rw [hI, dF (show ¬ anN (w d) (w k) ≠ 0 by simpa using c2), Bool.and_false]), rfl, rfl, rfl⟩)
      ·have t1 : m_tvG ((anN (w k) (w d) : Nat) : Int) = true := dT (by omega)
       have t2 : m_tvG ((anN (w d) (w k) : Nat) : Int) = true := dT (by omega)
       have t3 : m_tv ((anN (w k) (w d) : Nat) : Int) = (tzN 16 (anN (w k) (w d)) : Nat) := by unfold m_tv; rw [Int.toNat_natCast]
       have t4 : m_tv ((anN (w d) (w k) : Nat) : Int) = (tzN 16 (anN (w d) (w k)) : Nat) := by unfold m_tv; rw [Int.toNat_natCast]
       simp only [neT (show ((anN (w d) (w k) : Nat) : Int) ≠ Int.ofNat 0 by simp; omega), t1, t2, t3, t4, cond_true] at hn'
       have hI2 : twI w k d = true := by rw [hI, dT c1, dT c2]; rfl
       have hO2 := twO_some hO (twJ_some hno hI2 k c) m ck
       refine (hn' _ _ _).trans (qq_ok ⟨by rw [hb, hO2]; rfl, rfl, ?_⟩)
       rw [hv]
       unfold twV
       rw [hO2]
       rfl
    ·obtain rfl : d = k := by omega
     simp only [dF (show ¬ Int.ofNat d < Int.ofNat d by simp), cond_false] at hn'
     exact (hn' _ _ _).trans (qq_ok ⟨twJ_none hno, rfl, rfl, rfl⟩)
   ·rintro vs ms os ⟨hJ, rfl, rfl, rfl⟩
    refine Go.Ev.Reach.segR (SC_ok r) TOk.nil (tm := .nil) (L := 1) (L' := 1) (d := 1) hF hro h0' [] (fun p hp => nomatch hp) ?_
    have hn' := t4E r m w a k
    rw [show IntKind.wrap .i64 (Int.ofNat k + Int.ofNat 1) = ((k + 1 : Nat) : Int) from inc1 (by omega)] at hn'
    exact (hn' _ _ _ _).trans (qq_ok ⟨m - (k + 1), by omega, k + 1, ck, rfl, twO_next hO hJ, rfl, rfl, rfl⟩)
  ·have hn' := t4B r m w a k
   by_cases ck : k < m
   ·simp only [dT (show Int.ofNat k < Int.ofNat m by simp; omega), cond_true] at hn'
    exact (hn' _ _ _ _).trans (qq_ok ⟨ck, rfl, rfl, rfl⟩)
   ·obtain rfl : k = m := by omega
    simp only [dF (show ¬ Int.ofNat k < Int.ofNat k by simp), cond_false] at hn'
    exact (hn' _ _ _ _).trans (qq_ok ⟨hO, rfl, rfl, rfl⟩)
 ·rintro vs ms os ⟨hO, rfl, rfl, rfl⟩
  refine Go.Ev.Reach.segR (SC_ok r) TOk.nil (tm := .nil) (L := 1) (L' := 1) (d := 1) hF hro h0' [] (fun p hp => nomatch hp) ((t4F r _ _ _ _).trans (qq_ok ⟨by rw [hb, hO]; rfl, rfl, ?_⟩))
  rw [hv]
  unfold twV
  rw [hO]
  rfl
end
end Go.Proofs
