/- A closed call: arguments and answer without a place in memory. -/
import Derived.Test.YtdalaifnhppidaaDoorEvCeq2
import Derived.Below
namespace Go.Ev
open Go

def emptyA : AW := ⟨0, .nil, .nil⟩

theorem WRel.empty (W : World) : WRel (fun _ => none) emptyA W where
 obj := fun i o h => by simp [emptyA, Tr.get] at h
 lt := fun _ _ h => nomatch h
 fresh := fun _ _ => rfl
 sep := fun _ _ _ _ _ _ h => by simp [emptyA, Tr.get] at h
 mem := fun _ _ _ _ _ h => by simp [emptyA, Tr.get] at h
 famlt := fun _ _ _ _ _ h => by simp [emptyA, Tr.get] at h
 famfresh := fun _ _ => rfl

def gives (r : CR) (v : Value) : Bool :=
 match r with
 | .ret u _ => match gnd v with
  | true => veq u v
  | false => false
 | .fail _ => false

theorem gives_of {r : CR} {v : Value} (h : gives r v = true) : ∃ A, r = .ret v A ∧ gnd v = true := by
 unfold gives at h
 split at h
 ·rename_i u A
  split at h
  ·rename_i hg
   rw [veq_eq u v h]
   exact ⟨A, rfl, hg⟩
  ·cases h
 ·cases h

structure BelowD (B : Nat) (w w' : World) : Prop extends Go.RowKit.Below B w w' where
 drawn : w.drawn ≤ w'.drawn

theorem Ext.below {W W' : World} {γ' : Gam} (h : Ext (fun _ => none) W γ' W') : BelowD W.heap.size W W' :=
 ⟨⟨h.os, h.tape, h.output, h.size, fun b hb => h.block b hb fun _ _ e => nomatch e⟩, h.drawn⟩

theorem closed {P : Program} (hm : P.follows .mixedOrders = true) (hn : P.funcs.toList.all okName = true) (ms : Tr Nat) (L d : Nat) {f : Nat} {args : List Value} {v : Value} (ha : gnds args = true)
  (h : gives ((lvlC (Cfg.of P) ms L d).call f args emptyA .ret) v = true) (W : World) : Calls P f ⟨args⟩ W fun e W' => e = .returned v ∧ Go.RowKit.Below W.heap.size W W' := by
 obtain ⟨A, hr, hg⟩ := gives_of h
 refine (lvlC_calls (Cfg.of_ok hm hn) ms L d hr (WRel.empty W) Ro.nought (VsRel.of_gnds _ args ha)).mono fun e W' he => ?_
 obtain ⟨v', γ', rfl, hv, _, hx⟩ := he
 rw [hv.eq_of_gnd hg]
 exact ⟨rfl, hx.below.toBelow⟩

end Go.Ev
