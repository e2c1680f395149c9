/- The memory that came in, read as it stands; rows of arrays of integers among the arguments. -/
import Derived.Test.YtdalaifnhppidaaDoorEvOwn
import Derived.Deep.Slices
import Derived.OpenShut
import Derived.ShutString
import Derived.ChangeOld
namespace Go.Ev
open Go

def asRo : Value → Option Value
 | .int k z => some (.int k z)
 | .bool b => some (.bool b)
 | .string s => some (.string s)
 | .slice none 0 0 => some (.slice none 0 0)
 | .slice (some ⟨b, o, none⟩) l c => match Nat.blt c unk with
  | true => some (.slice (some ⟨b, o, some 0⟩) l c)
  | false => none
 | .slice (some ⟨_, _, some _⟩) 0 0 => some (.slice (some ⟨0, 0, none⟩) 0 unkE)
 | _ => none

theorem asRo_rel {v u : Value} (h : asRo v = some u) (γ : Gam) : VRel γ u v := by
 unfold asRo at h
 split at h
 ·cases h; exact .int _ _
 ·cases h; exact .bool _
 ·cases h; exact .string _
 ·cases h; exact .sliceNil
 ·split at h
  ·rename_i hb
   cases h
   exact .sliceRo _ _ _ _ _ _ (blt_lt hb) (Nat.le_refl _)
  ·cases h
 ·cases h; exact .sliceE _ _ _
 ·cases h

def memOf (W : World) : Mem := ⟨fun b j => match W.cell? ⟨b, j, none⟩ with
 | some v => asRo v
 | none => none, fun _ => false⟩

theorem memOf_ro (W : World) : Ro (memOf W) noG W := ⟨fun b j v h => by
 refine ⟨fun _ _ h => (nomatch h), ?_⟩
 simp only [memOf] at h
 split at h
 ·rename_i u hu
  unfold World.cell? at hu
  simp only at hu
  split at hu
  ·rename_i cc e fr hb
   exact ⟨cc, e, fr, u, hb, hu, fun γ => asRo_rel h γ⟩
  ·cases hu
 ·exact (nomatch h), fun _ h => (nomatch h)⟩

theorem memOf_int {W : World} {b j : Nat} {k : IntKind} {z : Int} (h : W.cell? ⟨b, j, none⟩ = some (.int k z)) : memOf W b j = some (.int k z) := by
 simp only [memOf, h, asRo]
theorem cell_spot {W : World} {a : Addr} {v : Value} (h : W.cell? a = some v) : a.spot = none := by
 unfold World.cell? at h
 split at h
 ·split at h
  ·cases h
  ·rename_i hs
   cases ha : a.spot with
   | none => rfl
   | some s => simp [ha] at hs
 ·cases h

inductive ArgRow (r : Mem) (n : Nat) (p : Value → Prop) : Value → Prop
 | nil : ArgRow r n p (.slice none 0 0)
 | empty : ArgRow r n p (.slice (some ⟨0, 0, none⟩) 0 unkE)
 | row (b off len cap : Nat) (hl : len ≤ cap) (hc : cap ≤ maxLen) (h : ∀ i, i < cap * n → ∃ u, r b (off + i) = some u ∧ p u) : ArgRow r n p (.slice (some ⟨b, off, some 0⟩) len cap)

def ArgInt (k : IntKind) (u : Value) : Prop := ∃ z, u = .int k z ∧ (Lit.int k z).wf = true
def ArgBool (u : Value) : Prop := ∃ b, u = .bool b
theorem arg_row {w : World} {n : Nat} {p : Value → Prop} (hn : 0 < n) {a : Option Addr} {len cap : Nat}
  (h : (a = none ∧ len = 0 ∧ cap = 0) ∨ ∃ x, a = some x ∧ len ≤ cap ∧ cap ≤ maxLen ∧ ∀ i, i < cap * n → ∃ v u, w.cell? (x.add i) = some v ∧ asRo v = some u ∧ p u) :
  ∃ v, VRel noG v (.slice a len cap) ∧ ArgRow (memOf w) n p v := by
 rcases h with ⟨rfl, rfl, rfl⟩ | ⟨x, rfl, hl, hm, hx⟩
 ·exact ⟨_, .sliceNil, .nil⟩
 ·by_cases h0 : cap = 0
  ·have : len = 0 := by omega
   subst this
   exact ⟨_, .sliceE _ _ _, .empty⟩
  ·have hpos : 0 < cap * n := Nat.mul_pos (by omega) hn
   obtain ⟨b, off, s⟩ := x
   have hsp : s = none := by
    obtain ⟨v, u, hv, _⟩ := hx 0 hpos
    have := cell_spot hv
    simpa [Addr.add] using this
   subst hsp
   have hu : cap < unk := by unfold maxLen at hm; unfold unk; omega
   refine ⟨_, .sliceRo b off 0 len cap cap hu (Nat.le_refl _), .row b off len cap hl hm fun i hi => ?_⟩
   obtain ⟨v, u, hv, hr, hp⟩ := hx i hi
   rw [Addr.add_lit] at hv
   exact ⟨u, by simp only [memOf, hv, hr], hp⟩

section
variable {H : Type} {enc : TypeId × Value → H} {P : Program} {w : World} {base : Nat} {held : Bool}

def El (enc : TypeId × Value → H) (P : Program) (w : World) (base : Nat) (held : Bool) (e n : Nat) (p : Value → Prop) : Prop :=
 ∀ (fu : Nat) (cs : List Value) (x : DataW H × List MemPlace), DataW.trod enc P w base (fun _ => true) held fu e cs = some x → cs.length = n → ∀ v ∈ cs, ∃ u, asRo v = some u ∧ p u

theorem el_int {e : TypeId} {k : IntKind} (he : P.underlying e = some (.int k)) : El enc P w base held e 1 (ArgInt k) := fun fu cs x h _ v hv => by
 obtain ⟨z, rfl, _, hw⟩ := Go.DataW.trod_int he h
 simp only [List.mem_singleton] at hv
 subst hv
 exact ⟨_, rfl, z, rfl, hw⟩

theorem el_bool {e : TypeId} (he : P.underlying e = some .bool) : El enc P w base held e 1 ArgBool := fun fu cs x h _ v hv => by
 obtain ⟨b, rfl, _⟩ := Go.DataW.trod_bool he h
 simp only [List.mem_singleton] at hv
 subst hv
 exact ⟨_, rfl, b, rfl⟩

theorem el_arr {e q : TypeId} {n : Nat} {p : Value → Prop} (he : P.underlying e = some (.array n q)) (cq : P.cellsOf q = 1) (hq : El enc P w base held q 1 p) : El enc P w base held e n p := fun fu cs x h hl v hv => by
 obtain ⟨xs, m, _, _, _, hxl, hel⟩ := DataW.trod_array he h
 obtain ⟨j, hj⟩ := List.mem_iff_getElem?.1 hv
 have hjn : j < n := by rw [← hl]; exact (List.getElem?_eq_some_iff.1 hj).1
 have h3 := hel j hjn
 rw [cq, Nat.mul_one, List.getElem?_eq_getElem (by omega : j < xs.length)] at h3
 refine hq _ _ _ h3 (by simp; omega) v ?_
 refine List.mem_iff_getElem?.2 ⟨0, ?_⟩
 rw [List.getElem?_take_of_lt (by omega), List.getElem?_drop]
 simpa using hj

theorem el_row {e q : TypeId} {n : Nat} {p : Value → Prop} (hn : 0 < n) (he : P.underlying e = some (.slice q)) (cq : P.cellsOf q = n) (hq : El enc P w base held q n p) : El enc P w base held e 1 (ArgRow (memOf w) n p) := fun fu cs x h hl v hv => by
 obtain ⟨y, rfl⟩ : ∃ y, cs = [y] := by
  match cs, hl with
  | [y], _ => exact ⟨y, rfl⟩
 simp only [List.mem_singleton] at hv
 subst hv
 rcases Go.Deep.open_slice he h with ⟨h0, _⟩ | ⟨a', len, cap, m, n', D, Pl, h0, _, hle, hm, hmm, _, hx⟩
 ·cases h0
  exact ⟨_, rfl, .nil⟩
 ·cases h0
  simp only [if_true] at hmm
  have cell : ∀ i, i < cap * n → ∃ v u, w.cell? (a'.add i) = some v ∧ asRo v = some u ∧ p u := fun i hi => by
   have hr : i / n < m := by rw [hmm]; exact (Nat.div_lt_iff_lt_mul hn).2 hi
   have hj : i % n < n := Nat.mod_lt _ hn
   obtain ⟨cs', h1, h2⟩ := hx (i / n) hr
   rw [cq] at h1
   obtain ⟨_, hlen, hget⟩ := World.cells?_some h1
   have h6 := hget (i % n) hj
   rw [Go.Deep.add_add] at h6
   have e1 : i / n * n + i % n = i := by rw [Nat.mul_comm]; exact Nat.div_add_mod i n
   rw [e1, List.getElem?_eq_getElem (by omega)] at h6
   obtain ⟨u, h7, h8⟩ := hq _ _ _ h2 hlen _ (List.getElem_mem _)
   exact ⟨_, u, h6, h7, h8⟩
  obtain ⟨b, off, s⟩ := a'
  cases s with
  | none =>
   have hu : Nat.blt cap unk = true := Nat.ble_eq_true_of_le (by unfold maxLen at hm; unfold unk; omega)
   refine ⟨.slice (some ⟨b, off, some 0⟩) len cap, by simp only [asRo, hu], .row b off len cap hle hm fun i hi => ?_⟩
   obtain ⟨v, u, hv, hr, hp⟩ := cell i hi
   rw [Addr.add_lit] at hv
   exact ⟨u, by simp only [memOf, hv, hr], hp⟩
  | some s =>
   have h0 : cap = 0 := by
    rcases Nat.eq_zero_or_pos cap with h0 | h0
    ·exact h0
    ·obtain ⟨v, u, hv, _⟩ := cell 0 (Nat.mul_pos h0 hn)
     have := cell_spot hv
     simp [Addr.add] at this
   subst h0
   have : len = 0 := by omega
   subst this
   exact ⟨_, rfl, .empty⟩

theorem in_row {t e : TypeId} {n : Nat} {p : Value → Prop} {v : Value} {d : DataW H} {ps : List MemPlace} (hn : 0 < n) (ht : P.underlying t = some (.slice e)) (ce : P.cellsOf e = n) (hel : El enc P w base held e n p)
  {b0 : Nat} (hval : Value.okWide P w .any b0 t v) (h : DataW.Trod enc P w base (fun _ => true) held t v d ps) : ∃ u, VRel noG u v ∧ ArgRow (memOf w) n p u := by
 obtain ⟨a, len, cap, rfl⟩ := Go.WideShapes.okWide_slice ht hval
 obtain ⟨fuel, hf⟩ := h
 refine arg_row hn ?_
 rcases Go.Deep.open_slice ht hf with ⟨h0, _⟩ | ⟨a', len', cap', m, n', D, Pl, h0, _, hl, hm, hmm, _, hx⟩
 ·simp [Value.cells] at h0
  exact .inl h0
 ·simp [Value.cells] at h0
  obtain ⟨rfl, rfl, rfl⟩ := h0
  refine .inr ⟨a', rfl, hl, hm, fun i hi => ?_⟩
  simp only [if_true] at hmm
  have hr : i / n < m := by rw [hmm]; exact (Nat.div_lt_iff_lt_mul hn).2 hi
  have hj : i % n < n := Nat.mod_lt _ hn
  obtain ⟨cs', h1, h2⟩ := hx (i / n) hr
  rw [ce] at h1
  obtain ⟨_, hlen, hget⟩ := World.cells?_some h1
  have h6 := hget (i % n) hj
  rw [Go.Deep.add_add] at h6
  have e1 : i / n * n + i % n = i := by rw [Nat.mul_comm]; exact Nat.div_add_mod i n
  rw [e1, List.getElem?_eq_getElem (by omega)] at h6
  obtain ⟨u, h7, h8⟩ := hel _ _ _ h2 hlen _ (List.getElem_mem _)
  exact ⟨_, u, h6, h7, h8⟩

end

end Go.Ev
