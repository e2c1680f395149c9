/- A region that draws its order: an invariant over the sets of operations that have been carried out. -/
import Derived.Test.YtdalaifnhppidaaDoorEvRange
import Derived.OrdersIn
namespace Go.Ev
open Go

def upd (L : Nat → Bool) (i : Nat) : Nat → Bool := fun j => match Nat.beq j i with | true => true | false => L j

theorem upd_same (L : Nat → Bool) (i : Nat) : upd L i i = true := by simp [upd]
theorem upd_other (L : Nat → Bool) {i j : Nat} (h : j ≠ i) : upd L i j = L j := by
 have : Nat.beq j i = false := by
  cases hb : Nat.beq j i with
  | false => rfl
  | true => exact absurd (Nat.eq_of_beq_eq_true hb) h
 simp [upd, this]

def Edged (ops : Array Oper) : Prop := ∀ i o, ops[i]? = some o → ∀ e ∈ o.after.toList, Region.binds .any e = true → e.on < i

theorem wpAny_inv {F : Fence} {k : Nat} {P : Program} {ops : Array Oper} {Q : Exit → Act → World → Prop} (I : (Nat → Bool) → Act → World → Prop) (hE : Edged ops)
  (hdone : ∀ L a W, I L a W → (∀ i, i < ops.size → L i = true) → Q .normal a W)
  (hstep : ∀ L a W i o, I L a W → ops[i]? = some o → L i = false → (∀ e ∈ o.after.toList, Region.binds .any e = true → L e.on = true) → wpOpIn F k P ops Q i (fun a' W' => I (upd L i) a' W') a W) :
  ∀ (fuel : Nat) (listed : Array Bool) (L : Nat → Bool) (a : Act) (W : World), listed.size = ops.size → (∀ i, i < ops.size → listed[i]? = some (L i)) → ((List.range ops.size).filter fun i => !L i).length ≤ fuel → I L a W →
   wpAnyIn F k P .any ops Q fuel listed a W := by
 have hready : ∀ (listed : Array Bool) (L : Nat → Bool), listed.size = ops.size → (∀ i, i < ops.size → listed[i]? = some (L i)) → ∀ i, i ∈ Region.ready .any ops listed →
   ∃ o, ops[i]? = some o ∧ L i = false ∧ ∀ e ∈ o.after.toList, Region.binds .any e = true → L e.on = true := by
  intro listed L hsz hL i hi
  simp only [Region.ready, List.mem_filter, List.mem_range, Bool.and_eq_true] at hi
  obtain ⟨hlt, h1, h2⟩ := hi
  have ho : ops[i]? = some ops[i] := Array.getElem?_eq_getElem hlt
  refine ⟨ops[i], ho, ?_, ?_⟩
  ·have := hL i hlt
   simp [Array.getD_eq_getD_getElem?, this] at h1
   exact h1
  ·intro e he hb
   simp only [ho, Option.map_some, Option.getD_some, Array.all_eq_true'] at h2
   have h3 := h2 e (by simpa using he)
   simp only [hb, Bool.not_true, Bool.false_or] at h3
   have hon : e.on < ops.size := Nat.lt_trans (hE i _ ho e he hb) hlt
   have h4 := hL e.on hon
   simp [Array.getD_eq_getD_getElem?, h4] at h3
   exact h3
 have hall : ∀ (listed : Array Bool) (L : Nat → Bool), listed.size = ops.size → (∀ i, i < ops.size → listed[i]? = some (L i)) → Region.ready .any ops listed = [] → ∀ i, i < ops.size → L i = true := by
  intro listed L hsz hL hnil i
  induction i using Nat.strongRecOn with
  | _ i ih =>
   intro hi
   cases hLi : L i with
   | true => rfl
   | false =>
    have hmem : i ∈ Region.ready .any ops listed := by
     have ho : ops[i]? = some ops[i] := Array.getElem?_eq_getElem hi
     simp only [Region.ready, List.mem_filter, List.mem_range, Bool.and_eq_true]
     refine ⟨hi, ?_, ?_⟩
     ·simp [Array.getD_eq_getD_getElem?, hL i hi, hLi]
     ·simp only [ho, Option.map_some, Option.getD_some, Array.all_eq_true']
      intro e he
      cases hb : Region.binds .any e with
      | false => rfl
      | true =>
       have hlt := hE i _ ho e (by simpa using he) hb
       have h5 := ih e.on hlt (Nat.lt_trans hlt hi)
       simp [Array.getD_eq_getD_getElem?, hL e.on (Nat.lt_trans hlt hi), h5]
    rw [hnil] at hmem
    cases hmem
 intro fuel
 induction fuel with
 | zero =>
  intro listed L a W hsz hL hf hI
  have hdn : ∀ i, i < ops.size → L i = true := fun i hi => by
   cases hLi : L i with
   | true => rfl
   | false =>
    have : i ∈ (List.range ops.size).filter fun i => !L i := by simp [hi, hLi]
    have := List.length_pos_of_mem this
    omega
  refine ⟨?_, hdone L a W hI hdn⟩
  cases hr : Region.ready .any ops listed with
  | nil => rfl
  | cons i l =>
   obtain ⟨o, ho, hLi, _⟩ := hready listed L hsz hL i (by rw [hr]; simp)
   rw [hdn i (Array.getElem?_eq_some_iff.1 ho).1] at hLi
   cases hLi
 | succ fuel ih =>
  intro listed L a W hsz hL hf hI
  refine ⟨fun hnil => hdone L a W hI (hall listed L hsz hL hnil), fun i hi => ?_⟩
  obtain ⟨o, ho, hLi, hed⟩ := hready listed L hsz hL i hi
  have hlt : i < ops.size := (Array.getElem?_eq_some_iff.1 ho).1
  refine wpOpIn_mono (fun a' W' h => ?_) (hstep L a W i o hI ho hLi hed)
  refine ih (listed.setIfInBounds i true) (upd L i) a' W' (by simpa using hsz) (fun j hj => ?_) ?_ h
  ·by_cases hji : j = i
   ·subst hji; rw [upd_same, Array.getElem?_setIfInBounds]; simp [hsz, hj]
   ·rw [upd_other L hji, Array.getElem?_setIfInBounds_ne (by omega)]; exact hL j hj
  ·have hcount : ((List.range ops.size).filter fun j => !upd L i j).length < ((List.range ops.size).filter fun j => !L j).length := by
    have hsub : (List.range ops.size).filter (fun j => !upd L i j) = ((List.range ops.size).filter fun j => !L j).filter fun j => j != i := by
     rw [List.filter_filter]
     apply List.filter_congr
     intro j _
     by_cases hji : j = i
     ·subst hji; simp [upd_same]
     ·simp [upd_other L hji, hji]
    rw [hsub]
    have hmem : i ∈ (List.range ops.size).filter fun j => !L j := by simp [hlt, hLi]
    exact List.length_filter_lt_length_iff_exists.2 ⟨i, hmem, by simp⟩
   omega

theorem draw_inv {F : Fence} {k : Nat} {P : Program} {ops : Array Oper} {Q : Exit → Act → World → Prop} (I : (Nat → Bool) → Act → World → Prop) (hE : Edged ops)
  (hdone : ∀ L a W, I L a W → (∀ i, i < ops.size → L i = true) → Q .normal a W)
  (hstep : ∀ L a W i o, I L a W → ops[i]? = some o → L i = false → (∀ e ∈ o.after.toList, Region.binds .any e = true → L e.on = true) → wpOpIn F k P ops Q i (fun a' W' => I (upd L i) a' W') a W)
  {a : Act} {W : World} (h0 : I (fun _ => false) a W.drew) : wpAnyIn F k P .any ops Q ops.size (Array.replicate ops.size false) a W.drew := by
 refine wpAny_inv I hE hdone hstep ops.size _ (fun _ => false) a _ (by simp) (fun i hi => by simp [hi]) ?_ h0
 refine Nat.le_trans (List.length_filter_le _ _) (by simp)

/-! ### the same operations in another order of the text -/

def renOp (π : Nat → Nat) (o : Oper) : Oper := { o with after := o.after.map fun e => { e with on := π e.on }, guard := match o.guard with | some (j, w) => some (π j, w) | none => none }

theorem renOp_wpIn {π : Nat → Nat} {o : Oper} {F : Fence} {k : Nat} {P : Program} {a : Act} {W : World} {next : Act → World → Prop} {Q : Exit → Act → World → Prop} : (renOp π o).wpIn F k P a W next Q = o.wpIn F k P a W next Q := by
 obtain ⟨dst, op, type, pos, after, guard⟩ := o
 rfl

section
variable {F : Fence} {k : Nat} {P : Program} {ops ops' : Array Oper} {Q : Exit → Act → World → Prop} {π σ : Nat → Nat}

structure Perm (ops ops' : Array Oper) (π σ : Nat → Nat) : Prop where
 size : ops'.size = ops.size
 lt : ∀ i, i < ops.size → π i < ops.size
 inv : ∀ i, i < ops.size → σ (π i) = i
 lt' : ∀ i, i < ops.size → σ i < ops.size
 inv' : ∀ i, i < ops.size → π (σ i) = i
 out : ∀ i, ops.size ≤ i → π i = i
 at' : ∀ i o, ops[i]? = some o → ops'[π i]? = some (renOp π o)

theorem Perm.yielded (h : Perm ops ops' π σ) (tmps : Array Value) (j : Nat) : yielded ops' tmps (π j) = yielded ops tmps j := by
 unfold Go.yielded
 by_cases hj : j < ops.size
 ·have h1 : ops[j]? = some ops[j] := Array.getElem?_eq_getElem hj
  rw [h1, h.at' j _ h1]
  rfl
 ·have h1 : ops[j]? = none := Array.getElem?_eq_none (by omega)
  have h2 : ops'[π j]? = none := by rw [h.out j (by omega)]; exact Array.getElem?_eq_none (by rw [h.size]; omega)
  rw [h1, h2]

theorem Perm.op (h : Perm ops ops' π σ) {i : Nat} {K K' : Act → World → Prop} {a : Act} {W : World} (hi : i < ops.size) (hK : ∀ a w, K' a w → K a w) (hh : wpOpIn F k P ops' Q (π i) K' a W) : wpOpIn F k P ops Q i K a W := by
 have h1 : ops[i]? = some ops[i] := Array.getElem?_eq_getElem hi
 unfold wpOpIn at hh ⊢
 rw [h.at' i _ h1] at hh
 rw [h1]
 simp only at hh ⊢
 have hw : Region.wanted (renOp π ops[i]) (Go.yielded ops' a.tmps) = Region.wanted ops[i] (Go.yielded ops a.tmps) := by
  unfold Region.wanted renOp
  cases ops[i].guard with
  | none => rfl
  | some g => simp only [h.yielded]
 rw [hw] at hh
 split
 ·rename_i hc
  rw [if_pos hc, renOp_wpIn] at hh
  exact Oper.wpIn_mono hK hh
 ·rename_i hc
  rw [if_neg hc] at hh
  exact ⟨hh.1, hK _ _ hh.2⟩

theorem Perm.ready (h : Perm ops ops' π σ) (hE : Edged ops) {listed listed' : Array Bool} (_ : listed.size = ops.size) (hs' : listed'.size = ops.size) (hl : ∀ i, i < ops.size → listed'[π i]? = listed[i]?) {i : Nat} (hi : i < ops.size) :
  π i ∈ Region.ready .any ops' listed' ↔ i ∈ Region.ready .any ops listed := by
 have h1 : ops[i]? = some ops[i] := Array.getElem?_eq_getElem hi
 have hg : ∀ (j : Nat) (b : Bool), j < ops.size → listed'.getD (π j) b = listed.getD j b := fun j b hj => by
  rw [Array.getD_eq_getD_getElem?, Array.getD_eq_getD_getElem?, hl j hj]
 simp only [Region.ready, List.mem_filter, List.mem_range, Bool.and_eq_true, h1, h.at' i _ h1, Option.map_some, Option.getD_some, h.size, hg i true hi]
 have hall : (renOp π ops[i]).after.all (fun e => !Region.binds .any e || listed'.getD e.on false) = ops[i].after.all (fun e => !Region.binds .any e || listed.getD e.on false) := by
  unfold renOp
  simp only [Array.all_map]
  rw [Bool.eq_iff_iff, Array.all_eq_true', Array.all_eq_true']
  refine forall_congr' fun e => imp_congr_right fun he => ?_
  have hb : Region.binds .any { e with on := π e.on } = Region.binds .any e := rfl
  simp only [Function.comp, hb]
  cases hbe : Region.binds .any e with
  | false => simp
  | true =>
   have := hE i _ h1 e (by simpa using he) hbe
   simp only [Bool.not_true, Bool.false_or]
   rw [hg e.on false (by omega)]
 rw [hall]
 exact ⟨fun q => ⟨hi, q.2⟩, fun q => ⟨h.lt i hi, q.2⟩⟩

theorem Perm.any (h : Perm ops ops' π σ) (hE : Edged ops) : ∀ (fuel : Nat) (listed listed' : Array Bool) (a : Act) (W : World), listed.size = ops.size → listed'.size = ops.size → (∀ i, i < ops.size → listed'[π i]? = listed[i]?) →
  wpAnyIn F k P .any ops' Q fuel listed' a W → wpAnyIn F k P .any ops Q fuel listed a W := by
 have hnil : ∀ listed listed' : Array Bool, listed.size = ops.size → listed'.size = ops.size → (∀ i, i < ops.size → listed'[π i]? = listed[i]?) → (Region.ready .any ops listed = [] ↔ Region.ready .any ops' listed' = []) := fun listed listed' hs hs' hl => by
  constructor
  ·intro hr
   apply List.eq_nil_iff_forall_not_mem.2
   intro j hj
   have hjlt : j < ops.size := by
    simp only [Region.ready, List.mem_filter, List.mem_range, h.size] at hj
    exact hj.1
   have := (h.ready hE hs hs' hl (h.lt' j hjlt)).1 (by rw [h.inv' j hjlt]; exact hj)
   rw [hr] at this
   cases this
  ·intro hr
   apply List.eq_nil_iff_forall_not_mem.2
   intro i hi
   have hilt : i < ops.size := by
    simp only [Region.ready, List.mem_filter, List.mem_range] at hi
    exact hi.1
   have := (h.ready hE hs hs' hl hilt).2 hi
   rw [hr] at this
   cases this
 intro fuel
 induction fuel with
 | zero => intro listed listed' a W hs hs' hl hh; exact ⟨(hnil _ _ hs hs' hl).2 hh.1, hh.2⟩
 | succ fuel ih =>
  intro listed listed' a W hs hs' hl hh
  refine ⟨fun hr => hh.1 ((hnil _ _ hs hs' hl).1 hr), fun i hi => ?_⟩
  have hilt : i < ops.size := by
   simp only [Region.ready, List.mem_filter, List.mem_range] at hi
   exact hi.1
  have := hh.2 (π i) ((h.ready hE hs hs' hl hilt).2 hi)
  refine h.op hilt (fun a w hk => ih _ _ a w (by simpa using hs) (by simpa using hs') (fun j hj => ?_) hk) this
  by_cases hji : j = i
  ·subst hji
   rw [Array.getElem?_setIfInBounds, Array.getElem?_setIfInBounds]
   simp [hs, hs', hj, h.lt j hj]
  ·have : π i ≠ π j := fun e => hji (by rw [← h.inv j hj, ← e, h.inv i hilt])
   rw [Array.getElem?_setIfInBounds_ne this, Array.getElem?_setIfInBounds_ne (fun e => hji e.symm)]
   exact hl j hj
end

end Go.Ev
