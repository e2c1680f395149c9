/- A region that draws its order: an invariant over the sets of operations that have been carried out. -/
import Derived.Test.YtffcidnblfckcaaGreatDoorEvRange
import Derived.OrdersIn
namespace Go.Ev
open Go

def upd (L : Nat → Bool) (i : Nat) : Nat → Bool := fun j => match Nat.beq j i with | true => true | false => L j

theorem upd_same (L : Nat → Bool) (i : Nat) : upd L i i = true := by simp [upd]
theorem upd_other (L : Nat → Bool) {i j : Nat} (h : j ≠ i) : upd L i j = L j := by
  have : Nat.beq j i = false := by
    cases hb : Nat.beq j i with
    | false => rfl
    | true => exact absurd (Nat.eq_of_beq_eq_true hb) h
  simp [upd, this]

/-- Every binding edge leads from an operation to an earlier one. -/
def Edged (ops : Array Oper) : Prop := ∀ i o, ops[i]? = some o → ∀ e ∈ o.after.toList, Region.binds .any e = true → e.on < i

theorem wpAny_inv {F : Fence} {k : Nat} {P : Program} {ops : Array Oper} {Q : Exit → Act → World → Prop} (I : (Nat → Bool) → Act → World → Prop) (hE : Edged ops)
    (hdone : ∀ L a W, I L a W → (∀ i, i < ops.size → L i = true) → Q .normal a W)
    (hstep : ∀ L a W i o, I L a W → ops[i]? = some o → L i = false → (∀ e ∈ o.after.toList, Region.binds .any e = true → L e.on = true) → wpOpIn F k P ops Q i (fun a' W' => I (upd L i) a' W') a W) :
    ∀ (fuel : Nat) (listed : Array Bool) (L : Nat → Bool) (a : Act) (W : World), listed.size = ops.size → (∀ i, i < ops.size → listed[i]? = some (L i)) → ((List.range ops.size).filter fun i => !L i).length ≤ fuel → I L a W →
      wpAnyIn F k P .any ops Q fuel listed a W := by
  have hready : ∀ (listed : Array Bool) (L : Nat → Bool), listed.size = ops.size → (∀ i, i < ops.size → listed[i]? = some (L i)) → ∀ i, i ∈ Region.ready .any ops listed →
      ∃ o, ops[i]? = some o ∧ L i = false ∧ ∀ e ∈ o.after.toList, Region.binds .any e = true → L e.on = true := by
    intro listed L hsz hL i hi
    simp only [Region.ready, List.mem_filter, List.mem_range, Bool.and_eq_true] at hi
    obtain ⟨hlt, h1, h2⟩ := hi
    have ho : ops[i]? = some ops[i] := Array.getElem?_eq_getElem hlt
    refine ⟨ops[i], ho, ?_, ?_⟩
    · have := hL i hlt
      simp [Array.getD_eq_getD_getElem?, this] at h1
      exact h1
    · intro e he hb
      simp only [ho, Option.map_some, Option.getD_some, Array.all_eq_true'] at h2
      have h3 := h2 e (by simpa using he)
      simp only [hb, Bool.not_true, Bool.false_or] at h3
      have hon : e.on < ops.size := Nat.lt_trans (hE i _ ho e he hb) hlt
      have h4 := hL e.on hon
      simp [Array.getD_eq_getD_getElem?, h4] at h3
      exact h3
  have hall : ∀ (listed : Array Bool) (L : Nat → Bool), listed.size = ops.size → (∀ i, i < ops.size → listed[i]? = some (L i)) → Region.ready .any ops listed = [] → ∀ i, i < ops.size → L i = true := by
    intro listed L hsz hL hnil i
    induction i using Nat.strongRecOn with
    | _ i ih =>
      intro hi
      cases hLi : L i with
      | true => rfl
      | false =>
        have hmem : i ∈ Region.ready .any ops listed := by
          have ho : ops[i]? = some ops[i] := Array.getElem?_eq_getElem hi
          simp only [Region.ready, List.mem_filter, List.mem_range, Bool.and_eq_true]
          refine ⟨hi, ?_, ?_⟩
          · simp [Array.getD_eq_getD_getElem?, hL i hi, hLi]
          · simp only [ho, Option.map_some, Option.getD_some, Array.all_eq_true']
            intro e he
            cases hb : Region.binds .any e with
            | false => rfl
            | true =>
              have hlt := hE i _ ho e (by simpa using he) hb
              have h5 := ih e.on hlt (Nat.lt_trans hlt hi)
              simp [Array.getD_eq_getD_getElem?, hL e.on (Nat.lt_trans hlt hi), h5]
        rw [hnil] at hmem
        cases hmem
  intro fuel
  induction fuel with
  | zero =>
    intro listed L a W hsz hL hf hI
    have hdn : ∀ i, i < ops.size → L i = true := fun i hi => by
      cases hLi : L i with
      | true => rfl
      | false =>
        have : i ∈ (List.range ops.size).filter fun i => !L i := by simp [hi, hLi]
        have := List.length_pos_of_mem this
        omega
    refine ⟨?_, hdone L a W hI hdn⟩
    cases hr : Region.ready .any ops listed with
    | nil => rfl
    | cons i l =>
      obtain ⟨o, ho, hLi, _⟩ := hready listed L hsz hL i (by rw [hr]; simp)
      rw [hdn i (Array.getElem?_eq_some_iff.1 ho).1] at hLi
      cases hLi
  | succ fuel ih =>
    intro listed L a W hsz hL hf hI
    refine ⟨fun hnil => hdone L a W hI (hall listed L hsz hL hnil), fun i hi => ?_⟩
    obtain ⟨o, ho, hLi, hed⟩ := hready listed L hsz hL i hi
    have hlt : i < ops.size := (Array.getElem?_eq_some_iff.1 ho).1
    refine wpOpIn_mono (fun a' W' h => ?_) (hstep L a W i o hI ho hLi hed)
    refine ih (listed.setIfInBounds i true) (upd L i) a' W' (by simpa using hsz) (fun j hj => ?_) ?_ h
    · by_cases hji : j = i
      · subst hji; rw [upd_same, Array.getElem?_setIfInBounds]; simp [hsz, hj]
      · rw [upd_other L hji, Array.getElem?_setIfInBounds_ne (by omega)]; exact hL j hj
    · have hcount : ((List.range ops.size).filter fun j => !upd L i j).length < ((List.range ops.size).filter fun j => !L j).length := by
        have hsub : (List.range ops.size).filter (fun j => !upd L i j) = ((List.range ops.size).filter fun j => !L j).filter fun j => j != i := by
          rw [List.filter_filter]
          apply List.filter_congr
          intro j _
          by_cases hji : j = i
          · subst hji; simp [upd_same]
          · simp [upd_other L hji, hji]
        rw [hsub]
        have hmem : i ∈ (List.range ops.size).filter fun j => !L j := by simp [hlt, hLi]
        exact List.length_filter_lt_length_iff_exists.2 ⟨i, hmem, by simp⟩
      omega

theorem draw_inv {F : Fence} {k : Nat} {P : Program} {id : Nat} {ops : Array Oper} {Q : Exit → Act → World → Prop} (hm : P.follows .mixedOrders = true) (I : (Nat → Bool) → Act → World → Prop) (hE : Edged ops)
    (hdone : ∀ L a W, I L a W → (∀ i, i < ops.size → L i = true) → Q .normal a W)
    (hstep : ∀ L a W i o, I L a W → ops[i]? = some o → L i = false → (∀ e ∈ o.after.toList, Region.binds .any e = true → L e.on = true) → wpOpIn F k P ops Q i (fun a' W' => I (upd L i) a' W') a W)
    {a : Act} {W : World} (h0 : I (fun _ => false) a W.drew) : (Code.region id ops true).wpIn F k P Q a W := by
  refine wpIn_region_any hm ?_
  refine wpAny_inv I hE hdone hstep ops.size _ (fun _ => false) a _ (by simp) (fun i hi => by simp [hi]) ?_ h0
  refine Nat.le_trans (List.length_filter_le _ _) (by simp)

end Go.Ev
