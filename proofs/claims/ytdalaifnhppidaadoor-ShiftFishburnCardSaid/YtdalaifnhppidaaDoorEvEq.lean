/- Equality of structs and arrays of plain parts, part by part. -/
import Derived.Test.YtdalaifnhppidaaDoorEvStr
namespace Go.Ev
open Go

def eqLeaf (d : TypeDesc) (x y : Value) : Option Bool :=
 match d, x, y with
 | .int _, .int k a, .int k' b => match decide (k = k') with
  | true => some (a == b)
  | false => none
 | .bool, .bool a, .bool b => some (a == b)
 | .string, .string a, .string b => some (bytesEq a.data.toList b.data.toList)
 | _, _, _ => none

theorem eqLeaf_rel {γ : Gam} {d : TypeDesc} {x x' y y' : Value} {b : Bool} (hx : VRel γ x x') (hy : VRel γ y y') (h : eqLeaf d x y = some b) : x' = x ∧ y' = y := by
 unfold eqLeaf at h
 split at h
 ·cases hx; cases hy; exact ⟨rfl, rfl⟩
 ·cases hx; cases hy; exact ⟨rfl, rfl⟩
 ·cases hx; cases hy; exact ⟨rfl, rfl⟩
 ·cases h

theorem eqLeaf_run {P : Program} {t n : Nat} {d : TypeDesc} (ht : P.underlying t = some d) {x y : Value} {b : Bool} (h : eqLeaf d x y = some b) (W : World) : (Op.equalIn (n + 1) t x y).run P W = .ok b W := by
 unfold eqLeaf at h
 split at h
 ·split at h
  ·rename_i hk
   have hk' := of_decide_eq_true hk
   cases h
   subst hk'
   simp [Op.equalIn, run_underlying ht]
  ·cases h
 ·cases h
  simp [Op.equalIn, run_underlying ht]
 ·rename_i a b'
  cases h
  obtain ⟨⟨a⟩⟩ := a
  obtain ⟨⟨c⟩⟩ := b'
  simp only [Op.equalIn, Sem.run_bind, run_underlying ht, Result.andThen_ok, Sem.run_pure, bytesEq_eq]
  have e1 : ((ByteArray.mk ⟨a⟩ == ByteArray.mk ⟨c⟩) : Bool) = ((⟨a⟩ : Array UInt8) == ⟨c⟩) := rfl
  have e2 : ((⟨a⟩ : Array UInt8) == ⟨c⟩) = (a == c) := by
   rw [Bool.eq_iff_iff]
   simp
  rw [e1, e2]
 ·cases h

theorem run_eqLoop {P : Program} {α : Type} {body : α → Option Bool × PUnit → Sem (ForInStep (Option Bool × PUnit))} {b : α → Bool} {W : World} : ∀ (l : List α),
  (∀ x ∈ l, ∀ s, (body x s).run P W = .ok (if b x then .yield (none, ()) else .done (some false, ())) W) → (forIn l (none, ()) body).run P W = .ok (if l.all b then (none, ()) else (some false, ())) W
 | [], _ => rfl
 | x :: l, h => by
  rw [List.forIn_cons, Sem.run_bind, h x (by simp)]
  cases hb : b x with
  | true =>
   simp only [if_true, Result.andThen_ok, List.all_cons, hb, Bool.true_and]
   exact run_eqLoop l fun y hy => h y (by simp [hy])
  | false => simp [hb]

def eqArr (d : TypeDesc) : Nat → List Value → List Value → Option Bool
 | 0, _, _ => some true
 | n + 1, x :: l, y :: l' => match eqLeaf d x y, eqArr d n l l' with
  | some a, some b => some (a && b)
  | _, _ => none
 | _, _, _ => none

theorem eqArr_get {d : TypeDesc} : ∀ {n : Nat} {l l' : List Value} {b : Bool}, eqArr d n l l' = some b →
  ∃ q : Nat → Bool, (∀ i, i < n → ∃ x y, l[i]? = some x ∧ l'[i]? = some y ∧ eqLeaf d x y = some (q i)) ∧ (List.range n).all q = b
 | 0, l, l', b, h => by
  simp only [eqArr, Option.some.injEq] at h
  exact ⟨fun _ => true, fun i hi => by omega, by simpa using h⟩
 | n + 1, x :: l, y :: l', b, h => by
  simp only [eqArr] at h
  split at h
  ·rename_i a c ha hc
   cases h
   obtain ⟨q, h1, h2⟩ := eqArr_get hc
   refine ⟨fun i => match i with | 0 => a | i + 1 => q i, fun i hi => ?_, ?_⟩
   ·cases i with
    | zero => exact ⟨x, y, rfl, rfl, ha⟩
    | succ i =>
     obtain ⟨u, w, e1, e2, e3⟩ := h1 i (by omega)
     exact ⟨u, w, by simpa using e1, by simpa using e2, e3⟩
   ·rw [List.range_succ_eq_map, List.all_cons, List.all_map]
    exact congrArg (a && ·) h2
  ·cases h
 | n + 1, [], _, b, h => by simp [eqArr] at h
 | n + 1, _ :: _, [], b, h => by simp [eqArr] at h

def eqFlds (C : Cfg) : List Field → List Value → List Value → Option Bool
 | [], _, _ => some true
 | f :: fs, l, l' => match C.under f.type with
  | some d => match isAggD d, decide (f.name = "_"), l[f.offset]?, l'[f.offset]? with
   | false, false, some x, some y => match eqLeaf d x y, eqFlds C fs l l' with
    | some a, some b => some (a && b)
    | _, _ => none
   | _, _, _, _ => none
  | none => none

theorem eqFlds_get {C : Cfg} {l l' : List Value} : ∀ {fs : List Field} {b : Bool}, eqFlds C fs l l' = some b →
  ∃ q : Field → Bool, (∀ f ∈ fs, f.name ≠ "_" ∧ ∃ d x y, C.under f.type = some d ∧ isAggD d = false ∧ l[f.offset]? = some x ∧ l'[f.offset]? = some y ∧ eqLeaf d x y = some (q f)) ∧ fs.all q = b
 | [], b, h => by
  simp only [eqFlds, Option.some.injEq] at h
  exact ⟨fun _ => true, fun f hf => by simp at hf, by simpa using h⟩
 | f :: fs, b, h => by
  simp only [eqFlds] at h
  split at h
  ·rename_i d hd
   split at h
   ·rename_i x y hagg hname hx hy
    split at h
    ·rename_i a c ha hc
     cases h
     obtain ⟨q, h1, h2⟩ := eqFlds_get hc
     have q0 : Field → Bool := fun g => match C.under g.type with
      | some d => match l[g.offset]?, l'[g.offset]? with
       | some x, some y => (eqLeaf d x y).getD false
       | _, _ => false
      | none => false
     refine ⟨fun g => match C.under g.type with
      | some d => match l[g.offset]?, l'[g.offset]? with
       | some x, some y => (eqLeaf d x y).getD false
       | _, _ => false
      | none => false, fun g hg => ?_, ?_⟩
     ·rcases List.mem_cons.1 hg with rfl | hg
      ·exact ⟨of_decide_eq_false hname, d, x, y, hd, hagg, hx, hy, by simp [hd, hx, hy, ha]⟩
      ·obtain ⟨e1, d', x', y', e2, e3, e4, e5, e6⟩ := h1 g hg
       exact ⟨e1, d', x', y', e2, e3, e4, e5, by simp [e2, e4, e5, e6]⟩
     ·rw [List.all_cons]
      have : (fs.all fun g => match C.under g.type with
       | some d => match l[g.offset]?, l'[g.offset]? with
        | some x, some y => (eqLeaf d x y).getD false
        | _, _ => false
       | none => false) = fs.all q := by
       rw [Bool.eq_iff_iff, List.all_eq_true, List.all_eq_true]
       refine ⟨fun hh g hg => ?_, fun hh g hg => ?_⟩ <;>
       ·obtain ⟨_, d', x', y', e2, _, e4, e5, e6⟩ := h1 g hg
        have := hh g hg
        simp only [e2, e4, e5, e6, Option.getD_some] at this ⊢
        exact this
      rw [this, h2]
      simp [hd, hx, hy, ha]
    ·cases h
   ·cases h
  ·cases h

def aggEq (C : Cfg) (t : Nat) (l l' : List Value) : Option Bool :=
 match C.P.eqGuardType C.P.depth t with
 | true => none
 | false => match C.under t with
  | some (.array n e) => match C.under e, C.tys.get e with
   | some d, some inf => match isAggD d, Nat.beq inf.size 1 with
    | false, true => eqArr d n l l'
    | _, _ => none
   | _, _ => none
  | some (.struct ⟨fs⟩) => match C.P.stoodInHeld t with
   | false => eqFlds C fs l l'
   | true => none
  | _ => none

theorem run_part' {P : Program} {t : Nat} {d : TypeDesc} (ht : P.underlying t = some d) (hd : isAggD d = false) {cs : Array Value} {off : Nat} {v : Value} (h : cs[off]? = some v) (W : World) : (part t cs off).run P W = .ok v W := by
 simp only [part, Sem.run_bind, run_isAgg ht, hd, Result.andThen_ok, Bool.false_eq_true, if_false, h, Sem.run_pure]

theorem aggEq_ok {C : Cfg} (hC : C.Ok) {γ : Gam} {t : Nat} {l l' : List Value} {m m' : Array Value} {b : Bool} (h : aggEq C t l l' = some b) (hl : VsRel γ l m.toList) (hl' : VsRel γ l' m'.toList) (W : World) :
  (Op.equal t (.agg m) (.agg m')).run C.P W = .ok b W ∧ ∀ op ox oy, (eqGuard op t ox oy (.agg m) (.agg m')).run C.P W = .ok () W := by
 unfold aggEq at h
 split at h
 ·cases h
 rename_i hguard
 refine ⟨?_, fun op ox oy => ?_⟩
 ·show (Op.equalIn (9999 + 1) t (.agg m) (.agg m')).run C.P W = .ok b W
  generalize hN : 9998 = N
  rw [show 9999 = N + 1 by omega]
  split at h
  ·rename_i n e ht
   split at h
   ·rename_i d inf hd hinf
    split at h
    ·rename_i hagg hsz
     have hsz' : inf.size = 1 := Nat.eq_of_beq_eq_true hsz
     obtain ⟨q, h1, h2⟩ := eqArr_get h
     rw [Op.equalIn]
     simp only [Sem.run_bind, run_underlying (hC.under ht), Result.andThen_ok, run_sizeOf' (hC.ty _ _ hinf)]
     rw [Std.Legacy.Range.forIn_eq_forIn_range', run_eqLoop (b := q) _ fun i hi s => ?_]
     ·have hr : List.range' (0 : Nat) n 1 = List.range n := List.range_eq_range'.symm
      have : (List.range' (0 : Nat) ([:n] : Std.Legacy.Range).size 1).all q = b := by
       rw [← h2]
       congr 1
       simp [Std.Legacy.Range.size, List.range_eq_range']
      simp only [Result.andThen_ok]
      rw [this]
      cases b <;> rfl
     ·have hin : i < n := by
       simp [Std.Legacy.Range.size] at hi
       omega
      obtain ⟨x, y, e1, e2, e3⟩ := h1 i hin
      obtain ⟨x', f1, f2⟩ := hl.get e1
      obtain ⟨y', f3, f4⟩ := hl'.get e2
      obtain ⟨rfl, rfl⟩ := eqLeaf_rel f2 f4 e3
      have g1 : m[i * inf.size]? = some x' := by rw [hsz', Nat.mul_one]; simpa using f1
      have g2 : m'[i * inf.size]? = some y' := by rw [hsz', Nat.mul_one]; simpa using f3
      simp only [Sem.run_bind, run_part' (hC.under hd) hagg g1, run_part' (hC.under hd) hagg g2, Result.andThen_ok, eqLeaf_run (hC.under hd) e3]
      cases q i <;> rfl
    ·cases h
   ·cases h
  ·rename_i fs ht
   split at h
   ·rename_i hst
    obtain ⟨q, h1, h2⟩ := eqFlds_get h
    rw [Op.equalIn]
    simp only [Sem.run_bind, run_underlying (hC.under ht), Result.andThen_ok, run_program, hst, Bool.false_eq_true, if_false]
    rw [← Array.forIn_toList, run_eqLoop (b := q) _ fun f hf s => ?_]
    ·simp only [Result.andThen_ok, h2]
     cases b <;> rfl
    ·obtain ⟨hn, d, x, y, e0, ea, e1, e2, e3⟩ := h1 f hf
     obtain ⟨x', f1, f2⟩ := hl.get e1
     obtain ⟨y', f3, f4⟩ := hl'.get e2
     obtain ⟨rfl, rfl⟩ := eqLeaf_rel f2 f4 e3
     have g1 : m[f.offset]? = some x' := by simpa using f1
     have g2 : m'[f.offset]? = some y' := by simpa using f3
     simp only [hn, ne_eq, not_false_eq_true, if_true, Sem.run_bind, run_part' (hC.under e0) ea g1, run_part' (hC.under e0) ea g2, Result.andThen_ok, eqLeaf_run (hC.under e0) e3]
     cases q f <;> rfl
   ·cases h
  ·cases h
 ·cases op <;> simp [eqGuard, run_program, hguard]

end Go.Ev
