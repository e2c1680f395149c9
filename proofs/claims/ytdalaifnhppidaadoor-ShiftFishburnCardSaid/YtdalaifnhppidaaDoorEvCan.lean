/- Canonical states: what lives, by names from 0 on; all else is dropped. -/
import Derived.Test.YtdalaifnhppidaaDoorEvRen
namespace Go.Ev
open Go

/- No name in it. -/
mutual
def nn : Value → Bool
 | .pointer (some ⟨_, _, some _⟩) => true
 | .slice (some ⟨_, _, some _⟩) _ _ => true
 | .agg ⟨l⟩ => nns l
 | .iface _ v => nn v
 | v => gnd v
def nns : List Value → Bool
 | [] => true
 | v :: l => nn v && nns l
end

mutual
theorem VRel.of_nn {γ γ' : Gam} : {v v' : Value} → VRel γ v v' → nn v = true → VRel γ' v v'
 | _, _, .bool b, _ => .bool b
 | _, _, .int k n, _ => .int k n
 | _, _, .float k n, _ => .float k n
 | _, _, .complex k m n, _ => .complex k m n
 | _, _, .string s, _ => .string s
 | _, _, .ptrNil, _ => .ptrNil
 | _, _, .ptr k h, hg => by simp [nn, gnd] at hg
 | _, _, .ptrRo b k s, _ => .ptrRo b k s
 | _, _, .sliceRo b k s l c c' h hc, _ => .sliceRo b k s l c c' h hc
 | _, _, .sliceNil, _ => .sliceNil
 | _, _, .slice k l c c' h hc, hg => by simp [nn, gnd] at hg
 | _, _, .sliceE a a' c', hg => by
  obtain ⟨b, k, s⟩ := a
  cases s with
  | none => simp [nn, gnd] at hg
  | some s => exact .sliceE _ _ _
 | _, _, .mapNil, _ => .mapNil
 | _, _, .map h, hg => by simp [nn, gnd] at hg
 | _, _, .chanNil, _ => .chanNil
 | .func _ _ _, _, .func hf ha hc, hg => by
  have hg' : gnd (.func _ _ _) = true := hg
  have := (VRel.func hf ha hc).eq_of_gnd hg'
  rw [this]
  exact VRel.of_gnd _ _ hg'
 | _, _, .nilFunc, _ => .nilFunc
 | _, _, .iface t h, hg => .iface t (h.of_nn (by simpa [nn] using hg))
 | _, _, .nilIface, _ => .nilIface
 | _, _, .agg (c := ⟨c⟩) (c' := ⟨c'⟩) h, hg => .agg (h.of_nns (by simpa [nn] using hg))
 | _, _, .tuple (c := ⟨c⟩) (c' := ⟨c'⟩) h, hg => by
  have hg' : gnd (.tuple ⟨c⟩) = true := hg
  have := (VRel.tuple h).eq_of_gnd hg'
  rw [this]
  exact VRel.of_gnd _ _ hg'
theorem VsRel.of_nns {γ γ' : Gam} : {l l' : List Value} → VsRel γ l l' → nns l = true → VsRel γ' l l'
 | _, _, .nil, _ => .nil
 | _, _, .cons h hl, hg => by
  simp only [nns, Bool.and_eq_true] at hg
  exact .cons (h.of_nn hg.1) (hl.of_nns hg.2)
end

def m_nns (l : List Value) : Bool := nns l
def m_gndes (es : List MapEntry) : Bool := es.all fun e => gnd e.key && gnd e.val

/-! ### names from 0 on -/

def posN : List Nat → Nat → Nat → Option Nat
 | [], _, _ => none
 | x :: l, i, k => match Nat.beq x i with
  | true => some k
  | false => posN l i (Nat.succ k)

def snoc : List Nat → Nat → List Nat
 | [], i => [i]
 | x :: l, i => x :: snoc l i

def len : List Nat → Nat
 | [] => 0
 | _ :: l => Nat.succ (len l)

def at? : List Nat → Nat → Option Nat
 | [], _ => none
 | x :: _, 0 => some x
 | _ :: l, k + 1 => at? l k

def mvI (ns : List Nat) (i : Nat) : List Nat × Nat :=
 match posN ns i 0 with
 | some k => (ns, k)
 | none => (snoc ns i, len ns)

mutual
def mvV (ns : List Nat) : Value → List Nat × Value
 | .pointer (some ⟨i, k, none⟩) => match mvI ns i with
  | (ns, j) => (ns, .pointer (some ⟨j, k, none⟩))
 | .slice (some ⟨i, k, none⟩) l c => match mvI ns i with
  | (ns, j) => (ns, .slice (some ⟨j, k, none⟩) l c)
 | .map (some i) => match mvI ns i with
  | (ns, j) => (ns, .map (some j))
 | .func (.yield i) ⟨a⟩ ⟨c⟩ => match mvI ns i with
  | (ns, j) => match mvVs ns a with
   | (ns, a) => match mvVs ns c with
    | (ns, c) => (ns, .func (.yield j) ⟨a⟩ ⟨c⟩)
 | .func f ⟨a⟩ ⟨c⟩ => match mvVs ns a with
  | (ns, a) => match mvVs ns c with
   | (ns, c) => (ns, .func f ⟨a⟩ ⟨c⟩)
 | .iface t v => match mvV ns v with
  | (ns, v) => (ns, .iface t v)
 | .agg ⟨l⟩ => match mvVs ns l with
  | (ns, l) => (ns, .agg ⟨l⟩)
 | .tuple ⟨l⟩ => match mvVs ns l with
  | (ns, l) => (ns, .tuple ⟨l⟩)
 | v => (ns, v)
def mvVs (ns : List Nat) : List Value → List Nat × List Value
 | [] => (ns, [])
 | v :: l => match mvV ns v with
  | (ns, v) => match mvVs ns l with
   | (ns, l) => (ns, v :: l)
end

def Pre (a b : List Nat) : Prop := ∀ k x, at? a k = some x → at? b k = some x
theorem Pre.refl (a : List Nat) : Pre a a := fun _ _ h => h
theorem Pre.trans {a b c : List Nat} (h : Pre a b) (k : Pre b c) : Pre a c := fun i x e => k i x (h i x e)

theorem at?_lt : ∀ {l : List Nat} {k x : Nat}, at? l k = some x → k < len l
 | _ :: _, 0, _, _ => Nat.succ_pos _
 | _ :: l, _ + 1, _, h => Nat.succ_lt_succ (at?_lt (l := l) h)
theorem at?_snoc : ∀ (l : List Nat) (i : Nat), at? (snoc l i) (len l) = some i
 | [], _ => rfl
 | _ :: l, i => at?_snoc l i
theorem pre_snoc : ∀ (l : List Nat) (i : Nat), Pre l (snoc l i)
 | [], _ => fun _ _ h => nomatch h
 | y :: l, i => fun k x h => by
  cases k with
  | zero => exact h
  | succ k => exact pre_snoc l i k x h
theorem at?_some : ∀ {l : List Nat} {k : Nat}, k < len l → ∃ x, at? l k = some x
 | y :: _, 0, _ => ⟨y, rfl⟩
 | _ :: l, _ + 1, h => at?_some (l := l) (Nat.lt_of_succ_lt_succ h)
theorem pre_len {a b : List Nat} (h : Pre a b) : len a ≤ len b := by
 rcases Nat.lt_or_ge (len b) (len a) with hlt | hge
 ·obtain ⟨x, hx⟩ := at?_some hlt
  have := at?_lt (h _ _ hx)
  omega
 ·exact hge
theorem posN_ok : ∀ {l : List Nat} {i k0 k : Nat}, posN l i k0 = some k → k0 ≤ k ∧ at? l (k - k0) = some i
 | x :: l, i, k0, k, h => by
  simp only [posN] at h
  split at h
  ·rename_i hb
   cases h
   refine ⟨Nat.le_refl _, ?_⟩
   rw [Nat.sub_self, Nat.eq_of_beq_eq_true hb]
   rfl
  ·obtain ⟨h1, h2⟩ := posN_ok h
   have h1' : k0 + 1 ≤ k := h1
   refine ⟨by omega, ?_⟩
   rw [show k - k0 = (k - (k0 + 1)) + 1 by omega]
   exact h2

def tau (ns : List Nat) (i : Nat) : Nat := match at? ns i with
 | some x => x
 | none => 0

theorem tau_of {ns : List Nat} {i x : Nat} (h : at? ns i = some x) : tau ns i = x := by unfold tau; rw [h]

theorem mvI_ok {ns : List Nat} {i : Nat} : Pre ns (mvI ns i).1 ∧ at? (mvI ns i).1 (mvI ns i).2 = some i := by
 unfold mvI
 cases h : posN ns i 0 with
 | some k => exact ⟨.refl _, (posN_ok h).2⟩
 | none => exact ⟨pre_snoc _ _, at?_snoc _ _⟩

def Back (ns' : List Nat) (v' v : Value) : Prop := ∀ ns2, Pre ns' ns2 → renV (tau ns2) (len ns2) v' = some v
def Backs (ns' : List Nat) (l' l : List Value) : Prop := ∀ ns2, Pre ns' ns2 → renVs (tau ns2) (len ns2) l' = some l

theorem back_name {ns' ns2 : List Nat} {j i : Nat} (h : at? ns' j = some i) (hp : Pre ns' ns2) : Nat.blt j (len ns2) = true ∧ tau ns2 j = i :=
 ⟨Nat.ble_eq_true_of_le (at?_lt (hp _ _ h)), tau_of (hp _ _ h)⟩

mutual
theorem mvV_ok (ns : List Nat) : (v : Value) → Pre ns (mvV ns v).1 ∧ Back (mvV ns v).1 (mvV ns v).2 v
 | .pointer (some ⟨i, k, none⟩) => by
  obtain ⟨h1, h2⟩ := mvI_ok (ns := ns) (i := i)
  simp only [mvV]
  refine ⟨h1, fun ns2 hp => ?_⟩
  obtain ⟨h3, h4⟩ := back_name h2 hp
  simp only [renV, h3, h4]
 | .slice (some ⟨i, k, none⟩) l c => by
  obtain ⟨h1, h2⟩ := mvI_ok (ns := ns) (i := i)
  simp only [mvV]
  refine ⟨h1, fun ns2 hp => ?_⟩
  obtain ⟨h3, h4⟩ := back_name h2 hp
  simp only [renV, h3, h4]
 | .map (some i) => by
  obtain ⟨h1, h2⟩ := mvI_ok (ns := ns) (i := i)
  simp only [mvV]
  refine ⟨h1, fun ns2 hp => ?_⟩
  obtain ⟨h3, h4⟩ := back_name h2 hp
  simp only [renV, h3, h4]
 | .func (.yield i) ⟨a⟩ ⟨c⟩ => by
  obtain ⟨h1, h2⟩ := mvI_ok (ns := ns) (i := i)
  obtain ⟨a1, a2⟩ := mvVs_ok (mvI ns i).1 a
  obtain ⟨c1, c2⟩ := mvVs_ok (mvVs (mvI ns i).1 a).1 c
  simp only [mvV]
  refine ⟨h1.trans (a1.trans c1), fun ns2 hp => ?_⟩
  obtain ⟨h3, h4⟩ := back_name h2 (a1.trans (c1.trans hp))
  simp only [renV, renF, h3, h4, a2 ns2 (c1.trans hp), c2 ns2 hp]
 | .func (.func f) ⟨a⟩ ⟨c⟩ => by
  obtain ⟨a1, a2⟩ := mvVs_ok ns a
  obtain ⟨c1, c2⟩ := mvVs_ok (mvVs ns a).1 c
  simp only [mvV]
  exact ⟨a1.trans c1, fun ns2 hp => by simp only [renV, renF, a2 ns2 (c1.trans hp), c2 ns2 hp]⟩
 | .func (.method f) ⟨a⟩ ⟨c⟩ => by
  obtain ⟨a1, a2⟩ := mvVs_ok ns a
  obtain ⟨c1, c2⟩ := mvVs_ok (mvVs ns a).1 c
  simp only [mvV]
  exact ⟨a1.trans c1, fun ns2 hp => by simp only [renV, renF, a2 ns2 (c1.trans hp), c2 ns2 hp]⟩
 | .func (.methodOf t f) ⟨a⟩ ⟨c⟩ => by
  obtain ⟨a1, a2⟩ := mvVs_ok ns a
  obtain ⟨c1, c2⟩ := mvVs_ok (mvVs ns a).1 c
  simp only [mvV]
  exact ⟨a1.trans c1, fun ns2 hp => by simp only [renV, renF, a2 ns2 (c1.trans hp), c2 ns2 hp]⟩
 | .func (.via t p f b) ⟨a⟩ ⟨c⟩ => by
  obtain ⟨a1, a2⟩ := mvVs_ok ns a
  obtain ⟨c1, c2⟩ := mvVs_ok (mvVs ns a).1 c
  simp only [mvV]
  exact ⟨a1.trans c1, fun ns2 hp => by simp only [renV, renF, a2 ns2 (c1.trans hp), c2 ns2 hp]⟩
 | .iface t v => by
  obtain ⟨a1, a2⟩ := mvV_ok ns v
  simp only [mvV]
  exact ⟨a1, fun ns2 hp => by simp only [renV, a2 ns2 hp]⟩
 | .agg ⟨l⟩ => by
  obtain ⟨a1, a2⟩ := mvVs_ok ns l
  simp only [mvV]
  exact ⟨a1, fun ns2 hp => by simp only [renV, a2 ns2 hp]⟩
 | .tuple ⟨l⟩ => by
  obtain ⟨a1, a2⟩ := mvVs_ok ns l
  simp only [mvV]
  exact ⟨a1, fun ns2 hp => by simp only [renV, a2 ns2 hp]⟩
 | .bool _ => ⟨.refl _, fun _ _ => rfl⟩
 | .int _ _ => ⟨.refl _, fun _ _ => rfl⟩
 | .float _ _ => ⟨.refl _, fun _ _ => rfl⟩
 | .complex _ _ _ => ⟨.refl _, fun _ _ => rfl⟩
 | .string _ => ⟨.refl _, fun _ _ => rfl⟩
 | .pointer none => ⟨.refl _, fun _ _ => rfl⟩
 | .pointer (some ⟨_, _, some _⟩) => ⟨.refl _, fun _ _ => rfl⟩
 | .slice none _ _ => ⟨.refl _, fun _ _ => rfl⟩
 | .slice (some ⟨_, _, some _⟩) _ _ => ⟨.refl _, fun _ _ => rfl⟩
 | .map none => ⟨.refl _, fun _ _ => rfl⟩
 | .chan _ => ⟨.refl _, fun _ _ => rfl⟩
 | .nilFunc => ⟨.refl _, fun _ _ => rfl⟩
 | .nilIface => ⟨.refl _, fun _ _ => rfl⟩
theorem mvVs_ok (ns : List Nat) : (l : List Value) → Pre ns (mvVs ns l).1 ∧ Backs (mvVs ns l).1 (mvVs ns l).2 l
 | [] => ⟨.refl _, fun _ _ => rfl⟩
 | v :: l => by
  obtain ⟨a1, a2⟩ := mvV_ok ns v
  obtain ⟨c1, c2⟩ := mvVs_ok (mvV ns v).1 l
  simp only [mvVs]
  exact ⟨a1.trans c1, fun ns2 hp => by simp only [renVs, a2 ns2 (c1.trans hp), c2 ns2 hp]⟩
end

def mvO (ns : List Nat) : List (Option Value) → List Nat × List (Option Value)
 | [] => (ns, [])
 | none :: l => match mvO ns l with
  | (ns, l) => (ns, none :: l)
 | some v :: l => match mvV ns v with
  | (ns, v) => match mvO ns l with
   | (ns, l) => (ns, some v :: l)

theorem mvO_ok : ∀ (ns : List Nat) (l : List (Option Value)), Pre ns (mvO ns l).1 ∧ ∀ (k : Nat) (v' : Value), (mvO ns l).2[k]? = some (some v') → ∃ v, l[k]? = some (some v) ∧ Back (mvO ns l).1 v' v
 | ns, [] => ⟨.refl _, fun k v' h => by simp [mvO] at h⟩
 | ns, none :: l => by
  obtain ⟨a1, a2⟩ := mvO_ok ns l
  simp only [mvO]
  refine ⟨a1, fun k v' h => ?_⟩
  cases k with
  | zero => simp at h
  | succ k => obtain ⟨v, h1, h2⟩ := a2 k v' (by simpa using h); exact ⟨v, by simpa using h1, h2⟩
 | ns, some v :: l => by
  obtain ⟨b1, b2⟩ := mvV_ok ns v
  obtain ⟨a1, a2⟩ := mvO_ok (mvV ns v).1 l
  simp only [mvO]
  refine ⟨b1.trans a1, fun k v' h => ?_⟩
  cases k with
  | zero =>
   simp at h
   subst h
   exact ⟨v, rfl, fun ns2 hp => b2 ns2 (a1.trans hp)⟩
  | succ k => obtain ⟨u, h1, h2⟩ := a2 k v' (by simpa using h); exact ⟨u, by simpa using h1, h2⟩

def bT : List Nat → List (Option Value) → Tr Value → Tr Value
 | t :: lv, some v :: vs, T => bT lv vs (T.put t (some v))
 | _ :: lv, none :: vs, T => bT lv vs T
 | _, _, T => T

theorem bT_get : ∀ {lv : List Nat} {vs : List (Option Value)} {T : Tr Value} {t : Nat} {v : Value}, (bT lv vs T).get t = some v → T.get t = some v ∨ ∃ k : Nat, lv[k]? = some t ∧ vs[k]? = some (some v)
 | [], _, T, t, v, h => .inl (by cases ‹List (Option Value)› <;> exact h)
 | _ :: _, [], T, t, v, h => .inl h
 | u :: lv, none :: vs, T, t, v, h => by
  rcases bT_get (lv := lv) (vs := vs) h with h | ⟨k, h1, h2⟩
  ·exact .inl h
  ·exact .inr ⟨k + 1, by simpa using h1, by simpa using h2⟩
 | u :: lv, some x :: vs, T, t, v, h => by
  rcases bT_get (lv := lv) (vs := vs) h with h | ⟨k, h1, h2⟩
  ·rw [Tr.get_put] at h
   split at h
   ·rename_i e
    cases h
    exact .inr ⟨0, by simp [e], rfl⟩
   ·exact .inl h
  ·exact .inr ⟨k + 1, by simpa using h1, by simpa using h2⟩

def pushN (ns : List Nat) : List Nat → List Nat
 | [] => ns
 | i :: l => pushN (mvI ns i).1 l
theorem pushN_pre : ∀ (l : List Nat) (ns : List Nat), Pre ns (pushN ns l)
 | [], ns => .refl ns
 | i :: l, ns => (mvI_ok (ns := ns) (i := i)).1.trans (pushN_pre l _)
def mvq1 (ns : List Nat) (v : Value) : Value := match mvV ns v with
 | (ns1, v1) => match Nat.beq (len ns1) (len ns) with
  | true => v1
  | false => .chan (some 0)
def m_mvq (ns : List Nat) (c : List Value) : List Value := c.map (mvq1 ns)
def nopo (v : Value) : Bool := match v with
 | .chan (some _) => false
 | _ => true
def m_nopo (c : List Value) : Bool := c.all nopo
theorem mvq1_ok {ns : List Nat} {v : Value} (h : nopo (mvq1 ns v) = true) : Back ns (mvq1 ns v) v := by
 unfold mvq1 at h ⊢
 have hk := mvV_ok ns v
 cases hm : mvV ns v with
 | mk ns1 v1 =>
  rw [hm] at h hk
  simp only at h hk ⊢
  cases hb : Nat.beq (len ns1) (len ns) with
  | true =>
   have hl := Nat.eq_of_beq_eq_true hb
   have hp : Pre ns1 ns := fun k x hx => by
    have hlt := at?_lt hx
    obtain ⟨y, hy⟩ := at?_some (l := ns) (k := k) (by omega)
    have := hk.1 k y hy
    rw [hx] at this
    cases this
    exact hy
   exact fun ns2 hp2 => hk.2 ns2 (hp.trans hp2)
  | false => rw [hb] at h; cases h

inductive Fl where
 | g
 | t
 | l (lv : List Nat)
 | q (l : List Nat)

def mvA (j : Nat) (f : Fl) (ns : List Nat) : AObj → Option (List Nat × AObj)
 | .cells c e _ z => match f with
  | .t => match mvVs ns c with
   | (ns, c) => some (ns, .cells c e j z)
  | .q l => some (pushN ns l, .cells (m_mvq (pushN ns l) c) e j z)
  | _ => some (ns, .cells c e j z)
 | .loop st pend m en n ps as bd d => match f with
  | .l lv => match mvI ns d with
   | (ns, d) => match mvO ns (lv.map (en.get m)) with
    | (ns, vs) => some (ns, .loop st pend m ⟨[], bT lv vs .nil⟩ n ps as bd d)
  | _ => none
 | .defd => some (ns, .defd)
 | .map es clock => some (ns, .map es clock)
 | .siter s p => some (ns, .siter s p)
 | .miter m since seen last => match mvI ns m with
  | (ns, m) => some (ns, .miter m since seen last)

def gdA (f : Fl) : AObj → Bool
 | .cells c _ _ _ => match f with
  | .t => true
  | .q _ => m_nopo c
  | _ => m_nns c
 | .map es _ => m_gndes es
 | _ => true

def hdF : List Fl → Fl
 | [] => .g
 | f :: _ => f
def tlF : List Fl → List Fl
 | [] => []
 | _ :: l => l

def mvAs (A : AW) : Nat → List Fl → Nat → List Nat → Option (List Nat × List (Option AObj))
 | 0, _, _, _ => none
 | fu + 1, fl, j, ns => match at? ns j with
  | none => some (ns, [])
  | some i => match A.heap.get i with
   | none => match mvAs A fu (tlF fl) (Nat.succ j) ns with
    | some (ns, os) => some (ns, none :: os)
    | none => none
   | some o => match mvA j (hdF fl) ns o with
    | some (ns, o) => match mvAs A fu (tlF fl) (Nat.succ j) ns with
     | some (ns, os) => some (ns, some o :: os)
     | none => none
    | none => none

def gdAs : List Fl → List (Option AObj) → Bool
 | _, [] => true
 | fl, none :: os => gdAs (tlF fl) os
 | fl, some o :: os => gdA (hdF fl) o && gdAs (tlF fl) os

def apartL (A : AW) (i : Nat) : List Nat → Bool
 | [] => true
 | j :: l => apartN A i j && apartL A i l
def apartLs (A : AW) : List Nat → Bool
 | [] => true
 | i :: l => apartL A i l && apartLs A l

def rangeN : Nat → List Nat → List Nat
 | 0, l => l
 | n + 1, l => rangeN n (n :: l)

def mvMs (ns : List Nat) : List Nat → List Nat × List Nat
 | [] => (ns, [])
 | i :: l => match mvI ns i with
  | (ns, j) => match mvMs ns l with
   | (ns, l) => (ns, j :: l)

def memN (i : Nat) : List Nat → Bool
 | [] => false
 | j :: l => match Nat.beq i j with
  | true => true
  | false => memN i l

def okMs (A : AW) (n0 : Nat) (ns : List Nat) : List Nat → Bool
 | [] => true
 | i :: l => match A.heap.get i with
  | some .defd => Nat.ble n0 i && (!memN i ns && (!memN i l && okMs A n0 ns l))
  | _ => false

def someAs : List (Option AObj) → Bool
 | [] => true
 | none :: _ => false
 | some _ :: l => someAs l

def rbD (n0 : Nat) (lv : List Nat) (fl : List Fl) (T : Tr Value) (ms : List Nat) (A : AW) : Option (List (Option Value) × List (Option AObj)) :=
 match ms with
 | [] => none
 | i :: ms => match mvO (rangeN n0 []) (lv.map T.get) with
  | (ns, vs) => match mvAs A 200 fl 0 ns with
   | some (ns, os) => match okMs A n0 ns (i :: ms) && (someAs os && apartLs A ns) with
    | true => some (vs, os)
    | false => none
   | none => none

def rb (n0 : Nat) (lv : List Nat) (fl : List Fl) (T : Tr Value) (ms : List Nat) (A : AW) : Option (List (Option Value) × List Nat × List (Option AObj)) :=
 match rbD n0 lv fl T ms A with
 | some (vs, os) => some (vs, [], os)
 | none => match mvO (rangeN n0 []) (lv.map T.get) with
  | (ns, vs) => match mvMs ns ms with
   | (ns, ms) => match mvAs A 200 fl 0 ns with
    | some (ns, os) => match apartLs A ns with
     | true => some (vs, ms, os)
     | false => none
    | none => none

def bH : Nat → List (Option AObj) → Tr AObj → Tr AObj
 | _, [], t => t
 | i, some o :: os, t => bH (Nat.succ i) os (t.put i (some o))
 | i, none :: os, t => bH (Nat.succ i) os t

def lenO : List (Option AObj) → Nat
 | [] => 0
 | _ :: l => Nat.succ (lenO l)

def mkA (os : List (Option AObj)) : AW := ⟨lenO os, bH 0 os .nil, .nil⟩

def St.of (lv : List Nat) (vs : List (Option Value)) (ms : List Nat) (os : List (Option AObj)) : St := ⟨⟨[], bT lv vs .nil⟩, ms, mkA os⟩

def rbK (n0 : Nat) (lv : List Nat) (fl : List Fl) (K : List (Option Value) → List Nat → List (Option AObj) → CR) : KS := fun _ T ms A =>
 match rb n0 lv fl T ms A with
 | some (vs, ms, os) => guardK (gdAs fl os) (K vs ms os)
 | none => .fail 600

theorem bH_get : ∀ {os : List (Option AObj)} {i : Nat} {t : Tr AObj} {j : Nat} {o : AObj}, (bH i os t).get j = some o → t.get j = some o ∨ ∃ k : Nat, j = i + k ∧ os[k]? = some (some o)
 | [], _, t, j, o, h => .inl h
 | none :: os, i, t, j, o, h => by
  rcases bH_get (os := os) (i := i + 1) h with h | ⟨k, h1, h2⟩
  ·exact .inl h
  ·exact .inr ⟨k + 1, by omega, by simpa using h2⟩
 | some x :: os, i, t, j, o, h => by
  rcases bH_get (os := os) (i := i + 1) h with h | ⟨k, h1, h2⟩
  ·rw [Tr.get_put] at h
   split at h
   ·rename_i e
    cases h
    exact .inr ⟨0, by omega, rfl⟩
   ·exact .inl h
  ·exact .inr ⟨k + 1, by omega, by simpa using h2⟩

theorem lenO_eq : ∀ (l : List (Option AObj)), lenO l = l.length
 | [] => rfl
 | _ :: l => by simp [lenO, lenO_eq l]

theorem mkA_get {os : List (Option AObj)} {j : Nat} {o : AObj} (h : (mkA os).heap.get j = some o) : os[j]? = some (some o) := by
 rcases bH_get h with h | ⟨k, h1, h2⟩
 ·simp [Tr.get] at h
 ·rw [show j = k by omega]; exact h2

theorem apartLs_ok {A : AW} : ∀ {l : List Nat}, apartLs A l = true → ∀ (i j x y : Nat), i < j → at? l i = some x → at? l j = some y → apartN A x y = true
 | z :: l, h, i, j, x, y, hij, hi, hj => by
  simp only [apartLs, Bool.and_eq_true] at h
  cases j with
  | zero => omega
  | succ j =>
   cases i with
   | zero =>
    cases hi
    have : ∀ (l : List Nat), apartL A z l = true → ∀ j y, at? l j = some y → apartN A z y = true := fun l => by
     induction l with
     | nil => intro _ j y h; cases h
     | cons w l ih =>
      intro h j y hj
      simp only [apartL, Bool.and_eq_true] at h
      cases j with
      | zero => cases hj; exact h.1
      | succ j => exact ih h.2 j y hj
    exact this l h.1 j y hj
   | succ i => exact apartLs_ok h.2 i j x y (by omega) hi hj

theorem natF {i j : Nat} (h : i ≠ j) : Nat.beq i j = false := by
 cases e : Nat.beq i j with
 | false => rfl
 | true => exact absurd (Nat.eq_of_beq_eq_true e) h

theorem nns_get : ∀ {c : List Value} {k : Nat} {v : Value}, nns c = true → c[k]? = some v → nn v = true
 | x :: c, k, v, hn, hv => by
  simp only [nns, Bool.and_eq_true] at hn
  cases k with
  | zero => simp at hv; subst hv; exact hn.1
  | succ k => exact nns_get hn.2 (by simpa using hv)

theorem apartN_symm {A : AW} {i j : Nat} (h : apartN A i j = true) : apartN A j i = true := by
 unfold apartN at *
 simp only [Bool.and_eq_true, Bool.or_eq_true, Bool.not_eq_true'] at *
 obtain ⟨h1, h2⟩ := h
 have hne := Nat.ne_of_beq_eq_false h1
 refine ⟨natF (fun e => hne e.symm), ?_⟩
 rcases h2 with h2 | h2
 ·by_cases h0 : Nat.beq (famAt A j) 0 = true
  ·exact .inl h0
  ·refine .inr (natF fun e => ?_)
   have := Nat.eq_of_beq_eq_true h2
   rw [this] at e
   rw [e] at h0
   exact h0 rfl
 ·exact .inr (natF fun e => Nat.ne_of_beq_eq_false h2 e.symm)

theorem mvA_ok {j : Nat} {f : Fl} {ns : List Nat} {o o' : AObj} {ns' : List Nat} (h : mvA j f ns o = some (ns', o')) : Pre ns ns' ∧
  (gdA f o' = true → ∀ ns2, Pre ns' ns2 → ∀ γ W g, ORel γ W g o → ORel (renG (tau ns2) (len ns2) γ) W g o') ∧ ∀ c e fam sz, o' = .cells c e fam sz → fam = j := by
 unfold mvA at h
 split at h
 ·rename_i c e fam z
  split at h
  ·split at h
   rename_i ns1 c1 hmv
   cases h
   have hm := mvVs_ok ns c
   rw [hmv] at hm
   refine ⟨hm.1, fun _ ns2 hp γ W g hr => ?_, fun _ _ _ _ he => by cases he; rfl⟩
   exact (RenO.cells (hm.2 ns2 hp)).ok hr
  ·rename_i l
   cases h
   refine ⟨pushN_pre l ns, fun hg ns2 hp γ W g hr => ?_, fun _ _ _ _ he => by cases he; rfl⟩
   cases hr with
   | cells hb hfr hnn hz hc =>
    refine .cells hb hfr hnn hz fun k v hv => ?_
    have hv' : (c.map (mvq1 (pushN ns l)))[k]? = some v := hv
    rw [List.getElem?_map] at hv'
    cases hck : c[k]? with
    | none => rw [hck] at hv'; cases hv'
    | some u =>
     rw [hck] at hv'
     simp only [Option.map_some, Option.some.injEq] at hv'
     obtain ⟨v', h1, h2⟩ := hc k u hck
     have hno : nopo (mvq1 (pushN ns l) u) = true := by
      have hall : (c.map (mvq1 (pushN ns l))).all nopo = true := hg
      exact List.all_eq_true.1 hall _ (List.mem_map.2 ⟨u, List.mem_of_getElem? hck, rfl⟩)
     have hbk := mvq1_ok hno
     rw [hv'] at hbk
     exact ⟨v', h1, renV_ok _ _ γ v (hbk ns2 hp) h2⟩
  ·rename_i hf hf2
   cases h
   refine ⟨.refl _, fun hg ns2 hp γ W g hr => ?_, fun _ _ _ _ he => by cases he; rfl⟩
   have hn : nns c = true := by
    cases f with
    | t => exact absurd rfl hf
    | q l => exact absurd rfl (hf2 l)
    | _ => exact hg
   cases hr with
   | cells hb hfr hnn hz hc =>
    refine .cells hb hfr hnn hz fun k v hv => ?_
    obtain ⟨v', h1, h2⟩ := hc k v hv
    exact ⟨v', h1, h2.of_nn (nns_get hn hv)⟩
 ·rename_i st pend m en n ps as bd d
  split at h
  ·rename_i lv
   split at h
   rename_i ns1 d1 hd
   split at h
   rename_i ns2 vs hvs
   cases h
   have h1 := mvI_ok (ns := ns) (i := d)
   rw [hd] at h1
   have h2 := mvO_ok ns1 (lv.map (en.get m))
   rw [hvs] at h2
   refine ⟨h1.1.trans h2.1, fun _ ns3 hp γ W g hr => ?_, fun _ _ _ _ he => nomatch he⟩
   obtain ⟨q1, q2⟩ := back_name h1.2 (h2.1.trans hp)
   refine (RenO.loop (fun t v' hv => ?_) q2 q1).ok hr
   simp only [En.get] at hv
   split at hv
   ·rcases bT_get hv with hv | ⟨k, k1, k2⟩
    ·simp [Tr.get] at hv
    ·obtain ⟨v, k3, k4⟩ := h2.2 k v' k2
     rw [List.getElem?_map, k1] at k3
     simp only [Option.map_some, Option.some.injEq] at k3
     exact ⟨v, k3, k4 ns3 hp⟩
   ·simp [scan] at hv
  ·cases h
 ·cases h
  exact ⟨.refl _, fun _ ns2 _ γ W g hr => RenO.defd.ok hr, fun _ _ _ _ he => nomatch he⟩
 ·rename_i es clock
  cases h
  refine ⟨.refl _, fun hg ns2 _ γ W g hr => (RenO.map fun e he => ?_).ok hr, fun _ _ _ _ he => nomatch he⟩
  have := List.all_eq_true.1 (show es.all (fun e => gnd e.key && gnd e.val) = true from hg) e he
  simpa using this
 ·cases h
  exact ⟨.refl _, fun _ ns2 _ γ W g hr => (RenO.siter _ _).ok hr, fun _ _ _ _ he => nomatch he⟩
 ·rename_i m since seen last
  split at h
  rename_i ns1 m1 hm
  cases h
  have h1 := mvI_ok (ns := ns) (i := m)
  rw [hm] at h1
  refine ⟨h1.1, fun _ ns2 hp γ W g hr => ?_, fun _ _ _ _ he => nomatch he⟩
  obtain ⟨q1, q2⟩ := back_name h1.2 hp
  exact (RenO.miter q2 q1).ok hr

def flAt : List Fl → Nat → Fl
 | fl, 0 => hdF fl
 | fl, k + 1 => flAt (tlF fl) k

theorem gdAs_ok : ∀ {fl : List Fl} {os : List (Option AObj)}, gdAs fl os = true → ∀ (k : Nat) (o : AObj), os[k]? = some (some o) → gdA (flAt fl k) o = true
 | fl, none :: os, h, k, o, hk => by
  cases k with
  | zero => simp at hk
  | succ k => exact gdAs_ok (fl := tlF fl) h k o (by simpa using hk)
 | fl, some x :: os, h, k, o, hk => by
  simp only [gdAs, Bool.and_eq_true] at h
  cases k with
  | zero => simp at hk; subst hk; exact h.1
  | succ k => exact gdAs_ok (fl := tlF fl) h.2 k o (by simpa using hk)

theorem at?_none : ∀ {l : List Nat} {k : Nat}, at? l k = none → len l ≤ k
 | [], _, _ => Nat.zero_le _
 | _ :: l, _ + 1, h => Nat.succ_le_succ (at?_none (l := l) h)

theorem mvAs_ok {A : AW} : ∀ {fu : Nat} {fl : List Fl} {j : Nat} {ns ns' : List Nat} {os : List (Option AObj)}, mvAs A fu fl j ns = some (ns', os) → j ≤ len ns →
  Pre ns ns' ∧ j + os.length = len ns' ∧ ∀ (k : Nat) (o' : AObj), os[k]? = some (some o') → ∃ i o ns1 ns2, at? ns' (j + k) = some i ∧ A.heap.get i = some o ∧ mvA (j + k) (flAt fl k) ns1 o = some (ns2, o') ∧ Pre ns2 ns' := by
 intro fu
 induction fu with
 | zero => intro fl j ns ns' os h; cases h
 | succ fu ih =>
  intro fl j ns ns' os h hj
  simp only [mvAs] at h
  split at h
  ·rename_i hat
   cases h
   have := at?_none hat
   exact ⟨.refl _, by simp; omega, fun k o' hk => by simp at hk⟩
  ·rename_i i hat
   have hlt := at?_lt hat
   split at h
   ·split at h
    ·rename_i ns1 os1 hr
     cases h
     obtain ⟨h1, h2, h3⟩ := ih hr hlt
     refine ⟨h1, by simp; omega, fun k o' hk => ?_⟩
     cases k with
     | zero => simp at hk
     | succ k =>
      obtain ⟨i', o, n1, n2, q1, q2, q3, q4⟩ := h3 k o' (by simpa using hk)
      have e : Nat.succ j + k = j + (k + 1) := by omega
      rw [e] at q1 q3
      exact ⟨i', o, n1, n2, q1, q2, q3, q4⟩
    ·cases h
   ·rename_i o ho
    split at h
    ·rename_i ns1 o1 hm
     split at h
     ·rename_i ns2 os1 hr
      cases h
      have hp := (mvA_ok hm).1
      obtain ⟨h1, h2, h3⟩ := ih hr (Nat.lt_of_lt_of_le hlt (pre_len hp))
      refine ⟨hp.trans h1, by simp; omega, fun k o' hk => ?_⟩
      cases k with
      | zero =>
       simp at hk
       subst hk
       exact ⟨i, o, ns, ns1, (hp.trans h1) _ _ hat, ho, hm, h1⟩
      | succ k =>
       obtain ⟨i', o, n1, n2, q1, q2, q3, q4⟩ := h3 k o' (by simpa using hk)
       have e : Nat.succ j + k = j + (k + 1) := by omega
       rw [e] at q1 q3
       exact ⟨i', o, n1, n2, q1, q2, q3, q4⟩
     ·cases h
    ·cases h

theorem mvMs_ok : ∀ (ns : List Nat) (l : List Nat), Pre ns (mvMs ns l).1 ∧ ∀ ns2, Pre (mvMs ns l).1 ns2 → renM (tau ns2) (len ns2) (mvMs ns l).2 = some l
 | ns, [] => ⟨.refl _, fun _ _ => rfl⟩
 | ns, i :: l => by
  obtain ⟨h1, h2⟩ := mvI_ok (ns := ns) (i := i)
  obtain ⟨a1, a2⟩ := mvMs_ok (mvI ns i).1 l
  simp only [mvMs]
  refine ⟨h1.trans a1, fun ns2 hp => ?_⟩
  obtain ⟨h3, h4⟩ := back_name h2 (a1.trans hp)
  simp only [renM, h3, h4, a2 ns2 hp]

theorem rangeN_at : ∀ (n : Nat) (l : List Nat), (∀ k, at? (rangeN n l) k = if k < n then some k else at? l (k - n)) := by
 intro n
 induction n with
 | zero => intro l k; simp [rangeN]
 | succ n ih =>
  intro l k
  show at? (rangeN n (n :: l)) k = _
  rw [ih]
  by_cases c : k < n
  ·rw [if_pos c, if_pos (by omega)]
  ·rw [if_neg c]
   by_cases c2 : k = n
   ·subst c2; simp [at?]
   ·rw [if_neg (by omega), show k - n = (k - (n + 1)) + 1 by omega]
    rfl

theorem Ren.rb0 {C : Cfg} {m n : Nat} {γ0 : Gam} {W0 : World} {n0 : Nat} (h0 : ∀ i, n0 ≤ i → γ0 i = none) {lv : List Nat} {fl : List Fl} {s : List (Nat × Value)} {T : Tr Value} {ms : List Nat} {A : AW} {vs : List (Option Value)} {ms1 : List Nat} {os : List (Option AObj)} {ns1 ns2 ns3 : List Nat}
  (hv : mvO (rangeN n0 []) (lv.map T.get) = (ns1, vs)) (h12 : Pre ns1 ns2) (ha : mvAs A 200 fl 0 ns2 = some (ns3, os)) (hap : apartLs A ns3 = true) (hgd : gdAs fl os = true)
  (hmk : ∀ γ W D, WRel γ A W → Base C γ0 W0 γ W → DRel W0.heap.size γ W ms D → DRel W0.heap.size (renG (tau ns3) (len ns3) γ) W ms1 D) : Ren C m n γ0 W0 ⟨⟨s, T⟩, ms, A⟩ (St.of lv vs ms1 os) := by
 have q1 := mvO_ok (rangeN n0 []) (lv.map T.get)
 rw [hv] at q1
 obtain ⟨q3, q4, q5⟩ := mvAs_ok ha (Nat.zero_le _)
 rw [Nat.zero_add] at q4
 have hpre : Pre (rangeN n0 []) ns3 := q1.1.trans (h12.trans q3)
 have hτ : ∀ i, i < n0 → tau ns3 i = i := fun i hi => tau_of (hpre _ _ (by rw [rangeN_at, if_pos hi]))
 have hn0 : n0 ≤ len ns3 := by
  rcases Nat.eq_zero_or_pos n0 with e | hpos
  ·omega
  ·have := at?_lt (hpre (n0 - 1) _ (by rw [rangeN_at, if_pos (by omega)]))
   omega
 have hlen : (mkA os).next = len ns3 := by show lenO os = _; rw [lenO_eq]; exact q4
 have hblt : ∀ i, i < len ns3 → Nat.blt i (len ns3) = true := fun i hi => Nat.ble_eq_true_of_le hi
 have hobj : ∀ i o', (mkA os).heap.get i = some o' → i < len ns3 ∧ ∃ x o, at? ns3 i = some x ∧ A.heap.get x = some o ∧ (∀ γ W g, ORel γ W g o → ORel (renG (tau ns3) (len ns3) γ) W g o') ∧ ∀ c e fam sz, o' = .cells c e fam sz → fam = i := fun i o' hi => by
  have hk := mkA_get hi
  obtain ⟨x, o, n1, n2, r1, r2, r3, r4⟩ := q5 i o' hk
  rw [Nat.zero_add] at r1 r3
  obtain ⟨s1, s2, s3⟩ := mvA_ok r3
  exact ⟨at?_lt r1, x, o, r1, r2, s2 (gdAs_ok hgd i o' hk) ns3 r4, s3⟩
 intro γ a W hs hb
 refine ⟨renG (tau ns3) (len ns3) γ, ⟨fun t v hv' => ?_, hs.size, hmk γ W a.defers hs.w hb hs.df, ⟨fun i o hi => ?_, fun i g hg => ?_, fun i hi => ?_, fun i j o o' g g' hi hj hg hg' he => ?_, fun i c e f sz hi => ?_, fun i c e f sz hi => ?_, fun f hf => ?_⟩⟩, ⟨⟨fun i g hg => ?_, fun i g hg => ?_, hb.ext.size, hb.ext.block, hb.ext.os, hb.ext.tape, hb.ext.output, hb.ext.drawn⟩, ⟨fun b k v hv' => ?_, fun b hv' => ?_⟩⟩⟩
 ·simp only [St.of, En.get] at hv'
  split at hv'
  ·rename_i hbit
   rcases bT_get hv' with hv' | ⟨k, k1, k2⟩
   ·simp [Tr.get] at hv'
   ·obtain ⟨v0, e0, e1⟩ := q1.2 k v k2
    rw [List.getElem?_map, k1] at e0
    simp only [Option.map_some, Option.some.injEq] at e0
    obtain ⟨x, hx, hr⟩ := hs.tm t v0 (by simp only [En.get, hbit]; exact e0)
    exact ⟨x, hx, renV_ok _ _ γ v (e1 ns3 (h12.trans q3)) hr⟩
  ·simp [scan] at hv'
 ·obtain ⟨hlt, x, o0, r1, r2, r3, _⟩ := hobj i o hi
  obtain ⟨g, hg, hor⟩ := hs.w.obj _ _ r2
  exact ⟨g, by rw [renG_of (hblt i hlt), tau_of r1]; exact hg, r3 _ _ _ hor⟩
 ·unfold renG at hg
  split at hg
  ·exact hs.w.lt _ _ hg
  ·cases hg
 ·unfold renG
  split
  ·rename_i hlt
   have := blt_lt hlt
   have hi : (mkA os).next ≤ i := hi
   rw [hlen] at hi
   omega
  ·rfl
 ·obtain ⟨hlt, x, o0, r1, r2, _, _⟩ := hobj i o hi
  obtain ⟨hlt', y, p0, r1', r2', _, _⟩ := hobj j o' hj
  rw [renG_of (hblt i hlt), tau_of r1] at hg
  rw [renG_of (hblt j hlt'), tau_of r1'] at hg'
  by_cases hij : i = j
  ·exact .inl hij
  ·exfalso
   have hap' : apartN A x y = true := by
    rcases Nat.lt_or_gt_of_ne hij with hlt2 | hlt2
    ·exact apartLs_ok hap i j x y hlt2 r1 r1'
    ·exact apartN_symm (apartLs_ok hap j i y x hlt2 r1' r1)
   simp only [apartN, Bool.and_eq_true, Bool.or_eq_true, Bool.not_eq_true'] at hap'
   obtain ⟨p1, p2⟩ := hap'
   have hne := Nat.ne_of_beq_eq_false p1
   rcases hs.w.sep _ _ _ _ _ _ r2 r2' hg hg' he with h | ⟨c, e, c', e', fam, sz, sz', h1, h2, _⟩
   ·exact hne h
   ·subst h1 h2
    have f1 : famAt A x = Nat.succ fam := by unfold famAt; rw [r2]
    have f2 : famAt A y = Nat.succ fam := by unfold famAt; rw [r2']
    rw [f1, f2] at p2
    rcases p2 with p2 | p2
    ·have := Nat.eq_of_beq_eq_true p2; omega
    ·exact Nat.ne_of_beq_eq_false p2 rfl
 ·obtain ⟨hlt, _, _, _, _, _, hf⟩ := hobj i _ hi
  have := hf c e f sz rfl
  subst this
  show f ∈ (match (Tr.nil : Tr (List Nat)).get f with | some l => l | none => [f])
  simp [Tr.get]
 ·obtain ⟨hlt, _, _, _, _, _, hf⟩ := hobj i _ hi
  have := hf c e f sz rfl
  subst this
  show f < (mkA os).next
  rw [hlen]; exact hlt
 ·rfl
 ·have hi : i < n0 := by
   by_cases c : i < n0
   ·exact c
   ·rw [h0 i (by omega)] at hg; cases hg
  rw [renG_of (hblt i (by omega)), hτ i hi]
  exact hb.ext.le i g hg
 ·unfold renG at hg
  split at hg
  ·by_cases c : i < n0
   ·rw [hτ i c] at hg
    exact hb.ext.new i g hg
   ·refine .inr ⟨h0 i (by omega), ?_⟩
    rcases hb.ext.new _ _ hg with h | ⟨_, h⟩
    ·exact .inr ⟨_, g, h, rfl⟩
    ·exact h
  ·cases hg
 ·obtain ⟨h1, h2⟩ := hb.ro.rd b k v hv'
  refine ⟨fun i g hg => ?_, h2⟩
  unfold renG at hg
  split at hg
  ·exact h1 _ _ hg
  ·cases hg
 ·obtain ⟨h1, h2⟩ := hb.ro.wr b hv'
  refine ⟨fun i g hg => ?_, h2⟩
  unfold renG at hg
  split at hg
  ·exact h1 _ _ hg
  ·cases hg

theorem memN_iff {i : Nat} : ∀ {l : List Nat}, memN i l = false → ∀ k x, at? l k = some x → x ≠ i
 | [], _, k, x, h => nomatch h
 | j :: l, h, k, x, hk => by
  simp only [memN] at h
  split at h
  ·cases h
  ·rename_i hb
   cases k with
   | zero => cases hk; exact fun e => Nat.ne_of_beq_eq_false hb e.symm
   | succ k => exact memN_iff h k x hk

theorem someAs_ok : ∀ {l : List (Option AObj)}, someAs l = true → ∀ k, k < l.length → ∃ o, l[k]? = some (some o)
 | some o :: l, h, 0, _ => ⟨o, rfl⟩
 | some o :: l, h, k + 1, hk => by
  obtain ⟨o', h'⟩ := someAs_ok (l := l) h k (by simpa using hk)
  exact ⟨o', by simpa using h'⟩
 | none :: l, h, _, _ => nomatch h

theorem drop_marks {γ0 γ : Gam} {W0 W : World} {n0 : Nat} {A : AW} {ns : List Nat} (h0 : ∀ i, n0 ≤ i → γ0 i = none) (hn0 : n0 ≤ len ns) (hτ : ∀ i, i < n0 → tau ns i = i) (hw : WRel γ A W) (he : Ext γ0 W0 γ W)
  (hobj : ∀ k, k < len ns → ∃ x o, at? ns k = some x ∧ A.heap.get x = some o) {ms : List Nat} {D : List Deferred} (hd : DRel W0.heap.size γ W ms D) : okMs A n0 ns ms = true → DRel W0.heap.size (renG (tau ns) (len ns) γ) W [] D := by
 induction hd with
 | nil => intro _; exact .nil
 | dead hB hb hu hd hl ih =>
  intro h
  refine .dead hB hb (fun i g hg => ?_) hd (ih h)
  unfold renG at hg
  split at hg
  ·exact hu _ _ hg
  ·cases hg
 | cons hg hl ih =>
  rename_i i g l l'
  intro h
  simp only [okMs] at h
  split at h
  ·rename_i hi
   simp only [Bool.and_eq_true, Bool.not_eq_true'] at h
   obtain ⟨h1, h2, h3, h4⟩ := h
   have h1 := ble_le h1
   obtain ⟨g', hg', ho⟩ := hw.obj _ _ hi
   rw [hg] at hg'
   cases hg'
   cases ho with
   | defd hb =>
   have apart : ∀ x o gx, A.heap.get x = some o → γ x = some gx → gx.blk = g.blk → x = i := fun x o gx hx hgx e => by
    rcases hw.sep _ _ _ _ _ _ hx hi hgx hg e with h | ⟨_, _, _, _, _, _, _, _, h, _⟩
    ·exact h
    ·cases h
   refine .dead ?_ hb (fun j gj hj e => ?_) (fun d hm e => ?_) (ih h4)
   ·rcases he.new _ _ hg with h | ⟨_, h | ⟨j, x, hj, hx⟩⟩
    ·rw [h0 i h1] at h; cases h
    ·exact h
    ·exfalso
     have hlt : j < n0 := by
      rcases Nat.lt_or_ge j n0 with c | c
      ·exact c
      ·rw [h0 j c] at hj; cases hj
     obtain ⟨y, o, r1, r2⟩ := hobj j (by omega)
     have := tau_of r1
     rw [hτ j hlt] at this
     subst this
     have := apart j o x r2 (he.le _ _ hj) hx
     omega
   ·unfold renG at hj
    split at hj
    ·rename_i hlt
     obtain ⟨y, o, r1, r2⟩ := hobj j (blt_lt hlt)
     rw [tau_of r1] at hj
     exact memN_iff h2 j y r1 (apart y o gj r2 hj e)
    ·cases hj
   ·-- the other marks
    have key : ∀ {l : List Nat} {D : List Deferred}, DRel W0.heap.size γ W l D → okMs A n0 ns l = true → memN i l = false → ∀ d ∈ D, d.target ≠ .collected g.blk := fun {l D} hl => by
     induction hl with
     | nil => intro _ _ d hm; cases hm
     | dead _ _ hu _ _ ih =>
      intro q1 q2 d hm
      rcases List.mem_cons.1 hm with rfl | hm
      ·intro e; injection e with e; exact hu i g hg e.symm
      ·exact ih q1 q2 d hm
     | cons hg2 _ ih =>
      intro q1 q2 d hm
      rename_i i2 g2 _ _ _
      simp only [okMs] at q1
      split at q1
      ·rename_i hi2
       simp only [Bool.and_eq_true] at q1
       simp only [memN] at q2
       split at q2
       ·cases q2
       ·rename_i hb2
        rcases List.mem_cons.1 hm with rfl | hm
        ·intro e
         injection e with e
         exact Nat.ne_of_beq_eq_false hb2 (apart i2 _ g2 hi2 hg2 e).symm
        ·exact ih q1.2.2.2 q2 d hm
      ·cases q1
    exact key hl h4 h3 d hm e
  ·cases h

theorem Ren.rb {C : Cfg} {m n : Nat} {γ0 : Gam} {W0 : World} {n0 : Nat} (h0 : ∀ i, n0 ≤ i → γ0 i = none) {lv : List Nat} {fl : List Fl} {s : List (Nat × Value)} {T : Tr Value} {ms : List Nat} {A : AW} {vs : List (Option Value)} {ms1 : List Nat} {os : List (Option AObj)}
  (h : rb n0 lv fl T ms A = some (vs, ms1, os)) (hgd : gdAs fl os = true) : Ren C m n γ0 W0 ⟨⟨s, T⟩, ms, A⟩ (St.of lv vs ms1 os) := by
 unfold Go.Ev.rb at h
 split at h
 ·rename_i vs2 os2 hD
  cases h
  unfold rbD at hD
  split at hD
  ·cases hD
  ·rename_i i ms
   split at hD
   rename_i ns1 vs1 hv
   split at hD
   ·rename_i ns3 os1 ha
    split at hD
    ·rename_i hc
     cases hD
     simp only [Bool.and_eq_true] at hc
     obtain ⟨c1, c2, c3⟩ := hc
     have q1 := mvO_ok (rangeN n0 []) (lv.map T.get)
     rw [hv] at q1
     obtain ⟨q3, q4, q5⟩ := mvAs_ok ha (Nat.zero_le _)
     rw [Nat.zero_add] at q4
     have hpre : Pre (rangeN n0 []) ns3 := q1.1.trans q3
     refine Ren.rb0 h0 hv (.refl _) ha c3 hgd fun γ W D hw hb hd => drop_marks h0 ?_ (fun i hi => tau_of (hpre _ _ (by rw [rangeN_at, if_pos hi]))) hw hb.ext (fun k hk => ?_) hd c1
     ·rcases Nat.eq_zero_or_pos n0 with e | hpos
      ·omega
      ·have := at?_lt (hpre (n0 - 1) _ (by rw [rangeN_at, if_pos (by omega)]))
       omega
     ·obtain ⟨o, ho⟩ := someAs_ok c2 k (by omega)
      obtain ⟨x, o2, n1, n2, r1, r2, _⟩ := q5 k o ho
      rw [Nat.zero_add] at r1
      exact ⟨x, o2, r1, r2⟩
    ·cases hD
   ·cases hD
 ·split at h
  rename_i ns1 vs1 hv
  split at h
  rename_i ns2 ms2 hm
  split at h
  ·rename_i ns3 os1 ha
   split at h
   ·rename_i hap
    cases h
    have q2 := mvMs_ok ns1 ms
    rw [hm] at q2
    obtain ⟨q3, _, _⟩ := mvAs_ok ha (Nat.zero_le _)
    exact Ren.rb0 h0 hv q2.1 ha hap hgd fun γ W D _ _ hd => renM_ok hd (q2.2 ns3 q3)
   ·cases h
  ·cases h

end Go.Ev
