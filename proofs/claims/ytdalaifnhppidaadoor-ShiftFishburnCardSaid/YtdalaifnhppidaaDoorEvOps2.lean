/- Places, indexes and slices. -/
import Derived.Test.YtdalaifnhppidaaDoorEvOps
namespace Go.Ev
open Go

theorem blt_lt {a b : Nat} (h : Nat.blt a b = true) : a < b := Nat.le_of_ble_eq_true h
theorem ble_le {a b : Nat} (h : Nat.ble a b = true) : a ≤ b := Nat.le_of_ble_eq_true h

def doFieldAddr (C : Cfg) (s : Nat) (x : Value) (f : Nat) (A : AW) : OR :=
 match x with
 | .pointer (some ⟨i, k, none⟩) => match C.under s with
  | some (.struct ⟨fs⟩) => match fs[f]? with
   | some fd => match C.tys.get fd.type with
    | some inf => match Nat.beq inf.size 0 with
     | false => .val (.pointer (some ⟨i, Nat.add k fd.offset, none⟩)) A
     | true => .fail 20
    | none => .fail 21
   | none => .fail 22
  | _ => .fail 23
 | .pointer (some ⟨i, k, some m⟩) => match C.under s with
  | some (.struct ⟨fs⟩) => match fs[f]? with
   | some fd => match C.tys.get fd.type with
    | some inf => match Nat.beq inf.size 0 with
     | false => .val (.pointer (some ⟨i, Nat.add k fd.offset, some m⟩)) A
     | true => .fail 20
    | none => .fail 21
   | none => .fail 22
  | _ => .fail 23
 | _ => .fail 24

theorem doFieldAddr_ok {C : Cfg} (hC : C.Ok) {γ : Gam} {A : AW} {W : World} (hw : WRel γ A W) (s : Nat) {x x' : Value} (f : Nat) (hx : VRel γ x x') :
  VOk C.P γ W (doFieldAddr C s x f A) (Instr.fieldAt s x' f) := by
 unfold doFieldAddr
 split
 ·rename_i i k
  cases hx with
  | ptr k hg =>
   split
   ·rename_i fs hs
    split
    ·rename_i fd hfd
     split
     ·rename_i inf hinf
      split
      ·rename_i hz
       refine .same hw ?_ (VRel.ptrA hg k fd.offset)
       have hz' : inf.size ≠ 0 := fun e => by simp [e] at hz
       simp [Instr.fieldAt, run_underlying (hC.under hs), hfd, Instr.sureAddr, fieldPlace, run_sizeOf' (hC.ty _ _ hinf), hz', Addr.add_lit]
      ·trivial
     ·trivial
    ·trivial
   ·trivial
 ·cases hx with
  | ptrRo =>
   split
   ·rename_i fs hs
    split
    ·rename_i fd hfd
     split
     ·rename_i inf hinf
      split
      ·rename_i hz
       refine .same hw (v' := .pointer (some ⟨_, _ + fd.offset, none⟩)) ?_ (.ptrRo _ _ _)
       have hz' : inf.size ≠ 0 := fun e => by simp [e] at hz
       simp [Instr.fieldAt, run_underlying (hC.under hs), hfd, Instr.sureAddr, fieldPlace, run_sizeOf' (hC.ty _ _ hinf), hz', Addr.add_lit]
      ·trivial
     ·trivial
    ·trivial
   ·trivial
 ·trivial

def doIndexAddr (C : Cfg) (t : Nat) (x ix : Value) (A : AW) : OR :=
 match ix with
 | .int _ (.ofNat n) => match x with
  | .slice (some ⟨i, k, none⟩) len _ => match C.under t with
   | some (.slice e) => match Nat.blt n len with
    | true => match C.tys.get e with
     | some inf => .val (.pointer (some ⟨i, Nat.add k (Nat.mul n inf.size), none⟩)) A
     | none => .fail 25
    | false => .fail 26
   | _ => .fail 27
  | .pointer (some ⟨i, k, none⟩) => match C.under t with
   | some (.array len e) => match Nat.blt n len with
    | true => match C.tys.get e with
     | some inf => .val (.pointer (some ⟨i, Nat.add k (Nat.mul n inf.size), none⟩)) A
     | none => .fail 28
    | false => .fail 29
   | _ => .fail 30
  | .slice (some ⟨i, k, some m⟩) len _ => match C.under t with
   | some (.slice e) => match Nat.blt n len with
    | true => match C.tys.get e with
     | some inf => .val (.pointer (some ⟨i, Nat.add k (Nat.mul n inf.size), some m⟩)) A
     | none => .fail 25
    | false => .fail 26
   | _ => .fail 27
  | .pointer (some ⟨i, k, some m⟩) => match C.under t with
   | some (.array len e) => match Nat.blt n len with
    | true => match C.tys.get e with
     | some inf => .val (.pointer (some ⟨i, Nat.add k (Nat.mul n inf.size), some m⟩)) A
     | none => .fail 28
    | false => .fail 29
   | _ => .fail 30
  | _ => .fail 31
 | _ => .fail 32

theorem doIndexAddr_ok {C : Cfg} (hC : C.Ok) {γ : Gam} {A : AW} {W : World} (hw : WRel γ A W) (t : Nat) {x x' ix ix' : Value} (hx : VRel γ x x') (hi : VRel γ ix ix') :
  VOk C.P γ W (doIndexAddr C t x ix A) (Instr.indexAt t x' ix') := by
 unfold doIndexAddr
 split
 ·rename_i kk n
  cases hi
  split
  ·rename_i i k len cap
   split
   ·rename_i e he
    split
    ·rename_i hlt
     have hlt' : n < len := blt_lt hlt
     split
     ·rename_i inf hinf
      cases hx with
      | slice k l c c' hg hc =>
       refine .same hw ?_ (VRel.ptrA hg k (n * inf.size))
       have h1 : (0 : Int) ≤ Int.ofNat n ∧ Int.ofNat n < (len : Int) := ⟨Int.natCast_nonneg n, by simpa using hlt'⟩
       simp [Instr.indexAt, asIntOf, run_underlying (hC.under he), hlt', run_sizeOf' (hC.ty _ _ hinf), Addr.add_lit]
      | sliceE => simp at hlt'
     ·trivial
    ·trivial
   ·trivial
  ·rename_i i k
   split
   ·rename_i len e he
    split
    ·rename_i hlt
     have hlt' : n < len := blt_lt hlt
     split
     ·rename_i inf hinf
      cases hx with
      | ptr k hg =>
       refine .same hw ?_ (VRel.ptrA hg k (n * inf.size))
       simp [Instr.indexAt, Instr.sureAddr, asIntOf, run_underlying (hC.under he), hlt', run_sizeOf' (hC.ty _ _ hinf), Addr.add_lit]
     ·trivial
    ·trivial
   ·trivial
  ·rename_i len cap
   split
   ·rename_i e he
    split
    ·rename_i hlt
     have hlt' : n < len := blt_lt hlt
     split
     ·rename_i inf hinf
      cases hx with
      | sliceRo =>
       refine .same hw (v' := .pointer (some ⟨_, _ + n * inf.size, none⟩)) ?_ (.ptrRo _ _ _)
       have h1 : (0 : Int) ≤ Int.ofNat n ∧ Int.ofNat n < (len : Int) := ⟨Int.natCast_nonneg n, by simpa using hlt'⟩
       simp [Instr.indexAt, asIntOf, run_underlying (hC.under he), hlt', run_sizeOf' (hC.ty _ _ hinf), Addr.add_lit]
      | sliceE => simp at hlt'
     ·trivial
    ·trivial
   ·trivial
  ·split
   ·rename_i len e he
    split
    ·rename_i hlt
     have hlt' : n < len := blt_lt hlt
     split
     ·rename_i inf hinf
      cases hx with
      | ptrRo =>
       refine .same hw (v' := .pointer (some ⟨_, _ + n * inf.size, none⟩)) ?_ (.ptrRo _ _ _)
       simp [Instr.indexAt, Instr.sureAddr, asIntOf, run_underlying (hC.under he), hlt', run_sizeOf' (hC.ty _ _ hinf), Addr.add_lit]
     ·trivial
    ·trivial
   ·trivial
  ·trivial
 ·trivial

inductive Bd where
 | none
 | nat (n : Nat)
 | bad

def bd : Option Value → Bd
 | .none => .none
 | some (.int _ (.ofNat n)) => .nat n
 | some _ => .bad

def Bd.getD : Bd → Nat → Nat
 | .nat n, _ => n
 | _, d => d

def Bd.ok : Bd → Bool
 | .bad => false
 | _ => true

inductive OVRel (γ : Gam) : Option Value → Option Value → Prop
 | none : OVRel γ none none
 | some {v v' : Value} (h : VRel γ v v') : OVRel γ (some v) (some v')

theorem bd_rel {γ : Gam} {o o' : Option Value} (h : OVRel γ o o') : bd o' = bd o := by
 cases h with
 | none => rfl
 | some h => cases h <;> rfl

theorem run_sliceBound {P : Program} (k : IntKind) (n y : Nat) (code : BoundsCode) (h : n ≤ y) (W : World) :
  (Instr.sliceBound (.int k (.ofNat n)) y code).run P W = .ok n W := by
 have : (Int.ofNat n).toNat = n := rfl
 simp [Instr.sliceBound, asIntOf, h]

theorem run_sliceBounds {P : Program} (s : Bool) (len cap : Nat) (lo hi mx : Option Value) (W : World) (hlo : (bd lo).ok = true) (hhi : (bd hi).ok = true) (hmx : (bd mx).ok = true)
  (h1 : (bd mx).getD cap ≤ cap) (h2 : hi = none ∨ (bd hi).getD len ≤ (bd mx).getD cap) (h3 : (bd lo).getD 0 ≤ (bd hi).getD len) (h4 : mx = none ∨ hi ≠ none) :
  (Instr.sliceBounds s len cap lo hi mx).run P W = .ok ((bd lo).getD 0, (bd hi).getD len, (bd mx).getD cap) W := by
 have key : ∀ o : Option Value, (bd o).ok = true → o = none ∨ ∃ k n, o = some (.int k (.ofNat n)) := fun o ho => by
  cases o with
  | none => exact .inl rfl
  | some v =>
   cases v <;> simp_all [bd, Bd.ok]
   rename_i k n
   cases n with
   | ofNat n => exact ⟨n, rfl⟩
   | negSucc n => cases ho
 unfold Instr.sliceBounds
 rcases key mx hmx with rfl | ⟨km, m, rfl⟩ <;> rcases key hi hhi with rfl | ⟨kh, h, rfl⟩ <;> rcases key lo hlo with rfl | ⟨kl, l, rfl⟩ <;>
  simp_all [bd, Bd.getD, -Int.ofNat_eq_natCast, run_sliceBound]

def sliceK (sz : Nat) (a : Option Addr) (cap l h m : Nat) (A : AW) : OR :=
 match Nat.ble l h with
 | true => match Nat.ble h m with
  | true => match Nat.ble m (Nat.min cap 1000000000000) with
   | true => match a with
    | none => .val (.slice none 0 0) A
    | some ⟨i, k, none⟩ => match Nat.beq m l with
     | true => .val (.slice (some ⟨i, k, none⟩) (Nat.sub h l) (Nat.sub m l)) A
     | false => .val (.slice (some ⟨i, Nat.add k (Nat.mul l sz), none⟩) (Nat.sub h l) (Nat.sub m l)) A
    | some ⟨_, _, some _⟩ => .fail 34
   | false => .fail 35
  | false => .fail 36
 | false => .fail 37

def sliceU (sz i k len l h : Nat) (A : AW) : OR :=
 match Nat.ble l h with
 | true => match Nat.ble h len with
  | true => match Nat.beq l 0 with
   | true => .val (.slice (some ⟨i, k, none⟩) h unk) A
   | false => match Nat.blt l len with
    | true => match A.heap.get i with
     | some (.cells _ _ _ z) => match Nat.beq z sz with
      | true => .val (.slice (some ⟨i, Nat.add k (Nat.mul l sz), none⟩) (Nat.sub h l) unk) A
      | false => .fail 38
     | _ => .fail 39
    | false => .val (.slice (some ⟨i, k, none⟩) 0 unkE) A
  | false => .fail 40
 | false => .fail 41

/-- An empty slice, cut. -/
def emptyS (a : Option Addr) (len l h : Nat) (mx : Option Value) (A : AW) : OR :=
 match a, mx with
 | some ⟨i, k, none⟩, none => match Nat.beq len 0, Nat.beq l 0, Nat.beq h 0 with
  | true, true, true => .val (.slice (some ⟨i, k, none⟩) 0 unkE) A
  | _, _, _ => .fail 42
 | _, _ => .fail 42

def doSliceS (sz : Nat) (a : Option Addr) (len cap : Nat) (lo hi mx : Option Value) (A : AW) : OR :=
 match Nat.beq cap unkE with
 | true => emptyS a len ((bd lo).getD 0) ((bd hi).getD len) mx A
 | false => match Nat.beq cap unk with
  | false => sliceK sz a cap ((bd lo).getD 0) ((bd hi).getD len) ((bd mx).getD cap) A
  | true => match mx with
   | some _ => sliceK sz a len ((bd lo).getD 0) ((bd hi).getD len) ((bd mx).getD cap) A
   | none => match a with
    | some ⟨i, k, none⟩ => sliceU sz i k len ((bd lo).getD 0) ((bd hi).getD len) A
    | _ => .fail 43

def sliceR (sz b k s cap l h m : Nat) (A : AW) : OR :=
 match Nat.ble l h with
 | true => match Nat.ble h m with
  | true => match Nat.ble m cap with
   | true => match Nat.beq h l with
    | true => .val (.slice (some ⟨0, 0, none⟩) 0 unkE) A
    | false => .val (.slice (some ⟨b, Nat.add k (Nat.mul l sz), some s⟩) (Nat.sub h l) (Nat.sub m l)) A
   | false => .fail 35
  | false => .fail 36
 | false => .fail 37

def doSliceP (C : Cfg) (t b k s : Nat) (lo hi mx : Option Value) (A : AW) : OR :=
 match lo, hi, mx with
 | none, none, none => match C.under t with
  | some (.array n e) => match C.tys.get e with
   | some _ => match Nat.blt 0 n, Nat.blt n unk with
    | true, true => .val (.slice (some ⟨b, k, some s⟩) n n) A
    | _, _ => .fail 350
   | none => .fail 351
  | _ => .fail 352
 | _, _, _ => .fail 353

def doSlice (C : Cfg) (t : Nat) (x : Value) (lo hi mx : Option Value) (A : AW) : OR :=
 match (bd lo).ok, (bd hi).ok, (bd mx).ok, (match mx with | none => true | some _ => hi.isSome) with
 | true, true, true, true => match x with
  | .slice (some ⟨b, k, some s⟩) len cap => match C.under t with
   | some (.slice e) => match C.tys.get e with
    | some inf => match Nat.beq cap unkE with
     | true => .fail 49
     | false => sliceR inf.size b k s cap ((bd lo).getD 0) ((bd hi).getD len) ((bd mx).getD cap) A
    | none => .fail 44
   | _ => .fail 45
  | .slice a len cap => match C.under t with
   | some (.slice e) => match C.tys.get e with
    | some inf => doSliceS inf.size a len cap lo hi mx A
    | none => .fail 44
   | _ => .fail 45
  | .pointer (some ⟨i, k, none⟩) => match C.under t with
   | some (.array n e) => match C.tys.get e with
    | some inf => sliceK inf.size (some ⟨i, k, none⟩) n ((bd lo).getD 0) ((bd hi).getD n) ((bd mx).getD n) A
    | none => .fail 44
   | _ => .fail 46
  | .pointer (some ⟨b, k, some s⟩) => doSliceP C t b k s lo hi mx A
  | _ => .fail 47
 | _, _, _, _ => .fail 48

theorem run_slice_val {P : Program} {t e : TypeId} {inf : TypeInfo} (ht : P.underlying t = some (.slice e)) (hi : P.info? e = some inf) (a : Option Addr) (len cap : Nat) (lo hi' mx : Option Value) (W : World)
  (b1 : (bd lo).ok = true) (b2 : (bd hi').ok = true) (b3 : (bd mx).ok = true)
  (h1 : (bd mx).getD cap ≤ cap) (h2 : hi' = none ∨ (bd hi').getD len ≤ (bd mx).getD cap) (h3 : (bd lo).getD 0 ≤ (bd hi').getD len) (h4 : mx = none ∨ hi' ≠ none) :
  (Instr.sliceAt t (.slice a len cap) lo hi' mx).run P W =
   .ok (.slice (if (bd mx).getD cap = (bd lo).getD 0 then a else a.map (·.add ((bd lo).getD 0 * inf.size))) ((bd hi').getD len - (bd lo).getD 0) ((bd mx).getD cap - (bd lo).getD 0)) W := by
 simp [Instr.sliceAt, Instr.slice, run_underlying ht, run_sliceBounds true len cap lo hi' mx W b1 b2 b3 h1 h2 h3 h4, run_sizeOf' hi]

theorem run_slice_arr {P : Program} {t e n : Nat} {inf : TypeInfo} (ht : P.underlying t = some (.array n e)) (hi : P.info? e = some inf) (a : Addr) (lo hi' mx : Option Value) (W : World)
  (b1 : (bd lo).ok = true) (b2 : (bd hi').ok = true) (b3 : (bd mx).ok = true)
  (h1 : (bd mx).getD n ≤ n) (h2 : hi' = none ∨ (bd hi').getD n ≤ (bd mx).getD n) (h3 : (bd lo).getD 0 ≤ (bd hi').getD n) (h4 : mx = none ∨ hi' ≠ none) :
  (Instr.sliceAt t (.pointer (some a)) lo hi' mx).run P W =
   .ok (.slice (some (if (bd mx).getD n = (bd lo).getD 0 then a else a.add ((bd lo).getD 0 * inf.size))) ((bd hi').getD n - (bd lo).getD 0) ((bd mx).getD n - (bd lo).getD 0)) W := by
 simp [Instr.sliceAt, Instr.sureAddr, run_underlying ht, run_sliceBounds false n n lo hi' mx W b1 b2 b3 h1 h2 h3 h4, run_sizeOf' hi]

theorem bd_none {o : Option Value} (h : (bd o).ok = true) (hb : bd o = .none) : o = none := by
 cases o with
 | none => rfl
 | some v =>
  cases v <;> simp_all [bd, Bd.ok]
  rename_i k n
  cases n <;> simp_all

theorem none_iff_of_rel {γ : Gam} {o o' : Option Value} (h : OVRel γ o o') : (o' = none ↔ o = none) := by cases h <;> simp

theorem sliceK_ok {P : Program} {γ : Gam} {A : AW} {W : World} (hw : WRel γ A W) (sz : Nat) {a a' : Option Addr} {cap cap' l h m : Nat} {s : Sem Value}
  (ha : (a = none ∧ a' = none ∧ cap = 0) ∨ ∃ i k g, a = some ⟨i, k, none⟩ ∧ γ i = some g ∧ a' = some ⟨g.blk, g.off + k, none⟩)
  (hcap : cap ≤ cap') (hs : l ≤ h → h ≤ m → m ≤ cap' → s.run P W = .ok (.slice (if m = l then a' else a'.map (·.add (l * sz))) (h - l) (m - l)) W) :
  VOk P γ W (sliceK sz a cap l h m A) s := by
 unfold sliceK
 split
 ·rename_i h1
  split
  ·rename_i h2
   split
   ·rename_i h3
    have h3c : m ≤ cap := Nat.le_trans (ble_le h3) (Nat.min_le_left _ _)
    have h3s : m ≤ 1000000000000 := Nat.le_trans (ble_le h3) (Nat.min_le_right _ _)
    have hu : m - l ≠ unk := by unfold unk; omega
    have hr := hs (ble_le h1) (ble_le h2) (Nat.le_trans h3c hcap)
    rcases ha with ⟨rfl, rfl, rfl⟩ | ⟨i, k, g, rfl, hg, rfl⟩
    ·refine .same hw (v' := .slice none 0 0) ?_ .sliceNil
     have k1 := ble_le h1
     have k2 := ble_le h2
     have e1 : h - l = 0 := by omega
     have e2 : m - l = 0 := by omega
     rw [e1, e2] at hr
     simpa using hr
    ·simp only
     split
     ·rename_i hml
      have hml' := Nat.eq_of_beq_eq_true hml
      refine .same hw (v' := .slice (some ⟨g.blk, g.off + k, none⟩) (h - l) (m - l)) ?_ (.slice _ _ _ _ hg (.inl ⟨rfl, hu⟩))
      simpa [hml'] using hr
     ·rename_i hml
      have hml' : m ≠ l := Nat.ne_of_beq_eq_false hml
      refine .same hw (v' := .slice (some ⟨g.blk, g.off + k + l * sz, none⟩) (h - l) (m - l)) ?_ (VRel.sliceA hg k (l * sz) _ _ _ (.inl ⟨rfl, hu⟩))
      simpa [hml', Addr.add_lit] using hr
   ·trivial
  ·trivial
 ·trivial

theorem sliceU_ok {P : Program} {γ : Gam} {A : AW} {W : World} (hw : WRel γ A W) (sz : Nat) {i k len l h cap' : Nat} {g : GI} {s : Sem Value}
  (hg : γ i = some g) (hlen : len ≤ cap') (hn : g.off + k + cap' * g.sz ≤ g.n)
  (hs : l ≤ h → h ≤ cap' → s.run P W = .ok (.slice (if cap' = l then some ⟨g.blk, g.off + k, none⟩ else (some (⟨g.blk, g.off + k, none⟩ : Addr)).map (·.add (l * sz))) (h - l) (cap' - l)) W) :
  VOk P γ W (sliceU sz i k len l h A) s := by
 unfold sliceU
 split
 ·rename_i h1
  have h1' := ble_le h1
  split
  ·rename_i h2
   have h2' := ble_le h2
   have hr := hs h1' (Nat.le_trans h2' hlen)
   split
   ·rename_i h0
    have h0' := Nat.eq_of_beq_eq_true h0
    subst h0'
    refine .same hw (v' := .slice (some ⟨g.blk, g.off + k, none⟩) h cap') ?_ (.slice _ _ _ _ hg (.inr ⟨rfl, by omega, hn⟩))
    simpa [Addr.add_lit] using hr
   ·split
    ·rename_i hlt
     have hlt' := blt_lt hlt
     split
     ·rename_i c e f z hz
      split
      ·rename_i hzs
       have hzs' := Nat.eq_of_beq_eq_true hzs
       have hgz : g.sz = sz := by
        obtain ⟨g', hg', ho⟩ := hw.obj _ _ hz
        rw [hg] at hg'
        cases hg'
        cases ho with
        | cells _ _ _ hz' _ => exact hz'.trans hzs'
       refine .same hw (v' := .slice (some ⟨g.blk, g.off + k + l * sz, none⟩) (h - l) (cap' - l)) ?_ (VRel.sliceA hg k (l * sz) _ _ _ (.inr ⟨rfl, show h - l ≤ cap' - l by omega, ?_⟩))
       ·have : cap' ≠ l := by omega
        simpa [this, Addr.add_lit] using hr
       ·rw [hgz] at hn ⊢
        have : l * sz + (cap' - l) * sz = cap' * sz := by rw [← Nat.add_mul]; congr 1; omega
        show g.off + k + l * sz + (cap' - l) * sz ≤ g.n
        omega
      ·trivial
     ·trivial
    ·rename_i hlt
     have hl : l = len := by
      have : ¬ l < len := fun hh => by
       have : Nat.blt l len = true := Nat.ble_eq_true_of_le hh
       rw [this] at hlt
       cases hlt
      omega
     have hhl : h - l = 0 := by omega
     rw [hhl] at hr
     by_cases hcl : cap' = l
     ·exact .same hw (by rw [hr, if_pos hcl]) (.sliceE _ _ _)
     ·exact .same hw (by rw [hr, if_neg hcl]; rfl) (.sliceE _ _ _)
  ·trivial
 ·trivial

theorem doSliceP_ok {C : Cfg} (hC : C.Ok) {γ : Gam} {A : AW} {W : World} (hw : WRel γ A W) (t b k s : Nat) {x' : Value} {lo lo' hi hi' mx mx' : Option Value}
  (hx : VRel γ (.pointer (some ⟨b, k, some s⟩)) x') (hlo : OVRel γ lo lo') (hhi : OVRel γ hi hi') (hmx : OVRel γ mx mx') :
  VOk C.P γ W (doSliceP C t b k s lo hi mx A) (Instr.sliceAt t x' lo' hi' mx') := by
 unfold doSliceP
 split
 ·cases hlo
  cases hhi
  cases hmx
  cases hx
  split
  ·rename_i n e he
   split
   ·rename_i inf hinf
    split
    ·rename_i h1 h2
     have h1' := blt_lt h1
     have hr := run_slice_arr (hC.under he) (hC.ty _ _ hinf) ⟨b, k, none⟩ none none none W rfl rfl rfl (Nat.le_refl _) (.inl rfl) (Nat.zero_le _) (.inl rfl)
     refine .same hw (v' := .slice (some ⟨b, k, none⟩) n n) ?_ (.sliceRo _ _ _ _ _ _ (blt_lt h2) (Nat.le_refl _))
     have hn : n ≠ 0 := by omega
     simpa [bd, Bd.getD, hn, Addr.add_lit] using hr
    ·trivial
   ·trivial
  ·trivial
 ·trivial

theorem doSlice_ok {C : Cfg} (hC : C.Ok) {γ : Gam} {A : AW} {W : World} (hw : WRel γ A W) (t : Nat) {x x' : Value} {lo lo' hi hi' mx mx' : Option Value}
  (hx : VRel γ x x') (hlo : OVRel γ lo lo') (hhi : OVRel γ hi hi') (hmx : OVRel γ mx mx') :
  VOk C.P γ W (doSlice C t x lo hi mx A) (Instr.sliceAt t x' lo' hi' mx') := by
 unfold doSlice
 split
 ·rename_i b1 b2 b3 b4
  have c1 : (bd lo').ok = true := by rw [bd_rel hlo]; exact b1
  have c2 : (bd hi').ok = true := by rw [bd_rel hhi]; exact b2
  have c3 : (bd mx').ok = true := by rw [bd_rel hmx]; exact b3
  have c4 : mx' = none ∨ hi' ≠ none := by
   cases hmx with
   | none => exact .inl rfl
   | some hmx => cases hhi with
    | none => simp at b4
    | some _ => exact .inr (by simp)
  have e1 := bd_rel hlo
  have e2 := bd_rel hhi
  have e3 := bd_rel hmx
  split
  ·rename_i b k s len cap
   split
   ·rename_i e he
    split
    ·rename_i inf hinf
     split
     ·trivial
     rename_i hE
     cases hx with
     | sliceE => simp at hE
     | sliceRo b k s l c c' hcu hcc =>
      have run : (bd lo).getD 0 ≤ (bd hi).getD len → ((bd hi).getD len ≤ (bd mx).getD c' ∨ hi = none) → (bd mx).getD c' ≤ c' →
        (Instr.sliceAt t (.slice (some ⟨b, k, none⟩) len c') lo' hi' mx').run C.P W =
         .ok (.slice (if (bd mx).getD c' = (bd lo).getD 0 then some ⟨b, k, none⟩ else (some (⟨b, k, none⟩ : Addr)).map (·.add ((bd lo).getD 0 * inf.size))) ((bd hi).getD len - (bd lo).getD 0) ((bd mx).getD c' - (bd lo).getD 0)) W :=
       fun k1 k2 k3 => by
        have := run_slice_val (hC.under he) (hC.ty _ _ hinf) (some ⟨b, k, none⟩) len c' lo' hi' mx' W c1 c2 c3 (by rw [e3]; exact k3)
         (by rw [e2, e3]; rcases k2 with k2 | k2; exact .inr k2; exact .inl ((none_iff_of_rel hhi).2 k2)) (by rw [e1, e2]; exact k1) c4
        rwa [e1, e2, e3] at this
      have hm : (bd mx).getD cap ≤ (bd mx).getD c' := by
       cases bd mx <;> simp [Bd.getD] <;> exact hcc
      have hm2 : (bd mx).getD cap ≤ cap → (bd mx).getD c' ≤ c' := by
       cases bd mx <;> simp [Bd.getD]
       intro h; omega
      unfold sliceR
      split
      ·rename_i h1
       split
       ·rename_i h2
        split
        ·rename_i h3
         have k1 := ble_le h1
         have k2 := ble_le h2
         have k3 := ble_le h3
         have hr := run k1 (.inl (Nat.le_trans k2 hm)) (hm2 k3)
         split
         ·rename_i h4
          have k4 := Nat.eq_of_beq_eq_true h4
          rw [k4, Nat.sub_self] at hr
          by_cases hml : (bd mx).getD c' = (bd lo).getD 0
          ·exact .same hw (by rw [hr, if_pos hml]) (.sliceE _ _ _)
          ·exact .same hw (by rw [hr, if_neg hml]; rfl) (.sliceE _ _ _)
         ·rename_i h4
          have k4 : (bd hi).getD len ≠ (bd lo).getD 0 := Nat.ne_of_beq_eq_false h4
          have hml : (bd mx).getD c' ≠ (bd lo).getD 0 := by omega
          refine .same hw (v' := .slice (some ⟨b, k + (bd lo).getD 0 * inf.size, none⟩) ((bd hi).getD len - (bd lo).getD 0) ((bd mx).getD c' - (bd lo).getD 0)) ?_ (.sliceRo _ _ _ _ _ _ (by show (bd mx).getD cap - (bd lo).getD 0 < unk; omega) (by show (bd mx).getD cap - (bd lo).getD 0 ≤ _; omega))
          simpa [hml, Addr.add_lit] using hr
        ·trivial
       ·trivial
      ·trivial
    ·trivial
   ·trivial
  ·rename_i a len cap hnr0
   have hnr : ∀ b k s, a ≠ some ⟨b, k, some s⟩ := fun b k s e => by subst e; exact hnr0 _ _ _ rfl
   split
   ·rename_i e he
    split
    ·rename_i inf hinf
     have run : ∀ (a' : Option Addr) (cap' : Nat), (bd lo).getD 0 ≤ (bd hi).getD len → ((bd hi).getD len ≤ (bd mx).getD cap' ∨ hi = none) → (bd mx).getD cap' ≤ cap' →
       (Instr.sliceAt t (.slice a' len cap') lo' hi' mx').run C.P W =
        .ok (.slice (if (bd mx).getD cap' = (bd lo).getD 0 then a' else a'.map (·.add ((bd lo).getD 0 * inf.size))) ((bd hi).getD len - (bd lo).getD 0) ((bd mx).getD cap' - (bd lo).getD 0)) W :=
      fun a' cap' k1 k2 k3 => by
       have := run_slice_val (hC.under he) (hC.ty _ _ hinf) a' len cap' lo' hi' mx' W c1 c2 c3 (by rw [e3]; exact k3)
        (by rw [e2, e3]; rcases k2 with k2 | k2; exact .inr k2; exact .inl ((none_iff_of_rel hhi).2 k2)) (by rw [e1, e2]; exact k1) c4
       rwa [e1, e2, e3] at this
     unfold doSliceS
     split
     ·unfold emptyS
      split
      ·rename_i i kk
       split
       ·rename_i h1 h2 h3
        have k1 := Nat.eq_of_beq_eq_true h1
        have k2 := Nat.eq_of_beq_eq_true h2
        have k3 := Nat.eq_of_beq_eq_true h3
        subst k1
        have hr : ∀ (a' : Addr) (cap' : Nat), VOk C.P γ W (.val (.slice (some ⟨i, kk, none⟩) 0 unkE) A) (Instr.sliceAt t (.slice (some a') 0 cap') lo' hi' mx') := fun a' cap' => by
         have h := run (some a') cap' (by omega) (.inl (by rw [k3]; exact Nat.zero_le _)) (by simp [bd, Bd.getD])
         rw [k2, k3] at h
         by_cases c0 : (bd (none : Option Value)).getD cap' = 0
         ·rw [if_pos c0] at h
          exact .same hw h (.sliceE _ _ _)
         ·rw [if_neg c0] at h
          exact .same hw h (.sliceE _ _ _)
        cases hx with
        | slice k l c c' hg hc => exact hr _ _
        | sliceE a a' c' => exact hr _ _
       ·trivial
      ·trivial
     ·rename_i hE
      split
      ·rename_i hU
       cases hx with
       | sliceNil => exact sliceK_ok hw _ (.inl ⟨rfl, rfl, rfl⟩) (Nat.le_refl _) fun k1 k2 k3 => run none 0 k1 (.inl k2) k3
       | slice k l c c' hg hc =>
        have : c' = cap := by
         rcases hc with h | h
         ·exact h.1
         ·rw [h.1] at hU; simp at hU
        subst this
        exact sliceK_ok hw _ (.inr ⟨_, _, _, rfl, hg, rfl⟩) (Nat.le_refl _) fun k1 k2 k3 => run _ c' k1 (.inl k2) k3
       | sliceRo => exact absurd rfl (hnr _ _ _)
       | sliceE a a' c' => simp at hE
      ·rename_i hU
       have hcu : cap = unk := Nat.eq_of_beq_eq_true hU
       cases hx with
       | sliceNil => simp [unk] at hcu
       | sliceRo => exact absurd rfl (hnr _ _ _)
       | sliceE a a' c' => simp at hE
       | slice k l c c' hg hc =>
        rename_i i g
        have hc' : len ≤ c' ∧ g.off + k + c' * g.sz ≤ g.n := by
         rcases hc with h | h
         ·exact absurd hcu h.2
         ·exact h.2
        split
        ·rename_i mv
         have hmd : ∀ c₁ c₂, (bd (some mv)).getD c₁ = (bd (some mv)).getD c₂ := fun c₁ c₂ => by
          cases hb : bd (some mv) with
          | none => exact absurd (bd_none b3 hb) (by simp)
          | nat n => rfl
          | bad => rw [hb] at b3; cases b3
         refine sliceK_ok hw _ (.inr ⟨_, _, _, rfl, hg, rfl⟩) hc'.1 fun k1 k2 k3 => ?_
         have := run (some ⟨g.blk, g.off + k, none⟩) c' k1 (.inl (by rw [hmd c' cap]; exact k2)) (by rw [hmd c' cap]; exact k3)
         rwa [hmd c' cap] at this
        ·have hm0 : mx' = none := (none_iff_of_rel hmx).2 rfl
         refine sliceU_ok hw _ hg hc'.1 hc'.2 fun k1 k2 => ?_
         exact run (some ⟨g.blk, g.off + k, none⟩) c' k1 (.inl k2) (Nat.le_refl _)
    ·trivial
   ·trivial
  ·rename_i i k
   split
   ·rename_i n e he
    split
    ·rename_i inf hinf
     cases hx with
     | ptr k hg =>
      rename_i g
      refine sliceK_ok hw _ (.inr ⟨_, _, _, rfl, hg, rfl⟩) (Nat.le_refl _) fun k1 k2 k3 => ?_
      have := run_slice_arr (hC.under he) (hC.ty _ _ hinf) ⟨g.blk, g.off + k, none⟩ lo' hi' mx' W c1 c2 c3 (by rw [e3]; exact k3) (by rw [e2, e3]; exact .inr k2) (by rw [e1, e2]; exact k1) c4
      rw [e1, e2, e3] at this
      rw [this]
      split <;> rfl
    ·trivial
   ·trivial
  ·exact doSliceP_ok hC hw _ _ _ _ hx hlo hhi hmx
  ·trivial
 ·trivial

end Go.Ev
