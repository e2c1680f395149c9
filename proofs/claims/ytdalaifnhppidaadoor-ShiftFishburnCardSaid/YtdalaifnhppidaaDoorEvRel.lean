/- Values and worlds that correspond: an abstract world, its blocks by name, and the world of the model. No program. -/
import Derived.CallsIn
import Derived.RangeFuncLeaves
import Derived.LoopNIn
import Derived.Laws.Sem
import Derived.Laws.World
namespace Go.Ev
open Go

structure GI where
 blk : Nat
 n : Nat
 sz : Nat
 off : Nat
 al : off % sz = 0

abbrev gi (b n z : Nat) : GI := ⟨b, n, z, 0, Nat.zero_mod z⟩

abbrev Gam := Nat → Option GI

def unk : Nat := 9223372036854775808

def unkE : Nat := 9223372036854775809

inductive FRel (γ : Gam) : Fn → Fn → Prop
 | func (f : FuncId) : FRel γ (.func f) (.func f)
 | method (s : String) : FRel γ (.method s) (.method s)
 | methodOf (t : TypeId) (s : String) : FRel γ (.methodOf t s) (.methodOf t s)
 | via (t : TypeId) (p : Array FieldStep) (f : FuncId) (b : Bool) : FRel γ (.via t p f b) (.via t p f b)
 | yield {i : Nat} {g : GI} (h : γ i = some g) : FRel γ (.yield i) (.yield g.blk)

mutual
inductive VRel (γ : Gam) : Value → Value → Prop
 | bool (b : Bool) : VRel γ (.bool b) (.bool b)
 | int (k : IntKind) (n : Int) : VRel γ (.int k n) (.int k n)
 | float (k : FloatKind) (n : Nat) : VRel γ (.float k n) (.float k n)
 | complex (k : FloatKind) (m n : Nat) : VRel γ (.complex k m n) (.complex k m n)
 | string (s : ByteArray) : VRel γ (.string s) (.string s)
 | ptrNil : VRel γ (.pointer none) (.pointer none)
 | ptr {i : Nat} {g : GI} (k : Nat) (h : γ i = some g) : VRel γ (.pointer (some ⟨i, k, none⟩)) (.pointer (some ⟨g.blk, g.off + k, none⟩))
 | ptrRo (b k s : Nat) : VRel γ (.pointer (some ⟨b, k, some s⟩)) (.pointer (some ⟨b, k, none⟩))
 | sliceRo (b k s l c c' : Nat) (h : c < unk) (hc : c ≤ c') : VRel γ (.slice (some ⟨b, k, some s⟩) l c) (.slice (some ⟨b, k, none⟩) l c')
 | sliceNil : VRel γ (.slice none 0 0) (.slice none 0 0)
 | slice {i : Nat} {g : GI} (k l c c' : Nat) (h : γ i = some g) (hc : (c' = c ∧ c ≠ unk) ∨ (c = unk ∧ l ≤ c' ∧ g.off + k + c' * g.sz ≤ g.n)) :
   VRel γ (.slice (some ⟨i, k, none⟩) l c) (.slice (some ⟨g.blk, g.off + k, none⟩) l c')
 | sliceE (a a' : Addr) (c' : Nat) : VRel γ (.slice (some a) 0 unkE) (.slice (some a') 0 c')
 | mapNil : VRel γ (.map none) (.map none)
 | map {i : Nat} {g : GI} (h : γ i = some g) : VRel γ (.map (some i)) (.map (some g.blk))
 | chanNil : VRel γ (.chan none) (.chan none)
 | func {f f' : Fn} {a a' c c' : Array Value} (hf : FRel γ f f') (ha : VsRel γ a.toList a'.toList) (hc : VsRel γ c.toList c'.toList) :
   VRel γ (.func f a c) (.func f' a' c')
 | nilFunc : VRel γ .nilFunc .nilFunc
 | iface (t : TypeId) {v v' : Value} (h : VRel γ v v') : VRel γ (.iface t v) (.iface t v')
 | nilIface : VRel γ .nilIface .nilIface
 | agg {c c' : Array Value} (h : VsRel γ c.toList c'.toList) : VRel γ (.agg c) (.agg c')
 | tuple {c c' : Array Value} (h : VsRel γ c.toList c'.toList) : VRel γ (.tuple c) (.tuple c')
inductive VsRel (γ : Gam) : List Value → List Value → Prop
 | nil : VsRel γ [] []
 | cons {v v' : Value} {l l' : List Value} (h : VRel γ v v') (hl : VsRel γ l l') : VsRel γ (v :: l) (v' :: l')
end

def Gam.le (γ γ' : Gam) : Prop := ∀ i g, γ i = some g → γ' i = some g

theorem Gam.le_refl (γ : Gam) : γ.le γ := fun _ _ h => h
theorem Gam.le_trans {a b c : Gam} (h : a.le b) (k : b.le c) : a.le c := fun i g e => k i g (h i g e)

theorem FRel.mono {γ γ' : Gam} (hle : γ.le γ') {f f' : Fn} (h : FRel γ f f') : FRel γ' f f' := by
 cases h with
 | func f => exact .func f
 | method s => exact .method s
 | methodOf t s => exact .methodOf t s
 | via t p f b => exact .via t p f b
 | yield h => exact .yield (hle _ _ h)

mutual
theorem VRel.mono {γ γ' : Gam} (hle : γ.le γ') {v v' : Value} : VRel γ v v' → VRel γ' v v'
 | .bool b => .bool b
 | .int k n => .int k n
 | .float k n => .float k n
 | .complex k m n => .complex k m n
 | .string s => .string s
 | .ptrNil => .ptrNil
 | .ptr k h => .ptr k (hle _ _ h)
 | .ptrRo b k s => .ptrRo b k s
 | .sliceRo b k s l c c' h hc => .sliceRo b k s l c c' h hc
 | .sliceNil => .sliceNil
 | .slice k l c c' h hc => .slice k l c c' (hle _ _ h) hc
 | .sliceE a a' c' => .sliceE a a' c'
 | .mapNil => .mapNil
 | .map h => .map (hle _ _ h)
 | .chanNil => .chanNil
 | .func hf ha hc => .func (hf.mono hle) (VsRel.mono hle ha) (VsRel.mono hle hc)
 | .nilFunc => .nilFunc
 | .iface t h => .iface t (VRel.mono hle h)
 | .nilIface => .nilIface
 | .agg h => .agg (VsRel.mono hle h)
 | .tuple h => .tuple (VsRel.mono hle h)
theorem VsRel.mono {γ γ' : Gam} (hle : γ.le γ') {l l' : List Value} : VsRel γ l l' → VsRel γ' l l'
 | .nil => .nil
 | .cons h hl => .cons (VRel.mono hle h) (VsRel.mono hle hl)
end

/- Values without a place in memory. -/
mutual
def gnd : Value → Bool
 | .bool _ | .int _ _ | .float _ _ | .complex _ _ _ | .string _ | .pointer none | .slice none 0 0 | .map none | .chan none | .nilFunc | .nilIface => true
 | .iface _ v => gnd v
 | .agg ⟨l⟩ => gnds l
 | .tuple ⟨l⟩ => gnds l
 | .func (.func _) ⟨a⟩ ⟨c⟩ => gnds a && gnds c
 | _ => false
def gnds : List Value → Bool
 | [] => true
 | v :: l => gnd v && gnds l
end

mutual
theorem VRel.of_gnd (γ : Gam) : (v : Value) → gnd v = true → VRel γ v v
 | .bool b, _ => .bool b
 | .int k n, _ => .int k n
 | .float k n, _ => .float k n
 | .complex k m n, _ => .complex k m n
 | .string s, _ => .string s
 | .pointer none, _ => .ptrNil
 | .pointer (some _), h => by simp [gnd] at h
 | .slice none 0 0, _ => .sliceNil
 | .slice none (_ + 1) _, h => by simp [gnd] at h
 | .slice none 0 (_ + 1), h => by simp [gnd] at h
 | .slice (some _) _ _, h => by simp [gnd] at h
 | .map none, _ => .mapNil
 | .map (some _), h => by simp [gnd] at h
 | .chan none, _ => .chanNil
 | .chan (some _), h => by simp [gnd] at h
 | .func (.func f) ⟨a⟩ ⟨c⟩, h => by
  simp only [gnd, Bool.and_eq_true] at h
  exact .func (.func f) (VsRel.of_gnds γ a h.1) (VsRel.of_gnds γ c h.2)
 | .func (.method _) _ _, h => by simp [gnd] at h
 | .func (.methodOf _ _) _ _, h => by simp [gnd] at h
 | .func (.via _ _ _ _) _ _, h => by simp [gnd] at h
 | .func (.yield _) _ _, h => by simp [gnd] at h
 | .nilFunc, _ => .nilFunc
 | .iface t v, h => .iface t (VRel.of_gnd γ v (by simpa [gnd] using h))
 | .nilIface, _ => .nilIface
 | .agg ⟨l⟩, h => .agg (VsRel.of_gnds γ l (by simpa [gnd] using h))
 | .tuple ⟨l⟩, h => .tuple (VsRel.of_gnds γ l (by simpa [gnd] using h))
theorem VsRel.of_gnds (γ : Gam) : (l : List Value) → gnds l = true → VsRel γ l l
 | [], _ => .nil
 | v :: l, h => by
  simp only [gnds, Bool.and_eq_true] at h
  exact .cons (VRel.of_gnd γ v h.1) (VsRel.of_gnds γ l h.2)
end

mutual
theorem VRel.eq_of_gnd {γ : Gam} {v v' : Value} : VRel γ v v' → gnd v = true → v' = v
 | .bool b, _ => rfl
 | .int k n, _ => rfl
 | .float k n, _ => rfl
 | .complex k m n, _ => rfl
 | .string s, _ => rfl
 | .ptrNil, _ => rfl
 | .ptr k h, hg => by simp [gnd] at hg
 | .ptrRo b k s, hg => by simp [gnd] at hg
 | .sliceRo b k s l c c' h hc, hg => by simp [gnd] at hg
 | .sliceNil, _ => rfl
 | .slice k l c c' h hc, hg => by simp [gnd] at hg
 | .sliceE a a' c', hg => by simp [gnd] at hg
 | .mapNil, _ => rfl
 | .map h, hg => by simp [gnd] at hg
 | .chanNil, _ => rfl
 | .func (a := ⟨a⟩) (a' := ⟨a'⟩) (c := ⟨c⟩) (c' := ⟨c'⟩) hf ha hc, hg => by
  cases hf with
  | func f =>
   simp only [gnd, Bool.and_eq_true] at hg
   have h1 := VsRel.eq_of_gnds ha hg.1
   have h2 := VsRel.eq_of_gnds hc hg.2
   simp only at h1 h2
   rw [h1, h2]
  | method s => simp [gnd] at hg
  | methodOf t s => simp [gnd] at hg
  | via t p f b => simp [gnd] at hg
  | yield h => simp [gnd] at hg
 | .nilFunc, _ => rfl
 | .iface t h, hg => by rw [VRel.eq_of_gnd h (by simpa [gnd] using hg)]
 | .nilIface, _ => rfl
 | .agg (c := ⟨c⟩) (c' := ⟨c'⟩) h, hg => by
  have h1 := VsRel.eq_of_gnds h (by simpa [gnd] using hg)
  simp only at h1
  rw [h1]
 | .tuple (c := ⟨c⟩) (c' := ⟨c'⟩) h, hg => by
  have h1 := VsRel.eq_of_gnds h (by simpa [gnd] using hg)
  simp only at h1
  rw [h1]
theorem VsRel.eq_of_gnds {γ : Gam} {l l' : List Value} : VsRel γ l l' → gnds l = true → l' = l
 | .nil, _ => rfl
 | .cons h hl, hg => by
  simp only [gnds, Bool.and_eq_true] at hg
  rw [VRel.eq_of_gnd h hg.1, VsRel.eq_of_gnds hl hg.2]
end

theorem VsRel.length {γ : Gam} : {l l' : List Value} → VsRel γ l l' → l'.length = l.length
 | _, _, .nil => rfl
 | _, _, .cons _ hl => by simp [VsRel.length hl]

theorem VsRel.append {γ : Gam} : {l l' m m' : List Value} → VsRel γ l l' → VsRel γ m m' → VsRel γ (l ++ m) (l' ++ m')
 | _, _, _, _, .nil, h => h
 | _, _, _, _, .cons h hl, k => .cons h (VsRel.append hl k)

theorem VsRel.get {γ : Gam} : {l l' : List Value} → VsRel γ l l' → ∀ {i : Nat} {v : Value}, l[i]? = some v → ∃ v', l'[i]? = some v' ∧ VRel γ v v'
 | _, _, .nil, i, v, h => by simp at h
 | _, _, .cons h hl, 0, v, e => by simp at e; subst e; exact ⟨_, rfl, h⟩
 | _, _, .cons h hl, i + 1, v, e => by simpa using hl.get (by simpa using e)

theorem VsRel.of_map {γ : Gam} {α : Type} {f g : α → Value} : (l : List α) → (∀ x ∈ l, VRel γ (f x) (g x)) → VsRel γ (l.map f) (l.map g)
 | [], _ => .nil
 | x :: l, h => .cons (h x (by simp)) (VsRel.of_map l fun y hy => h y (by simp [hy]))

theorem VRel.ptrA {γ : Gam} {i : Nat} {g : GI} (h : γ i = some g) (k n : Nat) : VRel γ (.pointer (some ⟨i, k + n, none⟩)) (.pointer (some ⟨g.blk, g.off + k + n, none⟩)) := by
 rw [Nat.add_assoc]
 exact .ptr _ h

theorem VRel.sliceA {γ : Gam} {i : Nat} {g : GI} (h : γ i = some g) (k n l c c' : Nat) (hc : (c' = c ∧ c ≠ unk) ∨ (c = unk ∧ l ≤ c' ∧ g.off + k + n + c' * g.sz ≤ g.n)) :
  VRel γ (.slice (some ⟨i, k + n, none⟩) l c) (.slice (some ⟨g.blk, g.off + k + n, none⟩) l c') := by
 rw [Nat.add_assoc]
 exact .slice _ _ _ _ h (by rw [Nat.add_assoc g.off k n] at hc; exact hc)

end Go.Ev
