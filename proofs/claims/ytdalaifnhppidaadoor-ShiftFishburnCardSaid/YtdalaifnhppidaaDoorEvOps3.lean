/- Slices that are made: literals, make, append, copy; len. -/
import Derived.Test.YtdalaifnhppidaaDoorEvOps2
import Derived.IntWalk
namespace Go.Ev
open Go

def fillL (place : Nat → Option (Nat × Nat)) (cs : List Value) : List (Nat × Value) → Option (List Value)
 | [] => some cs
 | (i, v) :: rest => match place i with
  | some (off, size) => match Nat.beq (vcells v).length size with
   | true => match Nat.ble (Nat.add off size) cs.length with
    | true => match setAt cs off (vcells v) with
     | some cs' => fillL place cs' rest
     | none => none
    | false => none
   | false => none
  | none => none

theorem foldl_zip (vs : List Value) : ∀ (n off : Nat) (cs : Array Value), off + n + vs.length ≤ cs.size →
  (((vs.zipIdx n).foldl (fun (cs : Array Value) (x : Value × Nat) => cs.setIfInBounds (off + x.2) x.1) cs).size = cs.size ∧
  ∀ j, ((vs.zipIdx n).foldl (fun (cs : Array Value) (x : Value × Nat) => cs.setIfInBounds (off + x.2) x.1) cs)[j]? = if off + n ≤ j ∧ j < off + n + vs.length then vs[j - (off + n)]? else cs[j]?) := by
 induction vs with
 | nil => intro n off cs _; refine ⟨rfl, fun j => ?_⟩; rw [if_neg (fun hh => by have := hh.2; simp at this; omega)]; rfl
 | cons v vs ih =>
  intro n off cs h
  simp only [List.length_cons] at h
  simp only [List.zipIdx_cons, List.foldl_cons]
  obtain ⟨h1, h2⟩ := ih (n + 1) off (cs.setIfInBounds (off + n) v) (by simp; omega)
  refine ⟨by rw [h1]; simp, fun j => ?_⟩
  rw [h2 j]
  by_cases hj : off + n ≤ j ∧ j < off + n + (vs.length + 1)
  ·rw [if_pos (show off + n ≤ j ∧ j < off + n + (v :: vs).length by simpa using hj)]
   by_cases h0 : j = off + n
   ·subst h0
    rw [if_neg (by omega), Array.getElem?_setIfInBounds]
    simp
    omega
   ·rw [if_pos (by omega), show j - (off + n) = (j - (off + (n + 1))) + 1 by omega]
    simp
  ·rw [if_neg (by omega), if_neg (show ¬ (off + n ≤ j ∧ j < off + n + (v :: vs).length) by simpa using hj), Array.getElem?_setIfInBounds_ne (by omega)]

inductive PRel (γ : Gam) : List (Nat × Value) → List (Nat × Value) → Prop
 | nil : PRel γ [] []
 | cons (i : Nat) {v v' : Value} {l l' : List (Nat × Value)} (h : VRel γ v v') (hl : PRel γ l l') : PRel γ ((i, v) :: l) ((i, v') :: l')

theorem fill_rel {γ : Gam} (place : Nat → Option (Nat × Nat)) {ps ps' : List (Nat × Value)} (hp : PRel γ ps ps') : ∀ {cs r : List Value} {cs' : Array Value}, VsRel γ cs cs'.toList → fillL place cs ps = some r →
  ∃ r', Instr.fill place cs' ps' = some r' ∧ VsRel γ r r'.toList := by
 induction hp with
 | nil => intro cs r cs' hc h; simp only [fillL, Option.some.injEq] at h; subst h; exact ⟨cs', rfl, hc⟩
 | cons i h hl ih =>
  rename_i v v' l l'
  intro cs r cs' hc hf
  simp only [fillL] at hf
  split at hf
  ·rename_i off size hpl
   split at hf
   ·rename_i hsz
    split at hf
    ·rename_i hle
     split at hf
     ·rename_i c2 hset
      have hsz' : v'.cells.size = size := by rw [vcells_len h, Nat.eq_of_beq_eq_true hsz]
      have hcl := hc.length
      have hle' : off + size ≤ cs'.size := by have := ble_le hle; simp at hcl; rw [hcl]; exact this
      obtain ⟨s1, _, s3⟩ := setAt_spec _ _ _ _ hset
      have hz := Nat.eq_of_beq_eq_true hsz
      obtain ⟨f1, f2⟩ := foldl_zip v'.cells.toList 0 off cs' (by simp [hsz']; omega)
      have hrel : VsRel γ c2 ((v'.cells.zipIdx.foldl (fun cs (x : Value × Nat) => cs.setIfInBounds (off + x.2) x.1) cs').toList) := by
       have e0 : v'.cells.zipIdx.foldl (fun cs (x : Value × Nat) => cs.setIfInBounds (off + x.2) x.1) cs' = (v'.cells.toList.zipIdx 0).foldl (fun (cs : Array Value) (x : Value × Nat) => cs.setIfInBounds (off + x.2) x.1) cs' := by
        rw [← Array.foldl_toList]
        simp
       rw [e0]
       refine VsRel.of_get (by rw [s1]; simp only [Array.length_toList, f1]; simpa using hcl.symm) fun j u hu => ?_
       rw [s3 j] at hu
       rw [Array.getElem?_toList, f2 j]
       simp only [Nat.add_zero, Array.length_toList, hsz']
       rw [← hz]
       by_cases hj : off ≤ j ∧ j < off + (vcells v).length
       ·rw [if_pos hj] at hu ⊢
        exact (vcells_rel h).get hu
       ·rw [if_neg hj] at hu ⊢
        simpa using hc.get hu
      obtain ⟨r', hr', hr⟩ := ih hrel hf
      refine ⟨r', ?_, hr⟩
      simp only [Instr.fill, hpl, hsz']
      rw [if_neg (by simp; omega)]
      exact hr'
     ·cases hf
    ·cases hf
   ·cases hf
  ·cases hf

def zerosL (n : Nat) (zl : List Value) : List Value :=
 match zl with
 | [z] => List.replicate n z
 | _ => (List.range n).map fun j => match zl[Nat.mod j zl.length]? with | some z => z | none => (default : Value)

theorem gnds_get {l : List Value} (h : gnds l = true) : ∀ {j : Nat} {v : Value}, l[j]? = some v → gnd v = true := by
 induction l with
 | nil => intro j v hj; simp at hj
 | cons x l ih =>
  simp only [gnds, Bool.and_eq_true] at h
  intro j v hj
  cases j with
  | zero => simp at hj; subst hj; exact h.1
  | succ j => exact ih h.2 (by simpa using hj)

theorem zeros_rel (γ : Gam) (n : Nat) (z : Value) (hz : gnds (vcells z) = true) (hcz : z.cells.toList = vcells z) :
  VsRel γ (zerosL n (vcells z)) ((Array.range n).map (z.cells[· % z.cells.size]!)).toList := by
 have hsz : z.cells.size = (vcells z).length := by rw [← hcz]; simp
 have hgen : ∀ j, z.cells[j % z.cells.size]! = (match (vcells z)[Nat.mod j (vcells z).length]? with | some z => z | none => (default : Value)) := fun j => by
  rw [← hcz, Array.length_toList, Array.getElem?_toList]
  show z.cells[j % z.cells.size]! = match z.cells[j % z.cells.size]? with | some z => z | none => (default : Value)
  rw [Array.getElem!_eq_getD, Array.getD_eq_getD_getElem?]
  cases z.cells[j % z.cells.size]? <;> rfl
 refine VsRel.of_get ?_ fun j v hj => ?_
 ·unfold zerosL; split <;> simp
 ·have hjn : j < n := by
   have := (List.getElem?_eq_some_iff.1 hj).1
   unfold zerosL at this
   split at this <;> simpa using this
  refine ⟨z.cells[j % z.cells.size]!, by simp [hjn], ?_⟩
  rw [hgen j]
  unfold zerosL at hj
  split at hj
  ·rename_i z0 h0
   simp only [List.getElem?_replicate, hjn, if_true, Option.some.injEq] at hj
   subst hj
   rw [h0]
   have : Nat.mod j 1 = 0 := Nat.mod_one j
   simp only [List.length_singleton, this]
   exact VRel.of_gnd γ _ (gnds_get hz (j := 0) (by simp [h0]))
  ·simp only [List.getElem?_map, List.getElem?_range hjn, Option.map_some, Option.some.injEq] at hj
   cases hv : (vcells z)[Nat.mod j (vcells z).length]? with
   | some u =>
    rw [hv] at hj
    simp only at hj ⊢
    subst hj
    exact VRel.of_gnd γ _ (gnds_get hz hv)
   | none =>
    rw [hv] at hj
    simp only at hj ⊢
    subst hj
    exact VRel.of_gnd γ _ rfl


def doBuildSlice (C : Cfg) (t len : Nat) (parts : List (Nat × Value)) (A : AW) : OR :=
 match C.under t with
 | some (.slice e) => match C.tys.get e with
  | some inf => match inf.zero with
   | some z => match gnds (vcells z), Nat.ble (Nat.mul len inf.size) 16777216, Nat.beq (Nat.mul len inf.size) 0 with
    | true, true, false => match fillL (fun i => some (Nat.mul i inf.size, inf.size)) (zerosL (Nat.mul len inf.size) (vcells z)) parts with
     | some cs => .val (.slice (some ⟨A.next, 0, none⟩) len len) (A.new (.cells cs e A.next inf.size))
     | none => .fail 50
    | true, true, true => match parts with
     | [] => match Nat.beq len 0 with
      | true => .val (.slice (some ⟨A.next, 0, none⟩) 0 0) (A.new (.cells [] e A.next inf.size))
      | false => .fail 50
     | _ => .fail 50
    | _, _, _ => .fail 51
   | none => .fail 52
  | none => .fail 53
 | _ => .fail 54

theorem cells_toList (z : Value) : z.cells.toList = vcells z := by
 cases z <;> try rfl

theorem doBuildSlice_ok {C : Cfg} (hC : C.Ok) {γ : Gam} {A : AW} {W : World} (hw : WRel γ A W) (t len : Nat) {ps : List (Nat × Value)} {ps' : Array (Nat × Value)} (hp : PRel γ ps ps'.toList) :
  VOk C.P γ W (doBuildSlice C t len ps A) (Instr.buildSlice t len ps') := by
 unfold doBuildSlice
 split
 ·rename_i e he
  split
  ·rename_i inf hinf
   split
   ·rename_i z hz
    split
    ·rename_i h1 h2 h3
     split
     ·rename_i cs hcs
      have hz0 : len * inf.size ≠ 0 := Nat.ne_of_beq_eq_false h3
      have hle : ¬ (len * inf.size > 2 ^ 24) := by have := ble_le h2; simp only [show Nat.mul len inf.size = len * inf.size from rfl] at this; omega
      obtain ⟨r', hr', hrel⟩ := fill_rel _ hp (zeros_rel γ (len * inf.size) z h1 (cells_toList z)) hcs
      obtain ⟨g1, g2⟩ := hw.alloc_cells cs r' e inf.size hrel
      refine ⟨.slice (some ⟨W.heap.size, 0, none⟩) len len, _, _, ?_, .slice (g := (gi W.heap.size (r'.size) inf.size)) 0 len len len (Gam.set_same _ _ _) (.inl ⟨rfl, ?_⟩), g1, g2⟩
      ·have hr'' : Instr.fill (fun i => some (i * inf.size, inf.size)) ((Array.range (len * inf.size)).map (z.cells[· % z.cells.size]!)) ps'.toList = some r' := hr'
       simp [Instr.buildSlice, run_underlying (hC.under he), run_sizeOf' (hC.ty _ _ hinf), hle, hz0, run_zeroValue' (hC.ty _ _ hinf) hz, hr'', newRow]
      ·intro hu
       have h5 : inf.size ≠ 0 := fun e0 => hz0 (by rw [e0]; simp)
       have : len * 1 ≤ len * inf.size := Nat.mul_le_mul_left _ (by omega)
       have h6 := ble_le h2
       simp only [show Nat.mul len inf.size = len * inf.size from rfl] at h6
       unfold unk at hu
       omega
     ·trivial
    ·rename_i h1 h2 h3
     split
     ·split
      ·rename_i hl0
       have hlen : len = 0 := Nat.eq_of_beq_eq_true hl0
       subst hlen
       have hp0 : ∀ l : List (Nat × Value), PRel γ [] l → l = [] := fun l hl => by cases hl; rfl
       have hp1 := hp0 _ hp
       obtain ⟨g1, g2⟩ := hw.alloc_cells [] #[] e inf.size .nil
       refine ⟨.slice (some ⟨W.heap.size, 0, none⟩) 0 0, _, _, ?_, .slice (g := (gi W.heap.size 0 inf.size)) 0 0 0 0 (Gam.set_same _ _ _) (.inl ⟨rfl, by unfold unk; omega⟩), g1, g2⟩
       simp [Instr.buildSlice, run_underlying (hC.under he), run_sizeOf' (hC.ty _ _ hinf), hp1, newRow]
       have hf' : ∀ z : Array Value, Instr.fill (fun i => some (i * inf.size, inf.size)) z [] = some z := fun z => by simp [Instr.fill]
       rw [hf']
       simp [Array.range]
      ·trivial
     ·trivial
    ·trivial
   ·trivial
  ·trivial
 ·trivial

def doMakeSlice (C : Cfg) (t : Nat) (l c : Value) (A : AW) : OR :=
 match l, c with
 | .int _ (.ofNat l), .int _ (.ofNat c) => match C.under t with
  | some (.slice e) => match C.tys.get e with
   | some inf => match inf.zero with
    | some z => match gnds (vcells z), Nat.ble l c, Nat.ble c 1000000, Nat.ble inf.bytes 1000000, Nat.beq (Nat.mul c inf.size) 0 with
     | true, true, true, true, false => .val (.slice (some ⟨A.next, 0, none⟩) l c) (A.new (.cells (zerosL (Nat.mul c inf.size) (vcells z)) e A.next inf.size))
     | true, true, true, true, true => .val (.slice (some ⟨A.next, 0, none⟩) l c) (A.new (.cells [] e A.next inf.size))
     | _, _, _, _, _ => .fail 55
    | none => .fail 56
   | none => .fail 57
  | _ => .fail 58
 | _, _ => .fail 59

theorem wrap_small {n : Nat} (h : n ≤ 1000000) : IntKind.i64.wrap (n : Int) = (n : Int) := IntWalk.i64_in _ (by omega)

theorem doMakeSlice_ok {C : Cfg} (hC : C.Ok) {γ : Gam} {A : AW} {W : World} (hw : WRel γ A W) (t : Nat) {l l' c c' : Value} (hl : VRel γ l l') (hc : VRel γ c c') :
  VOk C.P γ W (doMakeSlice C t l c A) (Instr.makeSlice t l' c') := by
 unfold doMakeSlice
 split
 ·rename_i k1 l k2 c
  cases hl
  cases hc
  split
  ·rename_i e he
   split
   ·rename_i inf hinf
    split
    ·rename_i z hz
     have main : ∀ (cs : List Value), gnds (vcells z) = true → Nat.ble l c = true → Nat.ble c 1000000 = true → Nat.ble inf.bytes 1000000 = true →
       VsRel γ cs ((Array.range (c * inf.size)).map (z.cells[· % z.cells.size]!)).toList ∨ (c * inf.size = 0 ∧ cs = []) →
       VOk C.P γ W (.val (.slice (some ⟨A.next, 0, none⟩) l c) (A.new (.cells cs e A.next inf.size))) (Instr.makeSlice t (.int k1 (.ofNat l)) (.int k2 (.ofNat c))) := fun cs h1 h2 h3 h4 hr => by
      have h2' := ble_le h2
      have h3' := ble_le h3
      have h4' := ble_le h4
      have wl : IntKind.i64.wrap (l : Int) = (l : Int) := wrap_small (by omega)
      have wc : IntKind.i64.wrap (c : Int) = (c : Int) := wrap_small h3'
      have n1 : ¬ ((c : Int) < 0) := by omega
      have n2 : ¬ ((l : Int) < 0) := by omega
      have n3 : ¬ ((c : Int) < (l : Int)) := by omega
      have n4 : ¬ (281474976710656 < (inf.bytes : Int) * (c : Int)) := by
       have : inf.bytes * c ≤ 1000000 * 1000000 := Nat.mul_le_mul h4' h3'
       have : ((inf.bytes * c : Nat) : Int) ≤ 1000000000000 := by omega
       rw [Int.natCast_mul] at this
       omega
      have hcu : c ≠ unk := by unfold unk; omega
      by_cases h0 : c * inf.size = 0
      ·have hcs : cs = [] := by
        rcases hr with hr | hr
        ·have := hr.length
         rw [h0] at this
         simp at this
         exact List.eq_nil_of_length_eq_zero this.symm
        ·exact hr.2
       subst hcs
       obtain ⟨g1, g2⟩ := hw.alloc_cells [] #[] e inf.size .nil
       refine ⟨.slice (some ⟨W.heap.size, 0, none⟩) l c, _, _, ?_, .slice (g := (gi W.heap.size 0 inf.size)) 0 l c c (Gam.set_same _ _ _) (.inl ⟨rfl, hcu⟩), g1, g2⟩
       simp [Instr.makeSlice, asInt, asIntOf, run_underlying (hC.under he), run_typeInfo' (hC.ty _ _ hinf), run_sizeOf' (hC.ty _ _ hinf), wl, wc, n1, n2, n3, n4, h0, newRow]
       exact congrArg (fun x => W.alloc (.cells x e)) (Array.eq_empty_of_size_eq_zero (by simp))
      ·have hr' := hr.resolve_right (fun hh => h0 hh.1)
       obtain ⟨g1, g2⟩ := hw.alloc_cells cs _ e inf.size hr'
       refine ⟨.slice (some ⟨W.heap.size, 0, none⟩) l c, _, _, ?_, .slice (g := (gi W.heap.size _ inf.size)) 0 l c c (Gam.set_same _ _ _) (.inl ⟨rfl, hcu⟩), g1, g2⟩
       simp [Instr.makeSlice, asInt, asIntOf, run_underlying (hC.under he), run_typeInfo' (hC.ty _ _ hinf), run_sizeOf' (hC.ty _ _ hinf), run_zeroValue' (hC.ty _ _ hinf) hz, wl, wc, n1, n2, n3, n4, h0, newRow]
     split
     ·rename_i h1 h2 h3 h4 h5
      exact main _ h1 h2 h3 h4 (.inl (zeros_rel γ _ z h1 (cells_toList z)))
     ·rename_i h1 h2 h3 h4 h5
      exact main _ h1 h2 h3 h4 (.inr ⟨Nat.eq_of_beq_eq_true h5, rfl⟩)
     ·trivial
    ·trivial
   ·trivial
  ·trivial
 ·trivial

/-! ### append, copy -/

def srcCells (C : Cfg) (A : AW) (size n : Nat) : Value → Option (List Value)
 | .slice (some ⟨b, k, some _⟩) _ c => match Nat.beq c unkE with
  | true => none
  | false => takeF (C.ro b) k (Nat.mul n size)
 | .slice (some ⟨i, k, none⟩) _ c => match Nat.beq c unkE with
  | true => match Nat.beq (Nat.mul n size) 0 with
   | true => some []
   | false => none
  | false => A.load i k (Nat.mul n size)
 | .slice none _ _ => match Nat.beq (Nat.mul n size) 0 with
  | true => some []
  | false => none
 | .string s => some ((s.extract 0 n).data.toList.map fun b => .int .u8 b.toNat)
 | _ => none

theorem src_rel {P : Program} {C : Cfg} {γ : Gam} {A : AW} {W : World} (hw : WRel γ A W) (hro : Ro C.ro γ W) {size n : Nat} {x x' : Value} (hx : VRel γ x x') {r : List Value} (h : srcCells C A size n x = some r) :
  ∃ r' : List Value, (Builtin.firstCells size n x').run P W = .ok r'.toArray W ∧ VsRel γ r r' := by
 cases hx <;> simp only [srcCells] at h
 case sliceNil =>
  split at h
  ·cases h; exact ⟨[], by simp [Builtin.firstCells], .nil⟩
  ·cases h
 case slice i g k l c c' hg hc =>
  split at h
  ·split at h
   ·rename_i h0
    cases h
    have h0' : n * size = 0 := Nat.eq_of_beq_eq_true h0
    exact ⟨[], by simp [Builtin.firstCells, h0', loadCells, loadCellsFrom], .nil⟩
   ·cases h
  ·obtain ⟨g', r', hg', hr, hrel⟩ := load_rel (P := P) hw h
   rw [hg] at hg'
   cases hg'
   exact ⟨r', by simpa [Builtin.firstCells] using hr, hrel⟩
 case sliceRo b k s l c c' hu hc =>
  split at h
  ·cases h
  ·obtain ⟨r', hr, hrel⟩ := ro_rel (P := P) hro h
   exact ⟨r', by simpa [Builtin.firstCells] using hr, hrel⟩
 case sliceE a a' c' =>
  obtain ⟨i, k, s⟩ := a
  cases s <;> simp only at h
  ·split at h
   ·split at h
    ·rename_i h0
     cases h
     have h0' : n * size = 0 := Nat.eq_of_beq_eq_true h0
     exact ⟨[], by simp [Builtin.firstCells, h0', loadCells, loadCellsFrom], .nil⟩
    ·cases h
   ·rename_i hb
    simp at hb
  ·cases h
 case string s =>
  cases h
  refine ⟨_, ?_, VsRel.of_map _ fun b _ => .int _ _⟩
  simp only [Builtin.firstCells, Sem.run_pure]
  congr 1
  apply Array.ext'
  simp
 all_goals cases h

def lenOfV : Value → Option Nat
 | .slice _ n _ => some n
 | .string s => some s.size
 | _ => none

theorem lenOf_rel {P : Program} {γ : Gam} {x x' : Value} (hx : VRel γ x x') {n : Nat} (h : lenOfV x = some n) (W : World) : (Builtin.lenOf x').run P W = .ok n W := by
 cases hx <;> simp_all [lenOfV, Builtin.lenOf]

def isSrc : TypeDesc → Bool
 | .slice _ => true
 | .string => true
 | _ => false

theorem isSrc_cases {d : TypeDesc} (h : isSrc d = true) : (∃ e, d = .slice e) ∨ d = .string := by
 cases d <;> simp_all [isSrc]

end Go.Ev
