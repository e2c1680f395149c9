/- What the claim is proved with, part 3: the evaluator and the contracts of the calls. -/
import Derived.Test.YtfikcdiijalniaaGreatDoorEvOwn
import Derived.Test.YtfikcdiijalniaaGreatDoorPack1
import Derived.Shelf.SlSortCmp.Whole1
import Derived.Test.YtfikcdiijalniaaGreatDoorSymBase
import Derived.Shelf.Lay
import Derived.Test.YtfikcdiijalniaaGreatDoorPack2
import Derived.Test.YtfikcdiijalniaaGreatDoorEvRd
/- slices.SortFunc, by the library's contract, where the comparing function's answers are known by a run: the caller's own row, of one cell each, is sorted in place. -/
namespace Go.Proofs
open Go Go.Ev Go.Shelf Go.RowKit Go.Lib Go.Sort
set_option linter.unusedVariables false
set_option linter.unusedSimpArgs false

theorem mapBlock_setB {W : World} {b : Nat} {cc : Array Value} {e : TypeId} {fr : Nat × Nat} (hb : W.heap[b]? = some (.cells cc e fr)) (f : Array Value → Array Value) : mapBlock W b f = setB W b (.cells (f cc) e fr) := by
 unfold mapBlock setB
 congr 1
 apply Array.ext_getElem?
 intro k
 simp only [Array.getElem?_modify, Array.getElem?_setIfInBounds]
 by_cases hk : b = k
 ·subst hk
  have hlt : b < W.heap.size := by
   rcases Nat.lt_or_ge b W.heap.size with h | h
   ·exact h
   ·rw [Array.getElem?_eq_none h] at hb; cases hb
  rw [if_pos rfl, if_pos rfl, if_pos hlt, hb]
  rfl
 ·rw [if_neg hk, if_neg hk]

theorem WRel.ahead {γ : Gam} {A : AW} {W : World} (h : WRel γ A W) (n : Nat) : WRel γ A (Sort.ahead W n) :=
 ⟨fun i o hi => let ⟨g, hg, hr⟩ := h.obj i o hi; ⟨g, hg, hr.mono γ.le_refl rfl⟩, h.lt, h.fresh, h.sep, h.mem, h.famlt, h.famfresh⟩
theorem Ext.ahead (γ : Gam) (W : World) (n : Nat) : Ext γ W γ (Sort.ahead W n) := ⟨γ.le_refl, fun _ _ h => .inl h, Nat.le_refl _, fun _ _ _ => rfl, rfl, rfl, rfl, Nat.le_add_right _ _⟩
theorem below_grow (W : World) (os : Array Obj) : BelowD W.heap.size W (Sort.grow W os) := by
 refine ⟨⟨rfl, rfl, rfl, by simp [Sort.grow], fun k hk => ?_⟩, Nat.le_refl _⟩
 show (W.heap ++ os)[k]? = _
 rw [Array.getElem?_append_left hk]

theorem _root_.Go.Ev.GrT.callsD {P : Program} {r : Mem} {f : Nat} {args : List Value} {v : Value} (h : GrT P r f args v) {W : World} {args' : Array Value} (hR : Ro r noG W) (ha : VsRel noG args args'.toList) :
  Calls P f args' W fun e W' => e = .returned v ∧ BelowD W.heap.size W W' :=
 callsIn_wide.1 (h.2 Fence.wide ⟨fun _ => trivial, rfl, rfl⟩ 0 W args' hR ha)

theorem _root_.Go.Ev.BelowD.grow {W W' : World} (h : BelowD W.heap.size W W') : ∃ q os', W' = Sort.grow (W.drewN q) os' := by
 refine ⟨W'.drawn - W.drawn, W'.heap.extract W.heap.size W'.heap.size, ?_⟩
 obtain ⟨⟨h1, h2, h3, h4, h5⟩, h6⟩ := h
 obtain ⟨heap, tape, drawn, os, output⟩ := W'
 obtain ⟨heap0, tape0, drawn0, os0, output0⟩ := W
 simp only at h1 h2 h3 h4 h5 h6
 subst h1 h2 h3
 simp only [Sort.grow, World.drewN, World.mk.injEq, true_and, and_true]
 refine ⟨?_, by omega⟩
 apply Array.ext_getElem?
 intro k
 by_cases hk : k < heap0.size
 ·rw [Array.getElem?_append_left hk, h5 k hk]
 ·rw [Array.getElem?_append_right (by omega), Array.getElem?_extract]
  by_cases hk2 : k < heap.size
  ·rw [if_pos (by omega)]
   congr 1
   omega
  ·rw [if_neg (by omega), Array.getElem?_eq_none (by omega)]

theorem cells_enc {α : Type} {enc : α → Value} (hg : ∀ x, gnd (enc x) = true) {γ : Gam} {o : Nat} {zs : List α} {cc : Array Value} (h : CellsRel γ o (zs.map enc) cc) (j : Nat) (hj : j < zs.length) : cc[o + j]? = some (enc zs[j]) := by
 obtain ⟨v', h1, h2⟩ := h j (enc zs[j]) (by simp [hj])
 rw [h1, h2.eq_of_gnd (hg _)]

theorem sortWorld_heap {α : Type} [Inhabited α] {enc : α → Value} {W : World} {blk off m : Nat} {dk : Array α} {os : Array Obj} {k : Nat} (hk : k < W.heap.size) (hne : k ≠ blk) : (sortWorld enc W blk off m dk os).heap[k]? = W.heap[k]? := by
 unfold sortWorld Sort.grow putRow mapBlock
 show ((Sort.ahead W m).heap.modify blk _ ++ os)[k]? = _
 rw [Array.getElem?_append_left (by simpa [Sort.ahead] using hk), Array.getElem?_modify, if_neg (fun e => hne e.symm)]
 rfl

theorem sort_genC {P : Program} {ρ : Shelf.Ren} (L : SlLaysF.n6 P ρ) {α : Type} [Inhabited α] (enc : α → Value) (h1 : OneCell enc) (hgnd : ∀ x, gnd (enc x) = true) (g0 : Nat) (capt : List Value) (cf : α → α → Int) (hO : SWO (ltOf cf))
  (eg : ∀ args w, (callFunc g0 args).run P w = .ok (.enter g0 args) w)
  {C : Cfg} (hP : C.P = P) {A0 : AW} {i cap : Nat} {e : TypeId} {fam z : Nat} {zs R : List α} (hi : A0.heap.get i = some (.cells (zs.map enc) e fam z)) (hsz : zs.length < 4611686018427387904) (hcap : cap ≠ unkE)
  (hcmp : ∀ γ W capt' g, WRel γ A0 W → Ro C.ro γ W → VsRel γ capt capt' → γ i = some g → CmpLays1 P g0 ⟨capt'⟩ enc cf g.blk g.off zs.length W)
  (hR : ∀ d : List α, d.Perm zs → d.Pairwise (fun x y => ltOf cf y x = false) → d = R) :
  ∀ F, Wide F → ∀ k γ W args', WRel γ A0 W → Ro C.ro γ W → VsRel γ [.slice (some ⟨i, 0, none⟩) zs.length cap, .func (.func g0) ⟨[]⟩ ⟨capt⟩] (Array.toList args') →
   CallsIn F k C.P (ρ.f 6) args' W (Go.Ev.Ends γ W (.tuple ⟨[]⟩) (A0.only fam i (.cells (R.map enc) e fam z))) := by
 intro F hF k γ W args' hw hro ha
 subst hP
 obtain ⟨g, hg, ho⟩ := hw.obj _ _ hi
 cases ho with
 | cells hb hf hn hz hc =>
 rename_i cc fr
 obtain ⟨l'⟩ := args'
 cases ha with
 | cons h1' h2 =>
 cases h2 with
 | cons h2 h3 =>
 cases h3
 cases h2 with
 | func q1 q2 q3 =>
 cases q1
 rename_i a1 a2
 obtain ⟨a1⟩ := a1
 obtain ⟨a2⟩ := a2
 cases q2
 generalize hm : zs.length = m at h1'
 cases h1' with
 | sliceE => exact absurd rfl hcap
 | slice _ _ _ c' hg' _ =>
 subst hm
 rw [hg] at hg'
 cases hg'
 have hlt := hw.lt _ _ hg
 have hcz := cells_enc hgnd hc
 have hH : Holds enc W g.blk g.off zs.toArray := fun j hj => by
  have hj' : j < zs.length := by simpa using hj
  have h0 := hcz j hj'
  have hjc : g.off + j < cc.size := by
   rcases Nat.lt_or_ge (g.off + j) cc.size with h | h
   ·exact h
   ·rw [Array.getElem?_eq_none h] at h0; cases h0
  refine ⟨?_, ?_⟩
  ·unfold World.cell?
   rw [hb]
   simp only [Option.isSome_none, Bool.false_eq_true, if_false, h0]
   rw [getElem!_pos _ j (by simpa using hj')]
   simp
  ·unfold World.frozen?
   rw [hb]
   have := hf (g.off + j) hjc
   simp only [Bool.and_eq_false_iff, decide_eq_false_iff_not]
   omega
 have hcr : CmpLays1 C.P g0 ⟨a2⟩ enc cf g.blk g.off zs.toArray.size W := by
  rw [show zs.toArray.size = zs.length by simp]
  exact hcmp γ W a2 g hw hro q3 hg
 have hcon := Any.slices_SortFunc L enc h1 cf hO g0 ⟨a2⟩ g.blk g.off c' zs.toArray W eg hcr hH hlt (by simpa using hsz)
 rw [show zs.toArray.size = zs.length by simp] at hcon
 refine (hF.calls hcon).mono fun e' W' he => ?_
 obtain ⟨rfl, d', n, os, hp, hs, rfl⟩ := he
 have hds : d'.size = zs.length := by simpa using hp.1
 have hd : d'.toList = R := by
  refine hR _ ?_ ?_
  ·have := hp.2.2
   rw [show d'.extract 0 zs.length = d' by rw [← hds]; simp] at this
   simpa using this
  ·rw [List.pairwise_iff_getElem]
   intro a b h1 h2 h3
   have := hs a b (Nat.zero_le _) h3 (by rw [← hds]; simpa using h2)
   rw [getElem!_pos _ b (by simpa using h2), getElem!_pos _ a (by simpa using h1)] at this
   simpa using this
 have hw1 := WRel.ahead hw n
 have hb1 : (Sort.ahead W n).heap[g.blk]? = some (.cells cc e fr) := hb
 have e1 : putRow enc (Sort.ahead W n) g.blk g.off d' = setB (Sort.ahead W n) g.blk (.cells (putCells enc g.off d' cc) e fr) := mapBlock_setB hb1 _
 have hps : (putCells enc g.off d' cc).size = cc.size := by simp [putCells]
 have hor : ORel γ (setB (Sort.ahead W n) g.blk (.cells (putCells enc g.off d' cc) e fr)) g (.cells (R.map enc) e fam z) := by
  refine .cells (setB_same _ hlt) (by rw [hps]; exact hf) (by rw [hps]; exact hn) hz fun k v hk => ?_
  rw [List.getElem?_map] at hk
  cases hr : R[k]? with
  | none => rw [hr] at hk; cases hk
  | some x =>
   rw [hr] at hk
   cases hk
   have hkR : k < R.length := by
    rcases Nat.lt_or_ge k R.length with h | h
    ·exact h
    ·rw [List.getElem?_eq_none h] at hr; cases hr
   have hkd : k < d'.size := by rw [← hd] at hkR; simpa using hkR
   have hkz : k < zs.length := by omega
   refine ⟨enc x, ?_, VRel.of_gnd _ _ (hgnd x)⟩
   have h0 := hcz k hkz
   simp only [putCells, Array.getElem?_mapIdx, h0, Option.map_some]
   rw [if_pos ⟨by omega, by omega⟩, show g.off + k - g.off = k by omega]
   rw [getElem!_pos _ k hkd]
   have : d'.toList[k]? = some x := by rw [hd]; exact hr
   rw [show d'[k] = x by simpa [hkd] using this]
 have hw2 := WRel.setRow hw1 hi hg hor
 have hx2 : Ext γ W γ (setB (Sort.ahead W n) g.blk (.cells (putCells enc g.off d' cc) e fr)) := (Ext.ahead γ W n).trans (Ext.setB _ hg)
 have hbl := below_grow (setB (Sort.ahead W n) g.blk (.cells (putCells enc g.off d' cc) e fr)) os
 obtain ⟨hw3, hx3⟩ := WRel.below hw2 hbl
 refine ⟨.tuple #[], γ, rfl, .tuple .nil, ?_, ?_⟩
 ·unfold sortWorld
  rw [e1]
  exact hw3
 ·unfold sortWorld
  rw [e1]
  exact hx2.trans hx3

theorem sort_gen {P : Program} {ρ : Shelf.Ren} (L : SlLaysF.n6 P ρ) {α : Type} [Inhabited α] (enc : α → Value) (h1 : OneCell enc) (hgnd : ∀ x, gnd (enc x) = true) (g0 : Nat) (cf : α → α → Int) (hO : SWO (ltOf cf))
  (eg : ∀ args w, (callFunc g0 args).run P w = .ok (.enter g0 args) w)
  (hcmp : ∀ x y, GrT P (fun _ _ => none) g0 [enc x, enc y] (.int .i64 (cf x y)))
  {C : Cfg} (hP : C.P = P) {A0 : AW} {i cap : Nat} {e : TypeId} {fam z : Nat} {zs R : List α} (hi : A0.heap.get i = some (.cells (zs.map enc) e fam z)) (hsz : zs.length < 4611686018427387904) (hcap : cap ≠ unkE)
  (hR : ∀ d : List α, d.Perm zs → d.Pairwise (fun x y => ltOf cf y x = false) → d = R) :
  ∀ F, Wide F → ∀ k γ W args', WRel γ A0 W → Ro C.ro γ W → VsRel γ [.slice (some ⟨i, 0, none⟩) zs.length cap, .func (.func g0) #[] #[]] (Array.toList args') →
   CallsIn F k C.P (ρ.f 6) args' W (Go.Ev.Ends γ W (.tuple ⟨[]⟩) (A0.only fam i (.cells (R.map enc) e fam z))) :=
 sort_genC L enc h1 hgnd g0 [] cf hO eg hP hi hsz hcap (fun γ W capt' g _ _ hc _ => by
  cases hc
  exact fun _ _ _ _ x y =>
  (GrT.callsD (hcmp x y) (args' := #[enc x, enc y] ++ #[]) Ro.nought (by simpa using VsRel.of_gnds noG [enc x, enc y] (by simp [gnds, hgnd]))).mono fun _ _ ⟨he, hb⟩ => ⟨he, hb.grow⟩) hR

end Go.Proofs

/- The sort of this program, laid: the numbers of the functions and types. -/
set_option linter.unusedVariables false
set_option linter.unusedSimpArgs false
namespace Go.Proofs
open Go Go.Shelf

noncomputable def nameI (n : Nat) : String := match Tryz.prog.funcs[n]? with
 | some f => f.name
 | none => ""
def Tryz.sortI_ren : Shelf.Ren where
 f := fun x => match x with
  | 6 => 51
  | 15 => 63
  | 14 => 65
  | 28 => 81
  | 29 => 82
  | 20 => 91
  | 21 => 92
  | 22 => 93
  | 23 => 94
  | 24 => 95
  | 25 => 96
  | 26 => 97
  | 27 => 98
  | 46 => 110
  | 47 => 103
  | 48 => 104
  | 49 => 111
  | 50 => 112
  | 57 => 117
  | n => n
 t := fun x => match x with
  | 22 => 22
  | 24 => 3
  | 25 => 62
  | 3 => 3
  | 39 => 64
  | 0 => 0
  | 53 => 111
  | 55 => 113
  | 4 => 4
  | 46 => 105
  | 45 => 104
  | 50 => 31
  | 5 => 5
  | 9 => 9
  | 66 => 124
  | 70 => 128
  | 76 => 136
  | 77 => 137
  | n => n
 g := fun x => x

theorem Tryz.sortI : SlLaysF.n6 Tryz.prog Tryz.sortI_ren where
 mixed := by kernel_rfl
 f6 := ⟨nameI 51, of_decide_eq_true (by kernel_rfl), Tryz.func51.trans (by kernel_rfl)⟩
 f14 := ⟨nameI 65, of_decide_eq_true (by kernel_rfl), Tryz.func65.trans (by kernel_rfl)⟩
 f15 := Tryz.func63.trans (by kernel_rfl)
 f20 := ⟨nameI 91, of_decide_eq_true (by kernel_rfl), Tryz.func91.trans (by kernel_rfl)⟩
 f21 := ⟨nameI 92, of_decide_eq_true (by kernel_rfl), Tryz.func92.trans (by kernel_rfl)⟩
 f22 := ⟨nameI 93, of_decide_eq_true (by kernel_rfl), Tryz.func93.trans (by kernel_rfl)⟩
 f23 := ⟨nameI 94, of_decide_eq_true (by kernel_rfl), Tryz.func94.trans (by kernel_rfl)⟩
 f24 := ⟨nameI 95, of_decide_eq_true (by kernel_rfl), Tryz.func95.trans (by kernel_rfl)⟩
 f25 := ⟨nameI 96, of_decide_eq_true (by kernel_rfl), Tryz.func96.trans (by kernel_rfl)⟩
 f26 := ⟨nameI 97, of_decide_eq_true (by kernel_rfl), Tryz.func97.trans (by kernel_rfl)⟩
 f27 := ⟨nameI 98, of_decide_eq_true (by kernel_rfl), Tryz.func98.trans (by kernel_rfl)⟩
 f28 := Tryz.func81.trans (by kernel_rfl)
 f29 := Tryz.func82.trans (by kernel_rfl)
 f46 := ⟨nameI 110, of_decide_eq_true (by kernel_rfl), Tryz.func110.trans (by kernel_rfl)⟩
 f47 := Tryz.func103.trans (by kernel_rfl)
 f48 := Tryz.func104.trans (by kernel_rfl)
 f49 := ⟨nameI 111, of_decide_eq_true (by kernel_rfl), Tryz.func111.trans (by kernel_rfl)⟩
 f50 := ⟨nameI 112, of_decide_eq_true (by kernel_rfl), Tryz.func112.trans (by kernel_rfl)⟩
 f57 := ⟨nameI 117, of_decide_eq_true (by kernel_rfl), Tryz.func117.trans (by kernel_rfl)⟩
 t0 := Tryz.underlying0
 a0 := Tryz.isAgg0
 z0 := Tryz.sizeOf0
 v0 := Tryz.zeroValue0
 t3 := Tryz.underlying3
 a3 := Tryz.isAgg3
 z3 := Tryz.sizeOf3
 v3 := Tryz.zeroValue3
 t4 := Tryz.underlying4
 a4 := Tryz.isAgg4
 z4 := Tryz.sizeOf4
 v4 := Tryz.zeroValue4
 t5 := Tryz.underlying5
 a5 := Tryz.isAgg5
 z5 := Tryz.sizeOf5
 v5 := Tryz.zeroValue5
 t9 := Tryz.underlying9
 a9 := Tryz.isAgg9
 z9 := Tryz.sizeOf9
 v9 := Tryz.zeroValue9
 t22 := Tryz.underlying22
 a22 := Tryz.isAgg22
 z22 := Tryz.sizeOf22
 v22 := Tryz.zeroValue22
 a24 := Tryz.isAgg3
 z24 := Tryz.sizeOf3
 t25 := Tryz.underlying62
 a25 := Tryz.isAgg62
 z25 := Tryz.sizeOf62
 v25 := Tryz.zeroValue62
 t39 := Tryz.underlying64
 a39 := Tryz.isAgg64
 z39 := Tryz.sizeOf64
 v39 := Tryz.zeroValue64
 t45 := Tryz.underlying104
 a45 := Tryz.isAgg104
 z45 := Tryz.sizeOf104
 v45 := Tryz.zeroValue104
 t46 := Tryz.underlying105
 a46 := Tryz.isAgg105
 z46 := Tryz.sizeOf105
 v46 := Tryz.zeroValue105
 t50 := Tryz.underlying31
 a50 := Tryz.isAgg31
 z50 := Tryz.sizeOf31
 v50 := Tryz.zeroValue31
 t53 := Tryz.underlying111
 a53 := Tryz.isAgg111
 z53 := Tryz.sizeOf111
 v53 := Tryz.zeroValue111
 t55 := Tryz.underlying113
 a55 := Tryz.isAgg113
 z55 := Tryz.sizeOf113
 v55 := Tryz.zeroValue113
 t66 := Tryz.underlying124
 a66 := Tryz.isAgg124
 z66 := Tryz.sizeOf124
 v66 := Tryz.zeroValue124
 t70 := Tryz.underlying128
 a70 := Tryz.isAgg128
 z70 := Tryz.sizeOf128
 v70 := Tryz.zeroValue128
 t76 := Tryz.underlying136
 a76 := Tryz.isAgg136
 z76 := Tryz.sizeOf136
 v76 := Tryz.zeroValue136
 t77 := Tryz.underlying137
 a77 := Tryz.isAgg137
 z77 := Tryz.sizeOf137
 v77 := Tryz.zeroValue137

end Go.Proofs

/- Rows of the caller's, as memory. -/
namespace Go.Proofs
open Go Go.Ev Go.Num
set_option linter.unusedVariables false
set_option linter.unusedSimpArgs false

theorem natFx {i j : Nat} (h : i ≠ j) : Nat.beq i j = false := by
 cases e : Nat.beq i j with
 | false => rfl
 | true => exact absurd (Nat.eq_of_beq_eq_true e) h
theorem own_row {r : Mem} {γ : Gam} {A : AW} {W : World} (hw : WRel γ A W) (hR : Ro r γ W) {i len cap : Nat} (hcap : Nat.beq cap unkE = false) {c : List Value} {e f z : Nat} (hget : A.heap.get i = some (.cells c e f z)) {v' : Value} (hv : VRel γ (.slice (some ⟨i, 0, none⟩) len cap) v') :
  ∃ b k', VRel noG (RS b k' len 0) v' ∧ ∀ j u, c[j]? = some u → gnd u = true → memW W b (k' + j) = some u := by
 obtain ⟨b, k', c', rfl, hrd⟩ := rd_world hw hR hv hcap
 refine ⟨b, k', .sliceRo _ _ _ _ _ _ (by decide) (Nat.zero_le _), fun j u hu hg => hrd j u ?_ hg⟩
 simp only [AW.rd, AW.cell, hget]
 rw [Nat.add_eq, Nat.zero_add]
 exact hu

end Go.Proofs

/- Sorted numbers: what the calls answer. -/
namespace Go.Num
def fL (z : Nat → Int) (n : Nat) : List Int := ((List.range n).map z).mergeSort fun a b => decide (b ≤ a)
theorem fL_perm (z : Nat → Int) (n : Nat) : (fL z n).Perm ((List.range n).map z) := List.mergeSort_perm _ _
theorem fL_len (z : Nat → Int) (n : Nat) : (fL z n).length = n := by rw [(fL_perm z n).length_eq]; simp
theorem fL_srt (z : Nat → Int) (n : Nat) : (fL z n).Pairwise fun a b => b ≤ a := by
 have h := List.pairwise_mergeSort (le := fun a b : Int => decide (b ≤ a)) (fun a b c h1 h2 => by simp only [decide_eq_true_eq] at *; omega) (fun a b => by simp only [Bool.or_eq_true, decide_eq_true_eq]; omega) ((List.range n).map z)
 exact h.imp fun h => by simpa using h
theorem fL_one {z : Nat → Int} {n : Nat} {d : List Int} (hp : d.Perm ((List.range n).map z)) (hs : d.Pairwise fun a b => b ≤ a) : d = fL z n :=
 (hp.trans (fL_perm z n).symm).eq_of_pairwise (fun a b _ _ h1 h2 => by omega) hs (fL_srt z n)
theorem fL_mem {z : Nat → Int} {n : Nat} {P : Int → Prop} (h : ∀ j, j < n → P (z j)) : ∀ j, j < n → P ((fL z n).getD j 0) := fun j hj => by
 have hj' : j < (fL z n).length := by rw [fL_len]; exact hj
 have hm : (fL z n).getD j 0 ∈ (List.range n).map z := (fL_perm z n).mem_iff.1 (by
  rw [List.getD_eq_getElem?_getD, List.getElem?_eq_getElem hj']
  exact List.getElem_mem hj')
 obtain ⟨i, hi, he⟩ := List.mem_map.1 hm
 rw [← he]
 exact h i (List.mem_range.1 hi)
end Go.Num
namespace Go.Proofs
open Go Go.Ev Go.Num Go.Shelf Go.RowKit Go.Lib Go.Sort
set_option linter.unusedVariables false
set_option linter.unusedSimpArgs false
set_option maxRecDepth 100000

theorem svv_rfl (a : List Value) : m_svv a a = true := @decide_eq_true _ (Classical.propDecidable _) rfl
theorem tCm_ok (r : Mem) : TOk (SC r) tCm := TOk.nil.cons (eI2_ok fun a b _ => cmp_calls r a b)
theorem gf_calls (r : Mem) (a b : Int) : GrT Tryz.prog r 32 [I a, I b] (I (m_cmpI b a)) := GrT.of (SC_ok r) (tCm_ok r) .nil rfl ⟨1, 1, gfA r a b⟩
theorem cmpI_lt (a b : Int) : m_cmpI a b < 0 ↔ a < b := by
 unfold m_cmpI
 by_cases c : a < b
 ·simp [c]
 ·by_cases d : b < a <;> simp [c, d]
theorem takeF_row {f : Nat → Option Value} {z : Nat → Int} : ∀ (n j k : Nat), (∀ i, i < n → f (k + i) = some (I (z (j + i)))) → takeF f k n = some ((List.range' j n).map fun i => I (z i))
 | 0, j, k, _ => rfl
 | n + 1, j, k, h => by
  have h0 := h 0 (by omega)
  have ih := takeF_row (f := f) (z := z) n (j + 1) (k + 1) fun i hi => by
   have := h (i + 1) (by omega)
   rw [show k + 1 + i = k + (i + 1) by omega, this, show j + 1 + i = j + (i + 1) by omega]
  rw [takeF, show f k = some (I (z j)) from h0, ih]
  rfl

section
variable {r : Mem} {b off n cap : Nat} {z : Nat → Int}
theorem cn_ok (hz : rowAt r b off n z) (h1 : 1 ≤ n) (hn : n ≤ 1000000) (hcap : cap ≠ unkE) : GrM Tryz.prog r 50 [RS b off n cap] (gw 0 n) (rowA (ixN z n) 3 1) := by
 obtain ⟨k, rfl⟩ : ∃ k, n = k + 1 := ⟨n - 1, by omega⟩
 refine GrM.of (SC_ok r) TOk.nil .nil ⟨1, 2, (cnR r b off k cap).trans ?_⟩
 have hr : (match Nat.beq cap unkE with | true => none | false => takeF (r b) off (Nat.mul (k + 1) 1)) = some (ixN z (k + 1)) := by
  rw [natFx hcap]
  show takeF (r b) off (Nat.mul (k + 1) 1) = _
  rw [Nat.mul_eq, Nat.mul_one, takeF_row (z := z) (k + 1) 0 off fun i hi => by rw [Nat.zero_add]; exact hz i hi]
  unfold ixN
  rw [List.range_eq_range']
 have oc : ∀ {o : Option (List Value)} {c : List Value} (h : o = some c) (a : CR) (F : List Value → CR), (Option.casesOn o a F : CR) = F c := fun h a F => by rw [h]
 rw [Nat.ble_eq_true_of_le (show Nat.add 0 (k + 1) ≤ 1000000 by simp; omega), cond_true]
 refine (oc hr _ _).trans ?_
 have l1 : Nat.beq (ixN z (k + 1)).length (Nat.mul (k + 1) 1) = true := by
  rw [ix_len, Nat.mul_eq, Nat.mul_one]
  exact Nat.beq_refl _
 rw [l1, cond_true, List.nil_append, ix_gnd, cond_true, Nat.add_eq, Nat.zero_add]
 rfl
theorem eCn_ok (hz : rowAt r b off n z) (h1 : 1 ≤ n) (hn : n ≤ 1000000) (hcap : cap ≠ unkE) : EOk (SC r) 50 (eRow [RS b off n cap] n (ixN z n)) := fun args A hgd F hF k γ W args' hw hR ha => by
 refine ⟨fun hcc => ?_, fun h => nomatch h⟩
 have hs := @of_decide_eq_true _ (Classical.propDecidable _) hgd
 subst hs
 have hof : ofV 0 (gw 0 n) = true := by simp [ofV, of1]
 exact (cn_ok hz h1 hn hcap).ends (γ := γ) (A := A) hof (ix_gnd _ _) hF hw (hR.noG noG fun _ => rfl) (ha.of_ros rfl) ha
theorem tSo_ok (hz : rowAt r b off n z) (h1 : 1 ≤ n) (hn : n ≤ 1000000) (hcap : cap ≠ unkE) : TOk (SC r) (tSo (RS b off n cap) n (ixN z n) (rowI (fL z n))) := by
 refine (TOk.nil.cons (entAt_ok fun F hF k γ W args' hw hR ha => ?_)).cons (eCn_ok hz h1 hn hcap)
 have hlen : ((List.range n).map z).length = n := by simp
 have hi : (mkA [oIn (ixN z n) 0]).heap.get 0 = some (.cells (((List.range n).map z).map fun x => I x) 3 0 1) := by rw [rowI_ix]; kernel_rfl
 have h := sort_gen Tryz.sortI (fun x : Int => I x) (fun _ => rfl) (fun _ => rfl) 32 (fun x y => m_cmpI y x) ⟨fun x => by
   simp only [ltOf, decide_eq_false_iff_not, cmpI_lt]; omega, fun x y w => by
   simp only [ltOf, decide_eq_true_eq, cmpI_lt]; omega, fun x y w => by
   simp only [ltOf, decide_eq_false_iff_not, cmpI_lt]; omega⟩ (fun args w => callFunc_ok (SC_ok r) (by kernel_rfl) args w) (fun x y => gf_calls _ x y) (C := SC r) rfl (cap := unk) hi (by rw [hlen]; omega) (by decide) (R := fL z n) (fun d hp hs => fL_one hp (hs.imp fun {x y} h => by
    simp only [ltOf, decide_eq_false_iff_not, cmpI_lt] at h
    omega))
 rw [hlen] at h
 have h2 := h F hF k γ W args' hw hR ha
 have hA1 : (mkA [oIn (ixN z n) 0]).only 0 0 (.cells ((fL z n).map fun x => I x) 3 0 1) = mkA [oIn (rowI (fL z n)) 0] := by kernel_rfl
 rw [hA1] at h2
 exact h2
theorem so_ok (hz : rowAt r b off n z) (h1 : 1 ≤ n) (hn : n ≤ 1000000) (hcap : cap ≠ unkE) : GrM Tryz.prog r 31 [RS b off n cap, fGF] (gw 0 n) (rowA (rowI (fL z n)) 3 1) :=
 GrM.of (SC_ok r) (tSo_ok hz h1 hn hcap) .nil ⟨1, 1, by
  rw [soR]
  simp only [svv_rfl, at_rfl, cond_true]
  unfold finM rowOf rowsOf row1
  have hb : Nat.beq n 0 = false := natFx (by omega)
  have hg : gnds (rowI (fL z n)) = true := rowI_gnd _
  simp only [hb, Bool.and_false]
  show guardK (gnds (rowI (fL z n))) _ = _
  rw [hg]
  rfl⟩

def FaI (z : Nat → Int) (k : Nat) (e : List Int) : Prop := e.Perm ((List.range k).map z) ∧ e.Pairwise fun a b => b ≤ a
theorem fa_next {k j : Nat} {e : List Int} (h : FaI z k e) (hj : j ≤ e.length) (hlo : ∀ i, i < j → z k ≤ e.getD i 0) (hhi : j = e.length ∨ e.getD j 0 < z k) : FaI z (k + 1) (e.take j ++ z k :: e.drop j) := by
 obtain ⟨hp, hs⟩ := h
 constructor
 ·have h1 : (e.take j ++ z k :: e.drop j).Perm (z k :: e) := by
   have := List.perm_middle (a := z k) (l₁ := e.take j) (l₂ := e.drop j)
   rwa [List.take_append_drop] at this
  refine h1.trans ((hp.cons (z k)).trans ?_)
  rw [List.range_succ, List.map_append]
  exact (List.perm_append_singleton (z k) ((List.range k).map z)).symm
 ·have get : ∀ i (hi : i < e.length), e[i] = e.getD i 0 := fun i hi => by rw [List.getD_eq_getElem?_getD, List.getElem?_eq_getElem hi]; rfl
  have hlo' : ∀ y, y ∈ e.take j → z k ≤ y := fun y hy => by
   obtain ⟨t, ht, rfl⟩ := List.mem_iff_getElem.1 hy
   rw [List.length_take] at ht
   rw [List.getElem_take, get t (by omega)]
   exact hlo t (by omega)
  have hhi' : ∀ y, y ∈ e.drop j → y ≤ z k := fun y hy => by
   obtain ⟨t, ht, rfl⟩ := List.mem_iff_getElem.1 hy
   rw [List.length_drop] at ht
   rw [List.getElem_drop]
   rcases hhi with h0 | h0
   ·omega
   ·have h3 : e[j + t]'(by omega) ≤ e[j]'(by omega) := by
     by_cases ht0 : t = 0
     ·subst ht0; exact Int.le_refl _
     ·exact List.pairwise_iff_getElem.1 hs j (j + t) (by omega) (by omega) (by omega)
    rw [get j (by omega)] at h3
    omega
  refine List.pairwise_append.2 ⟨hs.sublist (List.take_sublist _ _), List.pairwise_cons.2 ⟨hhi', hs.sublist (List.drop_sublist _ _)⟩, fun a ha b hb => ?_⟩
  rcases List.mem_cons.1 hb with rfl | hb
  ·exact hlo' a ha
  ·have := hlo' a ha
   have := hhi' b hb
   omega
end

end Go.Proofs

/- The reference's falling list: what the call answers. -/
namespace Go.Proofs
open Go Go.Ev Go.Num
set_option linter.unusedVariables false
set_option linter.unusedSimpArgs false
set_option maxRecDepth 100000

def vRw (e : List Int) : Value := match e with
 | [] => .slice none 0 0
 | _ => gw 0 e.length
def oRw (e : List Int) : OO := match e with
 | [] => []
 | _ => [oIn (rowI e) 0]
theorem vRw_ne {e : List Int} (h : 1 ≤ e.length) : vRw e = gw 0 e.length := by
 cases e with
 | nil => simp at h
 | cons x e => rfl
theorem oRw_ne {e : List Int} (h : 1 ≤ e.length) : oRw e = [oIn (rowI e) 0] := by
 cases e with
 | nil => simp at h
 | cons x e => rfl

section
variable {r : Mem} {b off n cap : Nat} {z : Nat → Int}
theorem fa_e {k j : Nat} (hz : rowAt r b off n z) (hn : n ≤ 1000) (c : k < n) {e : List Int} (he : e.length = k) (hj : j ≤ e.length) (fs : FnsC) (K : OV → List Nat → OO → CR) (kx : Nat → KS) (kr : KS) :
  run (SC r) 125 48 1 FA_6 fs none (rbK 0 lvFA [] K) kx kr [] (bT lvFB (vFB b off n cap (vRw e) k j) .nil) [] (mkA (oRw e)) = K (vFA b off n cap (vRw (e.take j ++ z k :: e.drop j)) k) [] (oRw (e.take j ++ z k :: e.drop j)) := by
 have c3 : Nat.blt k n = true := Nat.ble_eq_true_of_le (by omega)
 by_cases h0 : e = []
 ·subst h0
  obtain rfl : j = 0 := by simpa using hj
  have hn' := faE0 r b off n cap k 0 fs K kx kr
  simp only [Int.ofNat_eq_natCast, Int.toNat_natCast, show Nat.ble 0 0 = true from rfl, c3, cond_true, row_1 hz c, isI_I] at hn'
  dsimp +instances only [ofI_I] at hn'
  exact hn'
 ·have hp : 1 ≤ e.length := by
   cases e with
   | nil => exact absurd rfl h0
   | cons => simp
  have hn' := faE1 r b off n cap k j e.length (rowI e) fs K kx kr
  have hlen : (e.take j ++ z k :: e.drop j).length = e.length + 1 := by simp; omega
  rw [vRw_ne hp, oRw_ne hp, vRw_ne (by rw [hlen]; omega), oRw_ne (by rw [hlen]; omega), hlen]
  refine hn'.trans ?_
  simp only [Int.ofNat_eq_natCast, Int.toNat_natCast, Nat.add_eq, Nat.mul_eq, Nat.mul_one, Nat.zero_add, Nat.sub_eq]
  have g1 : Nat.ble j e.length = true := Nat.ble_eq_true_of_le hj
  have g2 : Nat.ble j 1000000 = true := Nat.ble_eq_true_of_le (by omega)
  have g3 : takeAt (rowI e) 0 j = some (rowI (e.take j)) := rowI_take hj
  have g4 : Nat.beq (rowI (e.take j)).length j = true := by rw [rowI_len, List.length_take, Nat.min_eq_left hj]; exact Nat.beq_refl _
  simp only [g1, g2, g3, g4, cond_true]
  have e1 : r b (off + k) = some (I (z k)) := hz k c
  have q3 : Nat.beq (rowI e).length e.length = true := by rw [rowI_len]; exact Nat.beq_refl _
  have q6 : Nat.ble e.length e.length = true := Nat.ble_eq_true_of_le (Nat.le_refl _)
  by_cases j0 : j = 0
  ·subst j0
   have q1 : Nat.ble (1 + e.length) 1000000 = true := Nat.ble_eq_true_of_le (by omega)
   have q2 : takeAt (rowI e) 0 e.length = some (rowI e) := takeL_row _ _ (rowI_len _)
   have q4 : Nat.beq e.length 0 = false := natFx (by omega)
   have q5 : m_nns (I (z k) :: rowI e) = true := rowI_nn (z k :: e)
   simp only [show Nat.beq 0 0 = true from rfl, c3, cond_true, e1, isI_I, q6, g1, q1, q2, q3, q4, cond_false, rowI_ones, ofI_I, q5, Bool.and_true]
   rw [List.take_zero, List.nil_append, List.drop_zero, Nat.add_comm 1]
   rfl
  ·have q0 : Nat.beq j 0 = false := natFx j0
   have q1 : takeAt (rowI (e.take j)) 0 j = some (rowI (e.take j)) := takeL_row _ _ (by rw [rowI_len, List.length_take]; omega)
   have q2 : Nat.ble (j + 1) 1000000 = true := Nat.ble_eq_true_of_le (by omega)
   simp only [q0, c3, cond_true, cond_false, e1, isI_I, q6, q1, q2, g1, rowI_ones, ofI_I]
   by_cases jl : j = e.length
   ·subst jl
    have p1 : Nat.blt e.length e.length = false := by
     cases h : Nat.blt e.length e.length with
     | false => rfl
     | true =>
      have := Nat.le_of_ble_eq_true h
      omega
    have p2 : rowI (e.take e.length) ++ [I (z k)] = rowI (e ++ [z k]) := by rw [List.take_length, rowI_app]
    simp only [p1, cond_false, p2, rowI_nn, Bool.and_true, cond_true]
    rw [List.take_length, List.drop_length]
    rfl
   ·have q7 : Nat.blt j e.length = true := Nat.ble_eq_true_of_le (by omega)
    have q8 : takeAt (rowI e) j (e.length - j) = some (rowI (e.drop j)) := rowI_drop (by omega)
    have q9 : Nat.beq (rowI (e.drop j)).length (e.length - j) = true := by rw [rowI_len, List.length_drop]; exact Nat.beq_refl _
    have q10 : Nat.beq (e.length - j) 0 = false := natFx (by omega)
    have q11 : Nat.ble (j + 1 + (e.length - j)) 1000000 = true := Nat.ble_eq_true_of_le (by omega)
    have q12 : rowI (e.take j) ++ [I (z k)] ++ rowI (e.drop j) = rowI (e.take j ++ z k :: e.drop j) := by simp [rowI]
    have q13 : takeAt (rowI (e.take j) ++ [I (z k)]) 0 (j + 1) = some (rowI (e.take j) ++ [I (z k)]) := takeL_row _ _ (by rw [List.length_append, rowI_len, List.length_take, Nat.min_eq_left hj]; rfl)
    simp only [q7, q8, q9, q10, q11, cond_true, cond_false, rowI_ones, q13, q12, rowI_nn, Bool.and_true]
    rw [show j + 1 + (e.length - j) = e.length + 1 by omega]
    rfl

theorem fa_S (hz : rowAt r b off n z) (h1 : 1 ≤ n) (hn : n ≤ 1000) : SOk (SC r) 40 [RS b off n cap] emptyA fun v A => v = gw 0 n ∧ A = mkA [oIn (rowI (fL z n)) 0] := by
 refine callO (SC_ok r) (by kernel_rfl) ((bodySC r _).trans FA_eq) (nt := 48) (by kernel_rfl) (rs := [.tmp 2]) (by kernel_rfl) 125 rfl ⟨[2], [], fun vs ms os => vs = [some (gw 0 n)] ∧ ms = [] ∧ os = [oIn (rowI (fL z n)) 0]⟩ ?_ fun γ W F kk hwr hF hro h0' => ?_
 ·rintro vs ms os ⟨rfl, rfl, rfl⟩
  exact ⟨_, mkA [oIn (rowI (fL z n)) 0], by kernel_rfl, rfl, rfl⟩
 have h0' : ∀ i, 0 ≤ i → γ i = none := h0'
 refine Go.Ev.Reach.after3R (SC_ok r) TOk.nil (tm := .nil) (L := 1) (L' := 1) (d := 1) hF hro h0' (.step (.step .base))
  (o1 := ⟨lvFA, [], fun vs ms os => vs = vFA b off n cap (.slice none 0 0) 0 ∧ ms = [] ∧ os = []⟩)
  (o2 := ⟨[3], [], fun vs ms os => vs = [some (gw 0 n)] ∧ ms = [] ∧ os = [oIn (rowI (fL z n)) 0]⟩) [] (fun p hp => nomatch hp) ?_ ?_ ((faA r b off n cap _ _ _ _).trans (qq_ok ⟨rfl, rfl, rfl⟩))
 ·rintro vs ms os ⟨rfl, rfl, rfl⟩
  refine Go.Ev.Reach.blockC (Go.Ev.Reach.loopC (j := n) (lv := lvFA) (fl := []) (I := fun j vs ms os => ∃ k : Nat, k ≤ n ∧ j = n - k ∧ ∃ e, FaI z k e ∧ vs = vFA b off n cap (vRw e) k ∧ ms = [] ∧ os = oRw e) (fun j vs ms os hI => ?_) ⟨0, by omega, rfl, [], ⟨.refl _, .nil⟩, rfl, rfl, rfl⟩)
  obtain ⟨k, hk, rfl, e, hI, rfl, rfl, rfl⟩ := hI
  have hlen : e.length = k := by rw [hI.1.length_eq]; simp
  refine Go.Ev.Reach.after3R (SC_ok r) TOk.nil (tm := .nil) (L := 1) (L' := 1) (d := 1) hF hro h0' .flat
   (o1 := ⟨lvFA, [], fun vs ms os => k < n ∧ vs = vFA b off n cap (vRw e) k ∧ ms = [] ∧ os = oRw e⟩)
   (o2 := ⟨lvFA, [], fun vs ms os => k < n ∧ ∃ e', FaI z (k + 1) e' ∧ vs = vFA b off n cap (vRw e') k ∧ ms = [] ∧ os = oRw e'⟩) [(0, ⟨[3], [], fun vs ms os => vs = [some (gw 0 n)] ∧ ms = [] ∧ os = [oIn (rowI (fL z n)) 0]⟩)] (fun p hp => by simp only [List.mem_cons, List.not_mem_nil, or_false] at hp; subst hp; rfl) ?_ ?_ ?_
  ·rintro vs ms os ⟨c, rfl, rfl, rfl⟩
   refine Go.Ev.Reach.blockC (Go.Ev.Reach.after3R (SC_ok r) TOk.nil (tm := .nil) (L := 1) (L' := 1) (d := 1) hF hro h0' .flat
    (o1 := ⟨lvFB, [], fun vs ms os => vs = vFB b off n cap (vRw e) k 0 ∧ ms = [] ∧ os = oRw e⟩)
    (o2 := ⟨lvFB, [], fun vs ms os => ∃ j, j ≤ e.length ∧ (∀ i, i < j → z k ≤ e.getD i 0) ∧ (j = e.length ∨ e.getD j 0 < z k) ∧ vs = vFB b off n cap (vRw e) k j ∧ ms = [] ∧ os = oRw e⟩) [] (fun p hp => nomatch hp) ?_ ?_ ?_)
   ·rintro vs ms os ⟨rfl, rfl, rfl⟩
    refine Go.Ev.Reach.blockC (Go.Ev.Reach.loopC (j := e.length) (lv := lvFB) (fl := []) (I := fun q vs ms os => ∃ j, j ≤ e.length ∧ q = e.length - j ∧ (∀ i, i < j → z k ≤ e.getD i 0) ∧ vs = vFB b off n cap (vRw e) k j ∧ ms = [] ∧ os = oRw e) (fun q vs ms os hJ => ?_) ⟨0, by omega, rfl, fun i h => absurd h (by omega), rfl, rfl, rfl⟩)
    obtain ⟨j, hj, rfl, hlo, rfl, rfl, rfl⟩ := hJ
    refine Go.Ev.Reach.segR (SC_ok r) TOk.nil (tm := .nil) (L := 1) (L' := 1) (d := 1) hF hro h0' [(2, ⟨lvFB, [], fun vs ms os => ∃ j, j ≤ e.length ∧ (∀ i, i < j → z k ≤ e.getD i 0) ∧ (j = e.length ∨ e.getD j 0 < z k) ∧ vs = vFB b off n cap (vRw e) k j ∧ ms = [] ∧ os = oRw e⟩)] (fun p hp => by simp only [List.mem_cons, List.not_mem_nil, or_false] at hp; subst hp; rfl) ?_
    by_cases h0 : e = []
    ·subst h0
     obtain rfl : j = 0 := by simpa using hj
     exact (faD0 r b off n cap k 0 _ _ _ _).trans (qq_ok ⟨0, by simp, hlo, .inl rfl, rfl, rfl, rfl⟩)
    ·have hp : 1 ≤ e.length := by
      cases e with
      | nil => exact absurd rfl h0
      | cons => simp
     have hn' := faD1 r b off n cap k j e.length (rowI e)
     have c3 : Nat.blt k n = true := Nat.ble_eq_true_of_le (by omega)
     have hv : vRw e = gw 0 e.length := vRw_ne hp
     have ho : oRw e = [oIn (rowI e) 0] := oRw_ne hp
     rw [hv, ho]
     simp only [Int.ofNat_eq_natCast, Int.toNat_natCast, Nat.add_eq, Nat.mul_eq, Nat.mul_one, Nat.zero_add, rowI_nn, Bool.and_true, cond_true] at hn'
     by_cases d : j < e.length
     ·have d1 : (j : Int) < (e.length : Int) := by omega
      have d3 : Nat.blt j e.length = true := Nat.ble_eq_true_of_le (by omega)
      have e3 := inc1' (k := j) (by omega)
      have e1 : r b (off + k) = some (I (z k)) := hz k c
      simp only [Int.ofNat_eq_natCast] at e3
      simp only [dT d1, d3, c3, cond_true, rowI_get d, e1, isI_I, e3] at hn'
      dsimp +instances only [ofI_I] at hn'
      by_cases w : e.getD j 0 ≥ z k
      ·simp only [dT w, cond_true] at hn'
       exact (hn' _ _ _ _).trans (qq_ok ⟨e.length - (j + 1), by omega, j + 1, d, rfl, fun i hi => by
        by_cases q : i = j
        ·subst q; exact w
        ·exact hlo i (by omega), rfl, rfl, rfl⟩)
      ·simp only [dF w, cond_false] at hn'
       exact (hn' _ _ _ _).trans (qq_ok ⟨j, hj, hlo, .inr (by omega), rfl, rfl, rfl⟩)
     ·have d1 : ¬ (j : Int) < (e.length : Int) := by omega
      simp only [dF d1, cond_false] at hn'
      exact (hn' _ _ _ _).trans (qq_ok ⟨j, hj, hlo, .inl (by omega), rfl, rfl, rfl⟩)
   ·rintro vs ms os ⟨j, hj, hlo, hhi, rfl, rfl, rfl⟩
    refine Go.Ev.Reach.segR (SC_ok r) TOk.nil (tm := .nil) (L := 1) (L' := 1) (d := 1) hF hro h0' [] (fun p hp => nomatch hp) ?_
    exact (fa_e hz hn c hlen hj _ _ _ _).trans (qq_ok ⟨c, _, fa_next hI hj hlo hhi, rfl, rfl, rfl⟩)
   ·by_cases h0 : e = []
    ·subst h0
     exact (faC0 r b off n cap k _ _ _ _).trans (qq_ok ⟨rfl, rfl, rfl⟩)
    ·have hp : 1 ≤ e.length := by
      cases e with
      | nil => exact absurd rfl h0
      | cons => simp
     have hn' := faC1 r b off n cap k e.length (rowI e)
     have hv : vRw e = gw 0 e.length := vRw_ne hp
     have ho : oRw e = [oIn (rowI e) 0] := oRw_ne hp
     rw [hv, ho]
     simp only [rowI_nn, Bool.and_true, cond_true] at hn'
     exact (hn' _ _ _ _).trans (qq_ok ⟨rfl, rfl, rfl⟩)
  ·rintro vs ms os ⟨c, e', hI', rfl, rfl, rfl⟩
   have hlen' : e'.length = k + 1 := by rw [hI'.1.length_eq]; simp
   refine Go.Ev.Reach.segR (SC_ok r) TOk.nil (tm := .nil) (L := 1) (L' := 1) (d := 1) hF hro h0' [] (fun p hp => nomatch hp) ?_
   have hn' := faF1 r b off n cap k e'.length (rowI e')
   have hv : vRw e' = gw 0 e'.length := vRw_ne (by omega)
   have ho : oRw e' = [oIn (rowI e') 0] := oRw_ne (by omega)
   have e3 := inc1 (k := k) (by omega)
   rw [hv, ho]
   simp only [rowI_nn, Bool.and_true, cond_true, e3] at hn'
   exact (hn' _ _ _ _).trans (qq_ok ⟨n - (k + 1), by omega, k + 1, c, rfl, e', hI', by rw [hv]; rfl, rfl, by rw [ho]; rfl⟩)
  ·by_cases h0 : e = []
   ·subst h0
    have k0 : k = 0 := by simpa using hlen.symm
    subst k0
    have hn' := faB0 r b off n cap 0
    have c1 : Int.ofNat 0 < Int.ofNat n := by simp; omega
    simp only [dT c1, cond_true] at hn'
    exact (hn' _ _ _ _).trans (qq_ok ⟨by omega, rfl, rfl, rfl⟩)
   ·have hp : 1 ≤ e.length := by
     cases e with
     | nil => exact absurd rfl h0
     | cons => simp
    have hn' := faB1 r b off n cap k e.length (rowI e)
    have hv : vRw e = gw 0 e.length := vRw_ne hp
    have ho : oRw e = [oIn (rowI e) 0] := oRw_ne hp
    rw [hv, ho]
    simp only [rowI_nn, Bool.and_true, cond_true] at hn'
    by_cases c : k < n
    ·have c1 : Int.ofNat k < Int.ofNat n := by simp; omega
     simp only [dT c1, cond_true] at hn'
     exact (hn' _ _ _ _).trans (qq_ok ⟨c, rfl, rfl, rfl⟩)
    ·have hkl : k = n := by omega
     subst hkl
     have c1 : ¬ Int.ofNat k < Int.ofNat k := by omega
     simp only [dF c1, cond_false] at hn'
     exact (hn' _ _ _ _).trans (qq_ok ⟨by rw [hlen], rfl, by rw [fL_one hI.1 hI.2]; rfl⟩)
 ·rintro vs ms os ⟨rfl, rfl, rfl⟩
  refine Go.Ev.Reach.segR (SC_ok r) TOk.nil (tm := .nil) (L := 1) (L' := 1) (d := 1) hF hro h0' [] (fun p hp => nomatch hp) ?_
  have hn' := faG1 r n (rowI (fL z n))
  simp only [rowI_nn, Bool.and_true, cond_true] at hn'
  exact (hn' _ _ _ _).trans (qq_ok ⟨rfl, rfl, rfl⟩)
end

end Go.Proofs

/- Violations, run. -/
namespace Go.Proofs
open Go Go.Ev Go.Num
set_option linter.unusedVariables false
set_option linter.unusedSimpArgs false
set_option maxRecDepth 100000

noncomputable def cVI : Code := bodyOf S0 15
noncomputable def VI_0 : Code := (lc cVI)
noncomputable def VI_1 : Code := (lc (rc cVI))
noncomputable def VI_2 : Code := (lc (rc (rc cVI)))
noncomputable def VI_3 : Code := (lc (rc (rc (rc cVI))))
noncomputable def VI_4 : Code := (lc (rc (rc (rc (rc cVI)))))
noncomputable def VI_5 : Code := (lc (lc (rc (rc (rc (rc (rc cVI)))))))
noncomputable def VI_6 : Code := (ic (ic (rc (lc (rc (rc (rc (rc (rc cVI)))))))))
noncomputable def VI_7 : Code := (rc (rc (rc (rc (rc (rc cVI))))))
theorem VI_eq : cVI = (.seq VI_0 (.seq VI_1 (.seq VI_2 (.seq VI_3 (.seq VI_4 (.seq (.seq VI_5 (.block 0 (.loop VI_6))) VI_7)))))) := by kernel_rfl
noncomputable def cRV : Code := bodyOf S0 20
noncomputable def RV_0 : Code := (lc cRV)
noncomputable def RV_1 : Code := (lc (rc cRV))
noncomputable def RV_2 : Code := (lc (rc (rc cRV)))
noncomputable def RV_3 : Code := (lc (lc (rc (rc (rc cRV)))))
noncomputable def RV_4 : Code := (lc (lc (rc (lc (rc (rc (rc cRV)))))))
noncomputable def RV_5 : Code := (lc (lc (rc (lc (rc (lc (rc (rc (rc cRV)))))))))
noncomputable def RV_6 : Code := (ic (ic (rc (lc (rc (lc (rc (lc (rc (rc (rc cRV)))))))))))
noncomputable def RV_7 : Code := (rc (rc (lc (rc (lc (rc (rc (rc cRV))))))))
noncomputable def RV_8 : Code := (rc (rc (lc (rc (rc (rc cRV))))))
noncomputable def RV_9 : Code := (lc (rc (rc (rc (rc cRV)))))
noncomputable def RV_10 : Code := (lc (rc (rc (rc (rc (rc cRV))))))
noncomputable def RV_11 : Code := (lc (lc (rc (rc (rc (rc (rc (rc cRV))))))))
noncomputable def RV_12 : Code := (ic (ic (rc (lc (rc (rc (rc (rc (rc (rc cRV))))))))))
noncomputable def RV_13 : Code := (rc (rc (rc (rc (rc (rc (rc cRV)))))))
theorem RV_eq : cRV = (.seq RV_0 (.seq RV_1 (.seq RV_2 (.seq (.seq RV_3 (.cond (.tmp 29) (.seq RV_4 (.seq (.seq RV_5 (.block 0 (.loop RV_6))) RV_7)) RV_8)) (.seq RV_9 (.seq RV_10 (.seq (.seq RV_11 (.block 2 (.loop RV_12))) RV_13))))))) := by kernel_rfl
noncomputable def eVal (a0 : List Value) (v : Value) : Ent := ent (fun args _ => m_svv args a0) fun _ _ => v
noncomputable def gTwo (a b : Value) (ca cb : List Value) (args : List Value) (A : AW) : Bool := match args with
 | [.slice (some ⟨i, x, none⟩) l p, .slice (some ⟨j, y, none⟩) l' p'] => match A.heap.get i, A.heap.get j with
  | some (.cells ci _ _ _), some (.cells cj _ _ _) => m_svv [.slice (some ⟨0, x, none⟩) l p, .agg ⟨ci⟩, .slice (some ⟨1, y, none⟩) l' p', .agg ⟨cj⟩] [a, .agg ⟨ca⟩, b, .agg ⟨cb⟩]
  | _, _ => false
 | _ => false
noncomputable def gOne (a : Value) (ca : List Value) (args : List Value) (A : AW) : Bool := match args with
 | [.slice (some ⟨i, x, none⟩) l p] => match A.heap.get i with
  | some (.cells ci _ _ _) => m_svv [.slice (some ⟨0, x, none⟩) l p, .agg ⟨ci⟩] [a, .agg ⟨ca⟩]
  | _ => false
 | _ => false
noncomputable def eTwo (a b : Value) (ca cb : List Value) (v : Value) : Ent := ent (fun args A => gTwo a b ca cb args A) fun _ _ => v
noncomputable def eOne (a : Value) (ca : List Value) (v : Value) : Ent := ent (fun args A => gOne a ca args A) fun _ _ => v
noncomputable def tVi (sl : Value) (n : Nat) (c : List Value) (odd : Bool) : Tbl := tcons 31 (eRow [sl, fGF] n c) (tcons 33 (eVal [sl] (.bool odd)) fun _ => none)
noncomputable def tVc (a b : Value) (ca cb : List Value) (s : Int) : Tbl := tcons 34 (eTwo a b ca cb (I s)) fun _ => none
noncomputable def tRv (sl : Value) (n : Nat) (c : List Value) : Tbl := tcons 40 (eRow [sl] n c) tPl
noncomputable def tRt (sl : Value) (h l : Int) : Tbl := tcons 39 (eVal [sl] (.agg ⟨[I h, I l]⟩)) fun _ => none
noncomputable def tRz (a : Value) (c : List Value) (S T : Int) (v : Bool) : Tbl := tcons 39 (eOne a c (.agg ⟨[I (T / 4294967296), I (T % 4294967296)]⟩)) (tcons 42 (eVal [.agg ⟨[I (S / 4294967296), I (S % 4294967296)]⟩, .agg ⟨[I (T / 4294967296), I (T % 4294967296)]⟩] (.bool v)) fun _ => none)
def lvVI : List Nat := [1, 5, 6, 39, 40, 41]
def vVI (n m : Nat) (bv : Value) (j : Nat) : OV := [some (I (m : Nat)), some (gw 0 n), some bv, some (.slice (some ⟨0, m, none⟩) (n - m) unk), some (I ((n - m : Nat) : Int)), some (I (j : Nat))]
def lvRV : List Nat := [1, 5, 8, 9, 10]
def vRV (n k i : Nat) : OV := [some (I (k : Nat)), some (I (n : Nat)), some (gw 0 n), some (PP 1), some (I (i : Nat))]
def oSi (h l : Int) (i : Nat) : Option AObj := some (.cells [I h, I l] 75 i 0)
def lvRO : List Nat := [0, 5, 6, 7]
def vRO (b off n cap : Nat) (odd : Bool) (i : Nat) : OV := [some (RS b off n cap), some (I (n : Nat)), some (.bool odd), some (I (i : Nat))]

theorem viA (r : Mem) (b off n cap : Nat) (c : List Value) (odd : Bool) (k : Int) (K : OV → List Nat → OO → CR) (kx : Nat → KS) (KR : OV → List Nat → OO → CR) : run (SC r) 3848290697587 58 1 (.seq VI_0 (.seq VI_1 (.seq VI_2 (.seq VI_3 (.seq VI_4 VI_5))))) (lvlT (SC r) (tVi (RS b off n cap) n c odd) .nil 1 1) none (rbK 0 lvVI [] K) kx (rbK 0 [4] [] KR) (sc0 3848290697587 [RS b off n cap, I k]) (tr0 3848290697587 [RS b off n cap, I k]) [] emptyA =
    bif decide (k < 0) then KR [some (.bool false)] [] [] else bif decide (k > Int.ofNat n) then KR [some (.bool false)] [] [] else bif m_svv [.slice (some ⟨b, off, some 0⟩) n cap, .func (Fn.func 32) ⟨[]⟩ ⟨[]⟩] [.slice (some ⟨b, off, some 0⟩) n cap, .func (Fn.func 32) ⟨[]⟩ ⟨[]⟩] then bif k == Int.ofNat 0 then bif m_svv [.slice (some ⟨b, off, some 0⟩) n cap] [.slice (some ⟨b, off, some 0⟩) n cap] then bif odd then KR [some (.bool true)] [] [] else bif decide (0 ≤ IntKind.wrap .i64 (Int.ofNat n - Int.ofNat 1)) then bif Nat.blt (Int.toNat (IntKind.wrap .i64 (Int.ofNat n - Int.ofNat 1))) n then Option.casesOn c[Nat.add 0 (Nat.mul (Int.toNat (IntKind.wrap .i64 (Int.ofNat n - Int.ofNat 1))) 1)]? (.fail 423) fun val => bif isI IntKind.i64 val then bif decide (ofI val < 0) then KR [some (.bool true)] [] [] else KR [some (.bool false)] [] [] else .fail 420 else .fail 420 else .fail 420 else .fail 420 else bif decide (0 ≤ k) then bif Nat.ble (Int.toNat k) n then bif Nat.ble n n then bif Nat.beq (Int.toNat k) 0 then bif m_nns c && (m_nns [I (IntKind.wrap .i64 (k * IntKind.wrap .i64 (k - Int.ofNat 1)))] && true) then K [some (I k), some (.slice (some ⟨0, 0, none⟩) n unk), some (.slice (some ⟨1, 0, none⟩) 1 1), some (.slice (some ⟨0, 0, none⟩) n unk), some (I (Int.ofNat n)), some (I (Int.ofNat 0))] [] [some (.cells c 3 0 1), some (.cells [I (IntKind.wrap .i64 (k * IntKind.wrap .i64 (k - Int.ofNat 1)))] 3 1 1)] else .fail 420 else bif Nat.blt (Int.toNat k) n then bif m_nns c && (m_nns [I (IntKind.wrap .i64 (k * IntKind.wrap .i64 (k - Int.ofNat 1)))] && true) then K [some (I k), some (.slice (some ⟨0, 0, none⟩) n unk), some (.slice (some ⟨1, 0, none⟩) 1 1), some (.slice (some ⟨0, (Nat.add 0 (Nat.mul (Int.toNat k) 1)), none⟩) (Nat.sub n (Int.toNat k)) unk), some (I (Int.ofNat (Nat.sub n (Int.toNat k)))), some (I (Int.ofNat 0))] [] [some (.cells c 3 0 1), some (.cells [I (IntKind.wrap .i64 (k * IntKind.wrap .i64 (k - Int.ofNat 1)))] 3 1 1)] else .fail 420 else bif m_nns c && (m_nns [I (IntKind.wrap .i64 (k * IntKind.wrap .i64 (k - Int.ofNat 1)))] && true) then K [some (I k), some (.slice (some ⟨0, 0, none⟩) n unk), some (.slice (some ⟨1, 0, none⟩) 1 1), some (.slice (some ⟨0, 0, none⟩) 0 9223372036854775809), some (I (Int.ofNat 0)), some (I (Int.ofNat 0))] [] [some (.cells c 3 0 1), some (.cells [I (IntKind.wrap .i64 (k * IntKind.wrap .i64 (k - Int.ofNat 1)))] 3 1 1)] else .fail 420 else .fail 420 else .fail 420 else .fail 420 else .fail 420 := by kernel_rfl

theorem viB0 (r : Mem) (n m j : Nat) (c : List Value) (x : Int) (fs : FnsC) (K : OV → List Nat → OO → CR) (KX : Nat → OV → List Nat → OO → CR) (kr : KS) : run (SC r) 3848290697587 58 1 VI_6 fs none (rbK 0 lvVI [] K) (fun j => rbK 0 [1, 5, 6] [] (KX j)) kr [] (bT lvVI (vVI n m (.slice (some ⟨1, 0, none⟩) 1 1) j) .nil) [] (mkA [oIn c 0, oIn [I x] 1]) =
    bif decide (Int.ofNat j < Int.ofNat (n - m)) then bif Nat.blt (Int.toNat (Int.ofNat j)) (n - m) then Option.casesOn c[Nat.add m (Nat.mul (Int.toNat (Int.ofNat j)) 1)]? (.fail 423) fun val => bif isI IntKind.i64 val then bif m_nns c && (m_nns [I x, I (bif decide (Int.ofNat m < ofI val) then Int.ofNat m else ofI val)] && true) then K [some (I (Int.ofNat m)), some (.slice (some ⟨0, 0, none⟩) n unk), some (.slice (some ⟨1, 0, none⟩) 2 unk), some (.slice (some ⟨0, m, none⟩) (n - m) unk), some (I (Int.ofNat (n - m))), some (I (IntKind.wrap .i64 (Int.ofNat j + Int.ofNat 1)))] [] [some (.cells c 3 0 1), some (.cells [I x, I (bif decide (Int.ofNat m < ofI val) then Int.ofNat m else ofI val)] 3 1 1)] else .fail 420 else .fail 420 else .fail 420 else bif m_nns c && (m_nns [I x] && true) then KX 0 [some (I (Int.ofNat m)), some (.slice (some ⟨0, 0, none⟩) n unk), some (.slice (some ⟨1, 0, none⟩) 1 1)] [] [some (.cells c 3 0 1), some (.cells [I x] 3 1 1)] else .fail 420 := by kernel_rfl

theorem viB1 (r : Mem) (n m L j : Nat) (c d : List Value) (fs : FnsC) (K : OV → List Nat → OO → CR) (KX : Nat → OV → List Nat → OO → CR) (kr : KS) : run (SC r) 3848290697587 58 1 VI_6 fs none (rbK 0 lvVI [] K) (fun j => rbK 0 [1, 5, 6] [] (KX j)) kr [] (bT lvVI (vVI n m (gw 1 L) j) .nil) [] (mkA [oIn c 0, oIn d 1]) =
    bif decide (Int.ofNat j < Int.ofNat (n - m)) then bif Nat.blt (Int.toNat (Int.ofNat j)) (n - m) then Option.casesOn c[Nat.add m (Nat.mul (Int.toNat (Int.ofNat j)) 1)]? (.fail 423) fun val => bif isI IntKind.i64 val then bif Nat.ble (Nat.add L 1) 1000000 then Option.casesOn (takeAt d 0 (Nat.mul L 1)) (.fail 439) fun val_1 => bif m_nns c && (m_nns (val_1 ++ [I (bif decide (Int.ofNat m < ofI val) then Int.ofNat m else ofI val)]) && true) then K [some (I (Int.ofNat m)), some (.slice (some ⟨0, 0, none⟩) n unk), some (.slice (some ⟨1, 0, none⟩) (Nat.add L 1) unk), some (.slice (some ⟨0, m, none⟩) (n - m) unk), some (I (Int.ofNat (n - m))), some (I (IntKind.wrap .i64 (Int.ofNat j + Int.ofNat 1)))] [] [some (.cells c 3 0 1), some (.cells (val_1 ++ [I (bif decide (Int.ofNat m < ofI val) then Int.ofNat m else ofI val)]) 3 1 1)] else .fail 420 else .fail 420 else .fail 420 else .fail 420 else bif m_nns c && (m_nns d && true) then KX 0 [some (I (Int.ofNat m)), some (.slice (some ⟨0, 0, none⟩) n unk), some (.slice (some ⟨1, 0, none⟩) L unk)] [] [some (.cells c 3 0 1), some (.cells d 3 1 1)] else .fail 420 := by kernel_rfl

theorem viC (r : Mem) (n m L cp : Nat) (c d : List Value) (s : Int) (a b : Value) (ca cb : List Value) (K KR : OV → List Nat → OO → CR) (kx : Nat → KS) : run (SC r) 3848290697587 58 1 VI_7 (lvlT (SC r) (tVc a b ca cb s) .nil 1 1) none (rbK 0 [4] [] K) kx (rbK 0 [4] [] KR) [] (bT [1, 5, 6] [some (I (m : Nat)), some (gw 0 n), some (.slice (some ⟨1, 0, none⟩) L cp)] .nil) [] (mkA [oIn c 0, oIn d 1]) =
    bif Nat.ble (Int.toNat (Int.ofNat m)) n then bif m_svv [.slice (some ⟨0, 0, none⟩) (Int.toNat (Int.ofNat m)) unk, .agg ⟨c⟩, .slice (some ⟨1, 0, none⟩) L cp, .agg ⟨d⟩] [a, .agg ⟨ca⟩, b, .agg ⟨cb⟩] then bif decide (s > 0) then KR [some (.bool true)] [] [] else KR [some (.bool false)] [] [] else .fail 420 else .fail 420 := by kernel_rfl

theorem viB2 (r : Mem) (n m : Nat) (c d : List Value) (fs : FnsC) (K : OV → List Nat → OO → CR) (KX : Nat → OV → List Nat → OO → CR) (kr : KS) : run (SC r) 3848290697587 58 1 VI_6 fs none (rbK 0 lvVI [] K) (fun j => rbK 0 [1, 5, 6] [] (KX j)) kr [] (bT lvVI [some (I (m : Nat)), some (gw 0 n), some (.slice (some ⟨1, 0, none⟩) 1 1), some (.slice (some ⟨0, 0, none⟩) 0 unkE), some (I 0), some (I 0)] .nil) [] (mkA [oIn c 0, oIn d 1]) =
    bif m_nns c && (m_nns d && true) then KX 0 [some (I (Int.ofNat m)), some (.slice (some ⟨0, 0, none⟩) n unk), some (.slice (some ⟨1, 0, none⟩) 1 1)] [] [some (.cells c 3 0 1), some (.cells d 3 1 1)] else .fail 420 := by kernel_rfl

theorem rvA (r : Mem) (b off n cap : Nat) (k : Int) (fs : FnsC) (K : OV → List Nat → OO → CR) (kx : Nat → KS) (KR : OV → List Nat → OO → CR) : run (SC r) 536872947 77 1 (.seq RV_0 (.seq RV_1 (.seq RV_2 RV_3))) fs none (rbK 0 [0, 1, 5, 29] [] K) kx (rbK 0 [4] [] KR) (sc0 536872947 [RS b off n cap, I k]) (tr0 536872947 [RS b off n cap, I k]) [] emptyA =
    bif decide (Int.ofNat n < 1) then KR [some (.bool false)] [] [] else bif decide (Int.ofNat n > 16) then KR [some (.bool false)] [] [] else bif decide (k < 0) then KR [some (.bool false)] [] [] else bif decide (k > Int.ofNat n) then KR [some (.bool false)] [] [] else bif k == Int.ofNat 0 then K [some (.slice (some ⟨b, off, some 0⟩) n cap), some (I k), some (I (Int.ofNat n)), some (.bool true)] [] [] else K [some (.slice (some ⟨b, off, some 0⟩) n cap), some (I k), some (I (Int.ofNat n)), some (.bool false)] [] [] := by kernel_rfl

theorem rvS (r : Mem) (b off n cap : Nat) (k : Int) (fs : FnsC) (K : OV → List Nat → OO → CR) (kx : Nat → KS) (kr : KS) : run (SC r) 536872947 77 1 RV_8 fs none (rbK 0 [0, 1, 5] [] K) kx kr [] (bT [0, 1, 5, 29] [some (RS b off n cap), some (I k), some (I (n : Nat)), some (.bool false)] .nil) [] (mkA []) =
    K [some (.slice (some ⟨b, off, some 0⟩) n cap), some (I k), some (I (Int.ofNat n))] [] [] := by kernel_rfl

theorem rvB (r : Mem) (b off n cap : Nat) (h l : Int) (K : OV → List Nat → OO → CR) (kx : Nat → KS) (kr : KS) : run (SC r) 536872947 77 1 (.seq RV_4 RV_5) (lvlT (SC r) (tRt (RS b off n cap) h l) .nil 1 1) none (rbK 0 lvRO [] K) kx kr [] (bT [0, 1, 5, 29] [some (RS b off n cap), some (I 0), some (I (n : Nat)), some (.bool true)] .nil) [] (mkA []) =
    bif m_svv [.slice (some ⟨b, off, some 0⟩) n cap] [.slice (some ⟨b, off, some 0⟩) n cap] then bif Int.tmod l (Int.ofNat 2) == Int.ofNat 1 then K [some (.slice (some ⟨b, off, some 0⟩) n cap), some (I (Int.ofNat n)), some (.bool true), some (I (Int.ofNat 0))] [] [] else K [some (.slice (some ⟨b, off, some 0⟩) n cap), some (I (Int.ofNat n)), some (.bool false), some (I (Int.ofNat 0))] [] [] else .fail 420 := by kernel_rfl

theorem rvC (r : Mem) (b off n cap i : Nat) (odd : Bool) (fs : FnsC) (K : OV → List Nat → OO → CR) (KX : Nat → OV → List Nat → OO → CR) (kr : KS) : run (SC r) 536872947 77 1 RV_6 fs none (rbK 0 lvRO [] K) (fun j => rbK 0 [6] [] (KX j)) kr [] (bT lvRO (vRO b off n cap odd i) .nil) [] (mkA []) =
    bif decide (Int.ofNat i < Int.ofNat n) then bif odd then K [some (.slice (some ⟨b, off, some 0⟩) n cap), some (I (Int.ofNat n)), some (.bool true), some (I (IntKind.wrap .i64 (Int.ofNat i + Int.ofNat 1)))] [] [] else bif Nat.blt (Int.toNat (Int.ofNat i)) n then Option.casesOn (r b (Nat.add off (Nat.mul (Int.toNat (Int.ofNat i)) 1))) (.fail 423) fun val => bif isI IntKind.i64 val then bif decide (ofI val < 0) then K [some (.slice (some ⟨b, off, some 0⟩) n cap), some (I (Int.ofNat n)), some (.bool true), some (I (IntKind.wrap .i64 (Int.ofNat i + Int.ofNat 1)))] [] [] else K [some (.slice (some ⟨b, off, some 0⟩) n cap), some (I (Int.ofNat n)), some (.bool false), some (I (IntKind.wrap .i64 (Int.ofNat i + Int.ofNat 1)))] [] [] else .fail 420 else .fail 420 else KX 0 [some (.bool odd)] [] [] := by kernel_rfl

theorem rvD (r : Mem) (odd : Bool) (fs : FnsC) (kn : KS) (KR : OV → List Nat → OO → CR) (kx : Nat → KS) : run (SC r) 536872947 77 1 RV_7 fs none kn kx (rbK 0 [4] [] KR) [] (bT [6] [some (.bool odd)] .nil) [] (mkA []) =
    bif odd then KR [some (.bool true)] [] [] else KR [some (.bool false)] [] [] := by kernel_rfl

theorem rvE (r : Mem) (b off n cap k : Nat) (c : List Value) (K : OV → List Nat → OO → CR) (kx : Nat → KS) (kr : KS) : run (SC r) 536872947 77 1 (.seq RV_9 (.seq RV_10 RV_11)) (lvlT (SC r) (tRv (RS b off n cap) n c) .nil 1 1) none (rbK 0 lvRV [] K) kx kr [] (bT [0, 1, 5] [some (RS b off n cap), some (I (k : Nat)), some (I (n : Nat))] .nil) [] (mkA []) =
    bif m_svv [.slice (some ⟨b, off, some 0⟩) n cap] [.slice (some ⟨b, off, some 0⟩) n cap] then bif m_okP (Int.ofNat 0) (Int.ofNat 0) (IntKind.wrap .i64 (Int.ofNat k * IntKind.wrap .i64 (Int.ofNat k - Int.ofNat 1))) then bif m_nns c && (m_nns [I (m_ph (Int.ofNat 0) (Int.ofNat 0) (IntKind.wrap .i64 (Int.ofNat k * IntKind.wrap .i64 (Int.ofNat k - Int.ofNat 1)))), I (m_pl (Int.ofNat 0) (Int.ofNat 0) (IntKind.wrap .i64 (Int.ofNat k * IntKind.wrap .i64 (Int.ofNat k - Int.ofNat 1))))] && true) then K [some (I (Int.ofNat k)), some (I (Int.ofNat n)), some (.slice (some ⟨0, 0, none⟩) n unk), some (.pointer (some ⟨1, 0, none⟩)), some (I (Int.ofNat k))] [] [some (.cells c 3 0 1), some (.cells [I (m_ph (Int.ofNat 0) (Int.ofNat 0) (IntKind.wrap .i64 (Int.ofNat k * IntKind.wrap .i64 (Int.ofNat k - Int.ofNat 1)))), I (m_pl (Int.ofNat 0) (Int.ofNat 0) (IntKind.wrap .i64 (Int.ofNat k * IntKind.wrap .i64 (Int.ofNat k - Int.ofNat 1))))] 75 1 0)] else .fail 420 else .fail 420 else .fail 420 := by kernel_rfl

theorem rvF (r : Mem) (n k i : Nat) (c : List Value) (h l : Int) (K : OV → List Nat → OO → CR) (KX : Nat → OV → List Nat → OO → CR) (kr : KS) : run (SC r) 536872947 77 1 RV_12 (lvlT (SC r) tPl .nil 1 1) none (rbK 0 lvRV [] K) (fun j => rbK 0 [1, 8, 9] [] (KX j)) kr [] (bT lvRV (vRV n k i) .nil) [] (mkA [oIn c 0, oSi h l 1]) =
    bif decide (Int.ofNat i < Int.ofNat n) then bif Nat.blt (Int.toNat (Int.ofNat i)) n then Option.casesOn c[Nat.add 0 (Nat.mul (Int.toNat (Int.ofNat i)) 1)]? (.fail 423) fun val => bif isI IntKind.i64 val then bif m_okP h l (bif decide (Int.ofNat k < ofI val) then Int.ofNat k else ofI val) then bif m_eqv (I (bif decide (Int.ofNat k < ofI val) then Int.ofNat k else ofI val)) (I (bif decide (Int.ofNat k < ofI val) then Int.ofNat k else ofI val)) then Option.casesOn c[Nat.add 0 (Nat.mul (Int.toNat (Int.ofNat i)) 1)]? (.fail 423) fun val_1 => bif isI IntKind.i64 val_1 then bif m_eqv (I (ofI val_1)) (I (ofI val)) then bif m_eqv (.agg ⟨[I h, I l]⟩) (.agg ⟨[I h, I l]⟩) then bif m_nns c && (m_nns [I (m_ph h l (bif decide (Int.ofNat k < ofI val) then Int.ofNat k else ofI val)), I (m_pl h l (bif decide (Int.ofNat k < ofI val) then Int.ofNat k else ofI val))] && true) then K [some (I (Int.ofNat k)), some (I (Int.ofNat n)), some (.slice (some ⟨0, 0, none⟩) n unk), some (.pointer (some ⟨1, 0, none⟩)), some (I (IntKind.wrap .i64 (Int.ofNat i + Int.ofNat 1)))] [] [some (.cells c 3 0 1), some (.cells [I (m_ph h l (bif decide (Int.ofNat k < ofI val) then Int.ofNat k else ofI val)), I (m_pl h l (bif decide (Int.ofNat k < ofI val) then Int.ofNat k else ofI val))] 75 1 0)] else .fail 420 else .fail 420 else .fail 420 else .fail 420 else .fail 420 else .fail 420 else .fail 420 else .fail 420 else bif m_nns c && (m_nns [I h, I l] && true) then KX 2 [some (I (Int.ofNat k)), some (.slice (some ⟨0, 0, none⟩) n unk), some (.pointer (some ⟨1, 0, none⟩))] [] [some (.cells c 3 0 1), some (.cells [I h, I l] 75 1 0)] else .fail 420 := by kernel_rfl

theorem rvG (r : Mem) (n k : Nat) (c : List Value) (S T : Int) (v : Bool) (a : Value) (ca : List Value) (K KR : OV → List Nat → OO → CR) (kx : Nat → KS) : run (SC r) 536872947 77 1 RV_13 (lvlT (SC r) (tRz a ca S T v) .nil 1 1) none (rbK 0 [4] [] K) kx (rbK 0 [4] [] KR) [] (bT [1, 8, 9] [some (I (k : Nat)), some (gw 0 n), some (PP 1)] .nil) [] (mkA [oIn c 0, oSi (S / 4294967296) (S % 4294967296) 1]) =
    bif Nat.ble (Int.toNat (Int.ofNat k)) n then bif m_svv [.slice (some ⟨0, 0, none⟩) (Int.toNat (Int.ofNat k)) unk, .agg ⟨c⟩] [a, .agg ⟨ca⟩] then bif m_svv [.agg ⟨[I (S / Int.ofNat 4294967296), I (S % Int.ofNat 4294967296)]⟩, .agg ⟨[I (T / Int.ofNat 4294967296), I (T % Int.ofNat 4294967296)]⟩] [.agg ⟨[I (S / Int.ofNat 4294967296), I (S % Int.ofNat 4294967296)]⟩, .agg ⟨[I (T / Int.ofNat 4294967296), I (T % Int.ofNat 4294967296)]⟩] then bif v then bif Nat.ble (Int.toNat (Int.ofNat k)) n then bif m_eqv (.slice (some ⟨0, 0, none⟩) (Int.toNat (Int.ofNat k)) unk) (.slice (some ⟨0, 0, none⟩) (Int.toNat (Int.ofNat k)) unk) then bif m_eqv (.agg ⟨[I (S / Int.ofNat 4294967296), I (S % Int.ofNat 4294967296)]⟩) (.agg ⟨[I (S / Int.ofNat 4294967296), I (S % Int.ofNat 4294967296)]⟩) then bif m_eqv (.agg ⟨[I (S / Int.ofNat 4294967296), I (S % Int.ofNat 4294967296)]⟩) (.agg ⟨[I (S / Int.ofNat 4294967296), I (S % Int.ofNat 4294967296)]⟩) then KR [some (.bool true)] [] [] else .fail 420 else .fail 420 else .fail 420 else .fail 420 else bif Nat.ble (Int.toNat (Int.ofNat k)) n then bif m_eqv (.slice (some ⟨0, 0, none⟩) (Int.toNat (Int.ofNat k)) unk) (.slice (some ⟨0, 0, none⟩) (Int.toNat (Int.ofNat k)) unk) then bif m_eqv (.agg ⟨[I (S / Int.ofNat 4294967296), I (S % Int.ofNat 4294967296)]⟩) (.agg ⟨[I (S / Int.ofNat 4294967296), I (S % Int.ofNat 4294967296)]⟩) then bif m_eqv (.agg ⟨[I (S / Int.ofNat 4294967296), I (S % Int.ofNat 4294967296)]⟩) (.agg ⟨[I (S / Int.ofNat 4294967296), I (S % Int.ofNat 4294967296)]⟩) then KR [some (.bool false)] [] [] else .fail 420 else .fail 420 else .fail 420 else .fail 420 else .fail 420 else .fail 420 else .fail 420 := by kernel_rfl

end Go.Proofs

/- A condition between pieces of code. -/
set_option linter.unusedVariables false
set_option linter.unusedSimpArgs false
namespace Go.Ev
open Go

theorem Reach.condT {C : Cfg} {m n : Nat} {F : Fence} {k : Nat} {γ0 : Gam} {W0 : World} {c : Operand} {x y : Code} {st : St} {Q : Exit → St → Prop} (h : opd m st.en c = some (.bool true)) (hx : Reach C m n F k γ0 W0 x st Q) : Reach C m n F k γ0 W0 (.cond c x y) st Q := fun γ a W hs hb => by
 have hv := opd_rel hs.tm h
 refine wpIn_cond_true (c := c) ?_ (hx γ a W hs hb)
 generalize a.eval c = v at hv
 cases hv
 rfl
theorem Reach.condF {C : Cfg} {m n : Nat} {F : Fence} {k : Nat} {γ0 : Gam} {W0 : World} {c : Operand} {x y : Code} {st : St} {Q : Exit → St → Prop} (h : opd m st.en c = some (.bool false)) (hx : Reach C m n F k γ0 W0 y st Q) : Reach C m n F k γ0 W0 (.cond c x y) st Q := fun γ a W hs hb => by
 have hv := opd_rel hs.tm h
 refine wpIn_cond_false (c := c) ?_ (hx γ a W hs hb)
 generalize a.eval c = v at hv
 cases hv
 rfl
end Go.Ev

/- Violations: what the calls answer. -/
namespace Go.Num
def dN (z : Nat → Int) (n j : Nat) : Int := (fL z n).getD j 0
def bfN (z : Nat → Int) (n k : Nat) : Nat → Int
 | 0 => (k : Int) * ((k : Int) - 1)
 | j + 1 => min (dN z n (k + j)) (k : Nat)
def viB (z : Nat → Int) (n : Nat) (k : Int) : Bool :=
 if k < 0 ∨ (n : Int) < k then false else if k = 0 then suN z n % 2 == 1 || decide (dN z n (n - 1) < 0) else decide (suN (bfN z n k.toNat) (n - k.toNat + 1) < suN (dN z n) k.toNat)
def ngN (z : Nat → Int) (odd : Bool) : Nat → Bool
 | 0 => odd
 | i + 1 => ngN z odd i || decide (z i < 0)
theorem ngN_iff (z : Nat → Int) (odd : Bool) : ∀ n, ngN z odd n = true ↔ odd = true ∨ ∃ i, i < n ∧ z i < 0
 | 0 => by simp [ngN]
 | n + 1 => by
  rw [ngN, Bool.or_eq_true, ngN_iff z odd n, decide_eq_true_eq]
  constructor
  ·rintro ((h | ⟨i, h1, h2⟩) | h)
   ·exact .inl h
   ·exact .inr ⟨i, by omega, h2⟩
   ·exact .inr ⟨n, by omega, h⟩
  ·rintro (h | ⟨i, h1, h2⟩)
   ·exact .inl (.inl h)
   ·by_cases c : i = n
    ·subst c; exact .inr h2
    ·exact .inl (.inr ⟨i, by omega, h2⟩)
theorem dN_last {z : Nat → Int} {n : Nat} (h1 : 1 ≤ n) : dN z n (n - 1) < 0 ↔ ∃ i, i < n ∧ z i < 0 := by
 have hlen := fL_len z n
 have hl : n - 1 < (fL z n).length := by omega
 have hg : dN z n (n - 1) = (fL z n)[n - 1] := by unfold dN; rw [List.getD_eq_getElem?_getD, List.getElem?_eq_getElem hl]; rfl
 constructor
 ·intro h
  have hm := (fL_perm z n).mem_iff.1 (List.getElem_mem hl)
  obtain ⟨i, hi, he⟩ := List.mem_map.1 hm
  exact ⟨i, List.mem_range.1 hi, by rw [he, ← hg]; exact h⟩
 ·rintro ⟨i, hi, hz⟩
  have hm : z i ∈ fL z n := (fL_perm z n).mem_iff.2 (List.mem_map.2 ⟨i, List.mem_range.2 hi, rfl⟩)
  obtain ⟨t, ht, he⟩ := List.mem_iff_getElem.1 hm
  rw [hg]
  by_cases c : t = n - 1
  ·subst c; rw [he]; exact hz
  ·have := List.pairwise_iff_getElem.1 (fL_srt z n) t (n - 1) ht hl (by omega)
   omega
theorem ngN_eq {z : Nat → Int} {n : Nat} (h1 : 1 ≤ n) (odd : Bool) : ngN z odd n = (odd || decide (dN z n (n - 1) < 0)) := by
 rw [Bool.eq_iff_iff, ngN_iff, Bool.or_eq_true, decide_eq_true_eq, dN_last h1]
theorem bf_su {z : Nat → Int} {n k : Nat} : ∀ j, suN (bfN z n k) (j + 1) = (k : Int) * ((k : Int) - 1) + suN (fun j => min (dN z n (k + j)) (k : Nat)) j
 | 0 => by simp [suN, bfN]
 | j + 1 => by
  rw [suN, bf_su j, suN]
  show _ + bfN z n k (j + 1) = _
  rw [bfN]
  omega
theorem kk_bd {k : Nat} (h : k ≤ 16) : 0 ≤ (k : Int) * ((k : Int) - 1) ∧ (k : Int) * ((k : Int) - 1) ≤ 1000 := by
 have : ∀ k : Fin 17, 0 ≤ ((k.val : Nat) : Int) * (((k.val : Nat) : Int) - 1) ∧ ((k.val : Nat) : Int) * (((k.val : Nat) : Int) - 1) ≤ 1000 := by decide
 exact this ⟨k, by omega⟩
theorem dN_64 {z : Nat → Int} {n : Nat} (h : ∀ j, j < n → s64 (z j)) : ∀ j, j < n → s64 (dN z n j) := fL_mem h
theorem bf_64 {z : Nat → Int} {n k : Nat} (h : ∀ j, j < n → s64 (z j)) (hk : k ≤ 16) (hkn : k ≤ n) : ∀ j, j < n - k + 1 → s64 (bfN z n k j)
 | 0, _ => by
  have := kk_bd hk
  unfold s64
  rw [bfN]
  omega
 | j + 1, hj => by
  have := dN_64 h (k + j) (by omega)
  unfold s64 at *
  rw [bfN]
  omega
end Go.Num
namespace Go.Proofs
open Go Go.Ev Go.Num
set_option linter.unusedVariables false
set_option linter.unusedSimpArgs false
set_option maxRecDepth 100000

theorem min_bif (k : Nat) (d : Int) : (bif decide ((k : Int) < d) then (k : Int) else d) = min d (k : Nat) := by
 by_cases c : (k : Int) < d
 ·rw [dT c, cond_true]; omega
 ·rw [dF c, cond_false]; omega

section
variable {r : Mem} {n k : Nat} {z : Nat → Int}

theorem gTwo_use {fa fb : Nat → Int} {la lb ca cb na nb : Nat} {args : List Value} {A : AW} (h1 : Nat.beq ca unkE = false) (h2 : Nat.beq cb unkE = false) (hg : gTwo (.slice (some ⟨0, 0, none⟩) la ca) (.slice (some ⟨1, 0, none⟩) lb cb) (ixN fa na) (ixN fb nb) args A = true) (hla : la ≤ na) (hlb : lb ≤ nb) {γ : Gam} {W : World} (hw : WRel γ A W) (hR : Ro r γ W) {args' : Array Value} (ha : VsRel γ args args'.toList) :
  ∃ b k b' k', VsRel noG [RS b k la 0, RS b' k' lb 0] args'.toList ∧ rowAt (memW W) b k la fa ∧ rowAt (memW W) b' k' lb fb := by
 unfold gTwo at hg
 split at hg
 ·rename_i i x l p j y l' p'
  split at hg
  ·rename_i ci e f zz cj e' f' zz' hi hj
   have hs := @of_decide_eq_true _ (Classical.propDecidable _) hg
   simp only [List.cons.injEq, Value.slice.injEq, Option.some.injEq, Addr.mk.injEq, Value.agg.injEq, Array.mk.injEq, and_true, true_and] at hs
   obtain ⟨⟨rfl, rfl, rfl⟩, rfl, ⟨rfl, rfl, rfl⟩, rfl⟩ := hs
   obtain ⟨la⟩ := args'
   cases ha with
   | cons hv hrest =>
   cases hrest with
   | cons hv2 hrest =>
   cases hrest
   obtain ⟨b, k, p1, p2⟩ := own_row hw hR h1 hi hv
   obtain ⟨b', k', q1, q2⟩ := own_row hw hR h2 hj hv2
   exact ⟨b, k, b', k', .cons p1 (.cons q1 .nil), fun j hj => p2 j _ (ix_get (by omega)) rfl, fun j hj => q2 j _ (ix_get (by omega)) rfl⟩
  ·cases hg
 ·cases hg
theorem gOne_use {fa : Nat → Int} {la ca na : Nat} {args : List Value} {A : AW} (h1 : Nat.beq ca unkE = false) (hg : gOne (.slice (some ⟨0, 0, none⟩) la ca) (ixN fa na) args A = true) (hla : la ≤ na) {γ : Gam} {W : World} (hw : WRel γ A W) (hR : Ro r γ W) {args' : Array Value} (ha : VsRel γ args args'.toList) :
  ∃ b k, VsRel noG [RS b k la 0] args'.toList ∧ rowAt (memW W) b k la fa := by
 unfold gOne at hg
 split at hg
 ·rename_i i x l p
  split at hg
  ·rename_i ci e f zz hi
   have hs := @of_decide_eq_true _ (Classical.propDecidable _) hg
   simp only [List.cons.injEq, Value.slice.injEq, Option.some.injEq, Addr.mk.injEq, Value.agg.injEq, Array.mk.injEq, and_true, true_and] at hs
   obtain ⟨⟨rfl, rfl, rfl⟩, rfl⟩ := hs
   obtain ⟨la⟩ := args'
   cases ha with
   | cons hv hrest =>
   cases hrest
   obtain ⟨b, k, p1, p2⟩ := own_row hw hR h1 hi hv
   exact ⟨b, k, .cons p1 .nil, fun j hj => p2 j _ (ix_get (by omega)) rfl⟩
  ·cases hg
 ·cases hg
theorem fL_ix (z : Nat → Int) (n : Nat) : rowI (fL z n) = ixN (dN z n) n := by
 apply List.ext_getElem?
 intro j
 by_cases c : j < n
 ·rw [rowI_get (by rw [fL_len]; exact c), ix_get c]
  rfl
 ·rw [List.getElem?_eq_none (by rw [rowI_len, fL_len]; omega), List.getElem?_eq_none (by rw [ix_len]; omega)]

theorem tVc_ok (h64 : ∀ j, j < n → s64 (z j)) (hn : n ≤ 16) (hk : k ≤ n) {cb : Nat} (hcb : Nat.beq cb unkE = false) : TOk (SC r) (tVc (.slice (some ⟨0, 0, none⟩) k unk) (.slice (some ⟨1, 0, none⟩) (n - k + 1) cb) (ixN (dN z n) n) (ixN (bfN z n k) (n - k + 1)) (m_cmpI (suN (dN z n) k) (suN (bfN z n k) (n - k + 1)))) :=
 TOk.nil.cons (EOk.ent fun args A hg => POk.of rfl fun γ W args' hw hR ha => by
  obtain ⟨b, k1, b', k', p1, p2, p3⟩ := gTwo_use (by decide) hcb hg hk (Nat.le_refl _) hw hR ha
  exact ⟨memW W, _, memW_ro W, p1, cs_ok p2 (fun j hj => dN_64 h64 j (by omega)) (by omega) p3 (bf_64 h64 (by omega) hk) (by omega)⟩)
end

end Go.Proofs

/- score's violations: what the call answers. -/
namespace Go.Proofs
open Go Go.Ev Go.Num
set_option linter.unusedVariables false
set_option linter.unusedSimpArgs false
set_option maxRecDepth 100000

def cBd (j : Nat) : Nat := if j = 0 then 1 else unk
abbrev bBd (j : Nat) : Value := .slice (some ⟨1, 0, none⟩) (j + 1) (cBd j)
theorem cBd_ne (j : Nat) : Nat.beq (cBd j) unkE = false := by
 unfold cBd
 split <;> decide
theorem cmpI_gt (a b : Int) : decide (m_cmpI a b > 0) = decide (b < a) := by
 unfold m_cmpI
 by_cases c : a < b
 ·rw [if_pos c, dF (by omega), dF (by omega)]
 ·by_cases d : b < a
  ·rw [if_neg c, if_pos d, dT (by omega), dT d]
  ·rw [if_neg c, if_neg d, dF (by omega), dF d]

section
variable {r : Mem} {b off n cap : Nat} {z : Nat → Int}
theorem tVi_ok (hz : rowAt r b off n z) (h1 : 1 ≤ n) (hn : n ≤ 16) (hcap : cap ≠ unkE) : TOk (SC r) (tVi (RS b off n cap) n (ixN (dN z n) n) (suN z n % 2 == 1)) := by
 refine (TOk.nil.cons (EOk.ent fun args A hg => ?_)).cons fun args A hgd F hF k γ W args' hw hR ha => ⟨fun hcc => ?_, fun h => nomatch h⟩
 ·have hs := @of_decide_eq_true _ (Classical.propDecidable _) hg
  subst hs
  exact (od_ok (cap := cap) hz (by omega)).ro rfl A
 ·have hs := @of_decide_eq_true _ (Classical.propDecidable _) hgd
  subst hs
  have hof : ofV 0 (gw 0 n) = true := by simp [ofV, of1]
  have h := so_ok hz h1 (by omega) hcap
  rw [fL_ix] at h
  exact h.ends (γ := γ) (A := A) hof (ix_gnd _ _) hF hw (hR.noG noG fun _ => rfl) (ha.of_ros rfl) ha

theorem vi_rnd {m j : Nat} (hn : n ≤ 16) (hm : m < n) (hj : j < n - m) (fs : FnsC) (K : OV → List Nat → OO → CR) (KX : Nat → OV → List Nat → OO → CR) (kr : KS) :
  run (SC r) 3848290697587 58 1 VI_6 fs none (rbK 0 lvVI [] K) (fun j => rbK 0 [1, 5, 6] [] (KX j)) kr [] (bT lvVI (vVI n m (bBd j) j) .nil) [] (mkA [oIn (ixN (dN z n) n) 0, oIn (ixN (bfN z n m) (j + 1)) 1]) =
   K (vVI n m (bBd (j + 1)) (j + 1)) [] [oIn (ixN (dN z n) n) 0, oIn (ixN (bfN z n m) (j + 1 + 1)) 1] := by
 have c1 : (j : Int) < ((n - m : Nat) : Int) := by omega
 have c3 : Nat.blt j (n - m) = true := Nat.ble_eq_true_of_le (by omega)
 have e1 : (ixN (dN z n) n)[m + j]? = some (I (dN z n (m + j))) := ix_get (by omega)
 have e3 := inc1' (k := j) (by omega)
 have nc : m_nns (ixN (dN z n) n) = true := ix_nn _ _
 have hb : ∀ k, ixN (bfN z n m) (k + 1) ++ [I (min (dN z n (m + k)) (m : Nat))] = ixN (bfN z n m) (k + 1 + 1) := fun k => by
  rw [rowI_ix, rowI_app, rowI_ix, List.range_succ (n := k + 1), List.map_append]
  rfl
 simp only [Int.ofNat_eq_natCast] at e3
 by_cases j0 : j = 0
 ·subst j0
  have hn' := viB0 r n m 0 (ixN (dN z n) n) ((m : Int) * ((m : Int) - 1)) fs K KX kr
  simp only [Int.ofNat_eq_natCast, Int.toNat_natCast, Nat.add_eq, Nat.mul_eq, Nat.mul_one] at hn'
  simp only [dT c1, c3, cond_true, e1, isI_I, e3, nc] at hn'
  dsimp +instances only [ofI_I] at hn'
  simp only [min_bif] at hn'
  refine hn'.trans ?_
  have h2 : [I ((m : Int) * ((m : Int) - 1)), I (min (dN z n (m + 0)) (m : Nat))] = ixN (bfN z n m) 2 := rfl
  rw [h2, ix_nn]
  rfl
 ·have hn' := viB1 r n m (j + 1) j (ixN (dN z n) n) (ixN (bfN z n m) (j + 1)) fs K KX kr
  have g1 : Nat.ble (j + 1 + 1) 1000000 = true := Nat.ble_eq_true_of_le (by omega)
  have g2 : takeAt (ixN (bfN z n m) (j + 1)) 0 (j + 1) = some (ixN (bfN z n m) (j + 1)) := takeL_row _ _ (ix_len _ _)
  simp only [Int.ofNat_eq_natCast, Int.toNat_natCast, Nat.add_eq, Nat.mul_eq, Nat.mul_one] at hn'
  simp only [dT c1, c3, cond_true, e1, isI_I, e3, nc, g1, g2] at hn'
  dsimp +instances only [ofI_I] at hn'
  simp only [min_bif, hb, ix_nn, Bool.and_true, cond_true] at hn'
  have q1 : bBd j = gw 1 (j + 1) := by show Value.slice _ _ (cBd j) = _; unfold cBd; rw [if_neg j0]
  have q2 : bBd (j + 1) = gw 1 (j + 1 + 1) := by show Value.slice _ _ (cBd (j + 1)) = _; unfold cBd; rw [if_neg (by omega)]
  rw [q1, q2]
  exact hn'
theorem vi_out {m : Nat} (fs : FnsC) (K : OV → List Nat → OO → CR) (KX : Nat → OV → List Nat → OO → CR) (kr : KS) :
  run (SC r) 3848290697587 58 1 VI_6 fs none (rbK 0 lvVI [] K) (fun j => rbK 0 [1, 5, 6] [] (KX j)) kr [] (bT lvVI (vVI n m (bBd (n - m)) (n - m)) .nil) [] (mkA [oIn (ixN (dN z n) n) 0, oIn (ixN (bfN z n m) (n - m + 1)) 1]) =
   KX 0 [some (I (m : Nat)), some (gw 0 n), some (bBd (n - m))] [] [oIn (ixN (dN z n) n) 0, oIn (ixN (bfN z n m) (n - m + 1)) 1] := by
 have c1 : ¬ Int.ofNat (n - m) < Int.ofNat (n - m) := by omega
 by_cases j0 : n - m = 0
 ·have hn' := viB0 r n m (n - m) (ixN (dN z n) n) ((m : Int) * ((m : Int) - 1)) fs K KX kr
  have nd : m_nns [I ((m : Int) * ((m : Int) - 1))] = true := rfl
  simp only [dF c1, cond_false, ix_nn, nd, Bool.and_self, cond_true] at hn'
  have h2 : ixN (bfN z n m) (n - m + 1) = [I ((m : Int) * ((m : Int) - 1))] := by rw [j0]; rfl
  have q1 : bBd (n - m) = .slice (some ⟨1, 0, none⟩) 1 1 := by rw [j0]; rfl
  rw [h2, q1]
  exact hn'
 ·have hn' := viB1 r n m (n - m + 1) (n - m) (ixN (dN z n) n) (ixN (bfN z n m) (n - m + 1)) fs K KX kr
  simp only [dF c1, cond_false, ix_nn, Bool.and_self, cond_true] at hn'
  have q1 : bBd (n - m) = gw 1 (n - m + 1) := by show Value.slice _ _ (cBd (n - m)) = _; unfold cBd; rw [if_neg j0]
  rw [q1]
  exact hn'

theorem vi_ok (hz : rowAt r b off n z) (h64 : ∀ j, j < n → s64 (z j)) (h1 : 1 ≤ n) (hn : n ≤ 16) (hcap : cap ≠ unkE) (k : Int) : GrT Tryz.prog r 15 [RS b off n cap, I k] (.bool (viB z n k)) := by
 refine GrT.ofS (C := SC r) rfl rfl rfl (callO (SC_ok r) (by kernel_rfl) ((bodySC r _).trans VI_eq) (nt := 58) (by kernel_rfl) (rs := [.tmp 4]) (by kernel_rfl) 3848290697587 rfl ⟨[4], [], fun vs ms os => vs = [some (.bool (viB z n k))] ∧ ms = [] ∧ os = []⟩ ?_ fun γ W F kk hwr hF hro h0' => ?_)
 ·rintro vs ms os ⟨rfl, rfl, rfl⟩
  exact ⟨_, mkA [], by kernel_rfl, rfl⟩
 have h0' : ∀ i, 0 ≤ i → γ i = none := h0'
 have nc : m_nns (ixN (dN z n) n) = true := ix_nn _ _
 have hA := viA r b off n cap (ixN (dN z n) n) (suN z n % 2 == 1) k
 refine Go.Ev.Reach.after3R (SC_ok r) (tVi_ok hz h1 hn hcap) (tm := .nil) (L := 1) (L' := 1) (d := 1) hF hro h0' (.step (.step (.step (.step (.step .base)))))
  (o1 := ⟨lvVI, [], fun vs ms os => ∃ m : Nat, 1 ≤ m ∧ m ≤ n ∧ k = m ∧ ((m < n ∧ vs = vVI n m (bBd 0) 0) ∨ (m = n ∧ vs = [some (I (m : Nat)), some (gw 0 n), some (.slice (some ⟨1, 0, none⟩) 1 1), some (.slice (some ⟨0, 0, none⟩) 0 unkE), some (I 0), some (I 0)])) ∧ ms = [] ∧ os = [oIn (ixN (dN z n) n) 0, oIn (ixN (bfN z n m) 1) 1]⟩)
  (o2 := ⟨[1, 5, 6], [], fun vs ms os => ∃ m : Nat, 1 ≤ m ∧ m ≤ n ∧ k = m ∧ vs = [some (I (m : Nat)), some (gw 0 n), some (bBd (n - m))] ∧ ms = [] ∧ os = [oIn (ixN (dN z n) n) 0, oIn (ixN (bfN z n m) (n - m + 1)) 1]⟩) [] (fun p hp => nomatch hp) ?_ ?_ ?_
 ·rintro vs ms os ⟨m, hm1, hmn, rfl, hv, rfl, rfl⟩
  rcases hv with ⟨hlt, rfl⟩ | ⟨rfl, rfl⟩
  ·refine Go.Ev.Reach.blockC (Go.Ev.Reach.loopC (j := n - m) (lv := lvVI) (fl := []) (I := fun q vs ms os => ∃ j, j ≤ n - m ∧ q = n - m - j ∧ vs = vVI n m (bBd j) j ∧ ms = [] ∧ os = [oIn (ixN (dN z n) n) 0, oIn (ixN (bfN z n m) (j + 1)) 1]) (fun q vs ms os hJ => ?_) ⟨0, by omega, rfl, rfl, rfl, rfl⟩)
   obtain ⟨j, hj, rfl, rfl, rfl, rfl⟩ := hJ
   refine Go.Ev.Reach.segR (SC_ok r) TOk.nil (tm := .nil) (L := 1) (L' := 1) (d := 1) hF hro h0' [(0, ⟨[1, 5, 6], [], fun vs ms os => ∃ m' : Nat, 1 ≤ m' ∧ m' ≤ n ∧ (m : Int) = m' ∧ vs = [some (I (m' : Nat)), some (gw 0 n), some (bBd (n - m'))] ∧ ms = [] ∧ os = [oIn (ixN (dN z n) n) 0, oIn (ixN (bfN z n m') (n - m' + 1)) 1]⟩)] (fun p hp => by simp only [List.mem_cons, List.not_mem_nil, or_false] at hp; subst hp; rfl) ?_
   by_cases c : j < n - m
   ·exact (vi_rnd hn hlt c _ _ _ _).trans (qq_ok ⟨n - m - (j + 1), by omega, j + 1, by omega, rfl, rfl, rfl, rfl⟩)
   ·obtain rfl : j = n - m := by omega
    exact (vi_out _ _ _ _).trans (qq_ok ⟨m, hm1, hmn, rfl, rfl, rfl, rfl⟩)
  ·refine Go.Ev.Reach.blockC (Go.Ev.Reach.loopC (j := 0) (lv := lvVI) (fl := []) (I := fun q vs ms os => vs = [some (I (m : Nat)), some (gw 0 m), some (.slice (some ⟨1, 0, none⟩) 1 1), some (.slice (some ⟨0, 0, none⟩) 0 unkE), some (I 0), some (I 0)] ∧ ms = [] ∧ os = [oIn (ixN (dN z m) m) 0, oIn (ixN (bfN z m m) 1) 1]) (fun q vs ms os hJ => ?_) ⟨rfl, rfl, rfl⟩)
   obtain ⟨rfl, rfl, rfl⟩ := hJ
   refine Go.Ev.Reach.segR (SC_ok r) TOk.nil (tm := .nil) (L := 1) (L' := 1) (d := 1) hF hro h0' [(0, ⟨[1, 5, 6], [], fun vs ms os => ∃ m' : Nat, 1 ≤ m' ∧ m' ≤ m ∧ (m : Int) = m' ∧ vs = [some (I (m' : Nat)), some (gw 0 m), some (bBd (m - m'))] ∧ ms = [] ∧ os = [oIn (ixN (dN z m) m) 0, oIn (ixN (bfN z m m') (m - m' + 1)) 1]⟩)] (fun p hp => by simp only [List.mem_cons, List.not_mem_nil, or_false] at hp; subst hp; rfl) ?_
   have hn' := viB2 r m m (ixN (dN z m) m) (ixN (bfN z m m) 1)
   simp only [ix_nn, Bool.and_self, cond_true] at hn'
   refine (hn' _ _ _ _).trans (qq_ok ⟨m, hm1, Nat.le_refl _, rfl, ?_, rfl, ?_⟩)
   ·rw [Nat.sub_self]; rfl
   ·rw [Nat.sub_self]; rfl
 ·rintro vs ms os ⟨m, hm1, hmn, rfl, rfl, rfl, rfl⟩
  refine Go.Ev.Reach.segR (SC_ok r) (tVc_ok h64 hn hmn (cBd_ne (n - m))) (tm := .nil) (L := 1) (L' := 1) (d := 1) hF hro h0' [] (fun p hp => nomatch hp) ?_
  have hn' := viC r n m (n - m + 1) (cBd (n - m)) (ixN (dN z n) n) (ixN (bfN z n m) (n - m + 1)) (m_cmpI (suN (dN z n) m) (suN (bfN z n m) (n - m + 1))) (.slice (some ⟨0, 0, none⟩) m unk) (bBd (n - m)) (ixN (dN z n) n) (ixN (bfN z n m) (n - m + 1))
  have g1 : Nat.ble m n = true := Nat.ble_eq_true_of_le hmn
  have hv : viB z n (m : Nat) = decide (suN (bfN z n m) (n - m + 1) < suN (dN z n) m) := by
   unfold viB
   rw [if_neg (by omega), if_neg (by omega), Int.toNat_natCast]
  simp only [Int.ofNat_eq_natCast, Int.toNat_natCast, g1, svv_rfl, cond_true, cmpI_gt] at hn'
  refine (hn' _ _ _).trans ?_
  rw [hv]
  cases decide (suN (bfN z n m) (n - m + 1) < suN (dN z n) m) <;> exact qq_ok ⟨rfl, rfl, rfl⟩
 ·refine (hA _ _ _).trans ?_
  by_cases c1 : k < 0
  ·have hv : viB z n k = false := by unfold viB; rw [if_pos (.inl c1)]
   rw [dT c1, cond_true, hv]
   exact qq_ok ⟨rfl, rfl, rfl⟩
  ·by_cases c2 : k > Int.ofNat n
   ·have hv : viB z n k = false := by unfold viB; rw [if_pos (.inr c2)]
    rw [dF c1, cond_false, dT c2, cond_true, hv]
    exact qq_ok ⟨rfl, rfl, rfl⟩
   ·obtain ⟨m, rfl⟩ := Int.eq_ofNat_of_zero_le (show 0 ≤ k by omega)
    have c2' : (m : Int) ≤ n := by simpa using c2
    rw [dF c1, cond_false, dF c2, cond_false, svv_rfl, cond_true]
    by_cases c3 : m = 0
    ·subst c3
     have hv : viB z n ((0 : Nat) : Int) = (suN z n % 2 == 1 || decide (dN z n (n - 1) < 0)) := by unfold viB; rw [if_neg (by omega), if_pos (show ((0 : Nat) : Int) = 0 from rfl)]
     rw [eqT (show ((0 : Nat) : Int) = Int.ofNat 0 from rfl), cond_true, svv_rfl, cond_true, hv]
     cases suN z n % 2 == 1 with
     | true => exact qq_ok ⟨rfl, rfl, rfl⟩
     | false =>
      have e0 : IntKind.wrap .i64 (Int.ofNat n - Int.ofNat 1) = ((n - 1 : Nat) : Int) := by rw [wrI (by simp; omega)]; simp; omega
      have e1 : (ixN (dN z n) n)[Nat.add 0 (Nat.mul (n - 1) 1)]? = some (I (dN z n (n - 1))) := by
       rw [show Nat.add 0 (Nat.mul (n - 1) 1) = n - 1 by simp]
       exact ix_get (by omega)
      have g0 : (0 : Int) ≤ ((n - 1 : Nat) : Int) := by omega
      rw [e0, cond_false, dT g0, cond_true, Int.toNat_natCast, show Nat.blt (n - 1) n = true from Nat.ble_eq_true_of_le (by omega), cond_true, e1]
      by_cases d : dN z n (n - 1) < 0
      ·show (bif decide (dN z n (n - 1) < 0) then _ else _) = _
       rw [dT d]
       exact qq_ok ⟨rfl, rfl, rfl⟩
      ·show (bif decide (dN z n (n - 1) < 0) then _ else _) = _
       rw [dF d]
       exact qq_ok ⟨rfl, rfl, rfl⟩
    ·have g0 : (0 : Int) ≤ (m : Int) := by omega
     have g1 : Nat.ble m n = true := Nat.ble_eq_true_of_le (by omega)
     have g2 : Nat.ble n n = true := Nat.ble_eq_true_of_le (Nat.le_refl _)
     have hkk := kk_bd (k := m) (by omega)
     have e0 : IntKind.wrap .i64 ((m : Int) - Int.ofNat 1) = (m : Int) - 1 := wrI (by simp; omega)
     have e1 : IntKind.wrap .i64 ((m : Int) * ((m : Int) - 1)) = (m : Int) * ((m : Int) - 1) := wrI (by omega)
     have nd : m_nns [I ((m : Int) * ((m : Int) - 1))] = true := rfl
     rw [eqF (show (m : Int) ≠ Int.ofNat 0 by simpa using c3), cond_false, dT g0, cond_true, Int.toNat_natCast, g1, cond_true, g2, cond_true, natFx c3, cond_false, e0, e1]
     by_cases c4 : m < n
     ·rw [show Nat.blt m n = true from Nat.ble_eq_true_of_le c4, cond_true, nc, nd]
      refine qq_ok ⟨m, by omega, by omega, rfl, .inl ⟨c4, ?_⟩, rfl, rfl⟩
      rw [show Nat.add 0 (Nat.mul m 1) = m by simp]
      rfl
     ·obtain rfl : m = n := by omega
      have p1 : Nat.blt m m = false := by
       cases h : Nat.blt m m with
       | false => rfl
       | true =>
        have := Nat.le_of_ble_eq_true h
        omega
      rw [p1, cond_false, nc, nd]
      exact qq_ok ⟨m, by omega, by omega, rfl, .inr ⟨rfl, rfl⟩, rfl, rfl⟩
end

end Go.Proofs

