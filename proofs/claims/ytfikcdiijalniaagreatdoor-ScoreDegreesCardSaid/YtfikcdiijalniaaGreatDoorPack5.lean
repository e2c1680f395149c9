/- What the claim is proved with, part 5: the evaluator and the contracts of the calls. -/
import Derived.Test.YtfikcdiijalniaaGreatDoorPack4
import Derived.Test.YtfikcdiijalniaaGreatDoorSymBase
import Derived.Shelf.Lay
import Derived.Shelf.SlSortCmp.WholeK
import Derived.Test.YtfikcdiijalniaaGreatDoorPack3
import Init
import Derived.Test.YtfikcdiijalniaaGreatDoorPack1
import Derived.Test.YtfikcdiijalniaaGreatDoorPack2
/- Needs and edges: leaf calls, run. -/
namespace Go.Proofs
open Go Go.Ev Go.Num
set_option linter.unusedVariables false
set_option linter.unusedSimpArgs false
set_option maxRecDepth 100000

abbrev fGN : Value := .func (.func 27) ⟨[]⟩ ⟨[]⟩
abbrev fCE : Value := .func (.func 30) ⟨[]⟩ ⟨[]⟩
def oNd (c : List Value) (i : Nat) : Option AObj := some (.cells c 55 i 2)
def oPr (c : List Value) (i : Nat) : Option AObj := some (.cells c 57 i 2)
noncomputable def eRowD (a0 : List Value) (n : Nat) (c : List Value) : Ent := ⟨fun args _ => m_svv args a0, fun _ _ => true, fun _ A => .slice (some ⟨A.next, 0, none⟩) n unk, fun _ A => A.new (.cells c 55 A.next 2), fun _ _ => undef, fun _ A => A⟩
noncomputable def eRowE (a0 : List Value) (n : Nat) (c : List Value) : Ent := ⟨fun args _ => m_svv args a0, fun _ _ => true, fun _ A => .slice (some ⟨A.next, 0, none⟩) n unk, fun _ A => A.new (.cells c 57 A.next 2), fun _ _ => undef, fun _ A => A⟩
noncomputable def tSoD (sl : Value) (n : Nat) (c c' : List Value) : Tbl := tcons 44 (eRowD [sl] n c) (tcons 45 (entAt [gw 0 n, fGN] (mkA [oNd c 0]) (.tuple ⟨[]⟩) (mkA [oNd c' 0])) fun _ => none)
noncomputable def tSoE (sl : Value) (n : Nat) (c c' : List Value) : Tbl := tcons 47 (eRowE [sl] n c) (tcons 48 (entAt [gw 0 n, fCE] (mkA [oPr c 0]) (.tuple ⟨[]⟩) (mkA [oPr c' 0])) fun _ => none)
abbrev PD (a b : Int) : Value := .agg ⟨[I a, I b]⟩

theorem gnA (r : Mem) (a b c d : Int) : (lvlT (SC r) tCm .nil 4 5).call 27 [PD a b, PD c d] emptyA fin =
    bif m_cmpI c a != Int.ofNat 0 then bif m_eqv (I b) (I b) then bif m_eqv (I b) (I b) then bif m_eqv (I d) (I d) then bif m_eqv (I d) (I d) then bif m_eqv (I a) (I a) then bif m_eqv (I c) (I c) then .ret (I (m_cmpI c a)) (AW.mk 0 .nil .nil) else .fail 420 else .fail 420 else .fail 420 else .fail 420 else .fail 420 else .fail 420 else bif m_cmpI d b != Int.ofNat 0 then bif m_eqv (I b) (I b) then bif m_eqv (I b) (I b) then bif m_eqv (I d) (I d) then bif m_eqv (I d) (I d) then bif m_eqv (I a) (I a) then bif m_eqv (I c) (I c) then .ret (I (m_cmpI d b)) (AW.mk 0 .nil .nil) else .fail 420 else .fail 420 else .fail 420 else .fail 420 else .fail 420 else .fail 420 else bif m_eqv (I b) (I b) then bif m_eqv (I b) (I b) then bif m_eqv (I d) (I d) then bif m_eqv (I d) (I d) then bif m_eqv (I a) (I a) then bif m_eqv (I c) (I c) then .ret (I (Int.ofNat 0)) (AW.mk 0 .nil .nil) else .fail 420 else .fail 420 else .fail 420 else .fail 420 else .fail 420 else .fail 420 := by kernel_rfl

theorem eoA (r : Mem) (a b : Int) : (lvlT (SC r) (fun _ => none) .nil 1 2).call 28 [I a, I b] emptyA fin =
    .ret (.agg ⟨[I (bif decide (b < a) then b else a), I (bif decide (b > a) then b else a)]⟩) (AW.mk 0 .nil .nil) := by kernel_rfl

theorem cnE (r : Mem) (b off n cap : Nat) : (lvlT (SC r) (fun _ => none) .nil 1 2).call 47 [RS2 b off (n + 1) cap] emptyA finM =
    bif Nat.ble (Nat.add 0 (n + 1)) 1000000 then Option.casesOn (match Nat.beq cap unkE with | true => none | false => takeF (Cfg.ro (SC r) b) off (Nat.mul (n + 1) (TypeInfo.size Tryz.t57))) (.fail 443) fun val => bif Nat.beq (List.length val) (Nat.mul (n + 1) 2) then bif gnds ([] ++ val) then .ret (.slice (some ⟨0, 0, none⟩) (Nat.add 0 (n + 1)) unk) (AW.mk 1 (.node .nil (some (.cells ([] ++ val) 57 0 2)) .nil) .nil) else .fail 420 else .fail 420 else .fail 420 := by kernel_rfl

theorem cnD (r : Mem) (b off n cap : Nat) : (lvlT (SC r) (fun _ => none) .nil 1 2).call 44 [RS2 b off (n + 1) cap] emptyA finM =
    bif Nat.ble (Nat.add 0 (n + 1)) 1000000 then Option.casesOn (match Nat.beq cap unkE with | true => none | false => takeF (Cfg.ro (SC r) b) off (Nat.mul (n + 1) (TypeInfo.size Tryz.t55))) (.fail 443) fun val => bif Nat.beq (List.length val) (Nat.mul (n + 1) 2) then bif gnds ([] ++ val) then .ret (.slice (some ⟨0, 0, none⟩) (Nat.add 0 (n + 1)) unk) (AW.mk 1 (.node .nil (some (.cells ([] ++ val) 55 0 2)) .nil) .nil) else .fail 420 else .fail 420 else .fail 420 := by kernel_rfl

theorem soD (r : Mem) (b off n cap : Nat) (c c' : List Value) (K : Value → AW → CR) : (lvlT (SC r) (tSoD (RS2 b off n cap) n c c') .nil 1 1).call 26 [RS2 b off n cap, fGN] emptyA K =
    bif m_svv [.slice (some ⟨b, off, some 0⟩) n cap] [.slice (some ⟨b, off, some 0⟩) n cap] then bif m_at [.slice (some ⟨0, 0, none⟩) n unk, .func (Fn.func 27) ⟨[]⟩ ⟨[]⟩] [.slice (some ⟨0, 0, none⟩) n unk, .func (Fn.func 27) ⟨[]⟩ ⟨[]⟩] (AW.mk 1 (.node .nil (some (.cells c 55 0 2)) .nil) .nil) (AW.mk 1 (.node .nil (some (.cells c 55 0 2)) .nil) .nil) then K (.slice (some ⟨0, 0, none⟩) n unk) (AW.mk 1 (.node .nil (some (.cells c' 55 0 2)) .nil) .nil) else .fail 420 else .fail 420 := by kernel_rfl

theorem soE (r : Mem) (b off n cap : Nat) (c c' : List Value) (K : Value → AW → CR) : (lvlT (SC r) (tSoE (RS2 b off n cap) n c c') .nil 1 1).call 29 [RS2 b off n cap, fCE] emptyA K =
    bif m_svv [.slice (some ⟨b, off, some 0⟩) n cap] [.slice (some ⟨b, off, some 0⟩) n cap] then bif m_at [.slice (some ⟨0, 0, none⟩) n unk, .func (Fn.func 30) ⟨[]⟩ ⟨[]⟩] [.slice (some ⟨0, 0, none⟩) n unk, .func (Fn.func 30) ⟨[]⟩ ⟨[]⟩] (AW.mk 1 (.node .nil (some (.cells c 57 0 2)) .nil) .nil) (AW.mk 1 (.node .nil (some (.cells c 57 0 2)) .nil) .nil) then K (.slice (some ⟨0, 0, none⟩) n unk) (AW.mk 1 (.node .nil (some (.cells c' 57 0 2)) .nil) .nil) else .fail 420 else .fail 420 := by kernel_rfl

theorem soE0 (r : Mem) (K : Value → AW → CR) : (lvlT (SC r) (fun _ => none) .nil 1 4).call 29 [.slice none 0 0, fCE] emptyA K =
    K (.slice none 0 0) (AW.mk 0 .nil .nil) := by kernel_rfl

end Go.Proofs

/- The sort of this program, laid: the numbers of the functions and types. -/
set_option linter.unusedVariables false
set_option linter.unusedSimpArgs false
namespace Go.Proofs
open Go Go.Shelf

noncomputable def nameN (n : Nat) : String := match Tryz.prog.funcs[n]? with
 | some f => f.name
 | none => ""
def Tryz.sortN_ren : Shelf.Ren where
 f := fun x => match x with
  | 6 => 45
  | 15 => 63
  | 14 => 62
  | 28 => 81
  | 29 => 82
  | 20 => 73
  | 21 => 74
  | 22 => 75
  | 23 => 76
  | 24 => 77
  | 25 => 78
  | 26 => 79
  | 27 => 80
  | 46 => 102
  | 47 => 103
  | 48 => 104
  | 49 => 105
  | 50 => 106
  | 57 => 115
  | n => n
 t := fun x => match x with
  | 22 => 51
  | 24 => 55
  | 25 => 56
  | 3 => 3
  | 39 => 64
  | 0 => 0
  | 53 => 111
  | 55 => 113
  | 4 => 4
  | 46 => 105
  | 45 => 104
  | 50 => 31
  | 5 => 5
  | 9 => 9
  | 66 => 124
  | 70 => 128
  | 76 => 136
  | 77 => 137
  | n => n
 g := fun x => x

theorem Tryz.sortN : SlLaysF0.n6 Tryz.prog Tryz.sortN_ren where
 mixed := by kernel_rfl
 f6 := ⟨nameN 45, of_decide_eq_true (by kernel_rfl), Tryz.func45.trans (by kernel_rfl)⟩
 f14 := ⟨nameN 62, of_decide_eq_true (by kernel_rfl), Tryz.func62.trans (by kernel_rfl)⟩
 f15 := Tryz.func63.trans (by kernel_rfl)
 f20 := ⟨nameN 73, of_decide_eq_true (by kernel_rfl), Tryz.func73.trans (by kernel_rfl)⟩
 f21 := ⟨nameN 74, of_decide_eq_true (by kernel_rfl), Tryz.func74.trans (by kernel_rfl)⟩
 f22 := ⟨nameN 75, of_decide_eq_true (by kernel_rfl), Tryz.func75.trans (by kernel_rfl)⟩
 f23 := ⟨nameN 76, of_decide_eq_true (by kernel_rfl), Tryz.func76.trans (by kernel_rfl)⟩
 f24 := ⟨nameN 77, of_decide_eq_true (by kernel_rfl), Tryz.func77.trans (by kernel_rfl)⟩
 f25 := ⟨nameN 78, of_decide_eq_true (by kernel_rfl), Tryz.func78.trans (by kernel_rfl)⟩
 f26 := ⟨nameN 79, of_decide_eq_true (by kernel_rfl), Tryz.func79.trans (by kernel_rfl)⟩
 f27 := ⟨nameN 80, of_decide_eq_true (by kernel_rfl), Tryz.func80.trans (by kernel_rfl)⟩
 f28 := Tryz.func81.trans (by kernel_rfl)
 f29 := Tryz.func82.trans (by kernel_rfl)
 f46 := ⟨nameN 102, of_decide_eq_true (by kernel_rfl), Tryz.func102.trans (by kernel_rfl)⟩
 f47 := Tryz.func103.trans (by kernel_rfl)
 f48 := Tryz.func104.trans (by kernel_rfl)
 f49 := ⟨nameN 105, of_decide_eq_true (by kernel_rfl), Tryz.func105.trans (by kernel_rfl)⟩
 f50 := ⟨nameN 106, of_decide_eq_true (by kernel_rfl), Tryz.func106.trans (by kernel_rfl)⟩
 f57 := ⟨nameN 115, of_decide_eq_true (by kernel_rfl), Tryz.func115.trans (by kernel_rfl)⟩
 t0 := Tryz.underlying0
 a0 := Tryz.isAgg0
 z0 := Tryz.sizeOf0
 v0 := Tryz.zeroValue0
 t3 := Tryz.underlying3
 a3 := Tryz.isAgg3
 z3 := Tryz.sizeOf3
 v3 := Tryz.zeroValue3
 t4 := Tryz.underlying4
 a4 := Tryz.isAgg4
 z4 := Tryz.sizeOf4
 v4 := Tryz.zeroValue4
 t5 := Tryz.underlying5
 a5 := Tryz.isAgg5
 z5 := Tryz.sizeOf5
 v5 := Tryz.zeroValue5
 t9 := Tryz.underlying9
 a9 := Tryz.isAgg9
 z9 := Tryz.sizeOf9
 v9 := Tryz.zeroValue9
 t22 := Tryz.underlying51
 a22 := Tryz.isAgg51
 z22 := Tryz.sizeOf51
 v22 := Tryz.zeroValue51
 t25 := Tryz.underlying56
 a25 := Tryz.isAgg56
 z25 := Tryz.sizeOf56
 v25 := Tryz.zeroValue56
 t39 := Tryz.underlying64
 a39 := Tryz.isAgg64
 z39 := Tryz.sizeOf64
 v39 := Tryz.zeroValue64
 t45 := Tryz.underlying104
 a45 := Tryz.isAgg104
 z45 := Tryz.sizeOf104
 v45 := Tryz.zeroValue104
 t46 := Tryz.underlying105
 a46 := Tryz.isAgg105
 z46 := Tryz.sizeOf105
 v46 := Tryz.zeroValue105
 t50 := Tryz.underlying31
 a50 := Tryz.isAgg31
 z50 := Tryz.sizeOf31
 v50 := Tryz.zeroValue31
 t53 := Tryz.underlying111
 a53 := Tryz.isAgg111
 z53 := Tryz.sizeOf111
 v53 := Tryz.zeroValue111
 t55 := Tryz.underlying113
 a55 := Tryz.isAgg113
 z55 := Tryz.sizeOf113
 v55 := Tryz.zeroValue113
 t66 := Tryz.underlying124
 a66 := Tryz.isAgg124
 z66 := Tryz.sizeOf124
 v66 := Tryz.zeroValue124
 t70 := Tryz.underlying128
 a70 := Tryz.isAgg128
 z70 := Tryz.sizeOf128
 v70 := Tryz.zeroValue128
 t76 := Tryz.underlying136
 a76 := Tryz.isAgg136
 z76 := Tryz.sizeOf136
 v76 := Tryz.zeroValue136
 t77 := Tryz.underlying137
 a77 := Tryz.isAgg137
 z77 := Tryz.sizeOf137
 v77 := Tryz.zeroValue137

end Go.Proofs

/- slices.SortFunc, by the library's contract, of pairs of cells: the caller's own row is sorted in place. -/
namespace Go.Proofs
open Go Go.Ev Go.Shelf Go.RowKit Go.Lib Go.Sort
set_option linter.unusedVariables false
set_option linter.unusedSimpArgs false

section
variable {α : Type} {enc : α → List Value}
theorem flat_len (hk : ∀ x, (enc x).length = 2) : ∀ zs : List α, (zs.flatMap enc).length = 2 * zs.length
 | [] => rfl
 | x :: zs => by
  have := flat_len hk zs
  simp only [List.flatMap_cons, List.length_append, List.length_cons, hk]; omega
theorem flat_get [Inhabited α] (hk : ∀ x, (enc x).length = 2) : ∀ (zs : List α) (j : Nat), j < zs.length * 2 → (zs.flatMap enc)[j]? = some ((flatK enc 2 zs.toArray)[j]!)
 | [], j, h => by simp at h
 | x :: zs, j, h => by
  rw [get_flatK _ _ _ _ (by simpa using h)]
  have hx := hk x
  rw [List.flatMap_cons]
  by_cases c : j < 2
  ·rw [List.getElem?_append_left (by omega), show j / 2 = 0 by omega, show j % 2 = j by omega, List.getElem?_eq_getElem (by omega)]
   have : ((x :: zs).toArray)[0]! = x := by simp
   rw [this, getElem!_pos _ j (by omega)]
  ·rw [List.getElem?_append_right (by omega), hx]
   have ih := flat_get hk zs (j - 2) (by simp at h; omega)
   rw [ih, get_flatK _ _ _ _ (by simp at h ⊢; omega)]
   have e1 : j / 2 = (j - 2) / 2 + 1 := by omega
   have e2 : j % 2 = (j - 2) % 2 := by omega
   rw [e1, e2]
   have : ((x :: zs).toArray)[(j - 2) / 2 + 1]! = (zs.toArray)[(j - 2) / 2]! := by simp
   rw [this]
theorem flat_gnd (hg : ∀ x, gnds (enc x) = true) : ∀ (zs : List α) (v : Value), v ∈ zs.flatMap enc → gnd v = true
 | [], v, h => by cases h
 | x :: zs, v, h => by
  rw [List.flatMap_cons, List.mem_append] at h
  rcases h with h | h
  ·have key : ∀ l : List Value, gnds l = true → ∀ v ∈ l, gnd v = true := by
    intro l
    induction l with
    | nil => intro _ v h; cases h
    | cons u l ih =>
     intro hl v hv
     simp only [gnds, Bool.and_eq_true] at hl
     rcases List.mem_cons.1 hv with rfl | hv
     ·exact hl.1
     ·exact ih hl.2 v hv
   exact key _ (hg x) v h
  ·exact flat_gnd hg zs v h
end

theorem sort_gen2 {P : Program} {ρ : Shelf.Ren} (L : SlLaysF0.n6 P ρ) (aE : ∀ w, (isAgg (ρ.t 24)).run P w = .ok true w) (zE : ∀ w, (Go.sizeOf (ρ.t 24)).run P w = .ok 2 w) {α : Type} [Inhabited α] (enc : α → List Value) (hk : ∀ x, (enc x).length = 2) (h1 : ∀ x, ∀ v ∈ enc x, v.oneCell' = true) (hgnd : ∀ x, gnds (enc x) = true) (g0 : Nat) (cf : α → α → Int) (hO : SWO (ltOf cf))
  (eg : ∀ args w, (callFunc g0 args).run P w = .ok (.enter g0 args) w)
  (hcmp : ∀ x y, GrT P (fun _ _ => none) g0 [.agg (enc x).toArray, .agg (enc y).toArray] (.int .i64 (cf x y)))
  {C : Cfg} (hP : C.P = P) {A0 : AW} {i cap : Nat} {e : TypeId} {fam z : Nat} {zs R : List α} (hi : A0.heap.get i = some (.cells (zs.flatMap enc) e fam z)) (hsz : zs.length < 4611686018427387904) (hcap : cap ≠ unkE)
  (hR : ∀ d : List α, d.Perm zs → d.Pairwise (fun x y => ltOf cf y x = false) → d = R) :
  ∀ F, Wide F → ∀ k γ W args', WRel γ A0 W → Ro C.ro γ W → VsRel γ [.slice (some ⟨i, 0, none⟩) zs.length cap, .func (.func g0) #[] #[]] (Array.toList args') →
   CallsIn F k C.P (ρ.f 6) args' W (Go.Ev.Ends γ W (.tuple ⟨[]⟩) (A0.only fam i (.cells (R.flatMap enc) e fam z))) := by
 intro F hF k γ W args' hw hro ha
 subst hP
 obtain ⟨g, hg, ho⟩ := hw.obj _ _ hi
 cases ho with
 | cells hb hf hn hz hc =>
 rename_i cc fr
 obtain ⟨l'⟩ := args'
 cases ha with
 | cons h1' h2 =>
 cases h2 with
 | cons h2 h3 =>
 cases h3
 cases h2 with
 | func q1 q2 q3 =>
 cases q1
 rename_i a1 a2
 obtain ⟨a1⟩ := a1
 obtain ⟨a2⟩ := a2
 cases q2
 cases q3
 generalize hm : zs.length = m at h1'
 cases h1' with
 | sliceE => exact absurd rfl hcap
 | slice _ _ _ c' hg' _ =>
 subst hm
 rw [hg] at hg'
 cases hg'
 have hlt := hw.lt _ _ hg
 have hcz : ∀ j, j < zs.length * 2 → cc[g.off + j]? = some ((flatK enc 2 zs.toArray)[j]!) := fun j hj => by
  have h0 := flat_get hk zs j hj
  obtain ⟨v', h1, h2⟩ := hc j _ h0
  have hmem : (flatK enc 2 zs.toArray)[j]! ∈ zs.flatMap enc := List.mem_of_getElem? h0
  rw [h1, h2.eq_of_gnd (flat_gnd hgnd zs _ hmem)]
 have hH : HoldsK enc 2 W g.blk g.off zs.toArray := fun j hj => by
  have hj' : j < zs.length * 2 := by simpa using hj
  have h0 := hcz j hj'
  have hjc : g.off + j < cc.size := by
   rcases Nat.lt_or_ge (g.off + j) cc.size with h | h
   ·exact h
   ·rw [Array.getElem?_eq_none h] at h0; cases h0
  refine ⟨?_, ?_⟩
  ·unfold World.cell?
   rw [hb]
   simp only [Option.isSome_none, Bool.false_eq_true, if_false, h0, id_eq]
  ·unfold World.frozen?
   rw [hb]
   have := hf (g.off + j) hjc
   simp only [Bool.and_eq_false_iff, decide_eq_false_iff_not]
   omega
 have hcr : CmpLays C.P g0 ⟨[]⟩ enc 2 cf g.blk g.off zs.toArray.size W := by
  intro m os dk _ x y
  have hrel : VsRel noG [.agg (enc x).toArray, .agg (enc y).toArray] (#[Value.agg (enc x).toArray, Value.agg (enc y).toArray] : Array Value).toList :=
   VsRel.of_gnds noG _ (by simp only [gnds, gnd, hgnd, Bool.and_self])
  have hcall := GrT.callsD (hcmp x y) (W := sortWorldK enc 2 W g.blk g.off m dk os) Ro.nought hrel
  have he : (#[Value.agg (enc x).toArray, Value.agg (enc y).toArray] ++ (⟨[]⟩ : Array Value)) = #[Value.agg (enc x).toArray, Value.agg (enc y).toArray] := Array.append_empty
  rw [he]
  exact hcall.mono fun _ _ h => ⟨h.1, h.2.grow⟩
 have hcon := AnyQ.slices_SortFunc L 2 aE zE enc hk h1 cf hO g0 ⟨[]⟩ g.blk g.off c' zs.toArray W eg hcr hH hlt (by simpa using hsz)
 rw [show zs.toArray.size = zs.length by simp] at hcon
 refine (hF.calls hcon).mono fun e' W' he => ?_
 obtain ⟨rfl, d', n, os, hp, hs, rfl⟩ := he
 have hds : d'.size = zs.length := by simpa using hp.1
 have hd : d'.toList = R := by
  refine hR _ ?_ ?_
  ·have := hp.2.2
   rw [show d'.extract 0 zs.length = d' by rw [← hds]; simp] at this
   simpa using this
  ·rw [List.pairwise_iff_getElem]
   intro a b h1 h2 h3
   have := hs a b (Nat.zero_le _) h3 (by rw [← hds]; simpa using h2)
   rw [getElem!_pos _ b (by simpa using h2), getElem!_pos _ a (by simpa using h1)] at this
   simpa using this
 have hRl : R.length = zs.length := by rw [← hd]; simpa using hds
 have hdR : d' = R.toArray := by rw [← hd]
 subst hdR
 have hw1 := WRel.ahead hw n
 have hb1 : (Sort.ahead W n).heap[g.blk]? = some (.cells cc e fr) := hb
 have e1 : putRow id (Sort.ahead W n) g.blk g.off (flatK enc 2 R.toArray) = setB (Sort.ahead W n) g.blk (.cells (putCells id g.off (flatK enc 2 R.toArray) cc) e fr) := mapBlock_setB hb1 _
 have hps : (putCells id g.off (flatK enc 2 R.toArray) cc).size = cc.size := by simp [putCells]
 have hor : ORel γ (setB (Sort.ahead W n) g.blk (.cells (putCells id g.off (flatK enc 2 R.toArray) cc) e fr)) g (.cells (R.flatMap enc) e fam z) := by
  refine .cells (setB_same _ hlt) (by rw [hps]; exact hf) (by rw [hps]; exact hn) hz fun k v hkv => ?_
  have hlen := flat_len hk R
  have hkR : k < (R.flatMap enc).length := by
   rcases Nat.lt_or_ge k (R.flatMap enc).length with h | h
   ·exact h
   ·rw [List.getElem?_eq_none h] at hkv; cases hkv
  have hk2 : k < R.length * 2 := by omega
  have hget := flat_get hk R k hk2
  rw [hkv] at hget
  cases hget
  have hmem : (flatK enc 2 R.toArray)[k]! ∈ R.flatMap enc := List.mem_of_getElem? hkv
  refine ⟨(flatK enc 2 R.toArray)[k]!, ?_, VRel.of_gnd _ _ (flat_gnd hgnd R _ hmem)⟩
  have h0 := hcz k (by omega)
  simp only [putCells, Array.getElem?_mapIdx, h0, Option.map_some]
  rw [if_pos ⟨by omega, by rw [size_flatK]; simp; omega⟩, show g.off + k - g.off = k by omega]
  rfl
 have hw2 := WRel.setRow hw1 hi hg hor
 have hx2 : Ext γ W γ (setB (Sort.ahead W n) g.blk (.cells (putCells id g.off (flatK enc 2 R.toArray) cc) e fr)) := (Ext.ahead γ W n).trans (Ext.setB _ hg)
 have hbl := below_grow (setB (Sort.ahead W n) g.blk (.cells (putCells id g.off (flatK enc 2 R.toArray) cc) e fr)) os
 obtain ⟨hw3, hx3⟩ := WRel.below hw2 hbl
 refine ⟨.tuple #[], γ, rfl, .tuple .nil, ?_, ?_⟩
 ·unfold sortWorldK putRowK
  rw [e1]
  exact hw3
 ·unfold sortWorldK putRowK
  rw [e1]
  exact hx2.trans hx3

end Go.Proofs

/- Lists of degrees: what a step of the realization keeps. Mathematics. -/
namespace Go.Num
set_option linter.unusedVariables false
set_option linter.unusedSimpArgs false

inductive Cl | ka | kb | kc
deriving DecidableEq
def sA : List (Int × Cl) → Int
 | [] => 0
 | (x, .ka) :: l => x + sA l
 | (_, .kb) :: l => sA l
 | (_, .kc) :: l => sA l
def sB : List (Int × Cl) → Int
 | [] => 0
 | (_, .ka) :: l => sB l
 | (x, .kb) :: l => x + sB l
 | (_, .kc) :: l => sB l
def nA : List (Int × Cl) → Int
 | [] => 0
 | (_, .ka) :: l => 1 + nA l
 | (_, .kb) :: l => nA l
 | (_, .kc) :: l => nA l
def nB : List (Int × Cl) → Int
 | [] => 0
 | (_, .ka) :: l => nB l
 | (_, .kb) :: l => 1 + nB l
 | (_, .kc) :: l => nB l
def nC : List (Int × Cl) → Int
 | [] => 0
 | (_, .ka) :: l => nC l
 | (_, .kb) :: l => nC l
 | (_, .kc) :: l => 1 + nC l
theorem sA_app : ∀ (l m : List (Int × Cl)), sA (l ++ m) = sA l + sA m
 | [], m => by simp [sA]
 | (x, c) :: l, m => by cases c <;> simp [sA, sA_app l m] <;> omega
theorem sB_app : ∀ (l m : List (Int × Cl)), sB (l ++ m) = sB l + sB m
 | [], m => by simp [sB]
 | (x, c) :: l, m => by cases c <;> simp [sB, sB_app l m] <;> omega
theorem nA_app : ∀ (l m : List (Int × Cl)), nA (l ++ m) = nA l + nA m
 | [], m => by simp [nA]
 | (x, c) :: l, m => by cases c <;> simp [nA, nA_app l m] <;> omega
theorem nB_app : ∀ (l m : List (Int × Cl)), nB (l ++ m) = nB l + nB m
 | [], m => by simp [nB]
 | (x, c) :: l, m => by cases c <;> simp [nB, nB_app l m] <;> omega
theorem nC_app : ∀ (l m : List (Int × Cl)), nC (l ++ m) = nC l + nC m
 | [], m => by simp [nC]
 | (x, c) :: l, m => by cases c <;> simp [nC, nC_app l m] <;> omega
theorem nX_pos : ∀ l : List (Int × Cl), 0 ≤ nA l ∧ 0 ≤ nB l ∧ 0 ≤ nC l
 | [] => by simp [nA, nB, nC]
 | (x, c) :: l => by
  have := nX_pos l
  cases c <;> simp only [nA, nB, nC] <;> omega
theorem nX_len : ∀ l : List (Int × Cl), nA l + nB l + nC l = (l.length : Int)
 | [] => by simp [nA, nB, nC]
 | (x, c) :: l => by
  have := nX_len l
  cases c <;> simp only [nA, nB, nC, List.length_cons] <;> omega
theorem nA_no : ∀ {l : List (Int × Cl)}, (∀ p ∈ l, p.2 ≠ .ka) → nA l = 0
 | [], _ => rfl
 | (x, c) :: l, h => by
  have h1 := h (x, c) (by simp)
  have h2 := nA_no (l := l) fun p hp => h p (by simp [hp])
  cases c <;> simp_all [nA]
theorem nB_no : ∀ {l : List (Int × Cl)}, (∀ p ∈ l, p.2 ≠ .kb) → nB l = 0
 | [], _ => rfl
 | (x, c) :: l, h => by
  have h1 := h (x, c) (by simp)
  have h2 := nB_no (l := l) fun p hp => h p (by simp [hp])
  cases c <;> simp_all [nB]
theorem nC_no : ∀ {l : List (Int × Cl)}, (∀ p ∈ l, p.2 ≠ .kc) → nC l = 0
 | [], _ => rfl
 | (x, c) :: l, h => by
  have h1 := h (x, c) (by simp)
  have h2 := nC_no (l := l) fun p hp => h p (by simp [hp])
  cases c <;> simp_all [nC]
theorem s_sum : ∀ {l : List (Int × Cl)}, nC l = 0 → (l.map Prod.fst).sum = sA l + sB l
 | [], _ => rfl
 | (x, c) :: l, h => by
  have := nX_pos l
  cases c
  ·have := s_sum (l := l) (by simpa [nC] using h)
   simp only [List.map_cons, List.sum_cons, sA, sB]; omega
  ·have := s_sum (l := l) (by simpa [nC] using h)
   simp only [List.map_cons, List.sum_cons, sA, sB]; omega
  ·simp only [nC] at h; omega

def upS (l : List (Int × Cl)) : List (Int × Cl) := l.map fun p => (p.1 + 1, p.2)
theorem up_fst (l : List (Int × Cl)) : (upS l).map Prod.fst = (l.map Prod.fst).map (· + 1) := by simp [upS]
theorem up_s : ∀ l : List (Int × Cl), sA (upS l) = sA l + nA l ∧ sB (upS l) = sB l + nB l ∧ nA (upS l) = nA l ∧ nB (upS l) = nB l ∧ nC (upS l) = nC l
 | [] => by simp [upS, sA, sB, nA, nB, nC]
 | (x, c) :: l => by
  have := up_s l
  unfold upS at this ⊢
  cases c <;> simp only [List.map_cons, sA, sB, nA, nB, nC] <;> omega

def exS (l : List (Int × Cl)) : Int := sA l - sB l - nA l * (nA l + nC l - 1)
def egL (L : List Int) : Prop := ∀ S : List (Int × Cl), (S.map Prod.fst).Perm L → exS S ≤ 0
theorem egL.perm {L M : List Int} (h : egL L) (p : L.Perm M) : egL M := fun S hS => h S (hS.trans p.symm)

theorem sq1 (a c : Int) : (a + 1) * (a + 1 + c - 1) = a * (a + c - 1) + 2 * a + c := by
 simp only [Int.mul_add, Int.add_mul, Int.mul_sub, Int.sub_mul, Int.mul_one, Int.one_mul]; omega
theorem sq2 (a c : Int) : a * (a + (c + 1) - 1) = a * (a + c - 1) + a := by
 simp only [Int.mul_add, Int.add_mul, Int.mul_sub, Int.sub_mul, Int.mul_one, Int.one_mul]; omega
theorem ev2 (a : Int) : a * (a - 1) % 2 = 0 := by
 have h : a % 2 = 0 ∨ a % 2 = 1 := by omega
 rcases h with h | h
 ·rw [Int.mul_emod, h]; simp
 ·have : (a - 1) % 2 = 0 := by omega
  rw [Int.mul_emod, this]; simp
section
variable {x : Int} {SN SO : List (Int × Cl)}
theorem ex_a (hx : x = (SN.length : Int)) : exS ((x, .ka) :: (upS SN ++ SO)) = exS (SN ++ SO) - 2 * nA SO - nC SO := by
 have u := up_s SN
 have l := nX_len SN
 unfold exS
 simp only [sA, sB, nA, nC, sA_app, sB_app, nA_app, nC_app, u.1, u.2.1, u.2.2.1, u.2.2.2.2]
 have := sq1 (nA SN + nA SO) (nC SN + nC SO)
 rw [show 1 + (nA SN + nA SO) = nA SN + nA SO + 1 by omega, this]
 omega
theorem ex_b (hx : x = (SN.length : Int)) : exS ((x, .kb) :: (upS SN ++ SO)) = exS (SN ++ SO) - 2 * nB SN - nC SN := by
 have u := up_s SN
 have l := nX_len SN
 unfold exS
 simp only [sA, sB, nA, nC, sA_app, sB_app, nA_app, nC_app, u.1, u.2.1, u.2.2.1, u.2.2.2.2]
 omega
theorem ex_c : exS ((x, .kc) :: (upS SN ++ SO)) = exS (SN ++ SO) - nA SO - nB SN := by
 have u := up_s SN
 unfold exS
 simp only [sA, sB, nA, nC, sA_app, sB_app, nA_app, nC_app, u.1, u.2.1, u.2.2.1, u.2.2.2.2]
 have := sq2 (nA SN + nA SO) (nC SN + nC SO)
 rw [show 1 + (nC SN + nC SO) = nC SN + nC SO + 1 by omega, this]
 omega
theorem mv_cb (P Q : List (Int × Cl)) (v : Int) : exS (P ++ (v, .kb) :: Q) = exS (P ++ (v, .kc) :: Q) + nA (P ++ (v, .kc) :: Q) - v := by
 unfold exS
 simp only [sA, sB, nA, nC, sA_app, sB_app, nA_app, nC_app]
 have := sq2 (nA P + nA Q) (nC P + nC Q)
 rw [show nC P + (1 + nC Q) = nC P + nC Q + 1 by omega, this]
 omega
theorem mv_ca (P Q : List (Int × Cl)) (v : Int) : exS (P ++ (v, .ka) :: Q) = exS (P ++ (v, .kc) :: Q) + v - (nA (P ++ (v, .kc) :: Q) + nC (P ++ (v, .kc) :: Q) - 1) := by
 unfold exS
 simp only [sA, sB, nA, nC, sA_app, sB_app, nA_app, nC_app]
 rw [show nA P + (1 + nA Q) + (nC P + nC Q) - 1 = nA P + nA Q + (nC P + (1 + nC Q)) - 1 by omega, show nA P + (1 + nA Q) = nA P + nA Q + 1 by omega, Int.add_mul]
 omega
end
end Go.Num

/- A step of the realization keeps that no part is too great. Mathematics. -/
namespace Go.Num
set_option linter.unusedVariables false
set_option linter.unusedSimpArgs false

theorem ext_cl {S : List (Int × Cl)} {cl : Cl} {Pr : Int → Prop} (h : ∃ p ∈ S, p.2 = cl ∧ Pr p.1) : ∃ P v Q, S = P ++ (v, cl) :: Q ∧ Pr v := by
 obtain ⟨⟨v, c⟩, hm, he, hp⟩ := h
 obtain ⟨P, Q, hPQ⟩ := List.append_of_mem hm
 cases he
 exact ⟨P, v, Q, hPQ, hp⟩
section
variable {x t : Int} {N O : List Int}
theorem fst_mem {S : List (Int × Cl)} {L : List Int} (h : S.map Prod.fst = L) {p : Int × Cl} (hp : p ∈ S) : p.1 ∈ L := by
 rw [← h]; exact List.mem_map_of_mem hp
theorem fst_put {P Q : List (Int × Cl)} {v : Int} (c d : Cl) {L : List Int} (h : (P ++ (v, c) :: Q).map Prod.fst = L) : (P ++ (v, d) :: Q).map Prod.fst = L := by
 rw [← h]; simp
theorem hh_fwd (hx : x = (N.length : Int)) (hN : ∀ v ∈ N, t - 1 ≤ v) (hO : ∀ v ∈ O, v ≤ t) (ev : (N ++ O).sum % 2 = 0) (h : egL (x :: (N.map (· + 1) ++ O))) :
  ∀ (w : Nat) (SN SO : List (Int × Cl)), SN.map Prod.fst = N → SO.map Prod.fst = O → 2 * nA SO + nC SO + 2 * nB SN + nC SN ≤ w → exS (SN ++ SO) ≤ 0 := by
 have three : ∀ SN SO : List (Int × Cl), SN.map Prod.fst = N → SO.map Prod.fst = O → exS (SN ++ SO) ≤ 2 * nA SO + nC SO ∧ exS (SN ++ SO) ≤ 2 * nB SN + nC SN ∧ exS (SN ++ SO) ≤ nA SO + nB SN := fun SN SO e1 e2 => by
  have hx' : x = (SN.length : Int) := by rw [hx, ← e1, List.length_map]
  have hp : ∀ c : Cl, (((x, c) :: (upS SN ++ SO)).map Prod.fst).Perm (x :: (N.map (· + 1) ++ O)) := fun c => by
   rw [List.map_cons, List.map_append, up_fst, e1, e2]
  have h1 := h _ (hp .ka)
  have h2 := h _ (hp .kb)
  have h3 := h _ (hp .kc)
  rw [ex_a hx'] at h1
  rw [ex_b hx'] at h2
  rw [ex_c] at h3
  omega
 intro w
 induction w with
 | zero =>
  intro SN SO e1 e2 hw
  have := three SN SO e1 e2
  have := nX_pos SN
  have := nX_pos SO
  omega
 | succ w ih =>
  intro SN SO e1 e2 hw
  obtain ⟨b1, b2, b3⟩ := three SN SO e1 e2
  have pN := nX_pos SN
  have pO := nX_pos SO
  have aApp := nA_app SN SO
  have cApp := nC_app SN SO
  by_cases m1 : ∃ p ∈ SO, p.2 = Cl.kc ∧ p.1 ≤ nA (SN ++ SO)
  ·obtain ⟨P, v, Q, rfl, hv⟩ := ext_cl (Pr := fun v => v ≤ nA (SN ++ SO)) m1
   have hi := ih SN (P ++ (v, .kb) :: Q) e1 (fst_put .kc .kb e2) (by simp only [nA_app, nC_app, nA, nC] at hw ⊢; omega)
   have := mv_cb (SN ++ P) Q v
   rw [← List.append_assoc] at hi hv ⊢
   omega
  ·by_cases m2 : ∃ p ∈ SN, p.2 = Cl.kc ∧ nA (SN ++ SO) + nC (SN ++ SO) - 1 ≤ p.1
   ·obtain ⟨P, v, Q, rfl, hv⟩ := ext_cl (Pr := fun v => nA (SN ++ SO) + nC (SN ++ SO) - 1 ≤ v) m2
    have hi := ih (P ++ (v, .ka) :: Q) SO (fst_put .kc .ka e1) e2 (by simp only [nB_app, nC_app, nB, nC] at hw ⊢; omega)
    have := mv_ca P (Q ++ SO) v
    rw [List.append_assoc, List.cons_append] at hi hv ⊢
    omega
   ·by_cases m3 : ∃ p ∈ SO, p.2 = Cl.ka ∧ p.1 ≤ nA (SN ++ SO) + nC (SN ++ SO) - 1
    ·obtain ⟨P, v, Q, rfl, hv⟩ := ext_cl (Pr := fun v => v ≤ nA (SN ++ SO) + nC (SN ++ SO) - 1) m3
     have hi := ih SN (P ++ (v, .kc) :: Q) e1 (fst_put .ka .kc e2) (by simp only [nA_app, nC_app, nA, nC] at hw ⊢; omega)
     have := mv_ca (SN ++ P) Q v
     rw [← List.append_assoc] at hi hv ⊢
     simp only [nA_app, nC_app, nA, nC] at hv this
     omega
    ·by_cases m4 : ∃ p ∈ SN, p.2 = Cl.kb ∧ nA (SN ++ SO) ≤ p.1
     ·obtain ⟨P, v, Q, rfl, hv⟩ := ext_cl (Pr := fun v => nA (SN ++ SO) ≤ v) m4
      have hi := ih (P ++ (v, .kc) :: Q) SO (fst_put .kb .kc e1) e2 (by simp only [nB_app, nC_app, nB, nC] at hw ⊢; omega)
      have := mv_cb P (Q ++ SO) v
      rw [List.append_assoc, List.cons_append] at hi hv ⊢
      simp only [nA_app, nA] at hv this
      omega
     ·by_cases q1 : ∃ p ∈ SO, p.2 = Cl.ka ∧ True
      ·obtain ⟨P, v, Q, hS, _⟩ := ext_cl (Pr := fun _ => True) q1
       have vm : (v, Cl.ka) ∈ SO := by rw [hS]; simp
       have v1 : nA (SN ++ SO) + nC (SN ++ SO) ≤ v := by
        have := fun hle => m3 ⟨(v, Cl.ka), vm, rfl, hle⟩
        have h0 : ¬ v ≤ nA (SN ++ SO) + nC (SN ++ SO) - 1 := this
        omega
       have v2 : v ≤ t := hO v (fst_mem e2 vm)
       by_cases q2 : ∃ p ∈ SN, p.2 = Cl.kb ∧ True
       ·obtain ⟨P', u, Q', hS', _⟩ := ext_cl (Pr := fun _ => True) q2
        have um : (u, Cl.kb) ∈ SN := by rw [hS']; simp
        have u1 : u < nA (SN ++ SO) := by
         have h0 : ¬ nA (SN ++ SO) ≤ u := fun hle => m4 ⟨(u, Cl.kb), um, rfl, hle⟩
         omega
        have u2 : t - 1 ≤ u := hN u (fst_mem e1 um)
        have c0 : nC (SN ++ SO) = 0 := by omega
        have hpar : exS (SN ++ SO) % 2 = 0 := by
         have hs := s_sum c0
         rw [List.map_append, e1, e2] at hs
         have e2' := ev2 (nA (SN ++ SO))
         unfold exS
         rw [c0, show nA (SN ++ SO) + 0 - 1 = nA (SN ++ SO) - 1 by omega]
         omega
        subst hS hS'
        have hi := ih (P' ++ (u, .kc) :: Q') (P ++ (v, .kc) :: Q) (fst_put .kb .kc e1) (fst_put .ka .kc e2) (by simp only [nA_app, nB_app, nC_app, nA, nB, nC] at hw ⊢; omega)
        have s1 := mv_ca ((P' ++ (u, .kb) :: Q') ++ P) Q v
        have s2 := mv_cb P' (Q' ++ (P ++ (v, .kc) :: Q)) u
        rw [← List.append_assoc] at hpar ⊢
        rw [List.append_assoc, List.append_assoc, List.cons_append] at s1
        simp only [List.append_assoc, List.cons_append] at hi s1 s2 hpar ⊢
        simp only [nA_app, nC_app, nA, nC, List.append_assoc, List.cons_append] at v1 u1 c0 s1 s2
        omega
       ·have z1 : nB SN = 0 := nB_no fun p hp hc => q2 ⟨p, hp, hc, trivial⟩
        have z2 : nC SN = 0 := nC_no fun p hp hc => by
         have := hN p.1 (fst_mem e1 hp)
         exact m2 ⟨p, hp, hc, by omega⟩
        omega
      ·have z1 : nA SO = 0 := nA_no fun p hp hc => q1 ⟨p, hp, hc, trivial⟩
       by_cases q2 : ∃ p ∈ SN, p.2 = Cl.kb ∧ True
       ·obtain ⟨P', u, Q', hS', _⟩ := ext_cl (Pr := fun _ => True) q2
        have um : (u, Cl.kb) ∈ SN := by rw [hS']; simp
        have u1 : u < nA (SN ++ SO) := by
         have h0 : ¬ nA (SN ++ SO) ≤ u := fun hle => m4 ⟨(u, Cl.kb), um, rfl, hle⟩
         omega
        have u2 : t - 1 ≤ u := hN u (fst_mem e1 um)
        have z2 : nC SO = 0 := nC_no fun p hp hc => by
         have := hO p.1 (fst_mem e2 hp)
         exact m1 ⟨p, hp, hc, by omega⟩
        omega
       ·have z2 : nB SN = 0 := nB_no fun p hp hc => q2 ⟨p, hp, hc, trivial⟩
        omega
end
end Go.Num

/- Lists of degrees: the step both ways, and the least list of conditions. Mathematics. -/
namespace Go.Num
set_option linter.unusedVariables false
set_option linter.unusedSimpArgs false

theorem lift_perm {α β : Type} {L T : List α} (h : L.Perm T) : ∀ {S : List (α × β)}, S.map Prod.fst = L → ∃ S2 : List (α × β), S2.Perm S ∧ S2.map Prod.fst = T := by
 induction h with
 | nil => intro S hS; exact ⟨S, .refl _, hS⟩
 | cons x _ ih =>
  intro S hS
  cases S with
  | nil => cases hS
  | cons p S =>
   simp only [List.map_cons, List.cons.injEq] at hS
   obtain ⟨S2, h1, h2⟩ := ih hS.2
   exact ⟨p :: S2, h1.cons p, by simp [hS.1, h2]⟩
 | swap x y l =>
  intro S hS
  match S, hS with
  | p :: q :: S, hS =>
   simp only [List.map_cons, List.cons.injEq] at hS
   exact ⟨q :: p :: S, .swap _ _ _, by simp [hS.1, hS.2.1, hS.2.2]⟩
 | trans _ _ ih1 ih2 =>
  intro S hS
  obtain ⟨S2, h1, h2⟩ := ih1 hS
  obtain ⟨S3, h3, h4⟩ := ih2 h2
  exact ⟨S3, h3.trans h1, h4⟩
theorem s_perm {S T : List (Int × Cl)} (h : S.Perm T) : sA S = sA T ∧ sB S = sB T ∧ nA S = nA T ∧ nC S = nC T := by
 induction h with
 | nil => exact ⟨rfl, rfl, rfl, rfl⟩
 | cons p _ ih =>
  obtain ⟨v, c⟩ := p
  cases c <;> simp only [sA, sB, nA, nC] <;> omega
 | swap p q l =>
  obtain ⟨v, c⟩ := p
  obtain ⟨u, d⟩ := q
  cases c <;> cases d <;> refine ⟨?_, ?_, ?_, ?_⟩ <;> show (_ : Int) = _ <;> simp only [sA, sB, nA, nC] <;> omega
 | trans _ _ h1 h2 => omega
theorem ex_perm {S T : List (Int × Cl)} (h : S.Perm T) : exS S = exS T := by
 obtain ⟨h1, h2, h3, h4⟩ := s_perm h
 unfold exS
 rw [h1, h2, h3, h4]
theorem egL_of {L : List Int} (h : ∀ S : List (Int × Cl), S.map Prod.fst = L → exS S ≤ 0) : egL L := fun S hS => by
 obtain ⟨S2, h1, h2⟩ := lift_perm hS rfl
 rw [← ex_perm h1]
 exact h S2 h2
theorem sum_dec : ∀ N : List Int, (N.map (· - 1)).sum = N.sum - N.length
 | [] => rfl
 | v :: N => by
  have := sum_dec N
  simp only [List.map_cons, List.sum_cons, List.length_cons]; omega
theorem inc_dec (N : List Int) : (N.map (· - 1)).map (· + 1) = N := by
 rw [List.map_map]
 have : ((fun x : Int => x + 1) ∘ fun x : Int => x - 1) = id := by funext v; simp
 rw [this, List.map_id]
theorem hh_step {x t : Int} {N O : List Int} (hx : x = (N.length : Int)) (hN : ∀ v ∈ N, t ≤ v) (hO : ∀ v ∈ O, v ≤ t) :
  (egL (x :: (N ++ O)) ∧ (x :: (N ++ O)).sum % 2 = 0) ↔ (egL (N.map (· - 1) ++ O) ∧ (N.map (· - 1) ++ O).sum % 2 = 0) := by
 have hs : (x :: (N ++ O)).sum = (N.map (· - 1) ++ O).sum + 2 * (N.length : Int) := by
  have := sum_dec N
  simp only [List.sum_cons, List.sum_append]; omega
 constructor
 ·rintro ⟨h1, h2⟩
  refine ⟨egL_of fun S hS => ?_, by omega⟩
  obtain ⟨SN, SO, rfl, e1, e2⟩ := List.map_eq_append_iff.1 hS
  have pN := nX_pos SN
  have pO := nX_pos SO
  have hl : ((N.map (· - 1)).length : Int) = N.length := by simp
  refine hh_fwd (x := x) (t := t) (N := N.map (· - 1)) (O := O) (by rw [hl]; exact hx) (fun v hv => ?_) hO (by omega) (by rw [inc_dec]; exact h1) (2 * nA SO + nC SO + 2 * nB SN + nC SN).toNat SN SO e1 e2 (by omega)
  obtain ⟨u, hu, rfl⟩ := List.mem_map.1 hv
  have := hN u hu
  omega
 ·rintro ⟨h1, h2⟩
  refine ⟨egL_of fun S hS => ?_, by omega⟩
  cases S with
  | nil => cases hS
  | cons p S =>
   obtain ⟨v, c⟩ := p
   simp only [List.map_cons, List.cons.injEq] at hS
   obtain ⟨rfl, hS⟩ := hS
   obtain ⟨TN, SO, rfl, e1, e2⟩ := List.map_eq_append_iff.1 hS
   have eT : TN = upS (TN.map fun p => (p.1 - 1, p.2)) := by
    unfold upS
    rw [List.map_map]
    have : ((fun p : Int × Cl => (p.1 + 1, p.2)) ∘ fun p : Int × Cl => (p.1 - 1, p.2)) = id := by funext p; simp
    rw [this, List.map_id]
   have eL : v = ((TN.map fun p => (p.1 - 1, p.2) : List (Int × Cl)).length : Int) := by
    rw [List.length_map, ← List.length_map (f := Prod.fst), e1]; exact hx
   have h0 := h1 ((TN.map fun p => (p.1 - 1, p.2)) ++ SO) (by
    rw [List.map_append, e2, List.map_map]
    have : (TN.map (Prod.fst ∘ fun p : Int × Cl => (p.1 - 1, p.2))) = (TN.map Prod.fst).map (· - 1) := by rw [List.map_map]; rfl
    rw [this, e1])
   rw [eT]
   generalize (TN.map fun p => (p.1 - 1, p.2) : List (Int × Cl)) = SN at h0 eL ⊢
   have pN := nX_pos SN
   have pO := nX_pos SO
   cases c with
   | ka => rw [ex_a eL]; omega
   | kb => rw [ex_b eL]; omega
   | kc => rw [ex_c]; omega
theorem allC : ∀ l : List Int, sA (l.map fun v => (v, Cl.kc)) = 0 ∧ sB (l.map fun v => (v, Cl.kc)) = 0 ∧ nA (l.map fun v => (v, Cl.kc)) = 0 ∧ nC (l.map fun v => (v, Cl.kc)) = l.length
 | [] => ⟨rfl, rfl, rfl, rfl⟩
 | v :: l => by
  have := allC l
  simp only [List.map_cons, sA, sB, nA, nC, List.length_cons]; omega
theorem eg_each {L : List Int} (h : egL L) {v : Int} (hv : v ∈ L) : 0 ≤ v ∧ v < L.length := by
 obtain ⟨P, Q, rfl⟩ := List.append_of_mem hv
 have hp : ∀ c : Cl, (((v, c) :: (P ++ Q).map fun v => (v, Cl.kc)).map Prod.fst).Perm (P ++ v :: Q) := fun c => by
  rw [List.map_cons, List.map_map]
  have : (Prod.fst ∘ fun v : Int => (v, Cl.kc)) = id := rfl
  rw [this, List.map_id]
  exact List.perm_middle.symm
 have h1 := h _ (hp .ka)
 have h2 := h _ (hp .kb)
 have := allC (P ++ Q)
 unfold exS at h1 h2
 simp only [sA, sB, nA, nC, this.1, this.2.1, this.2.2.1, this.2.2.2] at h1 h2
 simp only [List.length_append, List.length_cons] at h1 h2 ⊢
 simp only [Int.add_zero, Int.one_mul, Int.zero_mul] at h1 h2
 omega
theorem eg_nil : egL [] := egL_of fun S hS => by
 rw [List.map_eq_nil_iff.1 hS]
 decide

end Go.Num

/- The conditions by the greatest numbers, and the parts. Mathematics. -/
namespace Go.Num
set_option linter.unusedVariables false
set_option linter.unusedSimpArgs false

def gA (g : Int → Int) : List (Int × Cl) → Int
 | [] => 0
 | (x, .ka) :: l => g x + gA g l
 | (_, .kb) :: l => gA g l
 | (_, .kc) :: l => gA g l
def gS (g : Int → Int) : List Int → Int
 | [] => 0
 | x :: l => g x + gS g l
def kA : List (Int × Cl) → Nat
 | [] => 0
 | (x, .ka) :: l => kA l + 1
 | (_, .kb) :: l => kA l
 | (_, .kc) :: l => kA l
theorem kA_nA : ∀ l : List (Int × Cl), (kA l : Int) = nA l
 | [] => rfl
 | (x, c) :: l => by
  have := kA_nA l
  cases c <;> simp only [kA, nA] <;> omega
theorem kA_le : ∀ l : List (Int × Cl), kA l ≤ l.length
 | [] => Nat.le_refl _
 | (x, c) :: l => by
  have := kA_le l
  cases c <;> simp only [kA, List.length_cons] <;> omega
theorem gS_shift {g : Int → Int} (hg : ∀ u v, u ≤ v → g u ≤ g v) : ∀ (e : List Int) (x : Int) (k : Nat), (x :: e).Pairwise (fun a b => b ≤ a) → k ≤ e.length → gS g (e.take k) ≤ gS g ((x :: e).take k)
 | e, x, 0, _, _ => by simp [gS]
 | [], x, k + 1, _, h => by simp at h
 | y :: e, x, k + 1, hs, h => by
  have h1 := List.pairwise_cons.1 hs
  have ih := gS_shift hg e y k h1.2 (by simpa using h)
  have := hg y x (h1.1 y (by simp))
  simp only [List.take_succ_cons, gS] at ih ⊢
  omega
theorem gS_top {g : Int → Int} (hg : ∀ u v, u ≤ v → g u ≤ g v) : ∀ (S : List (Int × Cl)), (S.map Prod.fst).Pairwise (fun a b => b ≤ a) → gA g S ≤ gS g ((S.map Prod.fst).take (kA S))
 | [], _ => by simp [gA, gS, kA]
 | (x, c) :: S, hs => by
  have h1 := List.pairwise_cons.1 (show ((x :: S.map Prod.fst).Pairwise fun a b => b ≤ a) from hs)
  have ih := gS_top hg S h1.2
  have hk := kA_le S
  cases c with
  | ka => simp only [List.map_cons, kA, List.take_succ_cons, gS, gA]; omega
  | kb =>
   have := gS_shift hg (S.map Prod.fst) x (kA S) hs (by simpa using hk)
   simp only [List.map_cons, kA, gA] at this ⊢
   omega
  | kc =>
   have := gS_shift hg (S.map Prod.fst) x (kA S) hs (by simpa using hk)
   simp only [List.map_cons, kA, gA] at this ⊢
   omega
theorem gS_app (g : Int → Int) : ∀ l m : List Int, gS g (l ++ m) = gS g l + gS g m
 | [], m => by simp [gS]
 | x :: l, m => by
  have := gS_app g l m
  simp only [List.cons_append, gS]; omega
theorem gS_add (g f : Int → Int) : ∀ l : List Int, gS (fun v => g v + f v) l = gS g l + gS f l
 | [] => rfl
 | x :: l => by
  have := gS_add g f l
  simp only [gS]; omega
theorem gS_id : ∀ l : List Int, gS (fun v => v) l = l.sum
 | [] => rfl
 | x :: l => by
  have := gS_id l
  simp only [gS, List.sum_cons]; omega
theorem gA_rest (k : Int) : ∀ S : List (Int × Cl), gS (fun v => min v k) (S.map Prod.fst) ≤ gA (fun v => min v k) S + sB S + k * nC S
 | [] => by simp [gS, gA, sB, nC]
 | (x, c) :: S => by
  have := gA_rest k S
  cases c with
  | ka => simp only [List.map_cons, gS, gA, sB, nC]; omega
  | kb => simp only [List.map_cons, gS, gA, sB, nC]; omega
  | kc => simp only [List.map_cons, gS, gA, sB, nC, Int.mul_add, Int.mul_one]; omega
theorem gA_sA (f : Int → Int) : ∀ S : List (Int × Cl), gA (fun v => v + f v) S = sA S + gA f S
 | [] => rfl
 | (x, c) :: S => by
  have := gA_sA f S
  cases c <;> simp only [gA, sA] <;> omega
def clK (k : Int) (v : Int) : Int × Cl := if v < k then (v, .kb) else (v, .kc)
theorem clK_s (k : Int) : ∀ l : List Int, sA (l.map (clK k)) = 0 ∧ nA (l.map (clK k)) = 0 ∧ sB (l.map (clK k)) + k * nC (l.map (clK k)) = gS (fun v => min v k) l
 | [] => by simp [sA, nA, sB, nC, gS]
 | v :: l => by
  obtain ⟨h1, h2, h3⟩ := clK_s k l
  simp only [List.map_cons, gS]
  unfold clK at *
  split
  ·simp only [sA, nA, sB, nC]; omega
  ·simp only [sA, nA, sB, nC, Int.mul_add, Int.mul_one]; omega
theorem clK_fst (k : Int) (l : List Int) : (l.map (clK k)).map Prod.fst = l := by
 rw [List.map_map]
 have : (Prod.fst ∘ clK k) = id := by
  funext v
  show (clK k v).1 = v
  unfold clK
  split <;> rfl
 rw [this, List.map_id]
theorem allA : ∀ l : List Int, sA (l.map fun v => (v, Cl.ka)) = l.sum ∧ sB (l.map fun v => (v, Cl.ka)) = 0 ∧ nA (l.map fun v => (v, Cl.ka)) = l.length ∧ nC (l.map fun v => (v, Cl.ka)) = 0
 | [] => ⟨rfl, rfl, rfl, rfl⟩
 | v :: l => by
  have := allA l
  simp only [List.map_cons, sA, sB, nA, nC, List.length_cons, List.sum_cons]; omega
def nvL (e : List Int) : Prop := e.sum % 2 = 0 ∧ (∀ v ∈ e, 0 ≤ v) ∧ ∀ k : Nat, 1 ≤ k → k ≤ e.length → (e.take k).sum ≤ k * ((k : Int) - 1) + gS (fun v => min v k) (e.drop k)
theorem nv_eg {e : List Int} (hs : e.Pairwise fun a b => b ≤ a) : nvL e ↔ egL e ∧ e.sum % 2 = 0 := by
 constructor
 ·rintro ⟨h1, h2, h3⟩
  refine ⟨egL_of fun S hS => ?_, h1⟩
  have hk := kA_nA S
  have hle := kA_le S
  have hl : S.length = e.length := by rw [← hS, List.length_map]
  by_cases k0 : kA S = 0
  ·have a0 : nA S = 0 := by omega
   have sB0 : ∀ S : List (Int × Cl), (∀ p ∈ S, 0 ≤ p.1) → 0 ≤ sB S := by
    intro S
    induction S with
    | nil => intro _; exact Int.le_refl _
    | cons p S ih =>
     intro h
     have := ih fun q hq => h q (by simp [hq])
     have h0 := h p (by simp)
     obtain ⟨x, c⟩ := p
     cases c <;> simp only [sB] at * <;> omega
   have hb := sB0 S fun p hp => h2 _ (fst_mem hS hp)
   have hsA : ∀ S : List (Int × Cl), kA S = 0 → sA S = 0 := by
    intro S
    induction S with
    | nil => intro _; rfl
    | cons p S ih =>
     intro h
     obtain ⟨x, c⟩ := p
     cases c <;> simp only [kA, sA] at * <;> first | omega | exact ih h
   have := hsA S k0
   unfold exS
   rw [this, a0, Int.zero_mul]
   omega
  ·have h := h3 (kA S) (by omega) (by omega)
   have top := gS_top (g := fun v => v + min v (kA S)) (fun u v huv => by show u + min u _ ≤ v + min v _; omega) S (by rw [hS]; exact hs)
   have rest := gA_rest (kA S) S
   rw [hS] at top rest
   rw [gA_sA, gS_add, gS_id] at top
   have sp : gS (fun v => min v (kA S)) e = gS (fun v => min v (kA S)) (e.take (kA S)) + gS (fun v => min v (kA S)) (e.drop (kA S)) := by
    rw [← gS_app, List.take_append_drop]
   unfold exS
   rw [← hk]
   have e1 : (kA S : Int) * ((kA S : Int) + nC S - 1) = (kA S : Int) * ((kA S : Int) - 1) + (kA S : Int) * nC S := by
    rw [show (kA S : Int) + nC S - 1 = ((kA S : Int) - 1) + nC S by omega, Int.mul_add]
   rw [e1]
   omega
 ·rintro ⟨h1, h2⟩
  refine ⟨h2, fun v hv => (eg_each h1 hv).1, fun k k1 kn => ?_⟩
  have h := h1 ((e.take k).map (fun v => (v, Cl.ka)) ++ (e.drop k).map (clK k)) (by
   rw [List.map_append, clK_fst, List.map_map]
   have : (Prod.fst ∘ fun v : Int => (v, Cl.ka)) = id := rfl
   rw [this, List.map_id, List.take_append_drop])
  obtain ⟨a1, a2, a3, a4⟩ := allA (e.take k)
  obtain ⟨c1, c2, c3⟩ := clK_s k (e.drop k)
  unfold exS at h
  rw [sA_app, sB_app, nA_app, nC_app, a1, a2, a3, a4, c1, c2, List.length_take, Nat.min_eq_left kn] at h
  have e1 : (k : Int) * ((k : Int) + nC ((e.drop k).map (clK k)) - 1) = (k : Int) * ((k : Int) - 1) + (k : Int) * nC ((e.drop k).map (clK k)) := by
   rw [show (k : Int) + nC ((e.drop k).map (clK k)) - 1 = ((k : Int) - 1) + nC ((e.drop k).map (clK k)) by omega, Int.mul_add]
  simp only [Int.add_zero, Int.zero_add] at h
  rw [e1] at h
  omega

end Go.Num

/- A realization, made step by step. Mathematics. -/
namespace Go.Num
set_option linter.unusedVariables false
set_option linter.unusedSimpArgs false

abbrev Nd := Int × Int
def leD (a b : Nd) : Bool := decide (b.1 < a.1 ∨ (b.1 = a.1 ∧ b.2 ≤ a.2))
def srtD (L : List Nd) : List Nd := L.mergeSort leD
theorem srtD_perm (L : List Nd) : (srtD L).Perm L := List.mergeSort_perm _ _
theorem srtD_len (L : List Nd) : (srtD L).length = L.length := (srtD_perm L).length_eq
theorem srtD_srt (L : List Nd) : (srtD L).Pairwise fun a b => leD a b = true := by
 refine List.pairwise_mergeSort (le := leD) (fun a b c h1 h2 => ?_) (fun a b => ?_) L
 ·unfold leD at *
  simp only [decide_eq_true_eq] at *
  omega
 ·unfold leD
  simp only [Bool.or_eq_true, decide_eq_true_eq]
  omega
theorem srtD_one {L d : List Nd} (hp : d.Perm L) (hs : d.Pairwise fun a b => leD a b = true) : d = srtD L :=
 (hp.trans (srtD_perm L).symm).eq_of_pairwise (fun a b _ _ h1 h2 => by
  unfold leD at h1 h2
  simp only [decide_eq_true_eq] at h1 h2
  exact Prod.ext (by omega) (by omega)) hs (srtD_srt L)
def decD (R : List Nd) (x : Nat) : List Nd := (R.take x).map (fun p => (p.1 - 1, p.2)) ++ R.drop x
def edD (o : Int) (p : Nd) : Int × Int := (min o p.2, max o p.2)
def lsD : List Nd → Int
 | [] => 0
 | [p] => p.1
 | _ :: p :: l => lsD (p :: l)
def rlN : Nat → List Nd → Option (List (Int × Int))
 | 0, _ => some []
 | f + 1, L => match srtD L with
  | [] => some []
  | (x, o) :: R => if ((R.length : Int) < x ∨ lsD ((x, o) :: R) < 0) then none else match rlN f (decD R x.toNat) with
   | none => none
   | some es => some ((R.take x.toNat).map (edD o) ++ es)
theorem lsD_le : ∀ {L : List Nd}, L.Pairwise (fun a b => leD a b = true) → ∀ p ∈ L, lsD L ≤ p.1
 | [], _, p, h => by cases h
 | [q], _, p, h => by
  rw [List.mem_singleton.1 h]; exact Int.le_refl _
 | q :: q' :: l, hs, p, h => by
  have h1 := List.pairwise_cons.1 hs
  have ih := lsD_le h1.2
  rcases List.mem_cons.1 h with rfl | h
  ·have h2 := h1.1 q' (by simp)
   have h3 := ih q' (by simp)
   unfold leD at h2
   simp only [decide_eq_true_eq] at h2
   simp only [lsD]
   omega
  ·exact ih p h
theorem lsD_mem : ∀ {L : List Nd}, L ≠ [] → ∃ p ∈ L, lsD L = p.1
 | [], h => absurd rfl h
 | [q], _ => ⟨q, by simp, rfl⟩
 | q :: q' :: l, _ => by
  obtain ⟨p, h1, h2⟩ := lsD_mem (L := q' :: l) (by simp)
  exact ⟨p, by simp at h1 ⊢; exact .inr h1, h2⟩
theorem decD_len (R : List Nd) (x : Nat) : (decD R x).length = R.length := by
 unfold decD
 rw [List.length_append, List.length_map, List.length_take, List.length_drop]; omega
theorem decD_fst (R : List Nd) (x : Nat) : (decD R x).map Prod.fst = ((R.take x).map Prod.fst).map (· - 1) ++ (R.drop x).map Prod.fst := by
 unfold decD
 rw [List.map_append, List.map_map, List.map_map]
 rfl
theorem decD_snd (R : List Nd) (x : Nat) : (decD R x).map Prod.snd = R.map Prod.snd := by
 unfold decD
 rw [List.map_append, List.map_map]
 have : (Prod.snd ∘ fun p : Nd => (p.1 - 1, p.2)) = Prod.snd := rfl
 rw [this, ← List.map_append, List.take_append_drop]
theorem sum_perm {L M : List Int} (h : L.Perm M) : L.sum = M.sum := by
 induction h with
 | nil => rfl
 | cons x _ ih => simp only [List.sum_cons, ih]
 | swap x y l => simp only [List.sum_cons]; omega
 | trans _ _ h1 h2 => exact h1.trans h2
theorem rl_step {x o : Int} {R : List Nd} (hs : ((x, o) :: R).Pairwise fun a b => leD a b = true) (h0 : 0 ≤ x) (hx : x ≤ R.length) :
  (egL (((x, o) :: R).map Prod.fst) ∧ (((x, o) :: R).map Prod.fst).sum % 2 = 0) ↔ (egL ((decD R x.toNat).map Prod.fst) ∧ ((decD R x.toNat).map Prod.fst).sum % 2 = 0) := by
 rw [decD_fst, List.map_cons]
 have e : R.map Prod.fst = (R.take x.toNat).map Prod.fst ++ (R.drop x.toNat).map Prod.fst := by rw [← List.map_append, List.take_append_drop]
 rw [e]
 have hs' := (List.pairwise_cons.1 hs)
 have hap := List.pairwise_append.1 (show (R.take x.toNat ++ R.drop x.toNat).Pairwise fun a b => leD a b = true by rw [List.take_append_drop]; exact hs'.2)
 have big : ∀ p ∈ R, p.1 ≤ x := fun p hp => by
  have := hs'.1 p hp
  unfold leD at this
  simp only [decide_eq_true_eq] at this
  omega
 have sep : ∀ p ∈ R.take x.toNat, ∀ q ∈ R.drop x.toNat, q.1 ≤ p.1 := fun p hp q hq => by
  have := hap.2.2 p hp q hq
  unfold leD at this
  simp only [decide_eq_true_eq] at this
  omega
 have hlen : x = (((R.take x.toNat).map Prod.fst).length : Int) := by rw [List.length_map, List.length_take]; omega
 by_cases c : R.take x.toNat = []
 ·refine hh_step (t := x) hlen (fun v hv => ?_) (fun v hv => ?_)
  ·rw [c] at hv; cases hv
  ·obtain ⟨p, hp, rfl⟩ := List.mem_map.1 hv
   exact big p (List.mem_of_mem_drop hp)
 ·obtain ⟨l, hl, hmin⟩ := lsD_mem c
  refine hh_step (t := lsD (R.take x.toNat)) hlen (fun v hv => ?_) (fun v hv => ?_)
  ·obtain ⟨p, hp, rfl⟩ := List.mem_map.1 hv
   exact lsD_le hap.1 p hp
  ·obtain ⟨p, hp, rfl⟩ := List.mem_map.1 hv
   rw [hmin]
   exact sep l hl p hp
theorem rl_eg : ∀ (f : Nat) (L : List Nd), L.length ≤ f → ((rlN f L).isSome = true ↔ egL (L.map Prod.fst) ∧ (L.map Prod.fst).sum % 2 = 0)
 | 0, L, h => by
  have : L = [] := List.length_eq_zero_iff.1 (by omega)
  subst this
  exact ⟨fun _ => ⟨eg_nil, rfl⟩, fun _ => rfl⟩
 | f + 1, L, h => by
  have hp := srtD_perm L
  have hs := srtD_srt L
  have hl := srtD_len L
  have hq : (egL (L.map Prod.fst) ∧ (L.map Prod.fst).sum % 2 = 0) ↔ (egL ((srtD L).map Prod.fst) ∧ ((srtD L).map Prod.fst).sum % 2 = 0) := by
   have hpf := hp.map Prod.fst
   have e : ((srtD L).map Prod.fst).sum = (L.map Prod.fst).sum := sum_perm hpf
   rw [e]
   exact ⟨fun h => ⟨h.1.perm hpf.symm, h.2⟩, fun h => ⟨h.1.perm hpf, h.2⟩⟩
  rw [hq, rlN]
  cases hS : srtD L with
  | nil => exact ⟨fun _ => ⟨eg_nil, rfl⟩, fun _ => rfl⟩
  | cons p R =>
   obtain ⟨x, o⟩ := p
   rw [hS] at hs hl
   simp only [List.length_cons] at hl
   show (if _ then _ else _ : Option _).isSome = true ↔ _
   by_cases c : ((R.length : Int) < x ∨ lsD ((x, o) :: R) < 0)
   ·rw [if_pos c]
    refine ⟨fun h => (by cases h), fun h => ?_⟩
    exfalso
    rcases c with c | c
    ·have := (eg_each h.1 (v := x) (by simp)).2
     rw [List.length_map, List.length_cons] at this
     omega
    ·obtain ⟨p, hp, he⟩ := lsD_mem (L := (x, o) :: R) (by simp)
     have := (eg_each h.1 (v := p.1) (List.mem_map_of_mem hp)).1
     omega
   ·rw [if_neg c]
    have h1 : 0 ≤ x := by
     have := lsD_le hs (x, o) (by simp)
     have : lsD ((x, o) :: R) ≤ x := this
     omega
    rw [rl_step hs h1 (by omega)]
    have ih := rl_eg f (decD R x.toNat) (by rw [decD_len]; omega)
    rw [← ih]
    cases rlN f (decD R x.toNat) <;> rfl

end Go.Num

/- The realization has the degrees. Mathematics. -/
namespace Go.Num
set_option linter.unusedVariables false
set_option linter.unusedSimpArgs false

def dgE : List (Int × Int) → Int → Int
 | [], _ => 0
 | e :: l, v => (if e.1 = v then 1 else 0) + (if e.2 = v then 1 else 0) + dgE l v
theorem dgE_app : ∀ (l m : List (Int × Int)) (v : Int), dgE (l ++ m) v = dgE l v + dgE m v
 | [], m, v => by simp [dgE]
 | e :: l, m, v => by
  have := dgE_app l m v
  simp only [List.cons_append, dgE]; omega
theorem dgE_no {l : List (Int × Int)} {v : Int} (h : ∀ e ∈ l, e.1 ≠ v ∧ e.2 ≠ v) : dgE l v = 0 := by
 induction l with
 | nil => rfl
 | cons e l ih =>
  have h1 := h e (by simp)
  have := ih fun q hq => h q (by simp [hq])
  rw [dgE, if_neg h1.1, if_neg h1.2, this]; rfl
theorem ed_first {o : Int} : ∀ {N : List Nd}, (∀ p ∈ N, p.2 ≠ o) → dgE (N.map (edD o)) o = N.length
 | [], _ => rfl
 | p :: N, h => by
  have h1 := h p (by simp)
  have ih := ed_first (N := N) fun q hq => h q (by simp [hq])
  simp only [List.map_cons, dgE, edD, ih, List.length_cons]
  by_cases c : o < p.2
  ·rw [if_pos (by omega), if_neg (by omega)]; omega
  ·rw [if_neg (by omega), if_pos (by omega)]; omega
theorem ed_none {o v : Int} (hv : v ≠ o) : ∀ {N : List Nd}, (∀ p ∈ N, p.2 ≠ v) → dgE (N.map (edD o)) v = 0
 | [], _ => rfl
 | p :: N, h => by
  have h1 := h p (by simp)
  have ih := ed_none hv (N := N) fun q hq => h q (by simp [hq])
  simp only [List.map_cons, dgE, edD, ih]
  rw [if_neg (by omega), if_neg (by omega)]; omega
theorem ed_one {o : Int} : ∀ {N : List Nd}, (N.map Prod.snd).Nodup → (∀ p ∈ N, p.2 ≠ o) → ∀ p ∈ N, dgE (N.map (edD o)) p.2 = 1
 | [], _, _, p, h => by cases h
 | q :: N, hn, h, p, hp => by
  have h1 := h q (by simp)
  obtain ⟨n1, n2⟩ := List.nodup_cons.1 hn
  simp only [List.map_cons, dgE, edD]
  rcases List.mem_cons.1 hp with rfl | hp
  ·have := ed_none (v := p.2) (o := o) h1 (N := N) fun q hq he => n1 (by rw [← he]; exact List.mem_map_of_mem hq)
   rw [this]
   by_cases c : o < p.2
   ·rw [if_neg (by omega), if_pos (by omega)]; rfl
   ·rw [if_pos (by omega), if_neg (by omega)]; rfl
  ·have ih := ed_one n2 (fun q hq => h q (by simp [hq])) p hp
   have hne : q.2 ≠ p.2 := fun he => n1 (by rw [he]; exact List.mem_map_of_mem hp)
   have hpo := h p (by simp [hp])
   rw [ih, if_neg (by omega), if_neg (by omega)]; rfl
theorem ed_nodup {o : Int} : ∀ {N : List Nd}, (N.map Prod.snd).Nodup → (∀ p ∈ N, p.2 ≠ o) → (N.map (edD o)).Nodup
 | [], _, _ => List.nodup_nil
 | q :: N, hn, h => by
  obtain ⟨n1, n2⟩ := List.nodup_cons.1 hn
  refine List.nodup_cons.2 ⟨fun hm => ?_, ed_nodup n2 fun p hp => h p (by simp [hp])⟩
  obtain ⟨p, hp, he⟩ := List.mem_map.1 hm
  unfold edD at he
  simp only [Prod.mk.injEq] at he
  have : p.2 = q.2 := by omega
  exact n1 (by rw [← this]; exact List.mem_map_of_mem hp)
structure RlOk (L : List Nd) (es : List (Int × Int)) : Prop where
 ends : ∀ e ∈ es, e.1 < e.2 ∧ e.1 ∈ L.map Prod.snd ∧ e.2 ∈ L.map Prod.snd
 nodup : es.Nodup
 deg : ∀ p ∈ L, dgE es p.2 = p.1
theorem rl_ok : ∀ (f : Nat) (L : List Nd) (es : List (Int × Int)), L.length ≤ f → (L.map Prod.snd).Nodup → rlN f L = some es → RlOk L es
 | 0, L, es, h, _, he => by
  have : L = [] := List.length_eq_zero_iff.1 (by omega)
  subst this
  cases he
  exact ⟨fun e h => (by cases h), List.nodup_nil, fun p h => (by cases h)⟩
 | f + 1, L, es, h, hn, he => by
  have hp := srtD_perm L
  have hs := srtD_srt L
  have hl := srtD_len L
  have hps := hp.map Prod.snd
  have hn' := hps.symm.nodup hn
  suffices RlOk (srtD L) es from ⟨fun e h => by
   obtain ⟨a, b, c⟩ := this.ends e h
   exact ⟨a, hps.mem_iff.1 b, hps.mem_iff.1 c⟩, this.nodup, fun p h => this.deg p (hp.mem_iff.2 h)⟩
  rw [rlN] at he
  cases hS : srtD L with
  | nil =>
   rw [hS] at he
   cases he
   exact ⟨fun e h => (by cases h), List.nodup_nil, fun p h => (by cases h)⟩
  | cons p R =>
   obtain ⟨x, o⟩ := p
   rw [hS] at hs hl he hn'
   simp only [List.length_cons] at hl
   have he' : (if ((R.length : Int) < x ∨ lsD ((x, o) :: R) < 0) then none else match rlN f (decD R x.toNat) with
    | none => none
    | some es => some ((R.take x.toNat).map (edD o) ++ es)) = some es := he
   by_cases c : ((R.length : Int) < x ∨ lsD ((x, o) :: R) < 0)
   ·rw [if_pos c] at he'; cases he'
   ·rw [if_neg c] at he'
    have h1 : 0 ≤ x := by
     have : lsD ((x, o) :: R) ≤ x := lsD_le hs (x, o) (by simp)
     omega
    cases hr : rlN f (decD R x.toNat) with
    | none => rw [hr] at he'; cases he'
    | some es' =>
     rw [hr] at he'
     cases he'
     obtain ⟨n1, n2⟩ := List.nodup_cons.1 (show (o :: R.map Prod.snd).Nodup from hn')
     have ih := rl_ok f (decD R x.toNat) es' (by rw [decD_len]; omega) (by rw [decD_snd]; exact n2) hr
     have own : ∀ e ∈ es', e.1 < e.2 ∧ e.1 ∈ R.map Prod.snd ∧ e.2 ∈ R.map Prod.snd := fun e h => by
      have := ih.ends e h
      rwa [decD_snd] at this
     have ne : ∀ p ∈ R, p.2 ≠ o := fun p hp e => n1 (by rw [← e]; exact List.mem_map_of_mem hp)
     have nT : ((R.take x.toNat).map Prod.snd).Nodup := n2.sublist ((List.take_sublist _ _).map _)
     have neT : ∀ p ∈ R.take x.toNat, p.2 ≠ o := fun p hp => ne p (List.mem_of_mem_take hp)
     refine ⟨fun e h => ?_, ?_, fun p h => ?_⟩
     ·rcases List.mem_append.1 h with h | h
      ·obtain ⟨p, hp, rfl⟩ := List.mem_map.1 h
       have hpo := neT p hp
       have hpm : p.2 ∈ R.map Prod.snd := List.mem_map_of_mem (List.mem_of_mem_take hp)
       unfold edD
       by_cases c : o < p.2
       ·rw [Int.min_eq_left (by omega), Int.max_eq_right (by omega)]
        exact ⟨c, by simp, by simp only [List.map_cons, List.mem_cons]; exact .inr hpm⟩
       ·rw [Int.min_eq_right (by omega), Int.max_eq_left (by omega)]
        exact ⟨by show p.2 < o; omega, by simp only [List.map_cons, List.mem_cons]; exact .inr hpm, by simp⟩
      ·obtain ⟨a, b, c⟩ := own e h
       exact ⟨a, by simp only [List.map_cons, List.mem_cons]; exact .inr b, by simp only [List.map_cons, List.mem_cons]; exact .inr c⟩
     ·refine List.nodup_append.2 ⟨ed_nodup nT neT, ih.nodup, fun e h e' h' heq => ?_⟩
      subst heq
      obtain ⟨p, hp, rfl⟩ := List.mem_map.1 h
      obtain ⟨_, b, c⟩ := own _ h'
      have hpo := neT p hp
      unfold edD at b c
      by_cases d : o < p.2
      ·rw [Int.min_eq_left (by omega)] at b; exact n1 b
      ·rw [Int.max_eq_left (by omega)] at c; exact n1 c
     ·rw [dgE_app]
      rcases List.mem_cons.1 h with rfl | h
      ·have e1 : dgE ((R.take x.toNat).map (edD o)) o = ((R.take x.toNat).length : Int) := ed_first neT
       have e2 : dgE es' o = 0 := dgE_no fun e h => by
        obtain ⟨_, b, c⟩ := own e h
        exact ⟨fun q => n1 (q ▸ b), fun q => n1 (q ▸ c)⟩
       show dgE _ o + dgE _ o = x
       rw [e1, e2, List.length_take]; omega
      ·have hmem : p ∈ R.take x.toNat ++ R.drop x.toNat := by rw [List.take_append_drop]; exact h
       rcases List.mem_append.1 hmem with hm | hm
       ·have e1 := ed_one nT neT p hm
        have e2 := ih.deg (p.1 - 1, p.2) (by
         unfold decD
         exact List.mem_append.2 (.inl (List.mem_map.2 ⟨p, hm, rfl⟩)))
        have e2' : dgE es' p.2 = p.1 - 1 := e2
        rw [e1, e2']; omega
       ·have hap := List.nodup_append.1 (show ((R.take x.toNat).map Prod.snd ++ (R.drop x.toNat).map Prod.snd).Nodup by rw [← List.map_append, List.take_append_drop]; exact n2)
        have e1 := ed_none (o := o) (v := p.2) (ne p h) (N := R.take x.toNat) fun q hq he => hap.2.2 q.2 (List.mem_map_of_mem hq) p.2 (List.mem_map_of_mem hm) he
        have e2 := ih.deg p (by unfold decD; exact List.mem_append.2 (.inr hm))
        rw [e1, e2]; omega

end Go.Num

/- The realization, sorted, is one. Mathematics. -/
namespace Go.Num
set_option linter.unusedVariables false
set_option linter.unusedSimpArgs false

def zP (E : List (Int × Int)) (j : Nat) : Int := if j % 2 = 0 then (E.getD (j / 2) (0, 0)).1 else (E.getD (j / 2) (0, 0)).2
theorem ea_zP (E : List (Int × Int)) (k : Nat) : ea (zP E) k = (E.getD k (0, 0)).1 := by
 unfold ea zP
 rw [if_pos (by omega), show 2 * k / 2 = k by omega]
theorem eb_zP (E : List (Int × Int)) (k : Nat) : eb (zP E) k = (E.getD k (0, 0)).2 := by
 unfold eb zP
 rw [if_neg (by omega), show (2 * k + 1) / 2 = k by omega]
theorem dg_zP (E : List (Int × Int)) (v : Nat) : ∀ k : Nat, k ≤ E.length → dgN (zP E) k v = dgE (E.take k) v
 | 0, _ => rfl
 | k + 1, h => by
  have ih := dg_zP E v k (by omega)
  have hk : k < E.length := by omega
  have eg : E.getD k (0, 0) = E[k] := by rw [List.getD_eq_getElem?_getD, List.getElem?_eq_getElem hk]; rfl
  rw [dgN, ih, ea_zP, eb_zP, eg, List.take_succ_eq_append_getElem hk, dgE_app]
  simp only [dgE]; omega
theorem dgE_perm {l m : List (Int × Int)} (h : l.Perm m) (v : Int) : dgE l v = dgE m v := by
 induction h with
 | nil => rfl
 | cons e _ ih => simp only [dgE, ih]
 | swap a b l => simp only [dgE]; omega
 | trans _ _ h1 h2 => exact h1.trans h2
def leE (a b : Int × Int) : Bool := decide (a.1 < b.1 ∨ (a.1 = b.1 ∧ a.2 ≤ b.2))
def srtE (l : List (Int × Int)) : List (Int × Int) := l.mergeSort leE
theorem srtE_perm (L : List (Int × Int)) : (srtE L).Perm L := List.mergeSort_perm _ _
theorem srtE_len (L : List (Int × Int)) : (srtE L).length = L.length := (srtE_perm L).length_eq
theorem srtE_srt (L : List (Int × Int)) : (srtE L).Pairwise fun a b => leE a b = true := by
 refine List.pairwise_mergeSort (le := leE) (fun a b c h1 h2 => ?_) (fun a b => ?_) L
 ·unfold leE at *
  simp only [decide_eq_true_eq] at *
  omega
 ·unfold leE
  simp only [Bool.or_eq_true, decide_eq_true_eq]
  omega
theorem srtE_one {L d : List (Int × Int)} (hp : d.Perm L) (hs : d.Pairwise fun a b => leE a b = true) : d = srtE L :=
 (hp.trans (srtE_perm L).symm).eq_of_pairwise (fun a b _ _ h1 h2 => by
  unfold leE at h1 h2
  simp only [decide_eq_true_eq] at h1 h2
  exact Prod.ext (by omega) (by omega)) hs (srtE_srt L)
theorem ok_zP {n : Int} {E : List (Int × Int)} (hs : E.Pairwise fun a b => leE a b = true) (hn : E.Nodup) (h : ∀ e ∈ E, 0 ≤ e.1 ∧ e.1 < e.2 ∧ e.2 < n) : okAll n (zP E) E.length = true := okAll_of fun i hi => by
 have eg : ∀ k (hk : k < E.length), E.getD k (0, 0) = E[k] := fun k hk => by rw [List.getD_eq_getElem?_getD, List.getElem?_eq_getElem hk]; rfl
 obtain ⟨h1, h2, h3⟩ := h E[i] (List.getElem_mem hi)
 rw [okAt_iff, ea_zP, eb_zP, ea_zP, eb_zP, eg i hi]
 refine ⟨h1, h2, h3, ?_⟩
 by_cases i0 : i = 0
 ·exact .inl i0
 ·right
  have hi1 : i - 1 < E.length := by omega
  rw [eg (i - 1) hi1]
  have hle := List.pairwise_iff_getElem.1 hs (i - 1) i hi1 hi (by omega)
  have hne : E[i - 1] ≠ E[i] := List.pairwise_iff_getElem.1 hn (i - 1) i hi1 hi (by omega)
  unfold leE at hle
  simp only [decide_eq_true_eq] at hle
  rcases hle with h | ⟨h, h'⟩
  ·exact .inl h
  ·refine .inr ⟨h, ?_⟩
   have : E[i - 1].2 ≠ E[i].2 := fun e => hne (Prod.ext h e)
   omega
def ndL (x : Nat → Int) (n : Nat) : List Nd := (List.range n).map fun i => (x i, (i : Int))
theorem ndL_fst (x : Nat → Int) (n : Nat) : (ndL x n).map Prod.fst = (List.range n).map x := by unfold ndL; rw [List.map_map]; rfl
theorem ndL_len (x : Nat → Int) (n : Nat) : (ndL x n).length = n := by simp [ndL]
theorem ndL_nodup (x : Nat → Int) (n : Nat) : ((ndL x n).map Prod.snd).Nodup := by
 unfold ndL
 rw [List.map_map]
 refine List.pairwise_map.2 ((List.nodup_range (n := n)).imp fun {a b} h e => ?_)
 exact h (Int.ofNat.inj e)
theorem eqN_all {f g : Nat → Int} : ∀ {n : Nat}, (∀ i, i < n → f i = g i) → eqN f g n = true
 | 0, _ => rfl
 | n + 1, h => by rw [eqN, eqN_all fun i hi => h i (by omega), decide_eq_true (h n (by omega))]; rfl
theorem real_ok {x : Nat → Int} {n : Nat} {es : List (Int × Int)} (hr : rlN n (ndL x n) = some es) : irB x (zP (srtE es)) n es.length = true := by
 obtain ⟨h1, h2, h3⟩ := rl_ok n (ndL x n) es (by rw [ndL_len]; exact Nat.le_refl _) (ndL_nodup x n) hr
 have hp := srtE_perm es
 have hl := srtE_len es
 have own : ∀ v, v ∈ (ndL x n).map Prod.snd → 0 ≤ v ∧ v < n := fun v hv => by
  unfold ndL at hv
  rw [List.map_map] at hv
  obtain ⟨i, hi, rfl⟩ := List.mem_map.1 hv
  have := List.mem_range.1 hi
  show 0 ≤ (i : Int) ∧ (i : Int) < n
  omega
 unfold irB
 rw [← hl, ok_zP (srtE_srt es) (hp.symm.nodup h2) (fun e he => by
  obtain ⟨a, b, c⟩ := h1 e (hp.mem_iff.1 he)
  exact ⟨(own _ b).1, a, (own _ c).2⟩), Bool.true_and]
 refine eqN_all fun i hi => ?_
 show dgN (zP (srtE es)) (srtE es).length i = x i
 rw [dg_zP _ _ _ (Nat.le_refl _), List.take_length, dgE_perm hp]
 exact h3 (x i, (i : Int)) (List.mem_map.2 ⟨i, List.mem_range.2 hi, rfl⟩)

end Go.Num

/- Needs, sorted: what the calls answer. -/
namespace Go.Proofs
open Go Go.Ev Go.Num Go.Shelf Go.RowKit Go.Lib Go.Sort
set_option linter.unusedVariables false
set_option linter.unusedSimpArgs false
set_option maxRecDepth 100000

theorem eqv_s (a : Int) : m_eqv (I a) (I a) = true := by simp [m_eqv, veq]
theorem gn_calls (r : Mem) (a b c d : Int) : GrT Tryz.prog r 27 [PD a b, PD c d] (I (m_ce c d a b)) :=
 GrT.of (SC_ok r) (tCm_ok r) .nil rfl ⟨4, 5, by
  rw [gnA]
  unfold m_ce
  simp only [eqv_s, cond_true]
  by_cases h : m_cmpI c a = 0
  ·have h' : (m_cmpI c a != Int.ofNat 0) = false := neF h
   rw [h', if_pos h, cond_false]
   by_cases h2 : m_cmpI d b = 0
   ·have h2' : (m_cmpI d b != Int.ofNat 0) = false := neF h2
    rw [h2', h2]; rfl
   ·have h2' : (m_cmpI d b != Int.ofNat 0) = true := neT h2
    rw [h2']; rfl
  ·have h' : (m_cmpI c a != Int.ofNat 0) = true := neT h
   rw [h', if_neg h]; rfl⟩
theorem eo_calls (r : Mem) (a b : Int) : GrT Tryz.prog r 28 [I a, I b] (PD (min a b) (max a b)) :=
 GrT.of (SC_ok r) TOk.nil .nil rfl ⟨1, 2, by
  rw [eoA]
  have e1 : (bif decide (b < a) then b else a) = min a b := by
   by_cases h : b < a
   ·rw [dT h, cond_true]; omega
   ·rw [dF h, cond_false]; omega
  have e2 : (bif decide (b > a) then b else a) = max a b := by
   by_cases h : b > a
   ·rw [dT h, cond_true]; omega
   ·rw [dF h, cond_false]; omega
  rw [e1, e2]; rfl⟩
def encP (p : Int × Int) : List Value := [I p.1, I p.2]
def prL (z : Nat → Int) (n : Nat) : List (Int × Int) := (List.range n).map fun i => (ea z i, eb z i)
theorem prL_len (z : Nat → Int) (n : Nat) : (prL z n).length = n := by simp [prL]
theorem prL_flat (z : Nat → Int) : ∀ n, ixN z (2 * n) = (prL z n).flatMap encP
 | 0 => rfl
 | n + 1 => by
  have ih := prL_flat z n
  unfold prL at ih ⊢
  rw [List.range_succ, List.map_append, List.flatMap_append, ← ih]
  unfold ixN
  rw [show 2 * (n + 1) = 2 * n + 1 + 1 by omega, List.range_succ, List.range_succ, List.map_append, List.map_append, List.append_assoc]
  rfl
theorem zP_flat (E : List (Int × Int)) : ixN (zP E) (2 * E.length) = E.flatMap encP := by
 rw [prL_flat]
 congr 1
 apply List.ext_getElem
 ·rw [prL_len]
 ·intro i h1 h2
  have e0 : (prL (zP E) E.length)[i] = (ea (zP E) i, eb (zP E) i) := by simp [prL]
  rw [e0, ea_zP, eb_zP, List.getD_eq_getElem?_getD, List.getElem?_eq_getElem h2]
  rfl
theorem ce_lt (a b c d : Int) : m_ce a b c d < 0 ↔ (a < c ∨ (a = c ∧ b < d)) := by
 have := ce_ge a b c d
 omega
section
variable {r : Mem} {b off n cap : Nat} {z : Nat → Int}
theorem cnD_ok (hz : rowAt r b off (2 * n) z) (h1 : 1 ≤ n) (hn : n ≤ 1000000) (hcap : cap ≠ unkE) : GrM Tryz.prog r 44 [RS2 b off n cap] (gw 0 n) (rowA (ixN z (2 * n)) 55 2) := by
 obtain ⟨k, rfl⟩ : ∃ k, n = k + 1 := ⟨n - 1, by omega⟩
 refine GrM.of (SC_ok r) TOk.nil .nil ⟨1, 2, (cnD r b off k cap).trans ?_⟩
 have hr : (match Nat.beq cap unkE with | true => none | false => takeF (r b) off (Nat.mul (k + 1) 2)) = some (ixN z (2 * (k + 1))) := by
  rw [natFx hcap]
  show takeF (r b) off (Nat.mul (k + 1) 2) = _
  rw [Nat.mul_eq, Nat.mul_comm, takeF_row (z := z) (2 * (k + 1)) 0 off fun i hi => by rw [Nat.zero_add]; exact hz i hi]
  unfold ixN
  rw [List.range_eq_range']
 have oc : ∀ {o : Option (List Value)} {c : List Value} (h : o = some c) (a : CR) (F : List Value → CR), (Option.casesOn o a F : CR) = F c := fun h a F => by rw [h]
 rw [Nat.ble_eq_true_of_le (show Nat.add 0 (k + 1) ≤ 1000000 by simp; omega), cond_true]
 refine (oc hr _ _).trans ?_
 have l1 : Nat.beq (ixN z (2 * (k + 1))).length (Nat.mul (k + 1) 2) = true := by
  rw [ix_len, Nat.mul_eq, Nat.mul_comm]
  exact Nat.beq_refl _
 rw [l1, cond_true, List.nil_append, ix_gnd, cond_true, Nat.add_eq, Nat.zero_add]
 rfl
theorem tSoD_ok (hz : rowAt r b off (2 * n) z) (h1 : 1 ≤ n) (hn : n ≤ 1000000) (hcap : cap ≠ unkE) : TOk (SC r) (tSoD (RS2 b off n cap) n (ixN z (2 * n)) ((srtD (prL z n)).flatMap encP)) := by
 refine (TOk.nil.cons (entAt_ok fun F hF k γ W args' hw hR ha => ?_)).cons fun args A hgd F hF k γ W args' hw hR ha => ?_
 ·have hi : (mkA [oNd (ixN z (2 * n)) 0]).heap.get 0 = some (.cells ((prL z n).flatMap encP) 55 0 2) := by rw [← prL_flat]; kernel_rfl
  have h := sort_gen2 Tryz.sortN (fun w => by kernel_rfl) (fun w => by kernel_rfl) encP (fun _ => rfl) (fun x v hv => by
    unfold encP at hv
    simp only [List.mem_cons, List.not_mem_nil, or_false] at hv
    rcases hv with rfl | rfl <;> rfl) (fun _ => rfl) 27 (fun x y => m_ce y.1 y.2 x.1 x.2) ⟨fun x => by
    simp only [ltOf, decide_eq_false_iff_not, ce_lt]; omega, fun x y w => by
    simp only [ltOf, decide_eq_true_eq, ce_lt]; omega, fun x y w => by
    simp only [ltOf, decide_eq_false_iff_not, ce_lt]; omega⟩ (fun args w => callFunc_ok (SC_ok r) (by kernel_rfl) args w) (fun x y => gn_calls _ x.1 x.2 y.1 y.2) (C := SC r) rfl (cap := unk) hi (by rw [prL_len]; omega) (by decide) (R := srtD (prL z n)) (fun d hp hs => srtD_one hp (hs.imp fun {x y} h => by
     simp only [ltOf, decide_eq_false_iff_not, ce_lt] at h
     unfold leD
     rw [decide_eq_true_eq]
     omega))
  rw [prL_len] at h
  have h2 := h F hF k γ W args' hw hR ha
  have hA1 : (mkA [oNd (ixN z (2 * n)) 0]).only 0 0 (.cells ((srtD (prL z n)).flatMap encP) 55 0 2) = mkA [oNd ((srtD (prL z n)).flatMap encP) 0] := by kernel_rfl
  rw [hA1] at h2
  exact h2
 ·refine ⟨fun hcc => ?_, fun h => nomatch h⟩
  have hs := @of_decide_eq_true _ (Classical.propDecidable _) hgd
  subst hs
  have hof : ofV 0 (gw 0 n) = true := by simp [ofV, of1]
  exact (cnD_ok hz h1 hn hcap).ends (γ := γ) (A := A) hof (ix_gnd _ _) hF hw (hR.noG noG fun _ => rfl) (ha.of_ros rfl) ha
end

end Go.Proofs

/- The sort of this program, laid: the numbers of the functions and types. -/
set_option linter.unusedVariables false
set_option linter.unusedSimpArgs false
namespace Go.Proofs
open Go Go.Shelf

noncomputable def nameE (n : Nat) : String := match Tryz.prog.funcs[n]? with
 | some f => f.name
 | none => ""
def Tryz.sortE_ren : Shelf.Ren where
 f := fun x => match x with
  | 6 => 48
  | 15 => 63
  | 14 => 64
  | 28 => 81
  | 29 => 82
  | 20 => 83
  | 21 => 84
  | 22 => 85
  | 23 => 86
  | 24 => 87
  | 25 => 88
  | 26 => 89
  | 27 => 90
  | 46 => 107
  | 47 => 103
  | 48 => 104
  | 49 => 108
  | 50 => 109
  | 57 => 116
  | n => n
 t := fun x => match x with
  | 22 => 24
  | 24 => 57
  | 25 => 60
  | 3 => 3
  | 39 => 64
  | 0 => 0
  | 53 => 111
  | 55 => 113
  | 4 => 4
  | 46 => 105
  | 45 => 104
  | 50 => 31
  | 5 => 5
  | 9 => 9
  | 66 => 124
  | 70 => 128
  | 76 => 136
  | 77 => 137
  | n => n
 g := fun x => x

theorem Tryz.sortE : SlLaysF0.n6 Tryz.prog Tryz.sortE_ren where
 mixed := by kernel_rfl
 f6 := ⟨nameE 48, of_decide_eq_true (by kernel_rfl), Tryz.func48.trans (by kernel_rfl)⟩
 f14 := ⟨nameE 64, of_decide_eq_true (by kernel_rfl), Tryz.func64.trans (by kernel_rfl)⟩
 f15 := Tryz.func63.trans (by kernel_rfl)
 f20 := ⟨nameE 83, of_decide_eq_true (by kernel_rfl), Tryz.func83.trans (by kernel_rfl)⟩
 f21 := ⟨nameE 84, of_decide_eq_true (by kernel_rfl), Tryz.func84.trans (by kernel_rfl)⟩
 f22 := ⟨nameE 85, of_decide_eq_true (by kernel_rfl), Tryz.func85.trans (by kernel_rfl)⟩
 f23 := ⟨nameE 86, of_decide_eq_true (by kernel_rfl), Tryz.func86.trans (by kernel_rfl)⟩
 f24 := ⟨nameE 87, of_decide_eq_true (by kernel_rfl), Tryz.func87.trans (by kernel_rfl)⟩
 f25 := ⟨nameE 88, of_decide_eq_true (by kernel_rfl), Tryz.func88.trans (by kernel_rfl)⟩
 f26 := ⟨nameE 89, of_decide_eq_true (by kernel_rfl), Tryz.func89.trans (by kernel_rfl)⟩
 f27 := ⟨nameE 90, of_decide_eq_true (by kernel_rfl), Tryz.func90.trans (by kernel_rfl)⟩
 f28 := Tryz.func81.trans (by kernel_rfl)
 f29 := Tryz.func82.trans (by kernel_rfl)
 f46 := ⟨nameE 107, of_decide_eq_true (by kernel_rfl), Tryz.func107.trans (by kernel_rfl)⟩
 f47 := Tryz.func103.trans (by kernel_rfl)
 f48 := Tryz.func104.trans (by kernel_rfl)
 f49 := ⟨nameE 108, of_decide_eq_true (by kernel_rfl), Tryz.func108.trans (by kernel_rfl)⟩
 f50 := ⟨nameE 109, of_decide_eq_true (by kernel_rfl), Tryz.func109.trans (by kernel_rfl)⟩
 f57 := ⟨nameE 116, of_decide_eq_true (by kernel_rfl), Tryz.func116.trans (by kernel_rfl)⟩
 t0 := Tryz.underlying0
 a0 := Tryz.isAgg0
 z0 := Tryz.sizeOf0
 v0 := Tryz.zeroValue0
 t3 := Tryz.underlying3
 a3 := Tryz.isAgg3
 z3 := Tryz.sizeOf3
 v3 := Tryz.zeroValue3
 t4 := Tryz.underlying4
 a4 := Tryz.isAgg4
 z4 := Tryz.sizeOf4
 v4 := Tryz.zeroValue4
 t5 := Tryz.underlying5
 a5 := Tryz.isAgg5
 z5 := Tryz.sizeOf5
 v5 := Tryz.zeroValue5
 t9 := Tryz.underlying9
 a9 := Tryz.isAgg9
 z9 := Tryz.sizeOf9
 v9 := Tryz.zeroValue9
 t22 := Tryz.underlying24
 a22 := Tryz.isAgg24
 z22 := Tryz.sizeOf24
 v22 := Tryz.zeroValue24
 t25 := Tryz.underlying60
 a25 := Tryz.isAgg60
 z25 := Tryz.sizeOf60
 v25 := Tryz.zeroValue60
 t39 := Tryz.underlying64
 a39 := Tryz.isAgg64
 z39 := Tryz.sizeOf64
 v39 := Tryz.zeroValue64
 t45 := Tryz.underlying104
 a45 := Tryz.isAgg104
 z45 := Tryz.sizeOf104
 v45 := Tryz.zeroValue104
 t46 := Tryz.underlying105
 a46 := Tryz.isAgg105
 z46 := Tryz.sizeOf105
 v46 := Tryz.zeroValue105
 t50 := Tryz.underlying31
 a50 := Tryz.isAgg31
 z50 := Tryz.sizeOf31
 v50 := Tryz.zeroValue31
 t53 := Tryz.underlying111
 a53 := Tryz.isAgg111
 z53 := Tryz.sizeOf111
 v53 := Tryz.zeroValue111
 t55 := Tryz.underlying113
 a55 := Tryz.isAgg113
 z55 := Tryz.sizeOf113
 v55 := Tryz.zeroValue113
 t66 := Tryz.underlying124
 a66 := Tryz.isAgg124
 z66 := Tryz.sizeOf124
 v66 := Tryz.zeroValue124
 t70 := Tryz.underlying128
 a70 := Tryz.isAgg128
 z70 := Tryz.sizeOf128
 v70 := Tryz.zeroValue128
 t76 := Tryz.underlying136
 a76 := Tryz.isAgg136
 z76 := Tryz.sizeOf136
 v76 := Tryz.zeroValue136
 t77 := Tryz.underlying137
 a77 := Tryz.isAgg137
 z77 := Tryz.sizeOf137
 v77 := Tryz.zeroValue137

end Go.Proofs

/- Edges, sorted; sorted lists of needs: what the calls answer. -/
namespace Go.Proofs
open Go Go.Ev Go.Num Go.Shelf Go.RowKit Go.Lib Go.Sort
set_option linter.unusedVariables false
set_option linter.unusedSimpArgs false
set_option maxRecDepth 100000

theorem flat_g (E : List (Int × Int)) : gnds (E.flatMap encP) = true := by rw [← zP_flat]; exact ix_gnd _ _
section
variable {r : Mem} {b off n cap : Nat} {z : Nat → Int}
theorem soD_ok (hz : rowAt r b off (2 * n) z) (h1 : 1 ≤ n) (hn : n ≤ 1000000) (hcap : cap ≠ unkE) : GrM Tryz.prog r 26 [RS2 b off n cap, fGN] (gw 0 n) (rowA ((srtD (prL z n)).flatMap encP) 55 2) :=
 GrM.of (SC_ok r) (tSoD_ok hz h1 hn hcap) .nil ⟨1, 1, by
  rw [soD]
  simp only [svv_rfl, at_rfl, cond_true]
  unfold finM rowOf rowsOf row1
  have hb : Nat.beq n 0 = false := natFx (by omega)
  have hg := flat_g (srtD (prL z n))
  simp only [hb, Bool.and_false]
  show guardK (gnds ((srtD (prL z n)).flatMap encP)) _ = _
  rw [hg]
  rfl⟩
theorem cnE_ok (hz : rowAt r b off (2 * n) z) (h1 : 1 ≤ n) (hn : n ≤ 1000000) (hcap : cap ≠ unkE) : GrM Tryz.prog r 47 [RS2 b off n cap] (gw 0 n) (rowA (ixN z (2 * n)) 57 2) := by
 obtain ⟨k, rfl⟩ : ∃ k, n = k + 1 := ⟨n - 1, by omega⟩
 refine GrM.of (SC_ok r) TOk.nil .nil ⟨1, 2, (cnE r b off k cap).trans ?_⟩
 have hr : (match Nat.beq cap unkE with | true => none | false => takeF (r b) off (Nat.mul (k + 1) 2)) = some (ixN z (2 * (k + 1))) := by
  rw [natFx hcap]
  show takeF (r b) off (Nat.mul (k + 1) 2) = _
  rw [Nat.mul_eq, Nat.mul_comm, takeF_row (z := z) (2 * (k + 1)) 0 off fun i hi => by rw [Nat.zero_add]; exact hz i hi]
  unfold ixN
  rw [List.range_eq_range']
 have oc : ∀ {o : Option (List Value)} {c : List Value} (h : o = some c) (a : CR) (F : List Value → CR), (Option.casesOn o a F : CR) = F c := fun h a F => by rw [h]
 rw [Nat.ble_eq_true_of_le (show Nat.add 0 (k + 1) ≤ 1000000 by simp; omega), cond_true]
 refine (oc hr _ _).trans ?_
 have l1 : Nat.beq (ixN z (2 * (k + 1))).length (Nat.mul (k + 1) 2) = true := by
  rw [ix_len, Nat.mul_eq, Nat.mul_comm]
  exact Nat.beq_refl _
 rw [l1, cond_true, List.nil_append, ix_gnd, cond_true, Nat.add_eq, Nat.zero_add]
 rfl
theorem tSoE_ok (hz : rowAt r b off (2 * n) z) (h1 : 1 ≤ n) (hn : n ≤ 1000000) (hcap : cap ≠ unkE) : TOk (SC r) (tSoE (RS2 b off n cap) n (ixN z (2 * n)) ((srtE (prL z n)).flatMap encP)) := by
 refine (TOk.nil.cons (entAt_ok fun F hF k γ W args' hw hR ha => ?_)).cons fun args A hgd F hF k γ W args' hw hR ha => ?_
 ·have hi : (mkA [oPr (ixN z (2 * n)) 0]).heap.get 0 = some (.cells ((prL z n).flatMap encP) 57 0 2) := by rw [← prL_flat]; kernel_rfl
  have h := sort_gen2 Tryz.sortE (fun w => by kernel_rfl) (fun w => by kernel_rfl) encP (fun _ => rfl) (fun x v hv => by
    unfold encP at hv
    simp only [List.mem_cons, List.not_mem_nil, or_false] at hv
    rcases hv with rfl | rfl <;> rfl) (fun _ => rfl) 30 (fun x y => m_ce x.1 x.2 y.1 y.2) ⟨fun x => by
    simp only [ltOf, decide_eq_false_iff_not, ce_lt]; omega, fun x y w => by
    simp only [ltOf, decide_eq_true_eq, ce_lt]; omega, fun x y w => by
    simp only [ltOf, decide_eq_false_iff_not, ce_lt]; omega⟩ (fun args w => callFunc_ok (SC_ok r) (by kernel_rfl) args w) (fun x y => ce_calls _ x.1 x.2 y.1 y.2) (C := SC r) rfl (cap := unk) hi (by rw [prL_len]; omega) (by decide) (R := srtE (prL z n)) (fun d hp hs => srtE_one hp (hs.imp fun {x y} h => by
     simp only [ltOf, decide_eq_false_iff_not, ce_lt] at h
     unfold leE
     rw [decide_eq_true_eq]
     omega))
  rw [prL_len] at h
  have h2 := h F hF k γ W args' hw hR ha
  have hA1 : (mkA [oPr (ixN z (2 * n)) 0]).only 0 0 (.cells ((srtE (prL z n)).flatMap encP) 57 0 2) = mkA [oPr ((srtE (prL z n)).flatMap encP) 0] := by kernel_rfl
  rw [hA1] at h2
  exact h2
 ·refine ⟨fun hcc => ?_, fun h => nomatch h⟩
  have hs := @of_decide_eq_true _ (Classical.propDecidable _) hgd
  subst hs
  have hof : ofV 0 (gw 0 n) = true := by simp [ofV, of1]
  exact (cnE_ok hz h1 hn hcap).ends (γ := γ) (A := A) hof (ix_gnd _ _) hF hw (hR.noG noG fun _ => rfl) (ha.of_ros rfl) ha
theorem soE_ok (hz : rowAt r b off (2 * n) z) (h1 : 1 ≤ n) (hn : n ≤ 1000000) (hcap : cap ≠ unkE) : GrM Tryz.prog r 29 [RS2 b off n cap, fCE] (gw 0 n) (rowA ((srtE (prL z n)).flatMap encP) 57 2) :=
 GrM.of (SC_ok r) (tSoE_ok hz h1 hn hcap) .nil ⟨1, 1, by
  rw [soE]
  simp only [svv_rfl, at_rfl, cond_true]
  unfold finM rowOf rowsOf row1
  have hb : Nat.beq n 0 = false := natFx (by omega)
  have hg := flat_g (srtE (prL z n))
  simp only [hb, Bool.and_false]
  show guardK (gnds ((srtE (prL z n)).flatMap encP)) _ = _
  rw [hg]
  rfl⟩
end

end Go.Proofs

/- needs, run. -/
namespace Go.Proofs
open Go Go.Ev Go.Num
set_option linter.unusedVariables false
set_option linter.unusedSimpArgs false
set_option maxRecDepth 100000

noncomputable def cND : Code := bodyOf S0 25
noncomputable def ND_0 : Code := (lc cND)
noncomputable def ND_1 : Code := (lc (rc cND))
noncomputable def ND_2 : Code := (lc (lc (rc (rc cND))))
noncomputable def ND_3 : Code := (ic (ic (rc (lc (rc (rc cND))))))
noncomputable def ND_4 : Code := (rc (rc (rc cND)))
theorem ND_eq : cND = (.seq ND_0 (.seq ND_1 (.seq (.seq ND_2 (.block 0 (.loop ND_3))) ND_4))) := by kernel_rfl
def lvND : List Nat := [3, 9, 10, 11]
def vND (b off n cap k : Nat) : OV := [some (ow 0 n), some (RS b off n cap), some (I (n : Nat)), some (I (k : Nat))]

theorem ndA (r : Mem) (b off n cap : Nat) (fs : FnsC) (K : OV → List Nat → OO → CR) (kx : Nat → KS) (kr : KS) : run (SC r) 3645 24 1 (.seq ND_0 (.seq ND_1 ND_2)) fs none (rbK 0 lvND [] K) kx kr (sc0 3645 [RS b off n cap]) (tr0 3645 [RS b off n cap]) [] emptyA =
    bif Nat.ble (Int.toNat (Int.ofNat n)) (Int.toNat (Int.ofNat n)) then bif Nat.ble (Int.toNat (Int.ofNat n)) 1000000 then bif m_nns (zerosL (Nat.mul (Int.toNat (Int.ofNat n)) 2) [I (Int.ofNat 0), I (Int.ofNat 0)]) && true then K [some (.slice (some ⟨0, 0, none⟩) (Int.toNat (Int.ofNat n)) (Int.toNat (Int.ofNat n))), some (.slice (some ⟨b, off, some 0⟩) n cap), some (I (Int.ofNat n)), some (I (Int.ofNat 0))] [] [some (.cells (zerosL (Nat.mul (Int.toNat (Int.ofNat n)) 2) [I (Int.ofNat 0), I (Int.ofNat 0)]) 55 0 2)] else .fail 420 else .fail 420 else .fail 420 := by kernel_rfl

theorem ndB (r : Mem) (b off n cap k : Nat) (c : List Value) (fs : FnsC) (K : OV → List Nat → OO → CR) (KX : Nat → OV → List Nat → OO → CR) (kr : KS) : run (SC r) 3645 24 1 ND_3 fs none (rbK 0 lvND [] K) (fun j => rbK 0 [3] [] (KX j)) kr [] (bT lvND (vND b off n cap k) .nil) [] (mkA [oNd c 0]) =
    bif decide (Int.ofNat k < Int.ofNat n) then bif Nat.blt (Int.toNat (Int.ofNat k)) n then Option.casesOn (r b (Nat.add off (Nat.mul (Int.toNat (Int.ofNat k)) 1))) (.fail 423) fun val => bif isI IntKind.i64 val then bif Nat.blt (Int.toNat (Int.ofNat k)) n then Option.casesOn (setAt c (Nat.add 0 (Nat.mul (Int.toNat (Int.ofNat k)) 2)) [I (ofI val), I (Int.ofNat k)]) (.fail 450) fun val => bif m_nns val && true then K [some (.slice (some ⟨0, 0, none⟩) n n), some (.slice (some ⟨b, off, some 0⟩) n cap), some (I (Int.ofNat n)), some (I (IntKind.wrap .i64 (Int.ofNat k + Int.ofNat 1)))] [] [some (.cells val 55 0 2)] else .fail 420 else .fail 420 else .fail 420 else .fail 420 else bif m_nns c && true then KX 0 [some (.slice (some ⟨0, 0, none⟩) n n)] [] [some (.cells c 55 0 2)] else .fail 420 := by kernel_rfl

theorem ndC (r : Mem) (n : Nat) (c : List Value) (fs : FnsC) (K KR : OV → List Nat → OO → CR) (kx : Nat → KS) : run (SC r) 3645 24 1 ND_4 fs none (rbK 0 [2] [] K) kx (rbK 0 [2] [] KR) [] (bT [3] [some (ow 0 n)] .nil) [] (mkA [oNd c 0]) =
    bif m_nns c && true then KR [some (.slice (some ⟨0, 0, none⟩) n n)] [] [some (.cells c 55 0 2)] else .fail 420 := by kernel_rfl

end Go.Proofs

/- needs: what the call answers. -/
namespace Go.Proofs
open Go Go.Ev Go.Num
set_option linter.unusedVariables false
set_option linter.unusedSimpArgs false
set_option maxRecDepth 100000

def zNd (z : Nat → Int) (j : Nat) : Int := if j % 2 = 0 then z (j / 2) else ((j / 2 : Nat) : Int)
theorem nd_flat (z : Nat → Int) (n : Nat) : prL (zNd z) n = ndL z n := by
 unfold prL ndL
 refine List.map_congr_left fun i _ => ?_
 unfold ea eb zNd
 rw [if_pos (by omega), if_neg (by omega), show 2 * i / 2 = i by omega, show (2 * i + 1) / 2 = i by omega]
def cNd (z : Nat → Int) (n k : Nat) : List Value := ixN (fun j => if j < 2 * k then zNd z j else 0) (2 * n)
section
variable {r : Mem} {b off n cap : Nat} {z : Nat → Int}
theorem cNd_set {k : Nat} (h : k < n) : setAt (cNd z n k) (2 * k) [I (z k), I (k : Nat)] = some (cNd z n (k + 1)) := by
 unfold cNd
 rw [ix_set2 (by omega)]
 congr 1
 refine ix_ext fun j hj => ?_
 by_cases c1 : j = 2 * k + 1
 ·subst c1
  rw [if_pos rfl, if_pos (by omega)]
  unfold zNd
  rw [if_neg (by omega), show (2 * k + 1) / 2 = k by omega]
 ·rw [if_neg c1]
  by_cases c2 : j = 2 * k
  ·subst c2
   rw [if_pos rfl, if_pos (by omega)]
   unfold zNd
   rw [if_pos (by omega), show 2 * k / 2 = k by omega]
  ·rw [if_neg c2]
   by_cases c3 : j < 2 * k
   ·rw [if_pos c3, if_pos (by omega)]
   ·rw [if_neg c3, if_neg (by omega)]
theorem cNd_full : cNd z n n = ixN (zNd z) (2 * n) := ix_ext fun j hj => if_pos hj
theorem nd_S (hz : rowAt r b off n z) (hn : n ≤ 1000) : SOk (SC r) 25 [RS b off n cap] emptyA fun v A => v = ow 0 n ∧ A = mkA [oNd (cNd z n n) 0] := by
 refine callO (SC_ok r) (by kernel_rfl) ((bodySC r _).trans ND_eq) (nt := 24) (by kernel_rfl) (rs := [.tmp 2]) (by kernel_rfl) 3645 rfl ⟨[2], [], fun vs ms os => vs = [some (ow 0 n)] ∧ ms = [] ∧ os = [oNd (cNd z n n) 0]⟩ ?_ fun γ W F kk hwr hF hro h0' => ?_
 ·rintro vs ms os ⟨rfl, rfl, rfl⟩
  exact ⟨_, mkA [oNd (cNd z n n) 0], by kernel_rfl, rfl, rfl⟩
 have h0' : ∀ i, 0 ≤ i → γ i = none := h0'
 have nn : ∀ k, m_nns (cNd z n k) = true := fun k => ix_nn _ _
 refine Go.Ev.Reach.after3R (SC_ok r) TOk.nil (tm := .nil) (L := 1) (L' := 1) (d := 1) hF hro h0' (.step (.step .base))
  (o1 := ⟨lvND, [], fun vs ms os => vs = vND b off n cap 0 ∧ ms = [] ∧ os = [oNd (cNd z n 0) 0]⟩)
  (o2 := ⟨[3], [], fun vs ms os => vs = [some (ow 0 n)] ∧ ms = [] ∧ os = [oNd (cNd z n n) 0]⟩) [] (fun p hp => nomatch hp) ?_ ?_ ?_
 ·rintro vs ms os ⟨rfl, rfl, rfl⟩
  refine Go.Ev.Reach.blockC (Go.Ev.Reach.loopC (j := n) (lv := lvND) (fl := []) (I := fun j vs ms os => ∃ k : Nat, k ≤ n ∧ j = n - k ∧ vs = vND b off n cap k ∧ ms = [] ∧ os = [oNd (cNd z n k) 0]) (fun j vs ms os hI => ?_) ⟨0, by omega, rfl, rfl, rfl, rfl⟩)
  obtain ⟨k, hk, rfl, rfl, rfl, rfl⟩ := hI
  refine Go.Ev.Reach.segR (SC_ok r) TOk.nil (tm := .nil) (L := 1) (L' := 1) (d := 1) hF hro h0' [(0, ⟨[3], [], fun vs ms os => vs = [some (ow 0 n)] ∧ ms = [] ∧ os = [oNd (cNd z n n) 0]⟩)] (fun p hp => by simp only [List.mem_cons, List.not_mem_nil, or_false] at hp; subst hp; rfl) ?_
  have hn' := ndB r b off n cap k (cNd z n k)
  simp only [Int.ofNat_eq_natCast, Int.toNat_natCast] at hn'
  by_cases c : k < n
  ·have c1 : (k : Int) < (n : Int) := by omega
   have c3 : Nat.blt k n = true := Nat.ble_eq_true_of_le (by omega)
   have e3 := inc1' (k := k) (by omega)
   simp only [Int.ofNat_eq_natCast] at e3
   have e0 : Nat.add 0 (Nat.mul k 2) = 2 * k := by simp; omega
   simp only [dT c1, c3, cond_true, row_1 hz c, isI_I, e0, e3] at hn'
   dsimp +instances only [ofI_I] at hn'
   simp only [cNd_set c, nn, Bool.and_true, cond_true] at hn'
   exact (hn' _ _ _ _).trans (qq_ok ⟨n - (k + 1), by omega, k + 1, c, rfl, rfl, rfl, rfl⟩)
  ·obtain rfl : k = n := by omega
   have c1 : ¬ (k : Int) < (k : Int) := by omega
   simp only [dF c1, cond_false, nn, Bool.and_true, cond_true] at hn'
   exact (hn' _ _ _ _).trans (qq_ok ⟨rfl, rfl, rfl⟩)
 ·rintro vs ms os ⟨rfl, rfl, rfl⟩
  refine Go.Ev.Reach.segR (SC_ok r) TOk.nil (tm := .nil) (L := 1) (L' := 1) (d := 1) hF hro h0' [] (fun p hp => nomatch hp) ?_
  have hn' := ndC r n (cNd z n n)
  simp only [nn, Bool.and_true, cond_true] at hn'
  exact (hn' _ _ _ _).trans (qq_ok ⟨rfl, rfl, rfl⟩)
 ·have g1 : Nat.ble n n = true := Nat.ble_eq_true_of_le (Nat.le_refl _)
  have g2 : Nat.ble n 1000000 = true := Nat.ble_eq_true_of_le (by omega)
  have z0 : zerosL (Nat.mul n 2) [I (Int.ofNat 0), I (Int.ofNat 0)] = cNd z n 0 := by
   rw [ix_zero2]
   exact ix_ext fun j hj => (if_neg (by omega)).symm
  simp only [Int.ofNat_eq_natCast] at z0
  have hn' := ndA r b off n cap
  simp only [Int.ofNat_eq_natCast, Int.toNat_natCast] at hn'
  simp only [g1, g2, cond_true, z0, nn, Bool.and_true] at hn'
  exact (hn' _ _ _ _).trans (qq_ok ⟨rfl, rfl, rfl⟩)
end

end Go.Proofs

/- Cut rows of the caller's, as memory. -/
namespace Go.Proofs
open Go Go.Ev Go.Num
set_option linter.unusedVariables false
set_option linter.unusedSimpArgs false

theorem own_cut {r : Mem} {γ : Gam} {A : AW} {W : World} (hw : WRel γ A W) (hR : Ro r γ W) {i k len cap : Nat} (hcap : Nat.beq cap unkE = false) {c : List Value} {e f z : Nat} (hget : A.heap.get i = some (.cells c e f z)) {v' : Value} (hv : VRel γ (.slice (some ⟨i, k, none⟩) len cap) v') :
  ∃ b k', VRel noG (RS b k' len 0) v' ∧ ∀ j u, c[k + j]? = some u → gnd u = true → memW W b (k' + j) = some u := by
 obtain ⟨b, k', c', rfl, hrd⟩ := rd_world hw hR hv hcap
 refine ⟨b, k', .sliceRo _ _ _ _ _ _ (by decide) (Nat.zero_le _), fun j u hu hg => hrd j u ?_ hg⟩
 simp only [AW.rd, AW.cell, hget]
 exact hu

end Go.Proofs

/- realize, run. -/
namespace Go.Proofs
open Go Go.Ev Go.Num
set_option linter.unusedVariables false
set_option linter.unusedSimpArgs false
set_option maxRecDepth 100000

noncomputable def cRL : Code := bodyOf S0 13
noncomputable def RL_0 : Code := (lc cRL)
noncomputable def RL_1 : Code := (lc (rc cRL))
noncomputable def RL_2 : Code := (lc (lc (rc (rc cRL))))
noncomputable def RL_3 : Code := (lc (ic (ic (rc (lc (rc (rc cRL)))))))
noncomputable def RL_4 : Code := (lc (ic (lc (rc (ic (ic (rc (lc (rc (rc cRL))))))))))
noncomputable def RL_5 : Code := (lc (rc (ic (lc (rc (ic (ic (rc (lc (rc (rc cRL)))))))))))
noncomputable def RL_6 : Code := (lc (rc (rc (ic (lc (rc (ic (ic (rc (lc (rc (rc cRL))))))))))))
noncomputable def RL_7 : Code := (lc (rc (rc (rc (ic (lc (rc (ic (ic (rc (lc (rc (rc cRL)))))))))))))
noncomputable def RL_8 : Code := (ic (ic (rc (rc (rc (rc (ic (lc (rc (ic (ic (rc (lc (rc (rc cRL)))))))))))))))
noncomputable def RL_9 : Code := (rc (rc (ic (ic (rc (lc (rc (rc cRL))))))))
noncomputable def RL_10 : Code := (rc (rc (rc cRL)))
theorem RL_eq : cRL = (.seq RL_0 (.seq RL_1 (.seq (.seq RL_2 (.block 0 (.loop (.seq RL_3 (.seq (.block 1 (.seq RL_4 (.seq RL_5 (.seq RL_6 (.seq RL_7 (.block 2 (.loop RL_8))))))) RL_9))))) RL_10))) := by kernel_rfl
abbrev nilE : Value := .slice none 0 0
abbrev cuD (off m cap : Nat) : Value := .slice (some ⟨0, off, none⟩) m cap
def lvRL : List Nat := [5, 4]
def lvRI : List Nat := [5, 6, 4, 40, 41, 42]
def oFi (x o : Int) : Option AObj := some (.cells [I x, I o] 55 1 0)
def vRI (m : Nat) (k : Nat) (E : Value) (j : Nat) : OV := [some (gw 0 m), some (.pointer (some ⟨1, 0, none⟩)), some E, some (gw 0 k), some (I (k : Nat)), some (I (j : Nat))]
noncomputable def eNeD (a0 : List Value) (n : Nat) (c : List Value) : Ent := ⟨fun args _ => m_svv args a0, fun _ _ => true, fun _ A => .slice (some ⟨A.next, 0, none⟩) n n, fun _ A => A.new (.cells c 55 A.next 2), fun _ _ => undef, fun _ A => A⟩
noncomputable def gCut (off m cap : Nat) (c : List Value) (args : List Value) (A : AW) : Bool := match args with
 | [.slice (some ⟨i, x, none⟩) l p, y] => match A.heap.get i with
  | some (.cells ci _ _ _) => m_svv [.slice (some ⟨0, x, none⟩) l p, .agg ⟨ci⟩, y] [cuD off m cap, .agg ⟨c⟩, fGN]
  | _ => false
 | _ => false
noncomputable def eSoD (off m cap : Nat) (c c' : List Value) : Ent := ⟨fun args A => gCut off m cap c args A, fun _ _ => true, fun _ A => .slice (some ⟨A.next, 0, none⟩) m unk, fun _ A => A.new (.cells c' 55 A.next 2), fun _ _ => undef, fun _ A => A⟩
noncomputable def tRlN (a0 : List Value) (n : Nat) (c : List Value) : Tbl := tcons 25 (eNeD a0 n c) fun _ => none
noncomputable def tRlS (off m cap : Nat) (c c' : List Value) : Tbl := tcons 26 (eSoD off m cap c c') fun _ => none

theorem rlA (r : Mem) (b off n cap : Nat) (c : List Value) (K : OV → List Nat → OO → CR) (kx : Nat → KS) (kr : KS) : run (SC r) 7696581394941 69 1 (.seq RL_0 (.seq RL_1 RL_2)) (lvlT (SC r) (tRlN [RS b off n cap] n c) .nil 1 1) none (rbK 0 lvRL [] K) kx kr (sc0 7696581394941 [RS b off n cap]) (tr0 7696581394941 [RS b off n cap]) [] emptyA =
    bif m_svv [.slice (some ⟨b, off, some 0⟩) n cap] [.slice (some ⟨b, off, some 0⟩) n cap] then bif m_nns c && true then K [some (.slice (some ⟨0, 0, none⟩) n n), some (.slice none 0 0)] [] [some (.cells c 55 0 2)] else .fail 420 else .fail 420 := by kernel_rfl

theorem rlBn (r : Mem) (off m cap : Nat) (c : List Value) (fs : FnsC) (K : OV → List Nat → OO → CR) (KX : Nat → OV → List Nat → OO → CR) (kr : KS) : run (SC r) 7696581394941 69 1 RL_3 fs none (rbK 0 lvRL [] K) (fun j => rbK 0 [4] [] (KX j)) kr [] (bT lvRL [some (cuD off m cap), some nilE] .nil) [] (mkA [oNd c 0]) =
    bif decide (Int.ofNat m > 0) then bif m_nns c && true then K [some (.slice (some ⟨0, off, none⟩) m cap), some (.slice none 0 0)] [] [some (.cells c 55 0 2)] else .fail 420 else KX 0 [some (.slice none 0 0)] [] [] := by kernel_rfl

theorem rlCn (r : Mem) (off m cap : Nat) (c c2 : List Value) (K : OV → List Nat → OO → CR) (kx : Nat → KS) (KR : OV → List Nat → OO → CR) : run (SC r) 7696581394941 69 1 (.seq RL_4 (.seq RL_5 (.seq RL_6 RL_7))) (lvlT (SC r) (tRlS off m cap c c2) .nil 1 1) none (rbK 0 lvRI [] K) kx (rbK 0 [2, 3] [] KR) [] (bT lvRL [some (cuD off m cap), some nilE] .nil) [] (mkA [oNd c 0]) =
    bif m_svv [.slice (some ⟨0, off, none⟩) m cap, .agg ⟨c⟩, .func (Fn.func 27) ⟨[]⟩ ⟨[]⟩] [.slice (some ⟨0, off, none⟩) m cap, .agg ⟨c⟩, .func (Fn.func 27) ⟨[]⟩ ⟨[]⟩] then bif Nat.blt 0 m then Option.casesOn c2[0]? (.fail 423) fun val => bif isI IntKind.i64 val then Option.casesOn c2[1]? (.fail 423) fun val_1 => bif isI IntKind.i64 val_1 then bif decide (ofI val ≥ Int.ofNat m) then KR [some (.slice none 0 0), some (.bool false)] [] [] else bif decide (0 ≤ IntKind.wrap .i64 (Int.ofNat m - Int.ofNat 1)) then bif Nat.blt (Int.toNat (IntKind.wrap .i64 (Int.ofNat m - Int.ofNat 1))) m then Option.casesOn c2[Nat.add (Nat.add 0 (Nat.mul (Int.toNat (IntKind.wrap .i64 (Int.ofNat m - Int.ofNat 1))) 2)) 0]? (.fail 423) fun val_2 => bif isI IntKind.i64 val_2 then bif decide (ofI val_2 < 0) then KR [some (.slice none 0 0), some (.bool false)] [] [] else bif decide (0 ≤ IntKind.wrap .i64 (ofI val + Int.ofNat 1)) then bif Nat.ble (Int.toNat (IntKind.wrap .i64 (ofI val + Int.ofNat 1))) m then bif m_nns c2 && (m_nns [I (ofI val), I (ofI val_1)] && true) then K [some (.slice (some ⟨0, 0, none⟩) m unk), some (.pointer (some ⟨1, 0, none⟩)), some (.slice none 0 0), some (.slice (some ⟨0, 0, none⟩) (Int.toNat (IntKind.wrap .i64 (ofI val + Int.ofNat 1))) unk), some (I (Int.ofNat (Int.toNat (IntKind.wrap .i64 (ofI val + Int.ofNat 1))))), some (I (Int.ofNat 0))] [] [some (.cells c2 55 0 2), some (.cells [I (ofI val), I (ofI val_1)] 55 1 0)] else .fail 420 else .fail 420 else .fail 420 else .fail 420 else .fail 420 else .fail 420 else .fail 420 else .fail 420 else .fail 420 else .fail 420 := by kernel_rfl

theorem rlDn (r : Mem) (m k j : Nat) (x o : Int) (c : List Value) (K : OV → List Nat → OO → CR) (KX : Nat → OV → List Nat → OO → CR) (kr : KS) : run (SC r) 7696581394941 69 1 RL_8 (lvlT (SC r) (fun _ => none) .nil 1 3) none (rbK 0 lvRI [] K) (fun j => rbK 0 lvRL [] (KX j)) kr [] (bT lvRI (vRI m k nilE j) .nil) [] (mkA [oNd c 0, oFi x o]) =
    bif decide (Int.ofNat j < Int.ofNat k) then bif Nat.blt (Int.toNat (Int.ofNat j)) k then Option.casesOn c[Nat.add 0 (Nat.mul (Int.toNat (Int.ofNat j)) 2)]? (.fail 423) fun val => bif isI IntKind.i64 val then Option.casesOn c[Nat.succ (Nat.add 0 (Nat.mul (Int.toNat (Int.ofNat j)) 2))]? (.fail 423) fun val_1 => bif isI IntKind.i64 val_1 then bif !(ofI val == x && (ofI val_1 == o && true)) then bif Nat.blt (Int.toNat (Int.ofNat j)) m then Option.casesOn c[Nat.add (Nat.add 0 (Nat.mul (Int.toNat (Int.ofNat j)) 2)) 0]? (.fail 423) fun val => bif isI IntKind.i64 val then bif Nat.blt (Int.toNat (Int.ofNat j)) m then bif Nat.blt (Nat.add (Nat.add 0 (Nat.mul (Int.toNat (Int.ofNat j)) 2)) 0) (List.length c) then bif m_nns (List.set c (Nat.add (Nat.add 0 (Nat.mul (Int.toNat (Int.ofNat j)) 2)) 0) (I (IntKind.wrap .i64 (ofI val - Int.ofNat 1)))) && (m_nns [I x, I o] && (m_nns [I (bif decide (ofI val_1 < o) then ofI val_1 else o), I (bif decide (ofI val_1 > o) then ofI val_1 else o)] && true)) then K [some (.slice (some ⟨0, 0, none⟩) m unk), some (.pointer (some ⟨1, 0, none⟩)), some (.slice (some ⟨2, 0, none⟩) 1 unk), some (.slice (some ⟨0, 0, none⟩) k unk), some (I (Int.ofNat k)), some (I (IntKind.wrap .i64 (Int.ofNat j + Int.ofNat 1)))] [] [some (.cells (List.set c (Nat.add (Nat.add 0 (Nat.mul (Int.toNat (Int.ofNat j)) 2)) 0) (I (IntKind.wrap .i64 (ofI val - Int.ofNat 1)))) 55 0 2), some (.cells [I x, I o] 55 1 0), some (.cells [I (bif decide (ofI val_1 < o) then ofI val_1 else o), I (bif decide (ofI val_1 > o) then ofI val_1 else o)] 57 2 2)] else .fail 420 else .fail 420 else .fail 420 else .fail 420 else .fail 420 else bif m_nns c && (m_nns [I x, I o] && true) then K [some (.slice (some ⟨0, 0, none⟩) m unk), some (.pointer (some ⟨1, 0, none⟩)), some (.slice none 0 0), some (.slice (some ⟨0, 0, none⟩) k unk), some (I (Int.ofNat k)), some (I (IntKind.wrap .i64 (Int.ofNat j + Int.ofNat 1)))] [] [some (.cells c 55 0 2), some (.cells [I x, I o] 55 1 0)] else .fail 420 else .fail 420 else .fail 420 else .fail 420 else bif m_nns c && true then KX 2 [some (.slice (some ⟨0, 0, none⟩) m unk), some (.slice none 0 0)] [] [some (.cells c 55 0 2)] else .fail 420 := by kernel_rfl

theorem rlEn (r : Mem) (off m cap : Nat) (c : List Value) (fs : FnsC) (K : OV → List Nat → OO → CR) (kx : Nat → KS) (kr : KS) : run (SC r) 7696581394941 69 1 RL_9 fs none (rbK 0 lvRL [] K) kx kr [] (bT lvRL [some (cuD off m cap), some nilE] .nil) [] (mkA [oNd c 0]) =
    bif Nat.beq cap 9223372036854775809 then .fail 432 else bif Nat.beq cap unk then bif Nat.ble 1 m then bif Nat.ble m m then bif Nat.blt 1 m then bif m_nns c && true then K [some (.slice (some ⟨0, (Nat.add off 2), none⟩) (Nat.sub m 1) unk), some (.slice none 0 0)] [] [some (.cells c 55 0 2)] else .fail 420 else bif m_nns c && true then K [some (.slice (some ⟨0, off, none⟩) 0 9223372036854775809), some (.slice none 0 0)] [] [some (.cells c 55 0 2)] else .fail 420 else .fail 420 else .fail 420 else bif Nat.ble 1 m then bif Nat.ble m (Nat.min cap 1000000000000) then bif Nat.ble cap (Nat.min cap 1000000000000) then bif Nat.beq cap 1 then bif m_nns c && true then K [some (.slice (some ⟨0, off, none⟩) (Nat.sub m 1) (Nat.sub cap 1)), some (.slice none 0 0)] [] [some (.cells c 55 0 2)] else .fail 420 else bif m_nns c && true then K [some (.slice (some ⟨0, (Nat.add off 2), none⟩) (Nat.sub m 1) (Nat.sub cap 1)), some (.slice none 0 0)] [] [some (.cells c 55 0 2)] else .fail 420 else .fail 420 else .fail 420 else .fail 420 := by kernel_rfl

theorem rlBo (r : Mem) (off m cap : Nat) (c : List Value) (q : Nat) (e : List Value) (fs : FnsC) (K : OV → List Nat → OO → CR) (KX : Nat → OV → List Nat → OO → CR) (kr : KS) : run (SC r) 7696581394941 69 1 RL_3 fs none (rbK 0 lvRL [] K) (fun j => rbK 0 [4] [] (KX j)) kr [] (bT lvRL [some (cuD off m cap), some (gw 1 q)] .nil) [] (mkA [oNd c 0, oPr e 1]) =
    bif decide (Int.ofNat m > 0) then bif m_nns c && (m_nns e && true) then K [some (.slice (some ⟨0, off, none⟩) m cap), some (.slice (some ⟨1, 0, none⟩) q unk)] [] [some (.cells c 55 0 2), some (.cells e 57 1 2)] else .fail 420 else bif m_nns e && true then KX 0 [some (.slice (some ⟨0, 0, none⟩) q unk)] [] [some (.cells e 57 0 2)] else .fail 420 := by kernel_rfl

theorem rlCo (r : Mem) (off m cap : Nat) (c c2 : List Value) (q : Nat) (e : List Value) (K : OV → List Nat → OO → CR) (kx : Nat → KS) (KR : OV → List Nat → OO → CR) : run (SC r) 7696581394941 69 1 (.seq RL_4 (.seq RL_5 (.seq RL_6 RL_7))) (lvlT (SC r) (tRlS off m cap c c2) .nil 1 1) none (rbK 0 lvRI [] K) kx (rbK 0 [2, 3] [] KR) [] (bT lvRL [some (cuD off m cap), some (gw 1 q)] .nil) [] (mkA [oNd c 0, oPr e 1]) =
    bif m_svv [.slice (some ⟨0, off, none⟩) m cap, .agg ⟨c⟩, .func (Fn.func 27) ⟨[]⟩ ⟨[]⟩] [.slice (some ⟨0, off, none⟩) m cap, .agg ⟨c⟩, .func (Fn.func 27) ⟨[]⟩ ⟨[]⟩] then bif Nat.blt 0 m then Option.casesOn c2[0]? (.fail 423) fun val => bif isI IntKind.i64 val then Option.casesOn c2[1]? (.fail 423) fun val_1 => bif isI IntKind.i64 val_1 then bif decide (ofI val ≥ Int.ofNat m) then KR [some (.slice none 0 0), some (.bool false)] [] [] else bif decide (0 ≤ IntKind.wrap .i64 (Int.ofNat m - Int.ofNat 1)) then bif Nat.blt (Int.toNat (IntKind.wrap .i64 (Int.ofNat m - Int.ofNat 1))) m then Option.casesOn c2[Nat.add (Nat.add 0 (Nat.mul (Int.toNat (IntKind.wrap .i64 (Int.ofNat m - Int.ofNat 1))) 2)) 0]? (.fail 423) fun val_2 => bif isI IntKind.i64 val_2 then bif decide (ofI val_2 < 0) then KR [some (.slice none 0 0), some (.bool false)] [] [] else bif decide (0 ≤ IntKind.wrap .i64 (ofI val + Int.ofNat 1)) then bif Nat.ble (Int.toNat (IntKind.wrap .i64 (ofI val + Int.ofNat 1))) m then bif m_nns c2 && (m_nns [I (ofI val), I (ofI val_1)] && (m_nns e && true)) then K [some (.slice (some ⟨0, 0, none⟩) m unk), some (.pointer (some ⟨1, 0, none⟩)), some (.slice (some ⟨2, 0, none⟩) q unk), some (.slice (some ⟨0, 0, none⟩) (Int.toNat (IntKind.wrap .i64 (ofI val + Int.ofNat 1))) unk), some (I (Int.ofNat (Int.toNat (IntKind.wrap .i64 (ofI val + Int.ofNat 1))))), some (I (Int.ofNat 0))] [] [some (.cells c2 55 0 2), some (.cells [I (ofI val), I (ofI val_1)] 55 1 0), some (.cells e 57 2 2)] else .fail 420 else .fail 420 else .fail 420 else .fail 420 else .fail 420 else .fail 420 else .fail 420 else .fail 420 else .fail 420 else .fail 420 := by kernel_rfl

theorem rlDo (r : Mem) (m k j : Nat) (x o : Int) (c : List Value) (q : Nat) (e : List Value) (K : OV → List Nat → OO → CR) (KX : Nat → OV → List Nat → OO → CR) (kr : KS) : run (SC r) 7696581394941 69 1 RL_8 (lvlT (SC r) (fun _ => none) .nil 1 3) none (rbK 0 lvRI [] K) (fun j => rbK 0 lvRL [] (KX j)) kr [] (bT lvRI (vRI m k (gw 2 q) j) .nil) [] (mkA [oNd c 0, oFi x o, oPr e 2]) =
    bif decide (Int.ofNat j < Int.ofNat k) then bif Nat.blt (Int.toNat (Int.ofNat j)) k then Option.casesOn c[Nat.add 0 (Nat.mul (Int.toNat (Int.ofNat j)) 2)]? (.fail 423) fun val => bif isI IntKind.i64 val then Option.casesOn c[Nat.succ (Nat.add 0 (Nat.mul (Int.toNat (Int.ofNat j)) 2))]? (.fail 423) fun val_1 => bif isI IntKind.i64 val_1 then bif !(ofI val == x && (ofI val_1 == o && true)) then bif Nat.blt (Int.toNat (Int.ofNat j)) m then Option.casesOn c[Nat.add (Nat.add 0 (Nat.mul (Int.toNat (Int.ofNat j)) 2)) 0]? (.fail 423) fun val => bif isI IntKind.i64 val then bif Nat.blt (Int.toNat (Int.ofNat j)) m then bif Nat.blt (Nat.add (Nat.add 0 (Nat.mul (Int.toNat (Int.ofNat j)) 2)) 0) (List.length c) then bif Nat.ble (Nat.add q 1) 1000000 then Option.casesOn (takeAt e 0 (Nat.mul q 2)) (.fail 439) fun val_2 => bif m_nns (List.set c (Nat.add (Nat.add 0 (Nat.mul (Int.toNat (Int.ofNat j)) 2)) 0) (I (IntKind.wrap .i64 (ofI val - Int.ofNat 1)))) && (m_nns [I x, I o] && (m_nns (val_2 ++ [I (bif decide (ofI val_1 < o) then ofI val_1 else o), I (bif decide (ofI val_1 > o) then ofI val_1 else o)]) && true)) then K [some (.slice (some ⟨0, 0, none⟩) m unk), some (.pointer (some ⟨1, 0, none⟩)), some (.slice (some ⟨2, 0, none⟩) (Nat.add q 1) unk), some (.slice (some ⟨0, 0, none⟩) k unk), some (I (Int.ofNat k)), some (I (IntKind.wrap .i64 (Int.ofNat j + Int.ofNat 1)))] [] [some (.cells (List.set c (Nat.add (Nat.add 0 (Nat.mul (Int.toNat (Int.ofNat j)) 2)) 0) (I (IntKind.wrap .i64 (ofI val - Int.ofNat 1)))) 55 0 2), some (.cells [I x, I o] 55 1 0), some (.cells (val_2 ++ [I (bif decide (ofI val_1 < o) then ofI val_1 else o), I (bif decide (ofI val_1 > o) then ofI val_1 else o)]) 57 2 2)] else .fail 420 else .fail 420 else .fail 420 else .fail 420 else .fail 420 else .fail 420 else bif m_nns c && (m_nns [I x, I o] && (m_nns e && true)) then K [some (.slice (some ⟨0, 0, none⟩) m unk), some (.pointer (some ⟨1, 0, none⟩)), some (.slice (some ⟨2, 0, none⟩) q unk), some (.slice (some ⟨0, 0, none⟩) k unk), some (I (Int.ofNat k)), some (I (IntKind.wrap .i64 (Int.ofNat j + Int.ofNat 1)))] [] [some (.cells c 55 0 2), some (.cells [I x, I o] 55 1 0), some (.cells e 57 2 2)] else .fail 420 else .fail 420 else .fail 420 else .fail 420 else bif m_nns c && (m_nns e && true) then KX 2 [some (.slice (some ⟨0, 0, none⟩) m unk), some (.slice (some ⟨1, 0, none⟩) q unk)] [] [some (.cells c 55 0 2), some (.cells e 57 1 2)] else .fail 420 := by kernel_rfl

theorem rlEo (r : Mem) (off m cap : Nat) (c : List Value) (q : Nat) (e : List Value) (fs : FnsC) (K : OV → List Nat → OO → CR) (kx : Nat → KS) (kr : KS) : run (SC r) 7696581394941 69 1 RL_9 fs none (rbK 0 lvRL [] K) kx kr [] (bT lvRL [some (cuD off m cap), some (gw 1 q)] .nil) [] (mkA [oNd c 0, oPr e 1]) =
    bif Nat.beq cap 9223372036854775809 then .fail 432 else bif Nat.beq cap unk then bif Nat.ble 1 m then bif Nat.ble m m then bif Nat.blt 1 m then bif m_nns c && (m_nns e && true) then K [some (.slice (some ⟨0, (Nat.add off 2), none⟩) (Nat.sub m 1) unk), some (.slice (some ⟨1, 0, none⟩) q unk)] [] [some (.cells c 55 0 2), some (.cells e 57 1 2)] else .fail 420 else bif m_nns c && (m_nns e && true) then K [some (.slice (some ⟨0, off, none⟩) 0 9223372036854775809), some (.slice (some ⟨1, 0, none⟩) q unk)] [] [some (.cells c 55 0 2), some (.cells e 57 1 2)] else .fail 420 else .fail 420 else .fail 420 else bif Nat.ble 1 m then bif Nat.ble m (Nat.min cap 1000000000000) then bif Nat.ble cap (Nat.min cap 1000000000000) then bif Nat.beq cap 1 then bif m_nns c && (m_nns e && true) then K [some (.slice (some ⟨0, off, none⟩) (Nat.sub m 1) (Nat.sub cap 1)), some (.slice (some ⟨1, 0, none⟩) q unk)] [] [some (.cells c 55 0 2), some (.cells e 57 1 2)] else .fail 420 else bif m_nns c && (m_nns e && true) then K [some (.slice (some ⟨0, (Nat.add off 2), none⟩) (Nat.sub m 1) (Nat.sub cap 1)), some (.slice (some ⟨1, 0, none⟩) q unk)] [] [some (.cells c 55 0 2), some (.cells e 57 1 2)] else .fail 420 else .fail 420 else .fail 420 else .fail 420 := by kernel_rfl

end Go.Proofs

/- A cut list of needs, sorted: the entry. -/
namespace Go.Proofs
open Go Go.Ev Go.Num
set_option linter.unusedVariables false
set_option linter.unusedSimpArgs false
set_option maxRecDepth 100000

theorem eSoD_ok {r : Mem} {off m cap : Nat} {c : List Value} {z : Nat → Int} (h1 : 1 ≤ m) (hm : m ≤ 1000000) (hcap : Nat.beq cap unkE = false) (hc : ∀ j, j < 2 * m → c[off + j]? = some (I (z j))) : EOk (SC r) 26 (eSoD off m cap c ((srtD (prL z m)).flatMap encP)) := fun args A hgd F hF k γ W args' hw hR ha => by
 refine ⟨fun hcc => ?_, fun h => nomatch h⟩
 have hgd : gCut off m cap c args A = true := hgd
 unfold gCut at hgd
 split at hgd
 ·rename_i i x l p y
  split at hgd
  ·rename_i ci e f zz hi
   have hs := @of_decide_eq_true _ (Classical.propDecidable _) hgd
   simp only [List.cons.injEq, Value.slice.injEq, Option.some.injEq, Addr.mk.injEq, Value.agg.injEq, Array.mk.injEq, and_true, true_and] at hs
   obtain ⟨⟨rfl, rfl, rfl⟩, rfl, rfl⟩ := hs
   obtain ⟨la⟩ := args'
   cases ha with
   | cons hv hrest =>
   have hall := VsRel.cons hv hrest
   obtain ⟨b, k', p1, p2⟩ := own_cut hw hR hcap hi hv
   have hz : rowAt (memW W) b k' (2 * x) z := fun j hj => p2 j _ (hc j hj) rfl
   have hof : ofV 0 (gw 0 x) = true := by simp [ofV, of1]
   exact (soD_ok (cap := 0) hz h1 hm (by decide)).ends (γ := γ) (A := A) hof (flat_g _) hF hw (memW_ro W) (.cons p1 (hrest.of_ros rfl)) hall
  ·cases hgd
 ·cases hgd

end Go.Proofs

/- realize, run: its end. -/
namespace Go.Proofs
open Go Go.Ev Go.Num
set_option linter.unusedVariables false
set_option linter.unusedSimpArgs false
set_option maxRecDepth 100000

noncomputable def gCuE (m : Nat) (c : List Value) (args : List Value) (A : AW) : Bool := match args with
 | [.slice (some ⟨i, x, none⟩) l p, y] => match A.heap.get i with
  | some (.cells ci _ _ _) => m_svv [.slice (some ⟨0, x, none⟩) l p, .agg ⟨ci⟩, y] [gw 0 m, .agg ⟨c⟩, fCE]
  | _ => false
 | _ => false
noncomputable def eSoE (m : Nat) (c c' : List Value) : Ent := ⟨fun args A => gCuE m c args A, fun _ _ => true, fun _ A => .slice (some ⟨A.next, 0, none⟩) m unk, fun _ A => A.new (.cells c' 57 A.next 2), fun _ _ => undef, fun _ A => A⟩
noncomputable def tRlE (m : Nat) (c c' : List Value) : Tbl := tcons 29 (eSoE m c c') fun _ => none

theorem rlFn (r : Mem) (K KR : OV → List Nat → OO → CR) (kx : Nat → KS) : run (SC r) 7696581394941 69 1 RL_10 (lvlT (SC r) (fun _ => none) .nil 1 4) none (rbK 0 [2, 3] [] K) kx (rbK 0 [2, 3] [] KR) [] (bT [4] [some nilE] .nil) [] (mkA []) =
    KR [some (.slice none 0 0), some (.bool true)] [] [] := by kernel_rfl

theorem rlFo (r : Mem) (q : Nat) (e e' : List Value) (K KR : OV → List Nat → OO → CR) (kx : Nat → KS) : run (SC r) 7696581394941 69 1 RL_10 (lvlT (SC r) (tRlE q e e') .nil 1 1) none (rbK 0 [2, 3] [] K) kx (rbK 0 [2, 3] [] KR) [] (bT [4] [some (gw 0 q)] .nil) [] (mkA [oPr e 0]) =
    bif m_svv [.slice (some ⟨0, 0, none⟩) q unk, .agg ⟨e⟩, .func (Fn.func 30) ⟨[]⟩ ⟨[]⟩] [.slice (some ⟨0, 0, none⟩) q unk, .agg ⟨e⟩, .func (Fn.func 30) ⟨[]⟩ ⟨[]⟩] then bif m_nns e' && true then KR [some (.slice (some ⟨0, 0, none⟩) q unk), some (.bool true)] [] [some (.cells e' 57 0 2)] else .fail 420 else .fail 420 := by kernel_rfl

theorem eSoE_ok {r : Mem} {m : Nat} {E : List (Int × Int)} (h1 : 1 ≤ m) (hm : m ≤ 1000000) (hE : E.length = m) : EOk (SC r) 29 (eSoE m (E.flatMap encP) ((srtE E).flatMap encP)) := fun args A hgd F hF k γ W args' hw hR ha => by
 refine ⟨fun hcc => ?_, fun h => nomatch h⟩
 have hgd : gCuE m (E.flatMap encP) args A = true := hgd
 unfold gCuE at hgd
 split at hgd
 ·rename_i i x l p y
  split at hgd
  ·rename_i ci e f zz hi
   have hs := @of_decide_eq_true _ (Classical.propDecidable _) hgd
   simp only [List.cons.injEq, Value.slice.injEq, Option.some.injEq, Addr.mk.injEq, Value.agg.injEq, Array.mk.injEq, and_true, true_and] at hs
   obtain ⟨⟨rfl, rfl, rfl⟩, rfl, rfl⟩ := hs
   obtain ⟨la⟩ := args'
   cases ha with
   | cons hv hrest =>
   have hall := VsRel.cons hv hrest
   obtain ⟨b, k', p1, p2⟩ := own_cut hw hR (by decide) hi hv
   have hz : rowAt (memW W) b k' (2 * x) (zP E) := fun j hj => p2 j _ (by rw [← zP_flat, Nat.zero_add, hE]; exact ix_get hj) rfl
   have hof : ofV 0 (gw 0 x) = true := by simp [ofV, of1]
   have hpr : prL (zP E) x = E := by
    apply List.ext_getElem
    ·rw [prL_len, hE]
    ·intro i h1 h2
     have e0 : (prL (zP E) x)[i] = (ea (zP E) i, eb (zP E) i) := by simp [prL]
     rw [e0, ea_zP, eb_zP, List.getD_eq_getElem?_getD, List.getElem?_eq_getElem h2]
     rfl
   have h := (soE_ok (cap := 0) hz h1 hm (by decide)).ends (k := k) (γ := γ) (A := A) hof (flat_g _) hF hw (memW_ro W) (.cons p1 (hrest.of_ros rfl)) hall
   rw [hpr] at h
   exact h
  ·cases hgd
 ·cases hgd

end Go.Proofs

/- realize: its rounds as lists. Mathematics. -/
namespace Go.Proofs
open Go Go.Ev Go.Num
set_option linter.unusedVariables false
set_option linter.unusedSimpArgs false
set_option maxRecDepth 100000

theorem prL_zP (E : List (Int × Int)) : prL (zP E) E.length = E := by
 apply List.ext_getElem
 ·rw [prL_len]
 ·intro i h1 h2
  have e0 : (prL (zP E) E.length)[i] = (ea (zP E) i, eb (zP E) i) := by simp [prL]
  rw [e0, ea_zP, eb_zP, List.getD_eq_getElem?_getD, List.getElem?_eq_getElem h2]
  rfl
theorem lsD_get : ∀ {D : List Nd}, D ≠ [] → lsD D = (D.getD (D.length - 1) (0, 0)).1
 | [], h => absurd rfl h
 | [p], _ => rfl
 | p :: q :: l, _ => by
  have ih := lsD_get (D := q :: l) (by simp)
  simp only [lsD]
  rw [ih]
  simp
theorem dec_get (R : List Nd) (i t : Nat) (ht : t < R.length) : (decD R i).getD t (0, 0) = if t < i then ((R.getD t (0, 0)).1 - 1, (R.getD t (0, 0)).2) else R.getD t (0, 0) := by
 unfold decD
 rw [List.getD_eq_getElem?_getD, List.getD_eq_getElem?_getD]
 by_cases c : t < i
 ·rw [if_pos c, List.getElem?_append_left (by simp; omega), List.getElem?_map, List.getElem?_take_of_lt c, List.getElem?_eq_getElem ht]
  rfl
 ·rw [if_neg c, List.getElem?_append_right (by simp; omega), List.getElem?_drop]
  congr 2
  simp
  omega
theorem zP_even (E : List (Int × Int)) (t : Nat) : zP E (2 * t) = (E.getD t (0, 0)).1 := by
 unfold zP
 rw [if_pos (by omega), show 2 * t / 2 = t by omega]
theorem zP_odd (E : List (Int × Int)) (t : Nat) : zP E (2 * t + 1) = (E.getD t (0, 0)).2 := by
 unfold zP
 rw [if_neg (by omega), show (2 * t + 1) / 2 = t by omega]
theorem dec_set (p : Nd) (R : List Nd) (i : Nat) (h : i < R.length) : (ixN (zP (p :: decD R i)) (2 * (R.length + 1))).set (2 * (i + 1)) (I ((R.getD i (0, 0)).1 - 1)) = ixN (zP (p :: decD R (i + 1))) (2 * (R.length + 1)) := by
 rw [ix_set]
 refine ix_ext fun j hj => ?_
 obtain ⟨t, rfl | rfl⟩ : ∃ t, j = 2 * t ∨ j = 2 * t + 1 := ⟨j / 2, by omega⟩
 ·rw [zP_even, zP_even]
  cases t with
  | zero => rw [if_neg (by omega)]; rfl
  | succ t =>
   rw [List.getD_cons_succ, List.getD_cons_succ, dec_get R _ t (by omega), dec_get R _ t (by omega)]
   by_cases c : t = i
   ·subst c
    rw [if_pos rfl, if_pos (by omega)]
   ·rw [if_neg (by omega)]
    by_cases c2 : t < i
    ·rw [if_pos c2, if_pos (by omega)]
    ·rw [if_neg c2, if_neg (by omega)]
 ·rw [if_neg (by omega), zP_odd, zP_odd]
  cases t with
  | zero => rfl
  | succ t =>
   rw [List.getD_cons_succ, List.getD_cons_succ, dec_get R _ t (by omega), dec_get R _ t (by omega)]
   by_cases c2 : t < i
   ·rw [if_pos c2, if_pos (by omega)]
   ·rw [if_neg c2]
    by_cases c : t = i
    ·subst c
     rw [if_pos (by omega)]
    ·rw [if_neg (by omega)]
theorem prL_tail (p : Nd) (R : List Nd) (n : Nat) (h : R.length = n) : prL (fun j => zP (p :: R) (2 + j)) n = R := by
 subst h
 apply List.ext_getElem
 ·rw [prL_len]
 ·intro i h1 h2
  have e0 : (prL (fun j => zP (p :: R) (2 + j)) R.length)[i] = (ea (fun j => zP (p :: R) (2 + j)) i, eb (fun j => zP (p :: R) (2 + j)) i) := by simp [prL]
  rw [e0]
  show (zP (p :: R) (2 + 2 * i), zP (p :: R) (2 + (2 * i + 1))) = _
  rw [show 2 + 2 * i = 2 * (i + 1) by omega, show 2 + (2 * i + 1) = 2 * (i + 1) + 1 by omega, zP_even, zP_odd, List.getD_cons_succ, List.getD_eq_getElem?_getD, List.getElem?_eq_getElem h2]
  rfl
def totF (L : List Nd) (es : List (Int × Int)) : Option (List (Int × Int)) := match rlN L.length L with
 | none => none
 | some r => some (es ++ r)
theorem totF_nil (es : List (Int × Int)) : totF [] es = some es := by simp [totF, rlN]
theorem totF_none {L : List Nd} {x o : Int} {R : List Nd} (hs : srtD L = (x, o) :: R) (h : (R.length : Int) < x ∨ lsD ((x, o) :: R) < 0) (es : List (Int × Int)) : totF L es = none := by
 have hl : L.length = R.length + 1 := by rw [← srtD_len L, hs]; rfl
 unfold totF
 rw [hl, rlN, hs]
 simp only
 rw [if_pos h]
theorem totF_step {L : List Nd} {x o : Int} {R : List Nd} (hs : srtD L = (x, o) :: R) (h : ¬ ((R.length : Int) < x ∨ lsD ((x, o) :: R) < 0)) (es : List (Int × Int)) : totF L es = totF (decD R x.toNat) (es ++ (R.take x.toNat).map (edD o)) := by
 have hl : L.length = R.length + 1 := by rw [← srtD_len L, hs]; rfl
 unfold totF
 rw [hl, rlN, hs, decD_len]
 simp only
 rw [if_neg h]
 cases rlN R.length (decD R x.toNat) with
 | none => rfl
 | some r => simp
theorem srt_bnd {L : List Nd} {x o : Int} {R : List Nd} (hs : srtD L = (x, o) :: R) (h : ¬ ((R.length : Int) < x ∨ lsD ((x, o) :: R) < 0)) : 0 ≤ x ∧ x ≤ R.length ∧ ∀ t, t < R.length → 0 ≤ (R.getD t (0, 0)).1 ∧ (R.getD t (0, 0)).1 ≤ x := by
 have hp := srtD_srt L
 rw [hs] at hp
 have h1 := lsD_le hp (x, o) (by simp)
 have h2 := (List.pairwise_cons.1 hp).1
 have h1' : lsD ((x, o) :: R) ≤ x := h1
 refine ⟨by omega, by omega, fun t ht => ?_⟩
 have hmem : R.getD t (0, 0) ∈ R := by
  rw [List.getD_eq_getElem?_getD, List.getElem?_eq_getElem ht]
  exact List.getElem_mem _
 have h3 := lsD_le hp _ (List.mem_cons_of_mem _ hmem)
 have h4 := h2 _ hmem
 unfold leD at h4
 simp only [decide_eq_true_eq] at h4
 omega
theorem srt_own {L : List Nd} {x o : Int} {R : List Nd} (hs : srtD L = (x, o) :: R) (hn : (L.map Prod.snd).Nodup) : (R.map Prod.snd).Nodup ∧ ∀ t, t < R.length → (R.getD t (0, 0)).2 ≠ o := by
 have hp : ((srtD L).map Prod.snd).Nodup := ((srtD_perm L).map Prod.snd).nodup_iff.2 hn
 rw [hs, List.map_cons, List.nodup_cons] at hp
 refine ⟨hp.2, fun t ht e => hp.1 ?_⟩
 rw [List.mem_map]
 refine ⟨R.getD t (0, 0), ?_, e⟩
 rw [List.getD_eq_getElem?_getD, List.getElem?_eq_getElem ht]
 exact List.getElem_mem _
theorem take_ed {R : List Nd} {o : Int} {i : Nat} (h : i < R.length) : (R.take (i + 1)).map (edD o) = (R.take i).map (edD o) ++ [edD o (R.getD i (0, 0))] := by
 rw [List.take_succ_eq_append_getElem h, List.map_append, List.getD_eq_getElem?_getD, List.getElem?_eq_getElem h]
 rfl

end Go.Proofs

