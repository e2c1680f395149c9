/- 'ShiftFishburn': for every input the law returns true, and what came in reads as it did; the call's answer is proved in YtdalaifnhppidaaDoorFlC. -/
import Derived.Test.YtdalaifnhppidaaDoorRows
import Derived.WalkKit
import Derived.ProofKit
import Derived.OpenShut
import Derived.ShutString
import Derived.ChangeOld
import Derived.Below
import Derived.LaidHandle
import Derived.Lay
import Derived.MakeChecks
import Derived.Handed
import Derived.Test.YtdalaifnhppidaaDoorTie
import Derived.Test.YtdalaifnhppidaaDoorCards
import Derived.Test.YtdalaifnhppidaaDoorPack1
import Derived.Test.YtdalaifnhppidaaDoorPack4
namespace Go.Proofs.YtdalaifnhppidaaDoor.shiftFishburn
open Go.ChangeShapes Go.WideShapes Go.ChangeAt Go.RowKit Go.Ev
set_option linter.unusedVariables false

theorem own : ownKnob Tryd.prog.godebug = none := by kernel_rfl
theorem laidOut : laidOutB Tryd.prog = true := by kernel_rfl

set_option maxRecDepth 100000 in
theorem lifted (os : Os) (started : os.Started) (H : Type) (enc : TypeId × Value → H) :
    ReturnsInHanded {} Tryd.checked os 4 .any (fun w args => (Rows.shiftFishburnSpec.pre enc Tryd.prog Tryd.f4 Rows.shiftFishburnRow.domain false w args ∧ laidMetH Tryd.prog Rows.shiftFishburnRow.laid w) ∧ sizedMet enc Tryd.prog Tryd.f4 (OpenSpec.ofChange Rows.shiftFishburnSpec) false w args)
      (Rows.shiftFishburnSpec.post enc Tryd.prog Tryd.f4 false true false false) := by
  refine returnsInHanded_of_change_and (C := Tryd.checked) (X := fun w _ => laidMetH Tryd.prog Rows.shiftFishburnRow.laid w) (fun _ _ _ hh h => h.of_heap hh) own started (by kernel_rfl) Tryd.func4
    (ChangeSpec.witness_shaped (enc := enc) (C := Tryd.checked) (os := os) (X := fun w _ => laidMetH Tryd.prog Rows.shiftFishburnRow.laid w) false (World.laidAll Tryd.prog os Rows.shiftFishburnRow.laid) #[.slice none 0 0, .slice none 0 0] 8 (World.laidAll_os _ _ _)
      (World.shaped_of_ZipB (by kernel_rfl) (by kernel_rfl)) (by kernel_rfl) (by kernel_rfl) (by kernel_rfl)
      (by rw [MakeChecks.laidMetH_plain _ _ _ (by kernel_rfl)]; exact laidMet_laidAll _ (by kernel_rfl) (by kernel_rfl))) ?_
  intro W base args ds gs before hval0 hW _ _ hL _
  have hval : ∀ (j : Nat) t v, Tryd.f4.params[j]? = some t → args[j]? = some v → Value.okWide Tryd.prog W .any base t v := hval0
  have hW' := hW
  obtain ⟨p, q, hA0, hV, rfl, hfz, hnd⟩ := hW
  have hA : DataW.TrodAll enc Tryd.prog W 0 (fun _ => true) true Tryd.f4.params.toList args.toList ds p := hA0
  rw [Tryd.params4] at hA hval
  obtain ⟨v0, vs0, d0, ds0, p0, q0, hargs, rfl, rfl, h0, r0⟩ := trodAll_cons hA
  obtain ⟨v1, vs1, d1, ds1, p1, q1, hargs1, rfl, rfl, h1, r1⟩ := trodAll_cons r0
  subst hargs1
  obtain ⟨rfl, rfl, rfl⟩ := trodAll_nil r1
  obtain rfl : args = #[v0, v1] := by cases args; simp_all
  obtain ⟨rfl, rfl⟩ := trodVars_none hV
  have lt0 : ∀ x ∈ p0, x.block < W.heap.size := by obtain ⟨m, hm⟩ := h0; exact DataW.trod_lt m _ _ _ hm
  obtain ⟨u0, rel0, s0⟩ : ∃ u0, VRel noG u0 v0 ∧ ArgRowT (memOf W) 1 (ArgRow (memOf W) 1 ArgBool) u0 := in_rowT (by decide) Tryd.underlying24 (by kernel_rfl) (el_row (by decide) Tryd.underlying64 (by kernel_rfl) (el_bool Tryd.underlying4)) (hval 0 24 v0 rfl rfl) h0
  have lt1 : ∀ x ∈ p1, x.block < W.heap.size := by obtain ⟨m, hm⟩ := h1; exact DataW.trod_lt m _ _ _ hm
  obtain ⟨u1, rel1, s1⟩ : ∃ u1, VRel noG u1 v1 ∧ ArgRowT (memOf W) 2 (ArgInt .i64) u1 := in_rowT (by decide) Tryd.underlying22 (by kernel_rfl) (el_arr Tryd.underlying61 (by kernel_rfl) (el_int Tryd.underlying3)) (hval 1 22 v1 rfl rfl) h1
  clear hA0 hval0
  refine ((law_fishburn (memOf W) (laid_mem rfl hL) u0 u1 s0 s1).calls (memOf_ro W) (.cons rel0 (.cons rel1 .nil))).mono fun e W' ⟨he, bel⟩ => ?_
  subst he
  exact ⟨_, rfl, _, _, _, [], _, [], hW', trodAll_mk1 (shut_bool Tryd.underlying4 _), (trodAll_cons_mk (Below.trod laidOut (by kernel_rfl) (of_decide_eq_true (by kernel_rfl)) h0 bel lt0) (trodAll_cons_mk (Below.trod laidOut (by kernel_rfl) (of_decide_eq_true (by kernel_rfl)) h1 bel lt1) trodAll_mk0)), rfl, bel.frame _, fun h => by cases h⟩

theorem over : Rows.ShiftFishburnSaid :=
  OpenClaim.holds_of_wide 4 Tryd.f4 rfl rfl rfl rfl rfl rfl rfl ⟨rfl, rfl, rfl, rfl, rfl⟩ rfl rfl rfl rfl rfl (by kernel_rfl) Tryd.func4 (by kernel_rfl)
    (of_decide_eq_true (by kernel_rfl)) (by unfold Func.isWrapper; first | (rw [if_pos (by decide +kernel)]; kernel_rfl) | (rw [if_neg (by decide +kernel)]; exact ⟨rfl, rfl⟩))
    (fun os started H enc _ => lifted os started H enc)

theorem proved : Rows.ShiftFishburnCardSaid :=
  Claim7.holds_tied_plain_at .later [] [.data] true (true, "e16186bbb48bc68bddf3569afea8d5a1c640ef4d9b265a89d747f70f194b3931") false
    over (fun _ h => by cases h) (by kernel_rfl) (fun _ h => by cases h) shiftFishburn_row_tie rfl ⟨rfl, rfl⟩ (by kernel_rfl) rfl
    (fun f fn hf hfn => by
      obtain rfl : f = 4 := Option.some.inj ((show Tryd.prog.funcNamed "forcola/forcolalaw10.ShiftFishburn" = some 4 by kernel_rfl).symm.trans hf) |>.symm
      obtain rfl : fn = Tryd.f4 := (Option.some.inj (Tryd.func4.symm.trans hfn)).symm
      refine ⟨by kernel_rfl, fun j t ht => ?_⟩
      rw [Tryd.params4] at ht
      have hm : t ∈ ([24, 22] : List Nat) := List.mem_of_getElem? (i := j) (by simpa using ht)
      have hall : ([24, 22] : List Nat).all (fun t => !Tryd.prog.wantsStandIn t) = true := by kernel_rfl
      exact (show Tryd.prog.wantsStandIn t = false by simpa using List.all_eq_true.1 hall t hm))
    (by kernel_rfl)
#print axioms proved
end Go.Proofs.YtdalaifnhppidaaDoor.shiftFishburn
