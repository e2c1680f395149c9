/- 'ShiftIntervals': for every input the law returns true, and what came in reads as it did; the call's answer is proved in YtdalaifnhppidaaGreatDoorLxB. -/
import Derived.Test.YtdalaifnhppidaaGreatDoorRows
import Derived.WalkKit
import Derived.ProofKit
import Derived.OpenShut
import Derived.ShutString
import Derived.ChangeOld
import Derived.Below
import Derived.LaidHandle
import Derived.Lay
import Derived.MakeChecks
import Derived.Handed
import Derived.Test.YtdalaifnhppidaaGreatDoorTie
import Derived.Test.YtdalaifnhppidaaGreatDoorCards
import Derived.Test.YtdalaifnhppidaaGreatDoorPack1
import Derived.Test.YtdalaifnhppidaaGreatDoorPack3
namespace Go.Proofs.YtdalaifnhppidaaGreatDoor.shiftIntervals
open Go.ChangeShapes Go.WideShapes Go.ChangeAt Go.RowKit Go.Ev
set_option linter.unusedVariables false

theorem own : ownKnob Tryz.prog.godebug = none := by kernel_rfl
theorem laidOut : laidOutB Tryz.prog = true := by kernel_rfl

set_option maxRecDepth 100000 in
theorem lifted (os : Os) (started : os.Started) (H : Type) (enc : TypeId × Value → H) :
    ReturnsInHanded {} Tryz.checked os 3 .any (fun w args => (Rows.shiftIntervalsSpec.pre enc Tryz.prog Tryz.f3 Rows.shiftIntervalsRow.domain false w args ∧ laidMetH Tryz.prog Rows.shiftIntervalsRow.laid w) ∧ sizedMet enc Tryz.prog Tryz.f3 (OpenSpec.ofChange Rows.shiftIntervalsSpec) false w args)
      (Rows.shiftIntervalsSpec.post enc Tryz.prog Tryz.f3 false true false false) := by
  refine returnsInHanded_of_change_and (C := Tryz.checked) (X := fun w _ => laidMetH Tryz.prog Rows.shiftIntervalsRow.laid w) (fun _ _ _ hh h => h.of_heap hh) own started (by kernel_rfl) Tryz.func3
    (ChangeSpec.witness_shaped (enc := enc) (C := Tryz.checked) (os := os) (X := fun w _ => laidMetH Tryz.prog Rows.shiftIntervalsRow.laid w) false (World.laidAll Tryz.prog os Rows.shiftIntervalsRow.laid) #[.slice none 0 0] 8 (World.laidAll_os _ _ _)
      (World.shaped_of_ZipB (by kernel_rfl) (by kernel_rfl)) (by kernel_rfl) (by kernel_rfl) (by kernel_rfl)
      (by rw [MakeChecks.laidMetH_plain _ _ _ (by kernel_rfl)]; exact laidMet_laidAll _ (by kernel_rfl) (by kernel_rfl))) ?_
  intro W base args ds gs before hval0 hW _ _ hL _
  have hval : ∀ (j : Nat) t v, Tryz.f3.params[j]? = some t → args[j]? = some v → Value.okWide Tryz.prog W .any base t v := hval0
  have hW' := hW
  obtain ⟨p, q, hA0, hV, rfl, hfz, hnd⟩ := hW
  have hA : DataW.TrodAll enc Tryz.prog W 0 (fun _ => true) true Tryz.f3.params.toList args.toList ds p := hA0
  rw [Tryz.params3] at hA hval
  obtain ⟨v0, vs0, d0, ds0, p0, q0, hargs, rfl, rfl, h0, r0⟩ := trodAll_cons hA
  obtain ⟨rfl, rfl, rfl⟩ := trodAll_nil r0
  obtain rfl : args = #[v0] := by cases args; simp_all
  obtain ⟨rfl, rfl⟩ := trodVars_none hV
  have lt0 : ∀ x ∈ p0, x.block < W.heap.size := by obtain ⟨m, hm⟩ := h0; exact DataW.trod_lt m _ _ _ hm
  obtain ⟨u0, rel0, s0⟩ : ∃ u0, VRel noG u0 v0 ∧ ArgRowT (memOf W) 1 (ArgRow (memOf W) 1 ArgBool) u0 := in_rowT (by decide) Tryz.underlying22 (by kernel_rfl) (el_row (by decide) Tryz.underlying52 (by kernel_rfl) (el_bool Tryz.underlying4)) (hval 0 22 v0 rfl rfl) h0
  clear hA0 hval0
  refine ((law_intervals (memOf W) (laid_mem rfl hL) u0 s0).calls (memOf_ro W) (.cons rel0 .nil)).mono fun e W' ⟨he, bel⟩ => ?_
  subst he
  exact ⟨_, rfl, _, _, _, [], _, [], hW', trodAll_mk1 (shut_bool Tryz.underlying4 _), (trodAll_cons_mk (Below.trod laidOut (by kernel_rfl) (of_decide_eq_true (by kernel_rfl)) h0 bel lt0) trodAll_mk0), rfl, bel.frame _, fun h => by cases h⟩

theorem over : Rows.ShiftIntervalsSaid :=
  OpenClaim.holds_of_wide 3 Tryz.f3 rfl rfl rfl rfl rfl rfl rfl ⟨rfl, rfl, rfl, rfl, rfl⟩ rfl rfl rfl rfl rfl (by kernel_rfl) Tryz.func3 (by kernel_rfl)
    (of_decide_eq_true (by kernel_rfl)) (by unfold Func.isWrapper; first | (rw [if_pos (by decide +kernel)]; kernel_rfl) | (rw [if_neg (by decide +kernel)]; exact ⟨rfl, rfl⟩))
    (fun os started H enc _ => lifted os started H enc)

theorem proved : Rows.ShiftIntervalsCardSaid :=
  Claim7.holds_tied_plain_at .later [] [.data] true (true, "f11dc3f8e40362023f4e34a8725514f26b11d04afa1cfa12af6c7a43a4276384") false
    over (fun _ h => by cases h) (by kernel_rfl) (fun _ h => by cases h) shiftIntervals_row_tie rfl ⟨rfl, rfl⟩ (by kernel_rfl) rfl
    (fun f fn hf hfn => by
      obtain rfl : f = 3 := Option.some.inj ((show Tryz.prog.funcNamed "forcola/forcolalaw10.ShiftIntervals" = some 3 by kernel_rfl).symm.trans hf) |>.symm
      obtain rfl : fn = Tryz.f3 := (Option.some.inj (Tryz.func3.symm.trans hfn)).symm
      refine ⟨by kernel_rfl, fun j t ht => ?_⟩
      rw [Tryz.params3] at ht
      have hm : t ∈ ([22] : List Nat) := List.mem_of_getElem? (i := j) (by simpa using ht)
      have hall : ([22] : List Nat).all (fun t => !Tryz.prog.wantsStandIn t) = true := by kernel_rfl
      exact (show Tryz.prog.wantsStandIn t = false by simpa using List.all_eq_true.1 hall t hm))
    (by kernel_rfl)
#print axioms proved
end Go.Proofs.YtdalaifnhppidaaGreatDoor.shiftIntervals
