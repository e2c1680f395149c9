/- What the claim is proved with, part 5: the evaluator and the contracts of the calls. -/
import Derived.Test.YtcogabgdcgahiaaPack2
import Derived.Test.YtcogabgdcgahiaaPack3
import Derived.Test.YtcogabgdcgahiaaPack4
import Derived.Test.YtcogabgdcgahiaaPack1
/- The first day: rounds of the search, run. -/
namespace Go.Proofs
open Go Go.Ev
set_option linter.unusedVariables false
set_option maxRecDepth 100000

theorem fd_22 (r : Mem) (s : List (Nat × Value)) : run (CC r) 63 46 1000 bFd (lvlT (CC r) tFe mskH 1000 40) none (qv gFd) (fun _ => qF) qF s (TFd (dayV 1) (.ofNat 208)) [] (AFd (cI [0, 1, 3])) = .ret (rFd (cI [0, 1, 3, 2, 7, 9, 4, 8, 12, 5, 11, 14]) 3 (.ofNat 368)) ⟨0, .nil, .nil⟩ := by kernel_rfl

theorem fd_23 (r : Mem) (s : List (Nat × Value)) : run (CC r) 63 46 1000 bFd (lvlT (CC r) tFe mskH 1000 40) none (qv gFd) (fun _ => qF) qF s (TFd (dayV 3) (.ofNat 368)) [] (AFd (cI [0, 1, 3, 2, 7, 9, 4, 8, 12])) = .ret (rFd (cI [0, 1, 3, 2, 7, 9, 4, 8, 12]) 2 (.ofNat 318)) ⟨0, .nil, .nil⟩ := by kernel_rfl

end Go.Proofs

/- The first day: rounds of the search, run. -/
namespace Go.Proofs
open Go Go.Ev
set_option linter.unusedVariables false
set_option maxRecDepth 100000

theorem fd_24 (r : Mem) (s : List (Nat × Value)) : run (CC r) 63 46 1000 bFd (lvlT (CC r) tFe mskH 1000 40) none (qv gFd) (fun _ => qF) qF s (TFd (dayV 2) (.ofNat 318)) [] (AFd (cI [0, 1, 3, 2, 7, 9])) = .ret (rFd (cI [0, 1, 3, 2, 7, 9, 4, 8, 14]) 2 (.ofNat 320)) ⟨0, .nil, .nil⟩ := by kernel_rfl

theorem fd_25 (r : Mem) (s : List (Nat × Value)) : run (CC r) 63 46 1000 bFd (lvlT (CC r) tFe mskH 1000 40) none (qv gFd) (fun _ => qF) qF s (TFd (dayV 2) (.ofNat 320)) [] (AFd (cI [0, 1, 3, 2, 7, 9])) = .ret (rFd (cI [0, 1, 3, 2, 7, 9, 4, 10, 13, 5, 8, 14]) 3 (.ofNat 356)) ⟨0, .nil, .nil⟩ := by kernel_rfl

theorem fd_26 (r : Mem) (s : List (Nat × Value)) : run (CC r) 63 46 1000 bFd (lvlT (CC r) tFe mskH 1000 40) none (qv gFd) (fun _ => qF) qF s (TFd (dayV 3) (.ofNat 356)) [] (AFd (cI [0, 1, 3, 2, 7, 9, 4, 10, 13])) = .ret (rFd (cI [0, 1, 3, 2, 7, 9, 4, 10, 13]) 2 (.ofNat 328)) ⟨0, .nil, .nil⟩ := by kernel_rfl

theorem fd_27 (r : Mem) (s : List (Nat × Value)) : run (CC r) 63 46 1000 bFd (lvlT (CC r) tFe mskH 1000 40) none (qv gFd) (fun _ => qF) qF s (TFd (dayV 2) (.ofNat 328)) [] (AFd (cI [0, 1, 3, 2, 7, 9])) = .ret (rFd (cI [0, 1, 3, 2, 7, 9, 4, 10, 14]) 2 (.ofNat 329)) ⟨0, .nil, .nil⟩ := by kernel_rfl

theorem fd_28 (r : Mem) (s : List (Nat × Value)) : run (CC r) 63 46 1000 bFd (lvlT (CC r) tFe mskH 1000 40) none qF (fun id => match Nat.beq id 0 with | true => qv gFd | false => qF) qF s (TFd (dayV 2) (.ofNat 329)) [] (AFd (cI [0, 1, 3, 2, 7, 9])) = .ret (rFd (cI [0, 1, 3, 2, 7, 9, 4, 12, 13, 5, 8, 11, 6, 10, 14]) 5 (.ofNat 392)) ⟨0, .nil, .nil⟩ := by kernel_rfl

end Go.Proofs

/- The first day: the call. -/
namespace Go.Proofs
open Go Go.Ev
set_option linter.unusedVariables false
set_option maxRecDepth 100000

/-- The states at the head of the search, from the last one to the first. -/
def hds : List (Option (Nat × Nat × List Nat)) := [some (2, 329, [0, 1, 3, 2, 7, 9]), some (2, 328, [0, 1, 3, 2, 7, 9]), some (3, 356, [0, 1, 3, 2, 7, 9, 4, 10, 13]), some (2, 320, [0, 1, 3, 2, 7, 9]), some (2, 318, [0, 1, 3, 2, 7, 9]), some (3, 368, [0, 1, 3, 2, 7, 9, 4, 8, 12]), some (1, 208, [0, 1, 3]), some (2, 399, [0, 1, 3, 2, 7, 8]), some (2, 393, [0, 1, 3, 2, 7, 8]), some (2, 392, [0, 1, 3, 2, 7, 8]), some (2, 389, [0, 1, 3, 2, 7, 8]), some (2, 388, [0, 1, 3, 2, 7, 8]), some (2, 371, [0, 1, 3, 2, 7, 8]), some (2, 370, [0, 1, 3, 2, 7, 8]), some (2, 361, [0, 1, 3, 2, 7, 8]), some (2, 360, [0, 1, 3, 2, 7, 8]), some (2, 359, [0, 1, 3, 2, 7, 8]), some (2, 335, [0, 1, 3, 2, 7, 8]), some (3, 359, [0, 1, 3, 2, 7, 8, 4, 13, 14]), some (2, 334, [0, 1, 3, 2, 7, 8]), some (3, 392, [0, 1, 3, 2, 7, 8, 4, 12, 14]), some (3, 388, [0, 1, 3, 2, 7, 8, 4, 12, 14]), some (2, 332, [0, 1, 3, 2, 7, 8]), some (3, 360, [0, 1, 3, 2, 7, 8, 4, 11, 14]), some (2, 331, [0, 1, 3, 2, 7, 8]), some (3, 393, [0, 1, 3, 2, 7, 8, 4, 11, 13]), some (3, 389, [0, 1, 3, 2, 7, 8, 4, 11, 13]), some (3, 361, [0, 1, 3, 2, 7, 8, 4, 11, 13]), none]
def hSt : Option (Nat × Nat × List Nat) → St
  | none => ⟨⟨[], TFd (.slice none 0 0) (.ofNat 0)⟩, [], AFd0⟩
  | some (k, n, c) => ⟨⟨[], TFd (dayV k) (.ofNat n)⟩, [], AFd (cI c)⟩
def lastSt : St := ⟨⟨[], TFd (dayV 5) (.ofNat 392)⟩, [], AFd (cI [0, 1, 3, 2, 7, 9, 4, 12, 13, 5, 8, 11, 6, 10, 14])⟩

theorem cI_pre {c c' : List Nat} (h : c'.isPrefixOf c = true) : ∀ (k : Nat) (v : Value), (cI c')[k]? = some v → (cI c)[k]? = some v := fun k v hk => by
  obtain ⟨t, ht⟩ := List.isPrefixOf_iff_prefix.1 h
  subst ht
  simp only [cI, List.map_append] at *
  rw [List.getElem?_append_left (List.getElem?_eq_some_iff.1 hk).1]
  exact hk

section
variable {r : Mem} {W0 : World} {F : Fence} {k : Nat}
/-- A round goes on from one of the states to a later one, or ends. -/
def StepOk (r : Mem) (W0 : World) (F : Fence) (k : Nat) (j : Nat) (h : Option (Nat × Nat × List Nat)) : Prop :=
  Go.Ev.Reach (SC r) 63 46 F k noG W0 bFd (hSt h) fun ex st => match ex with
    | .normal => ∃ j', j' < j ∧ ∃ st1 h', Ren (SC r) 63 46 noG W0 st st1 ∧ hds[j']? = some h' ∧ st1 = hSt h'
    | .exit 0 => Ren (SC r) 63 46 noG W0 st lastSt
    | _ => False

theorem step_of (hF : Wide F) (hro : F.round = none) {j : Nat} {h h' : Option (Nat × Nat × List Nat)} {T : Tr Value} {A : AW} {l l' : List Nat} {q n : Nat} (hs : hSt h = ⟨⟨[], T⟩, [], A⟩) (hs' : h' = some (q, n, l')) (hj : hds[j]? = some h')
    (hr : run (CC r) 63 46 1000 bFd (lvlT (CC r) tFe mskH 1000 40) none (qv gFd) (fun _ => qF) qF [] T [] A = .ret (rFd (cI l) q (.ofNat n)) ⟨0, .nil, .nil⟩) (hp : l'.isPrefixOf l = true) : StepOk r W0 F k (j + 1) h := by
  unfold StepOk
  rw [hs]
  refine Reach.conv (C := CC r) (C' := SC r) rfl rfl (Reach.segV (CC_ok r) (tFe_ok r) hF hro gFd hr fun s b ms A hg => ?_)
  refine ⟨j, Nat.lt_succ_self j, hSt h', h', ?_, hj, rfl⟩
  subst hs'
  exact fun γ a W h1 h2 => by
    obtain ⟨γ1, q1, q2⟩ := ren_fd hg γ a W h1 h2
    exact ren_cut (cI_pre hp) γ1 a W q1 q2

theorem st_0 (hF : Wide F) (hro : F.round = none) : StepOk r W0 F k 28 (none) := step_of hF hro (j := 27) rfl rfl rfl (fd_0 r []) (by decide)
theorem st_1 (hF : Wide F) (hro : F.round = none) : StepOk r W0 F k 27 (some (3, 361, [0, 1, 3, 2, 7, 8, 4, 11, 13])) := step_of hF hro (j := 26) rfl rfl rfl (fd_1 r []) (by decide)
theorem st_2 (hF : Wide F) (hro : F.round = none) : StepOk r W0 F k 26 (some (3, 389, [0, 1, 3, 2, 7, 8, 4, 11, 13])) := step_of hF hro (j := 25) rfl rfl rfl (fd_2 r []) (by decide)
theorem st_3 (hF : Wide F) (hro : F.round = none) : StepOk r W0 F k 25 (some (3, 393, [0, 1, 3, 2, 7, 8, 4, 11, 13])) := step_of hF hro (j := 24) rfl rfl rfl (fd_3 r []) (by decide)
theorem st_4 (hF : Wide F) (hro : F.round = none) : StepOk r W0 F k 24 (some (2, 331, [0, 1, 3, 2, 7, 8])) := step_of hF hro (j := 23) rfl rfl rfl (fd_4 r []) (by decide)
theorem st_5 (hF : Wide F) (hro : F.round = none) : StepOk r W0 F k 23 (some (3, 360, [0, 1, 3, 2, 7, 8, 4, 11, 14])) := step_of hF hro (j := 22) rfl rfl rfl (fd_5 r []) (by decide)
theorem st_6 (hF : Wide F) (hro : F.round = none) : StepOk r W0 F k 22 (some (2, 332, [0, 1, 3, 2, 7, 8])) := step_of hF hro (j := 21) rfl rfl rfl (fd_6 r []) (by decide)
theorem st_7 (hF : Wide F) (hro : F.round = none) : StepOk r W0 F k 21 (some (3, 388, [0, 1, 3, 2, 7, 8, 4, 12, 14])) := step_of hF hro (j := 20) rfl rfl rfl (fd_7 r []) (by decide)
theorem st_8 (hF : Wide F) (hro : F.round = none) : StepOk r W0 F k 20 (some (3, 392, [0, 1, 3, 2, 7, 8, 4, 12, 14])) := step_of hF hro (j := 19) rfl rfl rfl (fd_8 r []) (by decide)
theorem st_9 (hF : Wide F) (hro : F.round = none) : StepOk r W0 F k 19 (some (2, 334, [0, 1, 3, 2, 7, 8])) := step_of hF hro (j := 18) rfl rfl rfl (fd_9 r []) (by decide)
theorem st_10 (hF : Wide F) (hro : F.round = none) : StepOk r W0 F k 18 (some (3, 359, [0, 1, 3, 2, 7, 8, 4, 13, 14])) := step_of hF hro (j := 17) rfl rfl rfl (fd_10 r []) (by decide)
theorem st_11 (hF : Wide F) (hro : F.round = none) : StepOk r W0 F k 17 (some (2, 335, [0, 1, 3, 2, 7, 8])) := step_of hF hro (j := 16) rfl rfl rfl (fd_11 r []) (by decide)
theorem st_12 (hF : Wide F) (hro : F.round = none) : StepOk r W0 F k 16 (some (2, 359, [0, 1, 3, 2, 7, 8])) := step_of hF hro (j := 15) rfl rfl rfl (fd_12 r []) (by decide)
theorem st_13 (hF : Wide F) (hro : F.round = none) : StepOk r W0 F k 15 (some (2, 360, [0, 1, 3, 2, 7, 8])) := step_of hF hro (j := 14) rfl rfl rfl (fd_13 r []) (by decide)
theorem st_14 (hF : Wide F) (hro : F.round = none) : StepOk r W0 F k 14 (some (2, 361, [0, 1, 3, 2, 7, 8])) := step_of hF hro (j := 13) rfl rfl rfl (fd_14 r []) (by decide)
theorem st_15 (hF : Wide F) (hro : F.round = none) : StepOk r W0 F k 13 (some (2, 370, [0, 1, 3, 2, 7, 8])) := step_of hF hro (j := 12) rfl rfl rfl (fd_15 r []) (by decide)
theorem st_16 (hF : Wide F) (hro : F.round = none) : StepOk r W0 F k 12 (some (2, 371, [0, 1, 3, 2, 7, 8])) := step_of hF hro (j := 11) rfl rfl rfl (fd_16 r []) (by decide)
theorem st_17 (hF : Wide F) (hro : F.round = none) : StepOk r W0 F k 11 (some (2, 388, [0, 1, 3, 2, 7, 8])) := step_of hF hro (j := 10) rfl rfl rfl (fd_17 r []) (by decide)
theorem st_18 (hF : Wide F) (hro : F.round = none) : StepOk r W0 F k 10 (some (2, 389, [0, 1, 3, 2, 7, 8])) := step_of hF hro (j := 9) rfl rfl rfl (fd_18 r []) (by decide)
theorem st_19 (hF : Wide F) (hro : F.round = none) : StepOk r W0 F k 9 (some (2, 392, [0, 1, 3, 2, 7, 8])) := step_of hF hro (j := 8) rfl rfl rfl (fd_19 r []) (by decide)
theorem st_20 (hF : Wide F) (hro : F.round = none) : StepOk r W0 F k 8 (some (2, 393, [0, 1, 3, 2, 7, 8])) := step_of hF hro (j := 7) rfl rfl rfl (fd_20 r []) (by decide)
theorem st_21 (hF : Wide F) (hro : F.round = none) : StepOk r W0 F k 7 (some (2, 399, [0, 1, 3, 2, 7, 8])) := step_of hF hro (j := 6) rfl rfl rfl (fd_21 r []) (by decide)
theorem st_22 (hF : Wide F) (hro : F.round = none) : StepOk r W0 F k 6 (some (1, 208, [0, 1, 3])) := step_of hF hro (j := 5) rfl rfl rfl (fd_22 r []) (by decide)
theorem st_23 (hF : Wide F) (hro : F.round = none) : StepOk r W0 F k 5 (some (3, 368, [0, 1, 3, 2, 7, 9, 4, 8, 12])) := step_of hF hro (j := 4) rfl rfl rfl (fd_23 r []) (by decide)
theorem st_24 (hF : Wide F) (hro : F.round = none) : StepOk r W0 F k 4 (some (2, 318, [0, 1, 3, 2, 7, 9])) := step_of hF hro (j := 3) rfl rfl rfl (fd_24 r []) (by decide)
theorem st_25 (hF : Wide F) (hro : F.round = none) : StepOk r W0 F k 3 (some (2, 320, [0, 1, 3, 2, 7, 9])) := step_of hF hro (j := 2) rfl rfl rfl (fd_25 r []) (by decide)
theorem st_26 (hF : Wide F) (hro : F.round = none) : StepOk r W0 F k 2 (some (3, 356, [0, 1, 3, 2, 7, 9, 4, 10, 13])) := step_of hF hro (j := 1) rfl rfl rfl (fd_26 r []) (by decide)
theorem st_27 (hF : Wide F) (hro : F.round = none) : StepOk r W0 F k 1 (some (2, 328, [0, 1, 3, 2, 7, 9])) := step_of hF hro (j := 0) rfl rfl rfl (fd_27 r []) (by decide)

theorem st_28 (hF : Wide F) (hro : F.round = none) : StepOk r W0 F k 0 (some (2, 329, [0, 1, 3, 2, 7, 9])) := by
  unfold StepOk
  refine Reach.conv (C := CC r) (C' := SC r) rfl rfl (Reach.segX (CC_ok r) (tFe_ok r) hF hro gFd (fd_28 r []) fun s b ms A hg => ?_)
  exact ren_fd hg

theorem steps (hF : Wide F) (hro : F.round = none) : ∀ j h, hds[j]? = some h → StepOk r W0 F k j h := fun j h hh => by
  have hj : j < 29 := (List.getElem?_eq_some_iff.1 hh).1
  match j, hj with
  | 28, _ => rw [← Option.some.inj (show some (none) = some h from hh)]; exact st_0 hF hro
  | 27, _ => rw [← Option.some.inj (show some (some (3, 361, [0, 1, 3, 2, 7, 8, 4, 11, 13])) = some h from hh)]; exact st_1 hF hro
  | 26, _ => rw [← Option.some.inj (show some (some (3, 389, [0, 1, 3, 2, 7, 8, 4, 11, 13])) = some h from hh)]; exact st_2 hF hro
  | 25, _ => rw [← Option.some.inj (show some (some (3, 393, [0, 1, 3, 2, 7, 8, 4, 11, 13])) = some h from hh)]; exact st_3 hF hro
  | 24, _ => rw [← Option.some.inj (show some (some (2, 331, [0, 1, 3, 2, 7, 8])) = some h from hh)]; exact st_4 hF hro
  | 23, _ => rw [← Option.some.inj (show some (some (3, 360, [0, 1, 3, 2, 7, 8, 4, 11, 14])) = some h from hh)]; exact st_5 hF hro
  | 22, _ => rw [← Option.some.inj (show some (some (2, 332, [0, 1, 3, 2, 7, 8])) = some h from hh)]; exact st_6 hF hro
  | 21, _ => rw [← Option.some.inj (show some (some (3, 388, [0, 1, 3, 2, 7, 8, 4, 12, 14])) = some h from hh)]; exact st_7 hF hro
  | 20, _ => rw [← Option.some.inj (show some (some (3, 392, [0, 1, 3, 2, 7, 8, 4, 12, 14])) = some h from hh)]; exact st_8 hF hro
  | 19, _ => rw [← Option.some.inj (show some (some (2, 334, [0, 1, 3, 2, 7, 8])) = some h from hh)]; exact st_9 hF hro
  | 18, _ => rw [← Option.some.inj (show some (some (3, 359, [0, 1, 3, 2, 7, 8, 4, 13, 14])) = some h from hh)]; exact st_10 hF hro
  | 17, _ => rw [← Option.some.inj (show some (some (2, 335, [0, 1, 3, 2, 7, 8])) = some h from hh)]; exact st_11 hF hro
  | 16, _ => rw [← Option.some.inj (show some (some (2, 359, [0, 1, 3, 2, 7, 8])) = some h from hh)]; exact st_12 hF hro
  | 15, _ => rw [← Option.some.inj (show some (some (2, 360, [0, 1, 3, 2, 7, 8])) = some h from hh)]; exact st_13 hF hro
  | 14, _ => rw [← Option.some.inj (show some (some (2, 361, [0, 1, 3, 2, 7, 8])) = some h from hh)]; exact st_14 hF hro
  | 13, _ => rw [← Option.some.inj (show some (some (2, 370, [0, 1, 3, 2, 7, 8])) = some h from hh)]; exact st_15 hF hro
  | 12, _ => rw [← Option.some.inj (show some (some (2, 371, [0, 1, 3, 2, 7, 8])) = some h from hh)]; exact st_16 hF hro
  | 11, _ => rw [← Option.some.inj (show some (some (2, 388, [0, 1, 3, 2, 7, 8])) = some h from hh)]; exact st_17 hF hro
  | 10, _ => rw [← Option.some.inj (show some (some (2, 389, [0, 1, 3, 2, 7, 8])) = some h from hh)]; exact st_18 hF hro
  | 9, _ => rw [← Option.some.inj (show some (some (2, 392, [0, 1, 3, 2, 7, 8])) = some h from hh)]; exact st_19 hF hro
  | 8, _ => rw [← Option.some.inj (show some (some (2, 393, [0, 1, 3, 2, 7, 8])) = some h from hh)]; exact st_20 hF hro
  | 7, _ => rw [← Option.some.inj (show some (some (2, 399, [0, 1, 3, 2, 7, 8])) = some h from hh)]; exact st_21 hF hro
  | 6, _ => rw [← Option.some.inj (show some (some (1, 208, [0, 1, 3])) = some h from hh)]; exact st_22 hF hro
  | 5, _ => rw [← Option.some.inj (show some (some (3, 368, [0, 1, 3, 2, 7, 9, 4, 8, 12])) = some h from hh)]; exact st_23 hF hro
  | 4, _ => rw [← Option.some.inj (show some (some (2, 318, [0, 1, 3, 2, 7, 9])) = some h from hh)]; exact st_24 hF hro
  | 3, _ => rw [← Option.some.inj (show some (some (2, 320, [0, 1, 3, 2, 7, 9])) = some h from hh)]; exact st_25 hF hro
  | 2, _ => rw [← Option.some.inj (show some (some (3, 356, [0, 1, 3, 2, 7, 9, 4, 10, 13])) = some h from hh)]; exact st_26 hF hro
  | 1, _ => rw [← Option.some.inj (show some (some (2, 328, [0, 1, 3, 2, 7, 9])) = some h from hh)]; exact st_27 hF hro
  | 0, _ => rw [← Option.some.inj (show some (some (2, 329, [0, 1, 3, 2, 7, 9])) = some h from hh)]; exact st_28 hF hro
end

end Go.Proofs

/- The first day: the parts before and behind the search. -/
namespace Go.Proofs
open Go Go.Ev
set_option linter.unusedVariables false
set_option maxRecDepth 100000

theorem cFd_eq : cFd = .seq (lc cFd) (.scope dFd) := by kernel_rfl
theorem dFd_eq : dFd = .seq (lc dFd) (.seq (lc (rc dFd)) (.seq (lc (rc (rc dFd))) (.seq (lc (rc (rc (rc dFd)))) (.seq (.block 0 (.loop bFd)) (rc (rc (rc (rc (rc dFd))))))))) := by kernel_rfl

noncomputable def eAll : Ent := ⟨fun args _ => match args with | [.int .i64 (.ofNat 15)] => true | _ => false, fun _ _ => true, fun _ A => .slice (some ⟨A.next, 0, none⟩) 455 9223372036854775808, fun _ A => A.new (.cells allL 62 A.next 3), fun _ _ => undef, fun _ A => A⟩
noncomputable def tAl : Tbl := tcons 50 eAll fun _ => none
def c5 : List Nat := [0, 1, 3, 2, 7, 9, 4, 12, 13, 5, 8, 11, 6, 10, 14]
def TZ : Tr Value := .node .nil (some (.slice (some ⟨0, 0, none⟩) 5 9223372036854775808)) .nil

theorem fdA (r : Mem) (L : Nat) (fs : FnsC) (kn : KS) (kx : Nat → KS) (kr : KS) : run (SC r) 63 46 L (lc cFd) fs none kn kx kr (sc0 63 []) (tr0 63 []) [] emptyA =
    kn [] (Tr.node Tr.nil (some (Value.slice none 0 0)) Tr.nil) [] (AW.mk 0 Tr.nil Tr.nil) := by kernel_rfl

theorem fdC (r : Mem) (L : Nat) (fs : FnsC) (s : List (Nat × Value)) (A : AW) (kn : KS) (kx : Nat → KS) (kr : KS) : run (SC r) 63 46 L (lc (rc dFd)) fs none kn kx kr s (.node (.node .nil (some (.slice (some ⟨0, 0, none⟩) 455 9223372036854775808)) .nil) (some (.slice none 0 0)) .nil) [] A =
    kn [] (Tr.node (Tr.node Tr.nil (some (Value.slice (some (Addr.mk 0 0 none)) 455 9223372036854775808)) Tr.nil) (some (Value.slice none 0 0)) (Tr.node Tr.nil (some (Value.slice none 0 0)) Tr.nil)) [] A := by kernel_rfl

theorem fdD (r : Mem) (L : Nat) (fs : FnsC) (s : List (Nat × Value)) (A : AW) (kn : KS) (kx : Nat → KS) (kr : KS) : run (SC r) 63 46 L (lc (rc (rc dFd))) fs none kn kx kr s (.node (.node .nil (some (.slice (some ⟨0, 0, none⟩) 455 9223372036854775808)) .nil) (some (.slice none 0 0)) (.node .nil (some (.slice none 0 0)) .nil)) [] A =
    kn [] (Tr.node (Tr.node (Tr.node Tr.nil (some (Value.int IntKind.i64 (Int.ofNat 0))) Tr.nil) (some (Value.slice (some (Addr.mk 0 0 none)) 455 9223372036854775808)) Tr.nil) (some (Value.slice none 0 0)) (Tr.node Tr.nil (some (Value.slice none 0 0)) Tr.nil)) [] A := by kernel_rfl

theorem fdL (r : Mem) (L : Nat) (fs : FnsC) (T : Tr Value) (s : List (Nat × Value)) (A : AW) (kn : KS) (kx : Nat → KS) (kr : KS) : run (SC r) 63 46 L (lc (rc (rc (rc dFd)))) fs none kn kx kr s T [] A =
    kn s T [] A := by kernel_rfl

theorem fdZ (r : Mem) (L : Nat) (fs : FnsC) (n : Int) (s : List (Nat × Value)) (A : AW) (kn : KS) (kx : Nat → KS) (kr : KS) : run (SC r) 63 46 L (rc (rc (rc (rc (rc dFd))))) fs none kn kx kr s (TFd (dayV 5) n) [] A =
    kr [(45, Value.slice (some (Addr.mk 1 0 none)) 5 9223372036854775808)] (Tr.node (Tr.node (Tr.node Tr.nil (some (Value.int IntKind.i64 n)) Tr.nil) (some (Value.slice (some (Addr.mk 0 0 none)) 455 9223372036854775808)) Tr.nil) (some (Value.slice (some (Addr.mk 1 0 none)) 5 9223372036854775808)) (Tr.node Tr.nil (some (Value.slice (some (Addr.mk 1 0 none)) 5 9223372036854775808)) Tr.nil)) [] A := by kernel_rfl

theorem fdB (r : Mem) (L d : Nat) (kn : KS) (kx : Nat → KS) (kr : KS) : run (SC r) 63 46 L (lc dFd) (lvlT (SC r) tAl .nil L 0) none kn kx kr [] (.node .nil (some (.slice none 0 0)) .nil) [] emptyA =
    kn [(6, .slice (some ⟨0, 0, none⟩) 455 9223372036854775808)] (.node (.node .nil (some (.slice (some ⟨0, 0, none⟩) 455 9223372036854775808)) .nil) (some (.slice none 0 0)) .nil) [] AFd0 := by kernel_rfl

end Go.Proofs

/- The first day: what the call answers. -/
namespace Go.Proofs
open Go Go.Ev
set_option linter.unusedVariables false
set_option maxRecDepth 100000

section
variable {C : Cfg} {m n : Nat} {F : Fence} {k : Nat} {γ0 : Gam} {W0 : World}
theorem Reach.scope {c : Code} {st : St} {Q : Exit → St → Prop} (h : Go.Ev.Reach C m n F k γ0 W0 c st fun ex st' => match ex with | .goto _ => False | ex => Q ex st') : Go.Ev.Reach C m n F k γ0 W0 (.scope c) st Q :=
  fun γ a W hs hb => wpIn_scope (wpIn_mono (h γ a W hs hb) fun ex a' W' ⟨st', γ', q, r, b⟩ => by
    cases ex with
    | goto l => exact q
    | _ => exact ⟨st', γ', q, r, b⟩)
end

theorem eAll_ok (r : Mem) : EOk (SC r) 50 eAll := fun args A hg F hF k γ W args' hw hR ha => by
  simp only [eAll] at hg
  split at hg
  · refine ⟨fun _ => ?_, fun h => nomatch h⟩
    exact (allTriples_row r).ends (γ := γ) (A := A) rfl all_gnds hF hw (hR.noG noG fun _ => rfl) (by have := ha.eq_of_gnds (by rfl); rw [this]; exact VsRel.of_gnds _ _ rfl) ha
  · cases hg
theorem tAl_ok (r : Mem) : TOk (SC r) tAl := TOk.cons TOk.nil (eAll_ok r)

theorem ren_fz {r : Mem} {W0 : World} (s : List (Nat × Value)) (T : Tr Value) (h : T.get 0 = some (.slice (some ⟨1, 0, none⟩) 5 9223372036854775808)) : Ren (SC r) 63 46 noG W0 ⟨⟨s, T⟩, [], AFd (cI c5)⟩ ⟨⟨[], TZ⟩, [], rowA (cI c5) 62 3⟩ := by
  refine Ren.of (fun _ => 1) 0 rfl (fun _ _ => rfl) (Nat.zero_le _) (fun i hi => absurd hi (Nat.not_lt_zero i)) ?_ rfl ?_ trivial
  · simp only [Tr.All, TZ]
    exact ⟨⟨_, h, rfl⟩, trivial, trivial⟩
  · show Tr.All _ (Tr.node Tr.nil (some (AObj.cells (cI c5) 62 0 3)) Tr.nil) id
    simp only [Tr.All]
    exact ⟨⟨rfl, ⟨_, rfl, .plain (cI_gnd c5)⟩, ⟨.head _, rfl⟩, rfl, trivial, trivial⟩, trivial, trivial⟩

theorem ren_f0 {r : Mem} {W0 : World} (s : List (Nat × Value)) (T : Tr Value) (h1 : T.get 1 = some (.slice (some ⟨0, 0, none⟩) 455 9223372036854775808)) (h2 : T.get 2 = some (.slice none 0 0)) (h3 : T.get 3 = some (.int .i64 (.ofNat 0))) : Ren (SC r) 63 46 noG W0 ⟨⟨s, T⟩, [], AFd0⟩ (hSt none) := by
  refine Ren.of (fun _ => 0) 0 rfl (fun _ _ => rfl) (Nat.zero_le _) (fun i hi => absurd hi (Nat.not_lt_zero i)) ?_ rfl ?_ trivial
  · simp only [Tr.All, TFd]
    repeat' (first | exact trivial | apply And.intro)
    all_goals first | exact ⟨_, h1, rfl⟩ | exact ⟨_, h2, rfl⟩ | exact ⟨_, h3, rfl⟩
  · simp only [Tr.All, AFd0]
    exact ⟨⟨rfl, ⟨_, rfl, .plain (gnds_mem all_gnds)⟩, ⟨.head _, rfl⟩, rfl, trivial, trivial⟩, trivial, trivial⟩

theorem firstDay_row (r : Mem) : GrM Try.prog r 31 [] (.slice (some ⟨0, 0, none⟩) 5 9223372036854775808) (rowA (cI c5) 62 3) := by
  intro F hF k W args' hR ha
  obtain ⟨fn, h1, h2, h3, h4⟩ := fn_of (C := SC r) (f := 31) (by kernel_rfl)
  have hn : fn.ntmps = 46 := h3.trans (by kernel_rfl)
  have hr : fn.results.toList = [.tmp 0] := h4.trans (by kernel_rfl)
  rw [bodySC] at h2
  refine call_reach (C := SC r) (SC_ok r) (A := emptyA) h1 h2 63 (by rw [hn]; rfl) (fun F k hF hro => ?_) (WRel.empty W) hR ha hF k
  rw [hn, hr]
  show Go.Ev.Reach (SC r) 63 46 F k noG W cFd _ _
  rw [cFd_eq]
  refine Go.Ev.Reach.seq (Go.Ev.Reach.seg (SC_ok r) (tAl_ok r) (tm := .nil) (L := 8) (L' := 8) (d := 0) hF hro ((fdA r _ _ _ _ _).trans (qn_ok ?_)))
  refine Reach.scope ?_
  rw [dFd_eq]
  refine Go.Ev.Reach.seq (Go.Ev.Reach.seg (SC_ok r) (tAl_ok r) (tm := .nil) (L := 8) (L' := 8) (d := 0) hF hro ((fdB r _ 0 _ _ _).trans (qn_ok ?_)))
  refine Go.Ev.Reach.seq (Go.Ev.Reach.seg (SC_ok r) (tAl_ok r) (tm := .nil) (L := 8) (L' := 8) (d := 0) hF hro ((fdC r _ _ _ _ _ _ _).trans (qn_ok ?_)))
  refine Go.Ev.Reach.seq (Go.Ev.Reach.seg (SC_ok r) (tAl_ok r) (tm := .nil) (L := 8) (L' := 8) (d := 0) hF hro ((fdD r _ _ _ _ _ _ _).trans (qn_ok ?_)))
  refine Go.Ev.Reach.seq (Go.Ev.Reach.seg (SC_ok r) (tAl_ok r) (tm := .nil) (L := 8) (L' := 8) (d := 0) hF hro ((fdL r _ _ _ _ _ _ _ _).trans (qn_ok ?_)))
  refine Go.Ev.Reach.seq ?_
  refine Go.Ev.Reach.block (Go.Ev.Reach.loop (I := fun j st => ∃ st1 h, Ren (SC r) 63 46 noG W st st1 ∧ hds[j]? = some h ∧ st1 = hSt h) (fun j st ⟨st1, h, hr, hj, hs⟩ => Go.Ev.Reach.pre hr ?_) (j := 28) ⟨_, none, ren_f0 _ _ rfl rfl rfl, rfl, rfl⟩)
  subst hs
  refine Go.Ev.Reach.mono (steps (r := r) (W0 := W) (F := F) (k := k) hF hro j h hj) fun ex st' q => ?_
  cases ex with
  | normal =>
    obtain ⟨j', hlt, st1, h', q1, q2, q3⟩ := q
    exact ⟨j', hlt, st1, h', q1, q2, q3⟩
  | exit id =>
    cases id with
    | zero =>
      refine Go.Ev.Reach.pre q ?_
      exact Go.Ev.Reach.seg (SC_ok r) (tAl_ok r) (tm := .nil) (L := 8) (L' := 8) (d := 0) hF hro ((fdZ r _ _ _ _ _ _ _ _).trans (qn_ok ⟨.inr rfl, _, ren_fz _ _ rfl, rfl⟩))
    | succ i => exact q.elim
  | _ => exact q.elim

end Go.Proofs

