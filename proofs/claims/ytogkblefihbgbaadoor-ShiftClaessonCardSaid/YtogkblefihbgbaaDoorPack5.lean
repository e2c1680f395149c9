/- What the claim is proved with, part 5: the evaluator and the contracts of the calls. -/
import Derived.Test.YtogkblefihbgbaaDoorPack3
import Derived.Test.YtogkblefihbgbaaDoorPack1
import Derived.Test.YtogkblefihbgbaaDoorPack2
import Derived.Test.YtogkblefihbgbaaDoorPack4
/- The law of ascent lists and orders: four elements, the sets from 16. -/
namespace Go.Proofs
open Go Go.Ev
set_option linter.unusedVariables false
set_option linter.unusedSimpArgs false
set_option maxRecDepth 100000

theorem cl4_16 (s : List (Nat × Value)) : clRun s 16 8 8 = .ret undef ⟨0, .nil, .nil⟩ := by kernel_rfl
theorem cl4_17 (s : List (Nat × Value)) : clRun s 17 8 8 = .ret undef ⟨0, .nil, .nil⟩ := by kernel_rfl
theorem cl4_18 (s : List (Nat × Value)) : clRun s 18 8 8 = .ret undef ⟨0, .nil, .nil⟩ := by kernel_rfl
theorem cl4_19 (s : List (Nat × Value)) : clRun s 19 8 8 = .ret undef ⟨0, .nil, .nil⟩ := by kernel_rfl
theorem cl4_20 (s : List (Nat × Value)) : clRun s 20 8 8 = .ret undef ⟨0, .nil, .nil⟩ := by kernel_rfl
theorem cl4_21 (s : List (Nat × Value)) : clRun s 21 8 8 = .ret undef ⟨0, .nil, .nil⟩ := by kernel_rfl
theorem cl4_22 (s : List (Nat × Value)) : clRun s 22 8 8 = .ret undef ⟨0, .nil, .nil⟩ := by kernel_rfl
theorem cl4_23 (s : List (Nat × Value)) : clRun s 23 8 8 = .ret undef ⟨0, .nil, .nil⟩ := by kernel_rfl

end Go.Proofs

