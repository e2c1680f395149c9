/- What the claim is proved with, part 4: the evaluator and the contracts of the calls. -/
import Derived.Test.YtogkblefihbgbaaDoorPack3
import Derived.Test.YtogkblefihbgbaaDoorPack1
import Derived.Test.YtogkblefihbgbaaDoorPack2
/- The law of ascent lists and orders: four elements, the sets from 8. -/
namespace Go.Proofs
open Go Go.Ev
set_option linter.unusedVariables false
set_option linter.unusedSimpArgs false
set_option maxRecDepth 100000

theorem cl4_8 (s : List (Nat × Value)) : clRun s 8 4 4 = .ret undef ⟨0, .nil, .nil⟩ := by kernel_rfl
theorem cl4_9 (s : List (Nat × Value)) : clRun s 9 4 4 = .ret undef ⟨0, .nil, .nil⟩ := by kernel_rfl
theorem cl4_10 (s : List (Nat × Value)) : clRun s 10 4 5 = .ret undef ⟨0, .nil, .nil⟩ := by kernel_rfl
theorem cl4_11 (s : List (Nat × Value)) : clRun s 11 5 6 = .ret undef ⟨0, .nil, .nil⟩ := by kernel_rfl
theorem cl4_12 (s : List (Nat × Value)) : clRun s 12 6 6 = .ret undef ⟨0, .nil, .nil⟩ := by kernel_rfl
theorem cl4_13 (s : List (Nat × Value)) : clRun s 13 6 6 = .ret undef ⟨0, .nil, .nil⟩ := by kernel_rfl
theorem cl4_14 (s : List (Nat × Value)) : clRun s 14 6 7 = .ret undef ⟨0, .nil, .nil⟩ := by kernel_rfl
theorem cl4_15 (s : List (Nat × Value)) : clRun s 15 7 8 = .ret undef ⟨0, .nil, .nil⟩ := by kernel_rfl

end Go.Proofs

