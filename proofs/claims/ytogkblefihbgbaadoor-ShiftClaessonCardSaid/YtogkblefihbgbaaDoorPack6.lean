/- What the claim is proved with, part 6: the evaluator and the contracts of the calls. -/
import Derived.Test.YtogkblefihbgbaaDoorPack3
import Derived.Test.YtogkblefihbgbaaDoorPack1
import Derived.Test.YtogkblefihbgbaaDoorPack2
import Derived.Test.YtogkblefihbgbaaDoorPack4
import Derived.Test.YtogkblefihbgbaaDoorPack5
/- The law of ascent lists and orders: four elements, the sets from 24. -/
namespace Go.Proofs
open Go Go.Ev
set_option linter.unusedVariables false
set_option linter.unusedSimpArgs false
set_option maxRecDepth 100000

theorem cl4_24 (s : List (Nat × Value)) : clRun s 24 8 8 = .ret undef ⟨0, .nil, .nil⟩ := by kernel_rfl
theorem cl4_25 (s : List (Nat × Value)) : clRun s 25 8 8 = .ret undef ⟨0, .nil, .nil⟩ := by kernel_rfl
theorem cl4_26 (s : List (Nat × Value)) : clRun s 26 8 8 = .ret undef ⟨0, .nil, .nil⟩ := by kernel_rfl
theorem cl4_27 (s : List (Nat × Value)) : clRun s 27 8 8 = .ret undef ⟨0, .nil, .nil⟩ := by kernel_rfl
theorem cl4_28 (s : List (Nat × Value)) : clRun s 28 8 8 = .ret undef ⟨0, .nil, .nil⟩ := by kernel_rfl
theorem cl4_29 (s : List (Nat × Value)) : clRun s 29 8 8 = .ret undef ⟨0, .nil, .nil⟩ := by kernel_rfl
theorem cl4_30 (s : List (Nat × Value)) : clRun s 30 8 9 = .ret undef ⟨0, .nil, .nil⟩ := by kernel_rfl
theorem cl4_31 (s : List (Nat × Value)) : clRun s 31 9 10 = .ret undef ⟨0, .nil, .nil⟩ := by kernel_rfl

end Go.Proofs

