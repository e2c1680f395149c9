/- What the claim is proved with, part 9: the evaluator and the contracts of the calls. -/
import Derived.Test.YtogkblefihbgbaaDoorPack3
import Derived.Test.YtogkblefihbgbaaDoorPack1
import Derived.Test.YtogkblefihbgbaaDoorPack2
import Derived.Test.YtogkblefihbgbaaDoorPack4
import Derived.Test.YtogkblefihbgbaaDoorPack5
import Derived.Test.YtogkblefihbgbaaDoorPack6
import Derived.Test.YtogkblefihbgbaaDoorPack7
import Derived.Test.YtogkblefihbgbaaDoorPack8
/- The law of ascent lists and orders: four elements, the sets from 56. -/
namespace Go.Proofs
open Go Go.Ev
set_option linter.unusedVariables false
set_option linter.unusedSimpArgs false
set_option maxRecDepth 100000

theorem cl4_56 (s : List (Nat × Value)) : clRun s 56 13 13 = .ret undef ⟨0, .nil, .nil⟩ := by kernel_rfl
theorem cl4_57 (s : List (Nat × Value)) : clRun s 57 13 13 = .ret undef ⟨0, .nil, .nil⟩ := by kernel_rfl
theorem cl4_58 (s : List (Nat × Value)) : clRun s 58 13 13 = .ret undef ⟨0, .nil, .nil⟩ := by kernel_rfl
theorem cl4_59 (s : List (Nat × Value)) : clRun s 59 13 13 = .ret undef ⟨0, .nil, .nil⟩ := by kernel_rfl
theorem cl4_60 (s : List (Nat × Value)) : clRun s 60 13 13 = .ret undef ⟨0, .nil, .nil⟩ := by kernel_rfl
theorem cl4_61 (s : List (Nat × Value)) : clRun s 61 13 13 = .ret undef ⟨0, .nil, .nil⟩ := by kernel_rfl
theorem cl4_62 (s : List (Nat × Value)) : clRun s 62 13 14 = .ret undef ⟨0, .nil, .nil⟩ := by kernel_rfl
theorem cl4_63 (s : List (Nat × Value)) : clRun s 63 14 15 = .ret undef ⟨0, .nil, .nil⟩ := by kernel_rfl

end Go.Proofs

