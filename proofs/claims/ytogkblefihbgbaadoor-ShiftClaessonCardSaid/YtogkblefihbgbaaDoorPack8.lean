/- What the claim is proved with, part 8: the evaluator and the contracts of the calls. -/
import Derived.Test.YtogkblefihbgbaaDoorPack3
import Derived.Test.YtogkblefihbgbaaDoorPack1
import Derived.Test.YtogkblefihbgbaaDoorPack2
import Derived.Test.YtogkblefihbgbaaDoorPack4
import Derived.Test.YtogkblefihbgbaaDoorPack5
import Derived.Test.YtogkblefihbgbaaDoorPack6
import Derived.Test.YtogkblefihbgbaaDoorPack7
/- The law of ascent lists and orders: four elements, the sets from 48. -/
namespace Go.Proofs
open Go Go.Ev
set_option linter.unusedVariables false
set_option linter.unusedSimpArgs false
set_option maxRecDepth 100000

theorem cl4_48 (s : List (Nat × Value)) : clRun s 48 10 10 = .ret undef ⟨0, .nil, .nil⟩ := by kernel_rfl
theorem cl4_49 (s : List (Nat × Value)) : clRun s 49 10 10 = .ret undef ⟨0, .nil, .nil⟩ := by kernel_rfl
theorem cl4_50 (s : List (Nat × Value)) : clRun s 50 10 10 = .ret undef ⟨0, .nil, .nil⟩ := by kernel_rfl
theorem cl4_51 (s : List (Nat × Value)) : clRun s 51 10 10 = .ret undef ⟨0, .nil, .nil⟩ := by kernel_rfl
theorem cl4_52 (s : List (Nat × Value)) : clRun s 52 10 11 = .ret undef ⟨0, .nil, .nil⟩ := by kernel_rfl
theorem cl4_53 (s : List (Nat × Value)) : clRun s 53 11 12 = .ret undef ⟨0, .nil, .nil⟩ := by kernel_rfl
theorem cl4_54 (s : List (Nat × Value)) : clRun s 54 12 12 = .ret undef ⟨0, .nil, .nil⟩ := by kernel_rfl
theorem cl4_55 (s : List (Nat × Value)) : clRun s 55 12 13 = .ret undef ⟨0, .nil, .nil⟩ := by kernel_rfl

end Go.Proofs

