/- What the claim is proved with, part 7: the evaluator and the contracts of the calls. -/
import Derived.Test.YtogkblefihbgbaaDoorPack3
import Derived.Test.YtogkblefihbgbaaDoorPack1
import Derived.Test.YtogkblefihbgbaaDoorPack2
import Derived.Test.YtogkblefihbgbaaDoorPack4
import Derived.Test.YtogkblefihbgbaaDoorPack5
import Derived.Test.YtogkblefihbgbaaDoorPack6
/- The law of ascent lists and orders: four elements, the sets from 32. -/
namespace Go.Proofs
open Go Go.Ev
set_option linter.unusedVariables false
set_option linter.unusedSimpArgs false
set_option maxRecDepth 100000

theorem cl4_32 (s : List (Nat × Value)) : clRun s 32 10 10 = .ret undef ⟨0, .nil, .nil⟩ := by kernel_rfl
theorem cl4_33 (s : List (Nat × Value)) : clRun s 33 10 10 = .ret undef ⟨0, .nil, .nil⟩ := by kernel_rfl
theorem cl4_34 (s : List (Nat × Value)) : clRun s 34 10 10 = .ret undef ⟨0, .nil, .nil⟩ := by kernel_rfl
theorem cl4_35 (s : List (Nat × Value)) : clRun s 35 10 10 = .ret undef ⟨0, .nil, .nil⟩ := by kernel_rfl
theorem cl4_36 (s : List (Nat × Value)) : clRun s 36 10 10 = .ret undef ⟨0, .nil, .nil⟩ := by kernel_rfl
theorem cl4_37 (s : List (Nat × Value)) : clRun s 37 10 10 = .ret undef ⟨0, .nil, .nil⟩ := by kernel_rfl
theorem cl4_38 (s : List (Nat × Value)) : clRun s 38 10 10 = .ret undef ⟨0, .nil, .nil⟩ := by kernel_rfl
theorem cl4_39 (s : List (Nat × Value)) : clRun s 39 10 10 = .ret undef ⟨0, .nil, .nil⟩ := by kernel_rfl

end Go.Proofs

/- The law of ascent lists and orders: four elements, the sets from 40. -/
namespace Go.Proofs
open Go Go.Ev
set_option linter.unusedVariables false
set_option linter.unusedSimpArgs false
set_option maxRecDepth 100000

theorem cl4_40 (s : List (Nat × Value)) : clRun s 40 10 10 = .ret undef ⟨0, .nil, .nil⟩ := by kernel_rfl
theorem cl4_41 (s : List (Nat × Value)) : clRun s 41 10 10 = .ret undef ⟨0, .nil, .nil⟩ := by kernel_rfl
theorem cl4_42 (s : List (Nat × Value)) : clRun s 42 10 10 = .ret undef ⟨0, .nil, .nil⟩ := by kernel_rfl
theorem cl4_43 (s : List (Nat × Value)) : clRun s 43 10 10 = .ret undef ⟨0, .nil, .nil⟩ := by kernel_rfl
theorem cl4_44 (s : List (Nat × Value)) : clRun s 44 10 10 = .ret undef ⟨0, .nil, .nil⟩ := by kernel_rfl
theorem cl4_45 (s : List (Nat × Value)) : clRun s 45 10 10 = .ret undef ⟨0, .nil, .nil⟩ := by kernel_rfl
theorem cl4_46 (s : List (Nat × Value)) : clRun s 46 10 10 = .ret undef ⟨0, .nil, .nil⟩ := by kernel_rfl
theorem cl4_47 (s : List (Nat × Value)) : clRun s 47 10 10 = .ret undef ⟨0, .nil, .nil⟩ := by kernel_rfl

end Go.Proofs

