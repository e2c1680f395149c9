/- The seat's program for calls whose arguments are not known. -/
import Derived.Test.YtdalaifnhppidaaDoorEvSym
import Derived.Test.YtdalaifnhppidaaDoorProg
import Derived.KernelRfl
set_option linter.unusedVariables false
set_option linter.unusedSimpArgs false
namespace Go.Proofs
open Go Go.Ev

theorem evMixed : Tryd.prog.follows .mixedOrders = true := by kernel_rfl
theorem evNames : Tryd.prog.funcs.toList.all okName = true := by kernel_rfl
noncomputable abbrev SC (r : Mem) : Cfg := Cfg.sym Tryd.prog r
noncomputable abbrev S0 : Cfg := SC Mem.no
theorem SC_ok (r : Mem) : (SC r).Ok := Cfg.sym_ok evMixed evNames r
noncomputable abbrev SS (r : Mem) (sh : Nat) : Cfg := Cfg.symS Tryd.prog r sh
theorem SS_ok (r : Mem) (sh : Nat) : (SS r sh).Ok := Cfg.symS_ok evMixed evNames r sh
abbrev I (n : Int) : Value := .int .i64 n
abbrev RS (b off len cap : Nat) : Value := .slice (some ⟨b, off, some 0⟩) len cap

end Go.Proofs
