/- awake of chapter 6. -/
import Derived.Test.YtmcgmligdnpejaaDoorZTabs
namespace Go.Proofs
open Go Go.Ev

theorem awake_ok : GrT Tryd.prog tabM 18 [] (.bool true) := GrT.closedRo evMixed evNames tabM .nil 1000 40 (by kernel_rfl)

end Go.Proofs
