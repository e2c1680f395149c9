/- What the claim is proved with, part 4: the evaluator and the contracts of the calls. -/
import Derived.Test.YtcogabgdcgahiaaPack2
import Derived.Test.YtcogabgdcgahiaaPack1
import Derived.Test.YtcogabgdcgahiaaPack3
/- The first day: rounds of the search, run. -/
namespace Go.Proofs
open Go Go.Ev
set_option linter.unusedVariables false
set_option maxRecDepth 100000

theorem fd_11 (r : Mem) (s : List (Nat × Value)) : run (CC r) 63 46 1000 bFd (lvlT (CC r) tFe mskH 1000 40) none (qv gFd) (fun _ => qF) qF s (TFd (dayV 2) (.ofNat 335)) [] (AFd (cI [0, 1, 3, 2, 7, 8])) = .ret (rFd (cI [0, 1, 3, 2, 7, 8, 5, 9, 12]) 2 (.ofNat 359)) ⟨0, .nil, .nil⟩ := by kernel_rfl

theorem fd_12 (r : Mem) (s : List (Nat × Value)) : run (CC r) 63 46 1000 bFd (lvlT (CC r) tFe mskH 1000 40) none (qv gFd) (fun _ => qF) qF s (TFd (dayV 2) (.ofNat 359)) [] (AFd (cI [0, 1, 3, 2, 7, 8])) = .ret (rFd (cI [0, 1, 3, 2, 7, 8, 5, 9, 13]) 2 (.ofNat 360)) ⟨0, .nil, .nil⟩ := by kernel_rfl

theorem fd_13 (r : Mem) (s : List (Nat × Value)) : run (CC r) 63 46 1000 bFd (lvlT (CC r) tFe mskH 1000 40) none (qv gFd) (fun _ => qF) qF s (TFd (dayV 2) (.ofNat 360)) [] (AFd (cI [0, 1, 3, 2, 7, 8])) = .ret (rFd (cI [0, 1, 3, 2, 7, 8, 5, 9, 14]) 2 (.ofNat 361)) ⟨0, .nil, .nil⟩ := by kernel_rfl

theorem fd_14 (r : Mem) (s : List (Nat × Value)) : run (CC r) 63 46 1000 bFd (lvlT (CC r) tFe mskH 1000 40) none (qv gFd) (fun _ => qF) qF s (TFd (dayV 2) (.ofNat 361)) [] (AFd (cI [0, 1, 3, 2, 7, 8])) = .ret (rFd (cI [0, 1, 3, 2, 7, 8, 5, 12, 14]) 2 (.ofNat 370)) ⟨0, .nil, .nil⟩ := by kernel_rfl

theorem fd_15 (r : Mem) (s : List (Nat × Value)) : run (CC r) 63 46 1000 bFd (lvlT (CC r) tFe mskH 1000 40) none (qv gFd) (fun _ => qF) qF s (TFd (dayV 2) (.ofNat 370)) [] (AFd (cI [0, 1, 3, 2, 7, 8])) = .ret (rFd (cI [0, 1, 3, 2, 7, 8, 5, 13, 14]) 2 (.ofNat 371)) ⟨0, .nil, .nil⟩ := by kernel_rfl

end Go.Proofs

/- The first day: rounds of the search, run. -/
namespace Go.Proofs
open Go Go.Ev
set_option linter.unusedVariables false
set_option maxRecDepth 100000

theorem fd_16 (r : Mem) (s : List (Nat × Value)) : run (CC r) 63 46 1000 bFd (lvlT (CC r) tFe mskH 1000 40) none (qv gFd) (fun _ => qF) qF s (TFd (dayV 2) (.ofNat 371)) [] (AFd (cI [0, 1, 3, 2, 7, 8])) = .ret (rFd (cI [0, 1, 3, 2, 7, 8, 6, 9, 13]) 2 (.ofNat 388)) ⟨0, .nil, .nil⟩ := by kernel_rfl

theorem fd_17 (r : Mem) (s : List (Nat × Value)) : run (CC r) 63 46 1000 bFd (lvlT (CC r) tFe mskH 1000 40) none (qv gFd) (fun _ => qF) qF s (TFd (dayV 2) (.ofNat 388)) [] (AFd (cI [0, 1, 3, 2, 7, 8])) = .ret (rFd (cI [0, 1, 3, 2, 7, 8, 6, 9, 14]) 2 (.ofNat 389)) ⟨0, .nil, .nil⟩ := by kernel_rfl

theorem fd_18 (r : Mem) (s : List (Nat × Value)) : run (CC r) 63 46 1000 bFd (lvlT (CC r) tFe mskH 1000 40) none (qv gFd) (fun _ => qF) qF s (TFd (dayV 2) (.ofNat 389)) [] (AFd (cI [0, 1, 3, 2, 7, 8])) = .ret (rFd (cI [0, 1, 3, 2, 7, 8, 6, 10, 13]) 2 (.ofNat 392)) ⟨0, .nil, .nil⟩ := by kernel_rfl

theorem fd_19 (r : Mem) (s : List (Nat × Value)) : run (CC r) 63 46 1000 bFd (lvlT (CC r) tFe mskH 1000 40) none (qv gFd) (fun _ => qF) qF s (TFd (dayV 2) (.ofNat 392)) [] (AFd (cI [0, 1, 3, 2, 7, 8])) = .ret (rFd (cI [0, 1, 3, 2, 7, 8, 6, 10, 14]) 2 (.ofNat 393)) ⟨0, .nil, .nil⟩ := by kernel_rfl

theorem fd_20 (r : Mem) (s : List (Nat × Value)) : run (CC r) 63 46 1000 bFd (lvlT (CC r) tFe mskH 1000 40) none (qv gFd) (fun _ => qF) qF s (TFd (dayV 2) (.ofNat 393)) [] (AFd (cI [0, 1, 3, 2, 7, 8])) = .ret (rFd (cI [0, 1, 3, 2, 7, 8, 6, 13, 14]) 2 (.ofNat 399)) ⟨0, .nil, .nil⟩ := by kernel_rfl

theorem fd_21 (r : Mem) (s : List (Nat × Value)) : run (CC r) 63 46 1000 bFd (lvlT (CC r) tFe mskH 1000 40) none (qv gFd) (fun _ => qF) qF s (TFd (dayV 2) (.ofNat 399)) [] (AFd (cI [0, 1, 3, 2, 7, 8])) = .ret (rFd (cI [0, 1, 3, 2, 7, 8]) 1 (.ofNat 208)) ⟨0, .nil, .nil⟩ := by kernel_rfl

end Go.Proofs

