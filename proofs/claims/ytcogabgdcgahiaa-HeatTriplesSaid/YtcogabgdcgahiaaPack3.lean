/- What the claim is proved with, part 3: the evaluator and the contracts of the calls. -/
import Derived.Test.YtcogabgdcgahiaaPack2
import Derived.Test.YtcogabgdcgahiaaPack1
/- The first day: rounds of the search, run. -/
namespace Go.Proofs
open Go Go.Ev
set_option linter.unusedVariables false
set_option maxRecDepth 100000

theorem fd_1 (r : Mem) (s : List (Nat × Value)) : run (CC r) 63 46 1000 bFd (lvlT (CC r) tFe mskH 1000 40) none (qv gFd) (fun _ => qF) qF s (TFd (dayV 3) (.ofNat 361)) [] (AFd (cI [0, 1, 3, 2, 7, 8, 4, 11, 13])) = .ret (rFd (cI [0, 1, 3, 2, 7, 8, 4, 11, 13, 6, 9, 14]) 3 (.ofNat 389)) ⟨0, .nil, .nil⟩ := by kernel_rfl

theorem fd_2 (r : Mem) (s : List (Nat × Value)) : run (CC r) 63 46 1000 bFd (lvlT (CC r) tFe mskH 1000 40) none (qv gFd) (fun _ => qF) qF s (TFd (dayV 3) (.ofNat 389)) [] (AFd (cI [0, 1, 3, 2, 7, 8, 4, 11, 13])) = .ret (rFd (cI [0, 1, 3, 2, 7, 8, 4, 11, 13, 6, 10, 14]) 3 (.ofNat 393)) ⟨0, .nil, .nil⟩ := by kernel_rfl

theorem fd_3 (r : Mem) (s : List (Nat × Value)) : run (CC r) 63 46 1000 bFd (lvlT (CC r) tFe mskH 1000 40) none (qv gFd) (fun _ => qF) qF s (TFd (dayV 3) (.ofNat 393)) [] (AFd (cI [0, 1, 3, 2, 7, 8, 4, 11, 13])) = .ret (rFd (cI [0, 1, 3, 2, 7, 8, 4, 11, 13]) 2 (.ofNat 331)) ⟨0, .nil, .nil⟩ := by kernel_rfl

theorem fd_4 (r : Mem) (s : List (Nat × Value)) : run (CC r) 63 46 1000 bFd (lvlT (CC r) tFe mskH 1000 40) none (qv gFd) (fun _ => qF) qF s (TFd (dayV 2) (.ofNat 331)) [] (AFd (cI [0, 1, 3, 2, 7, 8])) = .ret (rFd (cI [0, 1, 3, 2, 7, 8, 4, 11, 14, 5, 9, 13]) 3 (.ofNat 360)) ⟨0, .nil, .nil⟩ := by kernel_rfl

theorem fd_5 (r : Mem) (s : List (Nat × Value)) : run (CC r) 63 46 1000 bFd (lvlT (CC r) tFe mskH 1000 40) none (qv gFd) (fun _ => qF) qF s (TFd (dayV 3) (.ofNat 360)) [] (AFd (cI [0, 1, 3, 2, 7, 8, 4, 11, 14])) = .ret (rFd (cI [0, 1, 3, 2, 7, 8, 4, 11, 14]) 2 (.ofNat 332)) ⟨0, .nil, .nil⟩ := by kernel_rfl

end Go.Proofs

/- The first day: rounds of the search, run. -/
namespace Go.Proofs
open Go Go.Ev
set_option linter.unusedVariables false
set_option maxRecDepth 100000

theorem fd_6 (r : Mem) (s : List (Nat × Value)) : run (CC r) 63 46 1000 bFd (lvlT (CC r) tFe mskH 1000 40) none (qv gFd) (fun _ => qF) qF s (TFd (dayV 2) (.ofNat 332)) [] (AFd (cI [0, 1, 3, 2, 7, 8])) = .ret (rFd (cI [0, 1, 3, 2, 7, 8, 4, 12, 14, 6, 9, 13]) 3 (.ofNat 388)) ⟨0, .nil, .nil⟩ := by kernel_rfl

theorem fd_7 (r : Mem) (s : List (Nat × Value)) : run (CC r) 63 46 1000 bFd (lvlT (CC r) tFe mskH 1000 40) none (qv gFd) (fun _ => qF) qF s (TFd (dayV 3) (.ofNat 388)) [] (AFd (cI [0, 1, 3, 2, 7, 8, 4, 12, 14])) = .ret (rFd (cI [0, 1, 3, 2, 7, 8, 4, 12, 14, 6, 10, 13]) 3 (.ofNat 392)) ⟨0, .nil, .nil⟩ := by kernel_rfl

theorem fd_8 (r : Mem) (s : List (Nat × Value)) : run (CC r) 63 46 1000 bFd (lvlT (CC r) tFe mskH 1000 40) none (qv gFd) (fun _ => qF) qF s (TFd (dayV 3) (.ofNat 392)) [] (AFd (cI [0, 1, 3, 2, 7, 8, 4, 12, 14])) = .ret (rFd (cI [0, 1, 3, 2, 7, 8, 4, 12, 14]) 2 (.ofNat 334)) ⟨0, .nil, .nil⟩ := by kernel_rfl

theorem fd_9 (r : Mem) (s : List (Nat × Value)) : run (CC r) 63 46 1000 bFd (lvlT (CC r) tFe mskH 1000 40) none (qv gFd) (fun _ => qF) qF s (TFd (dayV 2) (.ofNat 334)) [] (AFd (cI [0, 1, 3, 2, 7, 8])) = .ret (rFd (cI [0, 1, 3, 2, 7, 8, 4, 13, 14, 5, 9, 12]) 3 (.ofNat 359)) ⟨0, .nil, .nil⟩ := by kernel_rfl

theorem fd_10 (r : Mem) (s : List (Nat × Value)) : run (CC r) 63 46 1000 bFd (lvlT (CC r) tFe mskH 1000 40) none (qv gFd) (fun _ => qF) qF s (TFd (dayV 3) (.ofNat 359)) [] (AFd (cI [0, 1, 3, 2, 7, 8, 4, 13, 14])) = .ret (rFd (cI [0, 1, 3, 2, 7, 8, 4, 13, 14]) 2 (.ofNat 335)) ⟨0, .nil, .nil⟩ := by kernel_rfl

end Go.Proofs

