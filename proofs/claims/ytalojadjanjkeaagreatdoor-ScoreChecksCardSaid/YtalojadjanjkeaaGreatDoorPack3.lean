/- What the claim is proved with, part 3: the evaluator and the contracts of the calls. -/
import Derived.Test.YtalojadjanjkeaaGreatDoorPack2
import Derived.Test.YtalojadjanjkeaaGreatDoorPack1
import Derived.Test.YtalojadjanjkeaaGreatDoorEvOwn
/- The reference's kings, run. -/
namespace Go.Proofs
open Go Go.Ev Go.Num
set_option linter.unusedVariables false
set_option linter.unusedSimpArgs false
set_option maxRecDepth 100000

noncomputable def cRKg : Code := bodyOf S0 19
noncomputable def RKg_0 : Code := (lc cRKg)
noncomputable def RKg_1 : Code := (lc (rc cRKg))
noncomputable def RKg_2 : Code := (lc (lc (rc (rc cRKg))))
noncomputable def RKg_3 : Code := (lc (ic (ic (rc (lc (rc (rc cRKg)))))))
noncomputable def RKg_4 : Code := (lc (ic (lc (rc (ic (ic (rc (lc (rc (rc cRKg))))))))))
noncomputable def RKg_5 : Code := (lc (lc (rc (ic (lc (rc (ic (ic (rc (lc (rc (rc cRKg))))))))))))
noncomputable def RKg_6 : Code := (lc (ic (ic (rc (lc (rc (ic (lc (rc (ic (ic (rc (lc (rc (rc cRKg)))))))))))))))
noncomputable def RKg_7 : Code := (lc (ic (lc (rc (ic (ic (rc (lc (rc (ic (lc (rc (ic (ic (rc (lc (rc (rc cRKg))))))))))))))))))
noncomputable def RKg_8 : Code := (lc (lc (rc (ic (lc (rc (ic (ic (rc (lc (rc (ic (lc (rc (ic (ic (rc (lc (rc (rc cRKg))))))))))))))))))))
noncomputable def RKg_9 : Code := (ic (ic (rc (lc (rc (ic (lc (rc (ic (ic (rc (lc (rc (ic (lc (rc (ic (ic (rc (lc (rc (rc cRKg))))))))))))))))))))))
noncomputable def RKg_10 : Code := (rc (rc (ic (lc (rc (ic (ic (rc (lc (rc (ic (lc (rc (ic (ic (rc (lc (rc (rc cRKg)))))))))))))))))))
noncomputable def RKg_11 : Code := (rc (rc (ic (ic (rc (lc (rc (ic (lc (rc (ic (ic (rc (lc (rc (rc cRKg))))))))))))))))
noncomputable def RKg_12 : Code := (rc (rc (ic (lc (rc (ic (ic (rc (lc (rc (rc cRKg)))))))))))
noncomputable def RKg_13 : Code := (rc (rc (ic (ic (rc (lc (rc (rc cRKg))))))))
noncomputable def RKg_14 : Code := (rc (rc (rc cRKg)))
theorem RKg_eq : cRKg = (.seq RKg_0 (.seq RKg_1 (.seq (.seq RKg_2 (.block 0 (.loop (.seq RKg_3 (.seq (.block 1 (.seq RKg_4 (.seq (.seq RKg_5 (.block 2 (.loop (.seq RKg_6 (.seq (.block 3 (.seq RKg_7 (.seq (.seq RKg_8 (.block 4 (.loop RKg_9))) RKg_10))) RKg_11))))) RKg_12))) RKg_13))))) RKg_14))) := by kernel_rfl
def vg3 (b off n cap : Nat) (E : Value) (i : Nat) : OV := [some (RS b off n cap), some E, some (I (i : Nat))]
def vg5 (b off n cap : Nat) (E : Value) (i : Nat) (g : Bool) (k : Nat) : OV := [some (RS b off n cap), some E, some (I (i : Nat)), some (.bool g), some (I (k : Nat))]
def vg6 (b off n cap : Nat) (E : Value) (i : Nat) (g : Bool) (k : Nat) (h : Bool) : OV := [some (RS b off n cap), some E, some (I (i : Nat)), some (.bool g), some (I (k : Nat)), some (.bool h)]
def vg7 (b off n cap : Nat) (E : Value) (i : Nat) (g : Bool) (k : Nat) (h : Bool) (m : Nat) : OV := [some (RS b off n cap), some E, some (I (i : Nat)), some (.bool g), some (I (k : Nat)), some (.bool h), some (I (m : Nat))]

theorem kgA (r : Mem) (b off n cap : Nat) (fs : FnsC) (K : OV → List Nat → OO → CR) (kx : Nat → KS) (kr : KS) : run (SC r) 509 68 1 (.seq RKg_0 (.seq RKg_1 RKg_2)) fs none (rbK 0 [0, 3, 4] [] K) kx kr (sc0 509 [RS b off n cap]) (tr0 509 [RS b off n cap]) [] emptyA =
    K [some (.slice (some ⟨b, off, some 0⟩) n cap), some (.slice none 0 0), some (I (Int.ofNat 0))] [] [] := by kernel_rfl

theorem kgBn (r : Mem) (b off n cap i : Nat) (fs : FnsC) (K : OV → List Nat → OO → CR) (KX : Nat → OV → List Nat → OO → CR) (kr : KS) : run (SC r) 509 68 1 RKg_3 fs none (rbK 0 [0, 3, 4] [] K) (fun j => rbK 0 [3] [] (KX j)) kr [] (bT [0, 3, 4] (vg3 b off n cap (.slice none 0 0) i) .nil) [] (mkA []) =
    bif decide (Int.ofNat i < Int.ofNat n) then K [some (.slice (some ⟨b, off, some 0⟩) n cap), some (.slice none 0 0), some (I (Int.ofNat i))] [] [] else KX 0 [some (.slice none 0 0)] [] [] := by kernel_rfl

theorem kgCn (r : Mem) (b off n cap i : Nat) (fs : FnsC) (K : OV → List Nat → OO → CR) (kx : Nat → KS) (kr : KS) : run (SC r) 509 68 1 (.seq RKg_4 RKg_5) fs none (rbK 0 [0, 3, 4, 5, 6] [] K) kx kr [] (bT [0, 3, 4] (vg3 b off n cap (.slice none 0 0) i) .nil) [] (mkA []) =
    K [some (.slice (some ⟨b, off, some 0⟩) n cap), some (.slice none 0 0), some (I (Int.ofNat i)), some (.bool true), some (I (Int.ofNat 0))] [] [] := by kernel_rfl

theorem kgDn (r : Mem) (b off n cap i : Nat) (g : Bool) (k : Nat) (fs : FnsC) (K : OV → List Nat → OO → CR) (KX : Nat → OV → List Nat → OO → CR) (kr : KS) : run (SC r) 509 68 1 RKg_6 fs none (rbK 0 [0, 3, 4, 5, 6] [] K) (fun j => rbK 0 [0, 3, 4, 5] [] (KX j)) kr [] (bT [0, 3, 4, 5, 6] (vg5 b off n cap (.slice none 0 0) i g k) .nil) [] (mkA []) =
    bif decide (Int.ofNat k < Int.ofNat n) then K [some (.slice (some ⟨b, off, some 0⟩) n cap), some (.slice none 0 0), some (I (Int.ofNat i)), some (.bool g), some (I (Int.ofNat k))] [] [] else KX 2 [some (.slice (some ⟨b, off, some 0⟩) n cap), some (.slice none 0 0), some (I (Int.ofNat i)), some (.bool g)] [] [] := by kernel_rfl

theorem kgEn (r : Mem) (b off n cap i : Nat) (g : Bool) (k : Nat) (fs : FnsC) (K : OV → List Nat → OO → CR) (kx : Nat → KS) (kr : KS) : run (SS r 2) 509 68 1 (.seq RKg_7 RKg_8) fs none (rbK 0 [0, 3, 4, 5, 6, 7, 8] [] K) kx kr [] (bT [0, 3, 4, 5, 6] (vg5 b off n cap (.slice none 0 0) i g k) .nil) [] (mkA []) =
    bif Int.ofNat i == Int.ofNat k then K [some (.slice (some ⟨b, off, some 0⟩) n cap), some (.slice none 0 0), some (I (Int.ofNat i)), some (.bool g), some (I (Int.ofNat k)), some (.bool true), some (I (Int.ofNat 0))] [] [] else bif Nat.blt (Int.toNat (Int.ofNat i)) n then Option.casesOn (r b (Nat.add off (Nat.mul (Int.toNat (Int.ofNat i)) 1))) (.fail 423) fun val => bif isRoS val then bif Nat.blt (Int.toNat (Int.ofNat k)) (lnOf val) then Option.casesOn (r (blkOf val) (Nat.add (offOf val) (Nat.mul (Int.toNat (Int.ofNat k)) 1))) (.fail 423) fun val => bif isB val then bif ofB val then K [some (.slice (some ⟨b, off, some 0⟩) n cap), some (.slice none 0 0), some (I (Int.ofNat i)), some (.bool g), some (I (Int.ofNat k)), some (.bool true), some (I (Int.ofNat 0))] [] [] else K [some (.slice (some ⟨b, off, some 0⟩) n cap), some (.slice none 0 0), some (I (Int.ofNat i)), some (.bool g), some (I (Int.ofNat k)), some (.bool false), some (I (Int.ofNat 0))] [] [] else .fail 420 else .fail 420 else .fail 420 else .fail 420 := by kernel_rfl

theorem kgFn (r : Mem) (b off n cap i : Nat) (g : Bool) (k : Nat) (h : Bool) (m : Nat) (fs : FnsC) (K : OV → List Nat → OO → CR) (KX : Nat → OV → List Nat → OO → CR) (kr : KS) : run (SS r 2) 509 68 1 RKg_9 fs none (rbK 0 [0, 3, 4, 5, 6, 7, 8] [] K) (fun j => rbK 0 [0, 3, 4, 5, 6, 7] [] (KX j)) kr [] (bT [0, 3, 4, 5, 6, 7, 8] (vg7 b off n cap (.slice none 0 0) i g k h m) .nil) [] (mkA []) =
    bif decide (Int.ofNat m < Int.ofNat n) then bif h then K [some (.slice (some ⟨b, off, some 0⟩) n cap), some (.slice none 0 0), some (I (Int.ofNat i)), some (.bool g), some (I (Int.ofNat k)), some (.bool true), some (I (IntKind.wrap .i64 (Int.ofNat m + Int.ofNat 1)))] [] [] else bif Nat.blt (Int.toNat (Int.ofNat i)) n then Option.casesOn (r b (Nat.add off (Nat.mul (Int.toNat (Int.ofNat i)) 1))) (.fail 423) fun val => bif isRoS val then bif Nat.blt (Int.toNat (Int.ofNat m)) (lnOf val) then Option.casesOn (r (blkOf val) (Nat.add (offOf val) (Nat.mul (Int.toNat (Int.ofNat m)) 1))) (.fail 423) fun val => bif isB val then bif ofB val then bif Nat.blt (Int.toNat (Int.ofNat m)) n then Option.casesOn (r b (Nat.add off (Nat.mul (Int.toNat (Int.ofNat m)) 1))) (.fail 423) fun val => bif isRoS val then bif Nat.blt (Int.toNat (Int.ofNat k)) (lnOf val) then Option.casesOn (r (blkOf val) (Nat.add (offOf val) (Nat.mul (Int.toNat (Int.ofNat k)) 1))) (.fail 423) fun val => bif isB val then bif ofB val then K [some (.slice (some ⟨b, off, some 0⟩) n cap), some (.slice none 0 0), some (I (Int.ofNat i)), some (.bool g), some (I (Int.ofNat k)), some (.bool true), some (I (IntKind.wrap .i64 (Int.ofNat m + Int.ofNat 1)))] [] [] else K [some (.slice (some ⟨b, off, some 0⟩) n cap), some (.slice none 0 0), some (I (Int.ofNat i)), some (.bool g), some (I (Int.ofNat k)), some (.bool false), some (I (IntKind.wrap .i64 (Int.ofNat m + Int.ofNat 1)))] [] [] else .fail 420 else .fail 420 else .fail 420 else .fail 420 else K [some (.slice (some ⟨b, off, some 0⟩) n cap), some (.slice none 0 0), some (I (Int.ofNat i)), some (.bool g), some (I (Int.ofNat k)), some (.bool false), some (I (IntKind.wrap .i64 (Int.ofNat m + Int.ofNat 1)))] [] [] else .fail 420 else .fail 420 else .fail 420 else .fail 420 else KX 4 [some (.slice (some ⟨b, off, some 0⟩) n cap), some (.slice none 0 0), some (I (Int.ofNat i)), some (.bool g), some (I (Int.ofNat k)), some (.bool h)] [] [] := by kernel_rfl

theorem kgGn (r : Mem) (b off n cap i : Nat) (g : Bool) (k : Nat) (h : Bool) (fs : FnsC) (K : OV → List Nat → OO → CR) (kx : Nat → KS) (kr : KS) : run (SC r) 509 68 1 RKg_10 fs none (rbK 0 [0, 3, 4, 5, 6] [] K) kx kr [] (bT [0, 3, 4, 5, 6, 7] (vg6 b off n cap (.slice none 0 0) i g k h) .nil) [] (mkA []) =
    bif g then bif h then K [some (.slice (some ⟨b, off, some 0⟩) n cap), some (.slice none 0 0), some (I (Int.ofNat i)), some (.bool true), some (I (Int.ofNat k))] [] [] else K [some (.slice (some ⟨b, off, some 0⟩) n cap), some (.slice none 0 0), some (I (Int.ofNat i)), some (.bool false), some (I (Int.ofNat k))] [] [] else K [some (.slice (some ⟨b, off, some 0⟩) n cap), some (.slice none 0 0), some (I (Int.ofNat i)), some (.bool false), some (I (Int.ofNat k))] [] [] := by kernel_rfl

theorem kgHn (r : Mem) (b off n cap i : Nat) (g : Bool) (k : Nat) (fs : FnsC) (K : OV → List Nat → OO → CR) (kx : Nat → KS) (kr : KS) : run (SC r) 509 68 1 RKg_11 fs none (rbK 0 [0, 3, 4, 5, 6] [] K) kx kr [] (bT [0, 3, 4, 5, 6] (vg5 b off n cap (.slice none 0 0) i g k) .nil) [] (mkA []) =
    K [some (.slice (some ⟨b, off, some 0⟩) n cap), some (.slice none 0 0), some (I (Int.ofNat i)), some (.bool g), some (I (IntKind.wrap .i64 (Int.ofNat k + Int.ofNat 1)))] [] [] := by kernel_rfl

theorem kgIn (r : Mem) (b off n cap i : Nat) (g : Bool) (fs : FnsC) (K : OV → List Nat → OO → CR) (kx : Nat → KS) (kr : KS) : run (SC r) 509 68 1 RKg_12 fs none (rbK 0 [0, 3, 4] [] K) kx kr [] (bT [0, 3, 4, 5] [some (RS b off n cap), some (.slice none 0 0), some (I (i : Nat)), some (.bool g)] .nil) [] (mkA []) =
    bif g then K [some (.slice (some ⟨b, off, some 0⟩) n cap), some (.slice (some ⟨0, 0, none⟩) 1 unk), some (I (Int.ofNat i))] [] [some (.cells [I (Int.ofNat i)] 3 0 1)] else K [some (.slice (some ⟨b, off, some 0⟩) n cap), some (.slice none 0 0), some (I (Int.ofNat i))] [] [] := by kernel_rfl

theorem kgJn (r : Mem) (b off n cap i : Nat) (fs : FnsC) (K : OV → List Nat → OO → CR) (kx : Nat → KS) (kr : KS) : run (SC r) 509 68 1 RKg_13 fs none (rbK 0 [0, 3, 4] [] K) kx kr [] (bT [0, 3, 4] (vg3 b off n cap (.slice none 0 0) i) .nil) [] (mkA []) =
    K [some (.slice (some ⟨b, off, some 0⟩) n cap), some (.slice none 0 0), some (I (IntKind.wrap .i64 (Int.ofNat i + Int.ofNat 1)))] [] [] := by kernel_rfl

theorem kgKn (r : Mem) (fs : FnsC) (K KR : OV → List Nat → OO → CR) (kx : Nat → KS) : run (SC r) 509 68 1 RKg_14 fs none (rbK 0 [2] [] K) kx (rbK 0 [2] [] KR) [] (bT [3] [some (.slice none 0 0)] .nil) [] (mkA []) =
    KR [some (.slice none 0 0)] [] [] := by kernel_rfl

theorem kgBo (r : Mem) (b off n cap i : Nat) (q : Nat) (s : List Value) (fs : FnsC) (K : OV → List Nat → OO → CR) (KX : Nat → OV → List Nat → OO → CR) (kr : KS) : run (SC r) 509 68 1 RKg_3 fs none (rbK 0 [0, 3, 4] [] K) (fun j => rbK 0 [3] [] (KX j)) kr [] (bT [0, 3, 4] (vg3 b off n cap (gwT 0 q) i) .nil) [] (mkA [oIn5 s 0]) =
    bif decide (Int.ofNat i < Int.ofNat n) then bif m_nns s && true then K [some (.slice (some ⟨b, off, some 0⟩) n cap), some (.slice (some ⟨0, 0, none⟩) q unk), some (I (Int.ofNat i))] [] [some (.cells s 3 0 1)] else .fail 420 else bif m_nns s && true then KX 0 [some (.slice (some ⟨0, 0, none⟩) q unk)] [] [some (.cells s 3 0 1)] else .fail 420 := by kernel_rfl

theorem kgCo (r : Mem) (b off n cap i : Nat) (q : Nat) (s : List Value) (fs : FnsC) (K : OV → List Nat → OO → CR) (kx : Nat → KS) (kr : KS) : run (SC r) 509 68 1 (.seq RKg_4 RKg_5) fs none (rbK 0 [0, 3, 4, 5, 6] [] K) kx kr [] (bT [0, 3, 4] (vg3 b off n cap (gwT 0 q) i) .nil) [] (mkA [oIn5 s 0]) =
    bif m_nns s && true then K [some (.slice (some ⟨b, off, some 0⟩) n cap), some (.slice (some ⟨0, 0, none⟩) q unk), some (I (Int.ofNat i)), some (.bool true), some (I (Int.ofNat 0))] [] [some (.cells s 3 0 1)] else .fail 420 := by kernel_rfl

theorem kgDo (r : Mem) (b off n cap i : Nat) (q : Nat) (s : List Value) (g : Bool) (k : Nat) (fs : FnsC) (K : OV → List Nat → OO → CR) (KX : Nat → OV → List Nat → OO → CR) (kr : KS) : run (SC r) 509 68 1 RKg_6 fs none (rbK 0 [0, 3, 4, 5, 6] [] K) (fun j => rbK 0 [0, 3, 4, 5] [] (KX j)) kr [] (bT [0, 3, 4, 5, 6] (vg5 b off n cap (gwT 0 q) i g k) .nil) [] (mkA [oIn5 s 0]) =
    bif decide (Int.ofNat k < Int.ofNat n) then bif m_nns s && true then K [some (.slice (some ⟨b, off, some 0⟩) n cap), some (.slice (some ⟨0, 0, none⟩) q unk), some (I (Int.ofNat i)), some (.bool g), some (I (Int.ofNat k))] [] [some (.cells s 3 0 1)] else .fail 420 else bif m_nns s && true then KX 2 [some (.slice (some ⟨b, off, some 0⟩) n cap), some (.slice (some ⟨0, 0, none⟩) q unk), some (I (Int.ofNat i)), some (.bool g)] [] [some (.cells s 3 0 1)] else .fail 420 := by kernel_rfl

theorem kgEo (r : Mem) (b off n cap i : Nat) (q : Nat) (s : List Value) (g : Bool) (k : Nat) (fs : FnsC) (K : OV → List Nat → OO → CR) (kx : Nat → KS) (kr : KS) : run (SS r 2) 509 68 1 (.seq RKg_7 RKg_8) fs none (rbK 0 [0, 3, 4, 5, 6, 7, 8] [] K) kx kr [] (bT [0, 3, 4, 5, 6] (vg5 b off n cap (gwT 0 q) i g k) .nil) [] (mkA [oIn5 s 0]) =
    bif Int.ofNat i == Int.ofNat k then bif m_nns s && true then K [some (.slice (some ⟨b, off, some 0⟩) n cap), some (.slice (some ⟨0, 0, none⟩) q unk), some (I (Int.ofNat i)), some (.bool g), some (I (Int.ofNat k)), some (.bool true), some (I (Int.ofNat 0))] [] [some (.cells s 3 0 1)] else .fail 420 else bif Nat.blt (Int.toNat (Int.ofNat i)) n then Option.casesOn (r b (Nat.add off (Nat.mul (Int.toNat (Int.ofNat i)) 1))) (.fail 423) fun val => bif isRoS val then bif Nat.blt (Int.toNat (Int.ofNat k)) (lnOf val) then Option.casesOn (r (blkOf val) (Nat.add (offOf val) (Nat.mul (Int.toNat (Int.ofNat k)) 1))) (.fail 423) fun val => bif isB val then bif ofB val then bif m_nns s && true then K [some (.slice (some ⟨b, off, some 0⟩) n cap), some (.slice (some ⟨0, 0, none⟩) q unk), some (I (Int.ofNat i)), some (.bool g), some (I (Int.ofNat k)), some (.bool true), some (I (Int.ofNat 0))] [] [some (.cells s 3 0 1)] else .fail 420 else bif m_nns s && true then K [some (.slice (some ⟨b, off, some 0⟩) n cap), some (.slice (some ⟨0, 0, none⟩) q unk), some (I (Int.ofNat i)), some (.bool g), some (I (Int.ofNat k)), some (.bool false), some (I (Int.ofNat 0))] [] [some (.cells s 3 0 1)] else .fail 420 else .fail 420 else .fail 420 else .fail 420 else .fail 420 := by kernel_rfl

theorem kgFo (r : Mem) (b off n cap i : Nat) (q : Nat) (s : List Value) (g : Bool) (k : Nat) (h : Bool) (m : Nat) (fs : FnsC) (K : OV → List Nat → OO → CR) (KX : Nat → OV → List Nat → OO → CR) (kr : KS) : run (SS r 2) 509 68 1 RKg_9 fs none (rbK 0 [0, 3, 4, 5, 6, 7, 8] [] K) (fun j => rbK 0 [0, 3, 4, 5, 6, 7] [] (KX j)) kr [] (bT [0, 3, 4, 5, 6, 7, 8] (vg7 b off n cap (gwT 0 q) i g k h m) .nil) [] (mkA [oIn5 s 0]) =
    bif decide (Int.ofNat m < Int.ofNat n) then bif h then bif m_nns s && true then K [some (.slice (some ⟨b, off, some 0⟩) n cap), some (.slice (some ⟨0, 0, none⟩) q unk), some (I (Int.ofNat i)), some (.bool g), some (I (Int.ofNat k)), some (.bool true), some (I (IntKind.wrap .i64 (Int.ofNat m + Int.ofNat 1)))] [] [some (.cells s 3 0 1)] else .fail 420 else bif Nat.blt (Int.toNat (Int.ofNat i)) n then Option.casesOn (r b (Nat.add off (Nat.mul (Int.toNat (Int.ofNat i)) 1))) (.fail 423) fun val => bif isRoS val then bif Nat.blt (Int.toNat (Int.ofNat m)) (lnOf val) then Option.casesOn (r (blkOf val) (Nat.add (offOf val) (Nat.mul (Int.toNat (Int.ofNat m)) 1))) (.fail 423) fun val => bif isB val then bif ofB val then bif Nat.blt (Int.toNat (Int.ofNat m)) n then Option.casesOn (r b (Nat.add off (Nat.mul (Int.toNat (Int.ofNat m)) 1))) (.fail 423) fun val => bif isRoS val then bif Nat.blt (Int.toNat (Int.ofNat k)) (lnOf val) then Option.casesOn (r (blkOf val) (Nat.add (offOf val) (Nat.mul (Int.toNat (Int.ofNat k)) 1))) (.fail 423) fun val => bif isB val then bif ofB val then bif m_nns s && true then K [some (.slice (some ⟨b, off, some 0⟩) n cap), some (.slice (some ⟨0, 0, none⟩) q unk), some (I (Int.ofNat i)), some (.bool g), some (I (Int.ofNat k)), some (.bool true), some (I (IntKind.wrap .i64 (Int.ofNat m + Int.ofNat 1)))] [] [some (.cells s 3 0 1)] else .fail 420 else bif m_nns s && true then K [some (.slice (some ⟨b, off, some 0⟩) n cap), some (.slice (some ⟨0, 0, none⟩) q unk), some (I (Int.ofNat i)), some (.bool g), some (I (Int.ofNat k)), some (.bool false), some (I (IntKind.wrap .i64 (Int.ofNat m + Int.ofNat 1)))] [] [some (.cells s 3 0 1)] else .fail 420 else .fail 420 else .fail 420 else .fail 420 else .fail 420 else bif m_nns s && true then K [some (.slice (some ⟨b, off, some 0⟩) n cap), some (.slice (some ⟨0, 0, none⟩) q unk), some (I (Int.ofNat i)), some (.bool g), some (I (Int.ofNat k)), some (.bool false), some (I (IntKind.wrap .i64 (Int.ofNat m + Int.ofNat 1)))] [] [some (.cells s 3 0 1)] else .fail 420 else .fail 420 else .fail 420 else .fail 420 else .fail 420 else bif m_nns s && true then KX 4 [some (.slice (some ⟨b, off, some 0⟩) n cap), some (.slice (some ⟨0, 0, none⟩) q unk), some (I (Int.ofNat i)), some (.bool g), some (I (Int.ofNat k)), some (.bool h)] [] [some (.cells s 3 0 1)] else .fail 420 := by kernel_rfl

theorem kgGo (r : Mem) (b off n cap i : Nat) (q : Nat) (s : List Value) (g : Bool) (k : Nat) (h : Bool) (fs : FnsC) (K : OV → List Nat → OO → CR) (kx : Nat → KS) (kr : KS) : run (SC r) 509 68 1 RKg_10 fs none (rbK 0 [0, 3, 4, 5, 6] [] K) kx kr [] (bT [0, 3, 4, 5, 6, 7] (vg6 b off n cap (gwT 0 q) i g k h) .nil) [] (mkA [oIn5 s 0]) =
    bif g then bif h then bif m_nns s && true then K [some (.slice (some ⟨b, off, some 0⟩) n cap), some (.slice (some ⟨0, 0, none⟩) q unk), some (I (Int.ofNat i)), some (.bool true), some (I (Int.ofNat k))] [] [some (.cells s 3 0 1)] else .fail 420 else bif m_nns s && true then K [some (.slice (some ⟨b, off, some 0⟩) n cap), some (.slice (some ⟨0, 0, none⟩) q unk), some (I (Int.ofNat i)), some (.bool false), some (I (Int.ofNat k))] [] [some (.cells s 3 0 1)] else .fail 420 else bif m_nns s && true then K [some (.slice (some ⟨b, off, some 0⟩) n cap), some (.slice (some ⟨0, 0, none⟩) q unk), some (I (Int.ofNat i)), some (.bool false), some (I (Int.ofNat k))] [] [some (.cells s 3 0 1)] else .fail 420 := by kernel_rfl

theorem kgHo (r : Mem) (b off n cap i : Nat) (q : Nat) (s : List Value) (g : Bool) (k : Nat) (fs : FnsC) (K : OV → List Nat → OO → CR) (kx : Nat → KS) (kr : KS) : run (SC r) 509 68 1 RKg_11 fs none (rbK 0 [0, 3, 4, 5, 6] [] K) kx kr [] (bT [0, 3, 4, 5, 6] (vg5 b off n cap (gwT 0 q) i g k) .nil) [] (mkA [oIn5 s 0]) =
    bif m_nns s && true then K [some (.slice (some ⟨b, off, some 0⟩) n cap), some (.slice (some ⟨0, 0, none⟩) q unk), some (I (Int.ofNat i)), some (.bool g), some (I (IntKind.wrap .i64 (Int.ofNat k + Int.ofNat 1)))] [] [some (.cells s 3 0 1)] else .fail 420 := by kernel_rfl

theorem kgIo (r : Mem) (b off n cap i : Nat) (q : Nat) (s : List Value) (g : Bool) (fs : FnsC) (K : OV → List Nat → OO → CR) (kx : Nat → KS) (kr : KS) : run (SC r) 509 68 1 RKg_12 fs none (rbK 0 [0, 3, 4] [] K) kx kr [] (bT [0, 3, 4, 5] [some (RS b off n cap), some (gwT 0 q), some (I (i : Nat)), some (.bool g)] .nil) [] (mkA [oIn5 s 0]) =
    bif g then bif Nat.ble (Nat.add q 1) 1000000 then Option.casesOn (takeAt s 0 (Nat.mul q 1)) (.fail 439) fun val => bif m_nns (val ++ [I (Int.ofNat i)]) && true then K [some (.slice (some ⟨b, off, some 0⟩) n cap), some (.slice (some ⟨0, 0, none⟩) (Nat.add q 1) unk), some (I (Int.ofNat i))] [] [some (.cells (val ++ [I (Int.ofNat i)]) 3 0 1)] else .fail 420 else .fail 420 else bif m_nns s && true then K [some (.slice (some ⟨b, off, some 0⟩) n cap), some (.slice (some ⟨0, 0, none⟩) q unk), some (I (Int.ofNat i))] [] [some (.cells s 3 0 1)] else .fail 420 := by kernel_rfl

theorem kgJo (r : Mem) (b off n cap i : Nat) (q : Nat) (s : List Value) (fs : FnsC) (K : OV → List Nat → OO → CR) (kx : Nat → KS) (kr : KS) : run (SC r) 509 68 1 RKg_13 fs none (rbK 0 [0, 3, 4] [] K) kx kr [] (bT [0, 3, 4] (vg3 b off n cap (gwT 0 q) i) .nil) [] (mkA [oIn5 s 0]) =
    bif m_nns s && true then K [some (.slice (some ⟨b, off, some 0⟩) n cap), some (.slice (some ⟨0, 0, none⟩) q unk), some (I (IntKind.wrap .i64 (Int.ofNat i + Int.ofNat 1)))] [] [some (.cells s 3 0 1)] else .fail 420 := by kernel_rfl

theorem kgKo (r : Mem) (q : Nat) (s : List Value) (fs : FnsC) (K KR : OV → List Nat → OO → CR) (kx : Nat → KS) : run (SC r) 509 68 1 RKg_14 fs none (rbK 0 [2] [] K) kx (rbK 0 [2] [] KR) [] (bT [3] [some (gwT 0 q)] .nil) [] (mkA [oIn5 s 0]) =
    bif m_nns s && true then KR [some (.slice (some ⟨0, 0, none⟩) q unk)] [] [some (.cells s 3 0 1)] else .fail 420 := by kernel_rfl

end Go.Proofs

/- The reference's kings: what the call answers. -/
namespace Go.Proofs
open Go Go.Ev Go.Num
set_option linter.unusedVariables false
set_option linter.unusedSimpArgs false
set_option maxRecDepth 100000

def reR (T : List (List Bool)) (i k : Nat) : Nat → Bool
 | 0 => if i = k then true else gT T i k
 | m + 1 => reR T i k m || (gT T i m && gT T m k)
def kgR (T : List (List Bool)) (i : Nat) : Nat → Bool
 | 0 => true
 | k + 1 => kgR T i k && reR T i k T.length
def kgL (T : List (List Bool)) : Nat → List Int
 | 0 => []
 | i + 1 => if kgR T i T.length then kgL T i ++ [(i : Int)] else kgL T i
theorem kgL_len (T : List (List Bool)) : ∀ i, (kgL T i).length ≤ i
 | 0 => Nat.le_refl _
 | i + 1 => by
  have := kgL_len T i
  rw [kgL]
  split
  ·simp; omega
  ·omega
def OkL (l : List Int) (E : Value) (os : OO) : Prop := (l = [] ∧ E = nilT ∧ os = []) ∨ (l ≠ [] ∧ E = gwT 0 l.length ∧ os = [oIn5 (rowI l) 0])
section
variable {r : Mem} {b off n cap : Nat} {T : List (List Bool)}
theorem kg_S (hM : TabM r b off T) (hn : T.length = n) (hl : lenN T T.length = true) (hn2 : T.length ≤ 1000) : SOk (SC r) 19 [RS b off n cap] emptyA fun v A => ∃ os, OkL (kgL T T.length) v os ∧ A = mkA os := by
 subst hn
 let E0 : Outs := ⟨[2], [], fun vs ms os => ms = [] ∧ ∃ E, vs = [some E] ∧ OkL (kgL T T.length) E os⟩
 refine callO (SC_ok r) (by kernel_rfl) ((bodySC r _).trans RKg_eq) (nt := 68) (by kernel_rfl) (rs := [.tmp 2]) (by kernel_rfl) 509 rfl E0 ?_ fun γ W F kk hwr hF hro h0' => ?_
 ·rintro vs ms os ⟨rfl, E, rfl, hE⟩
  generalize kgL T T.length = l at hE
  rcases hE with ⟨l0, rfl, rfl⟩ | ⟨l0, rfl, rfl⟩
  ·exact ⟨_, mkA [], by kernel_rfl, [], .inl ⟨l0, rfl, rfl⟩, rfl⟩
  ·exact ⟨_, mkA [oIn5 (rowI l) 0], by kernel_rfl, _, .inr ⟨l0, rfl, rfl⟩, rfl⟩
 have h0' : ∀ i, 0 ≤ i → γ i = none := h0'
 have w1 : ∀ k : Nat, k ≤ 1000 → IntKind.wrap IntKind.i64 ((k : Int) + ((1 : Nat) : Int)) = ((k + 1 : Nat) : Int) := fun k hk => inc1' (by omega)
 have e0 : ∀ o k : Nat, Nat.add o (Nat.mul k 1) = o + k := fun o k => by simp
 have hlen := fun i hi => lenN_get hl i hi
 have hrow : ∀ i, i < T.length → ∃ bi oi ci, r b (off + i) = some (RS bi oi T.length ci) ∧ ∀ k, k < T.length → r bi (oi + k) = some (.bool (gT T i k)) := fun i hi => by
  have h := tab_RS hM hi (by rw [hlen i hi]; omega)
  rw [hlen i hi] at h
  exact h
 let X0 : Outs := ⟨[3], [], fun vs ms os => ms = [] ∧ ∃ E, vs = [some E] ∧ OkL (kgL T T.length) E os⟩
 refine Go.Ev.Reach.after3R (SC_ok r) TOk.nil (tm := .nil) (L := 1) (L' := 1) (d := 1) hF hro h0' (.step (.step .base))
  (o1 := ⟨[0, 3, 4], [], fun vs ms os => vs = vg3 b off T.length cap nilT 0 ∧ ms = [] ∧ os = []⟩)
  (o2 := X0) [] (fun p hp => nomatch hp) ?_ ?_ ?_
 ·rintro vs ms os ⟨rfl, rfl, rfl⟩
  refine Go.Ev.Reach.blockC (Go.Ev.Reach.loopC (j := T.length) (lv := [0, 3, 4]) (fl := []) (I := fun j vs ms os => ∃ i : Nat, i ≤ T.length ∧ j = T.length - i ∧ ms = [] ∧ ∃ E, OkL (kgL T i) E os ∧ vs = vg3 b off T.length cap E i) (fun j vs ms os hI => ?_) ⟨0, by omega, rfl, rfl, nilT, .inl ⟨rfl, rfl, rfl⟩, rfl⟩)
  obtain ⟨i, hi, rfl, rfl, E, hE, rfl⟩ := hI
  have hll := kgL_len T i
  generalize hlg : kgL T i = l at hE hll
  refine Go.Ev.Reach.seqC (o1 := ⟨[0, 3, 4], [], fun vs ms os => i < T.length ∧ ms = [] ∧ ∃ E, OkL l E os ∧ vs = vg3 b off T.length cap E i⟩) (Go.Ev.Reach.segR (SC_ok r) TOk.nil (tm := .nil) (L := 1) (L' := 1) (d := 1) hF hro h0' [(0, X0)] (fun p hp => by simp only [List.mem_cons, List.not_mem_nil, or_false] at hp; subst hp; rfl) ?_) fun vs ms os hq => ?_
  ·rcases hE with ⟨l0, rfl, rfl⟩ | ⟨l0, rfl, rfl⟩
   ·have hn' := kgBn r b off T.length cap i
    simp only [Int.ofNat_eq_natCast] at hn'
    by_cases c : i < T.length
    ·simp only [dT (show (i : Int) < (T.length : Int) by omega), cond_true] at hn'
     exact (hn' _ _ _ _).trans (qq_ok ⟨c, rfl, _, .inl ⟨l0, rfl, rfl⟩, rfl⟩)
    ·obtain rfl : i = T.length := by omega
     simp only [dF (show ¬ (T.length : Int) < (T.length : Int) by omega), cond_false] at hn'
     exact (hn' _ _ _ _).trans (qq_ok ⟨rfl, _, rfl, by rw [hlg]; exact .inl ⟨l0, rfl, rfl⟩⟩)
   ·have hn' := kgBo r b off T.length cap i l.length (rowI l)
    simp only [Int.ofNat_eq_natCast, rowI_nn, Bool.and_true, cond_true] at hn'
    by_cases c : i < T.length
    ·simp only [dT (show (i : Int) < (T.length : Int) by omega), cond_true] at hn'
     exact (hn' _ _ _ _).trans (qq_ok ⟨c, rfl, _, .inr ⟨l0, rfl, rfl⟩, rfl⟩)
    ·obtain rfl : i = T.length := by omega
     simp only [dF (show ¬ (T.length : Int) < (T.length : Int) by omega), cond_false] at hn'
     exact (hn' _ _ _ _).trans (qq_ok ⟨rfl, _, rfl, by rw [hlg]; exact .inr ⟨l0, rfl, rfl⟩⟩)
  ·obtain ⟨hi', rfl, E, hE, rfl⟩ := hq
   refine Go.Ev.Reach.seqC (o1 := ⟨[0, 3, 4], [], fun vs ms os => ms = [] ∧ ∃ E, OkL (kgL T (i + 1)) E os ∧ vs = vg3 b off T.length cap E i⟩) (Go.Ev.Reach.blockC ?_) fun vs ms os hq => ?_
   ·refine Go.Ev.Reach.after3R (SC_ok r) TOk.nil (tm := .nil) (L := 1) (L' := 1) (d := 1) hF hro h0' (.step .base)
     (o1 := ⟨[0, 3, 4, 5, 6], [], fun vs ms os => ms = [] ∧ ∃ E, OkL l E os ∧ vs = vg5 b off T.length cap E i true 0⟩)
     (o2 := ⟨[0, 3, 4, 5], [], fun vs ms os => ms = [] ∧ ∃ E, OkL l E os ∧ vs = [some (RS b off T.length cap), some E, some (I (i : Nat)), some (.bool (kgR T i T.length))]⟩) [] (fun p hp => nomatch hp) ?_ ?_ ?_
    ·rintro vs ms os ⟨rfl, E, hE, rfl⟩
     refine Go.Ev.Reach.blockC (Go.Ev.Reach.loopC (j := T.length) (lv := [0, 3, 4, 5, 6]) (fl := []) (I := fun j vs ms os => ∃ k : Nat, k ≤ T.length ∧ j = T.length - k ∧ ms = [] ∧ ∃ E, OkL l E os ∧ vs = vg5 b off T.length cap E i (kgR T i k) k) (fun j vs ms os hI => ?_) ⟨0, by omega, rfl, rfl, E, hE, rfl⟩)
     obtain ⟨k, hk, rfl, rfl, E, hE, rfl⟩ := hI
     refine Go.Ev.Reach.seqC (o1 := ⟨[0, 3, 4, 5, 6], [], fun vs ms os => k < T.length ∧ ms = [] ∧ ∃ E, OkL l E os ∧ vs = vg5 b off T.length cap E i (kgR T i k) k⟩) (Go.Ev.Reach.segR (SC_ok r) TOk.nil (tm := .nil) (L := 1) (L' := 1) (d := 1) hF hro h0' [(2, ⟨[0, 3, 4, 5], [], fun vs ms os => ms = [] ∧ ∃ E, OkL l E os ∧ vs = [some (RS b off T.length cap), some E, some (I (i : Nat)), some (.bool (kgR T i T.length))]⟩)] (fun p hp => by simp only [List.mem_cons, List.not_mem_nil, or_false] at hp; subst hp; rfl) ?_) fun vs ms os hq => ?_
     ·rcases hE with ⟨l0, rfl, rfl⟩ | ⟨l0, rfl, rfl⟩
      ·have hn' := kgDn r b off T.length cap i (kgR T i k) k
       simp only [Int.ofNat_eq_natCast] at hn'
       by_cases c : k < T.length
       ·simp only [dT (show (k : Int) < (T.length : Int) by omega), cond_true] at hn'
        exact (hn' _ _ _ _).trans (qq_ok ⟨c, rfl, _, .inl ⟨l0, rfl, rfl⟩, rfl⟩)
       ·obtain rfl : k = T.length := by omega
        simp only [dF (show ¬ (T.length : Int) < (T.length : Int) by omega), cond_false] at hn'
        exact (hn' _ _ _ _).trans (qq_ok ⟨rfl, _, .inl ⟨l0, rfl, rfl⟩, rfl⟩)
      ·have hn' := kgDo r b off T.length cap i l.length (rowI l) (kgR T i k) k
       simp only [Int.ofNat_eq_natCast, rowI_nn, Bool.and_true, cond_true] at hn'
       by_cases c : k < T.length
       ·simp only [dT (show (k : Int) < (T.length : Int) by omega), cond_true] at hn'
        exact (hn' _ _ _ _).trans (qq_ok ⟨c, rfl, _, .inr ⟨l0, rfl, rfl⟩, rfl⟩)
       ·obtain rfl : k = T.length := by omega
        simp only [dF (show ¬ (T.length : Int) < (T.length : Int) by omega), cond_false] at hn'
        exact (hn' _ _ _ _).trans (qq_ok ⟨rfl, _, .inr ⟨l0, rfl, rfl⟩, rfl⟩)
     ·obtain ⟨hk', rfl, E, hE, rfl⟩ := hq
      obtain ⟨bi, oi, ci, hui, hri⟩ := hrow i hi'
      have b1 : Nat.blt i T.length = true := Nat.ble_eq_true_of_le (by omega)
      have b2 : Nat.blt k T.length = true := Nat.ble_eq_true_of_le (by omega)
      refine Go.Ev.Reach.seqC (o1 := ⟨[0, 3, 4, 5, 6], [], fun vs ms os => ms = [] ∧ ∃ E, OkL l E os ∧ vs = vg5 b off T.length cap E i (kgR T i (k + 1)) k⟩) (Go.Ev.Reach.blockC ?_) fun vs ms os hq => ?_
      ·refine reach_hs (sh := 2) (Go.Ev.Reach.after3R (SS_ok r 2) (TOk.sh 2 TOk.nil) (tm := .nil) (L := 1) (L' := 1) (d := 1) hF hro h0' (.step .base)
        (o1 := ⟨[0, 3, 4, 5, 6, 7, 8], [], fun vs ms os => ms = [] ∧ ∃ E, OkL l E os ∧ vs = vg7 b off T.length cap E i (kgR T i k) k (reR T i k 0) 0⟩)
        (o2 := ⟨[0, 3, 4, 5, 6, 7], [], fun vs ms os => ms = [] ∧ ∃ E, OkL l E os ∧ vs = vg6 b off T.length cap E i (kgR T i k) k (reR T i k T.length)⟩) [] (fun p hp => nomatch hp) ?_ ?_ ?_)
       ·rintro vs ms os ⟨rfl, E, hE, rfl⟩
        refine Go.Ev.Reach.blockC (Go.Ev.Reach.loopC (j := T.length) (lv := [0, 3, 4, 5, 6, 7, 8]) (fl := []) (I := fun j vs ms os => ∃ m : Nat, m ≤ T.length ∧ j = T.length - m ∧ ms = [] ∧ ∃ E, OkL l E os ∧ vs = vg7 b off T.length cap E i (kgR T i k) k (reR T i k m) m) (fun j vs ms os hI => ?_) ⟨0, by omega, rfl, rfl, E, hE, rfl⟩)
        obtain ⟨m, hm, rfl, rfl, E, hE, rfl⟩ := hI
        refine Go.Ev.Reach.segR (SS_ok r 2) (TOk.sh 2 TOk.nil) (tm := .nil) (L := 1) (L' := 1) (d := 1) hF hro h0' [(4, ⟨[0, 3, 4, 5, 6, 7], [], fun vs ms os => ms = [] ∧ ∃ E, OkL l E os ∧ vs = vg6 b off T.length cap E i (kgR T i k) k (reR T i k T.length)⟩)] (fun p hp => by simp only [List.mem_cons, List.not_mem_nil, or_false] at hp; subst hp; rfl) ?_
        by_cases cm : m < T.length
        ·obtain ⟨bm, om, cm', hum, hrm⟩ := hrow m cm
         have b3 : Nat.blt m T.length = true := Nat.ble_eq_true_of_le (by omega)
         have hs : (reR T i k m || (gT T i m && gT T m k)) = reR T i k (m + 1) := rfl
         rcases hE with ⟨l0, rfl, rfl⟩ | ⟨l0, rfl, rfl⟩
         ·have hn' := kgFn r b off T.length cap i (kgR T i k) k (reR T i k m) m
          simp only [Int.ofNat_eq_natCast, Int.toNat_natCast, dT (show (m : Int) < (T.length : Int) by omega), cond_true, b1, b2, b3, e0, hui, hum, ro_RS, ln_RS, bk_RS, of_RS, hri m cm, hrm k hk', b_bl, o_bl, w1 m (by omega)] at hn'
          cases q1 : reR T i k m <;> cases q2 : gT T i m <;> cases q3 : gT T m k <;> rw [q1, q2, q3] at hs <;> simp only [q1, q2, q3, cond_true, cond_false] at hn' <;>
           exact (hn' _ _ _ _).trans (qq_ok ⟨T.length - (m + 1), by omega, m + 1, cm, rfl, rfl, _, .inl ⟨l0, rfl, rfl⟩, by rw [← hs]; rfl⟩)
         ·have hn' := kgFo r b off T.length cap i l.length (rowI l) (kgR T i k) k (reR T i k m) m
          simp only [Int.ofNat_eq_natCast, Int.toNat_natCast, dT (show (m : Int) < (T.length : Int) by omega), cond_true, b1, b2, b3, e0, hui, hum, ro_RS, ln_RS, bk_RS, of_RS, hri m cm, hrm k hk', b_bl, o_bl, w1 m (by omega), rowI_nn, Bool.and_true, cond_true] at hn'
          cases q1 : reR T i k m <;> cases q2 : gT T i m <;> cases q3 : gT T m k <;> rw [q1, q2, q3] at hs <;> simp only [q1, q2, q3, cond_true, cond_false] at hn' <;>
           exact (hn' _ _ _ _).trans (qq_ok ⟨T.length - (m + 1), by omega, m + 1, cm, rfl, rfl, _, .inr ⟨l0, rfl, rfl⟩, by rw [← hs]; rfl⟩)
        ·obtain rfl : m = T.length := by omega
         rcases hE with ⟨l0, rfl, rfl⟩ | ⟨l0, rfl, rfl⟩
         ·have hn' := kgFn r b off T.length cap i (kgR T i k) k (reR T i k T.length) T.length
          simp only [Int.ofNat_eq_natCast, dF (show ¬ (T.length : Int) < (T.length : Int) by omega), cond_false] at hn'
          exact (hn' _ _ _ _).trans (qq_ok ⟨rfl, _, .inl ⟨l0, rfl, rfl⟩, rfl⟩)
         ·have hn' := kgFo r b off T.length cap i l.length (rowI l) (kgR T i k) k (reR T i k T.length) T.length
          simp only [Int.ofNat_eq_natCast, dF (show ¬ (T.length : Int) < (T.length : Int) by omega), cond_false, rowI_nn, Bool.and_true, cond_true] at hn'
          exact (hn' _ _ _ _).trans (qq_ok ⟨rfl, _, .inr ⟨l0, rfl, rfl⟩, rfl⟩)
       ·rintro vs ms os ⟨rfl, E, hE, rfl⟩
        refine reach_sh (Go.Ev.Reach.segR (SC_ok r) TOk.nil (tm := .nil) (L := 1) (L' := 1) (d := 1) hF hro h0' [] (fun p hp => nomatch hp) ?_)
        have hs : (kgR T i k && reR T i k T.length) = kgR T i (k + 1) := rfl
        rcases hE with ⟨l0, rfl, rfl⟩ | ⟨l0, rfl, rfl⟩
        ·have hn' := kgGn r b off T.length cap i (kgR T i k) k (reR T i k T.length)
         simp only [Int.ofNat_eq_natCast] at hn'
         cases q1 : kgR T i k <;> cases q2 : reR T i k T.length <;> rw [q1, q2] at hs <;> simp only [q1, q2, cond_true, cond_false] at hn' <;>
          exact (hn' _ _ _ _).trans (qq_ok ⟨rfl, _, .inl ⟨l0, rfl, rfl⟩, by rw [← hs]; rfl⟩)
        ·have hn' := kgGo r b off T.length cap i l.length (rowI l) (kgR T i k) k (reR T i k T.length)
         simp only [Int.ofNat_eq_natCast, rowI_nn, Bool.and_true, cond_true] at hn'
         cases q1 : kgR T i k <;> cases q2 : reR T i k T.length <;> rw [q1, q2] at hs <;> simp only [q1, q2, cond_true, cond_false] at hn' <;>
          exact (hn' _ _ _ _).trans (qq_ok ⟨rfl, _, .inr ⟨l0, rfl, rfl⟩, by rw [← hs]; rfl⟩)
       ·rcases hE with ⟨l0, rfl, rfl⟩ | ⟨l0, rfl, rfl⟩
        ·have hn' := kgEn r b off T.length cap i (kgR T i k) k
         simp only [Int.ofNat_eq_natCast, Int.toNat_natCast, b1, b2, e0, hui, ro_RS, ln_RS, bk_RS, of_RS, hri k hk', b_bl, o_bl, cond_true] at hn'
         by_cases ce : i = k
         ·have hs : reR T i k 0 = true := if_pos ce
          simp only [eqT (show (i : Int) = (k : Int) by omega), cond_true] at hn'
          exact (hn' _ _ _ _).trans (qq_ok ⟨rfl, _, .inl ⟨l0, rfl, rfl⟩, by rw [hs]; rfl⟩)
         ·have hs : reR T i k 0 = gT T i k := if_neg ce
          simp only [eqF (show ¬ (i : Int) = (k : Int) by omega), cond_false] at hn'
          cases q1 : gT T i k <;> rw [q1] at hs <;> simp only [q1, cond_true, cond_false] at hn' <;>
           exact (hn' _ _ _ _).trans (qq_ok ⟨rfl, _, .inl ⟨l0, rfl, rfl⟩, by rw [hs]; rfl⟩)
        ·have hn' := kgEo r b off T.length cap i l.length (rowI l) (kgR T i k) k
         simp only [Int.ofNat_eq_natCast, Int.toNat_natCast, b1, b2, e0, hui, ro_RS, ln_RS, bk_RS, of_RS, hri k hk', b_bl, o_bl, cond_true, rowI_nn, Bool.and_true, cond_true] at hn'
         by_cases ce : i = k
         ·have hs : reR T i k 0 = true := if_pos ce
          simp only [eqT (show (i : Int) = (k : Int) by omega), cond_true] at hn'
          exact (hn' _ _ _ _).trans (qq_ok ⟨rfl, _, .inr ⟨l0, rfl, rfl⟩, by rw [hs]; rfl⟩)
         ·have hs : reR T i k 0 = gT T i k := if_neg ce
          simp only [eqF (show ¬ (i : Int) = (k : Int) by omega), cond_false] at hn'
          cases q1 : gT T i k <;> rw [q1] at hs <;> simp only [q1, cond_true, cond_false] at hn' <;>
           exact (hn' _ _ _ _).trans (qq_ok ⟨rfl, _, .inr ⟨l0, rfl, rfl⟩, by rw [hs]; rfl⟩)
      ·obtain ⟨rfl, E, hE, rfl⟩ := hq
       refine Go.Ev.Reach.segR (SC_ok r) TOk.nil (tm := .nil) (L := 1) (L' := 1) (d := 1) hF hro h0' [] (fun p hp => nomatch hp) ?_
       rcases hE with ⟨l0, rfl, rfl⟩ | ⟨l0, rfl, rfl⟩
       ·have hn' := kgHn r b off T.length cap i (kgR T i (k + 1)) k
        simp only [Int.ofNat_eq_natCast, w1 k (by omega)] at hn'
        exact (hn' _ _ _ _).trans (qq_ok ⟨T.length - (k + 1), by omega, k + 1, hk', rfl, rfl, _, .inl ⟨l0, rfl, rfl⟩, rfl⟩)
       ·have hn' := kgHo r b off T.length cap i l.length (rowI l) (kgR T i (k + 1)) k
        simp only [Int.ofNat_eq_natCast, w1 k (by omega), rowI_nn, Bool.and_true, cond_true] at hn'
        exact (hn' _ _ _ _).trans (qq_ok ⟨T.length - (k + 1), by omega, k + 1, hk', rfl, rfl, _, .inr ⟨l0, rfl, rfl⟩, rfl⟩)
    ·rintro vs ms os ⟨rfl, E, hE, rfl⟩
     refine Go.Ev.Reach.segR (SC_ok r) TOk.nil (tm := .nil) (L := 1) (L' := 1) (d := 1) hF hro h0' [] (fun p hp => nomatch hp) ?_
     have hkl : kgL T (i + 1) = if kgR T i T.length then l ++ [(i : Int)] else l := by rw [kgL, hlg]
     cases q : kgR T i T.length with
     | true =>
      rw [q, if_pos rfl] at hkl
      rcases hE with ⟨l0, rfl, rfl⟩ | ⟨l0, rfl, rfl⟩
      ·have hn' := kgIn r b off T.length cap i true
       simp only [Int.ofNat_eq_natCast, cond_true] at hn'
       subst l0
       exact (hn' _ _ _ _).trans (qq_ok ⟨rfl, gwT 0 1, by rw [hkl]; exact .inr ⟨by simp, rfl, rfl⟩, rfl⟩)
      ·have hn' := kgIo r b off T.length cap i l.length (rowI l) true
       have b3 : Nat.ble (Nat.add l.length 1) 1000000 = true := Nat.ble_eq_true_of_le (by simp; omega)
       have tk : takeAt (rowI l) 0 (Nat.mul l.length 1) = some (rowI l) := takeL_row _ _ (by rw [rowI_len]; simp)
       simp only [Int.ofNat_eq_natCast, cond_true, b3, tk, rowI_app, rowI_nn, Bool.and_true] at hn'
       exact (hn' _ _ _ _).trans (qq_ok ⟨rfl, gwT 0 (l.length + 1), by rw [hkl]; exact .inr ⟨by simp, by simp, rfl⟩, rfl⟩)
     | false =>
      rw [q, if_neg (by simp)] at hkl
      rcases hE with ⟨l0, rfl, rfl⟩ | ⟨l0, rfl, rfl⟩
      ·have hn' := kgIn r b off T.length cap i false
       simp only [Int.ofNat_eq_natCast, cond_false] at hn'
       exact (hn' _ _ _ _).trans (qq_ok ⟨rfl, nilT, by rw [hkl]; exact .inl ⟨l0, rfl, rfl⟩, rfl⟩)
      ·have hn' := kgIo r b off T.length cap i l.length (rowI l) false
       simp only [Int.ofNat_eq_natCast, cond_false, rowI_nn, Bool.and_true, cond_true] at hn'
       exact (hn' _ _ _ _).trans (qq_ok ⟨rfl, (gwT 0 l.length), by rw [hkl]; exact .inr ⟨l0, rfl, rfl⟩, rfl⟩)
    ·rcases hE with ⟨l0, rfl, rfl⟩ | ⟨l0, rfl, rfl⟩
     ·have hn' := kgCn r b off T.length cap i
      simp only [Int.ofNat_eq_natCast] at hn'
      exact (hn' _ _ _ _).trans (qq_ok ⟨rfl, _, .inl ⟨l0, rfl, rfl⟩, rfl⟩)
     ·have hn' := kgCo r b off T.length cap i l.length (rowI l)
      simp only [Int.ofNat_eq_natCast, rowI_nn, Bool.and_true, cond_true] at hn'
      exact (hn' _ _ _ _).trans (qq_ok ⟨rfl, _, .inr ⟨l0, rfl, rfl⟩, rfl⟩)
   ·obtain ⟨rfl, E, hE, rfl⟩ := hq
    refine Go.Ev.Reach.segR (SC_ok r) TOk.nil (tm := .nil) (L := 1) (L' := 1) (d := 1) hF hro h0' [] (fun p hp => nomatch hp) ?_
    generalize hlg2 : kgL T (i + 1) = l at hE
    rcases hE with ⟨l0, rfl, rfl⟩ | ⟨l0, rfl, rfl⟩
    ·have hn' := kgJn r b off T.length cap i
     simp only [Int.ofNat_eq_natCast, w1 i (by omega)] at hn'
     exact (hn' _ _ _ _).trans (qq_ok ⟨T.length - (i + 1), by omega, i + 1, hi', rfl, rfl, _, by rw [hlg2]; exact .inl ⟨l0, rfl, rfl⟩, rfl⟩)
    ·have hn' := kgJo r b off T.length cap i l.length (rowI l)
     simp only [Int.ofNat_eq_natCast, w1 i (by omega), rowI_nn, Bool.and_true, cond_true] at hn'
     exact (hn' _ _ _ _).trans (qq_ok ⟨T.length - (i + 1), by omega, i + 1, hi', rfl, rfl, _, by rw [hlg2]; exact .inr ⟨l0, rfl, rfl⟩, rfl⟩)
 ·rintro vs ms os ⟨rfl, E, rfl, hE⟩
  refine Go.Ev.Reach.segR (SC_ok r) TOk.nil (tm := .nil) (L := 1) (L' := 1) (d := 1) hF hro h0' [] (fun p hp => nomatch hp) ?_
  show run _ _ _ _ _ _ _ (Outs.ask 0 ⟨[2], [], fun vs ms os => ms = [] ∧ ∃ E, vs = [some E] ∧ OkL (kgL T T.length) E os⟩) _ (Outs.ask 0 ⟨[2], [], fun vs ms os => ms = [] ∧ ∃ E, vs = [some E] ∧ OkL (kgL T T.length) E os⟩) _ _ _ _ = _
  generalize hlg : kgL T T.length = l at hE
  rcases hE with ⟨l0, rfl, rfl⟩ | ⟨l0, rfl, rfl⟩
  ·have hn' := kgKn r
   try simp only [cond_true] at hn'
   exact (hn' _ _ _ _).trans (qq_ok ⟨rfl, _, rfl, .inl ⟨l0, rfl, rfl⟩⟩)
  ·have hn' := kgKo r l.length (rowI l)
   try simp only [cond_true, rowI_nn, Bool.and_true, cond_true] at hn'
   exact (hn' _ _ _ _).trans (qq_ok ⟨rfl, _, rfl, .inr ⟨l0, rfl, rfl⟩⟩)
 ·exact (kgA r b off T.length cap _ _ _ _).trans (qq_ok ⟨rfl, rfl, rfl⟩)
end

end Go.Proofs

/- The least bit of a word, run. -/
namespace Go.Proofs
open Go Go.Ev Go.Num
set_option linter.unusedVariables false
set_option linter.unusedSimpArgs false
set_option maxRecDepth 100000

abbrev fY (l : Nat) : Value := .func (.yield l) ⟨[]⟩ ⟨[]⟩
def m_twG (s : Int) : Bool := decide (1 ≤ s ∧ s < 65536)
def m_tw (s : Int) : Int := (tzN 64 s.toNat : Nat)
def eTz : Ent := eU1 m_twG fun x => I (m_tw x)
def tEs : Tbl := tcons 77 eTz fun _ => none

theorem tzA (r : Mem) (s : Int) : (lvlT (SC r) (fun _ => none) .nil 2 4).call 77 [U s] emptyA fin =
    bif s == Int.ofNat 0 then .ret (I (Int.ofNat 64)) (AW.mk 0 .nil .nil) else bif decide (0 ≤ Int.fdiv (m_mulU (ibits BinOp.and IntKind.u64 s (IntKind.wrap .u64 (Int.ofNat 0 - s))) (Int.ofNat 285870213051353865)) (Int.ofNat 288230376151711744)) then bif Nat.blt (Int.toNat (Int.fdiv (m_mulU (ibits BinOp.and IntKind.u64 s (IntKind.wrap .u64 (Int.ofNat 0 - s))) (Int.ofNat 285870213051353865)) (Int.ofNat 288230376151711744))) 64 then Option.casesOn (r 1 (Nat.add 0 (Nat.mul (Int.toNat (Int.fdiv (m_mulU (ibits BinOp.and IntKind.u64 s (IntKind.wrap .u64 (Int.ofNat 0 - s))) (Int.ofNat 285870213051353865)) (Int.ofNat 288230376151711744))) 1))) (.fail 423) fun val => bif isI IntKind.u8 val then .ret (I (IntKind.wrap .i64 (ofI val))) (AW.mk 0 .nil .nil) else .fail 420 else .fail 420 else .fail 420 := by kernel_rfl

end Go.Proofs

/- The least bit of a word: what the call answers. -/
namespace Go.Num
open Go Go.Proofs Go.Ev

def tzI (t : Nat) : Int := Int.fdiv (m_mulU ((2 ^ t : Nat) : Int) (Int.ofNat 285870213051353865)) (Int.ofNat 288230376151711744)
def tzC (t : Nat) : Bool := decide (0 ≤ tzI t) && (Nat.blt (tzI t).toNat 64 && match tabM 1 (Nat.add 0 (Nat.mul (tzI t).toNat 1)) with
 | some (.int .u8 z) => decide (z = (t : Int))
 | _ => false)
theorem tzC_all : ∀ t : Fin 16, tzC t.val = true := by decide +kernel
theorem tz16 {s : Nat} (h : s < 65536) (h0 : s ≠ 0) : tzN 64 s < 16 := by
 obtain ⟨_, h2, _⟩ := tz_bit 64 s (by omega) h0
 rcases Nat.lt_or_ge (tzN 64 s) 16 with c | c
 ·exact c
 ·rw [high (m := 16) (by omega) c] at h2
  exact nomatch h2

end Go.Num
namespace Go.Proofs
open Go Go.Ev Go.Num
set_option linter.unusedVariables false
set_option linter.unusedSimpArgs false
set_option maxRecDepth 100000

theorem tz_ok (r : Mem) (hm : ∀ b j u, tabM b j = some u → r b j = some u) (s : Nat) (h0 : s ≠ 0) (h : s < 65536) : GrT Tryz.prog r 77 [U (s : Nat)] (I (tzN 64 s : Nat)) :=
 GrT.of (SC_ok r) TOk.nil .nil rfl ⟨2, 4, by
  rw [tzA]
  have c1 : ((s : Int) == Int.ofNat 0) = false := by simp; omega
  have e1 : IntKind.wrap IntKind.u64 (Int.ofNat 0 - (s : Int)) = ((2 ^ 64 - s : Nat) : Int) := by rw [wrU]; simp; omega
  have e2 : ibits BinOp.and IntKind.u64 (s : Int) ((2 ^ 64 - s : Nat) : Int) = ((s &&& (2 ^ 64 - s) : Nat) : Int) := (uO (by omega) (by omega)).2.1
  have ht := tz16 h h0
  have hc := tzC_all ⟨tzN 64 s, ht⟩
  rw [c1, cond_false, e1, e2, low_pow 64 s (by omega) h0]
  generalize tzN 64 s = t at ht hc
  unfold tzC at hc
  rw [Bool.and_eq_true, Bool.and_eq_true] at hc
  obtain ⟨d1, d2, d3⟩ := hc
  change decide (0 ≤ tzI t) = true at d1
  change (bif decide (0 ≤ tzI t) then bif Nat.blt (Int.toNat (tzI t)) 64 then Option.casesOn (r 1 (Nat.add 0 (Nat.mul (Int.toNat (tzI t)) 1))) (CR.fail 423) fun val => bif isI IntKind.u8 val then CR.ret (Value.int IntKind.i64 (IntKind.wrap IntKind.i64 (ofI val))) (AW.mk 0 Tr.nil Tr.nil) else CR.fail 420 else CR.fail 420 else CR.fail 420) = _
  rw [d1, cond_true, d2, cond_true]
  split at d3
  ·rename_i z hz
   rw [hm _ _ _ hz]
   have hz' : z = (t : Int) := of_decide_eq_true d3
   subst hz'
   show CR.ret (Value.int IntKind.i64 (IntKind.wrap IntKind.i64 (t : Int))) _ = _
   rw [wrI (by omega)]
   rfl
  ·exact nomatch d3⟩
theorem tEs_ok (r : Mem) (hm : ∀ b j u, tabM b j = some u → r b j = some u) : TOk (SC r) tEs := TOk.cons TOk.nil (eU1_ok fun a ha => by
 have h := of_decide_eq_true ha
 have := tz_ok r hm a.toNat (by omega) (by omega)
 rw [show ((a.toNat : Nat) : Int) = a by omega] at this
 exact this)

end Go.Proofs

/- A walk over the bits of a word, whatever is done in its rounds. -/
namespace Go.Proofs
open Go Go.Ev Go.Num
set_option linter.unusedVariables false
set_option linter.unusedSimpArgs false
set_option maxRecDepth 100000

noncomputable def cEs : Code := bodyOf S0 76
noncomputable def Es_0 : Code := (lc cEs)
noncomputable def Es_1 : Code := (lc (ic (ic (rc cEs))))
noncomputable def Es_2 : Code := (lc (ic (lc (rc (ic (ic (rc cEs)))))))
noncomputable def Es_3 : Code := (rc (ic (lc (rc (ic (ic (rc cEs)))))))
noncomputable def Es_4 : Code := (rc (rc (ic (ic (rc cEs)))))
theorem Es_eq : cEs = (.seq Es_0 (.block 0 (.loop (.seq Es_1 (.seq (.block 1 (.seq Es_2 Es_3)) Es_4))))) := by kernel_rfl
def lvEs : List Nat := [0, 3]
def tEb (l : Nat) (t : Int) : Tr Value := bT lvEs [some (fY l), some (U t)] .nil

theorem ebA (r : Mem) (l p : Nat) (A : AW) (fs : FnsC) (K : KS) (kx : Nat → KS) (kr : KS) : run (SC r) 11 16 1 Es_0 fs none K kx kr (sc0 11 [fY l, .pointer (some ⟨p, 0, none⟩)]) (tr0 11 [fY l, .pointer (some ⟨p, 0, none⟩)]) [] A =
    Option.casesOn (match Tr.get (AW.heap A) p with | some (.cells c elem fam sz) => c[0]? | x => none) (.fail 423) fun val => bif isI IntKind.u64 val then K [(4, U (ofI val))] (.node (.node (.node .nil (some (U (ofI val))) .nil) (some (.pointer (some ⟨p, 0, none⟩))) .nil) (some (.func (Fn.yield l) ⟨[]⟩ ⟨[]⟩)) .nil) [] A else .fail 420 := by kernel_rfl

theorem ebB (r : Mem) (l : Nat) (t : Int) (A : AW) (fs : FnsC) (K : KS) (kx : Nat → KS) (kr : KS) : run (SC r) 11 16 1 Es_1 fs none K kx kr [] (tEb l t) [] A =
    bif t != Int.ofNat 0 then K [(6, .bool true), (5, U t)] (.node (.node (.node .nil (some (U t)) .nil) none .nil) (some (.func (Fn.yield l) ⟨[]⟩ ⟨[]⟩)) .nil) [] A else kx 0 [(6, .bool false), (5, U t)] (.node (.node (.node .nil (some (U t)) .nil) none .nil) (some (.func (Fn.yield l) ⟨[]⟩ ⟨[]⟩)) .nil) [] A := by kernel_rfl

theorem ebC (r : Mem) (l : Nat) (t : Int) (A : AW) (K : KS) : preK (SC r) 11 16 Es_2 3 (lvlT (SC r) tEs .nil 1 2) K [] (tEb l t) [] A =
    bif m_twG t then K [(13, I (m_tw t)), (12, U t), (11, .func (Fn.yield l) ⟨[]⟩ ⟨[]⟩)] (.node (.node (.node .nil (some (U t)) .nil) none .nil) (some (.func (Fn.yield l) ⟨[]⟩ ⟨[]⟩)) .nil) [] A else .fail 420 := by kernel_rfl

theorem ebD (r : Mem) (l : Nat) (t u : Int) (v : Bool) (A : AW) (fs : FnsC) (K : KS) (kx : Nat → KS) (kr : KS) : tailK (SC r) 11 16 Es_2 3 fs (run (SC r) 11 16 1 Es_3 fs none (run (SC r) 11 16 1 Es_4 fs none K kx kr) (fun j => match Nat.beq j 1 with | true => run (SC r) 11 16 1 Es_4 fs none K kx kr | false => kx j) kr) (.bool v) [(13, I u), (12, U t), (11, fY l)] (tEb l t) [] A =
    bif v then K [(10, U (ibits BinOp.and IntKind.u64 t (IntKind.wrap .u64 (t - Int.ofNat 1)))), (9, U (IntKind.wrap .u64 (t - Int.ofNat 1))), (8, U t), (7, U t)] (.node (.node (.node .nil (some (U (ibits BinOp.and IntKind.u64 t (IntKind.wrap .u64 (t - Int.ofNat 1))))) .nil) none .nil) (some (.func (Fn.yield l) ⟨[]⟩ ⟨[]⟩)) .nil) [] A else kr [(15, .bool true), (14, .bool false), (13, I u), (12, U t), (11, .func (Fn.yield l) ⟨[]⟩ ⟨[]⟩)] (.node (.node (.node .nil (some (U t)) .nil) none .nil) (some (.func (Fn.yield l) ⟨[]⟩ ⟨[]⟩)) .nil) [] A := by kernel_rfl

end Go.Proofs

/- A walk over the bits of a word, whatever is done in its rounds: what the call leaves. -/
namespace Go.Proofs
open Go Go.Ev Go.Num
set_option linter.unusedVariables false
set_option linter.unusedSimpArgs false
set_option maxRecDepth 100000

theorem skipTo {J : Nat → OO → Prop} {s : Nat} (hskip : ∀ v os, v < 16 → s.testBit v = false → J v os → J (v + 1) os) {os : OO} : ∀ d v, J v os → (∀ i, v ≤ i → i < v + d → s.testBit i = false) → v + d ≤ 16 → J (v + d) os
 | 0, v, h, _, _ => h
 | d + 1, v, h, hb, hd => by
  rw [show v + (d + 1) = v + 1 + d by omega]
  exact skipTo hskip d (v + 1) (hskip v os (by omega) (hb v (Nat.le_refl _) (by omega)) h) (fun i h1 h2 => hb i (by omega) (by omega)) (by omega)

theorem each_iter (r : Mem) (hm : ∀ b j u, tabM b j = some u → r b j = some u) {l p : Nat} {fl : List Fl} {s : Nat} (hs : s < 65536) {J : Nat → OO → Prop} {E : OO → Prop} {os0 : OO}
  (hbox : ∃ e f z, (mkA os0).heap.get p = some (.cells [U (s : Nat)] e f z))
  (hskip : ∀ v os, v < 16 → s.testBit v = false → J v os → J (v + 1) os)
  (hY : ∀ v os, v < 16 → s.testBit v = true → J v os → YOk (SC r) l [I (v : Nat)] (mkA os) fun w A' => ∃ os', Cn (mkA os0).next fl A' os' ∧ ((w = .bool true ∧ J (v + 1) os') ∨ (w = .bool false ∧ E os')))
  (hE : ∀ os, J 16 os → E os) (h0 : J 0 os0) (hl : oldV (mkA os0) (fY l) = true) :
  SOk (SC r) 76 [fY l, P0 p] (mkA os0) fun v A' => ∃ os, A' = mkA os ∧ E os := by
 obtain ⟨be, bf, bz, hbox⟩ := hbox
 refine callG (SC_ok r) (by kernel_rfl) ((bodySC r _).trans Es_eq) (nt := 16) (by kernel_rfl) (rs := []) (by kernel_rfl) 11 rfl fun γ W F k hw hF hro hfr => ?_
 have ht := TOk.nil (C := SC r)
 have hte := tEs_ok r hm
 have old : ∀ t : Nat, ∀ v, some v ∈ [some (fY l), some (U (t : Nat))] → oldV (mkA os0) v = true := fun t v hv => by
  simp only [List.mem_cons, Option.some.injEq, List.not_mem_nil, or_false] at hv
  rcases hv with rfl | rfl
  ·exact hl
  ·rfl
 refine Go.Ev.Reach.seq (Go.Ev.Reach.mono (Go.Ev.Reach.segP (kn := asks fun st => ∃ sx T, st = ⟨⟨sx, T⟩, [], mkA os0⟩ ∧ lvEs.map T.get = [some (fY l), some (U (s : Nat))]) (kx := fun _ _ _ _ _ => .fail 0) (kr := fun _ _ _ _ => .fail 0) (SC_ok r) ht (tm := .nil) (L := 1) (L' := 1) (d := 1) hF hro ?_) fun ex st hq => ?_)
 ·have hn := ebA r l p (mkA os0)
  simp only [hbox, List.getElem?_cons_zero, show isI IntKind.u64 (U (s : Nat)) = true from rfl, show ofI (U (s : Nat)) = ((s : Nat) : Int) from rfl, cond_true] at hn
  exact (hn _ _ _ _).trans (qq_ok ⟨_, _, rfl, rfl⟩)
 ·cases ex with
  | normal =>
   obtain ⟨sx0, T0, e, hT⟩ : ∃ sx T, st = ⟨⟨sx, T⟩, [], mkA os0⟩ ∧ lvEs.map T.get = [some (fY l), some (U (s : Nat))] := qq_use hq
   subst e
   refine Go.Ev.Reach.block (Go.Ev.Reach.loop (I := fun j st => ∃ v os, j = 16 - v ∧ v ≤ 16 ∧ J v os ∧ Ren (SC r) 11 16 γ W st ⟨⟨[], tEb l (hiN s v : Nat)⟩, [], mkA os⟩) (fun j st ⟨v, os, hj, hv, hJ, hren⟩ => Go.Ev.Reach.pre hren ?_) (j := 16) ⟨0, os0, rfl, by decide, h0, by
    rw [hi_zero]
    exact Ren.world hw (lv := lvEs) (vs := [some (fY l), some (U (s : Nat))]) hT (old _) (RenA.refl _)⟩)
   have hhi : hiN s v < 65536 := Nat.lt_of_le_of_lt (hi_le s v) hs
   refine Go.Ev.Reach.seq (Go.Ev.Reach.mono (Go.Ev.Reach.segP (kn := asks fun st => hiN s v ≠ 0 ∧ ∃ sx, st = ⟨⟨sx, tEb l (hiN s v : Nat)⟩, [], mkA os⟩) (kx := fun i => match i with | 0 => asks fun st => hiN s v = 0 ∧ ∃ sx T, st = ⟨⟨sx, T⟩, [], mkA os⟩ | _ => fun _ _ _ _ => .fail 0) (kr := fun _ _ _ _ => .fail 0) (SC_ok r) ht (tm := .nil) (L := 1) (L' := 1) (d := 1) hF hro ?_) fun ex st hq => ?_)
   ·have hn := ebB r l (hiN s v : Nat) (mkA os)
    by_cases c : hiN s v = 0
    ·have ne : (((hiN s v : Nat) : Int) != Int.ofNat 0) = false := by simp [c]
     simp only [ne, cond_false] at hn
     exact (hn _ _ _ _).trans (qq_ok ⟨c, _, _, rfl⟩)
    ·have ne : (((hiN s v : Nat) : Int) != Int.ofNat 0) = true := by simp [c]
     simp only [ne, cond_true] at hn
     exact (hn _ _ _ _).trans (qq_ok ⟨c, _, rfl⟩)
   ·cases ex with
    | exit i =>
     cases i with
     | zero =>
      obtain ⟨c, sx, T, e⟩ : hiN s v = 0 ∧ ∃ sx T, st = ⟨⟨sx, T⟩, [], mkA os⟩ := qq_use hq
      subst e
      have hE' : E os := hE os (by
       have := skipTo hskip (16 - v) v hJ (fun i h1 _ => hi_none c h1) (by omega)
       rwa [show v + (16 - v) = 16 by omega] at this)
      exact ⟨.inl rfl, _, .tuple ⟨[]⟩, mkA os, Ren.world hw (lv := []) (vs := []) rfl (fun v hv => nomatch hv) (RenA.refl _), rfl, os, rfl, hE'⟩
     | succ i => cases hq
    | normal =>
     obtain ⟨c, sx, e⟩ : hiN s v ≠ 0 ∧ ∃ sx, st = ⟨⟨sx, tEb l (hiN s v : Nat)⟩, [], mkA os⟩ := qq_use hq
     subst e
     obtain ⟨n1, n2, n3, n4, n5⟩ := hi_next (b := 64) (s := s) (v := v) (by omega) c
     have ht16 := tz16 hhi c
     have e6 : m_tw ((hiN s v : Nat) : Int) = ((tzN 64 (hiN s v) : Nat) : Int) := by unfold m_tw; rw [Int.toNat_natCast]
     have hJt : J (tzN 64 (hiN s v)) os := by
      have := skipTo hskip (tzN 64 (hiN s v) - v) v hJ (fun i h1 h2 => n4 i h1 (by omega)) (by omega)
      rwa [show v + (tzN 64 (hiN s v) - v) = tzN 64 (hiN s v) by omega] at this
     have e7 : ibits .and .u64 ((hiN s v : Nat) : Int) (IntKind.wrap .u64 (((hiN s v : Nat) : Int) - Int.ofNat 1)) = ((hiN s (tzN 64 (hiN s v) + 1) : Nat) : Int) := by
      have : IntKind.wrap .u64 (((hiN s v : Nat) : Int) - Int.ofNat 1) = ((hiN s v - 1 : Nat) : Int) := by rw [wrU]; simp; omega
      rw [this, (uO (by omega) (by omega)).2.1, n5]
     generalize htz : tzN 64 (hiN s v) = t at *
     let Pn : St → Prop := fun st => ∃ sx A', st = ⟨⟨sx, tEb l (hiN s (t + 1) : Nat)⟩, [], A'⟩ ∧ ∃ os', Cn (mkA os0).next fl A' os' ∧ J (t + 1) os'
     let Pr : St → Prop := fun st => ∃ sx T A', st = ⟨⟨sx, T⟩, [], A'⟩ ∧ ∃ os', Cn (mkA os0).next fl A' os' ∧ E os'
     refine Go.Ev.Reach.mono (Go.Ev.Reach.first (kn := asks Pn) (kx := fun _ _ _ _ _ => .fail 0) (kr := asks Pr) (SC_ok r) hte (tm := .nil) (L := 1) (L' := 1) (d := 2) hF hro (.seq (.block (.seq .here))) (Go.Ev.Reach.yieldK (SC_ok r) hF hte (tm := .nil) (L := 1) (d := 2) 3 (s1 := [(13, I (t : Nat)), (12, U (hiN s v : Nat)), (11, fY l)]) (b1 := tEb l (hiN s v : Nat)) (ms1 := []) (A1 := mkA os) (A2 := mkA os) (i := l) (args := [I (t : Nat)]) ?_ (by kernel_rfl) (hY t os ht16 n3 hJt) fun w A' hS => ?_)) fun ex st' hq => ?_
     ·have hn := ebC r l (hiN s v : Nat) (mkA os)
      have c2 : m_twG ((hiN s v : Nat) : Int) = true := decide_eq_true ⟨by omega, by omega⟩
      simp only [c2, cond_true, e6] at hn
      exact (hn _).trans (qn_ok rfl)
     ·obtain ⟨os', hcn, hv⟩ := hS
      rcases hv with ⟨rfl, hJ'⟩ | ⟨rfl, hE'⟩
      ·have hn := ebD r l (hiN s v : Nat) (t : Nat) true A'
       simp only [cond_true, e7] at hn
       exact (hn _ _ _ _).trans (qq_ok ⟨_, _, rfl, os', hcn, hJ'⟩)
      ·have hn := ebD r l (hiN s v : Nat) (t : Nat) false A'
       simp only [cond_false] at hn
       exact (hn _ _ _ _).trans (qq_ok ⟨_, _, _, rfl, os', hcn, hE'⟩)
     ·cases ex with
      | normal =>
       obtain ⟨sx, A', e, os', hcn, hJ'⟩ : Pn st' := qq_use hq
       subst e
       exact ⟨16 - (t + 1), by omega, t + 1, os', rfl, by omega, hJ', Ren.world hw (lv := lvEs) (vs := [some (fY l), some (U (hiN s (t + 1) : Nat))]) rfl (old _) (hcn.ren hfr)⟩
      | ret =>
       obtain ⟨sx, T, A', e, os', hcn, hE'⟩ : Pr st' := qq_use hq
       subst e
       exact ⟨.inr rfl, _, .tuple ⟨[]⟩, mkA os', Ren.world hw (lv := []) (vs := []) rfl (fun v hv => nomatch hv) (hcn.ren hfr), rfl, os', rfl, hE'⟩
      | exit i => cases hq
      | _ => exact hq.elim
    | ret => cases hq
    | _ => exact hq.elim
  | exit i => cases hq
  | ret => cases hq
  | _ => exact hq.elim

end Go.Proofs

/- The regatta's kings, run. -/
namespace Go.Proofs
open Go Go.Ev Go.Num
set_option linter.unusedVariables false
set_option linter.unusedSimpArgs false
set_option maxRecDepth 100000

def rgA : Code → Code
 | .rangeFunc _ _ a _ => a
 | c => c
def rgB : Code → Code
 | .rangeFunc _ _ _ b => b
 | c => c
noncomputable def cKG : Code := bodyOf S0 39
noncomputable def KG_0 : Code := (lc cKG)
noncomputable def KG_1 : Code := (lc (rc cKG))
noncomputable def KG_2 : Code := (lc (lc (rc (rc cKG))))
noncomputable def KG_3 : Code := (lc (ic (ic (rc (lc (rc (rc cKG)))))))
noncomputable def KG_4 : Code := (lc (rc (ic (ic (rc (lc (rc (rc cKG))))))))
noncomputable def KG_5 : Code := (lc (ic (lc (rc (rc (ic (ic (rc (lc (rc (rc cKG)))))))))))
noncomputable def KG_6 : Code := (lc (rc (ic (lc (rc (rc (ic (ic (rc (lc (rc (rc cKG))))))))))))
noncomputable def KG_7 : Code := (lc (lc (rc (rc (ic (lc (rc (rc (ic (ic (rc (lc (rc (rc cKG))))))))))))))
noncomputable def KG_8 : Code := (ic (rc (lc (rc (rc (ic (lc (rc (rc (ic (ic (rc (lc (rc (rc cKG)))))))))))))))
noncomputable def KG_9 : Code := (rc (rc (rc (ic (lc (rc (rc (ic (ic (rc (lc (rc (rc cKG)))))))))))))
noncomputable def KG_10 : Code := (rc (rc (rc (ic (ic (rc (lc (rc (rc cKG)))))))))
noncomputable def KG_11 : Code := (rc (rc (rc cKG)))
noncomputable def k_g1 : Code := rgA KG_8
noncomputable def k_g2 : Code := rgB KG_8
noncomputable def KG_b : Code := ic k_g2
theorem KG_eq : cKG = (.seq KG_0 (.seq KG_1 (.seq (.seq KG_2 (.block 0 (.loop (.seq KG_3 (.seq KG_4 (.seq (.block 1 (.seq KG_5 (.seq KG_6 (.seq (.seq KG_7 (.block 2 (.rangeFunc (.tmp 23) #[24] k_g1 k_g2))) KG_9)))) KG_10)))))) KG_11))) := by kernel_rfl
theorem Kb_eq : k_g2 = .block 3 KG_b := by kernel_rfl
abbrev fEk (p : Nat) : Value := .func (.func 76) ⟨[]⟩ ⟨[.pointer (some ⟨p, 0, none⟩)]⟩
def oBt (w : Nat) (i : Nat) : Option AObj := some (.cells [U ((w : Nat) : Int)] 58 i 0)
def lvK : List Nat := [1, 3, 8, 9]
def lvKq : List Nat := [1, 3, 8, 9, 4, 5, 23]
def lvKd : List Nat := [1, 3, 8, 9, 4, 5]
def lvKb : List Nat := [1, 5, 6]
def vK (E : Value) (n i : Nat) : OV := [some (pq 0), some E, some (I (n : Nat)), some (I (i : Nat))]
def vKd (E : Value) (n i p : Nat) : OV := vK E n i ++ [some (I (i : Nat)), some (pq p)]
def vKq (E : Value) (n i p : Nat) : OV := vKd E n i p ++ [some (fEk (p + 1))]
noncomputable def lpK (E : Value) (n i p : Nat) (st : LoopState) : AObj := .loop st none 25166719 ⟨[], bT lvKq (vKq E n i p) .nil⟩ 41 #[24] k_g1 k_g2 (p + 2)
def okDn (c : List Value) (w : Nat) : OO := [oRg c 0] ++ [oBt w 1]
def okQn (c : List Value) (w a : Nat) : OO := okDn c w ++ [oBt a 2]
noncomputable def okLn (c : List Value) (n i : Nat) (w a : Nat) (st : LoopState) : OO := okQn c w a ++ [some .defd, some (lpK (.slice none 0 0) n i 1 st)]
def flQn : List Fl := [.g] ++ [.t, .t]
def flLn : List Fl := flQn ++ [.t, .l lvKq]
def okDo (c : List Value) (q : Nat) (s : List Value) (w : Nat) : OO := [oRg c 0, oIn5 s 1] ++ [oBt w 2]
def okQo (c : List Value) (q : Nat) (s : List Value) (w a : Nat) : OO := okDo c q s w ++ [oBt a 3]
noncomputable def okLo (c : List Value) (n i : Nat) (q : Nat) (s : List Value) (w a : Nat) (st : LoopState) : OO := okQo c q s w a ++ [some .defd, some (lpK (gwT 1 q) n i 2 st)]
def flQo : List Fl := [.g, .g] ++ [.t, .t]
def flLo : List Fl := flQo ++ [.t, .l lvKq]

theorem kfA (r : Mem) (c : List Value) (fs : FnsC) (K : OV → List Nat → OO → CR) (kx : Nat → KS) (kr : KS) : run (SC r) 25166719 41 1 (.seq KG_0 (.seq KG_1 KG_2)) fs none (rbK 0 lvK [] K) kx kr (sc0 25166719 [.agg ⟨c⟩]) (tr0 25166719 [.agg ⟨c⟩]) [] emptyA =
    Option.casesOn c[0]? (.fail 423) fun val => bif isI IntKind.i64 val then bif m_nns c && true then K [some (.pointer (some ⟨0, 0, none⟩)), some (.slice none 0 0), some (I (ofI val)), some (I (Int.ofNat 0))] [] [some (.cells c 61 0 0)] else .fail 420 else .fail 420 := by kernel_rfl

theorem kfBn (r : Mem) (c : List Value) (n i : Nat) (fs : FnsC) (K : OV → List Nat → OO → CR) (KX : Nat → OV → List Nat → OO → CR) (kr : KS) : run (SC r) 25166719 41 1 (.seq KG_3 KG_4) fs none (rbK 0 lvK [] K) (fun j => rbK 0 [3] [] (KX j)) kr [] (bT lvK (vK (.slice none 0 0) n i) .nil) [] (mkA [oRg c 0]) =
    bif decide (Int.ofNat i < Int.ofNat n) then bif m_nns c && true then K [some (.pointer (some ⟨0, 0, none⟩)), some (.slice none 0 0), some (I (Int.ofNat n)), some (I (Int.ofNat i))] [] [some (.cells c 61 0 0)] else .fail 420 else KX 0 [some (.slice none 0 0)] [] [] := by kernel_rfl

theorem kfCn (r : Mem) (c : List Value) (n i : Nat) (K : OV → List Nat → OO → CR) (kx : Nat → KS) (kr : KS) : run (SC r) 25166719 41 1 (.seq KG_5 (.seq KG_6 KG_7)) (lvlT (SC r) (fun _ => none) .nil 1 3) none (rbK 0 lvKq flQn K) kx kr [] (bT lvK (vK (.slice none 0 0) n i) .nil) [] (mkA [oRg c 0]) =
    bif Nat.blt (Int.toNat (Int.ofNat i)) 12 then Option.casesOn c[Nat.add 1 (Nat.mul (Int.toNat (Int.ofNat i)) 1)]? (.fail 423) fun val => bif isI IntKind.u64 val then Option.casesOn c[Nat.add 1 (Nat.mul (Int.toNat (Int.ofNat i)) 1)]? (.fail 423) fun val_1 => bif isI IntKind.u64 val_1 then bif m_eqv (U (ofI val_1)) (U (ofI val)) then Option.casesOn c[Nat.add 1 (Nat.mul (Int.toNat (Int.ofNat i)) 1)]? (.fail 423) fun val_2 => bif isI IntKind.u64 val_2 then bif m_eqv (U (ofI val_2)) (U (ofI val)) then Option.casesOn c[Nat.add 1 (Nat.mul (Int.toNat (Int.ofNat i)) 1)]? (.fail 423) fun val_3 => bif isI IntKind.u64 val_3 then bif m_eqv (U (ofI val_3)) (U (ofI val)) then bif Nat.blt (Int.toNat (Int.ofNat i)) 12 then Option.casesOn c[Nat.add 1 (Nat.mul (Int.toNat (Int.ofNat i)) 1)]? (.fail 423) fun val_4 => bif isI IntKind.u64 val_4 then bif m_nns c && (true && (true && true)) then K [some (.pointer (some ⟨0, 0, none⟩)), some (.slice none 0 0), some (I (Int.ofNat n)), some (I (Int.ofNat i)), some (I (Int.ofNat i)), some (.pointer (some ⟨1, 0, none⟩)), some (.func (Fn.func 76) ⟨[]⟩ ⟨[.pointer (some ⟨2, 0, none⟩)]⟩)] [] [some (.cells c 61 0 0), some (.cells [U (ibits BinOp.or IntKind.u64 (IntKind.wrap .u64 (Int.ofNat 1 * Int.ofNat 2 ^ min (Int.toNat (Int.ofNat i)) 64)) (ofI val))] 58 1 0), some (.cells [U (ofI val_4)] 58 2 0)] else .fail 420 else .fail 420 else .fail 420 else .fail 420 else .fail 420 else .fail 420 else .fail 420 else .fail 420 else .fail 420 else .fail 420 else .fail 420 := by kernel_rfl

theorem kfDn (r : Mem) (c : List Value) (n i : Nat) (w a v : Nat) (fs : FnsC) (K : OV → List Nat → OO → CR) (kx : Nat → KS) (kr : KS) : run (SC r) 25166719 41 1 k_g1 fs (some 4) (begK 4 (rbK 5 lvKb flLn K)) kx kr [] (bT (lvKq ++ [24]) (vKq (.slice none 0 0) n i 1 ++ [some (I (v : Nat))]) .nil) [] (mkA (okLn c n i w a .ready)) =
    bif m_nns c && (true && (true && (true && (true && true)))) then K [some (.pointer (some ⟨0, 0, none⟩)), some (.pointer (some ⟨1, 0, none⟩)), some (I (Int.ofNat v))] [] [some (.cells c 61 0 0), some (.cells [U (Int.ofNat w)] 58 1 0), some (.cells [U (Int.ofNat a)] 58 2 0), some .defd, some ((lpK (.slice none 0 0) n i 1 LoopState.busy))] else .fail 420 := by kernel_rfl

theorem kfEn (r : Mem) (c : List Value) (n i : Nat) (w a v : Nat) (fs : FnsC) (K : OV → List Nat → OO → CR) (kx : Nat → KS) (kr : KS) : run (SC r) 25166719 41 1 KG_b fs (some 4) (rbK 5 [] flLn K) kx kr [] (bT lvKb [some (pq 0), some (pq 1), some (I (v : Nat))] .nil) [] (mkA (okLn c n i w a .busy)) =
    bif Nat.blt (Int.toNat (Int.ofNat v)) 12 then Option.casesOn c[Nat.add 1 (Nat.mul (Int.toNat (Int.ofNat v)) 1)]? (.fail 423) fun val => bif isI IntKind.u64 val then Option.casesOn c[Nat.add 1 (Nat.mul (Int.toNat (Int.ofNat v)) 1)]? (.fail 423) fun val_1 => bif isI IntKind.u64 val_1 then bif m_eqv (U (ofI val_1)) (U (ofI val)) then bif m_eqv (U (Int.ofNat w)) (U (Int.ofNat w)) then bif m_nns c && (true && (true && (true && (true && true)))) then K [] [] [some (.cells c 61 0 0), some (.cells [U (ibits BinOp.or IntKind.u64 (Int.ofNat w) (ofI val))] 58 1 0), some (.cells [U (Int.ofNat a)] 58 2 0), some .defd, some ((lpK (.slice none 0 0) n i 1 LoopState.busy))] else .fail 420 else .fail 420 else .fail 420 else .fail 420 else .fail 420 else .fail 420 := by kernel_rfl

theorem kfTn (r : Mem) (c : List Value) (n i : Nat) (w a : Nat) (K : OV → List Nat → OO → CR) (kx : Nat → KS) (kr : KS) : tailRK 4 ⟨[], bT lvKq (vKq (.slice none 0 0) n i 1) .nil⟩ [3] (rbK 0 lvKd [] K) kx kr (mkA (okLn c n i w a .ready)) =
    bif m_nns c && (m_nns [U (Int.ofNat w)] && true) then K [some (.pointer (some ⟨0, 0, none⟩)), some (.slice none 0 0), some (I (Int.ofNat n)), some (I (Int.ofNat i)), some (I (Int.ofNat i)), some (.pointer (some ⟨1, 0, none⟩))] [] [some (.cells c 61 0 0), some (.cells [U (Int.ofNat w)] 58 1 0)] else .fail 420 := by kernel_rfl

theorem kfFn (r : Mem) (wf : Nat → Nat) (n i : Nat) (w : Nat) (K : OV → List Nat → OO → CR) (kx : Nat → KS) (kr : KS) : run (SC r) 25166719 41 1 KG_9 (lvlT (SC r) (fun _ => none) .nil 1 3) none (rbK 0 lvK [] K) kx kr [] (bT lvKd (vKd (.slice none 0 0) n i 1) .nil) [] (mkA (okDn (rgC n wf) w)) =
    bif Int.ofNat w == IntKind.wrap .u64 (IntKind.wrap .u64 (Int.ofNat 1 * Int.ofNat 2 ^ min (Int.toNat (Int.ofNat n)) 64) - Int.ofNat 1) then bif m_eqv (.agg ⟨(rgC n wf)⟩) (.agg ⟨(rgC n wf)⟩) then bif m_eqv (U (Int.ofNat w)) (U (Int.ofNat w)) then bif m_eqv (U (Int.ofNat w)) (U (Int.ofNat w)) then K [some (.pointer (some ⟨0, 0, none⟩)), some (.slice (some ⟨1, 0, none⟩) 1 unk), some (I (Int.ofNat n)), some (I (Int.ofNat i))] [] [some (.cells (rgC n wf) 61 0 0), some (.cells [I (Int.ofNat i)] 3 1 1)] else .fail 420 else .fail 420 else .fail 420 else bif m_eqv (.agg ⟨(rgC n wf)⟩) (.agg ⟨(rgC n wf)⟩) then bif m_eqv (U (Int.ofNat w)) (U (Int.ofNat w)) then bif m_eqv (U (Int.ofNat w)) (U (Int.ofNat w)) then K [some (.pointer (some ⟨0, 0, none⟩)), some (.slice none 0 0), some (I (Int.ofNat n)), some (I (Int.ofNat i))] [] [some (.cells (rgC n wf) 61 0 0)] else .fail 420 else .fail 420 else .fail 420 := by kernel_rfl

theorem kfGn (r : Mem) (c : List Value) (n i : Nat) (fs : FnsC) (K : OV → List Nat → OO → CR) (kx : Nat → KS) (kr : KS) : run (SC r) 25166719 41 1 KG_10 fs none (rbK 0 lvK [] K) kx kr [] (bT lvK (vK (.slice none 0 0) n i) .nil) [] (mkA [oRg c 0]) =
    bif m_nns c && true then K [some (.pointer (some ⟨0, 0, none⟩)), some (.slice none 0 0), some (I (Int.ofNat n)), some (I (IntKind.wrap .i64 (Int.ofNat i + Int.ofNat 1)))] [] [some (.cells c 61 0 0)] else .fail 420 := by kernel_rfl

theorem kfHn (r : Mem) (fs : FnsC) (K KR : OV → List Nat → OO → CR) (kx : Nat → KS) : run (SC r) 25166719 41 1 KG_11 fs none (rbK 0 [2] [] K) kx (rbK 0 [2] [] KR) [] (bT [3] [some (.slice none 0 0)] .nil) [] (mkA []) =
    KR [some (.slice none 0 0)] [] [] := by kernel_rfl

theorem kfBo (r : Mem) (c : List Value) (n i : Nat) (q : Nat) (s : List Value) (fs : FnsC) (K : OV → List Nat → OO → CR) (KX : Nat → OV → List Nat → OO → CR) (kr : KS) : run (SC r) 25166719 41 1 (.seq KG_3 KG_4) fs none (rbK 0 lvK [] K) (fun j => rbK 0 [3] [] (KX j)) kr [] (bT lvK (vK (gwT 1 q) n i) .nil) [] (mkA [oRg c 0, oIn5 s 1]) =
    bif decide (Int.ofNat i < Int.ofNat n) then bif m_nns c && (m_nns s && true) then K [some (.pointer (some ⟨0, 0, none⟩)), some (.slice (some ⟨1, 0, none⟩) q unk), some (I (Int.ofNat n)), some (I (Int.ofNat i))] [] [some (.cells c 61 0 0), some (.cells s 3 1 1)] else .fail 420 else bif m_nns s && true then KX 0 [some (.slice (some ⟨0, 0, none⟩) q unk)] [] [some (.cells s 3 0 1)] else .fail 420 := by kernel_rfl

theorem kfCo (r : Mem) (c : List Value) (n i : Nat) (q : Nat) (s : List Value) (K : OV → List Nat → OO → CR) (kx : Nat → KS) (kr : KS) : run (SC r) 25166719 41 1 (.seq KG_5 (.seq KG_6 KG_7)) (lvlT (SC r) (fun _ => none) .nil 1 3) none (rbK 0 lvKq flQo K) kx kr [] (bT lvK (vK (gwT 1 q) n i) .nil) [] (mkA [oRg c 0, oIn5 s 1]) =
    bif Nat.blt (Int.toNat (Int.ofNat i)) 12 then Option.casesOn c[Nat.add 1 (Nat.mul (Int.toNat (Int.ofNat i)) 1)]? (.fail 423) fun val => bif isI IntKind.u64 val then Option.casesOn c[Nat.add 1 (Nat.mul (Int.toNat (Int.ofNat i)) 1)]? (.fail 423) fun val_1 => bif isI IntKind.u64 val_1 then bif m_eqv (U (ofI val_1)) (U (ofI val)) then Option.casesOn c[Nat.add 1 (Nat.mul (Int.toNat (Int.ofNat i)) 1)]? (.fail 423) fun val_2 => bif isI IntKind.u64 val_2 then bif m_eqv (U (ofI val_2)) (U (ofI val)) then Option.casesOn c[Nat.add 1 (Nat.mul (Int.toNat (Int.ofNat i)) 1)]? (.fail 423) fun val_3 => bif isI IntKind.u64 val_3 then bif m_eqv (U (ofI val_3)) (U (ofI val)) then bif Nat.blt (Int.toNat (Int.ofNat i)) 12 then Option.casesOn c[Nat.add 1 (Nat.mul (Int.toNat (Int.ofNat i)) 1)]? (.fail 423) fun val_4 => bif isI IntKind.u64 val_4 then bif m_nns c && (m_nns s && (true && (true && true))) then K [some (.pointer (some ⟨0, 0, none⟩)), some (.slice (some ⟨1, 0, none⟩) q unk), some (I (Int.ofNat n)), some (I (Int.ofNat i)), some (I (Int.ofNat i)), some (.pointer (some ⟨2, 0, none⟩)), some (.func (Fn.func 76) ⟨[]⟩ ⟨[.pointer (some ⟨3, 0, none⟩)]⟩)] [] [some (.cells c 61 0 0), some (.cells s 3 1 1), some (.cells [U (ibits BinOp.or IntKind.u64 (IntKind.wrap .u64 (Int.ofNat 1 * Int.ofNat 2 ^ min (Int.toNat (Int.ofNat i)) 64)) (ofI val))] 58 2 0), some (.cells [U (ofI val_4)] 58 3 0)] else .fail 420 else .fail 420 else .fail 420 else .fail 420 else .fail 420 else .fail 420 else .fail 420 else .fail 420 else .fail 420 else .fail 420 else .fail 420 := by kernel_rfl

theorem kfDo (r : Mem) (c : List Value) (n i : Nat) (q : Nat) (s : List Value) (w a v : Nat) (fs : FnsC) (K : OV → List Nat → OO → CR) (kx : Nat → KS) (kr : KS) : run (SC r) 25166719 41 1 k_g1 fs (some 5) (begK 5 (rbK 6 lvKb flLo K)) kx kr [] (bT (lvKq ++ [24]) (vKq (gwT 1 q) n i 2 ++ [some (I (v : Nat))]) .nil) [] (mkA (okLo c n i q s w a .ready)) =
    bif m_nns c && (m_nns s && (true && (true && (true && (true && true))))) then K [some (.pointer (some ⟨0, 0, none⟩)), some (.pointer (some ⟨2, 0, none⟩)), some (I (Int.ofNat v))] [] [some (.cells c 61 0 0), some (.cells s 3 1 1), some (.cells [U (Int.ofNat w)] 58 2 0), some (.cells [U (Int.ofNat a)] 58 3 0), some .defd, some ((lpK (gwT 1 q) n i 2 LoopState.busy))] else .fail 420 := by kernel_rfl

theorem kfEo (r : Mem) (c : List Value) (n i : Nat) (q : Nat) (s : List Value) (w a v : Nat) (fs : FnsC) (K : OV → List Nat → OO → CR) (kx : Nat → KS) (kr : KS) : run (SC r) 25166719 41 1 KG_b fs (some 5) (rbK 6 [] flLo K) kx kr [] (bT lvKb [some (pq 0), some (pq 2), some (I (v : Nat))] .nil) [] (mkA (okLo c n i q s w a .busy)) =
    bif Nat.blt (Int.toNat (Int.ofNat v)) 12 then Option.casesOn c[Nat.add 1 (Nat.mul (Int.toNat (Int.ofNat v)) 1)]? (.fail 423) fun val => bif isI IntKind.u64 val then Option.casesOn c[Nat.add 1 (Nat.mul (Int.toNat (Int.ofNat v)) 1)]? (.fail 423) fun val_1 => bif isI IntKind.u64 val_1 then bif m_eqv (U (ofI val_1)) (U (ofI val)) then bif m_eqv (U (Int.ofNat w)) (U (Int.ofNat w)) then bif m_nns c && (m_nns s && (true && (true && (true && (true && true))))) then K [] [] [some (.cells c 61 0 0), some (.cells s 3 1 1), some (.cells [U (ibits BinOp.or IntKind.u64 (Int.ofNat w) (ofI val))] 58 2 0), some (.cells [U (Int.ofNat a)] 58 3 0), some .defd, some ((lpK (gwT 1 q) n i 2 LoopState.busy))] else .fail 420 else .fail 420 else .fail 420 else .fail 420 else .fail 420 else .fail 420 := by kernel_rfl

theorem kfTo (r : Mem) (c : List Value) (n i : Nat) (q : Nat) (s : List Value) (w a : Nat) (K : OV → List Nat → OO → CR) (kx : Nat → KS) (kr : KS) : tailRK 5 ⟨[], bT lvKq (vKq (gwT 1 q) n i 2) .nil⟩ [4] (rbK 0 lvKd [] K) kx kr (mkA (okLo c n i q s w a .ready)) =
    bif m_nns c && (m_nns s && (m_nns [U (Int.ofNat w)] && true)) then K [some (.pointer (some ⟨0, 0, none⟩)), some (.slice (some ⟨1, 0, none⟩) q unk), some (I (Int.ofNat n)), some (I (Int.ofNat i)), some (I (Int.ofNat i)), some (.pointer (some ⟨2, 0, none⟩))] [] [some (.cells c 61 0 0), some (.cells s 3 1 1), some (.cells [U (Int.ofNat w)] 58 2 0)] else .fail 420 := by kernel_rfl

theorem kfFo (r : Mem) (wf : Nat → Nat) (n i : Nat) (q : Nat) (s : List Value) (w : Nat) (K : OV → List Nat → OO → CR) (kx : Nat → KS) (kr : KS) : run (SC r) 25166719 41 1 KG_9 (lvlT (SC r) (fun _ => none) .nil 1 3) none (rbK 0 lvK [] K) kx kr [] (bT lvKd (vKd (gwT 1 q) n i 2) .nil) [] (mkA (okDo (rgC n wf) q s w)) =
    bif Int.ofNat w == IntKind.wrap .u64 (IntKind.wrap .u64 (Int.ofNat 1 * Int.ofNat 2 ^ min (Int.toNat (Int.ofNat n)) 64) - Int.ofNat 1) then bif m_eqv (.agg ⟨(rgC n wf)⟩) (.agg ⟨(rgC n wf)⟩) then bif m_eqv (U (Int.ofNat w)) (U (Int.ofNat w)) then bif m_eqv (U (Int.ofNat w)) (U (Int.ofNat w)) then bif Nat.ble (Nat.add q 1) 1000000 then Option.casesOn (takeAt s 0 (Nat.mul q 1)) (.fail 439) fun val => bif m_nns (rgC n wf) && (m_nns (val ++ [I (Int.ofNat i)]) && true) then K [some (.pointer (some ⟨0, 0, none⟩)), some (.slice (some ⟨1, 0, none⟩) (Nat.add q 1) unk), some (I (Int.ofNat n)), some (I (Int.ofNat i))] [] [some (.cells (rgC n wf) 61 0 0), some (.cells (val ++ [I (Int.ofNat i)]) 3 1 1)] else .fail 420 else .fail 420 else .fail 420 else .fail 420 else .fail 420 else bif m_eqv (.agg ⟨(rgC n wf)⟩) (.agg ⟨(rgC n wf)⟩) then bif m_eqv (U (Int.ofNat w)) (U (Int.ofNat w)) then bif m_eqv (U (Int.ofNat w)) (U (Int.ofNat w)) then bif m_nns (rgC n wf) && (m_nns s && true) then K [some (.pointer (some ⟨0, 0, none⟩)), some (.slice (some ⟨1, 0, none⟩) q unk), some (I (Int.ofNat n)), some (I (Int.ofNat i))] [] [some (.cells (rgC n wf) 61 0 0), some (.cells s 3 1 1)] else .fail 420 else .fail 420 else .fail 420 else .fail 420 := by kernel_rfl

theorem kfGo (r : Mem) (c : List Value) (n i : Nat) (q : Nat) (s : List Value) (fs : FnsC) (K : OV → List Nat → OO → CR) (kx : Nat → KS) (kr : KS) : run (SC r) 25166719 41 1 KG_10 fs none (rbK 0 lvK [] K) kx kr [] (bT lvK (vK (gwT 1 q) n i) .nil) [] (mkA [oRg c 0, oIn5 s 1]) =
    bif m_nns c && (m_nns s && true) then K [some (.pointer (some ⟨0, 0, none⟩)), some (.slice (some ⟨1, 0, none⟩) q unk), some (I (Int.ofNat n)), some (I (IntKind.wrap .i64 (Int.ofNat i + Int.ofNat 1)))] [] [some (.cells c 61 0 0), some (.cells s 3 1 1)] else .fail 420 := by kernel_rfl

theorem kfHo (r : Mem) (q : Nat) (s : List Value) (fs : FnsC) (K KR : OV → List Nat → OO → CR) (kx : Nat → KS) : run (SC r) 25166719 41 1 KG_11 fs none (rbK 0 [2] [] K) kx (rbK 0 [2] [] KR) [] (bT [3] [some (gwT 0 q)] .nil) [] (mkA [oIn5 s 0]) =
    bif m_nns s && true then KR [some (.slice (some ⟨0, 0, none⟩) q unk)] [] [some (.cells s 3 0 1)] else .fail 420 := by kernel_rfl

end Go.Proofs

/- The regatta's kings: what the call answers. -/
namespace Go.Proofs
open Go Go.Ev Go.Num
set_option linter.unusedVariables false
set_option linter.unusedSimpArgs false
set_option maxRecDepth 100000

def kgW (T : List (List Bool)) (i : Nat) : Nat → Nat
 | 0 => 2 ^ i ||| wdR T i T.length
 | v + 1 => kgW T i v ||| (if (wdR T i T.length).testBit v = true then wdR T v T.length else 0)
theorem kgW_lt (T : List (List Bool)) {i : Nat} (hi : i < T.length) : ∀ v, kgW T i v < 2 ^ T.length
 | 0 => Nat.or_lt_two_pow (Nat.pow_lt_pow_right (by decide) hi) (wdR_lt T i T.length)
 | v + 1 => by
  rw [kgW]
  refine Nat.or_lt_two_pow (kgW_lt T hi v) ?_
  split
  ·exact wdR_lt T v T.length
  ·exact Nat.two_pow_pos _
theorem kgW_bit (T : List (List Bool)) (i k : Nat) (hk : k < T.length) : ∀ v, v ≤ T.length → (kgW T i v).testBit k = reR T i k v
 | 0, _ => by
  rw [kgW, reR, Nat.testBit_or, wdR_bit, Nat.testBit_two_pow]
  by_cases c : i = k
  ·subst c; simp
  ·simp [c, hk]
 | v + 1, hv => by
  rw [kgW, reR, Nat.testBit_or, kgW_bit T i k hk v (by omega), wdR_bit]
  congr 1
  by_cases c : gT T i v = true
  ·rw [if_pos (by simp [c]; omega), wdR_bit, c]
   simp [hk]
  ·rw [if_neg (by simp [c])]
   simp at c
   simp [c]
theorem kgW_hi (T : List (List Bool)) (i : Nat) : ∀ d, kgW T i (T.length + d) = kgW T i T.length
 | 0 => rfl
 | d + 1 => by
  rw [show T.length + (d + 1) = (T.length + d) + 1 by omega, kgW, kgW_hi T i d, wdR_bit, if_neg (by simp; omega), Nat.or_zero]
theorem kgR_all (T : List (List Bool)) (i : Nat) : ∀ k, kgR T i k = true ↔ ∀ j, j < k → reR T i j T.length = true
 | 0 => ⟨fun _ j h => by omega, fun _ => rfl⟩
 | k + 1 => by
  rw [kgR, Bool.and_eq_true, kgR_all T i k]
  constructor
  ·rintro ⟨h1, h2⟩ j hj
   by_cases c : j = k
   ·subst c; exact h2
   ·exact h1 j (by omega)
  ·exact fun h => ⟨fun j hj => h j (by omega), h k (by omega)⟩
theorem kgW_all (T : List (List Bool)) (i : Nat) (hi : i < T.length) (hn : T.length ≤ 16) : (kgW T i 16 == 2 ^ T.length - 1) = kgR T i T.length := by
 have e : kgW T i 16 = kgW T i T.length := by
  have := kgW_hi T i (16 - T.length)
  rwa [show T.length + (16 - T.length) = 16 by omega] at this
 rw [e, Bool.eq_iff_iff, beq_iff_eq, kgR_all]
 constructor
 ·intro h j hj
  rw [← kgW_bit T i j hj _ (Nat.le_refl _), h, Nat.testBit_two_pow_sub_one]
  simpa using hj
 ·intro h
  apply Nat.eq_of_testBit_eq
  intro j
  rw [Nat.testBit_two_pow_sub_one]
  by_cases c : j < T.length
  ·rw [kgW_bit T i j c _ (Nat.le_refl _), h j c, decide_eq_true c]
  ·rw [decide_eq_false c]
   exact high (kgW_lt T hi _) (by omega)
def cT (T : List (List Bool)) : List Value := rgC T.length (wdP T T.length 0)
theorem cT_nn (T : List (List Bool)) : m_nns (cT T) = true := rgC_nn _ _
theorem cT_get {T : List (List Bool)} (hn : T.length ≤ 12) {v : Nat} (hv : v < T.length) : (cT T)[Nat.add 1 (Nat.mul v 1)]? = some (U ((wdR T v T.length : Nat) : Int)) := by
 rw [show Nat.add 1 (Nat.mul v 1) = 1 + v by simp]
 exact (rgC_get (by omega)).trans (by rw [wdP, if_pos hv])
theorem w16 {T : List (List Bool)} (hn : T.length ≤ 12) (v : Nat) : wdR T v T.length < 65536 := Nat.lt_of_lt_of_le (wdR_lt T v T.length) (Nat.le_trans (Nat.pow_le_pow_right (by decide) hn) (by decide))
noncomputable def oLn (T : List (List Bool)) (i : Nat) (w a : Nat) (st : LoopState) : OO := okLn (cT T) T.length i w a st
theorem oLn_cn (T : List (List Bool)) (i : Nat) (w a : Nat) : Cn 5 flLn (mkA (oLn T i w a .ready)) (oLn T i w a .ready) := ⟨by kernel_rfl, by
 have h : gdAs flLn (oLn T i w a .ready) = (m_nns (cT T) && (true && (true && (true && (true && true))))) := by kernel_rfl
 simp only [h, cT_nn T, Bool.and_self]⟩
theorem oLn_end (T : List (List Bool)) (i : Nat) (w a : Nat) : endR 4 none (St.of [] [] [] (oLn T i w a .busy)) = .ret (.bool true) (mkA (oLn T i w a .ready)) := by kernel_rfl
theorem yKn {r : Mem} {T : List (List Bool)} (hn : T.length ≤ 12) {i : Nat} {w v : Nat} (a : Nat) (hw : w < 65536) (hv : v < T.length) {P E : OO → Prop} (hP : P (oLn T i (w ||| wdR T v T.length) a .ready)) :
  YOk (SC r) 4 [I (v : Nat)] (mkA (oLn T i w a .ready)) fun x A' => ∃ os', Cn 5 flLn A' os' ∧ ((x = .bool true ∧ P os') ∨ (x = .bool false ∧ E os')) := by
 have hnx : (mkA (oLn T i w a .ready)).next = 5 := by kernel_rfl
 have hv16 := w16 hn v
 refine YOk.of (SC_ok r) (i := 4) (st := .ready) (pend := none) (m := 25166719) (n := 41) (en := ⟨[], bT lvKq (vKq (.slice none 0 0) T.length i 1) .nil⟩) (params := #[24]) (assign := k_g1) (body := k_g2) (d := 1 + 2) (by kernel_rfl) (s0 := []) (b0 := bT (lvKq ++ [24]) (vKq (.slice none 0 0) T.length i 1 ++ [some (I (v : Nat))]) .nil) (by kernel_rfl) TOk.nil (tm := .nil) (L := 1) (L' := 1) (d' := 3)
  ⟨lvKb, flLn, fun vs ms os => vs = [some (pq 0), some (pq 1), some (I (v : Nat))] ∧ ms = [] ∧ os = oLn T i w a .busy⟩
  ⟨[], flLn, fun vs ms os => vs = [] ∧ ms = [] ∧ os = oLn T i (w ||| wdR T v T.length) a .busy⟩
  (fun _ => Outs.no) Outs.no ?_ ?_ ?_ ?_ ?_
 ·rw [hnx]
  have hn' := kfDn r (cT T) T.length i w a v
  simp only [cT_nn T, Bool.and_self, Bool.and_true, cond_true] at hn'
  exact (hn' _ _ _ _).trans (qq_ok ⟨rfl, rfl, rfl⟩)
 ·rintro F k γ W hF hro h0 vs ms os ⟨rfl, rfl, rfl⟩
  rw [hnx] at h0
  rw [Kb_eq]
  refine Go.Ev.Reach.blockC (Go.Ev.Reach.segR (SC_ok r) TOk.nil (tm := .nil) (L := 1) (L' := 1) (d := 3) hF hro h0 [] (fun p hp => nomatch hp) ?_)
  have hn' := kfEn r (cT T) T.length i w a v
  have e2 : ibits .or .u64 ((w : Nat) : Int) ((wdR T v T.length : Nat) : Int) = ((w ||| wdR T v T.length : Nat) : Int) := (uO (by omega) (by omega)).1
  have b1 : Nat.blt v 12 = true := Nat.ble_eq_true_of_le (by omega)
  simp only [Int.ofNat_eq_natCast, Int.toNat_natCast, b1, cond_true, cT_get hn hv, isU_U] at hn'
  dsimp +instances only [ofI_U] at hn'
  simp only [eqv_u, cond_true, e2, cT_nn T, Bool.and_self, Bool.and_true] at hn'
  exact (hn' _ _ _ _).trans (qq_ok ⟨rfl, rfl, rfl⟩)
 ·rintro vs ms os ⟨rfl, rfl, rfl⟩
  exact ⟨_, _, oLn_end _ _ _ _, _, oLn_cn _ _ _ _, .inl ⟨rfl, hP⟩⟩
 ·rintro id vs ms os hf
  exact hf.elim
 ·rintro vs ms os hf
  exact hf.elim
noncomputable def oLo (T : List (List Bool)) (i : Nat) (l : List Int) (w a : Nat) (st : LoopState) : OO := okLo (cT T) T.length i l.length (rowI l) w a st
theorem oLo_cn (T : List (List Bool)) (i : Nat) (l : List Int) (w a : Nat) : Cn 6 flLo (mkA (oLo T i l w a .ready)) (oLo T i l w a .ready) := ⟨by kernel_rfl, by
 have h : gdAs flLo (oLo T i l w a .ready) = (m_nns (cT T) && (m_nns (rowI l) && (true && (true && (true && (true && true)))))) := by kernel_rfl
 simp only [h, cT_nn T, rowI_nn, Bool.and_self]⟩
theorem oLo_end (T : List (List Bool)) (i : Nat) (l : List Int) (w a : Nat) : endR 5 none (St.of [] [] [] (oLo T i l w a .busy)) = .ret (.bool true) (mkA (oLo T i l w a .ready)) := by kernel_rfl
theorem yKo {r : Mem} {T : List (List Bool)} (hn : T.length ≤ 12) {i : Nat} (l : List Int) {w v : Nat} (a : Nat) (hw : w < 65536) (hv : v < T.length) {P E : OO → Prop} (hP : P (oLo T i l (w ||| wdR T v T.length) a .ready)) :
  YOk (SC r) 5 [I (v : Nat)] (mkA (oLo T i l w a .ready)) fun x A' => ∃ os', Cn 6 flLo A' os' ∧ ((x = .bool true ∧ P os') ∨ (x = .bool false ∧ E os')) := by
 have hnx : (mkA (oLo T i l w a .ready)).next = 6 := by kernel_rfl
 have hv16 := w16 hn v
 refine YOk.of (SC_ok r) (i := 5) (st := .ready) (pend := none) (m := 25166719) (n := 41) (en := ⟨[], bT lvKq (vKq (gwT 1 l.length) T.length i 2) .nil⟩) (params := #[24]) (assign := k_g1) (body := k_g2) (d := 2 + 2) (by kernel_rfl) (s0 := []) (b0 := bT (lvKq ++ [24]) (vKq (gwT 1 l.length) T.length i 2 ++ [some (I (v : Nat))]) .nil) (by kernel_rfl) TOk.nil (tm := .nil) (L := 1) (L' := 1) (d' := 3)
  ⟨lvKb, flLo, fun vs ms os => vs = [some (pq 0), some (pq 2), some (I (v : Nat))] ∧ ms = [] ∧ os = oLo T i l w a .busy⟩
  ⟨[], flLo, fun vs ms os => vs = [] ∧ ms = [] ∧ os = oLo T i l (w ||| wdR T v T.length) a .busy⟩
  (fun _ => Outs.no) Outs.no ?_ ?_ ?_ ?_ ?_
 ·rw [hnx]
  have hn' := kfDo r (cT T) T.length i l.length (rowI l) w a v
  simp only [cT_nn T, rowI_nn, Bool.and_self, Bool.and_true, cond_true] at hn'
  exact (hn' _ _ _ _).trans (qq_ok ⟨rfl, rfl, rfl⟩)
 ·rintro F k γ W hF hro h0 vs ms os ⟨rfl, rfl, rfl⟩
  rw [hnx] at h0
  rw [Kb_eq]
  refine Go.Ev.Reach.blockC (Go.Ev.Reach.segR (SC_ok r) TOk.nil (tm := .nil) (L := 1) (L' := 1) (d := 3) hF hro h0 [] (fun p hp => nomatch hp) ?_)
  have hn' := kfEo r (cT T) T.length i l.length (rowI l) w a v
  have e2 : ibits .or .u64 ((w : Nat) : Int) ((wdR T v T.length : Nat) : Int) = ((w ||| wdR T v T.length : Nat) : Int) := (uO (by omega) (by omega)).1
  have b1 : Nat.blt v 12 = true := Nat.ble_eq_true_of_le (by omega)
  simp only [Int.ofNat_eq_natCast, Int.toNat_natCast, b1, cond_true, cT_get hn hv, isU_U] at hn'
  dsimp +instances only [ofI_U] at hn'
  simp only [eqv_u, cond_true, e2, cT_nn T, rowI_nn, Bool.and_self, Bool.and_true] at hn'
  exact (hn' _ _ _ _).trans (qq_ok ⟨rfl, rfl, rfl⟩)
 ·rintro vs ms os ⟨rfl, rfl, rfl⟩
  exact ⟨_, _, oLo_end _ _ _ _ _, _, oLo_cn _ _ _ _ _, .inl ⟨rfl, hP⟩⟩
 ·rintro id vs ms os hf
  exact hf.elim
 ·rintro vs ms os hf
  exact hf.elim
end Go.Proofs

/- The regatta's kings: what the call answers, at last. -/
namespace Go.Proofs
open Go Go.Ev Go.Num
set_option linter.unusedVariables false
set_option linter.unusedSimpArgs false
set_option maxRecDepth 100000

def OkK (T : List (List Bool)) (l : List Int) (E : Value) (os : OO) : Prop := (l = [] ∧ E = nilT ∧ os = [oRg (cT T) 0]) ∨ (l ≠ [] ∧ E = gwT 1 l.length ∧ os = [oRg (cT T) 0, oIn5 (rowI l) 1])
theorem all_eq {n w : Nat} (hn : n < 16) : (((w : Nat) : Int) == IntKind.wrap IntKind.u64 (IntKind.wrap IntKind.u64 (Int.ofNat 1 * Int.ofNat 2 ^ min n 64) - Int.ofNat 1)) = (w == 2 ^ n - 1) := by
 have h1 : 2 ^ n < 65536 := Nat.pow_lt_pow_right (n := 16) (by decide) hn
 have h0 := Nat.two_pow_pos n
 rw [shl1 hn, wrU]
 generalize 2 ^ n = x at *
 rw [Bool.eq_iff_iff]
 simp
 omega
theorem rgC_eqv (n : Nat) (w : Nat → Nat) : m_eqv (.agg ⟨rgC n w⟩) (.agg ⟨rgC n w⟩) = true := by simp [m_eqv, veq, veqs, rgC, List.range, List.range.loop]
theorem nnU (x : Int) : m_nns [U x] = true := rfl
section
variable {r : Mem} {T : List (List Bool)}
theorem kf_S (hm : ∀ b j u, tabM b j = some u → r b j = some u) (hn : T.length ≤ 12) : SOk (SC r) 39 [.agg ⟨cT T⟩] emptyA fun v A => ∃ os, OkL (kgL T T.length) v os ∧ A = mkA os := by
 let E0 : Outs := ⟨[2], [], fun vs ms os => ms = [] ∧ ∃ E, vs = [some E] ∧ OkL (kgL T T.length) E os⟩
 refine callO (SC_ok r) (by kernel_rfl) ((bodySC r _).trans KG_eq) (nt := 41) (by kernel_rfl) (rs := [.tmp 2]) (by kernel_rfl) 25166719 rfl E0 ?_ fun γ W F kk hwr hF hro h0' => ?_
 ·rintro vs ms os ⟨rfl, E, rfl, hE⟩
  generalize kgL T T.length = l at hE
  rcases hE with ⟨l0, rfl, rfl⟩ | ⟨l0, rfl, rfl⟩
  ·exact ⟨_, mkA [], by kernel_rfl, [], .inl ⟨l0, rfl, rfl⟩, rfl⟩
  ·exact ⟨_, mkA [oIn5 (rowI l) 0], by kernel_rfl, _, .inr ⟨l0, rfl, rfl⟩, rfl⟩
 have h0' : ∀ i, 0 ≤ i → γ i = none := h0'
 have w1 : ∀ k : Nat, k ≤ 1000 → IntKind.wrap IntKind.i64 ((k : Int) + ((1 : Nat) : Int)) = ((k + 1 : Nat) : Int) := fun k hk => inc1' (by omega)
 have e00 : (cT T)[0]? = some (I (T.length : Nat)) := rfl
 let X0 : Outs := ⟨[3], [], fun vs ms os => ms = [] ∧ ∃ E, vs = [some E] ∧ OkL (kgL T T.length) E os⟩
 refine Go.Ev.Reach.after3R (SC_ok r) TOk.nil (tm := .nil) (L := 1) (L' := 1) (d := 1) hF hro h0' (.step (.step .base))
  (o1 := ⟨lvK, [], fun vs ms os => vs = vK nilT T.length 0 ∧ ms = [] ∧ os = [oRg (cT T) 0]⟩)
  (o2 := X0) [] (fun p hp => nomatch hp) ?_ ?_ ?_
 ·rintro vs ms os ⟨rfl, rfl, rfl⟩
  refine Go.Ev.Reach.blockC (Go.Ev.Reach.loopC (j := T.length) (lv := lvK) (fl := []) (I := fun j vs ms os => ∃ i : Nat, i ≤ T.length ∧ j = T.length - i ∧ ms = [] ∧ ∃ E, OkK T (kgL T i) E os ∧ vs = vK E T.length i) (fun j vs ms os hI => ?_) ⟨0, by omega, rfl, rfl, nilT, .inl ⟨rfl, rfl, rfl⟩, rfl⟩)
  obtain ⟨i, hi, rfl, rfl, E, hE, rfl⟩ := hI
  have hll := kgL_len T i
  generalize hlg : kgL T i = l at hE hll
  refine Go.Ev.Reach.afterR (SC_ok r) TOk.nil (tm := .nil) (L := 1) (L' := 1) (d := 1) hF hro h0' (.step .base) (o1 := ⟨lvK, [], fun vs ms os => i < T.length ∧ ms = [] ∧ ∃ E, OkK T l E os ∧ vs = vK E T.length i⟩) [(0, ⟨[3], [], fun vs ms os => ms = [] ∧ ∃ E, vs = [some E] ∧ OkL (kgL T T.length) E os⟩)] (fun p hp => by simp only [List.mem_cons, List.not_mem_nil, or_false] at hp; subst hp; rfl) ?_ ?_
  ·rintro vs ms os ⟨hi', rfl, E, hE, rfl⟩
   have hkl : kgL T (i + 1) = if kgR T i T.length then l ++ [(i : Int)] else l := by rw [kgL, hlg]
   have hb12 : Nat.blt i 12 = true := Nat.ble_eq_true_of_le (by omega)
   have h2i : 2 ^ i < 65536 := Nat.pow_lt_pow_right (n := 16) (by decide) (by omega)
   have hwi := w16 hn i
   have h16 : 2 ^ T.length ≤ 65536 := Nat.le_trans (Nat.pow_le_pow_right (by decide) hn) (by decide)
   have eor : ibits .or .u64 ((2 ^ i : Nat) : Int) ((wdR T i T.length : Nat) : Int) = ((kgW T i 0 : Nat) : Int) := (uO (by omega) (by omega)).1
   have hall := kgW_all T i hi' (by omega)
   refine Go.Ev.Reach.seqC (o1 := ⟨lvK, [], fun vs ms os => ms = [] ∧ ∃ E, OkK T (kgL T (i + 1)) E os ∧ vs = vK E T.length i⟩) (Go.Ev.Reach.blockC ?_) fun vs ms os hq => ?_
   ·rcases hE with ⟨l0, rfl, rfl⟩ | ⟨l0, rfl, rfl⟩
    ·refine Go.Ev.Reach.after3R (SC_ok r) TOk.nil (tm := .nil) (L := 1) (L' := 1) (d := 3) hF hro h0' (.step (.step .base))
      (o1 := ⟨lvKq, flQn, fun vs ms os => vs = vKq nilT T.length i 1 ∧ ms = [] ∧ os = okQn (cT T) (kgW T i 0) (wdR T i T.length)⟩)
      (o2 := ⟨lvKd, [], fun vs ms os => vs = vKd nilT T.length i 1 ∧ ms = [] ∧ os = okDn (cT T) (kgW T i 16)⟩) [] (fun p hp => nomatch hp) ?_ ?_ ?_
     ·rintro vs ms os ⟨rfl, rfl, rfl⟩
      have hl : ((mkA (okQn (cT T) (kgW T i 0) (wdR T i T.length))).new .defd).next = 4 := by kernel_rfl
      refine Go.Ev.Reach.blockC (Go.Ev.Reach.rangeC (SC_ok r) hF hro h0' (d := 3) (marks := [3]) (A1 := (mkA (okQn (cT T) (kgW T i 0) (wdR T i T.length))).new .defd) (g := 76) (first := []) (captured := [pq 2]) (S := fun v A' => ∃ os, A' = mkA os ∧ os = oLn T i (kgW T i 16) (wdR T i T.length) .ready) [] (fun p hp => nomatch hp) (by kernel_rfl) (by kernel_rfl) (by kernel_rfl) ?_ ?_)
      ·have hE : ((mkA (okQn (cT T) (kgW T i 0) (wdR T i T.length))).new .defd).new (.loop .ready none 25166719 ⟨[], bT lvKq (vKq nilT T.length i 1) .nil⟩ 41 #[24] k_g1 k_g2 3) = mkA (oLn T i (kgW T i 0) (wdR T i T.length) .ready) := by kernel_rfl
       show SOk _ _ _ (((mkA (okQn (cT T) (kgW T i 0) (wdR T i T.length))).new .defd).new (.loop .ready none 25166719 ⟨[], bT lvKq (vKq nilT T.length i 1) .nil⟩ 41 #[24] k_g1 k_g2 3)) _
       rw [hE, hl]
       have hnx : (mkA (oLn T i (kgW T i 0) (wdR T i T.length) .ready)).next = 5 := by kernel_rfl
       refine each_iter r hm (l := 4) (p := 2) (fl := flLn) (s := wdR T i T.length) hwi (J := fun v os => os = oLn T i (kgW T i v) (wdR T i T.length) .ready) (E := fun os => os = oLn T i (kgW T i 16) (wdR T i T.length) .ready) (os0 := oLn T i (kgW T i 0) (wdR T i T.length) .ready)
        ⟨58, 2, 0, by kernel_rfl⟩ ?_ ?_ ?_ rfl (by kernel_rfl)
       ·rintro v os hv hbv h
        rw [h, kgW, if_neg (by rw [hbv]; exact Bool.false_ne_true), Nat.or_zero]
       ·rintro v os hv hbv rfl
        rw [hnx]
        have hvn : v < T.length := by
         rw [wdR_bit, Bool.and_eq_true, decide_eq_true_eq] at hbv
         exact hbv.1
        have hwl := kgW_lt T hi' v
        refine yKn hn _ (by omega) hvn ?_
        rw [kgW, if_pos hbv]
       ·exact fun os h => h
      ·rintro v A' ⟨os, rfl, rfl⟩
       rw [hl]
       have hn' := kfTn r (cT T) T.length i (kgW T i 16) (wdR T i T.length)
       simp only [cT_nn T, nnU, Bool.and_self, Bool.and_true, cond_true] at hn'
       exact (hn' _ _ _).trans (qq_ok ⟨rfl, rfl, rfl⟩)
     ·rintro vs ms os ⟨rfl, rfl, rfl⟩
      refine Go.Ev.Reach.segR (SC_ok r) TOk.nil (tm := .nil) (L := 1) (L' := 1) (d := 3) hF hro h0' [] (fun p hp => nomatch hp) ?_
      have hn' := kfFn r (wdP T T.length 0) T.length i (kgW T i 16)
      have hrg : m_eqv (.agg ⟨rgC T.length (wdP T T.length 0)⟩) (.agg ⟨rgC T.length (wdP T T.length 0)⟩) = true := rgC_eqv _ _
      have hnr := rgC_nn T.length (wdP T T.length 0)
      simp only [show ∀ x : Nat, Int.toNat (Int.ofNat x) = x from fun _ => rfl, hrg] at hn'
      rw [show (Int.ofNat (kgW T i 16) : Int) = ((kgW T i 16 : Nat) : Int) from rfl, all_eq (show T.length < 16 by omega), hall] at hn'
      cases q : kgR T i T.length with
      | true =>
       rw [q, if_pos rfl] at hkl
       subst l0
       simp only [q, eqv_u, cond_true] at hn'
       exact (hn' _ _ _).trans (qq_ok ⟨rfl, gwT 1 1, by rw [hkl]; exact .inr ⟨by simp, rfl, rfl⟩, rfl⟩)
      | false =>
       rw [q, if_neg (by simp)] at hkl
       simp only [q, eqv_u, cond_true, cond_false] at hn'
       exact (hn' _ _ _).trans (qq_ok ⟨rfl, nilT, by rw [hkl]; exact .inl ⟨l0, rfl, rfl⟩, rfl⟩)
     ·have hn' := kfCn r (cT T) T.length i
      simp only [show ∀ x : Nat, Int.toNat (Int.ofNat x) = x from fun _ => rfl, hb12, cond_true, cT_get hn hi', isU_U] at hn'
      dsimp +instances only [ofI_U] at hn'
      simp only [eqv_u, cond_true, shl1 (show i < 16 by omega), eor, cT_nn T, nnU, Bool.and_self, Bool.and_true] at hn'
      exact (hn' _ _ _).trans (qq_ok ⟨rfl, rfl, rfl⟩)
    ·refine Go.Ev.Reach.after3R (SC_ok r) TOk.nil (tm := .nil) (L := 1) (L' := 1) (d := 3) hF hro h0' (.step (.step .base))
      (o1 := ⟨lvKq, flQo, fun vs ms os => vs = vKq (gwT 1 l.length) T.length i 2 ∧ ms = [] ∧ os = okQo (cT T) l.length (rowI l) (kgW T i 0) (wdR T i T.length)⟩)
      (o2 := ⟨lvKd, [], fun vs ms os => vs = vKd (gwT 1 l.length) T.length i 2 ∧ ms = [] ∧ os = okDo (cT T) l.length (rowI l) (kgW T i 16)⟩) [] (fun p hp => nomatch hp) ?_ ?_ ?_
     ·rintro vs ms os ⟨rfl, rfl, rfl⟩
      have hl : ((mkA (okQo (cT T) l.length (rowI l) (kgW T i 0) (wdR T i T.length))).new .defd).next = 5 := by kernel_rfl
      refine Go.Ev.Reach.blockC (Go.Ev.Reach.rangeC (SC_ok r) hF hro h0' (d := 4) (marks := [4]) (A1 := (mkA (okQo (cT T) l.length (rowI l) (kgW T i 0) (wdR T i T.length))).new .defd) (g := 76) (first := []) (captured := [pq 3]) (S := fun v A' => ∃ os, A' = mkA os ∧ os = oLo T i l (kgW T i 16) (wdR T i T.length) .ready) [] (fun p hp => nomatch hp) (by kernel_rfl) (by kernel_rfl) (by kernel_rfl) ?_ ?_)
      ·have hE : ((mkA (okQo (cT T) l.length (rowI l) (kgW T i 0) (wdR T i T.length))).new .defd).new (.loop .ready none 25166719 ⟨[], bT lvKq (vKq (gwT 1 l.length) T.length i 2) .nil⟩ 41 #[24] k_g1 k_g2 4) = mkA (oLo T i l (kgW T i 0) (wdR T i T.length) .ready) := by kernel_rfl
       show SOk _ _ _ (((mkA (okQo (cT T) l.length (rowI l) (kgW T i 0) (wdR T i T.length))).new .defd).new (.loop .ready none 25166719 ⟨[], bT lvKq (vKq (gwT 1 l.length) T.length i 2) .nil⟩ 41 #[24] k_g1 k_g2 4)) _
       rw [hE, hl]
       have hnx : (mkA (oLo T i l (kgW T i 0) (wdR T i T.length) .ready)).next = 6 := by kernel_rfl
       refine each_iter r hm (l := 5) (p := 3) (fl := flLo) (s := wdR T i T.length) hwi (J := fun v os => os = oLo T i l (kgW T i v) (wdR T i T.length) .ready) (E := fun os => os = oLo T i l (kgW T i 16) (wdR T i T.length) .ready) (os0 := oLo T i l (kgW T i 0) (wdR T i T.length) .ready)
        ⟨58, 3, 0, by kernel_rfl⟩ ?_ ?_ ?_ rfl (by kernel_rfl)
       ·rintro v os hv hbv h
        rw [h, kgW, if_neg (by rw [hbv]; exact Bool.false_ne_true), Nat.or_zero]
       ·rintro v os hv hbv rfl
        rw [hnx]
        have hvn : v < T.length := by
         rw [wdR_bit, Bool.and_eq_true, decide_eq_true_eq] at hbv
         exact hbv.1
        have hwl := kgW_lt T hi' v
        refine yKo hn _ _ (by omega) hvn ?_
        rw [kgW, if_pos hbv]
       ·exact fun os h => h
      ·rintro v A' ⟨os, rfl, rfl⟩
       rw [hl]
       have hn' := kfTo r (cT T) T.length i l.length (rowI l) (kgW T i 16) (wdR T i T.length)
       simp only [cT_nn T, rowI_nn, nnU, Bool.and_self, Bool.and_true, cond_true] at hn'
       exact (hn' _ _ _).trans (qq_ok ⟨rfl, rfl, rfl⟩)
     ·rintro vs ms os ⟨rfl, rfl, rfl⟩
      refine Go.Ev.Reach.segR (SC_ok r) TOk.nil (tm := .nil) (L := 1) (L' := 1) (d := 3) hF hro h0' [] (fun p hp => nomatch hp) ?_
      have hn' := kfFo r (wdP T T.length 0) T.length i l.length (rowI l) (kgW T i 16)
      have hrg : m_eqv (.agg ⟨rgC T.length (wdP T T.length 0)⟩) (.agg ⟨rgC T.length (wdP T T.length 0)⟩) = true := rgC_eqv _ _
      have hnr := rgC_nn T.length (wdP T T.length 0)
      simp only [show ∀ x : Nat, Int.toNat (Int.ofNat x) = x from fun _ => rfl, hrg] at hn'
      rw [show (Int.ofNat (kgW T i 16) : Int) = ((kgW T i 16 : Nat) : Int) from rfl, all_eq (show T.length < 16 by omega), hall] at hn'
      cases q : kgR T i T.length with
      | true =>
       rw [q, if_pos rfl] at hkl
       have b3 : Nat.ble (Nat.add l.length 1) 1000000 = true := Nat.ble_eq_true_of_le (by simp; omega)
       have tk : takeAt (rowI l) 0 (Nat.mul l.length 1) = some (rowI l) := takeL_row _ _ (by rw [rowI_len]; simp)
       simp only [q, eqv_u, cond_true, b3, tk, hnr, show rowI l ++ [I (Int.ofNat i)] = rowI (l ++ [(i : Int)]) from rowI_app _ _, rowI_nn, Bool.and_true, Bool.and_self] at hn'
       exact (hn' _ _ _).trans (qq_ok ⟨rfl, gwT 1 (l.length + 1), by rw [hkl]; exact .inr ⟨by simp, by simp, rfl⟩, rfl⟩)
      | false =>
       rw [q, if_neg (by simp)] at hkl
       simp only [q, eqv_u, cond_true, cond_false, hnr, rowI_nn, Bool.and_true, Bool.and_self] at hn'
       exact (hn' _ _ _).trans (qq_ok ⟨rfl, _, by rw [hkl]; exact .inr ⟨l0, rfl, rfl⟩, rfl⟩)
     ·have hn' := kfCo r (cT T) T.length i l.length (rowI l)
      simp only [show ∀ x : Nat, Int.toNat (Int.ofNat x) = x from fun _ => rfl, hb12, cond_true, cT_get hn hi', isU_U] at hn'
      dsimp +instances only [ofI_U] at hn'
      simp only [eqv_u, cond_true, shl1 (show i < 16 by omega), eor, cT_nn T, rowI_nn, nnU, Bool.and_self, Bool.and_true] at hn'
      exact (hn' _ _ _).trans (qq_ok ⟨rfl, rfl, rfl⟩)
   ·obtain ⟨rfl, E, hE, rfl⟩ := hq
    refine Go.Ev.Reach.segR (SC_ok r) TOk.nil (tm := .nil) (L := 1) (L' := 1) (d := 1) hF hro h0' [] (fun p hp => nomatch hp) ?_
    generalize hlg2 : kgL T (i + 1) = l at hE
    rcases hE with ⟨l0, rfl, rfl⟩ | ⟨l0, rfl, rfl⟩
    ·have hn' := kfGn r (cT T) T.length i
     simp only [Int.ofNat_eq_natCast, w1 i (by omega), cT_nn T, Bool.and_self, Bool.and_true, cond_true] at hn'
     exact (hn' _ _ _ _).trans (qq_ok ⟨T.length - (i + 1), by omega, i + 1, hi', rfl, rfl, _, by rw [hlg2]; exact .inl ⟨l0, rfl, rfl⟩, rfl⟩)
    ·have hn' := kfGo r (cT T) T.length i l.length (rowI l)
     simp only [Int.ofNat_eq_natCast, w1 i (by omega), cT_nn T, rowI_nn, Bool.and_self, Bool.and_true, cond_true] at hn'
     exact (hn' _ _ _ _).trans (qq_ok ⟨T.length - (i + 1), by omega, i + 1, hi', rfl, rfl, _, by rw [hlg2]; exact .inr ⟨l0, rfl, rfl⟩, rfl⟩)
  ·rcases hE with ⟨l0, rfl, rfl⟩ | ⟨l0, rfl, rfl⟩
   ·have hn' := kfBn r (cT T) T.length i
    simp only [Int.ofNat_eq_natCast, cT_nn T, Bool.and_self, Bool.and_true, cond_true] at hn'
    by_cases c : i < T.length
    ·simp only [dT (show (i : Int) < (T.length : Int) by omega), cond_true] at hn'
     exact (hn' _ _ _ _).trans (qq_ok ⟨c, rfl, _, .inl ⟨l0, rfl, rfl⟩, rfl⟩)
    ·obtain rfl : i = T.length := by omega
     simp only [dF (show ¬ (T.length : Int) < (T.length : Int) by omega), cond_false] at hn'
     exact (hn' _ _ _ _).trans (qq_ok ⟨rfl, _, rfl, by rw [hlg]; exact .inl ⟨l0, rfl, rfl⟩⟩)
   ·have hn' := kfBo r (cT T) T.length i l.length (rowI l)
    simp only [Int.ofNat_eq_natCast, cT_nn T, rowI_nn, Bool.and_self, Bool.and_true, cond_true] at hn'
    by_cases c : i < T.length
    ·simp only [dT (show (i : Int) < (T.length : Int) by omega), cond_true] at hn'
     exact (hn' _ _ _ _).trans (qq_ok ⟨c, rfl, _, .inr ⟨l0, rfl, rfl⟩, rfl⟩)
    ·obtain rfl : i = T.length := by omega
     simp only [dF (show ¬ (T.length : Int) < (T.length : Int) by omega), cond_false] at hn'
     exact (hn' _ _ _ _).trans (qq_ok ⟨rfl, _, rfl, by rw [hlg]; exact .inr ⟨l0, rfl, rfl⟩⟩)
 ·rintro vs ms os ⟨rfl, E, rfl, hE⟩
  refine Go.Ev.Reach.segR (SC_ok r) TOk.nil (tm := .nil) (L := 1) (L' := 1) (d := 1) hF hro h0' [] (fun p hp => nomatch hp) ?_
  show run _ _ _ _ _ _ _ (Outs.ask 0 ⟨[2], [], fun vs ms os => ms = [] ∧ ∃ E, vs = [some E] ∧ OkL (kgL T T.length) E os⟩) _ (Outs.ask 0 ⟨[2], [], fun vs ms os => ms = [] ∧ ∃ E, vs = [some E] ∧ OkL (kgL T T.length) E os⟩) _ _ _ _ = _
  generalize hlg : kgL T T.length = l at hE
  rcases hE with ⟨l0, rfl, rfl⟩ | ⟨l0, rfl, rfl⟩
  ·exact (kfHn r _ _ _ _).trans (qq_ok ⟨rfl, _, rfl, .inl ⟨l0, rfl, rfl⟩⟩)
  ·have hn' := kfHo r l.length (rowI l)
   simp only [rowI_nn, Bool.and_true, cond_true] at hn'
   exact (hn' _ _ _ _).trans (qq_ok ⟨rfl, _, rfl, .inr ⟨l0, rfl, rfl⟩⟩)
 ·have hn' := kfA r (cT T)
  simp only [e00, isI_I, cond_true] at hn'
  dsimp +instances only [ofI_I] at hn'
  simp only [cT_nn, Bool.and_true, cond_true] at hn'
  exact (hn' _ _ _ _).trans (qq_ok ⟨rfl, rfl, rfl⟩)
end

end Go.Proofs

/- The law's comparison of rows, run. -/
namespace Go.Proofs
open Go Go.Ev Go.Num
set_option linter.unusedVariables false
set_option linter.unusedSimpArgs false
set_option maxRecDepth 100000

def vSi (b off b2 off2 n c1 c2 k : Nat) : OV := [some (RS b off n c1), some (RS b2 off2 n c2), some (I (k : Nat))]

theorem siA (r : Mem) (b off b2 off2 n c1 c2 : Nat) (fs : FnsC) (K : OV → List Nat → OO → CR) (kx : Nat → KS) (kr : KS) : run (SC r) 51 26 1 (.seq IN_0 (.seq IN_1 IN_2)) fs none (rbK 0 [0, 1, 5] [] K) kx kr (sc0 51 [RS b off n c1, RS b2 off2 n c2]) (tr0 51 [RS b off n c1, RS b2 off2 n c2]) [] emptyA =
    bif Int.ofNat n != Int.ofNat n then kr [] (.node (.node .nil (some (.slice (some ⟨b2, off2, some 0⟩) n c2)) .nil) (some (.slice (some ⟨b, off, some 0⟩) n c1)) (.node (.node .nil (some (.bool false)) .nil) none .nil)) [] (AW.mk 0 .nil .nil) else K [some (.slice (some ⟨b, off, some 0⟩) n c1), some (.slice (some ⟨b2, off2, some 0⟩) n c2), some (I (Int.ofNat 0))] [] [] := by kernel_rfl

theorem siB (r : Mem) (b off b2 off2 n c1 c2 k : Nat) (fs : FnsC) (K : OV → List Nat → OO → CR) (KX : Nat → OV → List Nat → OO → CR) (KR : OV → List Nat → OO → CR) : run (SC r) 51 26 1 IN_3 fs none (rbK 0 [0, 1, 5] [] K) (fun j => rbK 0 [] [] (KX j)) (rbK 0 [4] [] KR) [] (bT [0, 1, 5] (vSi b off b2 off2 n c1 c2 k) .nil) [] (mkA []) =
    bif decide (Int.ofNat k < Int.ofNat n) then bif Nat.blt (Int.toNat (Int.ofNat k)) n then Option.casesOn (r b (Nat.add off (Nat.mul (Int.toNat (Int.ofNat k)) 1))) (.fail 423) fun val => bif isI IntKind.i64 val then bif Nat.blt (Int.toNat (Int.ofNat k)) n then Option.casesOn (r b2 (Nat.add off2 (Nat.mul (Int.toNat (Int.ofNat k)) 1))) (.fail 423) fun val_1 => bif isI IntKind.i64 val_1 then bif ofI val != ofI val_1 then KR [some (.bool false)] [] [] else K [some (.slice (some ⟨b, off, some 0⟩) n c1), some (.slice (some ⟨b2, off2, some 0⟩) n c2), some (I (IntKind.wrap .i64 (Int.ofNat k + Int.ofNat 1)))] [] [] else .fail 420 else .fail 420 else .fail 420 else .fail 420 else KX 0 [] [] [] := by kernel_rfl

theorem siC (r : Mem) (fs : FnsC) (K KR : OV → List Nat → OO → CR) (kx : Nat → KS) : run (SC r) 51 26 1 IN_4 fs none (rbK 0 [4] [] K) kx (rbK 0 [4] [] KR) [] (bT [] [] .nil) [] (mkA []) =
    KR [some (.bool true)] [] [] := by kernel_rfl

theorem siN (r : Mem) : (lvlT (SC r) (fun _ => none) .nil 1 2).call 14 [nilT, nilT] emptyA fin =
    .ret (.bool true) (AW.mk 0 .nil .nil) := by kernel_rfl

end Go.Proofs

/- The law's comparison of rows: what the call answers. -/
namespace Go.Proofs
open Go Go.Ev Go.Num
set_option linter.unusedVariables false
set_option linter.unusedSimpArgs false
set_option maxRecDepth 100000

theorem ne_self (a : Int) : (a != a) = false := by simp
theorem ints_nil (r : Mem) : GrT Tryz.prog r 14 [nilT, nilT] (.bool true) := GrT.of (SC_ok r) TOk.nil .nil rfl ⟨1, 2, by rw [siN]; rfl⟩
section
variable {r : Mem} {b off b2 off2 n c1 c2 : Nat} {z : Nat → Int}
theorem ints_ok (hz : rowAt r b off n z) (hz2 : rowAt r b2 off2 n z) (hn : n ≤ 1000) : GrT Tryz.prog r 14 [RS b off n c1, RS b2 off2 n c2] (.bool true) := by
 refine GrT.ofS (C := SC r) rfl rfl rfl (callO (SC_ok r) (by kernel_rfl) ((bodySC r _).trans IN_eq) (nt := 26) (by kernel_rfl) (rs := [.tmp 4]) (by kernel_rfl) 51 rfl ⟨[4], [], fun vs ms os => vs = [some (.bool true)] ∧ ms = [] ∧ os = []⟩ ?_ fun γ W F kk hwr hF hro h0' => ?_)
 ·rintro vs ms os ⟨rfl, rfl, rfl⟩
  exact ⟨_, mkA [], by kernel_rfl, rfl⟩
 have h0' : ∀ i, 0 ≤ i → γ i = none := h0'
 have w1 : ∀ k : Nat, k ≤ 1000 → IntKind.wrap IntKind.i64 ((k : Int) + ((1 : Nat) : Int)) = ((k + 1 : Nat) : Int) := fun k hk => inc1' (by omega)
 have e0 : ∀ o k : Nat, Nat.add o (Nat.mul k 1) = o + k := fun o k => by simp
 refine Go.Ev.Reach.after3R (SC_ok r) TOk.nil (tm := .nil) (L := 1) (L' := 1) (d := 1) hF hro h0' (.step (.step .base))
  (o1 := ⟨[0, 1, 5], [], fun vs ms os => vs = vSi b off b2 off2 n c1 c2 0 ∧ ms = [] ∧ os = []⟩)
  (o2 := ⟨[], [], fun vs ms os => vs = [] ∧ ms = [] ∧ os = []⟩) [] (fun p hp => nomatch hp) ?_ ?_ ?_
 ·rintro vs ms os ⟨rfl, rfl, rfl⟩
  refine Go.Ev.Reach.blockC (Go.Ev.Reach.loopC (j := n) (lv := [0, 1, 5]) (fl := []) (I := fun j vs ms os => ∃ k : Nat, k ≤ n ∧ j = n - k ∧ vs = vSi b off b2 off2 n c1 c2 k ∧ ms = [] ∧ os = []) (fun j vs ms os hI => ?_) ⟨0, by omega, rfl, rfl, rfl, rfl⟩)
  obtain ⟨k, hk, rfl, rfl, rfl, rfl⟩ := hI
  refine Go.Ev.Reach.segR (SC_ok r) TOk.nil (tm := .nil) (L := 1) (L' := 1) (d := 1) hF hro h0' [(0, ⟨[], [], fun vs ms os => vs = [] ∧ ms = [] ∧ os = []⟩)] (fun p hp => by simp only [List.mem_cons, List.not_mem_nil, or_false] at hp; subst hp; rfl) ?_
  have hn' := siB r b off b2 off2 n c1 c2 k
  simp only [Int.ofNat_eq_natCast, Int.toNat_natCast] at hn'
  by_cases c : k < n
  ·have b1 : Nat.blt k n = true := Nat.ble_eq_true_of_le (by omega)
   simp only [dT (show (k : Int) < (n : Int) by omega), cond_true, b1, e0, hz k c, hz2 k c, isI_I, w1 k (by omega)] at hn'
   dsimp +instances only [ofI_I] at hn'
   simp only [ne_self, cond_false] at hn'
   exact (hn' _ _ _ _).trans (qq_ok ⟨n - (k + 1), by omega, k + 1, c, rfl, rfl, rfl, rfl⟩)
  ·obtain rfl : k = n := by omega
   simp only [dF (show ¬ (k : Int) < (k : Int) by omega), cond_false] at hn'
   exact (hn' _ _ _ _).trans (qq_ok ⟨rfl, rfl, rfl⟩)
 ·rintro vs ms os ⟨rfl, rfl, rfl⟩
  refine Go.Ev.Reach.segR (SC_ok r) TOk.nil (tm := .nil) (L := 1) (L' := 1) (d := 1) hF hro h0' [] (fun p hp => nomatch hp) ?_
  exact (siC r _ _ _ _).trans (qq_ok ⟨rfl, rfl, rfl⟩)
 ·have hn' := siA r b off b2 off2 n c1 c2
  simp only [ne_self, cond_false] at hn'
  exact (hn' _ _ _ _).trans (qq_ok ⟨rfl, rfl, rfl⟩)
end

end Go.Proofs

/- The calls that read a table, run. -/
namespace Go.Proofs
open Go Go.Ev Go.Num
set_option linter.unusedVariables false
set_option linter.unusedSimpArgs false
set_option maxRecDepth 100000

noncomputable def eSw (a v : List Value) : Ent := ent (fun args _ => m_svv args a) fun _ _ => match v with
 | [u] => u
 | _ => undef
noncomputable def eRwK (a0 : List Value) (n k : Nat) (c : List Value) : Ent := ⟨fun args _ => m_svv args a0, fun _ _ => true, fun _ A => .slice (some ⟨A.next, 0, none⟩) n k, fun _ A => A.new (.cells c 3 A.next 1), fun _ _ => undef, fun _ A => A⟩
noncomputable def tRd (x : Value) (m : Nat) (w : Nat → Nat) (e : Int) : Tbl := tcons 37 (eSw [x] [.tuple ⟨[.agg ⟨rgC m w⟩, I e]⟩]) fun _ => none
noncomputable def tSw (x : Value) (m : Nat) (w : Nat → Nat) (n : Nat) (c : List Value) : Tbl := tcons 38 (eRwK [.agg ⟨rgC m w⟩] n n c) (tRd x m w 0)
noncomputable def tKn (x : Value) (m : Nat) (w : Nat → Nat) : Tbl := tcons 39 (eSw [.agg ⟨rgC m w⟩] [nilT]) (tRd x m w 0)
noncomputable def tKo (x : Value) (m : Nat) (w : Nat → Nat) (n : Nat) (c : List Value) : Tbl := tcons 39 (eRwK [.agg ⟨rgC m w⟩] n unk c) (tRd x m w 0)

theorem swC (r : Mem) (b off n cap m : Nat) (w : Nat → Nat) (e : Int) (K : KV) : (lvlT (SC r) (tRd (RS b off n cap) m w e) .nil 1 1).call 18 [RS b off n cap] emptyA K =
    bif m_svv [.slice (some ⟨b, off, some 0⟩) n cap] [.slice (some ⟨b, off, some 0⟩) n cap] then K (I e) (AW.mk 1 (.node .nil (some (.cells (rgC m w) 61 0 0)) .nil) .nil) else .fail 420 := by kernel_rfl

theorem swS (r : Mem) (b off n cap m : Nat) (w : Nat → Nat) (q : Nat) (c : List Value) (K : KV) : (lvlT (SC r) (tSw (RS b off n cap) m w q c) .nil 1 1).call 16 [RS b off n cap] emptyA K =
    bif m_svv [.slice (some ⟨b, off, some 0⟩) n cap] [.slice (some ⟨b, off, some 0⟩) n cap] then bif m_svv [.agg ⟨(rgC m w)⟩] [.agg ⟨(rgC m w)⟩] then K (.tuple ⟨[.slice (some ⟨1, 0, none⟩) q q, I (Int.ofNat 0)]⟩) (AW.mk 2 (.node (.node .nil (some (.cells c 3 1 1)) .nil) (some (.cells (rgC m w) 61 0 0)) .nil) .nil) else .fail 420 else .fail 420 := by kernel_rfl

theorem swSe (r : Mem) (b off n cap m : Nat) (w : Nat → Nat) (K : KV) : (lvlT (SC r) (tRd (RS b off n cap) m w 50) .nil 1 1).call 16 [RS b off n cap] emptyA K =
    bif m_svv [.slice (some ⟨b, off, some 0⟩) n cap] [.slice (some ⟨b, off, some 0⟩) n cap] then K (.tuple ⟨[.slice none 0 0, I (Int.ofNat 50)]⟩) (AW.mk 1 (.node .nil (some (.cells (rgC m w) 61 0 0)) .nil) .nil) else .fail 420 := by kernel_rfl

theorem swKn (r : Mem) (b off n cap m : Nat) (w : Nat → Nat) (K : KV) : (lvlT (SC r) (tKn (RS b off n cap) m w) .nil 1 1).call 17 [RS b off n cap] emptyA K =
    bif m_svv [.slice (some ⟨b, off, some 0⟩) n cap] [.slice (some ⟨b, off, some 0⟩) n cap] then bif m_svv [.agg ⟨(rgC m w)⟩] [.agg ⟨(rgC m w)⟩] then K (.tuple ⟨[.slice none 0 0, I (Int.ofNat 0)]⟩) (AW.mk 1 (.node .nil (some (.cells (rgC m w) 61 0 0)) .nil) .nil) else .fail 420 else .fail 420 := by kernel_rfl

theorem swKo (r : Mem) (b off n cap m : Nat) (w : Nat → Nat) (q : Nat) (c : List Value) (K : KV) : (lvlT (SC r) (tKo (RS b off n cap) m w q c) .nil 1 1).call 17 [RS b off n cap] emptyA K =
    bif m_svv [.slice (some ⟨b, off, some 0⟩) n cap] [.slice (some ⟨b, off, some 0⟩) n cap] then bif m_svv [.agg ⟨(rgC m w)⟩] [.agg ⟨(rgC m w)⟩] then K (.tuple ⟨[.slice (some ⟨1, 0, none⟩) q unk, I (Int.ofNat 0)]⟩) (AW.mk 2 (.node (.node .nil (some (.cells c 3 1 1)) .nil) (some (.cells (rgC m w) 61 0 0)) .nil) .nil) else .fail 420 else .fail 420 := by kernel_rfl

theorem swKe (r : Mem) (b off n cap m : Nat) (w : Nat → Nat) (K : KV) : (lvlT (SC r) (tRd (RS b off n cap) m w 50) .nil 1 1).call 17 [RS b off n cap] emptyA K =
    bif m_svv [.slice (some ⟨b, off, some 0⟩) n cap] [.slice (some ⟨b, off, some 0⟩) n cap] then K (.tuple ⟨[.slice none 0 0, I (Int.ofNat 50)]⟩) (AW.mk 1 (.node .nil (some (.cells (rgC m w) 61 0 0)) .nil) .nil) else .fail 420 := by kernel_rfl

theorem swLe (r : Mem) (b off n cap m : Nat) (w : Nat → Nat) (K : KV) : (lvlT (SC r) (tRd (RS b off n cap) m w 50) .nil 1 1).call 20 [RS b off n cap] emptyA K =
    bif m_svv [.slice (some ⟨b, off, some 0⟩) n cap] [.slice (some ⟨b, off, some 0⟩) n cap] then K (.tuple ⟨[.slice none 0 0, I (Int.ofNat 50)]⟩) (AW.mk 1 (.node .nil (some (.cells (rgC m w) 61 0 0)) .nil) .nil) else .fail 420 := by kernel_rfl

theorem swRe (r : Mem) (b off n cap m : Nat) (w : Nat → Nat) (K : KV) : (lvlT (SC r) (tRd (RS b off n cap) m w 50) .nil 1 1).call 21 [RS b off n cap] emptyA K =
    bif m_svv [.slice (some ⟨b, off, some 0⟩) n cap] [.slice (some ⟨b, off, some 0⟩) n cap] then K (.tuple ⟨[.slice none 0 0, .bool false, I (Int.ofNat 50)]⟩) (AW.mk 1 (.node .nil (some (.cells (rgC m w) 61 0 0)) .nil) .nil) else .fail 420 := by kernel_rfl

theorem swBe (r : Mem) (b off n cap m : Nat) (w : Nat → Nat) (K : KV) : (lvlT (SC r) (tRd (RS b off n cap) m w 50) .nil 1 1).call 22 [RS b off n cap] emptyA K =
    bif m_svv [.slice (some ⟨b, off, some 0⟩) n cap] [.slice (some ⟨b, off, some 0⟩) n cap] then K (.tuple ⟨[.slice none 0 0, .bool false, I (Int.ofNat 50)]⟩) (AW.mk 1 (.node .nil (some (.cells (rgC m w) 61 0 0)) .nil) .nil) else .fail 420 := by kernel_rfl

theorem swTe (r : Mem) (b off n cap m : Nat) (w : Nat → Nat) (K : KV) : (lvlT (SC r) (tRd (RS b off n cap) m w 50) .nil 1 1).call 23 [RS b off n cap] emptyA K =
    bif m_svv [.slice (some ⟨b, off, some 0⟩) n cap] [.slice (some ⟨b, off, some 0⟩) n cap] then K (.tuple ⟨[I (Int.ofNat 0), I (Int.ofNat 50)]⟩) (AW.mk 1 (.node .nil (some (.cells (rgC m w) 61 0 0)) .nil) .nil) else .fail 420 := by kernel_rfl

theorem sw3e (r : Mem) (b off n cap m : Nat) (w : Nat → Nat) (K : KV) : (lvlT (SC r) (tRd (RS b off n cap) m w 50) .nil 1 1).call 24 [RS b off n cap] emptyA K =
    bif m_svv [.slice (some ⟨b, off, some 0⟩) n cap] [.slice (some ⟨b, off, some 0⟩) n cap] then K (.tuple ⟨[.agg ⟨[I (Int.ofNat 0), I (Int.ofNat 0), I (Int.ofNat 0)]⟩, .bool false, I (Int.ofNat 50)]⟩) (AW.mk 4 (.node (.node (.node .nil (some (.cells (rgC m w) 61 3 0)) .nil) (some (.cells [.bool false] 4 1 0)) .nil) (some (.cells [I (Int.ofNat 0), I (Int.ofNat 0), I (Int.ofNat 0)] 46 0 0)) (.node .nil (some (.cells [I (Int.ofNat 50)] 27 2 0)) .nil)) .nil) else .fail 420 := by kernel_rfl

theorem swNe (r : Mem) (b off n cap m : Nat) (w : Nat → Nat) (K : KV) : (lvlT (SC r) (tRd (RS b off n cap) m w 50) .nil 1 1).call 25 [RS b off n cap] emptyA K =
    bif m_svv [.slice (some ⟨b, off, some 0⟩) n cap] [.slice (some ⟨b, off, some 0⟩) n cap] then K (.tuple ⟨[.slice none 0 0, I (Int.ofNat 0), I (Int.ofNat 50)]⟩) (AW.mk 1 (.node .nil (some (.cells (rgC m w) 61 0 0)) .nil) .nil) else .fail 420 := by kernel_rfl

end Go.Proofs

/- read, of a table: what the call answers. -/
namespace Go.Proofs
open Go Go.Ev Go.Num
set_option linter.unusedVariables false
set_option linter.unusedSimpArgs false
set_option maxRecDepth 100000

section
variable {r : Mem} {b off n cap : Nat} {T : List (List Bool)}
theorem wdP_T (hT : T.length ≤ 12) : WdT T (wdP T T.length 0) := by
 refine ⟨fun j => wdP_lt hT (by omega) j, fun j k hj hk => ?_⟩
 unfold wdP
 rw [if_pos hj, wdR_bit, decide_eq_true hk, Bool.true_and]
def rdC (T : List (List Bool)) : List Value := if ckT T then rgC T.length (wdP T T.length 0) else z13
theorem rd_end {w : Nat → Nat} {v : Bool} (hw : ∀ r : Mem, GrT Tryz.prog r 56 [.agg ⟨rgC n w⟩] (.bool v)) : ∀ (orr : Outs), orr = ⟨[2, 3], [], fun vs ms os => vs = [some (pq 0), some (I (if v then 0 else 50))] ∧ ms = [] ∧ os = [oRg (if v then rgC n w else z13) 0]⟩ → ∃ t, TOk (SC r) t ∧ ∀ K kx, run (SC r) 60144223229 57 1 RD_12 (lvlT (SC r) t .nil 1 1) none (rbK 0 [2, 3] [] K) kx (orr.ask 0) [] (bT [2, 5] [some (pq 0), some (pq 1)] .nil) [] (mkA [oRg z13 0, oRg (rgC n w) 1]) = okR := by
 rintro orr rfl
 refine ⟨tFair (rgC n w) v, TOk.nil.cons (EOk.ent fun args A hg => ?_), fun K kx => ?_⟩
 ·have hs := @of_decide_eq_true _ (Classical.propDecidable _) hg
  subst hs
  exact (hw r).ro rfl A
 ·have hn' := rdF r (rgC n w) v K
  have g0 : (rgC n w)[0]? = some (I (n : Nat)) := rfl
  have g1 : (rgC n w)[1]? = some (U ((w 0 : Nat) : Int)) := rfl
  have g2 : (rgC n w)[2]? = some (U ((w 1 : Nat) : Int)) := rfl
  have g3 : (rgC n w)[3]? = some (U ((w 2 : Nat) : Int)) := rfl
  have g4 : (rgC n w)[4]? = some (U ((w 3 : Nat) : Int)) := rfl
  have g5 : (rgC n w)[5]? = some (U ((w 4 : Nat) : Int)) := rfl
  have g6 : (rgC n w)[6]? = some (U ((w 5 : Nat) : Int)) := rfl
  have g7 : (rgC n w)[7]? = some (U ((w 6 : Nat) : Int)) := rfl
  have g8 : (rgC n w)[8]? = some (U ((w 7 : Nat) : Int)) := rfl
  have g9 : (rgC n w)[9]? = some (U ((w 8 : Nat) : Int)) := rfl
  have g10 : (rgC n w)[10]? = some (U ((w 9 : Nat) : Int)) := rfl
  have g11 : (rgC n w)[11]? = some (U ((w 10 : Nat) : Int)) := rfl
  have g12 : (rgC n w)[12]? = some (U ((w 11 : Nat) : Int)) := rfl
  simp only [g0, g1, g2, g3, g4, g5, g6, g7, g8, g9, g10, g11, g12, isI_I, isU_U, cond_true] at hn'
  dsimp +instances only [ofI_I, ofI_U] at hn'
  have hs : m_svv [.agg ⟨[I (n : Nat), U ((w 0 : Nat) : Int), U ((w 1 : Nat) : Int), U ((w 2 : Nat) : Int), U ((w 3 : Nat) : Int), U ((w 4 : Nat) : Int), U ((w 5 : Nat) : Int), U ((w 6 : Nat) : Int), U ((w 7 : Nat) : Int), U ((w 8 : Nat) : Int), U ((w 9 : Nat) : Int), U ((w 10 : Nat) : Int), U ((w 11 : Nat) : Int)]⟩] [.agg ⟨rgC n w⟩] = true := svv_rfl [.agg ⟨rgC n w⟩]
  have hnn : m_nns [I (n : Nat), U ((w 0 : Nat) : Int), U ((w 1 : Nat) : Int), U ((w 2 : Nat) : Int), U ((w 3 : Nat) : Int), U ((w 4 : Nat) : Int), U ((w 5 : Nat) : Int), U ((w 6 : Nat) : Int), U ((w 7 : Nat) : Int), U ((w 8 : Nat) : Int), U ((w 9 : Nat) : Int), U ((w 10 : Nat) : Int), U ((w 11 : Nat) : Int)] = true := rfl
  simp only [hs, hnn, cond_true, Bool.and_true] at hn'
  cases v with
  | true =>
   simp only [cond_true] at hn'
   exact (hn' _ _).trans (qq_ok ⟨rfl, rfl, rfl⟩)
  | false =>
   simp only [cond_false] at hn'
   exact (hn' _ _).trans (qq_ok ⟨rfl, rfl, rfl⟩)
theorem wdP_put {i k : Nat} (hi : i < 12) (h : gT T i k = true) : (rgC T.length (wdP T i k)).set (1 + i) (U ((wdP T i k i ||| 2 ^ k : Nat) : Int)) = rgC T.length (wdP T i (k + 1)) := by
 rw [rgC_set hi]
 refine rgC_ext fun j hj => ?_
 by_cases e : j = i
 ·subst e
  rw [if_pos rfl]
  unfold wdP
  rw [if_neg (by omega), if_pos rfl, if_neg (by omega), if_pos rfl, wdR, if_pos h]
 ·rw [if_neg e]
  unfold wdP
  rw [if_neg e, if_neg e]
theorem wdP_skip {i k : Nat} (h : gT T i k = false) : rgC T.length (wdP T i k) = rgC T.length (wdP T i (k + 1)) := rgC_ext fun j hj => by
 unfold wdP
 by_cases e : j = i
 ·subst e
  rw [if_neg (by omega), if_pos rfl, if_neg (by omega), if_pos rfl, wdR, h]
  rfl
 ·rw [if_neg e, if_neg e]
theorem rd_ok (hM : TabM r b off T) (hn : T.length = n) (hn2 : n ≤ 1000) : GrT Tryz.prog r 37 [RS b off n cap] (.tuple ⟨[.agg ⟨rdC T⟩, I (if ckT T then 0 else 50)]⟩) := by
 subst hn
 generalize hv : (if ckT T then (0 : Int) else 50) = v
 generalize hz : rdC T = z
 have hgz : ∃ m w, z = rgC m w := by
  rw [← hz]
  unfold rdC
  split
  ·exact ⟨_, _, rfl⟩
  ·exact ⟨0, fun _ => 0, rfl⟩
 have bad : ckT T = false → v = 50 ∧ z = z13 := fun h => by
  rw [h] at hv
  unfold rdC at hz
  rw [h] at hz
  exact ⟨hv.symm, hz.symm⟩
 let E : Outs := ⟨[2, 3], [], fun vs ms os => vs = [some (pq 0), some (I v)] ∧ ms = [] ∧ os = [oRg z 0]⟩
 refine GrT.ofS (C := SC r) rfl rfl (by obtain ⟨m, w, rfl⟩ := hgz; rfl) (callO (SC_ok r) (by kernel_rfl) ((bodySC r _).trans RD_eq) (nt := 57) (by kernel_rfl) (rs := [.cell 2 61, .tmp 3]) (by kernel_rfl) 60144223229 rfl E ?_ fun γ W F kk hwr hF hro h0' => ?_)
 ·rintro vs ms os ⟨rfl, rfl, rfl⟩
  obtain ⟨m, w, rfl⟩ := hgz
  exact ⟨_, mkA [oRg (rgC m w) 0], by kernel_rfl, rfl⟩
 have h0' : ∀ i, 0 ≤ i → γ i = none := h0'
 have w1 : ∀ k : Nat, k ≤ 1000 → IntKind.wrap IntKind.i64 ((k : Int) + ((1 : Nat) : Int)) = ((k + 1 : Nat) : Int) := fun k hk => inc1' (by omega)
 have e0 : ∀ o k : Nat, Nat.add o (Nat.mul k 1) = o + k := fun o k => by simp
 refine Go.Ev.Reach.after3R (SC_ok r) TOk.nil (tm := .nil) (L := 1) (L' := 1) (d := 1) hF hro h0' (.step (.step (.step (.step .base))))
  (o1 := ⟨lvD, [], fun vs ms os => (1 ≤ T.length ∧ T.length ≤ 12) ∧ vs = vD b off T.length cap 0 ∧ ms = [] ∧ os = [oRg z13 0, oRg (rgC T.length (wdP T 0 0)) 1]⟩)
  (o2 := ⟨[2, 5], [], fun vs ms os => ((1 ≤ T.length ∧ T.length ≤ 12) ∧ lenN T T.length = true) ∧ vs = [some (pq 0), some (pq 1)] ∧ ms = [] ∧ os = [oRg z13 0, oRg (rgC T.length (wdP T T.length 0)) 1]⟩) [] (fun p hp => nomatch hp) ?_ ?_ ?_
 ·rintro vs ms os ⟨hn, rfl, rfl, rfl⟩
  refine Go.Ev.Reach.blockC (Go.Ev.Reach.loopC (j := T.length) (lv := lvD) (fl := []) (I := fun j vs ms os => ∃ i : Nat, i ≤ T.length ∧ j = T.length - i ∧ lenN T i = true ∧ vs = vD b off T.length cap i ∧ ms = [] ∧ os = [oRg z13 0, oRg (rgC T.length (wdP T i 0)) 1]) (fun j vs ms os hI => ?_) ⟨0, by omega, rfl, rfl, rfl, rfl, rfl⟩)
  obtain ⟨i, hi, rfl, hl, rfl, rfl, rfl⟩ := hI
  have nn := rgC_nn T.length (wdP T i 0)
  have hB := rdB r b off T.length cap i (rgC T.length (wdP T i 0))
  simp only [Int.ofNat_eq_natCast, nn, Bool.and_true, Bool.true_and, cond_true] at hB
  by_cases c : i < T.length
  ·simp only [dT (show (i : Int) < (T.length : Int) by omega), cond_true] at hB
   refine Go.Ev.Reach.afterR (SC_ok r) TOk.nil (tm := .nil) (L := 1) (L' := 1) (d := 1) hF hro h0' (.step .base) (o1 := ⟨lvD, [], fun vs ms os => vs = vD b off T.length cap i ∧ ms = [] ∧ os = [oRg z13 0, oRg (rgC T.length (wdP T i 0)) 1]⟩) [(0, ⟨[2, 5], [], fun vs ms os => ((1 ≤ T.length ∧ T.length ≤ 12) ∧ lenN T T.length = true) ∧ vs = [some (pq 0), some (pq 1)] ∧ ms = [] ∧ os = [oRg z13 0, oRg (rgC T.length (wdP T T.length 0)) 1]⟩)] (fun p hp => by simp only [List.mem_cons, List.not_mem_nil, or_false] at hp; subst hp; rfl) (fun vs ms os hq => ?_) ((hB _ _ _ _).trans (qq_ok ⟨rfl, rfl, rfl⟩))
   obtain ⟨rfl, rfl, rfl⟩ := hq
   refine Go.Ev.Reach.seqC (o1 := ⟨lvD, [], fun vs ms os => (T.getD i []).length = T.length ∧ vs = vD b off T.length cap i ∧ ms = [] ∧ os = [oRg z13 0, oRg (rgC T.length (wdP T (i + 1) 0)) 1]⟩) (Go.Ev.Reach.blockC ?_) fun vs ms os hq => ?_
   ·have b1 : Nat.blt i T.length = true := Nat.ble_eq_true_of_le (by omega)
    by_cases hz0 : (T.getD i []).length = T.length
    ·obtain ⟨b2, o2, c2, hu, hr⟩ := tab_RS hM c (by omega)
     rw [hz0] at hu hr
     have q1 : ((T.length : Int) != (T.length : Int)) = false := neF rfl
     have hC := rdCR r b off T.length cap i (rgC T.length (wdP T i 0))
     simp only [Int.ofNat_eq_natCast, Int.toNat_natCast, b1, e0, hu, ro_RS, ln_RS, bk_RS, of_RS, cp_RS, q1, nn, Bool.and_true, cond_true, cond_false] at hC
     refine reach_hs (sh := 2) (Go.Ev.Reach.afterR (SS_ok r 2) (TOk.sh 2 TOk.nil) (tm := .nil) (L := 1) (L' := 1) (d := 1) hF hro h0' (.step (.step .base)) (o1 := ⟨lvE, [], fun vs ms os => vs = vE b off T.length cap i b2 o2 T.length c2 0 ∧ ms = [] ∧ os = [oRg z13 0, oRg (rgC T.length (wdP T i 0)) 1]⟩) [] (fun p hp => nomatch hp) (fun vs ms os hq => reach_sh ?_) ((hC _ _ _ _).trans (qq_ok ⟨rfl, rfl, rfl⟩)))
     obtain ⟨rfl, rfl, rfl⟩ := hq
     refine Go.Ev.Reach.blockC (Go.Ev.Reach.loopC (j := T.length) (lv := lvE) (fl := []) (I := fun j vs ms os => ∃ k : Nat, k ≤ T.length ∧ j = T.length - k ∧ vs = vE b off T.length cap i b2 o2 T.length c2 k ∧ ms = [] ∧ os = [oRg z13 0, oRg (rgC T.length (wdP T i k)) 1]) (fun j vs ms os hI => ?_) ⟨0, by omega, rfl, rfl, rfl, rfl⟩)
     obtain ⟨k, hk, rfl, rfl, rfl, rfl⟩ := hI
     refine Go.Ev.Reach.segR (SC_ok r) TOk.nil (tm := .nil) (L := 1) (L' := 1) (d := 2) hF hro h0' [(2, ⟨lvD, [], fun vs ms os => (T.getD i []).length = T.length ∧ vs = vD b off T.length cap i ∧ ms = [] ∧ os = [oRg z13 0, oRg (rgC T.length (wdP T (i + 1) 0)) 1]⟩)] (fun p hp => by simp only [List.mem_cons, List.not_mem_nil, or_false] at hp; subst hp; rfl) ?_
     have hn' := rdD r b off T.length cap i b2 o2 T.length c2 k (rgC T.length (wdP T i k))
     simp only [Int.ofNat_eq_natCast, Int.toNat_natCast] at hn'
     by_cases ck : k < T.length
     ·have b3 : Nat.blt k T.length = true := Nat.ble_eq_true_of_le (by omega)
      have b4 : Nat.blt i 12 = true := Nat.ble_eq_true_of_le (by omega)
      have g1 : (rgC T.length (wdP T i k))[1 + i]? = some (U ((wdP T i k i : Nat) : Int)) := rgC_get (by omega)
      have b5 : Nat.blt (1 + i) (rgC T.length (wdP T i k)).length = true := by rw [rgC_len]; exact Nat.ble_eq_true_of_le (by omega)
      have hsh := shl1 (b := k) (by omega)
      simp only [Int.ofNat_eq_natCast] at hsh
      have hlt := wdP_lt hn.2 (i := i) (k := k) (by omega) i
      have h2k : 2 ^ k < 4096 := Nat.pow_lt_pow_right (n := 12) (by decide) (by omega)
      have hor := (uO (a := wdP T i k i) (b := 2 ^ k) (by omega) (by omega)).1
      simp only [dT (show (k : Int) < (T.length : Int) by omega), b3, b4, e0, hr k ck, b_bl, o_bl, cond_true, w1 k (by omega)] at hn'
      cases hg : gT T i k with
      | true =>
       have hput := wdP_put (T := T) (i := i) (k := k) (by omega) hg
       simp only [hg, cond_true, g1, isU_U, b5] at hn'
       dsimp +instances only [ofI_U] at hn'
       simp only [eqv_u, cond_true, hsh, hor, hput, rgC_nn, Bool.and_true, Bool.true_and] at hn'
       exact (hn' _ _ _).trans (qq_ok ⟨T.length - (k + 1), by omega, k + 1, ck, rfl, rfl, rfl, rfl⟩)
      | false =>
       simp only [hg, cond_false, rgC_nn, Bool.and_true, Bool.true_and, cond_true] at hn'
       rw [wdP_skip hg] at hn'
       rw [wdP_skip hg]
       exact (hn' _ _ _).trans (qq_ok ⟨T.length - (k + 1), by omega, k + 1, ck, rfl, rfl, rfl, rfl⟩)
     ·obtain rfl : k = T.length := by omega
      simp only [dF (show ¬ (T.length : Int) < (T.length : Int) by omega), cond_false, rgC_nn, Bool.and_true, Bool.true_and, cond_true] at hn'
      exact (hn' _ _ _).trans (qq_ok ⟨hz0, rfl, rfl, by rw [← wdP_next]; rfl⟩)
    ·obtain ⟨b1', b2'⟩ := bad (by unfold ckT; rw [lenN_no c hz0, Bool.false_and, Bool.and_false])
     by_cases hzz : (T.getD i []).length = 0
     ·obtain ⟨u, hu, hr⟩ := tab_row hM c
      have hun : u = nilT := by
       rcases hr with ⟨_, h⟩ | ⟨h, _⟩
       ·exact h
       ·exact absurd (List.length_eq_zero_iff.1 hzz) h
      subst hun
      have q0 : isNilS nilT = true := rfl
      have q1 : (((0 : Nat) : Int) != (T.length : Int)) = true := neT (by omega)
      have hC := rdCN r b off T.length cap i (rgC T.length (wdP T i 0))
      simp only [Int.ofNat_eq_natCast, Int.toNat_natCast, b1, e0, hu, q0, q1, cond_true] at hC
      exact reach_hs (sh := 1) (Go.Ev.Reach.afterR (SS_ok r 1) (TOk.sh 1 TOk.nil) (tm := .nil) (L := 1) (L' := 1) (d := 1) hF hro h0' (.step (.step .base)) (o1 := ⟨lvE, [], fun _ _ _ => False⟩) [] (fun p hp => nomatch hp) (fun vs ms os hq => hq.elim) ((hC _ _ _ _).trans (qq_ok ⟨by rw [b1']; rfl, rfl, by rw [b2']; rfl⟩)))
     ·obtain ⟨b2, o2, c2, hu, hr⟩ := tab_RS hM c hzz
      have q1 : (((T.getD i []).length : Int) != (T.length : Int)) = true := neT (by omega)
      have hC := rdCR r b off T.length cap i (rgC T.length (wdP T i 0))
      simp only [Int.ofNat_eq_natCast, Int.toNat_natCast, b1, e0, hu, ro_RS, ln_RS, q1, cond_true] at hC
      exact reach_hs (sh := 2) (Go.Ev.Reach.afterR (SS_ok r 2) (TOk.sh 2 TOk.nil) (tm := .nil) (L := 1) (L' := 1) (d := 1) hF hro h0' (.step (.step .base)) (o1 := ⟨lvE, [], fun _ _ _ => False⟩) [] (fun p hp => nomatch hp) (fun vs ms os hq => hq.elim) ((hC _ _ _ _).trans (qq_ok ⟨by rw [b1']; rfl, rfl, by rw [b2']; rfl⟩)))
   ·obtain ⟨hz0, rfl, rfl, rfl⟩ := hq
    refine Go.Ev.Reach.segR (SC_ok r) TOk.nil (tm := .nil) (L := 1) (L' := 1) (d := 1) hF hro h0' [] (fun p hp => nomatch hp) ?_
    have hn' := rdE r b off T.length cap i (rgC T.length (wdP T (i + 1) 0))
    simp only [Int.ofNat_eq_natCast, rgC_nn, Bool.and_true, Bool.true_and, cond_true, w1 i (by omega)] at hn'
    exact (hn' _ _ _ _).trans (qq_ok ⟨T.length - (i + 1), by omega, i + 1, c, rfl, by simp only [lenN, hl, hz0, beq_self_eq_true, Bool.and_self], rfl, rfl, rfl⟩)
  ·obtain rfl : i = T.length := by omega
   simp only [dF (show ¬ (T.length : Int) < (T.length : Int) by omega), cond_false] at hB
   exact Go.Ev.Reach.afterR (SC_ok r) TOk.nil (tm := .nil) (L := 1) (L' := 1) (d := 1) hF hro h0' (.step .base) (o1 := ⟨lvD, [], fun _ _ _ => False⟩) [(0, ⟨[2, 5], [], fun vs ms os => ((1 ≤ T.length ∧ T.length ≤ 12) ∧ lenN T T.length = true) ∧ vs = [some (pq 0), some (pq 1)] ∧ ms = [] ∧ os = [oRg z13 0, oRg (rgC T.length (wdP T T.length 0)) 1]⟩)] (fun p hp => by simp only [List.mem_cons, List.not_mem_nil, or_false] at hp; subst hp; rfl) (fun vs ms os hq => hq.elim) ((hB _ _ _ _).trans (qq_ok ⟨⟨hn, hl⟩, rfl, rfl, rfl⟩))
 ·rintro vs ms os ⟨⟨hn, hl⟩, rfl, rfl, rfl⟩
  have hck : ckT T = fairB T T.length := by unfold ckT; rw [decide_eq_true hn, hl]; simp
  obtain ⟨t, ht, hrun⟩ := rd_end (r := r) (fun r => fair_ok (r := r) (wdP_T hn.2) hn.2) _ rfl
  have hE : E = ⟨[2, 3], [], fun vs ms os => vs = [some (pq 0), some (I (if fairB T T.length then 0 else 50))] ∧ ms = [] ∧ os = [oRg (if fairB T T.length then rgC T.length (wdP T T.length 0) else z13) 0]⟩ := by
   show (⟨[2, 3], [], _⟩ : Outs) = _
   rw [← hv, ← hz, ← hck]
   rfl
  rw [hE]
  exact Go.Ev.Reach.segR (SC_ok r) ht (L := 1) hF hro h0' [] (fun p hp => nomatch hp) (hrun _ _)
 ·have hn' := rdA r b off T.length cap
  simp only [Int.ofNat_eq_natCast] at hn'
  by_cases c : (T.length : Int) < 1
  ·simp only [dT c, cond_true] at hn'
   obtain ⟨b1, b2⟩ := bad (by unfold ckT; rw [decide_eq_false (by omega), Bool.false_and])
   exact (hn' _ _ _ _).trans (qq_ok ⟨by rw [b1]; rfl, rfl, by rw [b2]; rfl⟩)
  ·simp only [dF c, cond_false] at hn'
   by_cases c2 : (T.length : Int) > 12
   ·simp only [dT c2, cond_true] at hn'
    obtain ⟨b1, b2⟩ := bad (by unfold ckT; rw [decide_eq_false (by omega), Bool.false_and])
    exact (hn' _ _ _ _).trans (qq_ok ⟨by rw [b1]; rfl, rfl, by rw [b2]; rfl⟩)
   ·simp only [dF c2, cond_false] at hn'
    exact (hn' _ _ _ _).trans (qq_ok ⟨⟨by omega, by omega⟩, rfl, rfl, rfl⟩)
end

end Go.Proofs

/- The calls that read a table: what they answer. -/
namespace Go.Proofs
open Go Go.Ev Go.Num
set_option linter.unusedVariables false
set_option linter.unusedSimpArgs false
set_option maxRecDepth 100000

theorem rd_0 {T : List (List Bool)} (h : ckT T = true) : rdC T = rgC T.length (wdP T T.length 0) := if_pos h
theorem rd_5 {T : List (List Bool)} (h : ckT T = false) : rdC T = rgC 0 fun _ => 0 := by
 unfold rdC
 rw [h]
 rfl
theorem ck_n {T : List (List Bool)} (h : ckT T = true) : 1 ≤ T.length ∧ T.length ≤ 12 ∧ lenN T T.length = true := by
 unfold ckT at h
 simp only [Bool.and_eq_true, decide_eq_true_eq] at h
 exact ⟨h.1.1, h.1.2, h.2.1⟩
theorem rowI_g (l : List Int) : gnds (rowI l) = true := by
 unfold rowI
 induction l with
 | nil => rfl
 | cons a l ih => simp only [List.map_cons, gnds, ih, gnd, Bool.and_self]
theorem finRow (n k : Nat) (hn : n ≠ 0) (c : List Value) (hg : gnds c = true) (X : List Value) :
  finM (.tuple ⟨[.slice (some ⟨1, 0, none⟩) n k, I 0]⟩) (AW.mk 2 (.node (.node .nil (some (.cells c 3 1 1)) .nil) (some (.cells X 61 0 0)) .nil) .nil) = .ret (.tuple ⟨[.slice (some ⟨0, 0, none⟩) n k, I 0]⟩) (rowA c 3 1) := by
 unfold finM rowOf rowsOf row1
 have hb : Nat.beq n 0 = false := natFx hn
 simp only [hb, Bool.and_false]
 show guardK (gnds c) _ = _
 rw [hg]
 rfl
section
variable {r : Mem} {b off n cap : Nat} {T : List (List Bool)}
theorem eRd_ok (hM : TabM r b off T) (hn : T.length = n) (hn2 : n ≤ 1000) {m : Nat} {w : Nat → Nat} (hr : rdC T = rgC m w) {e : Int} (he : (if ckT T then (0 : Int) else 50) = e) : EOk (SC r) 37 (eSw [RS b off n cap] [.tuple ⟨[.agg ⟨rgC m w⟩, I e]⟩]) := EOk.ent fun args A hg => by
 have hs := @of_decide_eq_true _ (Classical.propDecidable _) hg
 subst hs
 have h := rd_ok (cap := cap) hM hn hn2
 rw [hr, he] at h
 exact h.ro rfl A
theorem sw_C (hM : TabM r b off T) (hn : T.length = n) (hn2 : n ≤ 1000) : GrT Tryz.prog r 18 [RS b off n cap] (I (if ckT T then 0 else 50)) := by
 obtain ⟨m, w, hr⟩ : ∃ m w, rdC T = rgC m w := by
  cases h : ckT T with
  | true => exact ⟨_, _, rd_0 h⟩
  | false => exact ⟨_, _, rd_5 h⟩
 exact GrT.of (SC_ok r) (TOk.nil.cons (eRd_ok hM hn hn2 hr rfl)) .nil rfl ⟨1, 1, (swC r b off n cap m w _ fin).trans (by rw [svv_rfl]; rfl)⟩
theorem sw_S (hM : TabM r b off T) (hn : T.length = n) (hn2 : n ≤ 1000) (hc : ckT T = true) : GrM Tryz.prog r 16 [RS b off n cap] (.tuple ⟨[owI 0 n, I 0]⟩) (rowA (ixN (scZ T) n) 3 1) := by
 obtain ⟨h1, h12, hl⟩ := ck_n hc
 have he : EOk (SC r) 38 (eRwK [.agg ⟨rgC T.length (wdP T T.length 0)⟩] T.length T.length (ixN (scZ T) T.length)) := fun args A hgd F hF k γ W args' hw hR ha => by
  refine ⟨fun hcc => ?_, fun h => nomatch h⟩
  have hs := @of_decide_eq_true _ (Classical.propDecidable _) hgd
  subst hs
  have hof : ofV 0 (owI 0 T.length) = true := by simp [ofV, of1]
  exact (sk_ok (r := r) h12 h1).ends (γ := γ) (A := A) hof (ix_gnd _ _) hF hw (hR.noG noG fun _ => rfl) (ha.of_ros rfl) ha
 subst hn
 refine GrM.of (SC_ok r) ((TOk.nil.cons (eRd_ok hM rfl hn2 (rd_0 hc) (if_pos hc))).cons he) .nil ⟨1, 1, (swS r b off T.length cap T.length (wdP T T.length 0) T.length (ixN (scZ T) T.length) finM).trans ?_⟩
 rw [svv_rfl, svv_rfl]
 exact finRow T.length T.length (by omega) (ixN (scZ T) T.length) (ix_gnd _ _) (rgC T.length (wdP T T.length 0))
theorem sw_Kn (hm : ∀ b j u, tabM b j = some u → r b j = some u) (hM : TabM r b off T) (hn : T.length = n) (hn2 : n ≤ 1000) (hc : ckT T = true) (hk : kgL T T.length = []) : GrT Tryz.prog r 17 [RS b off n cap] (.tuple ⟨[nilT, I 0]⟩) := by
 obtain ⟨h1, h12, hl⟩ := ck_n hc
 have he : EOk (SC r) 39 (eSw [.agg ⟨rgC T.length (wdP T T.length 0)⟩] [nilT]) := EOk.ent fun args A hg => by
  have hs := @of_decide_eq_true _ (Classical.propDecidable _) hg
  subst hs
  refine (GrT.ofS (C := SC r) rfl rfl rfl (SOk.mono (kf_S hm h12) fun v A h => ?_)).ro rfl A
  obtain ⟨os, h, hA⟩ := h
  rw [hk] at h
  rcases h with ⟨_, rfl, rfl⟩ | ⟨h, _⟩
  ·rfl
  ·exact absurd rfl h
 exact GrT.of (SC_ok r) ((TOk.nil.cons (eRd_ok hM hn hn2 (rd_0 hc) (if_pos hc))).cons he) .nil rfl ⟨1, 1, (swKn r b off n cap _ _ fin).trans (by rw [svv_rfl, svv_rfl]; rfl)⟩
theorem sw_Ko (hm : ∀ b j u, tabM b j = some u → r b j = some u) (hM : TabM r b off T) (hn : T.length = n) (hn2 : n ≤ 1000) (hc : ckT T = true) (hk : kgL T T.length ≠ []) : GrM Tryz.prog r 17 [RS b off n cap] (.tuple ⟨[gwT 0 (kgL T T.length).length, I 0]⟩) (rowA (rowI (kgL T T.length)) 3 1) := by
 obtain ⟨h1, h12, hl⟩ := ck_n hc
 have hlen : (kgL T T.length).length ≠ 0 := fun h => hk (List.length_eq_zero_iff.1 h)
 have hS : GrM Tryz.prog r 39 [.agg ⟨cT T⟩] (gwT 0 (kgL T T.length).length) (rowA (rowI (kgL T T.length)) 3 1) := GrM.ofS (C := SC r) rfl rfl (SOk.mono (kf_S hm h12) fun v A h => by
  obtain ⟨os, h, hA⟩ := h
  rcases h with ⟨h, _⟩ | ⟨_, rfl, rfl⟩
  ·exact absurd h hk
  ·exact ⟨rfl, hA⟩)
 have he : EOk (SC r) 39 (eRwK [.agg ⟨rgC T.length (wdP T T.length 0)⟩] (kgL T T.length).length unk (rowI (kgL T T.length))) := fun args A hgd F hF k γ W args' hw hR ha => by
  refine ⟨fun hcc => ?_, fun h => nomatch h⟩
  have hs := @of_decide_eq_true _ (Classical.propDecidable _) hgd
  subst hs
  have hof : ofV 0 (gwT 0 (kgL T T.length).length) = true := by simp [ofV, of1]
  exact hS.ends (γ := γ) (A := A) hof (rowI_g _) hF hw (hR.noG noG fun _ => rfl) (ha.of_ros rfl) ha
 refine GrM.of (SC_ok r) ((TOk.nil.cons (eRd_ok hM hn hn2 (rd_0 hc) (if_pos hc))).cons he) .nil ⟨1, 1, (swKo r b off n cap T.length (wdP T T.length 0) _ (rowI (kgL T T.length)) finM).trans ?_⟩
 rw [svv_rfl, svv_rfl]
 exact finRow (kgL T T.length).length unk hlen (rowI (kgL T T.length)) (rowI_g _) (rgC T.length (wdP T T.length 0))
theorem t5_ok (hM : TabM r b off T) (hn : T.length = n) (hn2 : n ≤ 1000) (hc : ckT T = false) : TOk (SC r) (tRd (RS b off n cap) 0 (fun _ => 0) 50) := TOk.nil.cons (eRd_ok hM hn hn2 (rd_5 hc) (by rw [hc]; rfl))
variable (hM : TabM r b off T) (hn : T.length = n) (hn2 : n ≤ 1000) (hc : ckT T = false)
include hM hn hn2 hc
theorem sw_Se : GrT Tryz.prog r 16 [RS b off n cap] (.tuple ⟨[nilT, I 50]⟩) :=
 GrT.of (SC_ok r) (t5_ok hM hn hn2 hc) .nil rfl ⟨1, 1, (swSe r b off n cap _ _ fin).trans (by rw [svv_rfl]; rfl)⟩
theorem sw_Ke : GrT Tryz.prog r 17 [RS b off n cap] (.tuple ⟨[nilT, I 50]⟩) :=
 GrT.of (SC_ok r) (t5_ok hM hn hn2 hc) .nil rfl ⟨1, 1, (swKe r b off n cap _ _ fin).trans (by rw [svv_rfl]; rfl)⟩
theorem sw_Le : GrT Tryz.prog r 20 [RS b off n cap] (.tuple ⟨[nilT, I 50]⟩) :=
 GrT.of (SC_ok r) (t5_ok hM hn hn2 hc) .nil rfl ⟨1, 1, (swLe r b off n cap _ _ fin).trans (by rw [svv_rfl]; rfl)⟩
theorem sw_Re : GrT Tryz.prog r 21 [RS b off n cap] (.tuple ⟨[nilT, .bool false, I 50]⟩) :=
 GrT.of (SC_ok r) (t5_ok hM hn hn2 hc) .nil rfl ⟨1, 1, (swRe r b off n cap _ _ fin).trans (by rw [svv_rfl]; rfl)⟩
theorem sw_Be : GrT Tryz.prog r 22 [RS b off n cap] (.tuple ⟨[nilT, .bool false, I 50]⟩) :=
 GrT.of (SC_ok r) (t5_ok hM hn hn2 hc) .nil rfl ⟨1, 1, (swBe r b off n cap _ _ fin).trans (by rw [svv_rfl]; rfl)⟩
theorem sw_Te : GrT Tryz.prog r 23 [RS b off n cap] (.tuple ⟨[I 0, I 50]⟩) :=
 GrT.of (SC_ok r) (t5_ok hM hn hn2 hc) .nil rfl ⟨1, 1, (swTe r b off n cap _ _ fin).trans (by rw [svv_rfl]; rfl)⟩
theorem sw_3e : GrT Tryz.prog r 24 [RS b off n cap] (.tuple ⟨[.agg ⟨[I 0, I 0, I 0]⟩, .bool false, I 50]⟩) :=
 GrT.of (SC_ok r) (t5_ok hM hn hn2 hc) .nil rfl ⟨1, 1, (sw3e r b off n cap _ _ fin).trans (by rw [svv_rfl]; rfl)⟩
theorem sw_Ne : GrT Tryz.prog r 25 [RS b off n cap] (.tuple ⟨[nilT, I 0, I 50]⟩) :=
 GrT.of (SC_ok r) (t5_ok hM hn hn2 hc) .nil rfl ⟨1, 1, (swNe r b off n cap _ _ fin).trans (by rw [svv_rfl]; rfl)⟩
end

end Go.Proofs

/- The law of checks, run. -/
namespace Go.Proofs
open Go Go.Ev Go.Num
set_option linter.unusedVariables false
set_option linter.unusedSimpArgs false
set_option maxRecDepth 100000

noncomputable def cLW : Code := bodyOf S0 4
noncomputable def LW_0 : Code := lc cLW
noncomputable def LW_1 : Code := lc (rc cLW)
noncomputable def LW_2 : Code := rc (rc cLW)
theorem LW_eq : cLW = .seq LW_0 (.seq LW_1 LW_2) := by kernel_rfl
noncomputable def eTb (m : Nat) (c : List Value) (v : List Value) : Ent := ent (fun args A => gTab m c args A) fun _ _ => match v with
 | [u] => u
 | _ => undef
noncomputable def eTbT (m : Nat) (c : List Value) (n k : Nat) (s : List Value) : Ent := ⟨fun args A => gTab m c args A, fun _ _ => true, fun _ A => .tuple ⟨[.slice (some ⟨A.next, 0, none⟩) n k, I 0]⟩, fun _ A => A.new (.cells s 3 A.next 1), fun _ _ => undef, fun _ A => A⟩
noncomputable def eTbS (m : Nat) (c : List Value) (n k : Nat) (s : List Value) : Ent := ⟨fun args A => gTab m c args A, fun _ _ => true, fun _ A => .slice (some ⟨A.next, 0, none⟩) n k, fun _ A => A.new (.cells s 3 A.next 1), fun _ _ => undef, fun _ A => A⟩
noncomputable def m_two (l l2 p p2 : Nat) (ci cj : List Value) : Bool := @decide (l = l2 ∧ l ≤ 1000 ∧ p ≠ unkE ∧ p2 ≠ unkE ∧ ∃ z : Nat → Int, ∀ j, j < l → ci[j]? = some (I (z j)) ∧ cj[j]? = some (I (z j))) (Classical.propDecidable _)
noncomputable def gInt (args : List Value) (A : AW) : Bool := match args with
 | [.slice none _ _, .slice none _ _] => m_svv args [nilT, nilT]
 | [.slice (some ⟨i, 0, none⟩) l p, .slice (some ⟨j, 0, none⟩) l2 p2] => match A.heap.get i with
  | some (.cells ci _ _ _) => match A.heap.get j with
   | some (.cells cj _ _ _) => m_two l l2 p p2 ci cj
   | _ => false
  | _ => false
 | _ => false
noncomputable def eIn : Ent := ent gInt fun _ _ => .bool true
noncomputable def tAw : Tbl := tcons 10 (e0 (.bool true)) fun _ => none
noncomputable def tL0 (m : Nat) (c : List Value) (q : Nat) (s : List Value) : Tbl := tcons 13 (eTb m c [I 0]) (tcons 18 (eTb m c [I 0]) (tcons 16 (eTbT m c q q s) (tcons 15 (eTbS m c q unk s) (tcons 14 eIn tAw))))
noncomputable def tLn (m : Nat) (c : List Value) (q : Nat) (s : List Value) : Tbl := tcons 17 (eTb m c [.tuple ⟨[nilT, I 0]⟩]) (tcons 19 (eTb m c [nilT]) (tL0 m c q s))
noncomputable def tLo (m : Nat) (c : List Value) (q : Nat) (s : List Value) (q2 : Nat) (s2 : List Value) : Tbl := tcons 17 (eTbT m c q2 unk s2) (tcons 19 (eTbS m c q2 unk s2) (tL0 m c q s))
noncomputable def tLe (m : Nat) (c : List Value) : Tbl := tcons 13 (eTb m c [I 50]) (tcons 18 (eTb m c [I 50]) (tcons 16 (eTb m c [.tuple ⟨[nilT, I 50]⟩]) (tcons 17 (eTb m c [.tuple ⟨[nilT, I 50]⟩]) (tcons 20 (eTb m c [.tuple ⟨[nilT, I 50]⟩]) (tcons 21 (eTb m c [.tuple ⟨[nilT, .bool false, I 50]⟩]) (tcons 22 (eTb m c [.tuple ⟨[nilT, .bool false, I 50]⟩]) (tcons 23 (eTb m c [.tuple ⟨[I 0, I 50]⟩]) (tcons 24 (eTb m c [.tuple ⟨[.agg ⟨[I 0, I 0, I 0]⟩, .bool false, I 50]⟩]) (tcons 25 (eTb m c [.tuple ⟨[nilT, I 0, I 50]⟩]) tAw)))))))))
def enL (b off n cap : Nat) : List (Nat × Value) × Tr Value := ([(25, RS b off n cap)], bT [0] [some (RS b off n cap)] .nil)

theorem slA (r : Mem) (b off n cap : Nat) (fs : FnsC) (K : OV → List Nat → OO → CR) (kx : Nat → KS) (kr : KS) : run (SC r) 33554429 178 1 LW_0 fs none (rbK 0 [0] [] K) kx kr (sc0 33554429 [RS b off n cap]) (tr0 33554429 [RS b off n cap]) [] emptyA =
    K [some (.slice (some ⟨b, off, some 0⟩) n cap)] [] [] := by kernel_rfl

theorem slB (r : Mem) (b off n cap : Nat) (fs : FnsC) (K : KS) : preK (SC r) 33554429 178 LW_1 1 fs K [] (bT [0] [some (RS b off n cap)] .nil) [] (mkA []) =
    K [(25, .slice (some ⟨b, off, some 0⟩) n cap)] (.node .nil (some (.slice (some ⟨b, off, some 0⟩) n cap)) .nil) [] (AW.mk 0 .nil .nil) := by kernel_rfl

theorem slC (r : Mem) (b off n cap m : Nat) (c : List Value) (fs : FnsC) (K : OV → List Nat → OO → CR) : tailK (SC r) 33554429 178 LW_1 1 fs (rbK 0 [3] [] K) (gwT 0 m) (enL b off n cap).1 (enL b off n cap).2 [] (mkA [oTb c 0]) =
    bif m_nns c && true then K [some (.slice (some ⟨0, 0, none⟩) m unk)] [] [some (.cells c 69 0 1)] else .fail 420 := by kernel_rfl

theorem slD0 (r : Mem) (m : Nat) (c : List Value) (q : Nat) (s : List Value) (KR : OV → List Nat → OO → CR) (kn : KS) (kx : Nat → KS) : run (SC r) 33554429 178 1 LW_2 (lvlT (SC r) (tLn m c q s) .nil 1 1) none kn kx (rbK 0 [2] [] KR) [] (bT [3] [some (gwT 0 m)] .nil) [] (mkA [oTb c 0]) =
    bif m_svv [.slice (some ⟨0, 0, none⟩) m unk, .agg ⟨c⟩] [.slice (some ⟨0, 0, none⟩) m unk, .agg ⟨c⟩] then bif m_svv [.slice (some ⟨0, 0, none⟩) m unk, .agg ⟨c⟩] [.slice (some ⟨0, 0, none⟩) m unk, .agg ⟨c⟩] then bif m_svv [.slice (some ⟨0, 0, none⟩) m unk, .agg ⟨c⟩] [.slice (some ⟨0, 0, none⟩) m unk, .agg ⟨c⟩] then bif m_svv [.slice (some ⟨0, 0, none⟩) m unk, .agg ⟨c⟩] [.slice (some ⟨0, 0, none⟩) m unk, .agg ⟨c⟩] then bif m_svv [.slice (some ⟨0, 0, none⟩) m unk, .agg ⟨c⟩] [.slice (some ⟨0, 0, none⟩) m unk, .agg ⟨c⟩] then bif m_two q q q unk s s then bif m_svv [.slice (some ⟨0, 0, none⟩) m unk, .agg ⟨c⟩] [.slice (some ⟨0, 0, none⟩) m unk, .agg ⟨c⟩] then bif m_svv [.slice none 0 0, .slice none 0 0] [.slice none 0 0, .slice none 0 0] then KR [some (.bool true)] [] [] else .fail 420 else .fail 420 else .fail 420 else .fail 420 else .fail 420 else .fail 420 else .fail 420 else .fail 420 := by kernel_rfl

theorem slD1 (r : Mem) (m : Nat) (c : List Value) (q : Nat) (s : List Value) (q2 : Nat) (s2 : List Value) (KR : OV → List Nat → OO → CR) (kn : KS) (kx : Nat → KS) : run (SC r) 33554429 178 1 LW_2 (lvlT (SC r) (tLo m c q s q2 s2) .nil 1 1) none kn kx (rbK 0 [2] [] KR) [] (bT [3] [some (gwT 0 m)] .nil) [] (mkA [oTb c 0]) =
    bif m_svv [.slice (some ⟨0, 0, none⟩) m unk, .agg ⟨c⟩] [.slice (some ⟨0, 0, none⟩) m unk, .agg ⟨c⟩] then bif m_svv [.slice (some ⟨0, 0, none⟩) m unk, .agg ⟨c⟩] [.slice (some ⟨0, 0, none⟩) m unk, .agg ⟨c⟩] then bif m_svv [.slice (some ⟨0, 0, none⟩) m unk, .agg ⟨c⟩] [.slice (some ⟨0, 0, none⟩) m unk, .agg ⟨c⟩] then bif m_svv [.slice (some ⟨0, 0, none⟩) m unk, .agg ⟨c⟩] [.slice (some ⟨0, 0, none⟩) m unk, .agg ⟨c⟩] then bif m_svv [.slice (some ⟨0, 0, none⟩) m unk, .agg ⟨c⟩] [.slice (some ⟨0, 0, none⟩) m unk, .agg ⟨c⟩] then bif m_two q q q unk s s then bif m_svv [.slice (some ⟨0, 0, none⟩) m unk, .agg ⟨c⟩] [.slice (some ⟨0, 0, none⟩) m unk, .agg ⟨c⟩] then bif m_two q2 q2 unk unk s2 s2 then KR [some (.bool true)] [] [] else .fail 420 else .fail 420 else .fail 420 else .fail 420 else .fail 420 else .fail 420 else .fail 420 else .fail 420 := by kernel_rfl

theorem slDe (r : Mem) (m : Nat) (c : List Value) (KR : OV → List Nat → OO → CR) (kn : KS) (kx : Nat → KS) : run (SC r) 33554429 178 1 LW_2 (lvlT (SC r) (tLe m c) .nil 1 1) none kn kx (rbK 0 [2] [] KR) [] (bT [3] [some (gwT 0 m)] .nil) [] (mkA [oTb c 0]) =
    bif m_svv [.slice (some ⟨0, 0, none⟩) m unk, .agg ⟨c⟩] [.slice (some ⟨0, 0, none⟩) m unk, .agg ⟨c⟩] then bif m_svv [.slice (some ⟨0, 0, none⟩) m unk, .agg ⟨c⟩] [.slice (some ⟨0, 0, none⟩) m unk, .agg ⟨c⟩] then bif m_svv [.slice (some ⟨0, 0, none⟩) m unk, .agg ⟨c⟩] [.slice (some ⟨0, 0, none⟩) m unk, .agg ⟨c⟩] then bif m_svv [.slice (some ⟨0, 0, none⟩) m unk, .agg ⟨c⟩] [.slice (some ⟨0, 0, none⟩) m unk, .agg ⟨c⟩] then bif m_svv [.slice (some ⟨0, 0, none⟩) m unk, .agg ⟨c⟩] [.slice (some ⟨0, 0, none⟩) m unk, .agg ⟨c⟩] then bif m_svv [.slice (some ⟨0, 0, none⟩) m unk, .agg ⟨c⟩] [.slice (some ⟨0, 0, none⟩) m unk, .agg ⟨c⟩] then bif m_svv [.slice (some ⟨0, 0, none⟩) m unk, .agg ⟨c⟩] [.slice (some ⟨0, 0, none⟩) m unk, .agg ⟨c⟩] then bif m_svv [.slice (some ⟨0, 0, none⟩) m unk, .agg ⟨c⟩] [.slice (some ⟨0, 0, none⟩) m unk, .agg ⟨c⟩] then bif m_svv [.slice (some ⟨0, 0, none⟩) m unk, .agg ⟨c⟩] [.slice (some ⟨0, 0, none⟩) m unk, .agg ⟨c⟩] then bif m_svv [.slice (some ⟨0, 0, none⟩) m unk, .agg ⟨c⟩] [.slice (some ⟨0, 0, none⟩) m unk, .agg ⟨c⟩] then KR [some (.bool true)] [] [] else .fail 420 else .fail 420 else .fail 420 else .fail 420 else .fail 420 else .fail 420 else .fail 420 else .fail 420 else .fail 420 else .fail 420 := by kernel_rfl

end Go.Proofs

/- Calls of nothing, run. -/
namespace Go.Proofs
open Go Go.Ev Go.Num
set_option linter.unusedVariables false
set_option linter.unusedSimpArgs false
set_option maxRecDepth 100000

noncomputable def tNl (x z : Value) : Tbl := tcons 12 (eSw [x] [nilT]) (tcons 13 (eSw [z] [I 50]) (tcons 18 (eSw [z] [I 50]) (tcons 16 (eSw [z] [.tuple ⟨[nilT, I 50]⟩]) (tcons 17 (eSw [z] [.tuple ⟨[nilT, I 50]⟩]) (tcons 20 (eSw [z] [.tuple ⟨[nilT, I 50]⟩]) (tcons 21 (eSw [z] [.tuple ⟨[nilT, .bool false, I 50]⟩]) (tcons 22 (eSw [z] [.tuple ⟨[nilT, .bool false, I 50]⟩]) (tcons 23 (eSw [z] [.tuple ⟨[I 0, I 50]⟩]) (tcons 24 (eSw [z] [.tuple ⟨[.agg ⟨[I 0, I 0, I 0]⟩, .bool false, I 50]⟩]) (tcons 25 (eSw [z] [.tuple ⟨[nilT, I 0, I 50]⟩]) tAw))))))))))

theorem sn_tb (r : Mem) : (lvlT (SC r) (fun _ => none) .nil 2 8).call 12 [nilT] emptyA fin =
    .ret (.slice none 0 0) (AW.mk 0 .nil .nil) := by kernel_rfl

theorem sn_rc (r : Mem) : (lvlT (SC r) (fun _ => none) .nil 2 8).call 13 [nilT] emptyA fin =
    .ret (I (Int.ofNat 50)) (AW.mk 0 .nil .nil) := by kernel_rfl

theorem sn_rd (r : Mem) : (lvlT (SC r) (fun _ => none) .nil 2 8).call 37 [nilT] emptyA fin =
    .ret (.tuple ⟨[.agg ⟨[I (Int.ofNat 0), .int .u64 (Int.ofNat 0), .int .u64 (Int.ofNat 0), .int .u64 (Int.ofNat 0), .int .u64 (Int.ofNat 0), .int .u64 (Int.ofNat 0), .int .u64 (Int.ofNat 0), .int .u64 (Int.ofNat 0), .int .u64 (Int.ofNat 0), .int .u64 (Int.ofNat 0), .int .u64 (Int.ofNat 0), .int .u64 (Int.ofNat 0), .int .u64 (Int.ofNat 0)]⟩, I (Int.ofNat 50)]⟩) (AW.mk 0 .nil .nil) := by kernel_rfl

theorem sn_ck (r : Mem) : (lvlT (SC r) (fun _ => none) .nil 2 8).call 18 [nilT] emptyA fin =
    .ret (I (Int.ofNat 50)) (AW.mk 0 .nil .nil) := by kernel_rfl

theorem sn_sc (r : Mem) : (lvlT (SC r) (fun _ => none) .nil 2 8).call 16 [nilT] emptyA fin =
    .ret (.tuple ⟨[.slice none 0 0, I (Int.ofNat 50)]⟩) (AW.mk 0 .nil .nil) := by kernel_rfl

theorem sn_kg (r : Mem) : (lvlT (SC r) (fun _ => none) .nil 2 8).call 17 [nilT] emptyA fin =
    .ret (.tuple ⟨[.slice none 0 0, I (Int.ofNat 50)]⟩) (AW.mk 0 .nil .nil) := by kernel_rfl

theorem sn_li (r : Mem) : (lvlT (SC r) (fun _ => none) .nil 2 8).call 20 [nilT] emptyA fin =
    .ret (.tuple ⟨[.slice none 0 0, I (Int.ofNat 50)]⟩) (AW.mk 0 .nil .nil) := by kernel_rfl

theorem sn_ri (r : Mem) : (lvlT (SC r) (fun _ => none) .nil 2 8).call 21 [nilT] emptyA fin =
    .ret (.tuple ⟨[.slice none 0 0, .bool false, I (Int.ofNat 50)]⟩) (AW.mk 0 .nil .nil) := by kernel_rfl

theorem sn_bl (r : Mem) : (lvlT (SC r) (fun _ => none) .nil 2 8).call 22 [nilT] emptyA fin =
    .ret (.tuple ⟨[.slice none 0 0, .bool false, I (Int.ofNat 50)]⟩) (AW.mk 0 .nil .nil) := by kernel_rfl

theorem sn_tr (r : Mem) : (lvlT (SC r) (fun _ => none) .nil 2 8).call 23 [nilT] emptyA fin =
    .ret (.tuple ⟨[I (Int.ofNat 0), I (Int.ofNat 50)]⟩) (AW.mk 0 .nil .nil) := by kernel_rfl

theorem sn_th (r : Mem) : (lvlT (SC r) (fun _ => none) .nil 2 8).call 24 [nilT] emptyA fin =
    .ret (.tuple ⟨[.agg ⟨[I (Int.ofNat 0), I (Int.ofNat 0), I (Int.ofNat 0)]⟩, .bool false, I (Int.ofNat 50)]⟩) (AW.mk 0 .nil .nil) := by kernel_rfl

theorem sn_ra (r : Mem) : (lvlT (SC r) (fun _ => none) .nil 2 8).call 25 [nilT] emptyA fin =
    .ret (.tuple ⟨[.slice none 0 0, I (Int.ofNat 0), I (Int.ofNat 50)]⟩) (AW.mk 0 .nil .nil) := by kernel_rfl

theorem sn_t0 (r : Mem) (b off cap : Nat) : (lvlT (SC r) (fun _ => none) .nil 2 8).call 12 [RS b off 0 cap] emptyA fin =
    .ret (.slice none 0 0) (AW.mk 0 .nil .nil) := by kernel_rfl

theorem slN (r : Mem) (z : Value) : (lvlT (SC r) (tNl z z) .nil 2 8).call 4 [nilT] emptyA fin =
    bif m_svv [.slice none 0 0] [z] then bif m_svv [.slice none 0 0] [z] then bif m_svv [.slice none 0 0] [z] then bif m_svv [.slice none 0 0] [z] then bif m_svv [.slice none 0 0] [z] then bif m_svv [.slice none 0 0] [z] then bif m_svv [.slice none 0 0] [z] then bif m_svv [.slice none 0 0] [z] then bif m_svv [.slice none 0 0] [z] then bif m_svv [.slice none 0 0] [z] then bif m_svv [.slice none 0 0] [z] then .ret (.bool true) (AW.mk 0 .nil .nil) else .fail 420 else .fail 420 else .fail 420 else .fail 420 else .fail 420 else .fail 420 else .fail 420 else .fail 420 else .fail 420 else .fail 420 else .fail 420 := by kernel_rfl

theorem sl0 (r : Mem) (b off cap : Nat) (z : Value) : (lvlT (SC r) (tNl (RS b off 0 cap) z) .nil 2 8).call 4 [RS b off 0 cap] emptyA fin =
    bif m_svv [.slice (some ⟨b, off, some 0⟩) 0 cap] [.slice (some ⟨b, off, some 0⟩) 0 cap] then bif m_svv [.slice none 0 0] [z] then bif m_svv [.slice none 0 0] [z] then bif m_svv [.slice none 0 0] [z] then bif m_svv [.slice none 0 0] [z] then bif m_svv [.slice none 0 0] [z] then bif m_svv [.slice none 0 0] [z] then bif m_svv [.slice none 0 0] [z] then bif m_svv [.slice none 0 0] [z] then bif m_svv [.slice none 0 0] [z] then bif m_svv [.slice none 0 0] [z] then .ret (.bool true) (AW.mk 0 .nil .nil) else .fail 420 else .fail 420 else .fail 420 else .fail 420 else .fail 420 else .fail 420 else .fail 420 else .fail 420 else .fail 420 else .fail 420 else .fail 420 := by kernel_rfl

end Go.Proofs

