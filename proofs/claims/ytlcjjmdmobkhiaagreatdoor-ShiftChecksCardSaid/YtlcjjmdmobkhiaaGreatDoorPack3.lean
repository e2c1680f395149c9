/- What the claim is proved with, part 3: the evaluator and the contracts of the calls. -/
import Derived.Test.YtlcjjmdmobkhiaaGreatDoorPack2
import Derived.Test.YtlcjjmdmobkhiaaGreatDoorPack1
import Derived.Test.YtlcjjmdmobkhiaaGreatDoorEvOwn
import Derived.Test.YtlcjjmdmobkhiaaGreatDoorEvSetB
import Derived.Shelf.SlSortCmp.Whole1
import Derived.Test.YtlcjjmdmobkhiaaGreatDoorSymBase
import Derived.Shelf.Lay
/- read, of an order: run. -/
namespace Go.Proofs
open Go Go.Ev Go.Num
set_option linter.unusedVariables false
set_option linter.unusedSimpArgs false
set_option maxRecDepth 100000

noncomputable def cORd : Code := bodyOf S0 23
noncomputable def ORd_0 : Code := (lc cORd)
noncomputable def ORd_1 : Code := (lc (rc cORd))
noncomputable def ORd_2 : Code := (lc (rc (rc cORd)))
noncomputable def ORd_3 : Code := (lc (lc (rc (rc (rc cORd)))))
noncomputable def ORd_4 : Code := (lc (ic (ic (rc (lc (rc (rc (rc cORd))))))))
noncomputable def ORd_5 : Code := (lc (rc (ic (ic (rc (lc (rc (rc (rc cORd)))))))))
noncomputable def ORd_6 : Code := (lc (ic (lc (rc (rc (ic (ic (rc (lc (rc (rc (rc cORd))))))))))))
noncomputable def ORd_7 : Code := (lc (rc (ic (lc (rc (rc (ic (ic (rc (lc (rc (rc (rc cORd)))))))))))))
noncomputable def ORd_8 : Code := (lc (rc (rc (ic (lc (rc (rc (ic (ic (rc (lc (rc (rc (rc cORd))))))))))))))
noncomputable def ORd_9 : Code := (ic (ic (rc (rc (rc (ic (lc (rc (rc (ic (ic (rc (lc (rc (rc (rc cORd))))))))))))))))
noncomputable def ORd_10 : Code := (rc (rc (rc (ic (ic (rc (lc (rc (rc (rc cORd))))))))))
noncomputable def ORd_11 : Code := (rc (rc (rc (rc cORd))))
theorem ORd_eq : cORd = (.seq ORd_0 (.seq ORd_1 (.seq ORd_2 (.seq (.seq ORd_3 (.block 0 (.loop (.seq ORd_4 (.seq ORd_5 (.seq (.block 1 (.seq ORd_6 (.seq ORd_7 (.seq ORd_8 (.block 2 (.loop ORd_9)))))) ORd_10)))))) ORd_11)))) := by kernel_rfl
abbrev V (z : Int) : Value := .int .u16 z
abbrev pq (i : Nat) : Value := .pointer (some ⟨i, 0, none⟩)
def oOr (c : List Value) (i : Nat) : Option AObj := some (.cells c 52 i 0)
def z25 : List Value := [I 0, V 0, V 0, V 0, V 0, V 0, V 0, V 0, V 0, V 0, V 0, V 0, V 0, V 0, V 0, V 0, V 0, V 0, V 0, V 0, V 0, V 0, V 0, V 0, V 0]
def lvOD : List Nat := [2, 4, 21, 22, 23]
def vOD (b off n cap i : Nat) : OV := [some (pq 0), some (pq 1), some (RS b off n cap), some (I (n : Nat)), some (I (i : Nat))]
def lvOE : List Nat := [2, 4, 5, 21, 22, 23, 34, 35, 36]
def vOE (b off n cap i b2 o2 l c2 k : Nat) : OV := [some (pq 0), some (pq 1), some (I (i : Nat)), some (RS b off n cap), some (I (n : Nat)), some (I (i : Nat)), some (RS b2 o2 l c2), some (I (l : Nat)), some (I (k : Nat))]

theorem odA (r : Mem) (b off n cap : Nat) (fs : FnsC) (K : OV → List Nat → OO → CR) (kx : Nat → KS) (KR : OV → List Nat → OO → CR) : run (SC r) 120273764861 52 1 (.seq ORd_0 (.seq ORd_1 (.seq ORd_2 ORd_3))) fs none (rbK 0 lvOD [] K) kx (rbK 0 [2, 3] [] KR) (sc0 120273764861 [RS b off n cap]) (tr0 120273764861 [RS b off n cap]) [] emptyA =
    bif decide (Int.ofNat n < 1) then KR [some (.pointer (some ⟨0, 0, none⟩)), some (I (Int.ofNat 100))] [] [some (.cells [I (Int.ofNat 0), .int .u16 (Int.ofNat 0), .int .u16 (Int.ofNat 0), .int .u16 (Int.ofNat 0), .int .u16 (Int.ofNat 0), .int .u16 (Int.ofNat 0), .int .u16 (Int.ofNat 0), .int .u16 (Int.ofNat 0), .int .u16 (Int.ofNat 0), .int .u16 (Int.ofNat 0), .int .u16 (Int.ofNat 0), .int .u16 (Int.ofNat 0), .int .u16 (Int.ofNat 0), .int .u16 (Int.ofNat 0), .int .u16 (Int.ofNat 0), .int .u16 (Int.ofNat 0), .int .u16 (Int.ofNat 0), .int .u16 (Int.ofNat 0), .int .u16 (Int.ofNat 0), .int .u16 (Int.ofNat 0), .int .u16 (Int.ofNat 0), .int .u16 (Int.ofNat 0), .int .u16 (Int.ofNat 0), .int .u16 (Int.ofNat 0), .int .u16 (Int.ofNat 0)] 52 0 0)] else bif decide (Int.ofNat n > 12) then KR [some (.pointer (some ⟨0, 0, none⟩)), some (I (Int.ofNat 100))] [] [some (.cells [I (Int.ofNat 0), .int .u16 (Int.ofNat 0), .int .u16 (Int.ofNat 0), .int .u16 (Int.ofNat 0), .int .u16 (Int.ofNat 0), .int .u16 (Int.ofNat 0), .int .u16 (Int.ofNat 0), .int .u16 (Int.ofNat 0), .int .u16 (Int.ofNat 0), .int .u16 (Int.ofNat 0), .int .u16 (Int.ofNat 0), .int .u16 (Int.ofNat 0), .int .u16 (Int.ofNat 0), .int .u16 (Int.ofNat 0), .int .u16 (Int.ofNat 0), .int .u16 (Int.ofNat 0), .int .u16 (Int.ofNat 0), .int .u16 (Int.ofNat 0), .int .u16 (Int.ofNat 0), .int .u16 (Int.ofNat 0), .int .u16 (Int.ofNat 0), .int .u16 (Int.ofNat 0), .int .u16 (Int.ofNat 0), .int .u16 (Int.ofNat 0), .int .u16 (Int.ofNat 0)] 52 0 0)] else K [some (.pointer (some ⟨0, 0, none⟩)), some (.pointer (some ⟨1, 0, none⟩)), some (.slice (some ⟨b, off, some 0⟩) n cap), some (I (Int.ofNat n)), some (I (Int.ofNat 0))] [] [some (.cells [I (Int.ofNat 0), .int .u16 (Int.ofNat 0), .int .u16 (Int.ofNat 0), .int .u16 (Int.ofNat 0), .int .u16 (Int.ofNat 0), .int .u16 (Int.ofNat 0), .int .u16 (Int.ofNat 0), .int .u16 (Int.ofNat 0), .int .u16 (Int.ofNat 0), .int .u16 (Int.ofNat 0), .int .u16 (Int.ofNat 0), .int .u16 (Int.ofNat 0), .int .u16 (Int.ofNat 0), .int .u16 (Int.ofNat 0), .int .u16 (Int.ofNat 0), .int .u16 (Int.ofNat 0), .int .u16 (Int.ofNat 0), .int .u16 (Int.ofNat 0), .int .u16 (Int.ofNat 0), .int .u16 (Int.ofNat 0), .int .u16 (Int.ofNat 0), .int .u16 (Int.ofNat 0), .int .u16 (Int.ofNat 0), .int .u16 (Int.ofNat 0), .int .u16 (Int.ofNat 0)] 52 0 0), some (.cells [I (Int.ofNat n), .int .u16 (Int.ofNat 0), .int .u16 (Int.ofNat 0), .int .u16 (Int.ofNat 0), .int .u16 (Int.ofNat 0), .int .u16 (Int.ofNat 0), .int .u16 (Int.ofNat 0), .int .u16 (Int.ofNat 0), .int .u16 (Int.ofNat 0), .int .u16 (Int.ofNat 0), .int .u16 (Int.ofNat 0), .int .u16 (Int.ofNat 0), .int .u16 (Int.ofNat 0), .int .u16 (Int.ofNat 0), .int .u16 (Int.ofNat 0), .int .u16 (Int.ofNat 0), .int .u16 (Int.ofNat 0), .int .u16 (Int.ofNat 0), .int .u16 (Int.ofNat 0), .int .u16 (Int.ofNat 0), .int .u16 (Int.ofNat 0), .int .u16 (Int.ofNat 0), .int .u16 (Int.ofNat 0), .int .u16 (Int.ofNat 0), .int .u16 (Int.ofNat 0)] 52 1 0)] := by kernel_rfl

theorem odB (r : Mem) (b off n cap i : Nat) (c : List Value) (fs : FnsC) (K : OV → List Nat → OO → CR) (KX : Nat → OV → List Nat → OO → CR) (kr : KS) : run (SC r) 120273764861 52 1 (.seq ORd_4 ORd_5) fs none (rbK 0 lvOD [] K) (fun j => rbK 0 [2, 4] [] (KX j)) kr [] (bT lvOD (vOD b off n cap i) .nil) [] (mkA [oOr z25 0, oOr c 1]) =
    bif decide (Int.ofNat i < Int.ofNat n) then bif true && (m_nns c && true) then K [some (.pointer (some ⟨0, 0, none⟩)), some (.pointer (some ⟨1, 0, none⟩)), some (.slice (some ⟨b, off, some 0⟩) n cap), some (I (Int.ofNat n)), some (I (Int.ofNat i))] [] [some (.cells [I (Int.ofNat 0), .int .u16 (Int.ofNat 0), .int .u16 (Int.ofNat 0), .int .u16 (Int.ofNat 0), .int .u16 (Int.ofNat 0), .int .u16 (Int.ofNat 0), .int .u16 (Int.ofNat 0), .int .u16 (Int.ofNat 0), .int .u16 (Int.ofNat 0), .int .u16 (Int.ofNat 0), .int .u16 (Int.ofNat 0), .int .u16 (Int.ofNat 0), .int .u16 (Int.ofNat 0), .int .u16 (Int.ofNat 0), .int .u16 (Int.ofNat 0), .int .u16 (Int.ofNat 0), .int .u16 (Int.ofNat 0), .int .u16 (Int.ofNat 0), .int .u16 (Int.ofNat 0), .int .u16 (Int.ofNat 0), .int .u16 (Int.ofNat 0), .int .u16 (Int.ofNat 0), .int .u16 (Int.ofNat 0), .int .u16 (Int.ofNat 0), .int .u16 (Int.ofNat 0)] 52 0 0), some (.cells c 52 1 0)] else .fail 420 else bif true && (m_nns c && true) then KX 0 [some (.pointer (some ⟨0, 0, none⟩)), some (.pointer (some ⟨1, 0, none⟩))] [] [some (.cells [I (Int.ofNat 0), .int .u16 (Int.ofNat 0), .int .u16 (Int.ofNat 0), .int .u16 (Int.ofNat 0), .int .u16 (Int.ofNat 0), .int .u16 (Int.ofNat 0), .int .u16 (Int.ofNat 0), .int .u16 (Int.ofNat 0), .int .u16 (Int.ofNat 0), .int .u16 (Int.ofNat 0), .int .u16 (Int.ofNat 0), .int .u16 (Int.ofNat 0), .int .u16 (Int.ofNat 0), .int .u16 (Int.ofNat 0), .int .u16 (Int.ofNat 0), .int .u16 (Int.ofNat 0), .int .u16 (Int.ofNat 0), .int .u16 (Int.ofNat 0), .int .u16 (Int.ofNat 0), .int .u16 (Int.ofNat 0), .int .u16 (Int.ofNat 0), .int .u16 (Int.ofNat 0), .int .u16 (Int.ofNat 0), .int .u16 (Int.ofNat 0), .int .u16 (Int.ofNat 0)] 52 0 0), some (.cells c 52 1 0)] else .fail 420 := by kernel_rfl

theorem odCN (r : Mem) (b off n cap i : Nat) (c : List Value) (fs : FnsC) (K : OV → List Nat → OO → CR) (kx : Nat → KS) (KR : OV → List Nat → OO → CR) : run (SS r 1) 120273764861 52 1 (.seq ORd_6 (.seq ORd_7 ORd_8)) fs none (rbK 0 lvOE [] K) kx (rbK 0 [2, 3] [] KR) [] (bT lvOD (vOD b off n cap i) .nil) [] (mkA [oOr z25 0, oOr c 1]) =
    bif Nat.blt (Int.toNat (Int.ofNat i)) n then Option.casesOn (r b (Nat.add off (Nat.mul (Int.toNat (Int.ofNat i)) 1))) (.fail 423) fun val => bif isNilS val then Option.casesOn c[0]? (.fail 423) fun val => bif isI IntKind.i64 val then bif Int.ofNat 0 != ofI val then KR [some (.pointer (some ⟨0, 0, none⟩)), some (I (Int.ofNat 100))] [] [some (.cells [I (Int.ofNat 0), .int .u16 (Int.ofNat 0), .int .u16 (Int.ofNat 0), .int .u16 (Int.ofNat 0), .int .u16 (Int.ofNat 0), .int .u16 (Int.ofNat 0), .int .u16 (Int.ofNat 0), .int .u16 (Int.ofNat 0), .int .u16 (Int.ofNat 0), .int .u16 (Int.ofNat 0), .int .u16 (Int.ofNat 0), .int .u16 (Int.ofNat 0), .int .u16 (Int.ofNat 0), .int .u16 (Int.ofNat 0), .int .u16 (Int.ofNat 0), .int .u16 (Int.ofNat 0), .int .u16 (Int.ofNat 0), .int .u16 (Int.ofNat 0), .int .u16 (Int.ofNat 0), .int .u16 (Int.ofNat 0), .int .u16 (Int.ofNat 0), .int .u16 (Int.ofNat 0), .int .u16 (Int.ofNat 0), .int .u16 (Int.ofNat 0), .int .u16 (Int.ofNat 0)] 52 0 0)] else bif true && (m_nns c && true) then K [some (.pointer (some ⟨0, 0, none⟩)), some (.pointer (some ⟨1, 0, none⟩)), some (I (Int.ofNat i)), some (.slice (some ⟨b, off, some 0⟩) n cap), some (I (Int.ofNat n)), some (I (Int.ofNat i)), some (.slice none 0 0), some (I (Int.ofNat 0)), some (I (Int.ofNat 0))] [] [some (.cells [I (Int.ofNat 0), .int .u16 (Int.ofNat 0), .int .u16 (Int.ofNat 0), .int .u16 (Int.ofNat 0), .int .u16 (Int.ofNat 0), .int .u16 (Int.ofNat 0), .int .u16 (Int.ofNat 0), .int .u16 (Int.ofNat 0), .int .u16 (Int.ofNat 0), .int .u16 (Int.ofNat 0), .int .u16 (Int.ofNat 0), .int .u16 (Int.ofNat 0), .int .u16 (Int.ofNat 0), .int .u16 (Int.ofNat 0), .int .u16 (Int.ofNat 0), .int .u16 (Int.ofNat 0), .int .u16 (Int.ofNat 0), .int .u16 (Int.ofNat 0), .int .u16 (Int.ofNat 0), .int .u16 (Int.ofNat 0), .int .u16 (Int.ofNat 0), .int .u16 (Int.ofNat 0), .int .u16 (Int.ofNat 0), .int .u16 (Int.ofNat 0), .int .u16 (Int.ofNat 0)] 52 0 0), some (.cells c 52 1 0)] else .fail 420 else .fail 420 else .fail 420 else .fail 420 := by kernel_rfl

theorem odCR (r : Mem) (b off n cap i : Nat) (c : List Value) (fs : FnsC) (K : OV → List Nat → OO → CR) (kx : Nat → KS) (KR : OV → List Nat → OO → CR) : run (SS r 2) 120273764861 52 1 (.seq ORd_6 (.seq ORd_7 ORd_8)) fs none (rbK 0 lvOE [] K) kx (rbK 0 [2, 3] [] KR) [] (bT lvOD (vOD b off n cap i) .nil) [] (mkA [oOr z25 0, oOr c 1]) =
    bif Nat.blt (Int.toNat (Int.ofNat i)) n then Option.casesOn (r b (Nat.add off (Nat.mul (Int.toNat (Int.ofNat i)) 1))) (.fail 423) fun val => bif isRoS val then Option.casesOn c[0]? (.fail 423) fun val_1 => bif isI IntKind.i64 val_1 then bif Int.ofNat (lnOf val) != ofI val_1 then KR [some (.pointer (some ⟨0, 0, none⟩)), some (I (Int.ofNat 100))] [] [some (.cells [I (Int.ofNat 0), .int .u16 (Int.ofNat 0), .int .u16 (Int.ofNat 0), .int .u16 (Int.ofNat 0), .int .u16 (Int.ofNat 0), .int .u16 (Int.ofNat 0), .int .u16 (Int.ofNat 0), .int .u16 (Int.ofNat 0), .int .u16 (Int.ofNat 0), .int .u16 (Int.ofNat 0), .int .u16 (Int.ofNat 0), .int .u16 (Int.ofNat 0), .int .u16 (Int.ofNat 0), .int .u16 (Int.ofNat 0), .int .u16 (Int.ofNat 0), .int .u16 (Int.ofNat 0), .int .u16 (Int.ofNat 0), .int .u16 (Int.ofNat 0), .int .u16 (Int.ofNat 0), .int .u16 (Int.ofNat 0), .int .u16 (Int.ofNat 0), .int .u16 (Int.ofNat 0), .int .u16 (Int.ofNat 0), .int .u16 (Int.ofNat 0), .int .u16 (Int.ofNat 0)] 52 0 0)] else bif true && (m_nns c && true) then K [some (.pointer (some ⟨0, 0, none⟩)), some (.pointer (some ⟨1, 0, none⟩)), some (I (Int.ofNat i)), some (.slice (some ⟨b, off, some 0⟩) n cap), some (I (Int.ofNat n)), some (I (Int.ofNat i)), some (.slice (some ⟨(blkOf val), (offOf val), some 0⟩) (lnOf val) (cpOf val)), some (I (Int.ofNat (lnOf val))), some (I (Int.ofNat 0))] [] [some (.cells [I (Int.ofNat 0), .int .u16 (Int.ofNat 0), .int .u16 (Int.ofNat 0), .int .u16 (Int.ofNat 0), .int .u16 (Int.ofNat 0), .int .u16 (Int.ofNat 0), .int .u16 (Int.ofNat 0), .int .u16 (Int.ofNat 0), .int .u16 (Int.ofNat 0), .int .u16 (Int.ofNat 0), .int .u16 (Int.ofNat 0), .int .u16 (Int.ofNat 0), .int .u16 (Int.ofNat 0), .int .u16 (Int.ofNat 0), .int .u16 (Int.ofNat 0), .int .u16 (Int.ofNat 0), .int .u16 (Int.ofNat 0), .int .u16 (Int.ofNat 0), .int .u16 (Int.ofNat 0), .int .u16 (Int.ofNat 0), .int .u16 (Int.ofNat 0), .int .u16 (Int.ofNat 0), .int .u16 (Int.ofNat 0), .int .u16 (Int.ofNat 0), .int .u16 (Int.ofNat 0)] 52 0 0), some (.cells c 52 1 0)] else .fail 420 else .fail 420 else .fail 420 else .fail 420 := by kernel_rfl

theorem odD (r : Mem) (b off n cap i b2 o2 l c2 k : Nat) (c : List Value) (K : OV → List Nat → OO → CR) (KX : Nat → OV → List Nat → OO → CR) (kr : KS) : run (SC r) 120273764861 52 1 ORd_9 (lvlT (SC r) (fun _ => none) .nil 1 3) none (rbK 0 lvOE [] K) (fun j => rbK 0 lvOD [] (KX j)) kr [] (bT lvOE (vOE b off n cap i b2 o2 l c2 k) .nil) [] (mkA [oOr z25 0, oOr c 1]) =
    bif decide (Int.ofNat k < Int.ofNat l) then bif Nat.blt (Int.toNat (Int.ofNat k)) l then Option.casesOn (r b2 (Nat.add o2 (Nat.mul (Int.toNat (Int.ofNat k)) 1))) (.fail 423) fun val => bif isB val then bif ofB val then bif Nat.blt (Int.toNat (Int.ofNat k)) 12 then Option.casesOn c[Nat.add 1 (Nat.mul (Int.toNat (Int.ofNat k)) 1)]? (.fail 423) fun val => bif isI IntKind.u16 val then bif Nat.blt (Int.toNat (Int.ofNat k)) 12 then bif Nat.blt (Nat.add 1 (Nat.mul (Int.toNat (Int.ofNat k)) 1)) (List.length c) then Option.casesOn c[Nat.add 1 (Nat.mul (Int.toNat (Int.ofNat k)) 1)]? (.fail 423) fun val_1 => bif isI IntKind.u16 val_1 then bif m_eqv (.int .u16 (ofI val_1)) (.int .u16 (ofI val)) then Option.casesOn c[Nat.add 1 (Nat.mul (Int.toNat (Int.ofNat k)) 1)]? (.fail 423) fun val_2 => bif isI IntKind.u16 val_2 then bif m_eqv (.int .u16 (ofI val_2)) (.int .u16 (ofI val)) then bif Nat.blt (Int.toNat (Int.ofNat i)) 12 then Option.casesOn (List.set c (Nat.add 1 (Nat.mul (Int.toNat (Int.ofNat k)) 1)) (.int .u16 (ibits BinOp.or IntKind.u16 (ofI val) (IntKind.wrap .u16 (Int.ofNat 1 * Int.ofNat 2 ^ min (Int.toNat (Int.ofNat i)) 16)))))[Nat.add 13 (Nat.mul (Int.toNat (Int.ofNat i)) 1)]? (.fail 423) fun val_3 => bif isI IntKind.u16 val_3 then bif Nat.blt (Int.toNat (Int.ofNat i)) 12 then bif Nat.blt (Nat.add 13 (Nat.mul (Int.toNat (Int.ofNat i)) 1)) (List.length (List.set c (Nat.add 1 (Nat.mul (Int.toNat (Int.ofNat k)) 1)) (.int .u16 (ibits BinOp.or IntKind.u16 (ofI val) (IntKind.wrap .u16 (Int.ofNat 1 * Int.ofNat 2 ^ min (Int.toNat (Int.ofNat i)) 16)))))) then Option.casesOn (List.set c (Nat.add 1 (Nat.mul (Int.toNat (Int.ofNat k)) 1)) (.int .u16 (ibits BinOp.or IntKind.u16 (ofI val) (IntKind.wrap .u16 (Int.ofNat 1 * Int.ofNat 2 ^ min (Int.toNat (Int.ofNat i)) 16)))))[Nat.add 13 (Nat.mul (Int.toNat (Int.ofNat i)) 1)]? (.fail 423) fun val_4 => bif isI IntKind.u16 val_4 then bif m_eqv (.int .u16 (ofI val_4)) (.int .u16 (ofI val_3)) then Option.casesOn (List.set c (Nat.add 1 (Nat.mul (Int.toNat (Int.ofNat k)) 1)) (.int .u16 (ibits BinOp.or IntKind.u16 (ofI val) (IntKind.wrap .u16 (Int.ofNat 1 * Int.ofNat 2 ^ min (Int.toNat (Int.ofNat i)) 16)))))[Nat.add 13 (Nat.mul (Int.toNat (Int.ofNat i)) 1)]? (.fail 423) fun val_5 => bif isI IntKind.u16 val_5 then bif m_eqv (.int .u16 (ofI val_5)) (.int .u16 (ofI val_3)) then bif true && (m_nns (List.set (List.set c (Nat.add 1 (Nat.mul (Int.toNat (Int.ofNat k)) 1)) (.int .u16 (ibits BinOp.or IntKind.u16 (ofI val) (IntKind.wrap .u16 (Int.ofNat 1 * Int.ofNat 2 ^ min (Int.toNat (Int.ofNat i)) 16))))) (Nat.add 13 (Nat.mul (Int.toNat (Int.ofNat i)) 1)) (.int .u16 (ibits BinOp.or IntKind.u16 (ofI val_3) (IntKind.wrap .u16 (Int.ofNat 1 * Int.ofNat 2 ^ min (Int.toNat (Int.ofNat k)) 16))))) && true) then K [some (.pointer (some ⟨0, 0, none⟩)), some (.pointer (some ⟨1, 0, none⟩)), some (I (Int.ofNat i)), some (.slice (some ⟨b, off, some 0⟩) n cap), some (I (Int.ofNat n)), some (I (Int.ofNat i)), some (.slice (some ⟨b2, o2, some 0⟩) l c2), some (I (Int.ofNat l)), some (I (IntKind.wrap .i64 (Int.ofNat k + Int.ofNat 1)))] [] [some (.cells [I (Int.ofNat 0), .int .u16 (Int.ofNat 0), .int .u16 (Int.ofNat 0), .int .u16 (Int.ofNat 0), .int .u16 (Int.ofNat 0), .int .u16 (Int.ofNat 0), .int .u16 (Int.ofNat 0), .int .u16 (Int.ofNat 0), .int .u16 (Int.ofNat 0), .int .u16 (Int.ofNat 0), .int .u16 (Int.ofNat 0), .int .u16 (Int.ofNat 0), .int .u16 (Int.ofNat 0), .int .u16 (Int.ofNat 0), .int .u16 (Int.ofNat 0), .int .u16 (Int.ofNat 0), .int .u16 (Int.ofNat 0), .int .u16 (Int.ofNat 0), .int .u16 (Int.ofNat 0), .int .u16 (Int.ofNat 0), .int .u16 (Int.ofNat 0), .int .u16 (Int.ofNat 0), .int .u16 (Int.ofNat 0), .int .u16 (Int.ofNat 0), .int .u16 (Int.ofNat 0)] 52 0 0), some (.cells (List.set (List.set c (Nat.add 1 (Nat.mul (Int.toNat (Int.ofNat k)) 1)) (.int .u16 (ibits BinOp.or IntKind.u16 (ofI val) (IntKind.wrap .u16 (Int.ofNat 1 * Int.ofNat 2 ^ min (Int.toNat (Int.ofNat i)) 16))))) (Nat.add 13 (Nat.mul (Int.toNat (Int.ofNat i)) 1)) (.int .u16 (ibits BinOp.or IntKind.u16 (ofI val_3) (IntKind.wrap .u16 (Int.ofNat 1 * Int.ofNat 2 ^ min (Int.toNat (Int.ofNat k)) 16))))) 52 1 0)] else .fail 420 else .fail 420 else .fail 420 else .fail 420 else .fail 420 else .fail 420 else .fail 420 else .fail 420 else .fail 420 else .fail 420 else .fail 420 else .fail 420 else .fail 420 else .fail 420 else .fail 420 else .fail 420 else .fail 420 else bif true && (m_nns c && true) then K [some (.pointer (some ⟨0, 0, none⟩)), some (.pointer (some ⟨1, 0, none⟩)), some (I (Int.ofNat i)), some (.slice (some ⟨b, off, some 0⟩) n cap), some (I (Int.ofNat n)), some (I (Int.ofNat i)), some (.slice (some ⟨b2, o2, some 0⟩) l c2), some (I (Int.ofNat l)), some (I (IntKind.wrap .i64 (Int.ofNat k + Int.ofNat 1)))] [] [some (.cells [I (Int.ofNat 0), .int .u16 (Int.ofNat 0), .int .u16 (Int.ofNat 0), .int .u16 (Int.ofNat 0), .int .u16 (Int.ofNat 0), .int .u16 (Int.ofNat 0), .int .u16 (Int.ofNat 0), .int .u16 (Int.ofNat 0), .int .u16 (Int.ofNat 0), .int .u16 (Int.ofNat 0), .int .u16 (Int.ofNat 0), .int .u16 (Int.ofNat 0), .int .u16 (Int.ofNat 0), .int .u16 (Int.ofNat 0), .int .u16 (Int.ofNat 0), .int .u16 (Int.ofNat 0), .int .u16 (Int.ofNat 0), .int .u16 (Int.ofNat 0), .int .u16 (Int.ofNat 0), .int .u16 (Int.ofNat 0), .int .u16 (Int.ofNat 0), .int .u16 (Int.ofNat 0), .int .u16 (Int.ofNat 0), .int .u16 (Int.ofNat 0), .int .u16 (Int.ofNat 0)] 52 0 0), some (.cells c 52 1 0)] else .fail 420 else .fail 420 else .fail 420 else bif true && (m_nns c && true) then KX 2 [some (.pointer (some ⟨0, 0, none⟩)), some (.pointer (some ⟨1, 0, none⟩)), some (.slice (some ⟨b, off, some 0⟩) n cap), some (I (Int.ofNat n)), some (I (Int.ofNat i))] [] [some (.cells [I (Int.ofNat 0), .int .u16 (Int.ofNat 0), .int .u16 (Int.ofNat 0), .int .u16 (Int.ofNat 0), .int .u16 (Int.ofNat 0), .int .u16 (Int.ofNat 0), .int .u16 (Int.ofNat 0), .int .u16 (Int.ofNat 0), .int .u16 (Int.ofNat 0), .int .u16 (Int.ofNat 0), .int .u16 (Int.ofNat 0), .int .u16 (Int.ofNat 0), .int .u16 (Int.ofNat 0), .int .u16 (Int.ofNat 0), .int .u16 (Int.ofNat 0), .int .u16 (Int.ofNat 0), .int .u16 (Int.ofNat 0), .int .u16 (Int.ofNat 0), .int .u16 (Int.ofNat 0), .int .u16 (Int.ofNat 0), .int .u16 (Int.ofNat 0), .int .u16 (Int.ofNat 0), .int .u16 (Int.ofNat 0), .int .u16 (Int.ofNat 0), .int .u16 (Int.ofNat 0)] 52 0 0), some (.cells c 52 1 0)] else .fail 420 := by kernel_rfl

theorem odE (r : Mem) (b off n cap i : Nat) (c : List Value) (fs : FnsC) (K : OV → List Nat → OO → CR) (kx : Nat → KS) (kr : KS) : run (SC r) 120273764861 52 1 ORd_10 fs none (rbK 0 lvOD [] K) kx kr [] (bT lvOD (vOD b off n cap i) .nil) [] (mkA [oOr z25 0, oOr c 1]) =
    bif true && (m_nns c && true) then K [some (.pointer (some ⟨0, 0, none⟩)), some (.pointer (some ⟨1, 0, none⟩)), some (.slice (some ⟨b, off, some 0⟩) n cap), some (I (Int.ofNat n)), some (I (IntKind.wrap .i64 (Int.ofNat i + Int.ofNat 1)))] [] [some (.cells [I (Int.ofNat 0), .int .u16 (Int.ofNat 0), .int .u16 (Int.ofNat 0), .int .u16 (Int.ofNat 0), .int .u16 (Int.ofNat 0), .int .u16 (Int.ofNat 0), .int .u16 (Int.ofNat 0), .int .u16 (Int.ofNat 0), .int .u16 (Int.ofNat 0), .int .u16 (Int.ofNat 0), .int .u16 (Int.ofNat 0), .int .u16 (Int.ofNat 0), .int .u16 (Int.ofNat 0), .int .u16 (Int.ofNat 0), .int .u16 (Int.ofNat 0), .int .u16 (Int.ofNat 0), .int .u16 (Int.ofNat 0), .int .u16 (Int.ofNat 0), .int .u16 (Int.ofNat 0), .int .u16 (Int.ofNat 0), .int .u16 (Int.ofNat 0), .int .u16 (Int.ofNat 0), .int .u16 (Int.ofNat 0), .int .u16 (Int.ofNat 0), .int .u16 (Int.ofNat 0)] 52 0 0), some (.cells c 52 1 0)] else .fail 420 := by kernel_rfl

end Go.Proofs

/- Words of sixteen bits. -/
namespace Go.Proofs
open Go Go.Ev Go.Num
set_option linter.unusedVariables false
set_option linter.unusedSimpArgs false

theorem wrV (v : Int) : IntKind.wrap .u16 v = v % 65536 := by simp [IntKind.wrap, IntKind.bits, IntKind.signed]
theorem wrapV {a : Nat} (h : a < 65536) : IntKind.wrap .u16 (a : Int) = (a : Int) := by rw [wrV]; omega
theorem bvV (a : Nat) (h : a < 65536) : (BitVec.ofInt 16 (a : Int)).toNat = a := by
 rw [BitVec.ofInt_natCast, BitVec.toNat_ofNat]
 exact Nat.mod_eq_of_lt h
theorem uV {a b : Nat} (ha : a < 65536) (hb : b < 65536) : ibits .or .u16 (a : Int) (b : Int) = ((a ||| b : Nat) : Int) ∧ ibits .and .u16 (a : Int) (b : Int) = ((a &&& b : Nat) : Int) ∧ ibits .andNot .u16 (a : Int) (b : Int) = ((anN a b : Nat) : Int) := by
 have hx : ∀ x y : BitVec 16, x &&& ~~~y = (x &&& y) ^^^ x := fun x y => by
  ext i hi
  simp
  cases x[i] <;> cases y[i] <;> rfl
 have e1 : (BitVec.ofInt 16 (a : Int) ||| BitVec.ofInt 16 (b : Int)).toNat = a ||| b := by rw [BitVec.toNat_or, bvV a ha, bvV b hb]
 have e2 : (BitVec.ofInt 16 (a : Int) &&& BitVec.ofInt 16 (b : Int)).toNat = a &&& b := by rw [BitVec.toNat_and, bvV a ha, bvV b hb]
 have e3 : (BitVec.ofInt 16 (a : Int) &&& ~~~(BitVec.ofInt 16 (b : Int))).toNat = anN a b := by rw [hx, BitVec.toNat_xor, BitVec.toNat_and, bvV a ha, bvV b hb]; rfl
 have h16 : (65536 : Nat) = 2 ^ 16 := by decide
 refine ⟨?_, ?_, ?_⟩
 ·show IntKind.wrap .u16 ((BitVec.ofInt 16 (a : Int) ||| BitVec.ofInt 16 (b : Int)).toNat : Int) = _
  rw [e1]
  refine wrapV ?_
  rw [h16] at *; exact Nat.or_lt_two_pow ha hb
 ·show IntKind.wrap .u16 ((BitVec.ofInt 16 (a : Int) &&& BitVec.ofInt 16 (b : Int)).toNat : Int) = _
  rw [e2]
  refine wrapV ?_
  rw [h16] at *; exact Nat.and_lt_two_pow _ hb
 ·show IntKind.wrap .u16 ((BitVec.ofInt 16 (a : Int) &&& ~~~(BitVec.ofInt 16 (b : Int))).toNat : Int) = _
  rw [e3]
  refine wrapV ?_
  rw [h16] at *; exact an_lt ha
theorem shlV {b : Nat} (h : b < 16) : IntKind.wrap IntKind.u16 (Int.ofNat 1 * Int.ofNat 2 ^ min b 16) = ((2 ^ b : Nat) : Int) := by
 have h1 : 2 ^ b < 65536 := Nat.pow_lt_pow_right (n := 16) (by decide) h
 rw [Nat.min_eq_left (by omega), wrV, show (Int.ofNat 1 * Int.ofNat 2 ^ b : Int) = ((2 ^ b : Nat) : Int) by simp]
 generalize 2 ^ b = x at *
 omega
theorem isV_V (x : Int) : isI IntKind.u16 (V x) = true := rfl
theorem ofI_V (x : Int) : ofI (V x) = x := rfl
theorem eqv_v (a : Int) : m_eqv (V a) (V a) = true := by simp [m_eqv, veq]

/-! ### an order's cells -/
def orC (n : Nat) (w a : Nat → Nat) : List Value := I (n : Nat) :: ((List.range 12).map (fun j => V ((w j : Nat) : Int)) ++ (List.range 12).map fun j => V ((a j : Nat) : Int))
theorem orC_len (n : Nat) (w a : Nat → Nat) : (orC n w a).length = 25 := rfl
theorem orC_nn (n : Nat) (w a : Nat → Nat) : m_nns (orC n w a) = true := rfl
theorem mp_len (w : Nat → Nat) : ((List.range 12).map fun j => V ((w j : Nat) : Int)).length = 12 := by simp
theorem orC_w {n : Nat} {w a : Nat → Nat} {j : Nat} (h : j < 12) : (orC n w a)[1 + j]? = some (V ((w j : Nat) : Int)) := by
 unfold orC
 rw [show 1 + j = j + 1 by omega, List.getElem?_cons_succ, List.getElem?_append_left (by rw [mp_len]; exact h), List.getElem?_map, List.getElem?_range h]
 rfl
theorem orC_a {n : Nat} {w a : Nat → Nat} {j : Nat} (h : j < 12) : (orC n w a)[13 + j]? = some (V ((a j : Nat) : Int)) := by
 unfold orC
 rw [show 13 + j = (12 + j) + 1 by omega, List.getElem?_cons_succ, List.getElem?_append_right (by rw [mp_len]; omega), mp_len, show 12 + j - 12 = j by omega, List.getElem?_map, List.getElem?_range h]
 rfl
theorem mp_set (w : Nat → Nat) {i x : Nat} (h : i < 12) : ((List.range 12).map fun j => V ((w j : Nat) : Int)).set i (V ((x : Nat) : Int)) = (List.range 12).map fun j => V (((if j = i then x else w j) : Nat) : Int) := by
 apply List.ext_getElem
 ·simp
 ·intro k h1 h2
  rw [List.getElem_set]
  by_cases c : i = k
  ·subst c; simp
  ·rw [if_neg c]
   have : ¬ k = i := fun e => c e.symm
   simp [this]
theorem orC_setw {n : Nat} {w a : Nat → Nat} {i x : Nat} (h : i < 12) : (orC n w a).set (1 + i) (V ((x : Nat) : Int)) = orC n (fun j => if j = i then x else w j) a := by
 unfold orC
 rw [show 1 + i = i + 1 by omega, List.set_cons_succ, List.set_append_left _ _ (by rw [mp_len]; exact h), mp_set w h]
theorem orC_seta {n : Nat} {w a : Nat → Nat} {i x : Nat} (h : i < 12) : (orC n w a).set (13 + i) (V ((x : Nat) : Int)) = orC n w fun j => if j = i then x else a j := by
 unfold orC
 rw [show 13 + i = (12 + i) + 1 by omega, List.set_cons_succ, List.set_append_right _ _ (by rw [mp_len]; omega), mp_len, show 12 + i - 12 = i by omega, mp_set a h]
theorem orC_ext {n : Nat} {w w' a a' : Nat → Nat} (h : ∀ j, j < 12 → w j = w' j) (h2 : ∀ j, j < 12 → a j = a' j) : orC n w a = orC n w' a' := by
 unfold orC
 congr 2
 ·exact List.map_congr_left fun j hj => by rw [h j (by simpa using hj)]
 ·exact List.map_congr_left fun j hj => by rw [h2 j (by simpa using hj)]

/-! ### the words of a table -/
def rwO (T : List (List Bool)) (v : Nat) : Nat → Nat
 | 0 => 0
 | k + 1 => if gT T v k then rwO T v k ||| 2 ^ k else rwO T v k
def clO (T : List (List Bool)) (v : Nat) : Nat → Nat
 | 0 => 0
 | k + 1 => if gT T k v then clO T v k ||| 2 ^ k else clO T v k
theorem rwO_lt (T : List (List Bool)) (v : Nat) : ∀ k, rwO T v k < 2 ^ k
 | 0 => by simp [rwO]
 | k + 1 => by
  have h := rwO_lt T v k
  have h2 : rwO T v k < 2 ^ (k + 1) := Nat.lt_of_lt_of_le h (Nat.pow_le_pow_right (by decide) (by omega))
  rw [rwO]
  split
  ·exact Nat.or_lt_two_pow h2 (Nat.pow_lt_pow_right (by decide) (by omega))
  ·exact h2
theorem clO_lt (T : List (List Bool)) (v : Nat) : ∀ k, clO T v k < 2 ^ k
 | 0 => by simp [clO]
 | k + 1 => by
  have h := clO_lt T v k
  have h2 : clO T v k < 2 ^ (k + 1) := Nat.lt_of_lt_of_le h (Nat.pow_le_pow_right (by decide) (by omega))
  rw [clO]
  split
  ·exact Nat.or_lt_two_pow h2 (Nat.pow_lt_pow_right (by decide) (by omega))
  ·exact h2
theorem clO_bit (T : List (List Bool)) (v : Nat) : ∀ k j, (clO T v k).testBit j = (decide (j < k) && gT T j v)
 | 0, j => by simp [clO]
 | k + 1, j => by
  have ih := clO_bit T v k j
  rw [clO]
  by_cases c : gT T k v = true
  ·rw [if_pos c, Nat.testBit_or, ih, Nat.testBit_two_pow]
   by_cases e : k = j
   ·subst e; simp [c]
   ·by_cases h : j < k
    ·simp [h, e, show j < k + 1 by omega]
    ·simp [h, e, show ¬ j < k + 1 by omega]
  ·rw [if_neg c, ih]
   by_cases e : k = j
   ·subst e; simp at c; simp [c]
   ·by_cases h : j < k
    ·simp [h, show j < k + 1 by omega]
    ·simp [h, show ¬ j < k + 1 by omega]
def wB (T : List (List Bool)) (i k j : Nat) : Nat := if j < k then clO T j (i + 1) else clO T j i
def wA (T : List (List Bool)) (i k j : Nat) : Nat := if j < i then rwO T j T.length else if j = i then rwO T j k else 0
theorem lt12 {x k : Nat} (hk : k ≤ 12) (h : x < 2 ^ k) : x < 4096 := Nat.lt_of_lt_of_le h (Nat.pow_le_pow_right (n := 2) (by decide) hk)
theorem wB_lt {T : List (List Bool)} {i : Nat} (hi : i < 12) (k j : Nat) : wB T i k j < 4096 := by
 unfold wB
 split
 ·exact lt12 (by omega) (clO_lt T j (i + 1))
 ·exact lt12 (by omega) (clO_lt T j i)
theorem wA_lt {T : List (List Bool)} (hT : T.length ≤ 12) {k : Nat} (hk : k ≤ 12) (i j : Nat) : wA T i k j < 4096 := by
 unfold wA
 split
 ·exact lt12 hT (rwO_lt T j _)
 ·split
  ·exact lt12 hk (rwO_lt T j k)
  ·omega
theorem put_ok {T : List (List Bool)} {n i k : Nat} (hi : i < 12) (hk : k < 12) (h : gT T i k = true) : ((orC n (wB T i k) (wA T i k)).set (1 + k) (V ((wB T i k k ||| 2 ^ i : Nat) : Int))).set (13 + i) (V ((wA T i k i ||| 2 ^ k : Nat) : Int)) = orC n (wB T i (k + 1)) (wA T i (k + 1)) := by
 rw [orC_setw hk, orC_seta hi]
 refine orC_ext (fun j hj => ?_) fun j hj => ?_
 ·unfold wB
  by_cases e : j = k
  ·subst e
   rw [if_pos rfl, if_neg (by omega), if_pos (by omega), clO, if_pos h]
  ·rw [if_neg e]
   by_cases c : j < k
   ·rw [if_pos c, if_pos (by omega)]
   ·rw [if_neg c, if_neg (by omega)]
 ·unfold wA
  by_cases e : j = i
  ·subst e
   rw [if_pos rfl, if_neg (by omega), if_pos rfl, if_neg (by omega), if_pos rfl, rwO, if_pos h]
  ·rw [if_neg e, if_neg e, if_neg e]
theorem skip_ok {T : List (List Bool)} {n i k : Nat} (h : gT T i k = false) : orC n (wB T i k) (wA T i k) = orC n (wB T i (k + 1)) (wA T i (k + 1)) := by
 refine orC_ext (fun j hj => ?_) fun j hj => ?_
 ·unfold wB
  by_cases c : j < k
  ·rw [if_pos c, if_pos (by omega)]
  ·rw [if_neg c]
   by_cases e : j = k
   ·subst e
    rw [if_pos (by omega), clO, h]
    rfl
   ·rw [if_neg (by omega)]
 ·unfold wA
  by_cases e : j = i
  ·subst e
   rw [if_neg (by omega), if_pos rfl, if_neg (by omega), if_pos rfl, rwO, h]
   rfl
  ·rw [if_neg e, if_neg e]
theorem next_ok {T : List (List Bool)} {n i : Nat} (hl : (T.getD i []).length = T.length) : orC n (wB T i T.length) (wA T i T.length) = orC n (wB T (i + 1) 0) (wA T (i + 1) 0) := by
 refine orC_ext (fun j hj => ?_) fun j hj => ?_
 ·unfold wB
  rw [if_neg (show ¬ j < 0 by omega)]
  by_cases c : j < T.length
  ·rw [if_pos c]
  ·rw [if_neg c, clO]
   have : gT T i j = false := by
    unfold gT
    rw [List.getD_eq_getElem?_getD, List.getElem?_eq_none (by omega)]
    rfl
   rw [this]
   rfl
 ·unfold wA
  by_cases c : j < i
  ·rw [if_pos c, if_pos (by omega)]
  ·rw [if_neg c]
   by_cases e : j = i
   ·subst e
    rw [if_pos rfl, if_pos (by omega)]
   ·rw [if_neg e, if_neg (by omega)]
    by_cases e2 : j = i + 1
    ·rw [if_pos e2]; rfl
    ·rw [if_neg e2]

end Go.Proofs

/- The least bit of a word of sixteen bits, run. -/
namespace Go.Proofs
open Go Go.Ev Go.Num
set_option linter.unusedVariables false
set_option linter.unusedSimpArgs false
set_option maxRecDepth 100000

abbrev fY (l : Nat) : Value := .func (.yield l) ⟨[]⟩ ⟨[]⟩
def m_tvG (s : Int) : Bool := decide (1 ≤ s ∧ s < 65536)
def m_tv (s : Int) : Int := (tzN 16 s.toNat : Nat)
def eV1 (g : Int → Bool) (v : Int → Value) : Ent := ent (fun args _ => match args with | [.int .u16 a] => g a | _ => false) (fun args _ => match args with | [.int .u16 a] => v a | _ => undef)
theorem eV1_ok {C : Cfg} {f : Nat} {g : Int → Bool} {v : Int → Value} (h : ∀ a, g a = true → GrT C.P C.ro f [.int .u16 a] (v a)) : EOk C f (eV1 g v) := EOk.ent fun args A hg => by
 split at hg
 ·exact (h _ hg).ro rfl A
 ·cases hg
def tEs : Tbl := tcons 81 (eV1 m_tvG fun x => I (m_tv x)) fun _ => none

theorem tvA (r : Mem) (s : Int) : (lvlT (SC r) (fun _ => none) .nil 2 4).call 81 [V s] emptyA fin =
    bif s == Int.ofNat 0 then .ret (I (Int.ofNat 16)) (AW.mk 0 .nil .nil) else bif decide (0 ≤ Int.fdiv (m_mulV (IntKind.wrap .u32 (ibits BinOp.and IntKind.u16 s (IntKind.wrap .u16 (Int.ofNat 0 - s)))) (Int.ofNat 125613361)) (Int.ofNat 134217728)) then bif Nat.blt (Int.toNat (Int.fdiv (m_mulV (IntKind.wrap .u32 (ibits BinOp.and IntKind.u16 s (IntKind.wrap .u16 (Int.ofNat 0 - s)))) (Int.ofNat 125613361)) (Int.ofNat 134217728))) 32 then Option.casesOn (r 0 (Nat.add 0 (Nat.mul (Int.toNat (Int.fdiv (m_mulV (IntKind.wrap .u32 (ibits BinOp.and IntKind.u16 s (IntKind.wrap .u16 (Int.ofNat 0 - s)))) (Int.ofNat 125613361)) (Int.ofNat 134217728))) 1))) (.fail 423) fun val => bif isI IntKind.u8 val then .ret (I (IntKind.wrap .i64 (ofI val))) (AW.mk 0 .nil .nil) else .fail 420 else .fail 420 else .fail 420 := by kernel_rfl

end Go.Proofs

/- The least bit of a word of sixteen bits: what the call answers. -/
namespace Go.Num
open Go Go.Proofs Go.Ev

def tvI (t : Nat) : Int := Int.fdiv (m_mulV ((2 ^ t : Nat) : Int) (Int.ofNat 125613361)) (Int.ofNat 134217728)
def tvC (t : Nat) : Bool := decide (0 ≤ tvI t) && (Nat.blt (tvI t).toNat 32 && match tabM 0 (Nat.add 0 (Nat.mul (tvI t).toNat 1)) with
 | some (.int .u8 z) => decide (z = (t : Int))
 | _ => false)
theorem tvC_all : ∀ t : Fin 16, tvC t.val = true := by decide +kernel

end Go.Num
namespace Go.Proofs
open Go Go.Ev Go.Num
set_option linter.unusedVariables false
set_option linter.unusedSimpArgs false
set_option maxRecDepth 100000

theorem tv_ok (r : Mem) (hm : ∀ b j u, tabM b j = some u → r b j = some u) (s : Nat) (h0 : s ≠ 0) (h : s < 65536) : GrT Tryz.prog r 81 [V (s : Nat)] (I (tzN 16 s : Nat)) :=
 GrT.of (SC_ok r) TOk.nil .nil rfl ⟨2, 4, by
  rw [tvA]
  have c1 : ((s : Int) == Int.ofNat 0) = false := by simp; omega
  have e1 : IntKind.wrap IntKind.u16 (Int.ofNat 0 - (s : Int)) = ((2 ^ 16 - s : Nat) : Int) := by rw [wrV]; simp; omega
  have e2 : ibits BinOp.and IntKind.u16 (s : Int) ((2 ^ 16 - s : Nat) : Int) = ((s &&& (2 ^ 16 - s) : Nat) : Int) := (uV (by omega) (by omega)).2.1
  have ht := (tz_bit 16 s (by omega) h0).1
  have hc := tvC_all ⟨tzN 16 s, ht⟩
  have h2t : 2 ^ tzN 16 s < 65536 := Nat.pow_lt_pow_right (n := 16) (by decide) ht
  have e3 : IntKind.wrap IntKind.u32 ((2 ^ tzN 16 s : Nat) : Int) = ((2 ^ tzN 16 s : Nat) : Int) := by
   rw [show ∀ v, IntKind.wrap IntKind.u32 v = v % 4294967296 from fun v => by simp [IntKind.wrap, IntKind.bits, IntKind.signed]]
   generalize 2 ^ tzN 16 s = x at *
   omega
  rw [c1, cond_false, e1, e2, low_pow 16 s (by omega) h0, e3]
  generalize tzN 16 s = t at ht hc
  unfold tvC at hc
  rw [Bool.and_eq_true, Bool.and_eq_true] at hc
  obtain ⟨d1, d2, d3⟩ := hc
  change decide (0 ≤ tvI t) = true at d1
  change (bif decide (0 ≤ tvI t) then bif Nat.blt (Int.toNat (tvI t)) 32 then Option.casesOn (r 0 (Nat.add 0 (Nat.mul (Int.toNat (tvI t)) 1))) (CR.fail 423) fun val => bif isI IntKind.u8 val then CR.ret (Value.int IntKind.i64 (IntKind.wrap IntKind.i64 (ofI val))) (AW.mk 0 .nil .nil) else CR.fail 420 else CR.fail 420 else CR.fail 420) = _
  rw [d1, cond_true, d2, cond_true]
  split at d3
  ·rename_i z hz
   rw [hm _ _ _ hz]
   have hz' : z = (t : Int) := of_decide_eq_true d3
   subst hz'
   show CR.ret (Value.int IntKind.i64 (IntKind.wrap IntKind.i64 (t : Int))) _ = _
   rw [wrI (by omega)]
   rfl
  ·exact nomatch d3⟩
theorem tEs_ok (r : Mem) (hm : ∀ b j u, tabM b j = some u → r b j = some u) : TOk (SC r) tEs := TOk.cons TOk.nil (eV1_ok fun a ha => by
 have h := of_decide_eq_true ha
 have := tv_ok r hm a.toNat (by omega) (by omega)
 rw [show ((a.toNat : Nat) : Int) = a by omega] at this
 exact this)

end Go.Proofs

/- A walk over the bits of a word, whatever is done in its rounds. -/
namespace Go.Proofs
open Go Go.Ev Go.Num
set_option linter.unusedVariables false
set_option linter.unusedSimpArgs false
set_option maxRecDepth 100000

noncomputable def cEs : Code := bodyOf S0 82
noncomputable def Es_0 : Code := (lc cEs)
noncomputable def Es_1 : Code := (lc (ic (ic (rc cEs))))
noncomputable def Es_2 : Code := (lc (ic (lc (rc (ic (ic (rc cEs)))))))
noncomputable def Es_3 : Code := (rc (ic (lc (rc (ic (ic (rc cEs)))))))
noncomputable def Es_4 : Code := (rc (rc (ic (ic (rc cEs)))))
theorem Es_eq : cEs = (.seq Es_0 (.block 0 (.loop (.seq Es_1 (.seq (.block 1 (.seq Es_2 Es_3)) Es_4))))) := by kernel_rfl
def lvEs : List Nat := [0, 3]
def tEb (l : Nat) (t : Int) : Tr Value := bT lvEs [some (fY l), some (V t)] .nil

theorem ebA (r : Mem) (l p : Nat) (A : AW) (fs : FnsC) (K : KS) (kx : Nat → KS) (kr : KS) : run (SC r) 11 16 1 Es_0 fs none K kx kr (sc0 11 [fY l, .pointer (some ⟨p, 0, none⟩)]) (tr0 11 [fY l, .pointer (some ⟨p, 0, none⟩)]) [] A =
    Option.casesOn (match Tr.get (AW.heap A) p with | some (.cells c elem fam sz) => c[0]? | x => none) (.fail 423) fun val => bif isI IntKind.u16 val then K [(4, .int .u16 (ofI val))] (.node (.node (.node .nil (some (.int .u16 (ofI val))) .nil) (some (.pointer (some ⟨p, 0, none⟩))) .nil) (some (.func (Fn.yield l) ⟨[]⟩ ⟨[]⟩)) .nil) [] A else .fail 420 := by kernel_rfl

theorem ebB (r : Mem) (l : Nat) (t : Int) (A : AW) (fs : FnsC) (K : KS) (kx : Nat → KS) (kr : KS) : run (SC r) 11 16 1 Es_1 fs none K kx kr [] (tEb l t) [] A =
    bif t != Int.ofNat 0 then K [(6, .bool true), (5, .int .u16 t)] (.node (.node (.node .nil (some (.int .u16 t)) .nil) none .nil) (some (.func (Fn.yield l) ⟨[]⟩ ⟨[]⟩)) .nil) [] A else kx 0 [(6, .bool false), (5, .int .u16 t)] (.node (.node (.node .nil (some (.int .u16 t)) .nil) none .nil) (some (.func (Fn.yield l) ⟨[]⟩ ⟨[]⟩)) .nil) [] A := by kernel_rfl

theorem ebC (r : Mem) (l : Nat) (t : Int) (A : AW) (K : KS) : preK (SC r) 11 16 Es_2 3 (lvlT (SC r) tEs .nil 1 2) K [] (tEb l t) [] A =
    bif m_tvG t then K [(13, I (m_tv t)), (12, .int .u16 t), (11, .func (Fn.yield l) ⟨[]⟩ ⟨[]⟩)] (.node (.node (.node .nil (some (.int .u16 t)) .nil) none .nil) (some (.func (Fn.yield l) ⟨[]⟩ ⟨[]⟩)) .nil) [] A else .fail 420 := by kernel_rfl

theorem ebD (r : Mem) (l : Nat) (t u : Int) (v : Bool) (A : AW) (fs : FnsC) (K : KS) (kx : Nat → KS) (kr : KS) : tailK (SC r) 11 16 Es_2 3 fs (run (SC r) 11 16 1 Es_3 fs none (run (SC r) 11 16 1 Es_4 fs none K kx kr) (fun j => match Nat.beq j 1 with | true => run (SC r) 11 16 1 Es_4 fs none K kx kr | false => kx j) kr) (.bool v) [(13, I u), (12, V t), (11, fY l)] (tEb l t) [] A =
    bif v then K [(10, .int .u16 (ibits BinOp.and IntKind.u16 t (IntKind.wrap .u16 (t - Int.ofNat 1)))), (9, .int .u16 (IntKind.wrap .u16 (t - Int.ofNat 1))), (8, .int .u16 t), (7, .int .u16 t)] (.node (.node (.node .nil (some (.int .u16 (ibits BinOp.and IntKind.u16 t (IntKind.wrap .u16 (t - Int.ofNat 1))))) .nil) none .nil) (some (.func (Fn.yield l) ⟨[]⟩ ⟨[]⟩)) .nil) [] A else kr [(15, .bool true), (14, .bool false), (13, I u), (12, .int .u16 t), (11, .func (Fn.yield l) ⟨[]⟩ ⟨[]⟩)] (.node (.node (.node .nil (some (.int .u16 t)) .nil) none .nil) (some (.func (Fn.yield l) ⟨[]⟩ ⟨[]⟩)) .nil) [] A := by kernel_rfl

end Go.Proofs

/- A walk over the bits of a word, whatever is done in its rounds: what the call leaves. -/
namespace Go.Proofs
open Go Go.Ev Go.Num
set_option linter.unusedVariables false
set_option linter.unusedSimpArgs false
set_option maxRecDepth 100000

theorem skipTo {J : Nat → OO → Prop} {s : Nat} (hskip : ∀ v os, v < 16 → s.testBit v = false → J v os → J (v + 1) os) {os : OO} : ∀ d v, J v os → (∀ i, v ≤ i → i < v + d → s.testBit i = false) → v + d ≤ 16 → J (v + d) os
 | 0, v, h, _, _ => h
 | d + 1, v, h, hb, hd => by
  rw [show v + (d + 1) = v + 1 + d by omega]
  exact skipTo hskip d (v + 1) (hskip v os (by omega) (hb v (Nat.le_refl _) (by omega)) h) (fun i h1 h2 => hb i (by omega) (by omega)) (by omega)

theorem each_iter (r : Mem) (hm : ∀ b j u, tabM b j = some u → r b j = some u) {l p : Nat} {fl : List Fl} {s : Nat} (hs : s < 65536) {J : Nat → OO → Prop} {E : OO → Prop} {os0 : OO}
  (hbox : ∃ e f z, (mkA os0).heap.get p = some (.cells [V (s : Nat)] e f z))
  (hskip : ∀ v os, v < 16 → s.testBit v = false → J v os → J (v + 1) os)
  (hY : ∀ v os, v < 16 → s.testBit v = true → J v os → YOk (SC r) l [I (v : Nat)] (mkA os) fun w A' => ∃ os', Cn (mkA os0).next fl A' os' ∧ ((w = .bool true ∧ J (v + 1) os') ∨ (w = .bool false ∧ E os')))
  (hE : ∀ os, J 16 os → E os) (h0 : J 0 os0) (hl : oldV (mkA os0) (fY l) = true) :
  SOk (SC r) 82 [fY l, pq p] (mkA os0) fun v A' => ∃ os, A' = mkA os ∧ E os := by
 obtain ⟨be, bf, bz, hbox⟩ := hbox
 refine callG (SC_ok r) (by kernel_rfl) ((bodySC r _).trans Es_eq) (nt := 16) (by kernel_rfl) (rs := []) (by kernel_rfl) 11 rfl fun γ W F k hw hF hro hfr => ?_
 have ht := TOk.nil (C := SC r)
 have hte := tEs_ok r hm
 have old : ∀ t : Nat, ∀ v, some v ∈ [some (fY l), some (V (t : Nat))] → oldV (mkA os0) v = true := fun t v hv => by
  simp only [List.mem_cons, Option.some.injEq, List.not_mem_nil, or_false] at hv
  rcases hv with rfl | rfl
  ·exact hl
  ·rfl
 refine Go.Ev.Reach.seq (Go.Ev.Reach.mono (Go.Ev.Reach.segP (kn := asks fun st => ∃ sx T, st = ⟨⟨sx, T⟩, [], mkA os0⟩ ∧ lvEs.map T.get = [some (fY l), some (V (s : Nat))]) (kx := fun _ _ _ _ _ => .fail 0) (kr := fun _ _ _ _ => .fail 0) (SC_ok r) ht (tm := .nil) (L := 1) (L' := 1) (d := 1) hF hro ?_) fun ex st hq => ?_)
 ·have hn := ebA r l p (mkA os0)
  simp only [hbox, List.getElem?_cons_zero, show isI IntKind.u16 (V (s : Nat)) = true from rfl, show ofI (V (s : Nat)) = ((s : Nat) : Int) from rfl, cond_true] at hn
  exact (hn _ _ _ _).trans (qq_ok ⟨_, _, rfl, rfl⟩)
 ·cases ex with
  | normal =>
   obtain ⟨sx0, T0, e, hT⟩ : ∃ sx T, st = ⟨⟨sx, T⟩, [], mkA os0⟩ ∧ lvEs.map T.get = [some (fY l), some (V (s : Nat))] := qq_use hq
   subst e
   refine Go.Ev.Reach.block (Go.Ev.Reach.loop (I := fun j st => ∃ v os, j = 16 - v ∧ v ≤ 16 ∧ J v os ∧ Ren (SC r) 11 16 γ W st ⟨⟨[], tEb l (hiN s v : Nat)⟩, [], mkA os⟩) (fun j st ⟨v, os, hj, hv, hJ, hren⟩ => Go.Ev.Reach.pre hren ?_) (j := 16) ⟨0, os0, rfl, by decide, h0, by
    rw [hi_zero]
    exact Ren.world hw (lv := lvEs) (vs := [some (fY l), some (V (s : Nat))]) hT (old _) (RenA.refl _)⟩)
   have hhi : hiN s v < 65536 := Nat.lt_of_le_of_lt (hi_le s v) hs
   refine Go.Ev.Reach.seq (Go.Ev.Reach.mono (Go.Ev.Reach.segP (kn := asks fun st => hiN s v ≠ 0 ∧ ∃ sx, st = ⟨⟨sx, tEb l (hiN s v : Nat)⟩, [], mkA os⟩) (kx := fun i => match i with | 0 => asks fun st => hiN s v = 0 ∧ ∃ sx T, st = ⟨⟨sx, T⟩, [], mkA os⟩ | _ => fun _ _ _ _ => .fail 0) (kr := fun _ _ _ _ => .fail 0) (SC_ok r) ht (tm := .nil) (L := 1) (L' := 1) (d := 1) hF hro ?_) fun ex st hq => ?_)
   ·have hn := ebB r l (hiN s v : Nat) (mkA os)
    by_cases c : hiN s v = 0
    ·have ne : (((hiN s v : Nat) : Int) != Int.ofNat 0) = false := by simp [c]
     simp only [ne, cond_false] at hn
     exact (hn _ _ _ _).trans (qq_ok ⟨c, _, _, rfl⟩)
    ·have ne : (((hiN s v : Nat) : Int) != Int.ofNat 0) = true := by simp [c]
     simp only [ne, cond_true] at hn
     exact (hn _ _ _ _).trans (qq_ok ⟨c, _, rfl⟩)
   ·cases ex with
    | exit i =>
     cases i with
     | zero =>
      obtain ⟨c, sx, T, e⟩ : hiN s v = 0 ∧ ∃ sx T, st = ⟨⟨sx, T⟩, [], mkA os⟩ := qq_use hq
      subst e
      have hE' : E os := hE os (by
       have := skipTo hskip (16 - v) v hJ (fun i h1 _ => hi_none c h1) (by omega)
       rwa [show v + (16 - v) = 16 by omega] at this)
      exact ⟨.inl rfl, _, .tuple ⟨[]⟩, mkA os, Ren.world hw (lv := []) (vs := []) rfl (fun v hv => nomatch hv) (RenA.refl _), rfl, os, rfl, hE'⟩
     | succ i => cases hq
    | normal =>
     obtain ⟨c, sx, e⟩ : hiN s v ≠ 0 ∧ ∃ sx, st = ⟨⟨sx, tEb l (hiN s v : Nat)⟩, [], mkA os⟩ := qq_use hq
     subst e
     obtain ⟨n1, n2, n3, n4, n5⟩ := hi_next (b := 16) (s := s) (v := v) (by omega) c
     have ht16 := (tz_bit 16 _ (show hiN s v < 2 ^ 16 from hhi) c).1
     have e6 : m_tv ((hiN s v : Nat) : Int) = ((tzN 16 (hiN s v) : Nat) : Int) := by unfold m_tv; rw [Int.toNat_natCast]
     have hJt : J (tzN 16 (hiN s v)) os := by
      have := skipTo hskip (tzN 16 (hiN s v) - v) v hJ (fun i h1 h2 => n4 i h1 (by omega)) (by omega)
      rwa [show v + (tzN 16 (hiN s v) - v) = tzN 16 (hiN s v) by omega] at this
     have e7 : ibits .and .u16 ((hiN s v : Nat) : Int) (IntKind.wrap .u16 (((hiN s v : Nat) : Int) - Int.ofNat 1)) = ((hiN s (tzN 16 (hiN s v) + 1) : Nat) : Int) := by
      have : IntKind.wrap .u16 (((hiN s v : Nat) : Int) - Int.ofNat 1) = ((hiN s v - 1 : Nat) : Int) := by rw [wrV]; simp; omega
      rw [this, (uV (by omega) (by omega)).2.1, n5]
     generalize htz : tzN 16 (hiN s v) = t at *
     let Pn : St → Prop := fun st => ∃ sx A', st = ⟨⟨sx, tEb l (hiN s (t + 1) : Nat)⟩, [], A'⟩ ∧ ∃ os', Cn (mkA os0).next fl A' os' ∧ J (t + 1) os'
     let Pr : St → Prop := fun st => ∃ sx T A', st = ⟨⟨sx, T⟩, [], A'⟩ ∧ ∃ os', Cn (mkA os0).next fl A' os' ∧ E os'
     refine Go.Ev.Reach.mono (Go.Ev.Reach.first (kn := asks Pn) (kx := fun _ _ _ _ _ => .fail 0) (kr := asks Pr) (SC_ok r) hte (tm := .nil) (L := 1) (L' := 1) (d := 2) hF hro (.seq (.block (.seq .here))) (Go.Ev.Reach.yieldK (SC_ok r) hF hte (tm := .nil) (L := 1) (d := 2) 3 (s1 := [(13, I (t : Nat)), (12, V (hiN s v : Nat)), (11, fY l)]) (b1 := tEb l (hiN s v : Nat)) (ms1 := []) (A1 := mkA os) (A2 := mkA os) (i := l) (args := [I (t : Nat)]) ?_ (by kernel_rfl) (hY t os ht16 n3 hJt) fun w A' hS => ?_)) fun ex st' hq => ?_
     ·have hn := ebC r l (hiN s v : Nat) (mkA os)
      have c2 : m_tvG ((hiN s v : Nat) : Int) = true := decide_eq_true ⟨by omega, by omega⟩
      simp only [c2, cond_true, e6] at hn
      exact (hn _).trans (qn_ok rfl)
     ·obtain ⟨os', hcn, hv⟩ := hS
      rcases hv with ⟨rfl, hJ'⟩ | ⟨rfl, hE'⟩
      ·have hn := ebD r l (hiN s v : Nat) (t : Nat) true A'
       simp only [cond_true, e7] at hn
       exact (hn _ _ _ _).trans (qq_ok ⟨_, _, rfl, os', hcn, hJ'⟩)
      ·have hn := ebD r l (hiN s v : Nat) (t : Nat) false A'
       simp only [cond_false] at hn
       exact (hn _ _ _ _).trans (qq_ok ⟨_, _, _, rfl, os', hcn, hE'⟩)
     ·cases ex with
      | normal =>
       obtain ⟨sx, A', e, os', hcn, hJ'⟩ : Pn st' := qq_use hq
       subst e
       exact ⟨16 - (t + 1), by omega, t + 1, os', rfl, by omega, hJ', Ren.world hw (lv := lvEs) (vs := [some (fY l), some (V (hiN s (t + 1) : Nat))]) rfl (old _) (hcn.ren hfr)⟩
      | ret =>
       obtain ⟨sx, T, A', e, os', hcn, hE'⟩ : Pr st' := qq_use hq
       subst e
       exact ⟨.inr rfl, _, .tuple ⟨[]⟩, mkA os', Ren.world hw (lv := []) (vs := []) rfl (fun v hv => nomatch hv) (hcn.ren hfr), rfl, os', rfl, hE'⟩
      | exit i => cases hq
      | _ => exact hq.elim
    | ret => cases hq
    | _ => exact hq.elim
  | exit i => cases hq
  | ret => cases hq
  | _ => exact hq.elim

end Go.Proofs

/- Is it an order: run. -/
namespace Go.Proofs
open Go Go.Ev Go.Num
set_option linter.unusedVariables false
set_option linter.unusedSimpArgs false
set_option maxRecDepth 100000

def rgA : Code → Code
 | .rangeFunc _ _ a _ => a
 | c => c
def rgB : Code → Code
 | .rangeFunc _ _ _ b => b
 | c => c
noncomputable def cOIo : Code := bodyOf S0 43
noncomputable def OIo_0 : Code := (lc cOIo)
noncomputable def OIo_1 : Code := (lc (lc (rc cOIo)))
noncomputable def OIo_2 : Code := (lc (ic (ic (rc (lc (rc cOIo))))))
noncomputable def OIo_3 : Code := (lc (rc (ic (ic (rc (lc (rc cOIo)))))))
noncomputable def OIo_4 : Code := (lc (ic (lc (rc (rc (ic (ic (rc (lc (rc cOIo))))))))))
noncomputable def OIo_5 : Code := (lc (rc (ic (lc (rc (rc (ic (ic (rc (lc (rc cOIo)))))))))))
noncomputable def OIo_6 : Code := (lc (rc (rc (ic (lc (rc (rc (ic (ic (rc (lc (rc cOIo))))))))))))
noncomputable def OIo_7 : Code := (ic (rc (rc (rc (ic (lc (rc (rc (ic (ic (rc (lc (rc cOIo)))))))))))))
noncomputable def OIo_8 : Code := (rc (rc (rc (ic (ic (rc (lc (rc cOIo))))))))
noncomputable def OIo_9 : Code := (rc (rc cOIo))
noncomputable def k_o1 : Code := rgA OIo_7
noncomputable def k_o2 : Code := rgB OIo_7
noncomputable def OIo_b : Code := ic k_o2
theorem OIo_eq : cOIo = (.seq OIo_0 (.seq (.seq OIo_1 (.block 0 (.loop (.seq OIo_2 (.seq OIo_3 (.seq (.block 1 (.seq OIo_4 (.seq OIo_5 (.seq OIo_6 (.block 2 (.rangeFunc (.tmp 20) #[21] k_o1 k_o2)))))) OIo_8)))))) OIo_9)) := by kernel_rfl
theorem Ob_eq : k_o2 = .block 3 OIo_b := by kernel_rfl
abbrev fEo (p : Nat) : Value := .func (.func 82) ⟨[]⟩ ⟨[.pointer (some ⟨p, 0, none⟩)]⟩
def oSt (w : Nat) (i : Nat) : Option AObj := some (.cells [V ((w : Nat) : Int)] 49 i 0)
def oBl (b : Bool) (i : Nat) : Option AObj := some (.cells [.bool b] 4 i 0)
def oNt (k : Nat) (i : Nat) : Option AObj := some (.cells [I ((k : Nat) : Int)] 3 i 0)
def lvI : List Nat := [1, 2, 6, 7]
def lvIq : List Nat := [1, 2, 6, 7, 3, 20]
def lvIb : List Nat := [1, 2, 3, 4]
def vI (n y : Nat) : OV := [some (pq 0), some (pq 1), some (I (n : Nat)), some (I (y : Nat))]
def vIq (n y : Nat) : OV := vI n y ++ [some (pq 2), some (fEo 3)]
noncomputable def lpI (n y : Nat) (st : LoopState) (pd : Option Code) : AObj := .loop st pd 3145983 ⟨[], bT lvIq (vIq n y) .nil⟩ 33 #[21] k_o1 k_o2 4
def oI2 (c : List Value) : OO := [oOr c 0, oBl false 1]
def oI4 (c : List Value) (y a : Nat) : OO := oI2 c ++ [oNt y 2, oSt a 3]
noncomputable def oI6 (c : List Value) (n y a : Nat) (st : LoopState) (pd : Option Code) : OO := oI4 c y a ++ [some .defd, some (lpI n y st pd)]
def flI4 : List Fl := [.g, .t, .t, .t]
def flI6 : List Fl := flI4 ++ [.t, .l lvIq]

theorem ioA (r : Mem) (c : List Value) (fs : FnsC) (K : OV → List Nat → OO → CR) (kx : Nat → KS) (kr : KS) : run (SC r) 3145983 33 1 (.seq OIo_0 OIo_1) fs none (rbK 0 lvI [] K) kx kr (sc0 3145983 [.agg ⟨c⟩]) (tr0 3145983 [.agg ⟨c⟩]) [] emptyA =
    Option.casesOn c[0]? (.fail 423) fun val => bif isI IntKind.i64 val then bif m_nns c && true then K [some (.pointer (some ⟨0, 0, none⟩)), some (.pointer (some ⟨1, 0, none⟩)), some (I (ofI val)), some (I (Int.ofNat 0))] [] [some (.cells c 52 0 0), some (.cells [.bool false] 4 1 0)] else .fail 420 else .fail 420 := by kernel_rfl

theorem ioB (r : Mem) (c : List Value) (n y : Nat) (fs : FnsC) (K : OV → List Nat → OO → CR) (KX : Nat → OV → List Nat → OO → CR) (kr : KS) : run (SC r) 3145983 33 1 (.seq OIo_2 OIo_3) fs none (rbK 0 lvI [] K) (fun j => rbK 0 [2] [] (KX j)) kr [] (bT lvI (vI n y) .nil) [] (mkA (oI2 c)) =
    bif decide (Int.ofNat y < Int.ofNat n) then bif m_nns c && true then K [some (.pointer (some ⟨0, 0, none⟩)), some (.pointer (some ⟨1, 0, none⟩)), some (I (Int.ofNat n)), some (I (Int.ofNat y))] [] [some (.cells c 52 0 0), some (.cells [.bool false] 4 1 0)] else .fail 420 else KX 0 [some (.pointer (some ⟨0, 0, none⟩))] [] [some (.cells [.bool false] 4 0 0)] := by kernel_rfl

theorem ioC (r : Mem) (c : List Value) (n y : Nat) (K : OV → List Nat → OO → CR) (kx : Nat → KS) (KR : OV → List Nat → OO → CR) : run (SC r) 3145983 33 1 (.seq OIo_4 (.seq OIo_5 OIo_6)) (lvlT (SC r) (fun _ => none) .nil 1 3) none (rbK 0 lvIq flI4 K) kx (rbK 0 [2] [] KR) [] (bT lvI (vI n y) .nil) [] (mkA (oI2 c)) =
    bif Nat.blt (Int.toNat (Int.ofNat y)) 12 then Option.casesOn c[Nat.add 1 (Nat.mul (Int.toNat (Int.ofNat y)) 1)]? (.fail 423) fun val => bif isI IntKind.u16 val then bif ibits BinOp.and IntKind.u16 (Int.fdiv (ofI val) (Int.ofNat 2 ^ min (Int.toNat (Int.ofNat y)) 16)) (Int.ofNat 1) == Int.ofNat 1 then bif m_eqv (I (Int.ofNat y)) (I (Int.ofNat y)) then Option.casesOn c[Nat.add 1 (Nat.mul (Int.toNat (Int.ofNat y)) 1)]? (.fail 423) fun val_1 => bif isI IntKind.u16 val_1 then bif m_eqv (.int .u16 (ofI val_1)) (.int .u16 (ofI val)) then bif m_eqv (I (Int.ofNat y)) (I (Int.ofNat y)) then KR [some (.pointer (some ⟨0, 0, none⟩))] [] [some (.cells [.bool false] 4 0 0)] else .fail 420 else .fail 420 else .fail 420 else .fail 420 else bif m_eqv (I (Int.ofNat y)) (I (Int.ofNat y)) then Option.casesOn c[Nat.add 1 (Nat.mul (Int.toNat (Int.ofNat y)) 1)]? (.fail 423) fun val_1 => bif isI IntKind.u16 val_1 then bif m_eqv (.int .u16 (ofI val_1)) (.int .u16 (ofI val)) then bif m_eqv (I (Int.ofNat y)) (I (Int.ofNat y)) then bif Nat.blt (Int.toNat (Int.ofNat y)) 12 then Option.casesOn c[Nat.add 1 (Nat.mul (Int.toNat (Int.ofNat y)) 1)]? (.fail 423) fun val => bif isI IntKind.u16 val then bif m_nns c && (true && (true && (true && true))) then K [some (.pointer (some ⟨0, 0, none⟩)), some (.pointer (some ⟨1, 0, none⟩)), some (I (Int.ofNat n)), some (I (Int.ofNat y)), some (.pointer (some ⟨2, 0, none⟩)), some (.func (Fn.func 82) ⟨[]⟩ ⟨[.pointer (some ⟨3, 0, none⟩)]⟩)] [] [some (.cells c 52 0 0), some (.cells [.bool false] 4 1 0), some (.cells [I (Int.ofNat y)] 3 2 0), some (.cells [.int .u16 (ofI val)] 49 3 0)] else .fail 420 else .fail 420 else .fail 420 else .fail 420 else .fail 420 else .fail 420 else .fail 420 else .fail 420 else .fail 420 := by kernel_rfl

theorem ioD (r : Mem) (c : List Value) (n y a v : Nat) (fs : FnsC) (K : OV → List Nat → OO → CR) (kx : Nat → KS) (kr : KS) : run (SC r) 3145983 33 1 k_o1 fs (some 5) (begK 5 (rbK 6 lvIb flI6 K)) kx kr [] (bT (lvIq ++ [21]) (vIq n y ++ [some (I (v : Nat))]) .nil) [] (mkA (oI6 c n y a .ready none)) =
    bif m_nns c && (true && (true && (true && (true && (true && true))))) then K [some (.pointer (some ⟨0, 0, none⟩)), some (.pointer (some ⟨1, 0, none⟩)), some (.pointer (some ⟨2, 0, none⟩)), some (I (Int.ofNat v))] [] [some (.cells c 52 0 0), some (.cells [.bool false] 4 1 0), some (.cells [I (Int.ofNat y)] 3 2 0), some (.cells [.int .u16 (Int.ofNat a)] 49 3 0), some .defd, some ((lpI n y LoopState.busy none))] else .fail 420 := by kernel_rfl

theorem ioE (r : Mem) (c : List Value) (n y a v : Nat) (K : OV → List Nat → OO → CR) (kx : Nat → KS) (KR : OV → List Nat → OO → CR) : run (SC r) 3145983 33 1 OIo_b (lvlT (SC r) (fun _ => none) .nil 1 3) (some 5) (rbK 6 [] flI6 K) kx (rbK 6 [] flI6 KR) [] (bT lvIb [some (pq 0), some (pq 1), some (pq 2), some (I (v : Nat))] .nil) [] (mkA (oI6 c n y a .busy none)) =
    bif Nat.blt (Int.toNat (Int.ofNat v)) 12 then Option.casesOn c[Nat.add 1 (Nat.mul (Int.toNat (Int.ofNat v)) 1)]? (.fail 423) fun val => bif isI IntKind.u16 val then bif Nat.blt (Int.toNat (Int.ofNat y)) 12 then Option.casesOn c[Nat.add 1 (Nat.mul (Int.toNat (Int.ofNat y)) 1)]? (.fail 423) fun val_1 => bif isI IntKind.u16 val_1 then bif ibits BinOp.andNot IntKind.u16 (ofI val) (ofI val_1) == Int.ofNat 0 then Option.casesOn c[Nat.add 1 (Nat.mul (Int.toNat (Int.ofNat y)) 1)]? (.fail 423) fun val_2 => bif isI IntKind.u16 val_2 then bif m_eqv (.int .u16 (ofI val_2)) (.int .u16 (ofI val_1)) then bif m_eqv (I (Int.ofNat y)) (I (Int.ofNat y)) then Option.casesOn c[Nat.add 1 (Nat.mul (Int.toNat (Int.ofNat v)) 1)]? (.fail 423) fun val_3 => bif isI IntKind.u16 val_3 then bif m_eqv (.int .u16 (ofI val_3)) (.int .u16 (ofI val)) then bif m_nns c && (true && (true && (true && (true && (true && true))))) then K [] [] [some (.cells c 52 0 0), some (.cells [.bool false] 4 1 0), some (.cells [I (Int.ofNat y)] 3 2 0), some (.cells [.int .u16 (Int.ofNat a)] 49 3 0), some .defd, some ((lpI n y LoopState.busy none))] else .fail 420 else .fail 420 else .fail 420 else .fail 420 else .fail 420 else .fail 420 else Option.casesOn c[Nat.add 1 (Nat.mul (Int.toNat (Int.ofNat y)) 1)]? (.fail 423) fun val_2 => bif isI IntKind.u16 val_2 then bif m_eqv (.int .u16 (ofI val_2)) (.int .u16 (ofI val_1)) then bif m_eqv (I (Int.ofNat y)) (I (Int.ofNat y)) then Option.casesOn c[Nat.add 1 (Nat.mul (Int.toNat (Int.ofNat v)) 1)]? (.fail 423) fun val_3 => bif isI IntKind.u16 val_3 then bif m_eqv (.int .u16 (ofI val_3)) (.int .u16 (ofI val)) then bif m_nns c && (true && (true && (true && (true && (true && true))))) then KR [] [] [some (.cells c 52 0 0), some (.cells [.bool false] 4 1 0), some (.cells [I (Int.ofNat y)] 3 2 0), some (.cells [.int .u16 (Int.ofNat a)] 49 3 0), some .defd, some ((lpI n y LoopState.busy none))] else .fail 420 else .fail 420 else .fail 420 else .fail 420 else .fail 420 else .fail 420 else .fail 420 else .fail 420 else .fail 420 else .fail 420 := by kernel_rfl

theorem ioT (r : Mem) (c : List Value) (n y a : Nat) (K : OV → List Nat → OO → CR) (kx : Nat → KS) (kr : KS) : tailRK 5 ⟨[], bT lvIq (vIq n y) .nil⟩ [4] (rbK 0 lvI [] K) kx kr (mkA (oI6 c n y a .ready none)) =
    bif m_nns c && true then K [some (.pointer (some ⟨0, 0, none⟩)), some (.pointer (some ⟨1, 0, none⟩)), some (I (Int.ofNat n)), some (I (Int.ofNat y))] [] [some (.cells c 52 0 0), some (.cells [.bool false] 4 1 0)] else .fail 420 := by kernel_rfl

theorem ioU (r : Mem) (c : List Value) (n y a : Nat) (kn : KS) (kx : Nat → KS) (KR : OV → List Nat → OO → CR) : tailRK 5 ⟨[], bT lvIq (vIq n y) .nil⟩ [4] kn kx (rbK 0 [2] [] KR) (mkA (oI6 c n y a .done (some .ret))) =
    KR [some (.pointer (some ⟨0, 0, none⟩))] [] [some (.cells [.bool false] 4 0 0)] := by kernel_rfl

theorem ioG (r : Mem) (c : List Value) (n y : Nat) (fs : FnsC) (K : OV → List Nat → OO → CR) (kx : Nat → KS) (kr : KS) : run (SC r) 3145983 33 1 OIo_8 fs none (rbK 0 lvI [] K) kx kr [] (bT lvI (vI n y) .nil) [] (mkA (oI2 c)) =
    bif m_nns c && true then K [some (.pointer (some ⟨0, 0, none⟩)), some (.pointer (some ⟨1, 0, none⟩)), some (I (Int.ofNat n)), some (I (IntKind.wrap .i64 (Int.ofNat y + Int.ofNat 1)))] [] [some (.cells c 52 0 0), some (.cells [.bool false] 4 1 0)] else .fail 420 := by kernel_rfl

theorem ioH (r : Mem) (fs : FnsC) (K KR : OV → List Nat → OO → CR) (kx : Nat → KS) : run (SC r) 3145983 33 1 OIo_9 fs none (rbK 0 [2] [] K) kx (rbK 0 [2] [] KR) [] (bT [2] [some (pq 0)] .nil) [] (mkA [oBl false 0]) =
    KR [some (.pointer (some ⟨0, 0, none⟩))] [] [some (.cells [.bool true] 4 0 0)] := by kernel_rfl

end Go.Proofs

/- Is it an order: what the call answers. -/
namespace Go.Num
def ioX (w : Nat → Nat) (y : Nat) : Nat → Bool
 | 0 => true
 | v + 1 => ioX w y v && (!(w y).testBit v || anN (w v) (w y) == 0)
def ioY (w : Nat → Nat) : Nat → Bool
 | 0 => true
 | y + 1 => ioY w y && (!(w y).testBit y && ioX w y 16)
theorem ioX_no {w : Nat → Nat} {y v : Nat} (h : ioX w y v = false) : ∀ d, ioX w y (v + d) = false
 | 0 => h
 | d + 1 => by rw [show v + (d + 1) = (v + d) + 1 by omega, ioX, ioX_no h d, Bool.false_and]
theorem ioY_no {w : Nat → Nat} {v : Nat} (h : ioY w v = false) : ∀ d, ioY w (v + d) = false
 | 0 => h
 | d + 1 => by rw [show v + (d + 1) = (v + d) + 1 by omega, ioY, ioY_no h d, Bool.false_and]

end Go.Num
namespace Go.Proofs
open Go Go.Ev Go.Num
set_option linter.unusedVariables false
set_option linter.unusedSimpArgs false
set_option maxRecDepth 100000

theorem shrV (x k : Nat) (hk : k ≤ 16) : Int.fdiv ((x : Nat) : Int) (Int.ofNat 2 ^ min k 16) = ((x / 2 ^ k : Nat) : Int) := by
 rw [Nat.min_eq_left hk, Int.fdiv_eq_ediv_of_nonneg _ (by exact Int.pow_nonneg (by decide)), show (Int.ofNat 2 ^ k : Int) = ((2 ^ k : Nat) : Int) by simp]
 exact (Int.natCast_ediv x (2 ^ k)).symm
theorem has_v {w k : Nat} (hw : w < 65536) (hk : k ≤ 16) : (ibits BinOp.and IntKind.u16 (Int.fdiv ((w : Nat) : Int) (Int.ofNat 2 ^ min k 16)) (Int.ofNat 1) == Int.ofNat 1) = w.testBit k := by
 rw [shrV w k hk]
 have h1 : w / 2 ^ k < 65536 := Nat.lt_of_le_of_lt (Nat.div_le_self _ _) hw
 have h2 := (uV h1 (show 1 < 65536 by decide)).2.1
 rw [show (Int.ofNat 1 : Int) = ((1 : Nat) : Int) from rfl, h2, Nat.and_one_is_mod, Nat.testBit_eq_decide_div_mod_eq]
 by_cases c : w / 2 ^ k % 2 = 1
 ·rw [c]; rfl
 ·rw [show w / 2 ^ k % 2 = 0 by omega]; rfl
theorem eqv_i (a : Int) : m_eqv (I a) (I a) = true := by simp [m_eqv, veq]
theorem z_eq (x : Nat) : (((x : Nat) : Int) == Int.ofNat 0) = (x == 0) := by rw [Bool.eq_iff_iff]; simp
section
variable {n : Nat} {w a : Nat → Nat}
noncomputable def oO6 (n : Nat) (w a : Nat → Nat) (y : Nat) (st : LoopState) (pd : Option Code) : OO := oI6 (orC n w a) n y (w y) st pd
theorem gdO (n : Nat) (w a : Nat → Nat) (y : Nat) (st : LoopState) (pd : Option Code) : gdAs flI6 (oO6 n w a y st pd) = true := by
 have h : gdAs flI6 (oO6 n w a y st pd) = (m_nns (orC n w a) && (true && (true && (true && (true && true))))) := by kernel_rfl
 simp only [h, orC_nn, Bool.and_self]
theorem cnO (n : Nat) (w a : Nat → Nat) (y : Nat) : Cn 6 flI6 (mkA (oO6 n w a y .ready none)) (oO6 n w a y .ready none) := ⟨by kernel_rfl, gdO n w a y _ _⟩
theorem cnOr (n : Nat) (w a : Nat → Nat) (y : Nat) : Cn 6 flI6 (mkA (oO6 n w a y .done (some .ret))) (oO6 n w a y .done (some .ret)) := ⟨by kernel_rfl, gdO n w a y _ _⟩
theorem endO (n : Nat) (w a : Nat → Nat) (y : Nat) : endR 5 none (St.of [] [] [] (oO6 n w a y .busy none)) = .ret (.bool true) (mkA (oO6 n w a y .ready none)) := by kernel_rfl
theorem endOr (n : Nat) (w a : Nat → Nat) (y : Nat) : endR 5 (some .ret) (St.of [] [] [] (oO6 n w a y .busy none)) = .ret (.bool false) (mkA (oO6 n w a y .done (some .ret))) := by kernel_rfl
theorem yO {r : Mem} (hw : ∀ j, w j < 4096) {y v : Nat} (hy : y < 12) (hv : v < 12) {P E : OO → Prop} (hP : (anN (w v) (w y) == 0) = true → P (oO6 n w a y .ready none)) (hE : (anN (w v) (w y) == 0) = false → E (oO6 n w a y .done (some .ret))) :
  YOk (SC r) 5 [I (v : Nat)] (mkA (oO6 n w a y .ready none)) fun x A' => ∃ os', Cn 6 flI6 A' os' ∧ ((x = .bool true ∧ P os') ∨ (x = .bool false ∧ E os')) := by
 have hnx : (mkA (oO6 n w a y .ready none)).next = 6 := by kernel_rfl
 have hwv := hw v
 have hwy := hw y
 refine YOk.of (SC_ok r) (i := 5) (st := .ready) (pend := none) (m := 3145983) (n := 33) (en := ⟨[], bT lvIq (vIq n y) .nil⟩) (params := #[21]) (assign := k_o1) (body := k_o2) (d := 4) (by kernel_rfl) (s0 := []) (b0 := bT (lvIq ++ [21]) (vIq n y ++ [some (I (v : Nat))]) .nil) (by kernel_rfl) TOk.nil (tm := .nil) (L := 1) (L' := 1) (d' := 3)
  ⟨lvIb, flI6, fun vs ms os => vs = [some (pq 0), some (pq 1), some (pq 2), some (I (v : Nat))] ∧ ms = [] ∧ os = oO6 n w a y .busy none⟩
  ⟨[], flI6, fun vs ms os => (anN (w v) (w y) == 0) = true ∧ vs = [] ∧ ms = [] ∧ os = oO6 n w a y .busy none⟩
  (fun _ => Outs.no) ⟨[], flI6, fun vs ms os => (anN (w v) (w y) == 0) = false ∧ vs = [] ∧ ms = [] ∧ os = oO6 n w a y .busy none⟩ ?_ ?_ ?_ ?_ ?_
 ·rw [hnx]
  have hn' := ioD r (orC n w a) n y (w y) v
  simp only [orC_nn, Bool.and_self, Bool.and_true, cond_true] at hn'
  exact (hn' _ _ _ _).trans (qq_ok ⟨rfl, rfl, rfl⟩)
 ·rintro F k γ W hF hro h0 vs ms os ⟨rfl, rfl, rfl⟩
  rw [hnx] at h0
  rw [Ob_eq]
  refine Go.Ev.Reach.blockC (Go.Ev.Reach.segR (SC_ok r) TOk.nil (tm := .nil) (L := 1) (L' := 1) (d := 3) hF hro h0 [] (fun p hp => nomatch hp) ?_)
  have hn' := ioE r (orC n w a) n y (w y) v
  have gv : (orC n w a)[Nat.add 1 (Nat.mul v 1)]? = some (V ((w v : Nat) : Int)) := by
   rw [show Nat.add 1 (Nat.mul v 1) = 1 + v by simp]; exact orC_w hv
  have gy : (orC n w a)[Nat.add 1 (Nat.mul y 1)]? = some (V ((w y : Nat) : Int)) := by
   rw [show Nat.add 1 (Nat.mul y 1) = 1 + y by simp]; exact orC_w hy
  have e2 : ibits .andNot .u16 ((w v : Nat) : Int) ((w y : Nat) : Int) = ((anN (w v) (w y) : Nat) : Int) := (uV (by omega) (by omega)).2.2
  have b1 : Nat.blt v 12 = true := Nat.ble_eq_true_of_le (by omega)
  have b2 : Nat.blt y 12 = true := Nat.ble_eq_true_of_le (by omega)
  simp only [show ∀ x : Nat, Int.toNat (Int.ofNat x) = x from fun _ => rfl, b1, b2, cond_true, gv, gy, isV_V] at hn'
  dsimp +instances only [ofI_V] at hn'
  simp only [eqv_v, eqv_i, cond_true, e2, z_eq, orC_nn, Bool.and_self, Bool.and_true] at hn'
  cases q : (anN (w v) (w y) == 0) with
  | true =>
   simp only [q, cond_true] at hn'
   exact (hn' _ _ _).trans (qq_ok ⟨rfl, rfl, rfl, rfl⟩)
  | false =>
   simp only [q, cond_false] at hn'
   exact (hn' _ _ _).trans (qq_ok ⟨rfl, rfl, rfl, rfl⟩)
 ·rintro vs ms os ⟨h, rfl, rfl, rfl⟩
  exact ⟨_, _, endO _ _ _ _, _, cnO _ _ _ _, .inl ⟨rfl, hP h⟩⟩
 ·rintro id vs ms os hf
  exact hf.elim
 ·rintro vs ms os ⟨h, rfl, rfl, rfl⟩
  exact ⟨_, _, endOr _ _ _ _, _, cnOr _ _ _ _, .inr ⟨rfl, hE h⟩⟩
end

end Go.Proofs

/- Orders as words. Mathematics. -/
namespace Go.Proofs
open Go Go.Ev Go.Num
set_option linter.unusedVariables false
set_option linter.unusedSimpArgs false

theorem ioX_all {w : Nat → Nat} {y : Nat} : ∀ {m : Nat}, ioX w y m = true ↔ ∀ v, v < m → (w y).testBit v = true → anN (w v) (w y) = 0
 | 0 => ⟨fun _ v h => by omega, fun _ => rfl⟩
 | m + 1 => by
  rw [ioX, Bool.and_eq_true, ioX_all (m := m)]
  constructor
  ·rintro ⟨h1, h2⟩ v hv hb
   by_cases e : v = m
   ·subst e
    rw [hb] at h2
    simpa using h2
   ·exact h1 v (by omega) hb
  ·intro h
   refine ⟨fun v hv => h v (by omega), ?_⟩
   cases q : (w y).testBit m with
   | false => rfl
   | true => simpa using h m (by omega) q
theorem ioY_all {w : Nat → Nat} : ∀ {m : Nat}, ioY w m = true ↔ ∀ y, y < m → (w y).testBit y = false ∧ ioX w y 16 = true
 | 0 => ⟨fun _ v h => by omega, fun _ => rfl⟩
 | m + 1 => by
  rw [ioY, Bool.and_eq_true, Bool.and_eq_true, Bool.not_eq_true', ioY_all (m := m)]
  exact ⟨fun ⟨h1, h2, h3⟩ y hy => by
   by_cases e : y = m
   ·rw [e]; exact ⟨h2, h3⟩
   ·exact h1 y (by omega), fun h => ⟨fun y hy => h y (by omega), h m (by omega)⟩⟩
theorem trK_all {T : List (List Bool)} {i k : Nat} : ∀ {m : Nat}, trK T i k m = true ↔ ∀ z, z < m → badO T i k z = false
 | 0 => ⟨fun _ v h => by omega, fun _ => rfl⟩
 | m + 1 => by
  rw [trK, Bool.and_eq_true, Bool.not_eq_true', trK_all (m := m)]
  exact ⟨fun ⟨h1, h2⟩ y hy => by
   by_cases e : y = m
   ·rw [e]; exact h2
   ·exact h1 y (by omega), fun h => ⟨fun y hy => h y (by omega), h m (by omega)⟩⟩
theorem trJ_all {T : List (List Bool)} {i : Nat} : ∀ {m : Nat}, trJ T i m = true ↔ ∀ k, k < m → trK T i k T.length = true
 | 0 => ⟨fun _ v h => by omega, fun _ => rfl⟩
 | m + 1 => by
  rw [trJ, Bool.and_eq_true, trJ_all (m := m)]
  exact ⟨fun ⟨h1, h2⟩ y hy => by
   by_cases e : y = m
   ·rw [e]; exact h2
   ·exact h1 y (by omega), fun h => ⟨fun y hy => h y (by omega), h m (by omega)⟩⟩
theorem trI_all {T : List (List Bool)} : ∀ {m : Nat}, trI T m = true ↔ ∀ i, i < m → trJ T i T.length = true
 | 0 => ⟨fun _ v h => by omega, fun _ => rfl⟩
 | m + 1 => by
  rw [trI, Bool.and_eq_true, trI_all (m := m)]
  exact ⟨fun ⟨h1, h2⟩ y hy => by
   by_cases e : y = m
   ·rw [e]; exact h2
   ·exact h1 y (by omega), fun h => ⟨fun y hy => h y (by omega), h m (by omega)⟩⟩
def lenO (T : List (List Bool)) : Nat → Bool
 | 0 => true
 | i + 1 => lenO T i && ((T.getD i []).length == T.length)
theorem lenI_all {T : List (List Bool)} : ∀ {m : Nat}, lenI T m = true ↔ lenO T m = true ∧ ∀ i, i < m → gT T i i = false
 | 0 => ⟨fun _ => ⟨rfl, fun v h => by omega⟩, fun _ => rfl⟩
 | m + 1 => by
  rw [lenI, lenO, Bool.and_eq_true, Bool.and_eq_true, Bool.and_eq_true, Bool.not_eq_true', lenI_all (m := m)]
  exact ⟨fun ⟨⟨h1, h0⟩, h2, h3⟩ => ⟨⟨h1, h2⟩, fun y hy => by
   by_cases e : y = m
   ·rw [e]; exact h3
   ·exact h0 y (by omega)⟩, fun ⟨⟨h1, h2⟩, h⟩ => ⟨⟨h1, fun y hy => h y (by omega)⟩, h2, h m (by omega)⟩⟩
theorem lenO_no {T : List (List Bool)} : ∀ {n i : Nat}, i < n → (T.getD i []).length ≠ T.length → lenO T n = false
 | n + 1, i, hi, h => by
  simp only [lenO]
  by_cases c : i = n
  ·subst c
   rw [show ((T.getD i []).length == T.length) = false by simpa using h, Bool.and_false]
  ·rw [lenO_no (by omega) h, Bool.false_and]
def clW (T : List (List Bool)) (j : Nat) : Nat := clO T j T.length
theorem clW_bit (T : List (List Bool)) (j x : Nat) : (clW T j).testBit x = (decide (x < T.length) && gT T x j) := clO_bit T j T.length x
theorem io_ck {T : List (List Bool)} (hn : T.length ≤ 12) : ioY (clW T) T.length = true ↔ (∀ i, i < T.length → gT T i i = false) ∧ trI T T.length = true := by
 rw [ioY_all, trI_all]
 constructor
 ·intro h
  refine ⟨fun i hi => ?_, fun x hx => trJ_all.2 fun y hy => trK_all.2 fun z hz => ?_⟩
  ·have := (h i hi).1
   rw [clW_bit, decide_eq_true hi, Bool.true_and] at this
   exact this
  ·unfold badO
   cases q1 : gT T x y with
   | false => rfl
   | true =>
    cases q2 : gT T y z with
    | false => rfl
    | true =>
     have h1 := ioX_all.1 (h z hz).2 y (by omega) (by rw [clW_bit, decide_eq_true hy, q2]; rfl)
     have h2 := in_bit.1 (an_zero.1 h1) x (by rw [clW_bit, decide_eq_true hx, q1]; rfl)
     rw [clW_bit, decide_eq_true hx, Bool.true_and] at h2
     rw [h2]; rfl
 ·rintro ⟨h1, h2⟩ y hy
  refine ⟨by rw [clW_bit, h1 y hy, Bool.and_false], ioX_all.2 fun v hv hb => ?_⟩
  rw [clW_bit, Bool.and_eq_true, decide_eq_true_eq] at hb
  refine an_zero.2 (in_bit.2 fun x hx => ?_)
  rw [clW_bit, Bool.and_eq_true, decide_eq_true_eq] at hx
  have h3 := trK_all.1 (trJ_all.1 (h2 x hx.1) v hb.1) y hy
  unfold badO at h3
  rw [hx.2, hb.2] at h3
  rw [clW_bit, decide_eq_true hx.1]
  simpa using h3
theorem ckO_eq {T : List (List Bool)} : ckO T = (decide (1 ≤ T.length ∧ T.length ≤ 12) && (lenO T T.length && ioY (clW T) T.length)) := by
 unfold ckO
 by_cases c : 1 ≤ T.length ∧ T.length ≤ 12
 ·rw [decide_eq_true c, Bool.true_and, Bool.true_and, Bool.eq_iff_iff, Bool.and_eq_true, Bool.and_eq_true, lenI_all, io_ck c.2, and_assoc]
 ·rw [decide_eq_false c, Bool.false_and, Bool.false_and]

end Go.Proofs

/- Is it an order: what the call answers, at last. -/
namespace Go.Proofs
open Go Go.Ev Go.Num
set_option linter.unusedVariables false
set_option linter.unusedSimpArgs false
set_option maxRecDepth 100000

section
variable {r : Mem} {n : Nat} {w a : Nat → Nat}
theorem io_ok (hm : ∀ b j u, tabM b j = some u → r b j = some u) (hn : n ≤ 12) (hw : ∀ j, w j < 2 ^ n) : GrT Tryz.prog r 43 [.agg ⟨orC n w a⟩] (.bool (ioY w n)) := by
 have hw4 : ∀ j, w j < 4096 := fun j => lt12 hn (hw j)
 generalize hb : ioY w n = v
 refine GrT.ofS (C := SC r) rfl rfl rfl (callO (SC_ok r) (by kernel_rfl) ((bodySC r _).trans OIo_eq) (nt := 33) (by kernel_rfl) (rs := [.cell 2 4]) (by kernel_rfl) 3145983 rfl ⟨[2], [], fun vs ms os => vs = [some (pq 0)] ∧ ms = [] ∧ os = [oBl v 0]⟩ ?_ fun γ W F kk hwr hF hro h0' => ?_)
 ·rintro vs ms os ⟨rfl, rfl, rfl⟩
  exact ⟨_, mkA [oBl v 0], by kernel_rfl, rfl⟩
 have h0' : ∀ i, 0 ≤ i → γ i = none := h0'
 have w1 : ∀ k : Nat, k ≤ 1000 → IntKind.wrap IntKind.i64 ((k : Int) + ((1 : Nat) : Int)) = ((k + 1 : Nat) : Int) := fun k hk => inc1' (by omega)
 have nn := orC_nn n w a
 have e00 : (orC n w a)[0]? = some (I (n : Nat)) := rfl
 have stop : ∀ {y : Nat}, y < n → (!(w y).testBit y && ioX w y 16) = false → v = false := fun {y} hy h => by
  have h1 : ioY w (y + 1) = false := by rw [ioY, h, Bool.and_false]
  have := ioY_no h1 (n - (y + 1))
  rw [show y + 1 + (n - (y + 1)) = n by omega] at this
  rw [← hb, this]
 let X : Outs := ⟨[2], [], fun vs ms os => ioY w n = true ∧ vs = [some (pq 0)] ∧ ms = [] ∧ os = [oBl false 0]⟩
 refine Go.Ev.Reach.after3R (SC_ok r) TOk.nil (tm := .nil) (L := 1) (L' := 1) (d := 1) hF hro h0' (.step .base)
  (o1 := ⟨lvI, [], fun vs ms os => vs = vI n 0 ∧ ms = [] ∧ os = oI2 (orC n w a)⟩) (o2 := X) [] (fun p hp => nomatch hp) ?_ ?_ ?_
 ·rintro vs ms os ⟨rfl, rfl, rfl⟩
  refine Go.Ev.Reach.blockC (Go.Ev.Reach.loopC (j := n) (lv := lvI) (fl := []) (I := fun j vs ms os => ∃ y : Nat, y ≤ n ∧ j = n - y ∧ ioY w y = true ∧ vs = vI n y ∧ ms = [] ∧ os = oI2 (orC n w a)) (fun j vs ms os hI => ?_) ⟨0, by omega, rfl, rfl, rfl, rfl, rfl⟩)
  obtain ⟨y, hy, rfl, hf, rfl, rfl, rfl⟩ := hI
  refine Go.Ev.Reach.afterR (SC_ok r) TOk.nil (tm := .nil) (L := 1) (L' := 1) (d := 1) hF hro h0' (.step .base) (o1 := ⟨lvI, [], fun vs ms os => y < n ∧ vs = vI n y ∧ ms = [] ∧ os = oI2 (orC n w a)⟩) [(0, ⟨[2], [], fun vs ms os => ioY w n = true ∧ vs = [some (pq 0)] ∧ ms = [] ∧ os = [oBl false 0]⟩)] (fun p hp => by simp only [List.mem_cons, List.not_mem_nil, or_false] at hp; subst hp; rfl) ?_ ?_
  ·rintro vs ms os ⟨hy', rfl, rfl, rfl⟩
   have b2 : Nat.blt y 12 = true := Nat.ble_eq_true_of_le (by omega)
   have gy : (orC n w a)[Nat.add 1 (Nat.mul y 1)]? = some (V ((w y : Nat) : Int)) := by
    rw [show Nat.add 1 (Nat.mul y 1) = 1 + y by simp]; exact orC_w (by omega)
   have hwy := hw4 y
   refine Go.Ev.Reach.seqC (o1 := ⟨lvI, [], fun vs ms os => (!(w y).testBit y && ioX w y 16) = true ∧ vs = vI n y ∧ ms = [] ∧ os = oI2 (orC n w a)⟩) (Go.Ev.Reach.blockC ?_) fun vs ms os hq => ?_
   ·refine Go.Ev.Reach.afterR (SC_ok r) TOk.nil (tm := .nil) (L := 1) (L' := 1) (d := 3) hF hro h0' (.step (.step .base)) (o1 := ⟨lvIq, flI4, fun vs ms os => (w y).testBit y = false ∧ vs = vIq n y ∧ ms = [] ∧ os = oI4 (orC n w a) y (w y)⟩) [] (fun p hp => nomatch hp) ?_ ?_
    ·rintro vs ms os ⟨hbit, rfl, rfl, rfl⟩
     have hl : ((mkA (oI4 (orC n w a) y (w y))).new .defd).next = 5 := by kernel_rfl
     refine Go.Ev.Reach.blockC (Go.Ev.Reach.rangeC (SC_ok r) hF hro h0' (d := 4) (marks := [4]) (A1 := (mkA (oI4 (orC n w a) y (w y))).new .defd) (g := 82) (first := []) (captured := [pq 3]) (S := fun v A' => ∃ os, A' = mkA os ∧ os = (if ioX w y 16 then oO6 n w a y .ready none else oO6 n w a y .done (some .ret))) [] (fun p hp => nomatch hp) (by kernel_rfl) (by kernel_rfl) (by kernel_rfl) ?_ ?_)
     ·have hE : ((mkA (oI4 (orC n w a) y (w y))).new .defd).new (.loop .ready none 3145983 ⟨[], bT lvIq (vIq n y) .nil⟩ 33 #[21] k_o1 k_o2 4) = mkA (oO6 n w a y .ready none) := by kernel_rfl
      show SOk _ _ _ (((mkA (oI4 (orC n w a) y (w y))).new .defd).new (.loop .ready none 3145983 ⟨[], bT lvIq (vIq n y) .nil⟩ 33 #[21] k_o1 k_o2 4)) _
      rw [hE, hl]
      have hnx : (mkA (oO6 n w a y .ready none)).next = 6 := by kernel_rfl
      refine each_iter r hm (l := 5) (p := 3) (fl := flI6) (s := w y) (by omega) (J := fun v os => ioX w y v = true ∧ os = oO6 n w a y .ready none) (E := fun os => os = (if ioX w y 16 then oO6 n w a y .ready none else oO6 n w a y .done (some .ret))) (os0 := oO6 n w a y .ready none)
       ⟨49, 3, 0, by kernel_rfl⟩ ?_ ?_ ?_ ⟨rfl, rfl⟩ (by kernel_rfl)
      ·rintro x os hx hbx ⟨h1, h2⟩
       exact ⟨by rw [ioX, h1, hbx]; rfl, h2⟩
      ·rintro x os hx hbx ⟨h1, rfl⟩
       rw [hnx]
       have hxn : x < n := by
        rcases Nat.lt_or_ge x n with c | c
        ·exact c
        ·rw [high (hw y) c] at hbx; cases hbx
       refine yO hw4 (by omega) (by omega) (fun h => ⟨by rw [ioX, h1, h]; simp, rfl⟩) fun h => ?_
       have h2 : ioX w y (x + 1) = false := by rw [ioX, h1, hbx, h]; rfl
       have h3 := ioX_no h2 (16 - (x + 1))
       rw [show x + 1 + (16 - (x + 1)) = 16 by omega] at h3
       rw [h3]
       rfl
      ·rintro os ⟨h1, rfl⟩
       rw [h1]
       rfl
     ·rintro u A' ⟨os, rfl, rfl⟩
      rw [hl]
      cases hx : ioX w y 16 with
      | true =>
       have hn' := ioT r (orC n w a) n y (w y)
       simp only [nn, Bool.and_true, cond_true] at hn'
       exact (hn' _ _ _).trans (qq_ok ⟨by rw [hbit]; rfl, rfl, rfl, rfl⟩)
      | false =>
       have hv0 : v = false := stop hy' (by rw [hx, Bool.and_false])
       exact (ioU r (orC n w a) n y (w y) _ _ _).trans (qq_ok ⟨rfl, rfl, by rw [hv0]; rfl⟩)
    ·have hn' := ioC r (orC n w a) n y
     simp only [show ∀ x : Nat, Int.toNat (Int.ofNat x) = x from fun _ => rfl, b2, cond_true, gy, isV_V] at hn'
     dsimp +instances only [ofI_V] at hn'
     simp only [eqv_v, eqv_i, cond_true, has_v (show w y < 65536 by omega) (show y ≤ 16 by omega), nn, Bool.and_self, Bool.and_true] at hn'
     cases q : (w y).testBit y with
     | true =>
      simp only [q, cond_true] at hn'
      have hv0 : v = false := stop hy' (by rw [q]; rfl)
      exact (hn' _ _ _).trans (qq_ok ⟨rfl, rfl, by rw [hv0]; rfl⟩)
     | false =>
      simp only [q, cond_false] at hn'
      exact (hn' _ _ _).trans (qq_ok ⟨rfl, rfl, rfl, rfl⟩)
   ·obtain ⟨hx, rfl, rfl, rfl⟩ := hq
    refine Go.Ev.Reach.segR (SC_ok r) TOk.nil (tm := .nil) (L := 1) (L' := 1) (d := 1) hF hro h0' [] (fun p hp => nomatch hp) ?_
    have hn' := ioG r (orC n w a) n y
    simp only [Int.ofNat_eq_natCast, w1 y (by omega), nn, Bool.and_true, cond_true] at hn'
    exact (hn' _ _ _ _).trans (qq_ok ⟨n - (y + 1), by omega, y + 1, hy', rfl, by rw [ioY, hf, hx]; rfl, rfl, rfl, rfl⟩)
  ·have hn' := ioB r (orC n w a) n y
   simp only [Int.ofNat_eq_natCast, nn, Bool.and_true, cond_true] at hn'
   by_cases c : y < n
   ·simp only [dT (show (y : Int) < (n : Int) by omega), cond_true] at hn'
    exact (hn' _ _ _ _).trans (qq_ok ⟨c, rfl, rfl, rfl⟩)
   ·obtain rfl : y = n := by omega
    simp only [dF (show ¬ (y : Int) < (y : Int) by omega), cond_false] at hn'
    exact (hn' _ _ _ _).trans (qq_ok ⟨hf, rfl, rfl, rfl⟩)
 ·rintro vs ms os ⟨hf, rfl, rfl, rfl⟩
  refine Go.Ev.Reach.segR (SC_ok r) TOk.nil (tm := .nil) (L := 1) (L' := 1) (d := 1) hF hro h0' [] (fun p hp => nomatch hp) ?_
  have hv1 : v = true := by rw [← hb, hf]
  exact (ioH r _ _ _ _).trans (qq_ok ⟨rfl, rfl, by rw [hv1]; rfl⟩)
 ·have hn' := ioA r (orC n w a)
  simp only [e00, isI_I, cond_true] at hn'
  dsimp +instances only [ofI_I] at hn'
  simp only [nn, Bool.and_true, cond_true] at hn'
  exact (hn' _ _ _ _).trans (qq_ok ⟨rfl, rfl, rfl⟩)
end

end Go.Proofs

/- read's end, run. -/
namespace Go.Proofs
open Go Go.Ev Go.Num
set_option linter.unusedVariables false
set_option linter.unusedSimpArgs false
set_option maxRecDepth 100000

noncomputable def tIo (c : List Value) (v : Bool) : Tbl := tcons 43 (ent (fun args _ => m_svv args [.agg ⟨c⟩]) fun _ _ => .bool v) fun _ => none

theorem odF (r : Mem) (n : Nat) (w a : Nat → Nat) (v : Bool) (K KR : OV → List Nat → OO → CR) (kx : Nat → KS) : run (SC r) 120273764861 52 1 ORd_11 (lvlT (SC r) (tIo (orC n w a) v) .nil 1 1) none (rbK 0 [2, 3] [] K) kx (rbK 0 [2, 3] [] KR) [] (bT [2, 4] [some (pq 0), some (pq 1)] .nil) [] (mkA [oOr z25 0, oOr (orC n w a) 1]) =
    bif m_svv [.agg ⟨(orC n w a)⟩] [.agg ⟨(orC n w a)⟩] then bif v then KR [some (.pointer (some ⟨0, 0, none⟩)), some (.int .i64 (Int.ofNat 0))] [] [some (.cells (orC n w a) 52 0 0)] else KR [some (.pointer (some ⟨0, 0, none⟩)), some (.int .i64 (Int.ofNat 100))] [] [some (.cells [.int .i64 (Int.ofNat 0), .int .u16 (Int.ofNat 0), .int .u16 (Int.ofNat 0), .int .u16 (Int.ofNat 0), .int .u16 (Int.ofNat 0), .int .u16 (Int.ofNat 0), .int .u16 (Int.ofNat 0), .int .u16 (Int.ofNat 0), .int .u16 (Int.ofNat 0), .int .u16 (Int.ofNat 0), .int .u16 (Int.ofNat 0), .int .u16 (Int.ofNat 0), .int .u16 (Int.ofNat 0), .int .u16 (Int.ofNat 0), .int .u16 (Int.ofNat 0), .int .u16 (Int.ofNat 0), .int .u16 (Int.ofNat 0), .int .u16 (Int.ofNat 0), .int .u16 (Int.ofNat 0), .int .u16 (Int.ofNat 0), .int .u16 (Int.ofNat 0), .int .u16 (Int.ofNat 0), .int .u16 (Int.ofNat 0), .int .u16 (Int.ofNat 0), .int .u16 (Int.ofNat 0)] 52 0 0)] else .fail 420 := by kernel_rfl

end Go.Proofs

/- read, of an order: what the call answers. -/
namespace Go.Proofs
open Go Go.Ev Go.Num
set_option linter.unusedVariables false
set_option linter.unusedSimpArgs false
set_option maxRecDepth 100000

def roC (T : List (List Bool)) : List Value := if ckO T then orC T.length (wB T T.length 0) (wA T T.length 0) else z25
theorem z25_eq : z25 = orC 0 (fun _ => 0) fun _ => 0 := rfl
theorem wB_cl {T : List (List Bool)} : wB T T.length 0 = clW T := funext fun j => by unfold wB clW; rw [if_neg (by omega)]
section
variable {r : Mem} {b off n cap : Nat} {T : List (List Bool)}
theorem ro_ok (hmt : ∀ b j u, tabM b j = some u → r b j = some u) (hM : TabM r b off T) (hn : T.length = n) (hn2 : n ≤ 1000) : GrT Tryz.prog r 23 [RS b off n cap] (.tuple ⟨[.agg ⟨roC T⟩, I (if ckO T then 0 else 100)]⟩) := by
 subst hn
 generalize hv : (if ckO T then (0 : Int) else 100) = v
 generalize hz : roC T = z
 have hgz : ∃ m w a, z = orC m w a := by
  rw [← hz]
  unfold roC
  split
  ·exact ⟨_, _, _, rfl⟩
  ·exact ⟨0, fun _ => 0, fun _ => 0, rfl⟩
 have bad : ckO T = false → v = 100 ∧ z = z25 := fun h => by
  rw [h] at hv
  unfold roC at hz
  rw [h] at hz
  exact ⟨hv.symm, hz.symm⟩
 have bad1 : ¬ (1 ≤ T.length ∧ T.length ≤ 12) → v = 100 ∧ z = z25 := fun h => bad (by rw [ckO_eq, decide_eq_false h, Bool.false_and])
 have badL : ∀ {i : Nat}, i < T.length → (T.getD i []).length ≠ T.length → v = 100 ∧ z = z25 := fun hi h => bad (by rw [ckO_eq, lenO_no hi h, Bool.false_and, Bool.and_false])
 let E : Outs := ⟨[2, 3], [], fun vs ms os => vs = [some (pq 0), some (I v)] ∧ ms = [] ∧ os = [oOr z 0]⟩
 refine GrT.ofS (C := SC r) rfl rfl (by obtain ⟨m, w, a, rfl⟩ := hgz; rfl) (callO (SC_ok r) (by kernel_rfl) ((bodySC r _).trans ORd_eq) (nt := 52) (by kernel_rfl) (rs := [.cell 2 52, .tmp 3]) (by kernel_rfl) 120273764861 rfl E ?_ fun γ W F kk hwr hF hro h0' => ?_)
 ·rintro vs ms os ⟨rfl, rfl, rfl⟩
  obtain ⟨m, w, a, rfl⟩ := hgz
  exact ⟨_, mkA [oOr (orC m w a) 0], by kernel_rfl, rfl⟩
 have h0' : ∀ i, 0 ≤ i → γ i = none := h0'
 have w1 : ∀ k : Nat, k ≤ 1000 → IntKind.wrap IntKind.i64 ((k : Int) + ((1 : Nat) : Int)) = ((k + 1 : Nat) : Int) := fun k hk => inc1' (by omega)
 have e0 : ∀ o k : Nat, Nat.add o (Nat.mul k 1) = o + k := fun o k => by simp
 let st : Nat → Nat → List Value := fun i k => orC T.length (wB T i k) (wA T i k)
 have snn : ∀ i k, m_nns (st i k) = true := fun i k => orC_nn _ _ _
 have s00 : ∀ i k, (st i k)[0]? = some (I (T.length : Nat)) := fun i k => rfl
 refine Go.Ev.Reach.after3R (SC_ok r) TOk.nil (tm := .nil) (L := 1) (L' := 1) (d := 1) hF hro h0' (.step (.step (.step .base)))
  (o1 := ⟨lvOD, [], fun vs ms os => (1 ≤ T.length ∧ T.length ≤ 12) ∧ vs = vOD b off T.length cap 0 ∧ ms = [] ∧ os = [oOr z25 0, oOr (st 0 0) 1]⟩)
  (o2 := ⟨[2, 4], [], fun vs ms os => ((1 ≤ T.length ∧ T.length ≤ 12) ∧ lenO T T.length = true) ∧ vs = [some (pq 0), some (pq 1)] ∧ ms = [] ∧ os = [oOr z25 0, oOr (st T.length 0) 1]⟩) [] (fun p hp => nomatch hp) ?_ ?_ ?_
 ·rintro vs ms os ⟨hn, rfl, rfl, rfl⟩
  refine Go.Ev.Reach.blockC (Go.Ev.Reach.loopC (j := T.length) (lv := lvOD) (fl := []) (I := fun j vs ms os => ∃ i : Nat, i ≤ T.length ∧ j = T.length - i ∧ lenO T i = true ∧ vs = vOD b off T.length cap i ∧ ms = [] ∧ os = [oOr z25 0, oOr (st i 0) 1]) (fun j vs ms os hI => ?_) ⟨0, by omega, rfl, rfl, rfl, rfl, rfl⟩)
  obtain ⟨i, hi, rfl, hl, rfl, rfl, rfl⟩ := hI
  have hB := odB r b off T.length cap i (st i 0)
  simp only [Int.ofNat_eq_natCast, snn, Bool.and_true, Bool.true_and, cond_true] at hB
  by_cases c : i < T.length
  ·simp only [dT (show (i : Int) < (T.length : Int) by omega), cond_true] at hB
   refine Go.Ev.Reach.afterR (SC_ok r) TOk.nil (tm := .nil) (L := 1) (L' := 1) (d := 1) hF hro h0' (.step .base) (o1 := ⟨lvOD, [], fun vs ms os => vs = vOD b off T.length cap i ∧ ms = [] ∧ os = [oOr z25 0, oOr (st i 0) 1]⟩) [(0, ⟨[2, 4], [], fun vs ms os => ((1 ≤ T.length ∧ T.length ≤ 12) ∧ lenO T T.length = true) ∧ vs = [some (pq 0), some (pq 1)] ∧ ms = [] ∧ os = [oOr z25 0, oOr (st T.length 0) 1]⟩)] (fun p hp => by simp only [List.mem_cons, List.not_mem_nil, or_false] at hp; subst hp; rfl) (fun vs ms os hq => ?_) ((hB _ _ _ _).trans (qq_ok ⟨rfl, rfl, rfl⟩))
   obtain ⟨rfl, rfl, rfl⟩ := hq
   refine Go.Ev.Reach.seqC (o1 := ⟨lvOD, [], fun vs ms os => (T.getD i []).length = T.length ∧ vs = vOD b off T.length cap i ∧ ms = [] ∧ os = [oOr z25 0, oOr (st (i + 1) 0) 1]⟩) (Go.Ev.Reach.blockC ?_) fun vs ms os hq => ?_
   ·have b1 : Nat.blt i T.length = true := Nat.ble_eq_true_of_le (by omega)
    by_cases hz0 : (T.getD i []).length = T.length
    ·obtain ⟨b2, o2, c2, hu, hr⟩ := tab_RS hM c (by omega)
     rw [hz0] at hu hr
     have q1 : ((T.length : Int) != (T.length : Int)) = false := neF rfl
     have hC := odCR r b off T.length cap i (st i 0)
     simp only [Int.ofNat_eq_natCast, Int.toNat_natCast, b1, e0, hu, ro_RS, ln_RS, bk_RS, of_RS, cp_RS, s00, isI_I, cond_true] at hC
     dsimp +instances only [ofI_I] at hC
     simp only [q1, snn, Bool.and_true, Bool.true_and, cond_true, cond_false] at hC
     refine reach_hs (sh := 2) (Go.Ev.Reach.afterR (SS_ok r 2) (TOk.sh 2 TOk.nil) (tm := .nil) (L := 1) (L' := 1) (d := 1) hF hro h0' (.step (.step .base)) (o1 := ⟨lvOE, [], fun vs ms os => vs = vOE b off T.length cap i b2 o2 T.length c2 0 ∧ ms = [] ∧ os = [oOr z25 0, oOr (st i 0) 1]⟩) [] (fun p hp => nomatch hp) (fun vs ms os hq => reach_sh ?_) ((hC _ _ _ _).trans (qq_ok ⟨rfl, rfl, rfl⟩)))
     obtain ⟨rfl, rfl, rfl⟩ := hq
     refine Go.Ev.Reach.blockC (Go.Ev.Reach.loopC (j := T.length) (lv := lvOE) (fl := []) (I := fun j vs ms os => ∃ k : Nat, k ≤ T.length ∧ j = T.length - k ∧ vs = vOE b off T.length cap i b2 o2 T.length c2 k ∧ ms = [] ∧ os = [oOr z25 0, oOr (st i k) 1]) (fun j vs ms os hI => ?_) ⟨0, by omega, rfl, rfl, rfl, rfl⟩)
     obtain ⟨k, hk, rfl, rfl, rfl, rfl⟩ := hI
     refine Go.Ev.Reach.segR (SC_ok r) TOk.nil (tm := .nil) (L := 1) (L' := 1) (d := 3) hF hro h0' [(2, ⟨lvOD, [], fun vs ms os => (T.getD i []).length = T.length ∧ vs = vOD b off T.length cap i ∧ ms = [] ∧ os = [oOr z25 0, oOr (st (i + 1) 0) 1]⟩)] (fun p hp => by simp only [List.mem_cons, List.not_mem_nil, or_false] at hp; subst hp; rfl) ?_
     have hn' := odD r b off T.length cap i b2 o2 T.length c2 k (st i k)
     simp only [show ∀ x : Nat, Int.toNat (Int.ofNat x) = x from fun _ => rfl] at hn'
     by_cases ck : k < T.length
     ·have b3 : Nat.blt k T.length = true := Nat.ble_eq_true_of_le (by omega)
      have b4 : Nat.blt i 12 = true := Nat.ble_eq_true_of_le (by omega)
      have b4' : Nat.blt k 12 = true := Nat.ble_eq_true_of_le (by omega)
      have hlw := wB_lt (T := T) (i := i) (by omega) k k
      have hla := wA_lt hn.2 (k := k) (by omega) i i
      have h2i : 2 ^ i < 4096 := Nat.pow_lt_pow_right (n := 12) (by decide) (by omega)
      have h2k : 2 ^ k < 4096 := Nat.pow_lt_pow_right (n := 12) (by decide) (by omega)
      have ho1 : ibits .or .u16 ((wB T i k k : Nat) : Int) ((2 ^ i : Nat) : Int) = ((wB T i k k ||| 2 ^ i : Nat) : Int) := (uV (by omega) (by omega)).1
      have ho2 : ibits .or .u16 ((wA T i k i : Nat) : Int) ((2 ^ k : Nat) : Int) = ((wA T i k i ||| 2 ^ k : Nat) : Int) := (uV (by omega) (by omega)).1
      have g1 : (st i k)[1 + k]? = some (V ((wB T i k k : Nat) : Int)) := orC_w (by omega)
      have b5 : Nat.blt (1 + k) (st i k).length = true := by rw [show (st i k).length = 25 from rfl]; exact Nat.ble_eq_true_of_le (by omega)
      have hset1 : (st i k).set (1 + k) (V ((wB T i k k ||| 2 ^ i : Nat) : Int)) = orC T.length (fun j => if j = k then wB T i k k ||| 2 ^ i else wB T i k j) (wA T i k) := orC_setw (by omega)
      have hs1 := shlV (b := i) (by omega)
      have hs2 := shlV (b := k) (by omega)
      have hi' : (Int.ofNat i).toNat = i := rfl
      simp only [dT (show (Int.ofNat k) < (Int.ofNat T.length) by simp; omega), b3, b4, b4', e0, hr k ck, b_bl, o_bl, cond_true] at hn'
      rw [show IntKind.wrap IntKind.i64 (Int.ofNat k + Int.ofNat 1) = ((k + 1 : Nat) : Int) from w1 k (by omega)] at hn'
      cases hg : gT T i k with
      | true =>
       have hput : ((st i k).set (1 + k) (V ((wB T i k k ||| 2 ^ i : Nat) : Int))).set (13 + i) (V ((wA T i k i ||| 2 ^ k : Nat) : Int)) = st i (k + 1) := put_ok (by omega) (by omega) hg
       have g2 : ((st i k).set (1 + k) (V ((wB T i k k ||| 2 ^ i : Nat) : Int)))[13 + i]? = some (V ((wA T i k i : Nat) : Int)) := by rw [hset1]; exact orC_a (by omega)
       have b6 : Nat.blt (13 + i) ((st i k).set (1 + k) (V ((wB T i k k ||| 2 ^ i : Nat) : Int))).length = true := by rw [List.length_set, show (st i k).length = 25 from rfl]; exact Nat.ble_eq_true_of_le (by omega)
       simp only [hg, cond_true, g1, isV_V, b5] at hn'
       dsimp +instances only [ofI_V] at hn'
       simp only [eqv_v, cond_true, hs1, ho1, g2, isV_V, b6] at hn'
       dsimp +instances only [ofI_V] at hn'
       simp only [eqv_v, cond_true, hs2, ho2, hput, snn, Bool.and_true, Bool.true_and] at hn'
       exact (hn' _ _ _).trans (qq_ok ⟨T.length - (k + 1), by omega, k + 1, ck, rfl, rfl, rfl, rfl⟩)
      | false =>
       simp only [hg, cond_false, snn, Bool.and_true, Bool.true_and, cond_true] at hn'
       have hsk : st i k = st i (k + 1) := skip_ok hg
       rw [hsk] at hn'
       rw [hsk]
       exact (hn' _ _ _).trans (qq_ok ⟨T.length - (k + 1), by omega, k + 1, ck, rfl, rfl, rfl, rfl⟩)
     ·obtain rfl : k = T.length := by omega
      simp only [Int.ofNat_eq_natCast, dF (show ¬ (T.length : Int) < (T.length : Int) by omega), cond_false, snn, Bool.and_true, Bool.true_and, cond_true] at hn'
      exact (hn' _ _ _).trans (qq_ok ⟨hz0, rfl, rfl, by rw [show st (i + 1) 0 = st i T.length from (next_ok hz0).symm]; rfl⟩)
    ·obtain ⟨b1', b2'⟩ := badL c hz0
     by_cases hzz : (T.getD i []).length = 0
     ·obtain ⟨u, hu, hr⟩ := tab_row hM c
      have hun : u = nilT := by
       rcases hr with ⟨_, h⟩ | ⟨h, _⟩
       ·exact h
       ·exact absurd (List.length_eq_zero_iff.1 hzz) h
      subst hun
      have q0 : isNilS nilT = true := rfl
      have q1 : (((0 : Nat) : Int) != (T.length : Int)) = true := neT (by omega)
      have hC := odCN r b off T.length cap i (st i 0)
      simp only [Int.ofNat_eq_natCast, Int.toNat_natCast, b1, e0, hu, q0, s00, isI_I, cond_true] at hC
      dsimp +instances only [ofI_I] at hC
      simp only [q1, cond_true] at hC
      exact reach_hs (sh := 1) (Go.Ev.Reach.afterR (SS_ok r 1) (TOk.sh 1 TOk.nil) (tm := .nil) (L := 1) (L' := 1) (d := 1) hF hro h0' (.step (.step .base)) (o1 := ⟨lvOE, [], fun _ _ _ => False⟩) [] (fun p hp => nomatch hp) (fun vs ms os hq => hq.elim) ((hC _ _ _ _).trans (qq_ok ⟨by rw [b1']; rfl, rfl, by rw [b2']; rfl⟩)))
     ·obtain ⟨b2, o2, c2, hu, hr⟩ := tab_RS hM c hzz
      have q1 : (((T.getD i []).length : Int) != (T.length : Int)) = true := neT (by omega)
      have hC := odCR r b off T.length cap i (st i 0)
      simp only [Int.ofNat_eq_natCast, Int.toNat_natCast, b1, e0, hu, ro_RS, ln_RS, s00, isI_I, cond_true] at hC
      dsimp +instances only [ofI_I] at hC
      simp only [q1, cond_true] at hC
      exact reach_hs (sh := 2) (Go.Ev.Reach.afterR (SS_ok r 2) (TOk.sh 2 TOk.nil) (tm := .nil) (L := 1) (L' := 1) (d := 1) hF hro h0' (.step (.step .base)) (o1 := ⟨lvOE, [], fun _ _ _ => False⟩) [] (fun p hp => nomatch hp) (fun vs ms os hq => hq.elim) ((hC _ _ _ _).trans (qq_ok ⟨by rw [b1']; rfl, rfl, by rw [b2']; rfl⟩)))
   ·obtain ⟨hz0, rfl, rfl, rfl⟩ := hq
    refine Go.Ev.Reach.segR (SC_ok r) TOk.nil (tm := .nil) (L := 1) (L' := 1) (d := 1) hF hro h0' [] (fun p hp => nomatch hp) ?_
    have hn' := odE r b off T.length cap i (st (i + 1) 0)
    simp only [Int.ofNat_eq_natCast, snn, Bool.and_true, Bool.true_and, cond_true, w1 i (by omega)] at hn'
    exact (hn' _ _ _ _).trans (qq_ok ⟨T.length - (i + 1), by omega, i + 1, c, rfl, by simp only [lenO, hl, hz0, beq_self_eq_true, Bool.and_self], rfl, rfl, rfl⟩)
  ·obtain rfl : i = T.length := by omega
   simp only [dF (show ¬ (T.length : Int) < (T.length : Int) by omega), cond_false] at hB
   exact Go.Ev.Reach.afterR (SC_ok r) TOk.nil (tm := .nil) (L := 1) (L' := 1) (d := 1) hF hro h0' (.step .base) (o1 := ⟨lvOD, [], fun _ _ _ => False⟩) [(0, ⟨[2, 4], [], fun vs ms os => ((1 ≤ T.length ∧ T.length ≤ 12) ∧ lenO T T.length = true) ∧ vs = [some (pq 0), some (pq 1)] ∧ ms = [] ∧ os = [oOr z25 0, oOr (st T.length 0) 1]⟩)] (fun p hp => by simp only [List.mem_cons, List.not_mem_nil, or_false] at hp; subst hp; rfl) (fun vs ms os hq => hq.elim) ((hB _ _ _ _).trans (qq_ok ⟨⟨hn, hl⟩, rfl, rfl, rfl⟩))
 ·rintro vs ms os ⟨⟨hn, hl⟩, rfl, rfl, rfl⟩
  have hck : ckO T = ioY (clW T) T.length := by rw [ckO_eq, decide_eq_true hn, hl]; rfl
  have hio := io_ok (r := r) (n := T.length) (w := wB T T.length 0) (a := wA T T.length 0) hmt hn.2 (fun j => by rw [wB_cl]; exact clO_lt T j _)
  rw [wB_cl, ← hck, ← wB_cl] at hio
  generalize hcc : ckO T = cc at hio
  refine Go.Ev.Reach.segR (SC_ok r) (t := tIo (st T.length 0) cc) (TOk.nil.cons (EOk.ent fun args A hg => ?_)) (tm := .nil) (L := 1) (L' := 1) (d := 1) hF hro h0' [] (fun p hp => nomatch hp) ?_
  ·have hs := @of_decide_eq_true _ (Classical.propDecidable _) hg
   subst hs
   exact hio.ro rfl A
  ·have hn' := odF r T.length (wB T T.length 0) (wA T T.length 0) cc
   cases cc with
   | true =>
    simp only [svv_rfl, cond_true] at hn'
    exact (hn' _ _ _).trans (qq_ok ⟨by rw [← hv, hcc]; rfl, rfl, by rw [← hz]; unfold roC; rw [hcc]; rfl⟩)
   | false =>
    obtain ⟨b1', b2'⟩ := bad hcc
    simp only [svv_rfl, cond_true, cond_false] at hn'
    exact (hn' _ _ _).trans (qq_ok ⟨by rw [b1']; rfl, rfl, by rw [b2']; rfl⟩)
 ·have hn' := odA r b off T.length cap
  simp only [Int.ofNat_eq_natCast] at hn'
  by_cases c : (T.length : Int) < 1
  ·simp only [dT c, cond_true] at hn'
   obtain ⟨b1, b2⟩ := bad1 (by omega)
   exact (hn' _ _ _ _).trans (qq_ok ⟨by rw [b1]; rfl, rfl, by rw [b2]; rfl⟩)
  ·simp only [dF c, cond_false] at hn'
   by_cases c2 : (T.length : Int) > 12
   ·simp only [dT c2, cond_true] at hn'
    obtain ⟨b1, b2⟩ := bad1 (by omega)
    exact (hn' _ _ _ _).trans (qq_ok ⟨by rw [b1]; rfl, rfl, by rw [b2]; rfl⟩)
   ·simp only [dF c2, cond_false] at hn'
    exact (hn' _ _ _ _).trans (qq_ok ⟨⟨by omega, by omega⟩, rfl, rfl, rfl⟩)
end

end Go.Proofs

/- The calls that read an order, and the law, run. -/
namespace Go.Proofs
open Go Go.Ev Go.Num
set_option linter.unusedVariables false
set_option linter.unusedSimpArgs false
set_option maxRecDepth 100000

noncomputable def eSw (a v : List Value) : Ent := ent (fun args _ => m_svv args a) fun _ _ => match v with
 | [u] => u
 | _ => undef
noncomputable def tRo (x : Value) (m : Nat) (w a : Nat → Nat) (e : Int) : Tbl := tcons 23 (eSw [x] [.tuple ⟨[.agg ⟨orC m w a⟩, I e]⟩]) fun _ => none
abbrev z4 : Value := .agg ⟨[I 0, I 0, I 0, I 0]⟩
noncomputable def cOL : Code := bodyOf S0 3
noncomputable def OL_0 : Code := lc cOL
noncomputable def OL_1 : Code := lc (rc cOL)
noncomputable def OL_2 : Code := rc (rc cOL)
theorem OL_eq : cOL = .seq OL_0 (.seq OL_1 OL_2) := by kernel_rfl
noncomputable def eTb (m : Nat) (c : List Value) (v : List Value) : Ent := ent (fun args A => gTab m c args A) fun _ _ => match v with
 | [u] => u
 | _ => undef
noncomputable def gT4 (m : Nat) (c : List Value) (args : List Value) (A : AW) : Bool := match args with
 | [t, x] => bif gTab m c [t] A then m_svv [x, .agg ⟨c⟩] [z4, .agg ⟨c⟩] else false
 | _ => false
noncomputable def m_cap (l p : Nat) (ci : List Value) : Bool := @decide (p ≠ unkE) (Classical.propDecidable _)
noncomputable def gTr (m : Nat) (c : List Value) (args : List Value) (A : AW) : Bool := match args with
 | [t, .slice (some ⟨j, 0, none⟩) l p, .int .i64 z] => match A.heap.get j with
  | some (.cells ci _ _ _) => bif gTab m c [t] A then bif m_cap l p ci then m_svv [I z, .agg ⟨c⟩] [I 0, .agg ⟨c⟩] else false else false
  | _ => false
 | _ => false
noncomputable def tAw : Tbl := tcons 8 (e0 (.bool true)) fun _ => none
noncomputable def tOl (m : Nat) (c : List Value) : Tbl := tcons 6 (eTb m c [I 0]) (tcons 7 (eTb m c [I 0]) tAw)
noncomputable def tOe (m : Nat) (c : List Value) : Tbl := tcons 6 (eTb m c [I 100]) (tcons 7 (eTb m c [I 100]) (tcons 9 (eTb m c [.tuple ⟨[I 0, I 100]⟩]) (tcons 10 (eTb m c [.tuple ⟨[nilT, I 100]⟩]) (tcons 11 (eTb m c [.tuple ⟨[z4, .bool false, I 100]⟩]) (tcons 12 (eTb m c [.tuple ⟨[nilT, I 0, I 100]⟩]) (tcons 13 (eTb m c [.tuple ⟨[z4, .bool false, I 100]⟩]) (tcons 14 (eTb m c [.tuple ⟨[nilT, I 100]⟩]) (tcons 15 (ent (gT4 m c) fun _ _ => .bool false) (tcons 16 (ent (gT4 m c) fun _ _ => .bool false) (tcons 17 (ent (gTr m c) fun _ _ => .bool false) tAw))))))))))
def enO (b off n cap : Nat) : List (Nat × Value) × Tr Value := ([(20, RS b off n cap)], bT [0] [some (RS b off n cap)] .nil)

theorem osC (r : Mem) (b off n cap m : Nat) (w a : Nat → Nat) (e : Int) (K : KV) : (lvlT (SC r) (tRo (RS b off n cap) m w a e) .nil 1 1).call 7 [RS b off n cap] emptyA K =
    bif m_svv [.slice (some ⟨b, off, some 0⟩) n cap] [.slice (some ⟨b, off, some 0⟩) n cap] then K (I e) (AW.mk 1 (.node .nil (some (.cells (orC m w a) 52 0 0)) .nil) .nil) else .fail 420 := by kernel_rfl

theorem osM (r : Mem) (b off n cap m : Nat) (w a : Nat → Nat) (K : KV) : (lvlT (SC r) (tRo (RS b off n cap) m w a 100) .nil 1 1).call 9 [RS b off n cap] emptyA K =
    bif m_svv [.slice (some ⟨b, off, some 0⟩) n cap] [.slice (some ⟨b, off, some 0⟩) n cap] then K (.tuple ⟨[I (Int.ofNat 0), I (Int.ofNat 100)]⟩) (AW.mk 1 (.node .nil (some (.cells (orC m w a) 52 0 0)) .nil) .nil) else .fail 420 := by kernel_rfl

theorem osI (r : Mem) (b off n cap m : Nat) (w a : Nat → Nat) (K : KV) : (lvlT (SC r) (tRo (RS b off n cap) m w a 100) .nil 1 1).call 10 [RS b off n cap] emptyA K =
    bif m_svv [.slice (some ⟨b, off, some 0⟩) n cap] [.slice (some ⟨b, off, some 0⟩) n cap] then K (.tuple ⟨[.slice none 0 0, I (Int.ofNat 100)]⟩) (AW.mk 1 (.node .nil (some (.cells (orC m w a) 52 0 0)) .nil) .nil) else .fail 420 := by kernel_rfl

theorem osT (r : Mem) (b off n cap m : Nat) (w a : Nat → Nat) (K : KV) : (lvlT (SC r) (tRo (RS b off n cap) m w a 100) .nil 1 1).call 11 [RS b off n cap] emptyA K =
    bif m_svv [.slice (some ⟨b, off, some 0⟩) n cap] [.slice (some ⟨b, off, some 0⟩) n cap] then K (.tuple ⟨[.agg ⟨[I (Int.ofNat 0), I (Int.ofNat 0), I (Int.ofNat 0), I (Int.ofNat 0)]⟩, .bool false, I (Int.ofNat 100)]⟩) (AW.mk 2 (.node (.node .nil (some (.cells (orC m w a) 52 1 0)) .nil) (some (.cells [I (Int.ofNat 0), I (Int.ofNat 0), I (Int.ofNat 0), I (Int.ofNat 0)] 33 0 0)) .nil) .nil) else .fail 420 := by kernel_rfl

theorem osP (r : Mem) (b off n cap m : Nat) (w a : Nat → Nat) (K : KV) : (lvlT (SC r) (tRo (RS b off n cap) m w a 100) .nil 1 1).call 12 [RS b off n cap] emptyA K =
    bif m_svv [.slice (some ⟨b, off, some 0⟩) n cap] [.slice (some ⟨b, off, some 0⟩) n cap] then K (.tuple ⟨[.slice none 0 0, I (Int.ofNat 0), I (Int.ofNat 100)]⟩) (AW.mk 1 (.node .nil (some (.cells (orC m w a) 52 0 0)) .nil) .nil) else .fail 420 := by kernel_rfl

theorem osH (r : Mem) (b off n cap m : Nat) (w a : Nat → Nat) (K : KV) : (lvlT (SC r) (tRo (RS b off n cap) m w a 100) .nil 1 1).call 13 [RS b off n cap] emptyA K =
    bif m_svv [.slice (some ⟨b, off, some 0⟩) n cap] [.slice (some ⟨b, off, some 0⟩) n cap] then K (.tuple ⟨[.agg ⟨[I (Int.ofNat 0), I (Int.ofNat 0), I (Int.ofNat 0), I (Int.ofNat 0)]⟩, .bool false, I (Int.ofNat 100)]⟩) (AW.mk 2 (.node (.node .nil (some (.cells (orC m w a) 52 1 0)) .nil) (some (.cells [I (Int.ofNat 0), I (Int.ofNat 0), I (Int.ofNat 0), I (Int.ofNat 0)] 33 0 0)) .nil) .nil) else .fail 420 := by kernel_rfl

theorem osL (r : Mem) (b off n cap m : Nat) (w a : Nat → Nat) (K : KV) : (lvlT (SC r) (tRo (RS b off n cap) m w a 100) .nil 1 1).call 14 [RS b off n cap] emptyA K =
    bif m_svv [.slice (some ⟨b, off, some 0⟩) n cap] [.slice (some ⟨b, off, some 0⟩) n cap] then K (.tuple ⟨[.slice none 0 0, I (Int.ofNat 100)]⟩) (AW.mk 1 (.node .nil (some (.cells (orC m w a) 52 0 0)) .nil) .nil) else .fail 420 := by kernel_rfl

theorem osIT (r : Mem) (b off n cap m : Nat) (w a : Nat → Nat) (K : KV) : (lvlT (SC r) (tRo (RS b off n cap) m w a 100) .nil 1 1).call 15 [RS b off n cap, z4] emptyA K =
    bif m_svv [.slice (some ⟨b, off, some 0⟩) n cap] [.slice (some ⟨b, off, some 0⟩) n cap] then K (.bool false) (AW.mk 2 (.node (.node .nil (some (.cells (orC m w a) 52 1 0)) .nil) (some (.cells [I (Int.ofNat 0), I (Int.ofNat 0), I (Int.ofNat 0), I (Int.ofNat 0)] 33 0 0)) .nil) .nil) else .fail 420 := by kernel_rfl

theorem osIH (r : Mem) (b off n cap m : Nat) (w a : Nat → Nat) (K : KV) : (lvlT (SC r) (tRo (RS b off n cap) m w a 100) .nil 1 1).call 16 [RS b off n cap, z4] emptyA K =
    bif m_svv [.slice (some ⟨b, off, some 0⟩) n cap] [.slice (some ⟨b, off, some 0⟩) n cap] then K (.bool false) (AW.mk 2 (.node (.node .nil (some (.cells (orC m w a) 52 1 0)) .nil) (some (.cells [I (Int.ofNat 0), I (Int.ofNat 0), I (Int.ofNat 0), I (Int.ofNat 0)] 33 0 0)) .nil) .nil) else .fail 420 := by kernel_rfl

theorem osR (r : Mem) (b off n cap b2 o2 n2 c2 m : Nat) (w a : Nat → Nat) (K : KV) : (lvlT (SC r) (tRo (RS b off n cap) m w a 100) .nil 1 1).call 17 [RS b off n cap, RS b2 o2 n2 c2, I 0] emptyA K =
    bif m_svv [.slice (some ⟨b, off, some 0⟩) n cap] [.slice (some ⟨b, off, some 0⟩) n cap] then K (.bool false) (AW.mk 1 (.node .nil (some (.cells (orC m w a) 52 0 0)) .nil) .nil) else .fail 420 := by kernel_rfl

theorem olN (r : Mem) : (lvlT (SC r) tAw .nil 2 8).call 3 [nilT] emptyA fin =
    .ret (.bool true) (AW.mk 0 .nil .nil) := by kernel_rfl

theorem ol0 (r : Mem) (b off cap : Nat) : (lvlT (SC r) tAw .nil 2 8).call 3 [RS b off 0 cap] emptyA fin =
    .ret (.bool true) (AW.mk 0 .nil .nil) := by kernel_rfl

theorem olA (r : Mem) (b off n cap : Nat) (fs : FnsC) (K : OV → List Nat → OO → CR) (kx : Nat → KS) (kr : KS) : run (SC r) 1048573 152 1 OL_0 fs none (rbK 0 [0] [] K) kx kr (sc0 1048573 [RS b off n cap]) (tr0 1048573 [RS b off n cap]) [] emptyA =
    K [some (.slice (some ⟨b, off, some 0⟩) n cap)] [] [] := by kernel_rfl

theorem olB (r : Mem) (b off n cap : Nat) (fs : FnsC) (K : KS) : preK (SC r) 1048573 152 OL_1 1 fs K [] (bT [0] [some (RS b off n cap)] .nil) [] (mkA []) =
    K [(20, .slice (some ⟨b, off, some 0⟩) n cap)] (.node .nil (some (.slice (some ⟨b, off, some 0⟩) n cap)) .nil) [] (AW.mk 0 .nil .nil) := by kernel_rfl

theorem olC (r : Mem) (b off n cap m : Nat) (c : List Value) (fs : FnsC) (K : OV → List Nat → OO → CR) : tailK (SC r) 1048573 152 OL_1 1 fs (rbK 0 [3] [] K) (gwT 0 m) (enO b off n cap).1 (enO b off n cap).2 [] (mkA [oTb c 0]) =
    bif m_nns c && true then K [some (.slice (some ⟨0, 0, none⟩) m unk)] [] [some (.cells c 46 0 1)] else .fail 420 := by kernel_rfl

theorem olD (r : Mem) (m : Nat) (c : List Value) (KR : OV → List Nat → OO → CR) (kn : KS) (kx : Nat → KS) : run (SC r) 1048573 152 1 OL_2 (lvlT (SC r) (tOl m c) .nil 1 1) none kn kx (rbK 0 [2] [] KR) [] (bT [3] [some (gwT 0 m)] .nil) [] (mkA [oTb c 0]) =
    bif m_svv [.slice (some ⟨0, 0, none⟩) m unk, .agg ⟨c⟩] [.slice (some ⟨0, 0, none⟩) m unk, .agg ⟨c⟩] then bif m_svv [.slice (some ⟨0, 0, none⟩) m unk, .agg ⟨c⟩] [.slice (some ⟨0, 0, none⟩) m unk, .agg ⟨c⟩] then KR [some (.bool true)] [] [] else .fail 420 else .fail 420 := by kernel_rfl

theorem olE (r : Mem) (m : Nat) (c : List Value) (KR : OV → List Nat → OO → CR) (kn : KS) (kx : Nat → KS) : run (SC r) 1048573 152 1 OL_2 (lvlT (SC r) (tOe m c) .nil 1 1) none kn kx (rbK 0 [2] [] KR) [] (bT [3] [some (gwT 0 m)] .nil) [] (mkA [oTb c 0]) =
    bif m_svv [.slice (some ⟨0, 0, none⟩) m unk, .agg ⟨c⟩] [.slice (some ⟨0, 0, none⟩) m unk, .agg ⟨c⟩] then bif m_svv [.slice (some ⟨0, 0, none⟩) m unk, .agg ⟨c⟩] [.slice (some ⟨0, 0, none⟩) m unk, .agg ⟨c⟩] then bif m_svv [.slice (some ⟨0, 0, none⟩) m unk, .agg ⟨c⟩] [.slice (some ⟨0, 0, none⟩) m unk, .agg ⟨c⟩] then bif m_svv [.slice (some ⟨0, 0, none⟩) m unk, .agg ⟨c⟩] [.slice (some ⟨0, 0, none⟩) m unk, .agg ⟨c⟩] then bif m_svv [.slice (some ⟨0, 0, none⟩) m unk, .agg ⟨c⟩] [.slice (some ⟨0, 0, none⟩) m unk, .agg ⟨c⟩] then bif m_svv [.slice (some ⟨0, 0, none⟩) m unk, .agg ⟨c⟩] [.slice (some ⟨0, 0, none⟩) m unk, .agg ⟨c⟩] then bif m_svv [.slice (some ⟨0, 0, none⟩) m unk, .agg ⟨c⟩] [.slice (some ⟨0, 0, none⟩) m unk, .agg ⟨c⟩] then bif m_svv [.slice (some ⟨0, 0, none⟩) m unk, .agg ⟨c⟩] [.slice (some ⟨0, 0, none⟩) m unk, .agg ⟨c⟩] then bif bif m_svv [.slice (some ⟨0, 0, none⟩) m unk, .agg ⟨c⟩] [.slice (some ⟨0, 0, none⟩) m unk, .agg ⟨c⟩] then m_svv [.agg ⟨[I (Int.ofNat 0), I (Int.ofNat 0), I (Int.ofNat 0), I (Int.ofNat 0)]⟩, .agg ⟨c⟩] [.agg ⟨[I (Int.ofNat 0), I (Int.ofNat 0), I (Int.ofNat 0), I (Int.ofNat 0)]⟩, .agg ⟨c⟩] else false then bif bif m_svv [.slice (some ⟨0, 0, none⟩) m unk, .agg ⟨c⟩] [.slice (some ⟨0, 0, none⟩) m unk, .agg ⟨c⟩] then m_svv [.agg ⟨[I (Int.ofNat 0), I (Int.ofNat 0), I (Int.ofNat 0), I (Int.ofNat 0)]⟩, .agg ⟨c⟩] [.agg ⟨[I (Int.ofNat 0), I (Int.ofNat 0), I (Int.ofNat 0), I (Int.ofNat 0)]⟩, .agg ⟨c⟩] else false then bif Nat.ble (Int.toNat (Int.ofNat m)) (Int.toNat (Int.ofNat m)) then bif Nat.ble (Int.toNat (Int.ofNat m)) 1000000 then bif bif m_svv [.slice (some ⟨0, 0, none⟩) m unk, .agg ⟨c⟩] [.slice (some ⟨0, 0, none⟩) m unk, .agg ⟨c⟩] then bif m_cap (Int.toNat (Int.ofNat m)) (Int.toNat (Int.ofNat m)) (zerosL (Nat.mul (Int.toNat (Int.ofNat m)) 1) [I (Int.ofNat 0)]) then m_svv [I (Int.ofNat 0), .agg ⟨c⟩] [I (Int.ofNat 0), .agg ⟨c⟩] else false else false then KR [some (.bool true)] [] [] else .fail 420 else .fail 420 else .fail 420 else .fail 420 else .fail 420 else .fail 420 else .fail 420 else .fail 420 else .fail 420 else .fail 420 else .fail 420 else .fail 420 else .fail 420 := by kernel_rfl

end Go.Proofs

/- The law of checks of orders holds, if awake does. -/
namespace Go.Proofs
open Go Go.Ev Go.Num
set_option linter.unusedVariables false
set_option linter.unusedSimpArgs false
set_option maxRecDepth 100000

theorem tab_g {b j : Nat} {u : Value} (h : tabM b j = some u) : gnd u = true := by
 have hu : ∀ (l : List Nat) (j : Nat), memL (u8s l) j = some u → gnd u = true := fun l j h => by
  unfold memL u8s at h
  rw [List.getElem?_map] at h
  cases hl : l[j]? with
  | none => rw [hl] at h; cases h
  | some n => rw [hl] at h; cases h; rfl
 unfold tabM at h
 split at h
 ·exact hu _ _ h
 ·cases h
theorem memW_tab {r : Mem} (hm : ∀ b j u, tabM b j = some u → r b j = some u) {γ : Gam} {W : World} (hR : Ro r γ W) : ∀ b j u, tabM b j = some u → memW W b j = some u := fun b j u h => by
 obtain ⟨_, cc, e, fr, u', hb, hu, hrel⟩ := hR _ _ _ (hm _ _ _ h)
 have hg := tab_g h
 have e1 := (hrel γ).eq_of_gnd hg
 subst e1
 simp only [memW, hb, hu]
 exact mark_gnd hg
section
variable {r : Mem} {b off n cap : Nat} {T : List (List Bool)}
theorem eRo_ok (hm : ∀ b j u, tabM b j = some u → r b j = some u) (hM : TabM r b off T) (hn : T.length = n) (hn2 : n ≤ 1000) {m : Nat} {w a : Nat → Nat} (hr : roC T = orC m w a) {e : Int} (he : (if ckO T then (0 : Int) else 100) = e) : EOk (SC r) 23 (eSw [RS b off n cap] [.tuple ⟨[.agg ⟨orC m w a⟩, I e]⟩]) := EOk.ent fun args A hg => by
 have hs := @of_decide_eq_true _ (Classical.propDecidable _) hg
 subst hs
 have h := ro_ok (cap := cap) hm hM hn hn2
 rw [hr, he] at h
 exact h.ro rfl A
theorem os_C (hm : ∀ b j u, tabM b j = some u → r b j = some u) (hM : TabM r b off T) (hn : T.length = n) (hn2 : n ≤ 1000) : GrT Tryz.prog r 7 [RS b off n cap] (I (if ckO T then 0 else 100)) := by
 obtain ⟨m, w, a, hr⟩ : ∃ m w a, roC T = orC m w a := by
  unfold roC
  split
  ·exact ⟨_, _, _, rfl⟩
  ·exact ⟨_, _, _, z25_eq⟩
 exact GrT.of (SC_ok r) (TOk.nil.cons (eRo_ok hm hM hn hn2 hr rfl)) .nil rfl ⟨1, 1, (osC r b off n cap m w a _ fin).trans (by rw [svv_rfl]; rfl)⟩
theorem o5_ok (hm : ∀ b j u, tabM b j = some u → r b j = some u) (hM : TabM r b off T) (hn : T.length = n) (hn2 : n ≤ 1000) (hc : ckO T = false) : TOk (SC r) (tRo (RS b off n cap) 0 (fun _ => 0) (fun _ => 0) 100) := TOk.nil.cons (eRo_ok hm hM hn hn2 (by unfold roC; rw [hc]; exact z25_eq) (by rw [hc]; rfl))
variable (hm : ∀ b j u, tabM b j = some u → r b j = some u) (hM : TabM r b off T) (hn : T.length = n) (hn2 : n ≤ 1000) (hc : ckO T = false)
include hm hM hn hn2 hc
theorem os_M : GrT Tryz.prog r 9 [RS b off n cap] (.tuple ⟨[I 0, I 100]⟩) :=
 GrT.of (SC_ok r) (o5_ok hm hM hn hn2 hc) .nil rfl ⟨1, 1, (osM r b off n cap _ _ _ fin).trans (by rw [svv_rfl]; rfl)⟩
theorem os_I : GrT Tryz.prog r 10 [RS b off n cap] (.tuple ⟨[nilT, I 100]⟩) :=
 GrT.of (SC_ok r) (o5_ok hm hM hn hn2 hc) .nil rfl ⟨1, 1, (osI r b off n cap _ _ _ fin).trans (by rw [svv_rfl]; rfl)⟩
theorem os_T : GrT Tryz.prog r 11 [RS b off n cap] (.tuple ⟨[z4, .bool false, I 100]⟩) :=
 GrT.of (SC_ok r) (o5_ok hm hM hn hn2 hc) .nil rfl ⟨1, 1, (osT r b off n cap _ _ _ fin).trans (by rw [svv_rfl]; rfl)⟩
theorem os_P : GrT Tryz.prog r 12 [RS b off n cap] (.tuple ⟨[nilT, I 0, I 100]⟩) :=
 GrT.of (SC_ok r) (o5_ok hm hM hn hn2 hc) .nil rfl ⟨1, 1, (osP r b off n cap _ _ _ fin).trans (by rw [svv_rfl]; rfl)⟩
theorem os_H : GrT Tryz.prog r 13 [RS b off n cap] (.tuple ⟨[z4, .bool false, I 100]⟩) :=
 GrT.of (SC_ok r) (o5_ok hm hM hn hn2 hc) .nil rfl ⟨1, 1, (osH r b off n cap _ _ _ fin).trans (by rw [svv_rfl]; rfl)⟩
theorem os_L : GrT Tryz.prog r 14 [RS b off n cap] (.tuple ⟨[nilT, I 100]⟩) :=
 GrT.of (SC_ok r) (o5_ok hm hM hn hn2 hc) .nil rfl ⟨1, 1, (osL r b off n cap _ _ _ fin).trans (by rw [svv_rfl]; rfl)⟩
theorem os_IT : GrT Tryz.prog r 15 [RS b off n cap, z4] (.bool false) :=
 GrT.of (SC_ok r) (o5_ok hm hM hn hn2 hc) .nil rfl ⟨1, 1, (osIT r b off n cap _ _ _ fin).trans (by rw [svv_rfl]; rfl)⟩
theorem os_IH : GrT Tryz.prog r 16 [RS b off n cap, z4] (.bool false) :=
 GrT.of (SC_ok r) (o5_ok hm hM hn hn2 hc) .nil rfl ⟨1, 1, (osIH r b off n cap _ _ _ fin).trans (by rw [svv_rfl]; rfl)⟩
theorem os_R (b2 o2 n2 c2 : Nat) : GrT Tryz.prog r 17 [RS b off n cap, RS b2 o2 n2 c2, I 0] (.bool false) :=
 GrT.of (SC_ok r) (o5_ok hm hM hn hn2 hc) .nil rfl ⟨1, 1, (osR r b off n cap b2 o2 n2 c2 _ _ _ fin).trans (by rw [svv_rfl]; rfl)⟩
end
section
variable {r : Mem} {m : Nat} {c : List Value} {T : List (List Bool)}
theorem eTb_ok (hm : ∀ b j u, tabM b j = some u → r b j = some u) (hT : TabC r c T) {f : Nat} {v : Value} (hg : gnd v = true) (h : ∀ (r : Mem) (b off : Nat), (∀ b j u, tabM b j = some u → r b j = some u) → TabM r b off T → GrT Tryz.prog r f [RS b off m 0] v) : EOk (SC r) f (eTb m c [v]) := EOk.ent fun args A hgd => POk.of hg fun γ W args' hw hR ha => by
 obtain ⟨b, j, p1, p2⟩ := gTab_use hT hgd hw hR ha
 exact ⟨memW W, _, memW_ro W, p1, h _ b j (memW_tab hm hR) p2⟩
theorem gAnd {a b : Bool} (h : (bif a then b else false) = true) : a = true ∧ b = true := by
 cases a with
 | true => exact ⟨rfl, h⟩
 | false => cases h
theorem e4_ok (hm : ∀ b j u, tabM b j = some u → r b j = some u) (hT : TabC r c T) {f : Nat} (h : ∀ (r : Mem) (b off : Nat), (∀ b j u, tabM b j = some u → r b j = some u) → TabM r b off T → GrT Tryz.prog r f [RS b off m 0, z4] (.bool false)) : EOk (SC r) f (ent (gT4 m c) fun _ _ => .bool false) := EOk.ent fun args A hgd => POk.of rfl fun γ W args' hw hR ha => by
 unfold gT4 at hgd
 split at hgd
 ·obtain ⟨g1, g2⟩ := gAnd hgd
  have hs := @of_decide_eq_true _ (Classical.propDecidable _) g2
  simp only [List.cons.injEq, and_true] at hs
  subst hs
  obtain ⟨la⟩ := args'
  cases ha with
  | cons hv hrest =>
  obtain ⟨b, j, p1, p2⟩ := gTab_use (args' := ⟨[_]⟩) hT g1 hw hR (.cons hv .nil)
  cases p1 with
  | cons p1 _ =>
  exact ⟨memW W, _, memW_ro W, .cons p1 (hrest.of_ros rfl), h _ b j (memW_tab hm hR) p2⟩
 ·cases hgd
theorem eRp_ok (hm : ∀ b j u, tabM b j = some u → r b j = some u) (hT : TabC r c T) {f : Nat} (h : ∀ (r : Mem) (b off b2 o2 n2 c2 : Nat), (∀ b j u, tabM b j = some u → r b j = some u) → TabM r b off T → GrT Tryz.prog r f [RS b off m 0, RS b2 o2 n2 c2, I 0] (.bool false)) : EOk (SC r) f (ent (gTr m c) fun _ _ => .bool false) := EOk.ent fun args A hgd => POk.of rfl fun γ W args' hw hR ha => by
 unfold gTr at hgd
 split at hgd
 ·split at hgd
  ·rename_i ci e f zz hi
   obtain ⟨g1, g2⟩ := gAnd hgd
   obtain ⟨g2, g3⟩ := gAnd g2
   have hs := @of_decide_eq_true _ (Classical.propDecidable _) g3
   simp only [List.cons.injEq, and_true] at hs
   have hcap := @of_decide_eq_true _ (Classical.propDecidable _) g2
   obtain ⟨la⟩ := args'
   cases ha with
   | cons hv hrest =>
   cases hrest with
   | cons hv2 hrest =>
   obtain ⟨b, j, p1, p2⟩ := gTab_use (args' := ⟨[_]⟩) hT g1 hw hR (.cons hv .nil)
   obtain ⟨b', k', q1, q2'⟩ := own_row hw hR (natFx hcap) hi hv2
   cases p1 with
   | cons p1 _ =>
   cases hs
   exact ⟨memW W, _, memW_ro W, .cons p1 (.cons q1 (hrest.of_ros rfl)), h _ b j _ _ _ _ (memW_tab hm hR) p2⟩
  ·cases hgd
 ·cases hgd
variable (hm : ∀ b j u, tabM b j = some u → r b j = some u) (haw : GrT Tryz.prog r 8 [] (.bool true))
include hm haw
theorem tOl_ok (hT : TabC r c T) (hn : T.length = m) (hn2 : m ≤ 1000) (hc : ckO T = true) : TOk (SC r) (tOl m c) := by
 refine (((TOk.nil.cons (e0_ok haw)).cons (eTb_ok hm hT rfl fun r b off h hM => ?_)).cons (eTb_ok hm hT rfl fun r b off h hM => ?_))
 ·have h2 := os_C (cap := 0) h hM hn hn2
  rw [if_pos hc] at h2
  exact h2
 ·have h2 := og_ok (cap := 0) hM hn hn2
  rw [if_pos hc] at h2
  exact h2
theorem tOe_ok (hT : TabC r c T) (hn : T.length = m) (hn2 : m ≤ 1000) (hc : ckO T = false) : TOk (SC r) (tOe m c) := by
 refine (((((((((((TOk.nil.cons (e0_ok haw)).cons (eRp_ok hm hT fun r b off b2 o2 n2 c2 h hM => os_R h hM hn hn2 hc b2 o2 n2 c2)).cons (e4_ok hm hT fun r b off h hM => os_IH h hM hn hn2 hc)).cons (e4_ok hm hT fun r b off h hM => os_IT h hM hn hn2 hc)).cons (eTb_ok hm hT rfl fun r b off h hM => os_L h hM hn hn2 hc)).cons (eTb_ok hm hT rfl fun r b off h hM => os_H h hM hn hn2 hc)).cons (eTb_ok hm hT rfl fun r b off h hM => os_P h hM hn hn2 hc)).cons (eTb_ok hm hT rfl fun r b off h hM => os_T h hM hn hn2 hc)).cons (eTb_ok hm hT rfl fun r b off h hM => os_I h hM hn hn2 hc)).cons (eTb_ok hm hT rfl fun r b off h hM => os_M h hM hn hn2 hc)).cons (eTb_ok hm hT rfl fun r b off h hM => ?_)).cons (eTb_ok hm hT rfl fun r b off h hM => ?_)
 ·have h2 := os_C (cap := 0) h hM hn hn2
  rw [if_neg (by rw [hc]; simp)] at h2
  exact h2
 ·have h2 := og_ok (cap := 0) hM hn hn2
  rw [if_neg (by rw [hc]; simp)] at h2
  exact h2
end
section
variable {r : Mem} (hm : ∀ b j u, tabM b j = some u → r b j = some u) (haw : ∀ r : Mem, (∀ b j u, tabM b j = some u → r b j = some u) → GrT Tryz.prog r 8 [] (.bool true))
include hm haw
theorem och_row {b off n cap : Nat} (h1 : 1 ≤ n) (hin : ∀ i, i < min n 14 → ∃ u, r b (off + i) = some u ∧ ArgRow r 1 ArgBool u) : GrT Tryz.prog r 3 [RS b off n cap] (.bool true) := by
 refine SOkG.grT rfl rfl (S := fun _ _ _ => True) (callOG SC_ok (by kernel_rfl) ((bodySC r _).trans OL_eq) (nt := 152) (by kernel_rfl) (rs := [.tmp 2]) (by kernel_rfl) 1048573 rfl ⟨[2], fun r1 vs ms os => vs = [some (.bool true)] ∧ ms = [] ∧ os = []⟩ ?_ fun γ W F kk hwr hF hro h0' => ?_)
 ·rintro r1 vs ms os ⟨rfl, rfl, rfl⟩
  exact ⟨_, mkA [], by kernel_rfl, rfl⟩
 have h0' : ∀ i, 0 ≤ i → γ i = none := h0'
 refine ReachG.seqC (o1 := ⟨[0], fun r1 vs ms os => r1 = r ∧ vs = [some (RS b off n cap)] ∧ ms = [] ∧ os = []⟩) (ReachG.segR (SC_ok r) TOk.nil (tm := .nil) (L := 1) (L' := 1) (d := 1) (n0 := 0) hF hro h0' [] (on := ⟨[0], [], fun vs ms os => vs = [some (RS b off n cap)] ∧ ms = [] ∧ os = []⟩) (ox := fun _ => Outs.no) (orr := Outs.no) (fun p hp => nomatch hp) ?_ (fun vs ms os h => IsG.here ⟨rfl, h⟩) (fun _ _ _ _ h => h.elim) (fun _ _ _ h => h.elim)) fun r1 vs ms os hq => ?_
 ·exact (olA r b off n cap _ _ _ _).trans (qq_ok ⟨rfl, rfl, rfl⟩)
 obtain ⟨rfl, rfl, rfl, rfl⟩ := hq
 refine ReachG.seqC (o1 := ⟨[3], fun r2 vs ms os => Mem.le r1 r2 ∧ ms = [] ∧ ∃ c, vs = [some (gwT 0 (min n 14))] ∧ os = [oTb c 0] ∧ TabC r2 c (inTab r1 b off (min n 14)) ∧ m_nns c = true⟩) (ReachG.callC (fl := []) SC_ok hF h0' TOk.nil (tm := .nil) (L := 1) (d := 1) 1 (s1 := (enO b off n cap).1) (b1 := (enO b off n cap).2) (ms1 := []) (A1 := mkA []) (A2 := emptyA) (i := 5) (args := [RS b off n cap]) ?_ (by kernel_rfl) (ta_ok h1 hin) ?_) fun r2 vs ms os hq => ?_
 ·exact (olB r1 b off n cap _ _).trans (qn_ok rfl)
 ·rintro v A' r2 ⟨hle, c, rfl, rfl, hT, hc⟩
  refine ⟨fun _ => none, TOk.nil, .nil, 1, 1, ?_⟩
  have hn' := olC r2 b off n cap (min n 14) c
  simp only [hc, Bool.and_true, cond_true] at hn'
  exact (hn' _ _).trans (qq_ok ⟨hle, rfl, c, rfl, rfl, hT, hc⟩)
 obtain ⟨hle, rfl, c, rfl, rfl, hT, hc⟩ := hq
 have hm2 : ∀ b j u, tabM b j = some u → r2 b j = some u := fun b j u h => hle _ _ _ (hm _ _ _ h)
 have hTl := inTab_len r1 b off (min n 14)
 generalize hmm : min n 14 = m at hT hTl
 generalize inTab r1 b off m = T at hT hTl
 have hm1000 : m ≤ 1000 := by omega
 have hu : m ≠ unkE := by unfold unkE; omega
 cases hck : ckO T with
 | false =>
  refine ReachG.segR (SC_ok r2) (tOe_ok hm2 (haw r2 hm2) hT hTl hm1000 hck) (tm := .nil) (L := 1) (L' := 1) (d := 1) (n0 := 0) hF hro h0' [] (on := Outs.no) (ox := fun _ => Outs.no) (orr := ⟨[2], [], fun vs ms os => vs = [some (.bool true)] ∧ ms = [] ∧ os = []⟩) (fun p hp => nomatch hp) ?_ (fun _ _ _ h => h.elim) (fun _ _ _ _ h => h.elim) (fun vs ms os h => IsG.here h)
  have hn' := olE r2 m c
  have hcp : ∀ l ci, m_cap l m ci = true := fun l ci => @decide_eq_true _ (Classical.propDecidable _) hu
  have hb1 : Nat.ble m m = true := Nat.ble_eq_true_of_le (Nat.le_refl _)
  have hb2 : Nat.ble m 1000000 = true := Nat.ble_eq_true_of_le (by omega)
  simp only [show ∀ x : Nat, Int.toNat (Int.ofNat x) = x from fun _ => rfl, hb1, hb2, hcp, cond_true] at hn'
  have hz : m_svv [z4, .agg ⟨c⟩] [z4, .agg ⟨c⟩] = true := svv_rfl _
  have hz2 : m_svv [I (Int.ofNat 0), .agg ⟨c⟩] [I (Int.ofNat 0), .agg ⟨c⟩] = true := svv_rfl _
  simp only [svv_rfl, cond_true] at hn'
  exact (hn' _ _ _).trans (qq_ok ⟨rfl, rfl, rfl⟩)
 | true =>
  refine ReachG.segR (SC_ok r2) (tOl_ok hm2 (haw r2 hm2) hT hTl hm1000 hck) (tm := .nil) (L := 1) (L' := 1) (d := 1) (n0 := 0) hF hro h0' [] (on := Outs.no) (ox := fun _ => Outs.no) (orr := ⟨[2], [], fun vs ms os => vs = [some (.bool true)] ∧ ms = [] ∧ os = []⟩) (fun p hp => nomatch hp) ?_ (fun _ _ _ h => h.elim) (fun _ _ _ _ h => h.elim) (fun vs ms os h => IsG.here h)
  have hn' := olD r2 m c
  simp only [svv_rfl, cond_true] at hn'
  exact (hn' _ _ _).trans (qq_ok ⟨rfl, rfl, rfl⟩)
end
theorem och_nil {r : Mem} (h : TOk (SC r) tAw) : GrT Tryz.prog r 3 [nilT] (.bool true) := GrT.of (SC_ok r) h .nil rfl ⟨2, 8, by rw [olN]; rfl⟩
theorem och_0 {r : Mem} (h : TOk (SC r) tAw) (b off cap : Nat) : GrT Tryz.prog r 3 [RS b off 0 cap] (.bool true) := GrT.of (SC_ok r) h .nil rfl ⟨2, 8, by rw [ol0]; rfl⟩
theorem och_all {r : Mem} (hm : ∀ b j u, tabM b j = some u → r b j = some u) (haw : ∀ r : Mem, (∀ b j u, tabM b j = some u → r b j = some u) → GrT Tryz.prog r 8 [] (.bool true)) (u0 : Value) (s0 : ArgRowT r 1 (ArgRow r 1 ArgBool) u0) : GrT Tryz.prog r 3 [u0] (.bool true) := by
 have htA : TOk (SC r) tAw := TOk.nil.cons (e0_ok (haw r hm))
 cases s0 with
 | nil => exact och_nil htA
 | row b off n cap hl hc h =>
  by_cases n0 : n = 0
  ·subst n0
   exact och_0 htA b off cap
  ·exact och_row hm haw (by omega) fun i hi => h i (by omega)

end Go.Proofs

/- maps.Keys and slices.AppendSeq over it, run: keys of kind u16. -/
namespace Go.Proofs
open Go Go.Ev
set_option linter.unusedVariables false
set_option linter.unusedSimpArgs false

def rfAs : Code → Code | .rangeFunc _ _ a _ => a | c => c
def rfBd : Code → Code | .rangeFunc _ _ _ b => b | c => c
noncomputable def cKs : Code := bodyOf S0 77
noncomputable def cAq : Code := bodyOf S0 90
noncomputable def cCo : Code := bodyOf S0 75

abbrev seqV : Value := .func (.func 77) ⟨[]⟩ ⟨[.pointer (some ⟨0, 0, none⟩)]⟩
def AK0 (e z clock : Nat) (es : List MapEntry) : AW := ⟨2, .node (.node .nil (some (.map es clock)) .nil) (some (.cells [.map (some 1)] e 0 z)) .nil, .nil⟩

noncomputable def k_aqA : Code := rfAs (ic (rc (lc (rc cAq))))
noncomputable def k_aqB : Code := rfBd (ic (rc (lc (rc cAq))))
def TQ : Tr Value := .node (.node .nil (some seqV) .nil) (some (.slice none 0 0)) (.node (.node .nil (some (.slice none 0 0)) .nil) (some (.pointer (some ⟨2, 0, none⟩))) .nil)
noncomputable def AKg (e z clock : Nat) (es : List MapEntry) (n : Nat) (sv : Value) (s5 s6 : Tr AObj) : AW :=
 ⟨n, .node (.node (.node .nil (some .defd) .nil) (some (.map es clock)) s5) (some (.cells [.map (some 1)] e 0 z)) (.node (.node .nil (some (.loop .ready none 183 ⟨[(6, seqV)], TQ⟩ 13 ⟨[7]⟩ k_aqA k_aqB 3)) .nil) (some (.cells [sv] 61 2 0)) s6), .nil⟩
def miT (clock : Nat) (seen : List Nat) : Tr AObj := .node .nil (some (.miter 1 clock seen clock)) .nil
def rwT (i : Nat) (l : List Value) : Tr AObj := .node .nil (some (.cells l 49 i 1)) .nil
def yK : List Value := [.func (.yield 4) ⟨[]⟩ ⟨[]⟩, .pointer (some ⟨0, 0, none⟩)]

def TK : Tr Value := .node (.node .nil (some (.pointer (some ⟨0, 0, none⟩))) (.node .nil (some (.pointer (some ⟨5, 0, none⟩))) .nil)) (some (.func (.yield 4) ⟨[]⟩ ⟨[]⟩)) .nil
def TKz (z : Int) : Tr Value := .node (.node (.node .nil (some (.int .u16 z)) .nil) (some (.pointer (some ⟨0, 0, none⟩))) (.node .nil (some (.pointer (some ⟨5, 0, none⟩))) .nil)) (some (.func (.yield 4) ⟨[]⟩ ⟨[]⟩)) .nil

theorem kyA (r : Mem) (L : Nat) (fs : FnsC) (e z clock : Nat) (es : List MapEntry) (kn : KS) (kx : Nat → KS) (kr : KS) (ms : List Nat) : run (SC r) 183 13 L (.seq (lc cAq) (lc (lc (rc cAq)))) fs none kn kx kr (sc0 183 [.slice none 0 0, seqV]) (tr0 183 [.slice none 0 0, seqV]) ms (AK0 e z clock es) =
    kn [(6, .func (Fn.func 77) ⟨[]⟩ ⟨[.pointer (some ⟨0, 0, none⟩)]⟩)] (.node (.node .nil (some (.func (Fn.func 77) ⟨[]⟩ ⟨[.pointer (some ⟨0, 0, none⟩)]⟩)) .nil) (some (.slice none 0 0)) (.node (.node .nil (some (.slice none 0 0)) .nil) (some (.pointer (some ⟨2, 0, none⟩))) .nil)) ms (AW.mk 3 (.node (.node .nil (some (AObj.map es clock)) .nil) (some (.cells [Value.map (some 1)] e 0 z)) (.node .nil (some (.cells [.slice none 0 0] 61 2 0)) .nil)) .nil) := by kernel_rfl

theorem kyB (r : Mem) (L : Nat) (fs : FnsC) (e z clock : Nat) (es : List MapEntry) (kn : KS) (kx : Nat → KS) (kr : KS) (ms : List Nat) : run (SC r) 43 14 L (lc cKs) fs none kn kx kr (sc0 43 yK) (tr0 43 yK) ms (AKg e z clock es 5 (.slice none 0 0) .nil .nil) =
    kn [(4, Value.map (some 1))] (.node (.node .nil (some (.pointer (some ⟨0, 0, none⟩))) (.node .nil (some (.pointer (some ⟨5, 0, none⟩))) .nil)) (some (.func (Fn.yield 4) ⟨[]⟩ ⟨[]⟩)) .nil) ms (AW.mk 6 (.node (.node (.node .nil (some .defd) .nil) (some (AObj.map es clock)) (.node .nil (some (AObj.miter 1 clock [] clock)) .nil)) (some (.cells [Value.map (some 1)] e 0 z)) (.node (.node .nil (some (AObj.loop LoopState.ready none 183 (En.mk [(6, .func (Fn.func 77) ⟨[]⟩ ⟨[.pointer (some ⟨0, 0, none⟩)]⟩)] (.node (.node .nil (some (.func (Fn.func 77) ⟨[]⟩ ⟨[.pointer (some ⟨0, 0, none⟩)]⟩)) .nil) (some (.slice none 0 0)) (.node (.node .nil (some (.slice none 0 0)) .nil) (some (.pointer (some ⟨2, 0, none⟩))) .nil))) 13 ⟨[7]⟩ k_aqA k_aqB 3)) .nil) (some (.cells [.slice none 0 0] 61 2 0)) .nil)) .nil) := by kernel_rfl

theorem kyC (r : Mem) (L : Nat) (fs : FnsC) (s : List (Nat × Value)) (b : Tr Value) (q : Bool) (kn : KS) (kx : Nat → KS) (kr : KS) (ms : List Nat) (A : AW) : run (SC r) 43 14 L (lc (rc (ic (ic (rc cKs))))) fs none kn kx kr ((7, .bool q) :: s) b ms A =
    bif q then kn ((7, .bool q) :: s) b ms A else kx 0 ((7, .bool q) :: s) b ms A := by kernel_rfl

theorem kyP (r : Mem) (fs : FnsC) (kn : KS) (ms : List Nat) (A : AW) : preK (SC r) 43 14 (lc (ic (ic (rc cKs)))) 0 fs kn [] TK ms A =
    kn [] (.node (.node .nil (some (.pointer (some ⟨0, 0, none⟩))) (.node .nil (some (.pointer (some ⟨5, 0, none⟩))) .nil)) (some (.func (Fn.yield 4) ⟨[]⟩ ⟨[]⟩)) .nil) ms A := by kernel_rfl

theorem kyN (r : Mem) (fs : FnsC) (x : Int) (vb : Bool) (kn : KS) (ms : List Nat) (A : AW) : tailK (SC r) 43 14 (lc (ic (ic (rc cKs)))) 0 fs kn (.tuple ⟨[.bool true, .int .u16 x, .bool vb]⟩) [] TK ms A =
    kn [(7, .bool true), (6, .tuple ⟨[.bool true, .int .u16 x, .bool vb]⟩)] (.node (.node .nil (some (.pointer (some ⟨0, 0, none⟩))) (.node .nil (some (.pointer (some ⟨5, 0, none⟩))) .nil)) (some (.func (Fn.yield 4) ⟨[]⟩ ⟨[]⟩)) .nil) ms A := by kernel_rfl

theorem kyM (r : Mem) (fs : FnsC) (kn : KS) (ms : List Nat) (A : AW) : tailK (SC r) 43 14 (lc (ic (ic (rc cKs)))) 0 fs kn (.tuple ⟨[.bool false]⟩) [] TK ms A =
    kn [(7, .bool false), (6, .tuple ⟨[.bool false]⟩)] (.node (.node .nil (some (.pointer (some ⟨0, 0, none⟩))) (.node .nil (some (.pointer (some ⟨5, 0, none⟩))) .nil)) (some (.func (Fn.yield 4) ⟨[]⟩ ⟨[]⟩)) .nil) ms A := by kernel_rfl

theorem kyQ (r : Mem) (fs : FnsC) (kn : KS) (ms : List Nat) (A : AW) : preK (SC r) 43 14 (lc (ic (rc (rc (ic (ic (rc cKs))))))) 0 fs kn [] TK ms A =
    kn [] (.node (.node .nil (some (.pointer (some ⟨0, 0, none⟩))) (.node .nil (some (.pointer (some ⟨5, 0, none⟩))) .nil)) (some (.func (Fn.yield 4) ⟨[]⟩ ⟨[]⟩)) .nil) ms A := by kernel_rfl

theorem kyE (r : Mem) (fs : FnsC) (x : Int) (vb : Bool) (kn : KS) (ms : List Nat) (A : AW) : tailK (SC r) 43 14 (lc (ic (rc (rc (ic (ic (rc cKs))))))) 0 fs kn (.tuple ⟨[.int .u16 x, .bool vb]⟩) [] TK ms A =
    kn [(9, .int .u16 x), (8, .tuple ⟨[.int .u16 x, .bool vb]⟩)] (.node (.node (.node .nil (some (.int .u16 x)) .nil) (some (.pointer (some ⟨0, 0, none⟩))) (.node .nil (some (.pointer (some ⟨5, 0, none⟩))) .nil)) (some (.func (Fn.yield 4) ⟨[]⟩ ⟨[]⟩)) .nil) ms A := by kernel_rfl

theorem kyY (r : Mem) (L : Nat) (tm : Tr Nat) (e z clock : Nat) (es : List MapEntry) (seen : List Nat) (x : Int) (s : List (Nat × Value)) (kn : KS) (kx : Nat → KS) (kr : KS) (ms : List Nat) : run (SC r) 43 14 L (rc (ic (rc (rc (ic (ic (rc cKs))))))) (lvlT (SC r) (fun _ => none) tm L 1) none kn kx kr s (TKz x) ms (AKg e z clock es 6 (.slice none 0 0) (miT clock seen) .nil) =
    kn [(13, .bool false), (12, .bool true), (11, .int .u16 x), (10, .func (Fn.yield 4) ⟨[]⟩ ⟨[]⟩)] (.node (.node (.node .nil (some (.int .u16 x)) .nil) (some (.pointer (some ⟨0, 0, none⟩))) (.node .nil (some (.pointer (some ⟨5, 0, none⟩))) .nil)) (some (.func (Fn.yield 4) ⟨[]⟩ ⟨[]⟩)) .nil) ms (AW.mk 8 (.node (.node (.node (.node .nil (some (.cells [.int .u16 x] 49 7 1)) .nil) (some .defd) .nil) (some (AObj.map es clock)) (.node .nil (some (AObj.miter 1 clock seen clock)) .nil)) (some (.cells [Value.map (some 1)] e 0 z)) (.node (.node .nil (some (AObj.loop LoopState.ready none 183 (En.mk [(6, .func (Fn.func 77) ⟨[]⟩ ⟨[.pointer (some ⟨0, 0, none⟩)]⟩)] (.node (.node .nil (some (.func (Fn.func 77) ⟨[]⟩ ⟨[.pointer (some ⟨0, 0, none⟩)]⟩)) .nil) (some (.slice none 0 0)) (.node (.node .nil (some (.slice none 0 0)) .nil) (some (.pointer (some ⟨2, 0, none⟩))) .nil))) 13 ⟨[7]⟩ k_aqA k_aqB 3)) .nil) (some (.cells [.slice (some ⟨7, 0, none⟩) 1 unk] 61 2 0)) (.node .nil (some (.cells [.int .u16 x] 49 6 1)) .nil))) .nil) := by kernel_rfl

theorem kyZ (r : Mem) (L : Nat) (tm : Tr Nat) (e z clock : Nat) (es : List MapEntry) (seen : List Nat) (x : Int) (l : List Value) (n : Nat) (s : List (Nat × Value)) (kn : KS) (kx : Nat → KS) (kr : KS) (ms : List Nat) : run (SC r) 43 14 L (rc (ic (rc (rc (ic (ic (rc cKs))))))) (lvlT (SC r) (fun _ => none) tm L 1) none kn kx kr s (TKz x) ms (AKg e z clock es 7 (.slice (some ⟨6, 0, none⟩) n unk) (miT clock seen) (rwT 6 l)) =
    bif Nat.ble (Nat.add n 1) 1000000 then Option.casesOn (takeAt l 0 (Nat.mul n 1)) (.fail 439) fun val => kn [(13, .bool false), (12, .bool true), (11, .int .u16 x), (10, .func (Fn.yield 4) ⟨[]⟩ ⟨[]⟩)] (.node (.node (.node .nil (some (.int .u16 x)) .nil) (some (.pointer (some ⟨0, 0, none⟩))) (.node .nil (some (.pointer (some ⟨5, 0, none⟩))) .nil)) (some (.func (Fn.yield 4) ⟨[]⟩ ⟨[]⟩)) .nil) ms (AW.mk 9 (.node (.node (.node (.node .nil (some (.cells [.int .u16 x] 49 7 1)) .nil) (some .defd) .nil) (some (AObj.map es clock)) (.node .nil (some (AObj.miter 1 clock seen clock)) .nil)) (some (.cells [Value.map (some 1)] e 0 z)) (.node (.node (.node .nil (some (.cells (val ++ [.int .u16 x]) 49 6 1)) .nil) (some (AObj.loop LoopState.ready none 183 (En.mk [(6, .func (Fn.func 77) ⟨[]⟩ ⟨[.pointer (some ⟨0, 0, none⟩)]⟩)] (.node (.node .nil (some (.func (Fn.func 77) ⟨[]⟩ ⟨[.pointer (some ⟨0, 0, none⟩)]⟩)) .nil) (some (.slice none 0 0)) (.node (.node .nil (some (.slice none 0 0)) .nil) (some (.pointer (some ⟨2, 0, none⟩))) .nil))) 13 ⟨[7]⟩ k_aqA k_aqB 3)) .nil) (some (.cells [.slice (some ⟨8, 0, none⟩) (Nat.add n 1) unk] 61 2 0)) (.node .nil none .nil))) (.node .nil none (.node .nil none (.node .nil (some [8]) .nil)))) else .fail 420 := by kernel_rfl

end Go.Proofs

/- maps.Keys over slices.AppendSeq: the walk, each key once, in any order. -/
namespace Go.Proofs
open Go Go.Ev
set_option linter.unusedVariables false
set_option linter.unusedSimpArgs false

abbrev K16 : Type := {x : Int // 0 ≤ x ∧ x < 65536}
abbrev KT : Type := K16 × Bool × Nat
def mkE (t : KT) : MapEntry := ⟨.int .u16 t.1.1, .bool t.2.1, t.2.2⟩
def rowK (l : List KT) : List Value := l.map fun t => .int .u16 t.1.1
def bornK (l : List KT) : List Nat := l.map fun t => t.2.2
theorem rowK_len (l : List KT) : (rowK l).length = l.length := by simp [rowK]
theorem rowK_gnd (l : List KT) : ∀ v ∈ rowK l, gnd v = true := fun v hv => by
 obtain ⟨t, _, rfl⟩ := List.mem_map.1 hv
 rfl
theorem takeAt_fullK (l : List Value) (n : Nat) (h : l.length = n) : takeAt l 0 n = some l := takeAt_all l n 0 l h fun j _ => by rw [Nat.zero_add]
theorem natFK {i j : Nat} (h : i ≠ j) : Nat.beq i j = false := by
 cases e : Nat.beq i j with
 | false => rfl
 | true => exact absurd (Nat.eq_of_beq_eq_true e) h

structure KOk (q : List KT) (clock : Nat) : Prop where
 born : ∀ t ∈ q, t.2.2 < clock
 nodup : (bornK q).Nodup
 few : q.length < 1000000

theorem left_mem {q : List KT} {seen : List Nat} {e : MapEntry} (h : e ∈ nextLeft (q.map mkE) seen) : ∃ t ∈ q, e = mkE t ∧ t.2.2 ∉ seen := by
 unfold nextLeft at h
 obtain ⟨h1, h2⟩ := List.mem_filter.1 h
 obtain ⟨t, ht, rfl⟩ := List.mem_map.1 h1
 refine ⟨t, ht, rfl, fun hm => ?_⟩
 simp [mkE, hm] at h2

theorem left_nil {q : List KT} {seen : List Nat} (h : nextLeft (q.map mkE) seen = []) : ∀ t ∈ q, t.2.2 ∈ seen := fun t ht => by
 unfold nextLeft at h
 have := List.filter_eq_nil_iff.1 h (mkE t) (List.mem_map_of_mem ht)
 simpa [mkE] using this

theorem left_done {q vis rest : List KT} {clock : Nat} (hq : KOk q clock) (hp : (vis ++ rest).Perm q) (h : nextLeft (q.map mkE) (bornK vis) = []) : rest = [] := by
 cases rest with
 | nil => rfl
 | cons t l =>
  exfalso
  have h1 := left_nil h t (hp.mem_iff.1 (by simp))
  have h2 : (bornK (vis ++ t :: l)).Nodup := (hp.map _).nodup_iff.2 hq.nodup
  unfold bornK at h1 h2
  rw [List.map_append, List.nodup_append] at h2
  exact h2.2.2 _ h1 t.2.2 (by simp) rfl

theorem left_more {q vis rest : List KT} {clock : Nat} (hq : KOk q clock) (hp : (vis ++ rest).Perm q) {e : MapEntry} (h : e ∈ nextLeft (q.map mkE) (bornK vis)) : ∃ t rest', e = mkE t ∧ rest'.length < rest.length ∧ ((vis ++ [t]) ++ rest').Perm q := by
 obtain ⟨t, ht, rfl, hn⟩ := left_mem h
 have hm : t ∈ rest := by
  rcases List.mem_append.1 (hp.mem_iff.2 ht) with h1 | h1
  ·exact absurd (List.mem_map_of_mem (f := fun t : KT => t.2.2) h1) hn
  ·exact h1
 obtain ⟨a, b, rfl⟩ := List.append_of_mem hm
 refine ⟨t, a ++ b, rfl, by simp, List.Perm.trans ?_ hp⟩
 rw [List.append_assoc]
 refine List.Perm.append_left vis ?_
 simpa using List.perm_middle.symm

theorem same_ok {q : List KT} {clock : Nat} (hq : KOk q clock) (seen : List Nat) : nextSame (q.map mkE) clock seen clock = true := by
 unfold nextSame
 simp only [Bool.and_eq_true, Bool.not_eq_true', List.all_eq_true, decide_eq_true_eq]
 refine ⟨?_, fun e he => ?_⟩
 ·cases q with
  | nil => simp
  | cons t l =>
   have := hq.born t (by simp)
   have h2 : (List.map mkE (t :: l)).all (fun e => decide (clock ≤ e.born)) = false := by
    simp [mkE]
    intro h
    omega
   rw [h2]
   simp
 ·obtain ⟨t, ht, rfl, _⟩ := left_mem he
  exact hq.born t ht

theorem find_ok {q : List KT} {clock : Nat} (hq : KOk q clock) {t : KT} (ht : t ∈ q) : (q.map mkE).find? (fun e => Nat.beq e.born t.2.2) = some (mkE t) := by
 have key : ∀ (l : List KT), (bornK l).Nodup → t ∈ l → (l.map mkE).find? (fun e => Nat.beq e.born t.2.2) = some (mkE t) := by
  intro l
  induction l with
  | nil => intro _ h; cases h
  | cons x l ih =>
   intro hn hm
   rw [List.map_cons, List.find?_cons]
   unfold bornK at hn
   rw [List.map_cons, List.nodup_cons] at hn
   rcases List.mem_cons.1 hm with rfl | hm
   ·rw [show Nat.beq (mkE t).born t.2.2 = true from Nat.beq_refl _]
   ·have hne : x.2.2 ≠ t.2.2 := fun h => hn.1 (by rw [h]; exact List.mem_map_of_mem (f := fun t : KT => t.2.2) hm)
    rw [show Nat.beq (mkE x).born t.2.2 = false from natFK hne]
    exact ih hn.2 hm
 exact key q hq.nodup ht

section
variable {r : Mem} {γ0 : Gam} {W0 : World} {e z clock : Nat} {q : List KT}

noncomputable def AKv (e z clock : Nat) (q : List KT) : List KT → AW
 | [] => AKg e z clock (q.map mkE) 6 (.slice none 0 0) (miT clock []) .nil
 | t :: l => AKg e z clock (q.map mkE) 7 (.slice (some ⟨6, 0, none⟩) (t :: l).length unk) (miT clock (bornK (t :: l))) (rwT 6 (rowK (t :: l)))
noncomputable def AKf (e z clock : Nat) (q : List KT) : List KT → AW
 | [] => AKg e z clock (q.map mkE) 5 (.slice none 0 0) .nil .nil
 | t :: l => AKg e z clock (q.map mkE) 6 (.slice (some ⟨5, 0, none⟩) (t :: l).length unk) (rwT 5 (rowK (t :: l))) .nil
noncomputable def AKn (e z clock : Nat) (q : List KT) (seen : List Nat) : List KT → AW
 | [] => AKg e z clock (q.map mkE) 6 (.slice none 0 0) (miT clock seen) .nil
 | t :: l => AKg e z clock (q.map mkE) 7 (.slice (some ⟨6, 0, none⟩) (t :: l).length unk) (miT clock seen) (rwT 6 (rowK (t :: l)))


theorem ksG (q : List KT) : ∀ x ∈ q.map mkE, gnd x.key = true ∧ gnd x.val = true := fun x hx => by
 obtain ⟨t, _, rfl⟩ := List.mem_map.1 hx
 exact ⟨rfl, rfl⟩

theorem ren_start (h0 : ∀ i, 5 ≤ i → γ0 i = none) (s : List (Nat × Value)) : Ren (SC r) 43 14 γ0 W0 ⟨⟨s, TK⟩, [], AKv e z clock q []⟩ ⟨⟨[], TK⟩, [], AKv e z clock q []⟩ := by
 refine Ren.of (fun i => i) 5 rfl h0 (Nat.le_of_ble_eq_true rfl) (fun i hi => rfl) ?_ rfl ?_ trivial
 ·simp only [Tr.All, TK]
  repeat' (first | exact trivial | apply And.intro)
  all_goals exact ⟨_, rfl, rfl⟩
 ·simp only [Tr.All, AKv, AKg, miT]
  repeat' (first | exact trivial | apply And.intro)
  all_goals first | rfl | exact .head _ | exact ⟨_, rfl, .defd⟩ | exact ⟨_, rfl, .map (ksG q)⟩ | exact ⟨_, rfl, .miter rfl rfl⟩ | exact ⟨_, rfl, .cells rfl⟩ | exact ⟨_, rfl, .plain (by skip)⟩ | skip
  refine ⟨_, rfl, .same ?_ ?_ rfl rfl⟩
  ·simp only [Tr.All, TQ]
   repeat' (first | exact trivial | apply And.intro)
   all_goals rfl
  ·simp only [scrFix]
   repeat' (first | exact trivial | apply And.intro)
   all_goals rfl

def KeySt (e z clock : Nat) (q : List KT) (j : Nat) (st : St) : Prop := ∃ vis rest, rest.length = j ∧ (vis ++ rest).Perm q ∧ st = ⟨⟨[], TK⟩, [], AKv e z clock q vis⟩

def KeyQ (r : Mem) (γ0 : Gam) (W0 : World) (e z clock : Nat) (q : List KT) : Exit → St → Prop
 | .exit id, st => id = 0 ∧ ∃ vis, vis.Perm q ∧ ∃ st1, Ren (SC r) 43 14 γ0 W0 st st1 ∧ st1 = ⟨⟨[], .nil⟩, [], AKf e z clock q vis⟩
 | _, _ => False

theorem ren_out (h0 : ∀ i, 5 ≤ i → γ0 i = none) (s : List (Nat × Value)) (vis : List KT) : Ren (SC r) 43 14 γ0 W0 ⟨⟨s, TK⟩, [], AKv e z clock q vis⟩ ⟨⟨[], .nil⟩, [], AKf e z clock q vis⟩ := by
 cases vis with
 | nil =>
  refine Ren.of (fun i => i) 5 rfl h0 (Nat.le_of_ble_eq_true rfl) (fun i hi => rfl) ?_ rfl ?_ trivial
  ·simp only [Tr.All, TK]
   repeat' (first | exact trivial | apply And.intro)
   all_goals exact ⟨_, rfl, rfl⟩
  ·simp only [Tr.All, AKv, AKf, AKg, miT]
   repeat' (first | exact trivial | apply And.intro)
   all_goals first | rfl | exact .head _ | exact ⟨_, rfl, .defd⟩ | exact ⟨_, rfl, .map (ksG q)⟩ | exact ⟨_, rfl, .miter rfl rfl⟩ | exact ⟨_, rfl, .cells rfl⟩ | exact ⟨_, rfl, .plain (by skip)⟩ | skip
   refine ⟨_, rfl, .same ?_ ?_ rfl rfl⟩
   ·simp only [Tr.All, TQ]
    repeat' (first | exact trivial | apply And.intro)
    all_goals rfl
   ·simp only [scrFix]
    repeat' (first | exact trivial | apply And.intro)
    all_goals rfl
 | cons t l =>
  refine Ren.of (fun i => bif Nat.beq i 5 then 6 else i) 5 rfl h0 (Nat.le_of_ble_eq_true rfl) (fun i hi => by have : Nat.beq i 5 = false := natFK (by omega); rw [this]; rfl) ?_ rfl ?_ trivial
  ·simp only [Tr.All, TK]
   repeat' (first | exact trivial | apply And.intro)
   all_goals exact ⟨_, rfl, rfl⟩
  ·simp only [Tr.All, AKv, AKf, AKg, miT, rwT]
   repeat' (first | exact trivial | apply And.intro)
   all_goals first | rfl | exact .head _ | exact ⟨_, rfl, .defd⟩ | exact ⟨_, rfl, .map (ksG q)⟩ | exact ⟨_, rfl, .miter rfl rfl⟩ | exact ⟨_, rfl, .cells rfl⟩ | exact ⟨_, rfl, .plain (by exact rowK_gnd (t :: l))⟩ | skip
   refine ⟨_, rfl, .same ?_ ?_ rfl rfl⟩
   ·simp only [Tr.All, TQ]
    repeat' (first | exact trivial | apply And.intro)
    all_goals rfl
   ·simp only [scrFix]
    repeat' (first | exact trivial | apply And.intro)
    all_goals rfl

theorem put_seen {vis : List KT} {seen : List Nat} : ({ AKv e z clock q vis with heap := (AKv e z clock q vis).heap.put 5 (some (.miter 1 clock seen clock)) } : AW) = AKn e z clock q seen vis := by
 cases vis <;> rfl

theorem key_body (hq : KOk q clock) (h0 : ∀ i, 5 ≤ i → γ0 i = none) {F : Fence} {k : Nat} (hF : Wide F) (hro : F.round = none) {j : Nat} {st : St} (hs : KeySt e z clock q j st) :
  Go.Ev.Reach (SC r) 43 14 F k γ0 W0 (ic (ic (rc cKs))) st fun ex st' => match ex with
   | .normal => ∃ j', j' < j ∧ ∃ st1, Ren (SC r) 43 14 γ0 W0 st' st1 ∧ KeySt e z clock q j' st1
   | ex => KeyQ r γ0 W0 e z clock q ex st' := by
 obtain ⟨vis, rest, rfl, hp, rfl⟩ := hs
 rw [show ic (ic (rc cKs)) = Code.seq (lc (ic (ic (rc cKs)))) (.seq (lc (rc (ic (ic (rc cKs))))) (.block 1 (ic (rc (rc (ic (ic (rc cKs)))))))) from by kernel_rfl]
 have hi : (AKv e z clock q vis).heap.get 5 = some (.miter 1 clock (bornK vis) clock) := by cases vis <;> rfl
 have hm : (AKv e z clock q vis).heap.get 1 = some (.map (q.map mkE) clock) := by cases vis <;> rfl
 refine Go.Ev.Reach.seq (Go.Ev.Reach.nextP (SC_ok r) hF TOk.nil (tm := .nil) (L := 0) (d := 0) 0 (s1 := []) (b1 := TK) (ms1 := []) (A1 := AKv e z clock q vis) ?_ (by kernel_rfl) hi hm (same_ok hq _) fun v A' hv => ?_)
 ·rw [kyP]
  exact qn_ok rfl
 rcases hv with ⟨hnil, rfl, rfl⟩ | ⟨x, hx, rfl, rfl⟩
 ·rw [kyM]
  refine qn_ok (Go.Ev.Reach.seq (Go.Ev.Reach.seg (SC_ok r) TOk.nil (tm := .nil) (L := 1) (L' := 1) (d := 1) hF hro ?_))
  rw [kyC]
  simp only [cond_false]
  have := left_done hq hp hnil
  subst this
  rw [List.append_nil] at hp
  exact qn_ok ⟨rfl, vis, hp, _, ren_out h0 _ vis, rfl⟩
 ·obtain ⟨t, rest', rfl, hlt, hp'⟩ := left_more hq hp hx
  rw [show (mkE t).key = .int .u16 t.1.1 from rfl, show (mkE t).val = .bool t.2.1 from rfl, show (mkE t).born = t.2.2 from rfl, kyN, put_seen]
  refine qn_ok (Go.Ev.Reach.seq (Go.Ev.Reach.seg (SC_ok r) TOk.nil (tm := .nil) (L := 1) (L' := 1) (d := 1) hF hro ?_))
  rw [kyC]
  simp only [cond_true]
  have ht : t ∈ q := hp'.mem_iff.1 (by simp)
  have hi : (AKn e z clock q (bornK vis ++ [t.2.2]) vis).heap.get 5 = some (.miter 1 clock (bornK vis ++ [t.2.2]) clock) := by cases vis <;> rfl
  have hm : (AKn e z clock q (bornK vis ++ [t.2.2]) vis).heap.get 1 = some (.map (q.map mkE) clock) := by cases vis <;> rfl
  refine qn_ok (Go.Ev.Reach.block ?_)
  rw [show ic (rc (rc (ic (ic (rc cKs))))) = Code.seq (lc (ic (rc (rc (ic (ic (rc cKs))))))) (rc (ic (rc (rc (ic (ic (rc cKs))))))) from by kernel_rfl]
  refine Go.Ev.Reach.seq (Go.Ev.Reach.entryP (SC_ok r) hF TOk.nil (tm := .nil) (L := 0) (d := 0) 0 (s1 := []) (b1 := TK) (ms1 := []) (A1 := AKn e z clock q (bornK vis ++ [t.2.2]) vis) (i := 5) ?_ (by kernel_rfl) hi hm (by simp) (find_ok hq ht) ?_)
  ·exact (kyQ ..).trans (qn_ok rfl)
  rw [show (mkE t).key = .int .u16 t.1.1 from rfl, show (mkE t).val = .bool t.2.1 from rfl, kyE]
  refine qn_ok (Go.Ev.Reach.seg (SC_ok r) TOk.nil (tm := .nil) (L := 1) (L' := 1) (d := 1) hF hro ?_)
  cases vis with
  | nil =>
   refine (kyY ..).trans (qn_ok ⟨rest'.length, hlt, _, ?_, [t], rest', rfl, hp', rfl⟩)
   show Ren _ _ _ _ _ _ ⟨⟨[], TK⟩, [], AKg e z clock (q.map mkE) 7 (.slice (some ⟨6, 0, none⟩) 1 unk) (miT clock [t.2.2]) (rwT 6 [.int .u16 t.1.1])⟩
   refine Ren.of (fun i => bif Nat.beq i 6 then 7 else i) 5 rfl h0 (Nat.le_of_ble_eq_true rfl) (fun i hi => by have : Nat.beq i 6 = false := natFK (by omega); rw [this]; rfl) ?_ rfl ?_ trivial
   ·simp only [Tr.All, TK]
    repeat' (first | exact trivial | apply And.intro)
    all_goals exact ⟨_, rfl, rfl⟩
   ·simp only [Tr.All, AKg, miT, rwT]
    repeat' (first | exact trivial | apply And.intro)
    all_goals first | rfl | exact .head _ | exact ⟨_, rfl, .defd⟩ | exact ⟨_, rfl, .map (ksG q)⟩ | exact ⟨_, rfl, .miter rfl rfl⟩ | exact ⟨_, rfl, .cells rfl⟩ | exact ⟨_, rfl, .plain (by intro v hv; rw [List.mem_singleton.1 hv]; rfl)⟩ | skip
    refine ⟨_, rfl, .same ?_ ?_ rfl rfl⟩
    ·simp only [Tr.All, TQ]
     repeat' (first | exact trivial | apply And.intro)
     all_goals rfl
    ·simp only [scrFix]
     repeat' (first | exact trivial | apply And.intro)
     all_goals rfl
  | cons t0 l =>
   have hlen : (t0 :: l).length + 1 ≤ q.length := by
    have := hp'.length_eq
    simp only [List.length_append, List.length_cons, List.length_nil] at this ⊢
    omega
   have hfew := hq.few
   have g1 : Nat.ble (Nat.add (t0 :: l).length 1) 1000000 = true := Nat.ble_eq_true_of_le (by simp only [Nat.add_eq]; omega)
   have g2 : takeAt (rowK (t0 :: l)) 0 (Nat.mul (t0 :: l).length 1) = some (rowK (t0 :: l)) := takeAt_fullK _ _ (by rw [rowK_len]; simp)
   refine (kyZ ..).trans ?_
   rw [g1, g2]
   simp only [cond_true]
   refine qn_ok ⟨rest'.length, hlt, _, ?_, (t0 :: l) ++ [t], rest', rfl, hp', rfl⟩
   show Ren _ _ _ _ _ _ ⟨⟨[], TK⟩, [], AKg e z clock (q.map mkE) 7 (.slice (some ⟨6, 0, none⟩) ((t0 :: l) ++ [t]).length unk) (miT clock (bornK ((t0 :: l) ++ [t]))) (rwT 6 (rowK ((t0 :: l) ++ [t])))⟩
   have e1 : ((t0 :: l) ++ [t]).length = Nat.add (t0 :: l).length 1 := by simp
   have e2 : bornK ((t0 :: l) ++ [t]) = bornK (t0 :: l) ++ [t.2.2] := by simp [bornK]
   have e3 : rowK ((t0 :: l) ++ [t]) = rowK (t0 :: l) ++ [.int .u16 t.1.1] := by simp [rowK]
   rw [e1, e2, e3]
   refine Ren.of (fun i => bif Nat.beq i 6 then 8 else i) 5 rfl h0 (Nat.le_of_ble_eq_true rfl) (fun i hi => by have : Nat.beq i 6 = false := natFK (by omega); rw [this]; rfl) ?_ rfl ?_ trivial
   ·simp only [Tr.All, TK]
    repeat' (first | exact trivial | apply And.intro)
    all_goals exact ⟨_, rfl, rfl⟩
   ·simp only [Tr.All, AKg, miT, rwT]
    repeat' (first | exact trivial | apply And.intro)
    all_goals first | rfl | exact .head _ | exact ⟨_, rfl, .defd⟩ | exact ⟨_, rfl, .map (ksG q)⟩ | exact ⟨_, rfl, .miter rfl rfl⟩ | exact ⟨_, rfl, .cells rfl⟩ | exact ⟨_, rfl, .plain (by exact e3 ▸ rowK_gnd ((t0 :: l) ++ [t]))⟩ | skip
    refine ⟨_, rfl, .same ?_ ?_ rfl rfl⟩
    ·simp only [Tr.All, TQ]
     repeat' (first | exact trivial | apply And.intro)
     all_goals rfl
    ·simp only [scrFix]
     repeat' (first | exact trivial | apply And.intro)
     all_goals rfl

theorem keys_S (hq : KOk q clock) : SOk (SC r) 77 yK (AKg e z clock (q.map mkE) 5 (.slice none 0 0) .nil .nil) fun v A' => v = .tuple ⟨[]⟩ ∧ ∃ vis, vis.Perm q ∧ A' = AKf e z clock q vis := by
 obtain ⟨fn, h1, h2, h3, h4⟩ := fn_of (C := SC r) (f := 77) (by kernel_rfl)
 have hn : fn.ntmps = 14 := h3.trans (by kernel_rfl)
 have hr : fn.results.toList = [] := h4.trans (by kernel_rfl)
 rw [bodySC] at h2
 refine call_reachS (SC_ok r) h1 h2 43 (by rw [hn]; rfl) fun γ W F k hw hF hro => ?_
 rw [hn, hr]
 have h0 : ∀ i, 5 ≤ i → γ i = none := hw.fresh
 show Go.Ev.Reach (SC r) 43 14 F k γ W cKs _ _
 rw [show cKs = Code.seq (lc cKs) (.block 0 (.loop (ic (ic (rc cKs))))) from by kernel_rfl]
 refine Go.Ev.Reach.seq (Go.Ev.Reach.seg (SC_ok r) TOk.nil (tm := .nil) (L := 1) (L' := 1) (d := 1) hF hro ((kyB ..).trans (qn_ok ?_)))
 refine Go.Ev.Reach.pre (ren_start h0 _) ?_
 refine Go.Ev.Reach.block ?_
 refine Go.Ev.Reach.loop (I := fun j st => ∃ st1, Ren (SC r) 43 14 γ W st st1 ∧ KeySt e z clock q j st1) (fun j st ⟨st1, hr, hs⟩ => Go.Ev.Reach.pre hr (Go.Ev.Reach.mono (key_body hq h0 hF hro hs) fun ex st' h => ?_)) ⟨_, Ren.refl _, [], q, rfl, by simp, rfl⟩
 cases ex with
 | normal => exact h
 | exit id =>
  obtain ⟨rfl, vis, hv, st2, hr2, rfl⟩ := h
  exact ⟨.inl rfl, _, _, _, hr2, rfl, rfl, vis, hv, rfl⟩
 | _ => exact h.elim

end

end Go.Proofs

/- slices.AppendSeq and Collect over maps.Keys: one row, the keys in any order. -/
namespace Go.Proofs
open Go Go.Ev
set_option linter.unusedVariables false
set_option linter.unusedSimpArgs false

def TQ0 : Tr Value := .node (.node .nil (some seqV) .nil) (some (.slice none 0 0)) .nil
def AR (e z clock : Nat) (es : List MapEntry) (l : List Value) : AW := ⟨4, .node (.node (.node .nil none .nil) (some (.map es clock)) .nil) (some (.cells [.map (some 1)] e 0 z)) (.node .nil (some (.cells l 49 2 1)) .nil), .nil⟩
noncomputable def AR3 (e z clock : Nat) (es : List MapEntry) (l : List Value) : AW := ⟨4, .node (.node (.node .nil (some .defd) .nil) (some (.map es clock)) .nil) (some (.cells [.map (some 1)] e 0 z)) (.node .nil (some (.cells l 49 2 1)) .nil), .nil⟩
noncomputable def AKh (e z clock : Nat) (es : List MapEntry) (n : Nat) (sv : Value) (s5 : Tr AObj) : AW :=
 ⟨n, .node (.node (.node .nil (some .defd) .nil) (some (.map es clock)) s5) (some (.cells [.map (some 1)] e 0 z)) (.node (.node .nil (some (.loop .exhausted none 183 ⟨[(6, seqV)], TQ⟩ 13 ⟨[7]⟩ k_aqA k_aqB 3)) .nil) (some (.cells [sv] 61 2 0)) .nil), .nil⟩
def TQ4 (sv : Value) : Tr Value := .node .nil none (.node (.node .nil (some sv) .nil) none .nil)

def TC0 (v : Value) : Tr Value := .node .nil (some seqV) (.node .nil (some v) .nil)

theorem kcA (r : Mem) (L : Nat) (fs : FnsC) (e z clock : Nat) (es : List MapEntry) (kn : KS) (kx : Nat → KS) (kr : KS) (ms : List Nat) : run (SC r) 183 13 L (lc cAq) fs none kn kx kr (sc0 183 [.slice none 0 0, seqV]) (tr0 183 [.slice none 0 0, seqV]) ms (AK0 e z clock es) =
    kn [] (.node (.node .nil (some (.func (Fn.func 77) ⟨[]⟩ ⟨[.pointer (some ⟨0, 0, none⟩)]⟩)) .nil) (some (.slice none 0 0)) (.node (.node .nil (some (.slice none 0 0)) .nil) (some (.pointer (some ⟨2, 0, none⟩))) .nil)) ms (AW.mk 3 (.node (.node .nil (some (AObj.map es clock)) .nil) (some (.cells [Value.map (some 1)] e 0 z)) (.node .nil (some (.cells [.slice none 0 0] 61 2 0)) .nil)) .nil) := by kernel_rfl

theorem kcB (r : Mem) (L : Nat) (fs : FnsC) (s : List (Nat × Value)) (kn : KS) (kx : Nat → KS) (kr : KS) (ms : List Nat) (A : AW) : run (SC r) 183 13 L (lc (lc (rc cAq))) fs none kn kx kr s TQ ms A =
    kn [(6, .func (Fn.func 77) ⟨[]⟩ ⟨[.pointer (some ⟨0, 0, none⟩)]⟩)] (.node (.node .nil (some (.func (Fn.func 77) ⟨[]⟩ ⟨[.pointer (some ⟨0, 0, none⟩)]⟩)) .nil) (some (.slice none 0 0)) (.node (.node .nil (some (.slice none 0 0)) .nil) (some (.pointer (some ⟨2, 0, none⟩))) .nil)) ms A := by kernel_rfl

theorem kcC (r : Mem) (L : Nat) (fs : FnsC) (e z clock : Nat) (es : List MapEntry) (n : Nat) (l : List Value) (kn : KS) (kx : Nat → KS) (kr : KS) : run (SC r) 183 13 L (rc (rc cAq)) fs none kn kx kr [(6, seqV)] TQ [3] (AKh e z clock es 6 (.slice (some ⟨5, 0, none⟩) n unk) (rwT 5 l)) =
    kr [(12, .slice (some ⟨5, 0, none⟩) n unk)] (.node (.node .nil (some (.func (Fn.func 77) ⟨[]⟩ ⟨[.pointer (some ⟨0, 0, none⟩)]⟩)) .nil) (some (.slice none 0 0)) (.node (.node .nil (some (.slice (some ⟨5, 0, none⟩) n unk)) .nil) (some (.pointer (some ⟨2, 0, none⟩))) .nil)) [3] (AW.mk 6 (.node (.node (.node .nil (some .defd) .nil) (some (AObj.map es clock)) (.node .nil (some (.cells l 49 5 1)) .nil)) (some (.cells [Value.map (some 1)] e 0 z)) (.node (.node .nil (some (AObj.loop LoopState.exhausted none 183 (En.mk [(6, .func (Fn.func 77) ⟨[]⟩ ⟨[.pointer (some ⟨0, 0, none⟩)]⟩)] (.node (.node .nil (some (.func (Fn.func 77) ⟨[]⟩ ⟨[.pointer (some ⟨0, 0, none⟩)]⟩)) .nil) (some (.slice none 0 0)) (.node (.node .nil (some (.slice none 0 0)) .nil) (some (.pointer (some ⟨2, 0, none⟩))) .nil))) 13 ⟨[7]⟩ k_aqA k_aqB 3)) .nil) (some (.cells [.slice (some ⟨5, 0, none⟩) n unk] 61 2 0)) .nil)) .nil) := by kernel_rfl

theorem kcF (r : Mem) (e z clock : Nat) (es : List MapEntry) (n : Nat) (l : List Value) (k : KV) : finK (SC r) 183 (resOf (SC r) 90) k [] (TQ4 (.slice (some ⟨2, 0, none⟩) n unk)) [3] (AR3 e z clock es l) =
    k (.slice (some ⟨2, 0, none⟩) n unk) (AW.mk 4 (.node (.node (.node .nil none .nil) (some (AObj.map es clock)) .nil) (some (.cells [Value.map (some 1)] e 0 z)) (.node .nil (some (.cells l 49 2 1)) .nil)) .nil) := by kernel_rfl

theorem kcG (r : Mem) (L : Nat) (fs : FnsC) (kn : KS) (kx : Nat → KS) (kr : KS) (ms : List Nat) (A : AW) : run (SC r) 5 5 L (lc cCo) fs none kn kx kr (sc0 5 [seqV]) (tr0 5 [seqV]) ms A =
    kn [] (.node .nil (some (.func (Fn.func 77) ⟨[]⟩ ⟨[.pointer (some ⟨0, 0, none⟩)]⟩)) (.node .nil (some (.slice none 0 0)) .nil)) ms A := by kernel_rfl

theorem kcH (r : Mem) (fs : FnsC) (kn : KS) (ms : List Nat) (A : AW) : preK (SC r) 5 5 (lc (rc cCo)) 1 fs kn [] (TC0 (.slice none 0 0)) ms A =
    kn [(3, .func (Fn.func 77) ⟨[]⟩ ⟨[.pointer (some ⟨0, 0, none⟩)]⟩)] (.node .nil (some (.func (Fn.func 77) ⟨[]⟩ ⟨[.pointer (some ⟨0, 0, none⟩)]⟩)) (.node .nil (some (.slice none 0 0)) .nil)) ms A := by kernel_rfl

theorem kcI (r : Mem) (fs : FnsC) (n : Nat) (kn : KS) (ms : List Nat) (A : AW) : tailK (SC r) 5 5 (lc (rc cCo)) 1 fs kn (.slice (some ⟨2, 0, none⟩) n unk) [(3, seqV)] (TC0 (.slice none 0 0)) ms A =
    kn [(4, .slice (some ⟨2, 0, none⟩) n unk), (3, .func (Fn.func 77) ⟨[]⟩ ⟨[.pointer (some ⟨0, 0, none⟩)]⟩)] (.node .nil (some (.func (Fn.func 77) ⟨[]⟩ ⟨[.pointer (some ⟨0, 0, none⟩)]⟩)) (.node .nil (some (.slice (some ⟨2, 0, none⟩) n unk)) .nil)) ms A := by kernel_rfl

theorem kcK (r : Mem) (L : Nat) (fs : FnsC) (s : List (Nat × Value)) (n : Nat) (kn : KS) (kx : Nat → KS) (kr : KS) (ms : List Nat) (A : AW) : run (SC r) 5 5 L (rc (rc cCo)) fs none kn kx kr s (TC0 (.slice (some ⟨2, 0, none⟩) n unk)) ms A =
    kr s (.node .nil (some (.func (Fn.func 77) ⟨[]⟩ ⟨[.pointer (some ⟨0, 0, none⟩)]⟩)) (.node .nil (some (.slice (some ⟨2, 0, none⟩) n unk)) .nil)) ms A := by kernel_rfl

theorem kcL (r : Mem) (s : List (Nat × Value)) (n : Nat) (k : KV) (A : AW) : finK (SC r) 5 (resOf (SC r) 75) k s (TC0 (.slice (some ⟨2, 0, none⟩) n unk)) [] A =
    k (.slice (some ⟨2, 0, none⟩) n unk) A := by kernel_rfl

theorem kcJ (r : Mem) (A : AW) : callAt (SC r) 5 (lc (rc cCo)) 1 ⟨[(3, seqV)], TC0 (.slice none 0 0)⟩ A = some (90, [.slice none 0 0, seqV], A) := by kernel_rfl

section
variable {r : Mem} {γ0 : Gam} {W0 : World} {e z clock : Nat} {q : List KT}


theorem append_S (hq : KOk q clock) (hne : q ≠ []) : SOk (SC r) 90 [.slice none 0 0, seqV] (AK0 e z clock (q.map mkE)) fun v A' => ∃ vis, vis.Perm q ∧ v = .slice (some ⟨2, 0, none⟩) vis.length unk ∧ A' = AR e z clock (q.map mkE) (rowK vis) := by
 obtain ⟨fn, h1, h2, h3, h4⟩ := fn_of (C := SC r) (f := 90) (by kernel_rfl)
 have hn : fn.ntmps = 13 := h3.trans (by kernel_rfl)
 rw [bodySC] at h2
 refine call_reachS (SC_ok r) h1 h2 183 (by rw [hn]; rfl) fun γ W F k hw hF hro => ?_
 rw [hn, h4]
 have h0 : ∀ i, 2 ≤ i → γ i = none := hw.fresh
 show Go.Ev.Reach (SC r) 183 13 F k γ W cAq _ _
 obtain ⟨fo, ps, hrf⟩ : ∃ fo ps, cAq = Code.seq (lc cAq) (.seq (.seq (lc (lc (rc cAq))) (.block 0 (.rangeFunc fo ps k_aqA k_aqB))) (rc (rc cAq))) ∧ ps = ⟨[7]⟩ ∧ fo = .tmp 6 := ⟨.tmp 6, ⟨[7]⟩, by kernel_rfl, rfl, rfl⟩
 obtain ⟨hrf, rfl, rfl⟩ := hrf
 rw [hrf]
 refine Go.Ev.Reach.seq (Go.Ev.Reach.seg (SC_ok r) TOk.nil (tm := .nil) (L := 1) (L' := 1) (d := 1) hF hro ((kcA ..).trans (qn_ok ?_)))
 refine Go.Ev.Reach.seq (Go.Ev.Reach.seq (Go.Ev.Reach.seg (SC_ok r) TOk.nil (tm := .nil) (L := 1) (L' := 1) (d := 1) hF hro ((kcB r 1 _ [] _ _ _ [] _).trans (qn_ok ?_))))
 have eA : (((⟨3, .node (.node .nil (some (.map (q.map mkE) clock)) .nil) (some (.cells [.map (some 1)] e 0 z)) (.node .nil (some (.cells [.slice none 0 0] 61 2 0)) .nil), .nil⟩ : AW).new .defd).new (.loop .ready none 183 ⟨[(6, seqV)], TQ⟩ 13 ⟨[7]⟩ k_aqA k_aqB 3)) = AKg e z clock (q.map mkE) 5 (.slice none 0 0) .nil .nil := by kernel_rfl
 have hkey := keys_S (r := r) (e := e) (z := z) hq
 rw [← eA] at hkey
 refine Go.Ev.Reach.block (Go.Ev.Reach.rangeS (SC_ok r) hF hro (g := 77) (first := []) (captured := [.pointer (some ⟨0, 0, none⟩)]) rfl (by kernel_rfl) hkey fun v A' ⟨_, vis, hv, hA⟩ => ?_)
 subst hA
 cases vis with
 | nil => exact absurd hv.nil_eq.symm hne
 | cons t l =>
  refine ⟨⟨⟨[(6, seqV)], TQ⟩, [3], AKh e z clock (q.map mkE) 6 (.slice (some ⟨5, 0, none⟩) (t :: l).length unk) (rwT 5 (rowK (t :: l)))⟩, by kernel_rfl, ?_⟩
  refine Go.Ev.Reach.seg (SC_ok r) TOk.nil (tm := .nil) (L := 1) (L' := 1) (d := 1) hF hro ((kcC ..).trans (qn_ok ⟨.inr rfl, ⟨⟨[], TQ4 (.slice (some ⟨2, 0, none⟩) (t :: l).length unk)⟩, [3], AR3 e z clock (q.map mkE) (rowK (t :: l))⟩, _, _, ?_, ?_, t :: l, hv, rfl, rfl⟩))
  ·
   refine Ren.of (fun i => bif Nat.beq i 2 then 5 else i) 2 rfl h0 (Nat.le_of_ble_eq_true rfl) (fun i hi => by have : Nat.beq i 2 = false := natFK (by omega); rw [this]; rfl) ?_ rfl ?_ trivial
   ·simp only [Tr.All, TQ4]
    repeat' (first | exact trivial | apply And.intro)
    all_goals exact ⟨_, rfl, rfl⟩
   ·simp only [Tr.All, AR3]
    repeat' (first | exact trivial | apply And.intro)
    all_goals first | rfl | exact .head _ | exact ⟨_, rfl, .defd⟩ | exact ⟨_, rfl, .map (ksG q)⟩ | exact ⟨_, rfl, .cells rfl⟩ | exact ⟨_, rfl, .plain (by exact rowK_gnd (t :: l))⟩
  ·rw [← finK_finish]
   exact kcF ..

theorem collect_S (hq : KOk q clock) (hne : q ≠ []) : SOk (SC r) 75 [seqV] (AK0 e z clock (q.map mkE)) fun v A' => ∃ vis, vis.Perm q ∧ v = .slice (some ⟨2, 0, none⟩) vis.length unk ∧ A' = AR e z clock (q.map mkE) (rowK vis) := by
 obtain ⟨fn, h1, h2, h3, h4⟩ := fn_of (C := SC r) (f := 75) (by kernel_rfl)
 have hn : fn.ntmps = 5 := h3.trans (by kernel_rfl)
 rw [bodySC] at h2
 refine call_reachS (SC_ok r) h1 h2 5 (by rw [hn]; rfl) fun γ W F k hw hF hro => ?_
 rw [hn, h4]
 show Go.Ev.Reach (SC r) 5 5 F k γ W cCo _ _
 rw [show cCo = Code.seq (lc cCo) (.seq (lc (rc cCo)) (rc (rc cCo))) from by kernel_rfl]
 refine Go.Ev.Reach.seq (Go.Ev.Reach.seg (SC_ok r) TOk.nil (tm := .nil) (L := 1) (L' := 1) (d := 1) hF hro ((kcG ..).trans (qn_ok ?_)))
 refine Go.Ev.Reach.seq (Go.Ev.Reach.callP (SC_ok r) hF TOk.nil (tm := .nil) (L := 0) (d := 0) 1 ((kcH ..).trans (qn_ok rfl)) (kcJ ..) (append_S (e := e) (z := z) hq hne) fun v A' ⟨vis, hv, h1, h2⟩ => ?_)
 subst h1 h2
 refine (kcI ..).trans (qn_ok (Go.Ev.Reach.seg (SC_ok r) TOk.nil (tm := .nil) (L := 1) (L' := 1) (d := 1) hF hro ((kcK ..).trans (qn_ok ⟨.inr rfl, _, _, _, Ren.refl _, ?_, vis, hv, rfl, rfl⟩))))
 rw [← finK_finish]
 exact kcL ..

end

end Go.Proofs

/- slices.SortedFunc over maps.Keys, run around the sort. -/
namespace Go.Proofs
open Go Go.Ev
set_option linter.unusedVariables false
set_option linter.unusedSimpArgs false

noncomputable def cSf : Code := bodyOf S0 50
abbrev cmpV : Value := .func (.func 52) ⟨[]⟩ ⟨[]⟩
abbrev slV (n : Nat) : Value := .slice (some ⟨2, 0, none⟩) n unk
def TS0 : Tr Value := .node (.node .nil (some cmpV) .nil) (some seqV) (.node (.node .nil (some (.slice none 0 0)) .nil) none .nil)
def TS1 (n : Nat) : Tr Value := .node (.node .nil (some cmpV) (.node .nil (some (slV n)) .nil)) (some seqV) (.node (.node .nil (some (.slice none 0 0)) .nil) none .nil)
def TS2 (n : Nat) : Tr Value := .node (.node .nil (some cmpV) (.node .nil (some (slV n)) .nil)) (some seqV) (.node (.node .nil (some (slV n)) .nil) none .nil)
noncomputable def tSo (n : Nat) (A0 A1 : AW) : Tbl := tcons 76 (entAt [slV n, cmpV] A0 (.tuple ⟨[]⟩) A1) fun _ => none

theorem kdA (r : Mem) (L : Nat) (fs : FnsC) (kn : KS) (kx : Nat → KS) (kr : KS) (ms : List Nat) (A : AW) : run (SC r) 51 12 L (lc cSf) fs none kn kx kr (sc0 51 [seqV, cmpV]) (tr0 51 [seqV, cmpV]) ms A =
    kn [] (.node (.node .nil (some (.func (Fn.func 52) ⟨[]⟩ ⟨[]⟩)) .nil) (some (.func (Fn.func 77) ⟨[]⟩ ⟨[.pointer (some ⟨0, 0, none⟩)]⟩)) (.node (.node .nil (some (.slice none 0 0)) .nil) none .nil)) ms A := by kernel_rfl

theorem kdB (r : Mem) (fs : FnsC) (kn : KS) (ms : List Nat) (A : AW) : preK (SC r) 51 12 (lc (rc cSf)) 1 fs kn [] TS0 ms A =
    kn [(6, .func (Fn.func 77) ⟨[]⟩ ⟨[.pointer (some ⟨0, 0, none⟩)]⟩)] (.node (.node .nil (some (.func (Fn.func 52) ⟨[]⟩ ⟨[]⟩)) .nil) (some (.func (Fn.func 77) ⟨[]⟩ ⟨[.pointer (some ⟨0, 0, none⟩)]⟩)) (.node (.node .nil (some (.slice none 0 0)) .nil) none .nil)) ms A := by kernel_rfl

theorem kdC (r : Mem) (fs : FnsC) (n : Nat) (kn : KS) (ms : List Nat) (A : AW) : tailK (SC r) 51 12 (lc (rc cSf)) 1 fs kn (slV n) [(6, seqV)] TS0 ms A =
    kn [(7, .slice (some ⟨2, 0, none⟩) n unk), (6, .func (Fn.func 77) ⟨[]⟩ ⟨[.pointer (some ⟨0, 0, none⟩)]⟩)] (.node (.node .nil (some (.func (Fn.func 52) ⟨[]⟩ ⟨[]⟩)) (.node .nil (some (.slice (some ⟨2, 0, none⟩) n unk)) .nil)) (some (.func (Fn.func 77) ⟨[]⟩ ⟨[.pointer (some ⟨0, 0, none⟩)]⟩)) (.node (.node .nil (some (.slice none 0 0)) .nil) none .nil)) ms A := by kernel_rfl

theorem kdD (r : Mem) (L : Nat) (e z clock : Nat) (es : List MapEntry) (l l' : List Value) (n : Nat) (s : List (Nat × Value)) (kn : KS) (kx : Nat → KS) (kr : KS) (ms : List Nat) : run (SC r) 51 12 L (rc (rc cSf)) (lvlT (SC r) (tSo n (AR e z clock es l) (AR e z clock es l')) .nil 1 1) none kn kx kr s (TS1 n) ms (AR e z clock es l) =
    bif m_at [.slice (some ⟨2, 0, none⟩) n unk, .func (Fn.func 52) ⟨[]⟩ ⟨[]⟩] [.slice (some ⟨2, 0, none⟩) n unk, .func (Fn.func 52) ⟨[]⟩ ⟨[]⟩] (AW.mk 4 (.node (.node (.node .nil none .nil) (some (AObj.map es clock)) .nil) (some (.cells [Value.map (some 1)] e 0 z)) (.node .nil (some (.cells l 49 2 1)) .nil)) .nil) (AW.mk 4 (.node (.node (.node .nil none .nil) (some (AObj.map es clock)) .nil) (some (.cells [Value.map (some 1)] e 0 z)) (.node .nil (some (.cells l 49 2 1)) .nil)) .nil) then kr [(11, .slice (some ⟨2, 0, none⟩) n unk)] (.node (.node .nil (some (.func (Fn.func 52) ⟨[]⟩ ⟨[]⟩)) (.node .nil (some (.slice (some ⟨2, 0, none⟩) n unk)) .nil)) (some (.func (Fn.func 77) ⟨[]⟩ ⟨[.pointer (some ⟨0, 0, none⟩)]⟩)) (.node (.node .nil (some (.slice (some ⟨2, 0, none⟩) n unk)) .nil) none .nil)) ms (AW.mk 4 (.node (.node (.node .nil none .nil) (some (AObj.map es clock)) .nil) (some (.cells [Value.map (some 1)] e 0 z)) (.node .nil (some (.cells l' 49 2 1)) .nil)) .nil) else .fail 420 := by kernel_rfl

theorem kdE (r : Mem) (s : List (Nat × Value)) (n : Nat) (k : KV) (A : AW) : finK (SC r) 51 (resOf (SC r) 50) k s (TS2 n) [] A =
    k (.slice (some ⟨2, 0, none⟩) n unk) A := by kernel_rfl

theorem kdJ (r : Mem) (A : AW) : callAt (SC r) 51 (lc (rc cSf)) 1 ⟨[(6, seqV)], TS0⟩ A = some (75, [seqV], A) := by kernel_rfl

end Go.Proofs

/- The order of the sets: by their size, then as numbers. -/
namespace Go.Proofs
open Go Go.Ev
set_option linter.unusedVariables false
set_option linter.unusedSimpArgs false

def ones : Nat → Nat → Nat
 | 0, _ => 0
 | n + 1, x => x % 2 + ones n (x / 2)
def popTab : List UInt8 := (List.range 256).map fun i => UInt8.ofNat (ones 8 i)
def m_sz (x : Int) : Int := Int.ofNat (ones 8 (x.toNat / 256) + ones 8 (x.toNat % 256))
def m_cp (x y : Int) : Int := bif decide (x < y) then -1 else bif decide (x > y) then 1 else 0
def m_cf (x y : Int) : Int := bif m_cp (m_sz x) (m_sz y) != 0 then m_cp (m_sz x) (m_sz y) else m_cp x y

def in16 (x : Int) : Bool := decide (0 ≤ x) && decide (x < 65536)
def eSz : Ent := ent (fun args _ => match args with | [.int .u16 x] => in16 x | _ => false) (fun args _ => match args with | [.int .u16 x] => I (m_sz x) | _ => undef)
def eC16 : Ent := ent (fun args _ => match args with | [.int .u16 _, .int .u16 _] => true | _ => false) (fun args _ => match args with | [.int .u16 x, .int .u16 y] => I (m_cp x y) | _ => undef)
def tCf : Tbl := tcons 55 eSz (tcons 56 eC16 (tcons 54 (eI2 (fun _ _ => true) fun x y => I (m_cp x y)) fun _ => none))

theorem pop_get : ∀ i : Fin 256, popTab[i.val]? = some (UInt8.ofNat (ones 8 i.val)) := by decide +kernel
theorem ones_lt : ∀ i : Fin 256, ones 8 i.val ≤ 8 := by decide +kernel

theorem keS (r : Mem) (x : Int) : (lvlT (SC r) (fun _ => none) .nil 2 3).call 55 [.int .u16 x] emptyA fin =
  bif decide (0 ≤ Int.fdiv x (Int.ofNat 256)) then Option.casesOn popTab[Int.toNat (Int.fdiv x (Int.ofNat 256))]? (CR.fail 429) fun val => Option.casesOn popTab[Int.toNat (ibits BinOp.and IntKind.u16 x (Int.ofNat 255))]? (CR.fail 429) fun val_1 => CR.ret (Value.int IntKind.i64 (IntKind.wrap IntKind.i64 (IntKind.wrap IntKind.u8 (Int.ofNat (UInt8.toNat val) + Int.ofNat (UInt8.toNat val_1))))) (AW.mk 0 Tr.nil Tr.nil) else CR.fail 420 := by kernel_rfl

theorem and255 (n : Nat) (h : n < 65536) : ibits BinOp.and IntKind.u16 (n : Int) (Int.ofNat 255) = ((n % 256 : Nat) : Int) := by
 have e : (BitVec.ofInt 16 (n : Int) &&& BitVec.ofInt 16 (Int.ofNat 255)).toNat = n % 256 := by
  rw [BitVec.toNat_and, BitVec.ofInt_natCast, BitVec.toNat_ofNat, Nat.mod_eq_of_lt (by omega)]
  exact Nat.and_two_pow_sub_one_eq_mod n 8
 show IntKind.wrap .u16 ((BitVec.ofInt 16 (n : Int) &&& BitVec.ofInt 16 (Int.ofNat 255)).toNat : Int) = _
 rw [e]
 have : n % 256 < 256 := Nat.mod_lt _ (by omega)
 generalize n % 256 = m at this ⊢
 have : ∀ m : Fin 256, IntKind.wrap .u16 (m.val : Int) = (m.val : Int) := by decide +kernel
 exact this ⟨m, by omega⟩

theorem size_calls (r : Mem) (x : Int) (h0 : 0 ≤ x) (h1 : x < 65536) : GrT Tryz.prog r 55 [.int .u16 x] (I (m_sz x)) := by
 refine GrT.of (SC_ok r) TOk.nil .nil rfl ⟨2, 3, (keS r x).trans ?_⟩
 obtain ⟨n, rfl⟩ := Int.eq_ofNat_of_zero_le h0
 have hn : n < 65536 := by omega
 have e1 : Int.fdiv (n : Int) (Int.ofNat 256) = ((n / 256 : Nat) : Int) := by rw [Int.fdiv_eq_ediv_of_nonneg _ (by decide)]; rfl
 have hd : n / 256 < 256 := by omega
 have hm : n % 256 < 256 := Nat.mod_lt _ (by omega)
 rw [e1, and255 n hn, Int.toNat_natCast, Int.toNat_natCast, pop_get ⟨n / 256, hd⟩, pop_get ⟨n % 256, hm⟩]
 rw [show decide ((0 : Int) ≤ ((n / 256 : Nat) : Int)) = true from decide_eq_true (by omega)]
 simp only [cond_true]
 unfold m_sz
 rw [Int.toNat_natCast]
 have k1 := ones_lt ⟨n / 256, hd⟩
 have k2 := ones_lt ⟨n % 256, hm⟩
 simp only at k1 k2
 generalize ones 8 (n / 256) = a at k1 ⊢
 generalize ones 8 (n % 256) = b at k2 ⊢
 have key : ∀ a b : Fin 9, IntKind.wrap IntKind.i64 (IntKind.wrap IntKind.u8 (Int.ofNat (UInt8.toNat (UInt8.ofNat a.val)) + Int.ofNat (UInt8.toNat (UInt8.ofNat b.val)))) = Int.ofNat (a.val + b.val) := by decide +kernel
 rw [key ⟨a, by omega⟩ ⟨b, by omega⟩]
 rfl

theorem keC (r : Mem) (x y : Int) : (lvlT (SC r) (fun _ => none) .nil 2 3).call 54 [I x, I y] emptyA fin =
    bif x != x then bif y != y then .ret (I (Int.ofNat 0)) (AW.mk 0 .nil .nil) else .ret (I (Int.negSucc 0)) (AW.mk 0 .nil .nil) else bif y != y then .ret (I (Int.ofNat 1)) (AW.mk 0 .nil .nil) else bif decide (x < y) then .ret (I (Int.negSucc 0)) (AW.mk 0 .nil .nil) else bif decide (x > y) then .ret (I (Int.ofNat 1)) (AW.mk 0 .nil .nil) else .ret (I (Int.ofNat 0)) (AW.mk 0 .nil .nil) := by kernel_rfl

theorem keD (r : Mem) (x y : Int) : (lvlT (SC r) (fun _ => none) .nil 2 3).call 56 [.int .u16 x, .int .u16 y] emptyA fin =
    bif x != x then bif y != y then .ret (I (Int.ofNat 0)) (AW.mk 0 .nil .nil) else .ret (I (Int.negSucc 0)) (AW.mk 0 .nil .nil) else bif y != y then .ret (I (Int.ofNat 1)) (AW.mk 0 .nil .nil) else bif decide (x < y) then .ret (I (Int.negSucc 0)) (AW.mk 0 .nil .nil) else bif decide (x > y) then .ret (I (Int.ofNat 1)) (AW.mk 0 .nil .nil) else .ret (I (Int.ofNat 0)) (AW.mk 0 .nil .nil) := by kernel_rfl

theorem cmp_calls (r : Mem) (x y : Int) : GrT Tryz.prog r 54 [I x, I y] (I (m_cp x y)) := by
 refine GrT.of (SC_ok r) TOk.nil .nil rfl ⟨2, 3, ?_⟩
 rw [keC]
 simp only [neF (show x = x from rfl), neF (show y = y from rfl), cond_false, m_cp]
 cases decide (x < y) <;> cases decide (x > y) <;> rfl
theorem cmp16_calls (r : Mem) (x y : Int) : GrT Tryz.prog r 56 [.int .u16 x, .int .u16 y] (I (m_cp x y)) := by
 refine GrT.of (SC_ok r) TOk.nil .nil rfl ⟨2, 3, ?_⟩
 rw [keD]
 simp only [neF (show x = x from rfl), neF (show y = y from rfl), cond_false, m_cp]
 cases decide (x < y) <;> cases decide (x > y) <;> rfl

theorem eSz_ok (r : Mem) : EOk (SC r) 55 eSz := EOk.ent fun args A hg => by
 split at hg
 ·rename_i x
  simp only [in16, Bool.and_eq_true, decide_eq_true_eq] at hg
  exact (size_calls r x hg.1 hg.2).ro rfl A
 ·cases hg
theorem eC16_ok (r : Mem) : EOk (SC r) 56 eC16 := EOk.ent fun args A hg => by
 split at hg
 ·exact (cmp16_calls r _ _).ro rfl A
 ·cases hg
theorem tCf_ok (r : Mem) : TOk (SC r) tCf := ((TOk.nil.cons (eI2_ok fun x y _ => cmp_calls r x y)).cons (eC16_ok r)).cons (eSz_ok r)

theorem keF (r : Mem) (x y : Int) : (lvlT (SC r) tCf .nil 4 3).call 52 [.int .u16 x, .int .u16 y] emptyA fin =
    bif decide (0 ≤ x) && decide (x < 65536) then bif decide (0 ≤ y) && decide (y < 65536) then bif m_cp (m_sz x) (m_sz y) != Int.ofNat 0 then .ret (I (m_cp (m_sz x) (m_sz y))) (AW.mk 0 .nil .nil) else bif m_cp x y != Int.ofNat 0 then .ret (I (m_cp x y)) (AW.mk 0 .nil .nil) else .ret (I (Int.ofNat 0)) (AW.mk 0 .nil .nil) else .fail 420 else .fail 420 := by kernel_rfl

end Go.Proofs

/- From a small world of a box and a map to the caller's: one new row more. -/
namespace Go.Proofs
open Go Go.Ev
set_option linter.unusedVariables false
set_option linter.unusedSimpArgs false

def g2 (γ : Gam) (b m : Nat) : Gam := fun i => match i with | 0 => γ b | 1 => γ m | _ => none

theorem g2_cases {γ : Gam} {b m i : Nat} {g : GI} (h : g2 γ b m i = some g) : (i = 0 ∧ γ b = some g) ∨ (i = 1 ∧ γ m = some g) := by
 unfold g2 at h
 split at h
 ·exact .inl ⟨rfl, h⟩
 ·exact .inr ⟨rfl, h⟩
 ·cases h

theorem ak0_get {e z clock : Nat} {es : List MapEntry} {i : Nat} {o : AObj} (h : (AK0 e z clock es).heap.get i = some o) : (i = 0 ∧ o = .cells [.map (some 1)] e 0 z) ∨ (i = 1 ∧ o = .map es clock) := by
 have : Tr.All (fun i o => (i = 0 ∧ o = AObj.cells [.map (some 1)] e 0 z) ∨ (i = 1 ∧ o = .map es clock)) (AK0 e z clock es).heap id := by
  exact ⟨.inl ⟨rfl, rfl⟩, ⟨.inr ⟨rfl, rfl⟩, trivial, trivial⟩, trivial⟩
 exact this.get h

theorem WRel.pair {γ : Gam} {A : AW} {W : World} (hw : WRel γ A W) {b m e f z clock : Nat} {es : List MapEntry} (hb : A.heap.get b = some (.cells [.map (some m)] e f z)) (hm : A.heap.get m = some (.map es clock))
  (hg : ∀ x ∈ es, gnd x.key = true ∧ gnd x.val = true) : WRel (g2 γ b m) (AK0 e z clock es) W := by
 obtain ⟨gb, hgb, hob⟩ := hw.obj _ _ hb
 obtain ⟨gm, hgm, hom⟩ := hw.obj _ _ hm
 refine ⟨fun i o hi => ?_, fun i g hi => ?_, fun i hi => ?_, fun i j o o' g g' hi hj hgi hgj hbb => ?_, fun i c e' fam sz hi => ?_, fun i c e' fam sz hi => ?_, fun f _ => rfl⟩
 ·rcases ak0_get hi with ⟨rfl, rfl⟩ | ⟨rfl, rfl⟩
  ·refine ⟨gb, hgb, ?_⟩
   cases hob with
   | cells h hf hn hz hc =>
    refine .cells h hf hn hz fun k v hk => ?_
    cases k with
    | zero =>
     cases hk
     obtain ⟨v', h1, h2⟩ := hc 0 _ rfl
     refine ⟨v', h1, ?_⟩
     cases h2 with
     | map hx => exact .map (show g2 γ b m 1 = _ from hx)
    | succ k => cases hk
  ·refine ⟨gm, hgm, ?_⟩
   cases hom with
   | map h he => exact .map h (he.of_gnds hg)
 ·rcases g2_cases hi with ⟨_, h⟩ | ⟨_, h⟩
  ·exact hw.lt _ _ h
  ·exact hw.lt _ _ h
 ·unfold g2
  split
  ·have : (2 : Nat) ≤ 0 := hi
   omega
  ·have : (2 : Nat) ≤ 1 := hi
   omega
  ·rfl
 ·have no : ∀ {g : GI}, gb = g → gm = g → False := fun h1 h2 => by
   have hbb : gb.blk = gm.blk := by rw [h1, h2]
   rcases hw.sep b m _ _ gb gm hb hm hgb hgm hbb with h | ⟨_, _, _, _, _, _, _, _, h⟩
   ·subst h
    rw [hb] at hm
    cases hm
   ·exact nomatch h.1
  have no' : gb.blk = gm.blk → False := fun hbb => by
   rcases hw.sep b m _ _ gb gm hb hm hgb hgm hbb with h | ⟨_, _, _, _, _, _, _, _, h⟩
   ·subst h
    rw [hb] at hm
    cases hm
   ·exact nomatch h.1
  rcases g2_cases hgi with ⟨rfl, h1⟩ | ⟨rfl, h1⟩ <;> rcases g2_cases hgj with ⟨rfl, h2⟩ | ⟨rfl, h2⟩
  ·exact .inl rfl
  ·rw [hgb] at h1; rw [hgm] at h2
   cases h1; cases h2
   exact (no' hbb).elim
  ·rw [hgm] at h1; rw [hgb] at h2
   cases h1; cases h2
   exact (no' hbb.symm).elim
  ·exact .inl rfl
 ·rcases ak0_get hi with ⟨rfl, h⟩ | ⟨rfl, h⟩
  ·cases h
   exact .head _
  ·cases h
 ·rcases ak0_get hi with ⟨rfl, h⟩ | ⟨rfl, h⟩
  ·cases h
   show 0 < 2
   omega
  ·cases h

theorem _root_.Go.Ev.Ro.pair {r : Nat → Nat → Option Value} {γ : Gam} {W : World} (h : Ro r γ W) (b m : Nat) : Ro r (g2 γ b m) W := fun b' k v e => by
 obtain ⟨hno, h2⟩ := h b' k v e
 refine ⟨fun i g hi => ?_, h2⟩
 rcases g2_cases hi with ⟨_, h⟩ | ⟨_, h⟩
 ·exact hno _ _ h
 ·exact hno _ _ h

theorem Ends.pair {γ : Gam} {A : AW} {W : World} (hw : WRel γ A W) {b m e f z clock n eK : Nat} {es : List MapEntry} {l : List Value} (hb : A.heap.get b = some (.cells [.map (some m)] e f z)) (hm : A.heap.get m = some (.map es clock))
  (hf : A.members f = [b]) (hg : ∀ x ∈ es, gnd x.key = true ∧ gnd x.val = true) (hl : ∀ v ∈ l, gnd v = true) {x : Ending} {W' : World} {AR' : AW}
  (h0 : AR'.heap.get 0 = some (.cells [.map (some 1)] e 0 z)) (h1 : AR'.heap.get 1 = some (.map es clock)) (h2 : AR'.heap.get 2 = some (.cells l eK 2 1))
  (h : Go.Ev.Ends (g2 γ b m) W (.slice (some ⟨2, 0, none⟩) n unk) AR' x W') : Go.Ev.Ends γ W (.slice (some ⟨A.next, 0, none⟩) n unk) (A.new (.cells l eK A.next 1)) x W' := by
 obtain ⟨v', γ', rfl, hv, hw', hx⟩ := h
 obtain ⟨gb, hgb, hob⟩ := hw.obj _ _ hb
 obtain ⟨gm, hgm, hom⟩ := hw.obj _ _ hm
 have hb' : γ' 0 = some gb := hx.le 0 gb hgb
 have hm' : γ' 1 = some gm := hx.le 1 gm hgm
 obtain ⟨gr, hgr, hor⟩ := hw'.obj _ _ h2
 have hnew : W.heap.size ≤ gr.blk := by
  rcases hx.new 2 gr hgr with hh | ⟨_, hh | ⟨j, y, hj, hy⟩⟩
  ·cases hh
  ·exact hh
  ·exfalso
   rcases g2_cases hj with ⟨_, hj⟩ | ⟨_, hj⟩
   ·rw [hgb] at hj; cases hj
    rcases hw'.sep 2 0 _ _ gr gb h2 h0 hgr hb' hy.symm with h | ⟨_, _, _, _, _, _, _, q1, q2⟩
    ·cases h
    ·cases q1; exact nomatch q2.1
   ·rw [hgm] at hj; cases hj
    rcases hw'.sep 2 1 _ _ gr gm h2 h1 hgr hm' hy.symm with h | ⟨_, _, _, _, _, _, _, _, q2⟩
    ·cases h
    ·exact nomatch q2.1
 have hkeep : ∀ k, k < W.heap.size → k ≠ gb.blk → k ≠ gm.blk → W'.heap[k]? = W.heap[k]? := fun k hk h1 h2 => by
  refine hx.block k hk fun i g hi hbk => ?_
  rcases g2_cases hi with ⟨_, h⟩ | ⟨_, h⟩
  ·rw [hgb] at h; cases h
   exact h1 hbk.symm
  ·rw [hgm] at h; cases h
   exact h2 hbk.symm
 have hwA : WRel γ A W' := by
  refine ⟨fun i o hi => ?_, fun i g hi => Nat.lt_of_lt_of_le (hw.lt i g hi) hx.size, hw.fresh, hw.sep, hw.mem, hw.famlt, hw.famfresh⟩
  obtain ⟨g, hgi, hr⟩ := hw.obj i o hi
  refine ⟨g, hgi, ?_⟩
  have onB : i = b → ORel γ W' g o := fun h => by
   subst h
   rw [hb] at hi; rw [hgb] at hgi
   cases hi; cases hgi
   obtain ⟨g', hg', ho'⟩ := hw'.obj _ _ h0
   rw [hb'] at hg'; cases hg'
   cases ho' with
   | cells q1 q2 q3 q4 q5 =>
    refine .cells q1 q2 q3 q4 fun k v hk => ?_
    cases k with
    | zero =>
     cases hk
     obtain ⟨u, k1, k2⟩ := q5 0 _ rfl
     refine ⟨u, k1, ?_⟩
     cases k2 with
     | map hy => rw [hm'] at hy; cases hy; exact .map hgm
    | succ k => cases hk
  have onM : i = m → ORel γ W' g o := fun h => by
   subst h
   rw [hm] at hi; rw [hgm] at hgi
   cases hi; cases hgi
   obtain ⟨g', hg', ho'⟩ := hw'.obj _ _ h1
   rw [hm'] at hg'; cases hg'
   cases ho' with
   | map q1 q2 => exact .map q1 (q2.of_gnds hg)
  by_cases c1 : g.blk = gb.blk
  ·rcases hw.sep i b _ _ g gb hi hb hgi hgb c1 with h | ⟨c, e1, c', e2, fam, s1, s2, q1, q2⟩
   ·exact onB h
   ·obtain ⟨q2, _⟩ := q2
    cases q2
    subst q1
    have := hw.mem i _ _ _ _ hi
    rw [hf] at this
    exact onB (List.mem_singleton.1 this)
  ·by_cases c2 : g.blk = gm.blk
   ·rcases hw.sep i m _ _ g gm hi hm hgi hgm c2 with h | ⟨_, _, _, _, _, _, _, _, q2⟩
    ·exact onM h
    ·exact nomatch q2.1
   ·exact hr.mono γ.le_refl (hkeep _ (hw.lt _ _ hgi) c1 c2)
 have hun : ∀ i g', γ i = some g' → g'.blk ≠ gr.blk := fun i g' hi hbk => by
  have := hw.lt i g' hi
  omega
 have ho' : ORel γ W' gr (.cells l eK A.next 1) := by
  cases hor with
  | cells q1 q2 q3 q4 q5 =>
   refine .cells q1 q2 q3 q4 fun k v hk => ?_
   obtain ⟨u, k1, k2⟩ := q5 k v hk
   have hgv := hl v (List.mem_of_getElem? hk)
   exact ⟨u, k1, by rw [k2.eq_of_gnd hgv]; exact VRel.of_gnd _ v hgv⟩
 refine ⟨v', γ.set A.next gr, rfl, ?_, hwA.add ho' hun, ⟨Gam.le_set _ (hw.fresh _ (Nat.le_refl _)), fun i y hi => ?_, hx.size, fun k hk hno => ?_, hx.os, hx.tape, hx.output, hx.drawn⟩⟩
 ·generalize hc : unk = c0 at hv
  cases hv with
  | slice k l0 c c' hg1 hc1 =>
   subst hc
   rw [hgr] at hg1; cases hg1
   exact .slice _ _ _ _ (Gam.set_same _ _ _) hc1
  | sliceE => exact absurd hc (by decide)
 ·rcases Gam.set_cases hi with ⟨rfl, rfl⟩ | ⟨_, hi⟩
  ·exact .inr ⟨hw.fresh _ (Nat.le_refl _), .inl hnew⟩
  ·exact .inl hi
 ·exact hkeep k hk (fun h => hno b gb hgb h.symm) (fun h => hno m gm hgm h.symm)

end Go.Proofs

/- slices.SortFunc, by the library's contract, where the comparing function's answers are known by a run: the caller's own row, of one cell each, is sorted in place. -/
namespace Go.Proofs
open Go Go.Ev Go.Shelf Go.RowKit Go.Lib Go.Sort
set_option linter.unusedVariables false
set_option linter.unusedSimpArgs false

theorem mapBlock_setB {W : World} {b : Nat} {cc : Array Value} {e : TypeId} {fr : Nat × Nat} (hb : W.heap[b]? = some (.cells cc e fr)) (f : Array Value → Array Value) : mapBlock W b f = setB W b (.cells (f cc) e fr) := by
 unfold mapBlock setB
 congr 1
 apply Array.ext_getElem?
 intro k
 simp only [Array.getElem?_modify, Array.getElem?_setIfInBounds]
 by_cases hk : b = k
 ·subst hk
  have hlt : b < W.heap.size := by
   rcases Nat.lt_or_ge b W.heap.size with h | h
   ·exact h
   ·rw [Array.getElem?_eq_none h] at hb; cases hb
  rw [if_pos rfl, if_pos rfl, if_pos hlt, hb]
  rfl
 ·rw [if_neg hk, if_neg hk]

theorem WRel.ahead {γ : Gam} {A : AW} {W : World} (h : WRel γ A W) (n : Nat) : WRel γ A (Sort.ahead W n) :=
 ⟨fun i o hi => let ⟨g, hg, hr⟩ := h.obj i o hi; ⟨g, hg, hr.mono γ.le_refl rfl⟩, h.lt, h.fresh, h.sep, h.mem, h.famlt, h.famfresh⟩
theorem Ext.ahead (γ : Gam) (W : World) (n : Nat) : Ext γ W γ (Sort.ahead W n) := ⟨γ.le_refl, fun _ _ h => .inl h, Nat.le_refl _, fun _ _ _ => rfl, rfl, rfl, rfl, Nat.le_add_right _ _⟩
theorem below_grow (W : World) (os : Array Obj) : BelowD W.heap.size W (Sort.grow W os) := by
 refine ⟨⟨rfl, rfl, rfl, by simp [Sort.grow], fun k hk => ?_⟩, Nat.le_refl _⟩
 show (W.heap ++ os)[k]? = _
 rw [Array.getElem?_append_left hk]

theorem _root_.Go.Ev.GrT.callsD {P : Program} {r : Mem} {f : Nat} {args : List Value} {v : Value} (h : GrT P r f args v) {W : World} {args' : Array Value} (hR : Ro r noG W) (ha : VsRel noG args args'.toList) :
  Calls P f args' W fun e W' => e = .returned v ∧ BelowD W.heap.size W W' :=
 callsIn_wide.1 (h.2 Fence.wide ⟨fun _ => trivial, rfl, rfl⟩ 0 W args' hR ha)

theorem _root_.Go.Ev.BelowD.grow {W W' : World} (h : BelowD W.heap.size W W') : ∃ q os', W' = Sort.grow (W.drewN q) os' := by
 refine ⟨W'.drawn - W.drawn, W'.heap.extract W.heap.size W'.heap.size, ?_⟩
 obtain ⟨⟨h1, h2, h3, h4, h5⟩, h6⟩ := h
 obtain ⟨heap, tape, drawn, os, output⟩ := W'
 obtain ⟨heap0, tape0, drawn0, os0, output0⟩ := W
 simp only at h1 h2 h3 h4 h5 h6
 subst h1 h2 h3
 simp only [Sort.grow, World.drewN, World.mk.injEq, true_and, and_true]
 refine ⟨?_, by omega⟩
 apply Array.ext_getElem?
 intro k
 by_cases hk : k < heap0.size
 ·rw [Array.getElem?_append_left hk, h5 k hk]
 ·rw [Array.getElem?_append_right (by omega), Array.getElem?_extract]
  by_cases hk2 : k < heap.size
  ·rw [if_pos (by omega)]
   congr 1
   omega
  ·rw [if_neg (by omega), Array.getElem?_eq_none (by omega)]

theorem cells_enc {α : Type} {enc : α → Value} (hg : ∀ x, gnd (enc x) = true) {γ : Gam} {o : Nat} {zs : List α} {cc : Array Value} (h : CellsRel γ o (zs.map enc) cc) (j : Nat) (hj : j < zs.length) : cc[o + j]? = some (enc zs[j]) := by
 obtain ⟨v', h1, h2⟩ := h j (enc zs[j]) (by simp [hj])
 rw [h1, h2.eq_of_gnd (hg _)]

theorem sortWorld_heap {α : Type} [Inhabited α] {enc : α → Value} {W : World} {blk off m : Nat} {dk : Array α} {os : Array Obj} {k : Nat} (hk : k < W.heap.size) (hne : k ≠ blk) : (sortWorld enc W blk off m dk os).heap[k]? = W.heap[k]? := by
 unfold sortWorld Sort.grow putRow mapBlock
 show ((Sort.ahead W m).heap.modify blk _ ++ os)[k]? = _
 rw [Array.getElem?_append_left (by simpa [Sort.ahead] using hk), Array.getElem?_modify, if_neg (fun e => hne e.symm)]
 rfl

theorem sort_genC {P : Program} {ρ : Shelf.Ren} (L : SlLaysF.n6 P ρ) {α : Type} [Inhabited α] (enc : α → Value) (h1 : OneCell enc) (hgnd : ∀ x, gnd (enc x) = true) (g0 : Nat) (capt : List Value) (cf : α → α → Int) (hO : SWO (ltOf cf))
  (eg : ∀ args w, (callFunc g0 args).run P w = .ok (.enter g0 args) w)
  {C : Cfg} (hP : C.P = P) {A0 : AW} {i cap : Nat} {e : TypeId} {fam z : Nat} {zs R : List α} (hi : A0.heap.get i = some (.cells (zs.map enc) e fam z)) (hsz : zs.length < 4611686018427387904) (hcap : cap ≠ unkE)
  (hcmp : ∀ γ W capt' g, WRel γ A0 W → Ro C.ro γ W → VsRel γ capt capt' → γ i = some g → CmpLays1 P g0 ⟨capt'⟩ enc cf g.blk g.off zs.length W)
  (hR : ∀ d : List α, d.Perm zs → d.Pairwise (fun x y => ltOf cf y x = false) → d = R) :
  ∀ F, Wide F → ∀ k γ W args', WRel γ A0 W → Ro C.ro γ W → VsRel γ [.slice (some ⟨i, 0, none⟩) zs.length cap, .func (.func g0) ⟨[]⟩ ⟨capt⟩] (Array.toList args') →
   CallsIn F k C.P (ρ.f 6) args' W (Go.Ev.Ends γ W (.tuple ⟨[]⟩) (A0.only fam i (.cells (R.map enc) e fam z))) := by
 intro F hF k γ W args' hw hro ha
 subst hP
 obtain ⟨g, hg, ho⟩ := hw.obj _ _ hi
 cases ho with
 | cells hb hf hn hz hc =>
 rename_i cc fr
 obtain ⟨l'⟩ := args'
 cases ha with
 | cons h1' h2 =>
 cases h2 with
 | cons h2 h3 =>
 cases h3
 cases h2 with
 | func q1 q2 q3 =>
 cases q1
 rename_i a1 a2
 obtain ⟨a1⟩ := a1
 obtain ⟨a2⟩ := a2
 cases q2
 generalize hm : zs.length = m at h1'
 cases h1' with
 | sliceE => exact absurd rfl hcap
 | slice _ _ _ c' hg' _ =>
 subst hm
 rw [hg] at hg'
 cases hg'
 have hlt := hw.lt _ _ hg
 have hcz := cells_enc hgnd hc
 have hH : Holds enc W g.blk g.off zs.toArray := fun j hj => by
  have hj' : j < zs.length := by simpa using hj
  have h0 := hcz j hj'
  have hjc : g.off + j < cc.size := by
   rcases Nat.lt_or_ge (g.off + j) cc.size with h | h
   ·exact h
   ·rw [Array.getElem?_eq_none h] at h0; cases h0
  refine ⟨?_, ?_⟩
  ·unfold World.cell?
   rw [hb]
   simp only [Option.isSome_none, Bool.false_eq_true, if_false, h0]
   rw [getElem!_pos _ j (by simpa using hj')]
   simp
  ·unfold World.frozen?
   rw [hb]
   have := hf (g.off + j) hjc
   simp only [Bool.and_eq_false_iff, decide_eq_false_iff_not]
   omega
 have hcr : CmpLays1 C.P g0 ⟨a2⟩ enc cf g.blk g.off zs.toArray.size W := by
  rw [show zs.toArray.size = zs.length by simp]
  exact hcmp γ W a2 g hw hro q3 hg
 have hcon := Any.slices_SortFunc L enc h1 cf hO g0 ⟨a2⟩ g.blk g.off c' zs.toArray W eg hcr hH hlt (by simpa using hsz)
 rw [show zs.toArray.size = zs.length by simp] at hcon
 refine (hF.calls hcon).mono fun e' W' he => ?_
 obtain ⟨rfl, d', n, os, hp, hs, rfl⟩ := he
 have hds : d'.size = zs.length := by simpa using hp.1
 have hd : d'.toList = R := by
  refine hR _ ?_ ?_
  ·have := hp.2.2
   rw [show d'.extract 0 zs.length = d' by rw [← hds]; simp] at this
   simpa using this
  ·rw [List.pairwise_iff_getElem]
   intro a b h1 h2 h3
   have := hs a b (Nat.zero_le _) h3 (by rw [← hds]; simpa using h2)
   rw [getElem!_pos _ b (by simpa using h2), getElem!_pos _ a (by simpa using h1)] at this
   simpa using this
 have hw1 := WRel.ahead hw n
 have hb1 : (Sort.ahead W n).heap[g.blk]? = some (.cells cc e fr) := hb
 have e1 : putRow enc (Sort.ahead W n) g.blk g.off d' = setB (Sort.ahead W n) g.blk (.cells (putCells enc g.off d' cc) e fr) := mapBlock_setB hb1 _
 have hps : (putCells enc g.off d' cc).size = cc.size := by simp [putCells]
 have hor : ORel γ (setB (Sort.ahead W n) g.blk (.cells (putCells enc g.off d' cc) e fr)) g (.cells (R.map enc) e fam z) := by
  refine .cells (setB_same _ hlt) (by rw [hps]; exact hf) (by rw [hps]; exact hn) hz fun k v hk => ?_
  rw [List.getElem?_map] at hk
  cases hr : R[k]? with
  | none => rw [hr] at hk; cases hk
  | some x =>
   rw [hr] at hk
   cases hk
   have hkR : k < R.length := by
    rcases Nat.lt_or_ge k R.length with h | h
    ·exact h
    ·rw [List.getElem?_eq_none h] at hr; cases hr
   have hkd : k < d'.size := by rw [← hd] at hkR; simpa using hkR
   have hkz : k < zs.length := by omega
   refine ⟨enc x, ?_, VRel.of_gnd _ _ (hgnd x)⟩
   have h0 := hcz k hkz
   simp only [putCells, Array.getElem?_mapIdx, h0, Option.map_some]
   rw [if_pos ⟨by omega, by omega⟩, show g.off + k - g.off = k by omega]
   rw [getElem!_pos _ k hkd]
   have : d'.toList[k]? = some x := by rw [hd]; exact hr
   rw [show d'[k] = x by simpa [hkd] using this]
 have hw2 := WRel.setRow hw1 hi hg hor
 have hx2 : Ext γ W γ (setB (Sort.ahead W n) g.blk (.cells (putCells enc g.off d' cc) e fr)) := (Ext.ahead γ W n).trans (Ext.setB _ hg)
 have hbl := below_grow (setB (Sort.ahead W n) g.blk (.cells (putCells enc g.off d' cc) e fr)) os
 obtain ⟨hw3, hx3⟩ := WRel.below hw2 hbl
 refine ⟨.tuple #[], γ, rfl, .tuple .nil, ?_, ?_⟩
 ·unfold sortWorld
  rw [e1]
  exact hw3
 ·unfold sortWorld
  rw [e1]
  exact hx2.trans hx3

theorem sort_gen {P : Program} {ρ : Shelf.Ren} (L : SlLaysF.n6 P ρ) {α : Type} [Inhabited α] (enc : α → Value) (h1 : OneCell enc) (hgnd : ∀ x, gnd (enc x) = true) (g0 : Nat) (cf : α → α → Int) (hO : SWO (ltOf cf))
  (eg : ∀ args w, (callFunc g0 args).run P w = .ok (.enter g0 args) w)
  (hcmp : ∀ x y, GrT P (fun _ _ => none) g0 [enc x, enc y] (.int .i64 (cf x y)))
  {C : Cfg} (hP : C.P = P) {A0 : AW} {i cap : Nat} {e : TypeId} {fam z : Nat} {zs R : List α} (hi : A0.heap.get i = some (.cells (zs.map enc) e fam z)) (hsz : zs.length < 4611686018427387904) (hcap : cap ≠ unkE)
  (hR : ∀ d : List α, d.Perm zs → d.Pairwise (fun x y => ltOf cf y x = false) → d = R) :
  ∀ F, Wide F → ∀ k γ W args', WRel γ A0 W → Ro C.ro γ W → VsRel γ [.slice (some ⟨i, 0, none⟩) zs.length cap, .func (.func g0) #[] #[]] (Array.toList args') →
   CallsIn F k C.P (ρ.f 6) args' W (Go.Ev.Ends γ W (.tuple ⟨[]⟩) (A0.only fam i (.cells (R.map enc) e fam z))) :=
 sort_genC L enc h1 hgnd g0 [] cf hO eg hP hi hsz hcap (fun γ W capt' g _ _ hc _ => by
  cases hc
  exact fun _ _ _ _ x y =>
  (GrT.callsD (hcmp x y) (args' := #[enc x, enc y] ++ #[]) Ro.nought (by simpa using VsRel.of_gnds noG [enc x, enc y] (by simp [gnds, hgnd]))).mono fun _ _ ⟨he, hb⟩ => ⟨he, hb.grow⟩) hR

end Go.Proofs

/- The sort of this program, laid: the numbers of the functions and types. -/
set_option linter.unusedVariables false
set_option linter.unusedSimpArgs false
namespace Go.Proofs
open Go Go.Shelf

noncomputable def nameF (n : Nat) : String := match Tryz.prog.funcs[n]? with
 | some f => f.name
 | none => ""
def Tryz.sortK_ren : Shelf.Ren where
 f := fun x => match x with
  | 6 => 76
  | 15 => 92
  | 14 => 91
  | 28 => 102
  | 29 => 103
  | 20 => 94
  | 21 => 95
  | 22 => 96
  | 23 => 97
  | 24 => 98
  | 25 => 99
  | 26 => 100
  | 27 => 101
  | 46 => 112
  | 47 => 113
  | 48 => 114
  | 49 => 115
  | 50 => 116
  | 57 => 120
  | n => n
 t := fun x => match x with
  | 22 => 61
  | 24 => 49
  | 25 => 88
  | 3 => 3
  | 39 => 45
  | 0 => 0
  | 53 => 127
  | 55 => 139
  | 4 => 4
  | 46 => 131
  | 45 => 130
  | 50 => 135
  | 5 => 5
  | 9 => 9
  | 66 => 145
  | 70 => 149
  | 76 => 153
  | 77 => 154
  | n => n
 g := fun x => x

theorem Tryz.sortK : SlLaysF.n6 Tryz.prog Tryz.sortK_ren where
 mixed := by kernel_rfl
 f6 := ⟨nameF 76, of_decide_eq_true (by kernel_rfl), Tryz.func76.trans (by kernel_rfl)⟩
 f14 := ⟨nameF 91, of_decide_eq_true (by kernel_rfl), Tryz.func91.trans (by kernel_rfl)⟩
 f15 := Tryz.func92.trans (by kernel_rfl)
 f20 := ⟨nameF 94, of_decide_eq_true (by kernel_rfl), Tryz.func94.trans (by kernel_rfl)⟩
 f21 := ⟨nameF 95, of_decide_eq_true (by kernel_rfl), Tryz.func95.trans (by kernel_rfl)⟩
 f22 := ⟨nameF 96, of_decide_eq_true (by kernel_rfl), Tryz.func96.trans (by kernel_rfl)⟩
 f23 := ⟨nameF 97, of_decide_eq_true (by kernel_rfl), Tryz.func97.trans (by kernel_rfl)⟩
 f24 := ⟨nameF 98, of_decide_eq_true (by kernel_rfl), Tryz.func98.trans (by kernel_rfl)⟩
 f25 := ⟨nameF 99, of_decide_eq_true (by kernel_rfl), Tryz.func99.trans (by kernel_rfl)⟩
 f26 := ⟨nameF 100, of_decide_eq_true (by kernel_rfl), Tryz.func100.trans (by kernel_rfl)⟩
 f27 := ⟨nameF 101, of_decide_eq_true (by kernel_rfl), Tryz.func101.trans (by kernel_rfl)⟩
 f28 := Tryz.func102.trans (by kernel_rfl)
 f29 := Tryz.func103.trans (by kernel_rfl)
 f46 := ⟨nameF 112, of_decide_eq_true (by kernel_rfl), Tryz.func112.trans (by kernel_rfl)⟩
 f47 := Tryz.func113.trans (by kernel_rfl)
 f48 := Tryz.func114.trans (by kernel_rfl)
 f49 := ⟨nameF 115, of_decide_eq_true (by kernel_rfl), Tryz.func115.trans (by kernel_rfl)⟩
 f50 := ⟨nameF 116, of_decide_eq_true (by kernel_rfl), Tryz.func116.trans (by kernel_rfl)⟩
 f57 := ⟨nameF 120, of_decide_eq_true (by kernel_rfl), Tryz.func120.trans (by kernel_rfl)⟩
 t0 := Tryz.underlying0
 a0 := Tryz.isAgg0
 z0 := Tryz.sizeOf0
 v0 := Tryz.zeroValue0
 t3 := Tryz.underlying3
 a3 := Tryz.isAgg3
 z3 := Tryz.sizeOf3
 v3 := Tryz.zeroValue3
 t4 := Tryz.underlying4
 a4 := Tryz.isAgg4
 z4 := Tryz.sizeOf4
 v4 := Tryz.zeroValue4
 t5 := Tryz.underlying5
 a5 := Tryz.isAgg5
 z5 := Tryz.sizeOf5
 v5 := Tryz.zeroValue5
 t9 := Tryz.underlying9
 a9 := Tryz.isAgg9
 z9 := Tryz.sizeOf9
 v9 := Tryz.zeroValue9
 t22 := Tryz.underlying61
 a22 := Tryz.isAgg61
 z22 := Tryz.sizeOf61
 v22 := Tryz.zeroValue61
 a24 := Tryz.isAgg49
 z24 := Tryz.sizeOf49
 t25 := Tryz.underlying88
 a25 := Tryz.isAgg88
 z25 := Tryz.sizeOf88
 v25 := Tryz.zeroValue88
 t39 := Tryz.underlying45
 a39 := Tryz.isAgg45
 z39 := Tryz.sizeOf45
 v39 := Tryz.zeroValue45
 t45 := Tryz.underlying130
 a45 := Tryz.isAgg130
 z45 := Tryz.sizeOf130
 v45 := Tryz.zeroValue130
 t46 := Tryz.underlying131
 a46 := Tryz.isAgg131
 z46 := Tryz.sizeOf131
 v46 := Tryz.zeroValue131
 t50 := Tryz.underlying135
 a50 := Tryz.isAgg135
 z50 := Tryz.sizeOf135
 v50 := Tryz.zeroValue135
 t53 := Tryz.underlying127
 a53 := Tryz.isAgg127
 z53 := Tryz.sizeOf127
 v53 := Tryz.zeroValue127
 t55 := Tryz.underlying139
 a55 := Tryz.isAgg139
 z55 := Tryz.sizeOf139
 v55 := Tryz.zeroValue139
 t66 := Tryz.underlying145
 a66 := Tryz.isAgg145
 z66 := Tryz.sizeOf145
 v66 := Tryz.zeroValue145
 t70 := Tryz.underlying149
 a70 := Tryz.isAgg149
 z70 := Tryz.sizeOf149
 v70 := Tryz.zeroValue149
 t76 := Tryz.underlying153
 a76 := Tryz.isAgg153
 z76 := Tryz.sizeOf153
 v76 := Tryz.zeroValue153
 t77 := Tryz.underlying154
 a77 := Tryz.isAgg154
 z77 := Tryz.sizeOf154
 v77 := Tryz.zeroValue154

end Go.Proofs

/- slices.SortedFunc over maps.Keys: the keys in their order, as an entry of a table. -/
namespace Go.Proofs
open Go Go.Ev Go.Shelf Go.Lib Go.Sort
set_option linter.unusedVariables false
set_option linter.unusedSimpArgs false
set_option maxRecDepth 100000

instance : Inhabited K16 := ⟨⟨0, by decide⟩⟩
def encK (x : K16) : Value := .int .u16 x.1
def cfK (x y : K16) : Int := m_cf x.1 y.1

theorem cf_calls (r : Mem) (x y : K16) : GrT Tryz.prog r 52 [encK x, encK y] (I (cfK x y)) := by
 refine GrT.of (SC_ok r) (tCf_ok r) .nil rfl ⟨4, 3, (keF r x.1 y.1).trans ?_⟩
 obtain ⟨x, h1, h2⟩ := x
 obtain ⟨y, h3, h4⟩ := y
 simp only [dT h1, dT h2, dT h3, dT h4, Bool.and_self, cond_true]
 unfold cfK m_cf
 simp only
 rw [show (Int.ofNat 0 : Int) = 0 from rfl]
 cases m_cp (m_sz x) (m_sz y) != 0
 ·simp only [cond_false]
  cases h : m_cp x y != 0
  ·simp only [cond_false]
   have : m_cp x y = 0 := by simpa using h
   rw [this]
   rfl
  ·rfl
 ·rfl

theorem cp_neg (x y : Int) : m_cp x y < 0 ↔ x < y := by
 unfold m_cp
 by_cases h : x < y
 ·simp [h]
 ·by_cases h2 : x > y <;> simp [h, h2]
theorem cp_zero (x y : Int) : (m_cp x y != 0) = false ↔ x = y := by
 unfold m_cp
 by_cases h : x < y
 ·simp [h]; omega
 ·by_cases h2 : x > y
  ·simp [h, h2]; omega
  ·simp [h, h2]; omega
theorem ltK (x y : K16) : ltOf cfK x y = decide (m_sz x.1 < m_sz y.1 ∨ (m_sz x.1 = m_sz y.1 ∧ x.1 < y.1)) := by
 unfold ltOf cfK m_cf
 cases h : m_cp (m_sz x.1) (m_sz y.1) != 0
 ·have := (cp_zero _ _).1 h
  simp only [cond_false, cp_neg, this]
  simp
 ·have : m_sz x.1 ≠ m_sz y.1 := fun e => by rw [(cp_zero _ _).2 e] at h; cases h
  simp only [cond_true, cp_neg]
  simp [this]
theorem swoK : SWO (ltOf cfK) where
 irrefl x := by rw [ltK]; simp
 trans x y z h1 h2 := by rw [ltK] at *; simp only [decide_eq_true_eq] at *; omega
 ntrans x y z h1 h2 := by rw [ltK] at *; simp only [decide_eq_false_iff_not] at *; omega
theorem totK (x y : K16) (h1 : ltOf cfK x y = false) (h2 : ltOf cfK y x = false) : x = y := by
 rw [ltK] at *
 simp only [decide_eq_false_iff_not] at *
 apply Subtype.ext
 omega

def insZ (x : Int) : List Int → List Int
 | [] => [x]
 | y :: l => bif decide (m_cf x y < 0) then x :: y :: l else y :: insZ x l
def sortZ : List Int → List Int
 | [] => []
 | x :: l => insZ x (sortZ l)
def insK (x : K16) : List K16 → List K16
 | [] => [x]
 | y :: l => bif ltOf cfK x y then x :: y :: l else y :: insK x l
def sortK : List K16 → List K16
 | [] => []
 | x :: l => insK x (sortK l)
theorem insK_val (x : K16) (l : List K16) : (insK x l).map (·.1) = insZ x.1 (l.map (·.1)) := by
 induction l with
 | nil => rfl
 | cons y l ih =>
  simp only [insK, List.map_cons, insZ]
  rw [show decide (m_cf x.1 y.1 < 0) = ltOf cfK x y from rfl]
  cases ltOf cfK x y
  ·simp only [cond_false, List.map_cons, ih]
  ·rfl
theorem sortK_val (l : List K16) : (sortK l).map (·.1) = sortZ (l.map (·.1)) := by
 induction l with
 | nil => rfl
 | cons x l ih => simp only [sortK, List.map_cons, sortZ, insK_val, ih]
theorem insK_perm (x : K16) (l : List K16) : (insK x l).Perm (x :: l) := by
 induction l with
 | nil => exact .refl _
 | cons y l ih =>
  simp only [insK]
  cases ltOf cfK x y
  ·exact (List.Perm.cons y ih).trans (.swap ..)
  ·exact .refl _
theorem sortK_perm (l : List K16) : (sortK l).Perm l := by
 induction l with
 | nil => exact .refl _
 | cons x l ih => exact (insK_perm x _).trans (.cons x ih)
theorem insK_sorted (x : K16) {l : List K16} (h : l.Pairwise fun a b => ltOf cfK b a = false) : (insK x l).Pairwise fun a b => ltOf cfK b a = false := by
 induction l with
 | nil => simp [insK]
 | cons y l ih =>
  simp only [insK]
  rw [List.pairwise_cons] at h
  cases hc : ltOf cfK x y with
  | true =>
   simp only [cond_true]
   have hyx : ltOf cfK y x = false := by
    rw [ltK] at *
    simp only [decide_eq_true_eq, decide_eq_false_iff_not] at *
    omega
   refine List.pairwise_cons.2 ⟨fun b hb => ?_, List.pairwise_cons.2 h⟩
   rcases List.mem_cons.1 hb with rfl | hb
   ·exact hyx
   ·have := h.1 b hb
    rw [ltK] at *
    simp only [decide_eq_true_eq, decide_eq_false_iff_not] at *
    omega
  | false =>
   simp only [cond_false]
   refine List.pairwise_cons.2 ⟨fun b hb => ?_, ih h.2⟩
   rcases List.mem_cons.1 ((insK_perm x l).mem_iff.1 hb) with rfl | hb
   ·exact hc
   ·exact h.1 b hb
theorem sortK_sorted (l : List K16) : (sortK l).Pairwise fun a b => ltOf cfK b a = false := by
 induction l with
 | nil => exact .nil
 | cons x l ih => exact insK_sorted x ih
theorem sortK_one {d l : List K16} (hp : d.Perm l) (hs : d.Pairwise fun a b => ltOf cfK b a = false) : d = sortK l :=
 (hp.trans (sortK_perm l).symm).eq_of_pairwise (fun a b _ _ h1 h2 => totK a b h2 h1) hs (sortK_sorted l)

theorem sort_entry (r : Mem) {A0 : AW} {i : Nat} {e : TypeId} {fam z : Nat} {zs l : List K16} (hi : A0.heap.get i = some (.cells (zs.map encK) e fam z)) (hsz : zs.length < 1000000) (hl : zs.Perm l) :
  EOk (SC r) 76 (entAt [.slice (some ⟨i, 0, none⟩) zs.length unk, cmpV] A0 (.tuple ⟨[]⟩) (A0.only fam i (.cells ((sortK l).map encK) e fam z))) := by
 refine entAt_ok fun F hF k γ W args' hw hR ha => ?_
 exact sort_gen Tryz.sortK encK (fun _ => rfl) (fun _ => rfl) 52 cfK swoK (fun args w => callFunc_ok (SC_ok r) (by kernel_rfl) args w) (cf_calls _) (C := SC r) rfl hi (by omega) (by decide) (fun d hp hs => sortK_one (hp.trans hl) hs) F hF k γ W args' hw hR ha

theorem rowK_enc (vis : List KT) : rowK vis = (vis.map (·.1)).map encK := by simp [rowK, encK]

theorem sorted_S {r : Mem} {e z clock : Nat} {q : List KT} (hq : KOk q clock) (hne : q ≠ []) : SOk (SC r) 50 [seqV, cmpV] (AK0 e z clock (q.map mkE)) fun v A' => v = .slice (some ⟨2, 0, none⟩) q.length unk ∧ A' = AR e z clock (q.map mkE) ((sortK (q.map (·.1))).map encK) := by
 obtain ⟨fn, h1, h2, h3, h4⟩ := fn_of (C := SC r) (f := 50) (by kernel_rfl)
 have hn : fn.ntmps = 12 := h3.trans (by kernel_rfl)
 rw [bodySC] at h2
 refine call_reachS (SC_ok r) h1 h2 51 (by rw [hn]; rfl) fun γ W F k hw hF hro => ?_
 rw [hn, h4]
 show Go.Ev.Reach (SC r) 51 12 F k γ W cSf _ _
 rw [show cSf = Code.seq (lc cSf) (.seq (lc (rc cSf)) (rc (rc cSf))) from by kernel_rfl]
 refine Go.Ev.Reach.seq (Go.Ev.Reach.seg (SC_ok r) TOk.nil (tm := .nil) (L := 1) (L' := 1) (d := 1) hF hro ((kdA ..).trans (qn_ok ?_)))
 refine Go.Ev.Reach.seq (Go.Ev.Reach.callP (SC_ok r) hF TOk.nil (tm := .nil) (L := 0) (d := 0) 1 ((kdB ..).trans (qn_ok rfl)) (kdJ ..) (collect_S (e := e) (z := z) hq hne) fun v A' ⟨vis, hv, h1, h2⟩ => ?_)
 subst h1 h2
 refine (kdC ..).trans (qn_ok ?_)
 have hlen : vis.length = q.length := hv.length_eq
 have hent := sort_entry r (A0 := AR e z clock (q.map mkE) (rowK vis)) (i := 2) (e := 49) (fam := 2) (z := 1) (zs := vis.map (·.1)) (l := q.map (·.1)) (by rw [← rowK_enc]; kernel_rfl) (by rw [List.length_map, hlen]; exact hq.few) (hv.map _)
 rw [List.length_map] at hent
 have hA1 : (AR e z clock (q.map mkE) (rowK vis)).only 2 2 (.cells ((sortK (q.map (·.1))).map encK) 49 2 1) = AR e z clock (q.map mkE) ((sortK (q.map (·.1))).map encK) := by kernel_rfl
 refine Go.Ev.Reach.seg (SC_ok r) (t := tSo vis.length (AR e z clock (q.map mkE) (rowK vis)) (AR e z clock (q.map mkE) ((sortK (q.map (·.1))).map encK))) (TOk.nil.cons (hA1 ▸ hent)) (tm := .nil) (L := 1) (L' := 1) (d := 1) hF hro ((kdD ..).trans ?_)
 rw [at_rfl, cond_true]
 refine qn_ok ⟨.inr rfl, _, slV vis.length, _, Ren.refl _, ?_, by rw [hlen], rfl⟩
 rw [← finK_finish]
 exact kdE ..

end Go.Proofs

/- slices.SortedFunc over maps.Keys, as an entry in any world. -/
namespace Go.Proofs
open Go Go.Ev
set_option linter.unusedVariables false
set_option linter.unusedSimpArgs false

def sfArgs (args : List Value) (A : AW) : Option (List MapEntry × Nat) := match args with
 | [.func (.func f) ⟨[]⟩ ⟨[.pointer (some ⟨b, 0, none⟩)]⟩, .func (.func g) ⟨[]⟩ ⟨[]⟩] => match Nat.beq f 77 && Nat.beq g 52, A.heap.get b with
  | true, some (.cells [.map (some m)] _ fam _) => match A.members fam with
   | [b'] => match Nat.beq b' b, A.heap.get m with
    | true, some (.map es clock) => some (es, clock)
    | _, _ => none
   | _ => none
  | _, _ => none
 | _ => none

def keyZ (e : MapEntry) : Int := match e.key with
 | .int .u16 x => x
 | _ => 0
def okE (clock : Nat) (e : MapEntry) : Bool := match e.key, e.val with
 | .int .u16 x, .bool _ => decide (0 ≤ x) && decide (x < 65536) && Nat.blt e.born clock
 | _, _ => false
def freshB (n : Nat) : List MapEntry → Bool
 | [] => true
 | e :: l => (!Nat.beq e.born n) && freshB n l
def okEs (clock : Nat) : List MapEntry → Bool
 | [] => true
 | e :: l => okE clock e && freshB e.born l && okEs clock l

theorem okE_of {clock : Nat} {e : MapEntry} (h : okE clock e = true) : ∃ t : KT, e = mkE t ∧ t.2.2 < clock := by
 obtain ⟨k, v, n⟩ := e
 unfold okE at h
 split at h
 ·rename_i x b h1 h2
  simp only [Bool.and_eq_true, decide_eq_true_eq] at h
  simp only at h1 h2
  subst h1 h2
  exact ⟨(⟨x, h.1.1, h.1.2⟩, b, n), rfl, Nat.le_of_ble_eq_true h.2⟩
 ·cases h

theorem okEs_of {clock : Nat} : ∀ {es : List MapEntry}, okEs clock es = true → ∃ q : List KT, es = q.map mkE ∧ (∀ t ∈ q, t.2.2 < clock) ∧ (bornK q).Nodup
 | [], _ => ⟨[], rfl, fun _ h => (nomatch h), .nil⟩
 | e :: l, h => by
  simp only [okEs, Bool.and_eq_true] at h
  obtain ⟨⟨h1, h2⟩, h3⟩ := h
  obtain ⟨t, rfl, ht⟩ := okE_of h1
  obtain ⟨q, rfl, hq1, hq2⟩ := okEs_of h3
  refine ⟨t :: q, rfl, fun x hx => ?_, ?_⟩
  ·rcases List.mem_cons.1 hx with rfl | hx
   ·exact ht
   ·exact hq1 x hx
  ·unfold bornK at *
   rw [List.map_cons, List.nodup_cons]
   refine ⟨fun hm => ?_, hq2⟩
   obtain ⟨x, hx, hxe⟩ := List.mem_map.1 hm
   have key : ∀ (l : List KT), freshB t.2.2 (l.map mkE) = true → ∀ x ∈ l, x.2.2 ≠ t.2.2 := by
    intro l
    induction l with
    | nil => intro _ x hx; cases hx
    | cons y l ih =>
     intro h x hx
     simp only [List.map_cons, freshB, Bool.and_eq_true] at h
     rcases List.mem_cons.1 hx with rfl | hx
     ·intro he
      have h1 := h.1
      rw [show (mkE x).born = x.2.2 from rfl, he, show Nat.beq t.2.2 t.2.2 = true from Nat.beq_refl _] at h1
      cases h1
     ·exact ih h.2 x hx
   exact key q h2 x hx hxe

def emptyL : List MapEntry → Bool
 | [] => true
 | _ => false
def eSF : Ent := ⟨fun args A => match sfArgs args A with
  | some (es, clock) => !emptyL es && Nat.blt es.length 1000000 && okEs clock es
  | none => false, fun _ _ => true,
 fun args A => match sfArgs args A with
  | some (es, _) => .slice (some ⟨A.next, 0, none⟩) es.length unk
  | none => undef,
 fun args A => match sfArgs args A with
  | some (es, _) => A.new (.cells ((sortZ (es.map keyZ)).map fun x => .int .u16 x) 49 A.next 1)
  | none => A, fun _ _ => undef, fun _ A => A⟩

theorem eSF_ok (r : Mem) : EOk (SC r) 50 eSF := fun args A hg F hF k γ W args' hw hR ha => by
 refine ⟨fun _ => ?_, fun h => nomatch h⟩
 simp only [eSF] at hg ⊢
 cases hs : sfArgs args A with
 | none => rw [hs] at hg; cases hg
 | some p =>
  obtain ⟨es, clock⟩ := p
  rw [hs] at hg
  simp only [Bool.and_eq_true] at hg ⊢
  obtain ⟨⟨hne, hfew⟩, hok⟩ := hg
  obtain ⟨q, rfl, hq1, hq2⟩ := okEs_of hok
  have hfew' : q.length < 1000000 := by
   have := Nat.le_of_ble_eq_true hfew
   simp at this
   omega
  have hqn : q ≠ [] := fun h => by subst h; cases hne
  unfold sfArgs at hs
  split at hs
  ·rename_i f b g
   split at hs
   ·rename_i m e fam z hfg hbx
    split at hs
    ·rename_i b' hmem
     split at hs
     ·rename_i es' clock' hbb hmm
      cases hs
      simp only [Bool.and_eq_true] at hfg
      have e1 := Nat.eq_of_beq_eq_true hfg.1
      have e2 := Nat.eq_of_beq_eq_true hfg.2
      have e3 := Nat.eq_of_beq_eq_true hbb
      subst e1 e2 e3
      have hsorted := sorted_S (r := r) (e := e) (z := z) ⟨hq1, hq2, hfew'⟩ hqn
      have hks : ((sortZ ((q.map mkE).map keyZ)).map fun x => Value.int .u16 x) = (sortK (q.map (·.1))).map encK := by
       have h1 : (q.map mkE).map keyZ = (q.map (·.1)).map (·.1) := by simp [mkE, keyZ]
       rw [h1, ← sortK_val, List.map_map]
       rfl
      have hgs := ksG q
      have hw2 := WRel.pair hw hbx hmm hgs
      have hcall := hsorted F hF k (g2 γ b' m) W args' hw2 (Ro.pair hR b' m) ?_
      ·refine hcall.mono fun x W' ⟨v, A', hS, he⟩ => ?_
       obtain ⟨rfl, rfl⟩ := hS
       rw [hks, List.length_map]
       exact Ends.pair hw hbx hmm hmem hgs (fun v hv => by obtain ⟨y, _, rfl⟩ := List.mem_map.1 hv; rfl) rfl rfl rfl he
      ·obtain ⟨la⟩ := args'
       cases ha with
       | cons h1 h2 =>
       cases h2 with
       | cons h2 h3 =>
       cases h3
       refine .cons ?_ (.cons ?_ .nil)
       ·cases h1 with
        | func p1 p2 p3 =>
         rename_i f' a' c'
         obtain ⟨a'⟩ := a'
         obtain ⟨c'⟩ := c'
         cases p1
         cases p2
         cases p3 with
         | cons k1 k2 =>
          cases k2
          cases k1 with
          | ptr k hg1 => exact .func (.func _) .nil (.cons (.ptr _ (show g2 γ b' m 0 = _ from hg1)) .nil)
       ·cases h2 with
        | func p1 p2 p3 =>
         rename_i f' a' c'
         obtain ⟨a'⟩ := a'
         obtain ⟨c'⟩ := c'
         cases p1
         cases p2
         cases p3
         exact .func (.func _) .nil .nil
     ·cases hs
    ·cases hs
   ·cases hs
  ·cases hs

end Go.Proofs

/- Chapter 10: the example calls, run. -/
namespace Go.Proofs
open Go Go.Ev
set_option linter.unusedVariables false
set_option linter.unusedSimpArgs false
set_option maxRecDepth 100000

def mskH : Tr Nat := (.node (.node (.node (.node (.node (.node (.node (.node .nil (some 0) .nil) none .nil) (some 23) (.node .nil (some 7951) .nil)) (some 123) (.node (.node .nil (some 5) .nil) (some 28895) (.node .nil (some 15391) .nil))) (some 21) (.node (.node (.node (.node .nil (some 0) .nil) (some 435) .nil) (some 59) (.node .nil (some 5) .nil)) none (.node (.node .nil (some 19) .nil) (some 5) (.node .nil (some 4159) .nil)))) (some 1048573) (.node (.node (.node (.node (.node .nil (some 0) .nil) (some 71) .nil) (some 12351) (.node .nil (some 7951) .nil)) (some 13) (.node (.node .nil (some 7) .nil) (some 7) (.node .nil (some 271) .nil))) none (.node (.node (.node (.node .nil (some 0) .nil) (some 5) .nil) none (.node .nil (some 36028797018996495) .nil)) (some 415) (.node (.node .nil (some 2096159) .nil) (some 12885957631) (.node .nil (some 0) .nil))))) none (.node (.node (.node (.node (.node (.node .nil (some 0) .nil) (some 479) .nil) none (.node .nil (some 36028797018996495) .nil)) (some 455) (.node (.node .nil (some 5) .nil) (some 29) (.node .nil (some 5) .nil))) (some 61) (.node (.node (.node (.node .nil (some 0) .nil) (some 1971) .nil) (some 71) (.node .nil (some 7951) .nil)) (some 125) (.node (.node .nil (some 23) .nil) (some 19) (.node .nil (some 3103) .nil)))) (some 61) (.node (.node (.node (.node (.node .nil (some 0) .nil) (some 19) .nil) (some 511) (.node .nil (some 15391) .nil)) (some 27) (.node (.node .nil (some 16607) .nil) (some 493) (.node .nil (some 3103) .nil))) none (.node (.node (.node (.node .nil (some 0) .nil) (some 43) .nil) none (.node .nil (some 7951) .nil)) (some 117900287) (.node (.node .nil (some 2096159) .nil) (some 7351) (.node .nil (some 0) .nil)))))) none (.node (.node (.node (.node (.node (.node (.node .nil (some 0) .nil) (some 435) .nil) (some 17) (.node .nil (some 7943) .nil)) (some 123) (.node (.node .nil (some 5) .nil) (some 2013) (.node .nil (some 3103) .nil))) (some 49119) (.node (.node (.node (.node .nil (some 0) .nil) (some 23) .nil) (some 71) (.node .nil (some 783) .nil)) (some 61) (.node (.node .nil (some 39) .nil) (some 115) (.node .nil (some 3103) .nil)))) (some 131031) (.node (.node (.node (.node (.node .nil (some 0) .nil) (some 5) .nil) (some 511) (.node .nil (some 7199) .nil)) (some 27) (.node (.node .nil (some 23) .nil) (some 19) (.node .nil (some 4159) .nil))) (some 125) (.node (.node (.node (.node .nil (some 0) .nil) (some 19) .nil) (some 458877) (.node .nil (some 775) .nil)) (some 23) (.node (.node .nil (some 5) .nil) (some 7) (.node .nil (some 0) .nil))))) none (.node (.node (.node (.node (.node (.node .nil (some 0) .nil) (some 79) .nil) none (.node .nil (some 775) .nil)) (some 65533) (.node (.node .nil (some 11) .nil) (some 51) (.node .nil (some 5) .nil))) (some 61) (.node (.node (.node (.node .nil (some 0) .nil) (some 25166847) .nil) (some 7) (.node .nil (some 7943) .nil)) (some 13) (.node (.node .nil (some 183) .nil) (some 5) (.node .nil (some 0) .nil)))) (some 253) (.node (.node (.node (.node (.node .nil (some 0) .nil) (some 1567) .nil) (some 946866127) (.node .nil (some 5) .nil)) (some 455) (.node (.node .nil (some 23) .nil) (some 115) (.node .nil (some 271) .nil))) (some 61) (.node (.node (.node .nil (some 5) .nil) (some 33557567) (.node .nil (some 7199) .nil)) none (.node (.node .nil (some 783) .nil) (some 7) (.node .nil (some 0) .nil)))))))
noncomputable abbrev CC (r : Mem) : Cfg := Cfg.ofRo Tryz.prog r
theorem CC_ok (r : Mem) : (CC r).Ok := Cfg.ofRo_ok evMixed evNames r
noncomputable def tSF : Tbl := tcons 50 eSF fun _ => none
theorem tSF_ok (r : Mem) : TOk (CC r) tSF := (show TOk (SC r) tSF from TOk.nil.cons (eSF_ok r))

end Go.Proofs

