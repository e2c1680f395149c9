/- What the claim is proved with, part 2: the evaluator and the contracts of the calls. -/
import Derived.Test.YtedcfhajlhnlgaaGreatDoorPack1
import Derived.Test.YtedcfhajlhnlgaaGreatDoorEvOwn
import Derived.Test.YtedcfhajlhnlgaaGreatDoorEvCanP
/- hue's reading of a graph, run. -/
set_option linter.unusedVariables false
set_option linter.unusedSimpArgs false
namespace Go.Proofs
open Go Go.Ev Go.Num
set_option maxRecDepth 100000

noncomputable def cHr : Code := bodyOf S0 22
noncomputable def Hr_0 : Code := (lc cHr)
noncomputable def Hr_1 : Code := (lc (rc cHr))
noncomputable def Hr_2 : Code := (lc (rc (rc cHr)))
noncomputable def Hr_3 : Code := (lc (lc (rc (rc (rc cHr)))))
noncomputable def Hr_4 : Code := (ic (ic (rc (lc (rc (rc (rc cHr)))))))
noncomputable def Hr_5 : Code := (rc (rc (rc (rc cHr))))
theorem Hr_eq : cHr = (.seq Hr_0 (.seq Hr_1 (.seq Hr_2 (.seq (.seq Hr_3 (.block 0 (.loop Hr_4))) Hr_5)))) := by kernel_rfl

def lvHr : List Nat := [4, 7, 20, 21, 22]
def resH : List Value := I 0 :: List.replicate 16 (U 0) ++ [.slice none 0 0]
abbrev P0 (i : Nat) : Value := .pointer (some ⟨i, 0, none⟩)
def tHr : Tbl := tcons 44 (eI1 m_vG fun v => U (m_bit v)) fun _ => none
noncomputable def tHc (a0 : List Value) (e : Int) : Tbl := tcons 43 (entV a0 (I e)) fun _ => none

theorem hsnA (r : Mem) (v : Int) : (lvlT (SC r) (fun _ => none) .nil 1 3).call 44 [I v] emptyA fin =
    bif !decide (v < 0) then CR.ret (Value.int IntKind.u64 (IntKind.wrap IntKind.u64 (Int.ofNat 1 * Int.ofNat 2 ^ min (Int.toNat v) 64))) (AW.mk 0 Tr.nil Tr.nil) else CR.fail 420 := by kernel_rfl

theorem hrA (r : Mem) (n e : Int) (b off len cap : Nat) (K : OV → List Nat → OO → CR) (kx : Nat → KS) (KR : OV → List Nat → OO → CR) : run (SC r) 7341811 61 1 (.seq Hr_0 (.seq Hr_1 (.seq Hr_2 Hr_3))) (lvlT (SC r) (tHc [I n, RS2 b off len cap] e) .nil 1 1) none (rbK 0 lvHr [.t, .t] K) kx (rbK 0 [4, 5] [.t] KR) (sc0 7341811 [I n, RS2 b off len cap]) (tr0 7341811 [I n, RS2 b off len cap]) [] emptyA =
    bif m_same [Value.int IntKind.i64 n, Value.slice (some (Addr.mk b off (some 0))) len cap] [Value.int IntKind.i64 n, Value.slice (some (Addr.mk b off (some 0))) len cap] then bif e != Int.ofNat 0 then KR [some (Value.pointer (some (Addr.mk 0 0 none))), some (Value.int IntKind.i64 e)] [] [some (AObj.cells [Value.int IntKind.i64 (Int.ofNat 0), Value.int IntKind.u64 (Int.ofNat 0), Value.int IntKind.u64 (Int.ofNat 0), Value.int IntKind.u64 (Int.ofNat 0), Value.int IntKind.u64 (Int.ofNat 0), Value.int IntKind.u64 (Int.ofNat 0), Value.int IntKind.u64 (Int.ofNat 0), Value.int IntKind.u64 (Int.ofNat 0), Value.int IntKind.u64 (Int.ofNat 0), Value.int IntKind.u64 (Int.ofNat 0), Value.int IntKind.u64 (Int.ofNat 0), Value.int IntKind.u64 (Int.ofNat 0), Value.int IntKind.u64 (Int.ofNat 0), Value.int IntKind.u64 (Int.ofNat 0), Value.int IntKind.u64 (Int.ofNat 0), Value.int IntKind.u64 (Int.ofNat 0), Value.int IntKind.u64 (Int.ofNat 0), Value.slice none 0 0] 54 0 0)] else K [some (Value.pointer (some (Addr.mk 0 0 none))), some (Value.pointer (some (Addr.mk 1 0 none))), some (Value.slice (some (Addr.mk b off (some 0))) len cap), some (Value.int IntKind.i64 (Int.ofNat len)), some (Value.int IntKind.i64 (Int.ofNat 0))] [] [some (AObj.cells [Value.int IntKind.i64 (Int.ofNat 0), Value.int IntKind.u64 (Int.ofNat 0), Value.int IntKind.u64 (Int.ofNat 0), Value.int IntKind.u64 (Int.ofNat 0), Value.int IntKind.u64 (Int.ofNat 0), Value.int IntKind.u64 (Int.ofNat 0), Value.int IntKind.u64 (Int.ofNat 0), Value.int IntKind.u64 (Int.ofNat 0), Value.int IntKind.u64 (Int.ofNat 0), Value.int IntKind.u64 (Int.ofNat 0), Value.int IntKind.u64 (Int.ofNat 0), Value.int IntKind.u64 (Int.ofNat 0), Value.int IntKind.u64 (Int.ofNat 0), Value.int IntKind.u64 (Int.ofNat 0), Value.int IntKind.u64 (Int.ofNat 0), Value.int IntKind.u64 (Int.ofNat 0), Value.int IntKind.u64 (Int.ofNat 0), Value.slice none 0 0] 54 0 0), some (AObj.cells [Value.int IntKind.i64 n, Value.int IntKind.u64 (Int.ofNat 0), Value.int IntKind.u64 (Int.ofNat 0), Value.int IntKind.u64 (Int.ofNat 0), Value.int IntKind.u64 (Int.ofNat 0), Value.int IntKind.u64 (Int.ofNat 0), Value.int IntKind.u64 (Int.ofNat 0), Value.int IntKind.u64 (Int.ofNat 0), Value.int IntKind.u64 (Int.ofNat 0), Value.int IntKind.u64 (Int.ofNat 0), Value.int IntKind.u64 (Int.ofNat 0), Value.int IntKind.u64 (Int.ofNat 0), Value.int IntKind.u64 (Int.ofNat 0), Value.int IntKind.u64 (Int.ofNat 0), Value.int IntKind.u64 (Int.ofNat 0), Value.int IntKind.u64 (Int.ofNat 0), Value.int IntKind.u64 (Int.ofNat 0), Value.slice none 0 0] 54 1 0)] else CR.fail 420 := by kernel_rfl

theorem hrB1 (r : Mem) (n : Int) (b off len cap : Nat) (i : Int) (z0 z1 z2 z3 z4 z5 z6 z7 z8 z9 z10 z11 z12 z13 z14 z15 : Int) (kn : KS) (KX : Nat → OV → List Nat → OO → CR) (kr : KS) : run (SC r) 7341811 61 1 Hr_4 (lvlT (SC r) tHr .nil 1 1) none kn (fun i => rbK 0 lvHr [.t, .t] (KX i)) kr [] (bT lvHr [some (P0 0), some (P0 1), some (RS2 b off len cap), some (I (len : Nat)), some (I i)] .nil) [] (mkA [some (.cells resH 54 0 0), some (.cells [I n, U z0, U z1, U z2, U z3, U z4, U z5, U z6, U z7, U z8, U z9, U z10, U z11, U z12, U z13, U z14, U z15, .slice none 0 0] 54 1 0)]) =
    bif decide (i < Int.ofNat len) then bif decide (0 ≤ i) then bif Nat.blt (Int.toNat i) len then Option.casesOn (r b (Nat.add off (Nat.mul (Int.toNat i) 2))) (CR.fail 423) fun val => bif isI IntKind.i64 val then Option.casesOn (r b (Nat.succ (Nat.add off (Nat.mul (Int.toNat i) 2)))) (CR.fail 423) fun val_1 => bif isI IntKind.i64 val_1 then bif decide (0 ≤ ofI val) then bif Nat.blt (Int.toNat (ofI val)) 16 then Option.casesOn [Value.int IntKind.i64 n, Value.int IntKind.u64 z0, Value.int IntKind.u64 z1, Value.int IntKind.u64 z2, Value.int IntKind.u64 z3, Value.int IntKind.u64 z4, Value.int IntKind.u64 z5, Value.int IntKind.u64 z6, Value.int IntKind.u64 z7, Value.int IntKind.u64 z8, Value.int IntKind.u64 z9, Value.int IntKind.u64 z10, Value.int IntKind.u64 z11, Value.int IntKind.u64 z12, Value.int IntKind.u64 z13, Value.int IntKind.u64 z14, Value.int IntKind.u64 z15, Value.slice (some (Addr.mk 5 0 none)) 1 9223372036854775808][Nat.add 1 (Nat.mul (Int.toNat (ofI val)) 1)]? (CR.fail 423) fun val_2 => bif isI IntKind.u64 val_2 then bif m_vG (ofI val_1) then bif decide (0 ≤ ofI val) then bif Nat.blt (Int.toNat (ofI val)) 16 then bif Nat.blt (Nat.add 1 (Nat.mul (Int.toNat (ofI val)) 1)) (List.length [Value.int IntKind.i64 n, Value.int IntKind.u64 z0, Value.int IntKind.u64 z1, Value.int IntKind.u64 z2, Value.int IntKind.u64 z3, Value.int IntKind.u64 z4, Value.int IntKind.u64 z5, Value.int IntKind.u64 z6, Value.int IntKind.u64 z7, Value.int IntKind.u64 z8, Value.int IntKind.u64 z9, Value.int IntKind.u64 z10, Value.int IntKind.u64 z11, Value.int IntKind.u64 z12, Value.int IntKind.u64 z13, Value.int IntKind.u64 z14, Value.int IntKind.u64 z15, Value.slice (some (Addr.mk 5 0 none)) 1 9223372036854775808]) then bif m_eqv (Value.int IntKind.i64 (ofI val_1)) (Value.int IntKind.i64 (ofI val_1)) then Option.casesOn [Value.int IntKind.i64 n, Value.int IntKind.u64 z0, Value.int IntKind.u64 z1, Value.int IntKind.u64 z2, Value.int IntKind.u64 z3, Value.int IntKind.u64 z4, Value.int IntKind.u64 z5, Value.int IntKind.u64 z6, Value.int IntKind.u64 z7, Value.int IntKind.u64 z8, Value.int IntKind.u64 z9, Value.int IntKind.u64 z10, Value.int IntKind.u64 z11, Value.int IntKind.u64 z12, Value.int IntKind.u64 z13, Value.int IntKind.u64 z14, Value.int IntKind.u64 z15, Value.slice (some (Addr.mk 5 0 none)) 1 9223372036854775808][Nat.add 1 (Nat.mul (Int.toNat (ofI val)) 1)]? (CR.fail 423) fun val_3 => bif isI IntKind.u64 val_3 then bif m_eqv (Value.int IntKind.u64 (ofI val_3)) (Value.int IntKind.u64 (ofI val_2)) then Option.casesOn [Value.int IntKind.i64 n, Value.int IntKind.u64 z0, Value.int IntKind.u64 z1, Value.int IntKind.u64 z2, Value.int IntKind.u64 z3, Value.int IntKind.u64 z4, Value.int IntKind.u64 z5, Value.int IntKind.u64 z6, Value.int IntKind.u64 z7, Value.int IntKind.u64 z8, Value.int IntKind.u64 z9, Value.int IntKind.u64 z10, Value.int IntKind.u64 z11, Value.int IntKind.u64 z12, Value.int IntKind.u64 z13, Value.int IntKind.u64 z14, Value.int IntKind.u64 z15, Value.slice (some (Addr.mk 5 0 none)) 1 9223372036854775808][Nat.add 1 (Nat.mul (Int.toNat (ofI val)) 1)]? (CR.fail 423) fun val_4 => bif isI IntKind.u64 val_4 then bif m_eqv (Value.int IntKind.u64 (ofI val_4)) (Value.int IntKind.u64 (ofI val_2)) then bif m_eqv (Value.int IntKind.i64 (ofI val)) (Value.int IntKind.i64 (ofI val)) then bif m_eqv (Value.int IntKind.i64 (ofI val)) (Value.int IntKind.i64 (ofI val)) then bif decide (0 ≤ ofI val_1) then bif Nat.blt (Int.toNat (ofI val_1)) 16 then Option.casesOn (List.set [Value.int IntKind.i64 n, Value.int IntKind.u64 z0, Value.int IntKind.u64 z1, Value.int IntKind.u64 z2, Value.int IntKind.u64 z3, Value.int IntKind.u64 z4, Value.int IntKind.u64 z5, Value.int IntKind.u64 z6, Value.int IntKind.u64 z7, Value.int IntKind.u64 z8, Value.int IntKind.u64 z9, Value.int IntKind.u64 z10, Value.int IntKind.u64 z11, Value.int IntKind.u64 z12, Value.int IntKind.u64 z13, Value.int IntKind.u64 z14, Value.int IntKind.u64 z15, Value.slice (some (Addr.mk 5 0 none)) 1 9223372036854775808] (Nat.add 1 (Nat.mul (Int.toNat (ofI val)) 1)) (Value.int IntKind.u64 (ibits BinOp.or IntKind.u64 (ofI val_2) (m_bit (ofI val_1)))))[Nat.add 1 (Nat.mul (Int.toNat (ofI val_1)) 1)]? (CR.fail 423) fun val_5 => bif isI IntKind.u64 val_5 then bif m_vG (ofI val) then bif decide (0 ≤ ofI val_1) then bif Nat.blt (Int.toNat (ofI val_1)) 16 then bif Nat.blt (Nat.add 1 (Nat.mul (Int.toNat (ofI val_1)) 1)) (List.length (List.set [Value.int IntKind.i64 n, Value.int IntKind.u64 z0, Value.int IntKind.u64 z1, Value.int IntKind.u64 z2, Value.int IntKind.u64 z3, Value.int IntKind.u64 z4, Value.int IntKind.u64 z5, Value.int IntKind.u64 z6, Value.int IntKind.u64 z7, Value.int IntKind.u64 z8, Value.int IntKind.u64 z9, Value.int IntKind.u64 z10, Value.int IntKind.u64 z11, Value.int IntKind.u64 z12, Value.int IntKind.u64 z13, Value.int IntKind.u64 z14, Value.int IntKind.u64 z15, Value.slice (some (Addr.mk 5 0 none)) 1 9223372036854775808] (Nat.add 1 (Nat.mul (Int.toNat (ofI val)) 1)) (Value.int IntKind.u64 (ibits BinOp.or IntKind.u64 (ofI val_2) (m_bit (ofI val_1)))))) then bif m_eqv (Value.int IntKind.i64 (ofI val)) (Value.int IntKind.i64 (ofI val)) then Option.casesOn (List.set [Value.int IntKind.i64 n, Value.int IntKind.u64 z0, Value.int IntKind.u64 z1, Value.int IntKind.u64 z2, Value.int IntKind.u64 z3, Value.int IntKind.u64 z4, Value.int IntKind.u64 z5, Value.int IntKind.u64 z6, Value.int IntKind.u64 z7, Value.int IntKind.u64 z8, Value.int IntKind.u64 z9, Value.int IntKind.u64 z10, Value.int IntKind.u64 z11, Value.int IntKind.u64 z12, Value.int IntKind.u64 z13, Value.int IntKind.u64 z14, Value.int IntKind.u64 z15, Value.slice (some (Addr.mk 5 0 none)) 1 9223372036854775808] (Nat.add 1 (Nat.mul (Int.toNat (ofI val)) 1)) (Value.int IntKind.u64 (ibits BinOp.or IntKind.u64 (ofI val_2) (m_bit (ofI val_1)))))[Nat.add 1 (Nat.mul (Int.toNat (ofI val_1)) 1)]? (CR.fail 423) fun val_6 => bif isI IntKind.u64 val_6 then bif m_eqv (Value.int IntKind.u64 (ofI val_6)) (Value.int IntKind.u64 (ofI val_5)) then Option.casesOn (List.set [Value.int IntKind.i64 n, Value.int IntKind.u64 z0, Value.int IntKind.u64 z1, Value.int IntKind.u64 z2, Value.int IntKind.u64 z3, Value.int IntKind.u64 z4, Value.int IntKind.u64 z5, Value.int IntKind.u64 z6, Value.int IntKind.u64 z7, Value.int IntKind.u64 z8, Value.int IntKind.u64 z9, Value.int IntKind.u64 z10, Value.int IntKind.u64 z11, Value.int IntKind.u64 z12, Value.int IntKind.u64 z13, Value.int IntKind.u64 z14, Value.int IntKind.u64 z15, Value.slice (some (Addr.mk 5 0 none)) 1 9223372036854775808] (Nat.add 1 (Nat.mul (Int.toNat (ofI val)) 1)) (Value.int IntKind.u64 (ibits BinOp.or IntKind.u64 (ofI val_2) (m_bit (ofI val_1)))))[Nat.add 1 (Nat.mul (Int.toNat (ofI val_1)) 1)]? (CR.fail 423) fun val_7 => bif isI IntKind.u64 val_7 then bif m_eqv (Value.int IntKind.u64 (ofI val_7)) (Value.int IntKind.u64 (ofI val_5)) then bif m_eqv (Value.int IntKind.i64 (ofI val_1)) (Value.int IntKind.i64 (ofI val_1)) then bif m_eqv (Value.int IntKind.i64 (ofI val_1)) (Value.int IntKind.i64 (ofI val_1)) then kn [(59, Value.int IntKind.i64 (IntKind.wrap IntKind.i64 (i + Int.ofNat 1)))] (Tr.node (Tr.node (Tr.node (Tr.node Tr.nil (some (Value.pointer (some (Addr.mk 1 0 none)))) Tr.nil) none Tr.nil) none (Tr.node (Tr.node Tr.nil (some (Value.pointer (some (Addr.mk 2 0 none)))) Tr.nil) none (Tr.node (Tr.node Tr.nil (some (Value.int IntKind.i64 (Int.ofNat len))) Tr.nil) none Tr.nil))) none (Tr.node (Tr.node Tr.nil (some (Value.pointer (some (Addr.mk 0 0 none)))) (Tr.node (Tr.node Tr.nil (some (Value.slice (some (Addr.mk b off (some 0))) len cap)) Tr.nil) none Tr.nil)) none (Tr.node (Tr.node Tr.nil (some (Value.pointer (some (Addr.mk 3 0 none)))) Tr.nil) none (Tr.node (Tr.node Tr.nil (some (Value.int IntKind.i64 (IntKind.wrap IntKind.i64 (i + Int.ofNat 1)))) Tr.nil) none Tr.nil)))) [] (AW.mk 6 (Tr.node (Tr.node (Tr.node Tr.nil (some (AObj.cells [Value.int IntKind.i64 (ofI val), Value.int IntKind.i64 (ofI val_1)] 84 3 0)) Tr.nil) (some (AObj.cells (List.set (List.set [Value.int IntKind.i64 n, Value.int IntKind.u64 z0, Value.int IntKind.u64 z1, Value.int IntKind.u64 z2, Value.int IntKind.u64 z3, Value.int IntKind.u64 z4, Value.int IntKind.u64 z5, Value.int IntKind.u64 z6, Value.int IntKind.u64 z7, Value.int IntKind.u64 z8, Value.int IntKind.u64 z9, Value.int IntKind.u64 z10, Value.int IntKind.u64 z11, Value.int IntKind.u64 z12, Value.int IntKind.u64 z13, Value.int IntKind.u64 z14, Value.int IntKind.u64 z15, Value.slice (some (Addr.mk 5 0 none)) 1 9223372036854775808] (Nat.add 1 (Nat.mul (Int.toNat (ofI val)) 1)) (Value.int IntKind.u64 (ibits BinOp.or IntKind.u64 (ofI val_2) (m_bit (ofI val_1))))) (Nat.add 1 (Nat.mul (Int.toNat (ofI val_1)) 1)) (Value.int IntKind.u64 (ibits BinOp.or IntKind.u64 (ofI val_5) (m_bit (ofI val))))) 54 1 0)) (Tr.node Tr.nil (some (AObj.cells [Value.int IntKind.i64 (ofI val), Value.int IntKind.i64 (ofI val_1)] 84 5 2)) Tr.nil)) (some (AObj.cells [Value.int IntKind.i64 (Int.ofNat 0), Value.int IntKind.u64 (Int.ofNat 0), Value.int IntKind.u64 (Int.ofNat 0), Value.int IntKind.u64 (Int.ofNat 0), Value.int IntKind.u64 (Int.ofNat 0), Value.int IntKind.u64 (Int.ofNat 0), Value.int IntKind.u64 (Int.ofNat 0), Value.int IntKind.u64 (Int.ofNat 0), Value.int IntKind.u64 (Int.ofNat 0), Value.int IntKind.u64 (Int.ofNat 0), Value.int IntKind.u64 (Int.ofNat 0), Value.int IntKind.u64 (Int.ofNat 0), Value.int IntKind.u64 (Int.ofNat 0), Value.int IntKind.u64 (Int.ofNat 0), Value.int IntKind.u64 (Int.ofNat 0), Value.int IntKind.u64 (Int.ofNat 0), Value.int IntKind.u64 (Int.ofNat 0), Value.slice none 0 0] 54 0 0)) (Tr.node (Tr.node Tr.nil (some (AObj.cells [Value.int IntKind.i64 (ofI val), Value.int IntKind.i64 (ofI val_1)] 84 4 2)) Tr.nil) (some (AObj.cells [Value.int IntKind.i64 (ofI val), Value.int IntKind.i64 (ofI val_1)] 59 2 0)) Tr.nil)) Tr.nil) else CR.fail 420 else CR.fail 420 else CR.fail 420 else CR.fail 420 else CR.fail 420 else CR.fail 420 else CR.fail 420 else CR.fail 420 else CR.fail 420 else CR.fail 420 else CR.fail 420 else CR.fail 420 else CR.fail 420 else CR.fail 420 else CR.fail 420 else CR.fail 420 else CR.fail 420 else CR.fail 420 else CR.fail 420 else CR.fail 420 else CR.fail 420 else CR.fail 420 else CR.fail 420 else CR.fail 420 else CR.fail 420 else CR.fail 420 else CR.fail 420 else CR.fail 420 else CR.fail 420 else CR.fail 420 else CR.fail 420 else CR.fail 420 else KX 0 [some (Value.pointer (some (Addr.mk 0 0 none))), some (Value.pointer (some (Addr.mk 1 0 none))), some (Value.slice (some (Addr.mk b off (some 0))) len cap), some (Value.int IntKind.i64 (Int.ofNat len)), some (Value.int IntKind.i64 i)] [] [some (AObj.cells [Value.int IntKind.i64 (Int.ofNat 0), Value.int IntKind.u64 (Int.ofNat 0), Value.int IntKind.u64 (Int.ofNat 0), Value.int IntKind.u64 (Int.ofNat 0), Value.int IntKind.u64 (Int.ofNat 0), Value.int IntKind.u64 (Int.ofNat 0), Value.int IntKind.u64 (Int.ofNat 0), Value.int IntKind.u64 (Int.ofNat 0), Value.int IntKind.u64 (Int.ofNat 0), Value.int IntKind.u64 (Int.ofNat 0), Value.int IntKind.u64 (Int.ofNat 0), Value.int IntKind.u64 (Int.ofNat 0), Value.int IntKind.u64 (Int.ofNat 0), Value.int IntKind.u64 (Int.ofNat 0), Value.int IntKind.u64 (Int.ofNat 0), Value.int IntKind.u64 (Int.ofNat 0), Value.int IntKind.u64 (Int.ofNat 0), Value.slice none 0 0] 54 0 0), some (AObj.cells [Value.int IntKind.i64 n, Value.int IntKind.u64 z0, Value.int IntKind.u64 z1, Value.int IntKind.u64 z2, Value.int IntKind.u64 z3, Value.int IntKind.u64 z4, Value.int IntKind.u64 z5, Value.int IntKind.u64 z6, Value.int IntKind.u64 z7, Value.int IntKind.u64 z8, Value.int IntKind.u64 z9, Value.int IntKind.u64 z10, Value.int IntKind.u64 z11, Value.int IntKind.u64 z12, Value.int IntKind.u64 z13, Value.int IntKind.u64 z14, Value.int IntKind.u64 z15, Value.slice none 0 0] 54 1 0)] := by kernel_rfl

theorem hrB2 (r : Mem) (n : Int) (b off len cap : Nat) (i : Int) (z0 z1 z2 z3 z4 z5 z6 z7 z8 z9 z10 z11 z12 z13 z14 z15 : Int) (m : Nat) (c : List Value) (kn : KS) (KX : Nat → OV → List Nat → OO → CR) (kr : KS) : run (SC r) 7341811 61 1 Hr_4 (lvlT (SC r) tHr .nil 1 1) none kn (fun i => rbK 0 lvHr [.t, .t] (KX i)) kr [] (bT lvHr [some (P0 0), some (P0 1), some (RS2 b off len cap), some (I (len : Nat)), some (I i)] .nil) [] (mkA [some (.cells resH 54 0 0), some (.cells [I n, U z0, U z1, U z2, U z3, U z4, U z5, U z6, U z7, U z8, U z9, U z10, U z11, U z12, U z13, U z14, U z15, .slice (some ⟨2, 0, none⟩) m unk] 54 1 0), some (.cells c 84 2 2)]) =
    bif decide (i < Int.ofNat len) then bif decide (0 ≤ i) then bif Nat.blt (Int.toNat i) len then Option.casesOn (r b (Nat.add off (Nat.mul (Int.toNat i) 2))) (CR.fail 423) fun val => bif isI IntKind.i64 val then Option.casesOn (r b (Nat.succ (Nat.add off (Nat.mul (Int.toNat i) 2)))) (CR.fail 423) fun val_1 => bif isI IntKind.i64 val_1 then bif Nat.ble (Nat.add m 1) 1000000 then Option.casesOn (takeAt c 0 (Nat.mul m 2)) (CR.fail 439) fun val_2 => bif decide (0 ≤ ofI val) then bif Nat.blt (Int.toNat (ofI val)) 16 then Option.casesOn [Value.int IntKind.i64 n, Value.int IntKind.u64 z0, Value.int IntKind.u64 z1, Value.int IntKind.u64 z2, Value.int IntKind.u64 z3, Value.int IntKind.u64 z4, Value.int IntKind.u64 z5, Value.int IntKind.u64 z6, Value.int IntKind.u64 z7, Value.int IntKind.u64 z8, Value.int IntKind.u64 z9, Value.int IntKind.u64 z10, Value.int IntKind.u64 z11, Value.int IntKind.u64 z12, Value.int IntKind.u64 z13, Value.int IntKind.u64 z14, Value.int IntKind.u64 z15, Value.slice (some (Addr.mk 6 0 none)) (Nat.add m 1) 9223372036854775808][Nat.add 1 (Nat.mul (Int.toNat (ofI val)) 1)]? (CR.fail 423) fun val_3 => bif isI IntKind.u64 val_3 then bif m_vG (ofI val_1) then bif decide (0 ≤ ofI val) then bif Nat.blt (Int.toNat (ofI val)) 16 then bif Nat.blt (Nat.add 1 (Nat.mul (Int.toNat (ofI val)) 1)) (List.length [Value.int IntKind.i64 n, Value.int IntKind.u64 z0, Value.int IntKind.u64 z1, Value.int IntKind.u64 z2, Value.int IntKind.u64 z3, Value.int IntKind.u64 z4, Value.int IntKind.u64 z5, Value.int IntKind.u64 z6, Value.int IntKind.u64 z7, Value.int IntKind.u64 z8, Value.int IntKind.u64 z9, Value.int IntKind.u64 z10, Value.int IntKind.u64 z11, Value.int IntKind.u64 z12, Value.int IntKind.u64 z13, Value.int IntKind.u64 z14, Value.int IntKind.u64 z15, Value.slice (some (Addr.mk 6 0 none)) (Nat.add m 1) 9223372036854775808]) then bif m_eqv (Value.int IntKind.i64 (ofI val_1)) (Value.int IntKind.i64 (ofI val_1)) then Option.casesOn [Value.int IntKind.i64 n, Value.int IntKind.u64 z0, Value.int IntKind.u64 z1, Value.int IntKind.u64 z2, Value.int IntKind.u64 z3, Value.int IntKind.u64 z4, Value.int IntKind.u64 z5, Value.int IntKind.u64 z6, Value.int IntKind.u64 z7, Value.int IntKind.u64 z8, Value.int IntKind.u64 z9, Value.int IntKind.u64 z10, Value.int IntKind.u64 z11, Value.int IntKind.u64 z12, Value.int IntKind.u64 z13, Value.int IntKind.u64 z14, Value.int IntKind.u64 z15, Value.slice (some (Addr.mk 6 0 none)) (Nat.add m 1) 9223372036854775808][Nat.add 1 (Nat.mul (Int.toNat (ofI val)) 1)]? (CR.fail 423) fun val_4 => bif isI IntKind.u64 val_4 then bif m_eqv (Value.int IntKind.u64 (ofI val_4)) (Value.int IntKind.u64 (ofI val_3)) then Option.casesOn [Value.int IntKind.i64 n, Value.int IntKind.u64 z0, Value.int IntKind.u64 z1, Value.int IntKind.u64 z2, Value.int IntKind.u64 z3, Value.int IntKind.u64 z4, Value.int IntKind.u64 z5, Value.int IntKind.u64 z6, Value.int IntKind.u64 z7, Value.int IntKind.u64 z8, Value.int IntKind.u64 z9, Value.int IntKind.u64 z10, Value.int IntKind.u64 z11, Value.int IntKind.u64 z12, Value.int IntKind.u64 z13, Value.int IntKind.u64 z14, Value.int IntKind.u64 z15, Value.slice (some (Addr.mk 6 0 none)) (Nat.add m 1) 9223372036854775808][Nat.add 1 (Nat.mul (Int.toNat (ofI val)) 1)]? (CR.fail 423) fun val_5 => bif isI IntKind.u64 val_5 then bif m_eqv (Value.int IntKind.u64 (ofI val_5)) (Value.int IntKind.u64 (ofI val_3)) then bif m_eqv (Value.int IntKind.i64 (ofI val)) (Value.int IntKind.i64 (ofI val)) then bif m_eqv (Value.int IntKind.i64 (ofI val)) (Value.int IntKind.i64 (ofI val)) then bif decide (0 ≤ ofI val_1) then bif Nat.blt (Int.toNat (ofI val_1)) 16 then Option.casesOn (List.set [Value.int IntKind.i64 n, Value.int IntKind.u64 z0, Value.int IntKind.u64 z1, Value.int IntKind.u64 z2, Value.int IntKind.u64 z3, Value.int IntKind.u64 z4, Value.int IntKind.u64 z5, Value.int IntKind.u64 z6, Value.int IntKind.u64 z7, Value.int IntKind.u64 z8, Value.int IntKind.u64 z9, Value.int IntKind.u64 z10, Value.int IntKind.u64 z11, Value.int IntKind.u64 z12, Value.int IntKind.u64 z13, Value.int IntKind.u64 z14, Value.int IntKind.u64 z15, Value.slice (some (Addr.mk 6 0 none)) (Nat.add m 1) 9223372036854775808] (Nat.add 1 (Nat.mul (Int.toNat (ofI val)) 1)) (Value.int IntKind.u64 (ibits BinOp.or IntKind.u64 (ofI val_3) (m_bit (ofI val_1)))))[Nat.add 1 (Nat.mul (Int.toNat (ofI val_1)) 1)]? (CR.fail 423) fun val_6 => bif isI IntKind.u64 val_6 then bif m_vG (ofI val) then bif decide (0 ≤ ofI val_1) then bif Nat.blt (Int.toNat (ofI val_1)) 16 then bif Nat.blt (Nat.add 1 (Nat.mul (Int.toNat (ofI val_1)) 1)) (List.length (List.set [Value.int IntKind.i64 n, Value.int IntKind.u64 z0, Value.int IntKind.u64 z1, Value.int IntKind.u64 z2, Value.int IntKind.u64 z3, Value.int IntKind.u64 z4, Value.int IntKind.u64 z5, Value.int IntKind.u64 z6, Value.int IntKind.u64 z7, Value.int IntKind.u64 z8, Value.int IntKind.u64 z9, Value.int IntKind.u64 z10, Value.int IntKind.u64 z11, Value.int IntKind.u64 z12, Value.int IntKind.u64 z13, Value.int IntKind.u64 z14, Value.int IntKind.u64 z15, Value.slice (some (Addr.mk 6 0 none)) (Nat.add m 1) 9223372036854775808] (Nat.add 1 (Nat.mul (Int.toNat (ofI val)) 1)) (Value.int IntKind.u64 (ibits BinOp.or IntKind.u64 (ofI val_3) (m_bit (ofI val_1)))))) then bif m_eqv (Value.int IntKind.i64 (ofI val)) (Value.int IntKind.i64 (ofI val)) then Option.casesOn (List.set [Value.int IntKind.i64 n, Value.int IntKind.u64 z0, Value.int IntKind.u64 z1, Value.int IntKind.u64 z2, Value.int IntKind.u64 z3, Value.int IntKind.u64 z4, Value.int IntKind.u64 z5, Value.int IntKind.u64 z6, Value.int IntKind.u64 z7, Value.int IntKind.u64 z8, Value.int IntKind.u64 z9, Value.int IntKind.u64 z10, Value.int IntKind.u64 z11, Value.int IntKind.u64 z12, Value.int IntKind.u64 z13, Value.int IntKind.u64 z14, Value.int IntKind.u64 z15, Value.slice (some (Addr.mk 6 0 none)) (Nat.add m 1) 9223372036854775808] (Nat.add 1 (Nat.mul (Int.toNat (ofI val)) 1)) (Value.int IntKind.u64 (ibits BinOp.or IntKind.u64 (ofI val_3) (m_bit (ofI val_1)))))[Nat.add 1 (Nat.mul (Int.toNat (ofI val_1)) 1)]? (CR.fail 423) fun val_7 => bif isI IntKind.u64 val_7 then bif m_eqv (Value.int IntKind.u64 (ofI val_7)) (Value.int IntKind.u64 (ofI val_6)) then Option.casesOn (List.set [Value.int IntKind.i64 n, Value.int IntKind.u64 z0, Value.int IntKind.u64 z1, Value.int IntKind.u64 z2, Value.int IntKind.u64 z3, Value.int IntKind.u64 z4, Value.int IntKind.u64 z5, Value.int IntKind.u64 z6, Value.int IntKind.u64 z7, Value.int IntKind.u64 z8, Value.int IntKind.u64 z9, Value.int IntKind.u64 z10, Value.int IntKind.u64 z11, Value.int IntKind.u64 z12, Value.int IntKind.u64 z13, Value.int IntKind.u64 z14, Value.int IntKind.u64 z15, Value.slice (some (Addr.mk 6 0 none)) (Nat.add m 1) 9223372036854775808] (Nat.add 1 (Nat.mul (Int.toNat (ofI val)) 1)) (Value.int IntKind.u64 (ibits BinOp.or IntKind.u64 (ofI val_3) (m_bit (ofI val_1)))))[Nat.add 1 (Nat.mul (Int.toNat (ofI val_1)) 1)]? (CR.fail 423) fun val_8 => bif isI IntKind.u64 val_8 then bif m_eqv (Value.int IntKind.u64 (ofI val_8)) (Value.int IntKind.u64 (ofI val_6)) then bif m_eqv (Value.int IntKind.i64 (ofI val_1)) (Value.int IntKind.i64 (ofI val_1)) then bif m_eqv (Value.int IntKind.i64 (ofI val_1)) (Value.int IntKind.i64 (ofI val_1)) then kn [(59, Value.int IntKind.i64 (IntKind.wrap IntKind.i64 (i + Int.ofNat 1)))] (Tr.node (Tr.node (Tr.node (Tr.node Tr.nil (some (Value.pointer (some (Addr.mk 1 0 none)))) Tr.nil) none Tr.nil) none (Tr.node (Tr.node Tr.nil (some (Value.pointer (some (Addr.mk 3 0 none)))) Tr.nil) none (Tr.node (Tr.node Tr.nil (some (Value.int IntKind.i64 (Int.ofNat len))) Tr.nil) none Tr.nil))) none (Tr.node (Tr.node Tr.nil (some (Value.pointer (some (Addr.mk 0 0 none)))) (Tr.node (Tr.node Tr.nil (some (Value.slice (some (Addr.mk b off (some 0))) len cap)) Tr.nil) none Tr.nil)) none (Tr.node (Tr.node Tr.nil (some (Value.pointer (some (Addr.mk 4 0 none)))) Tr.nil) none (Tr.node (Tr.node Tr.nil (some (Value.int IntKind.i64 (IntKind.wrap IntKind.i64 (i + Int.ofNat 1)))) Tr.nil) none Tr.nil)))) [] (AW.mk 7 (Tr.node (Tr.node (Tr.node Tr.nil (some (AObj.cells [Value.int IntKind.i64 (ofI val), Value.int IntKind.i64 (ofI val_1)] 59 3 0)) Tr.nil) (some (AObj.cells (List.set (List.set [Value.int IntKind.i64 n, Value.int IntKind.u64 z0, Value.int IntKind.u64 z1, Value.int IntKind.u64 z2, Value.int IntKind.u64 z3, Value.int IntKind.u64 z4, Value.int IntKind.u64 z5, Value.int IntKind.u64 z6, Value.int IntKind.u64 z7, Value.int IntKind.u64 z8, Value.int IntKind.u64 z9, Value.int IntKind.u64 z10, Value.int IntKind.u64 z11, Value.int IntKind.u64 z12, Value.int IntKind.u64 z13, Value.int IntKind.u64 z14, Value.int IntKind.u64 z15, Value.slice (some (Addr.mk 6 0 none)) (Nat.add m 1) 9223372036854775808] (Nat.add 1 (Nat.mul (Int.toNat (ofI val)) 1)) (Value.int IntKind.u64 (ibits BinOp.or IntKind.u64 (ofI val_3) (m_bit (ofI val_1))))) (Nat.add 1 (Nat.mul (Int.toNat (ofI val_1)) 1)) (Value.int IntKind.u64 (ibits BinOp.or IntKind.u64 (ofI val_6) (m_bit (ofI val))))) 54 1 0)) (Tr.node Tr.nil (some (AObj.cells [Value.int IntKind.i64 (ofI val), Value.int IntKind.i64 (ofI val_1)] 84 5 2)) Tr.nil)) (some (AObj.cells [Value.int IntKind.i64 (Int.ofNat 0), Value.int IntKind.u64 (Int.ofNat 0), Value.int IntKind.u64 (Int.ofNat 0), Value.int IntKind.u64 (Int.ofNat 0), Value.int IntKind.u64 (Int.ofNat 0), Value.int IntKind.u64 (Int.ofNat 0), Value.int IntKind.u64 (Int.ofNat 0), Value.int IntKind.u64 (Int.ofNat 0), Value.int IntKind.u64 (Int.ofNat 0), Value.int IntKind.u64 (Int.ofNat 0), Value.int IntKind.u64 (Int.ofNat 0), Value.int IntKind.u64 (Int.ofNat 0), Value.int IntKind.u64 (Int.ofNat 0), Value.int IntKind.u64 (Int.ofNat 0), Value.int IntKind.u64 (Int.ofNat 0), Value.int IntKind.u64 (Int.ofNat 0), Value.int IntKind.u64 (Int.ofNat 0), Value.slice none 0 0] 54 0 0)) (Tr.node (Tr.node Tr.nil (some (AObj.cells [Value.int IntKind.i64 (ofI val), Value.int IntKind.i64 (ofI val_1)] 84 4 0)) Tr.nil) none (Tr.node Tr.nil (some (AObj.cells (val_2 ++ [Value.int IntKind.i64 (ofI val), Value.int IntKind.i64 (ofI val_1)]) 84 2 2)) Tr.nil))) (Tr.node Tr.nil none (Tr.node Tr.nil (some [6]) Tr.nil))) else CR.fail 420 else CR.fail 420 else CR.fail 420 else CR.fail 420 else CR.fail 420 else CR.fail 420 else CR.fail 420 else CR.fail 420 else CR.fail 420 else CR.fail 420 else CR.fail 420 else CR.fail 420 else CR.fail 420 else CR.fail 420 else CR.fail 420 else CR.fail 420 else CR.fail 420 else CR.fail 420 else CR.fail 420 else CR.fail 420 else CR.fail 420 else CR.fail 420 else CR.fail 420 else CR.fail 420 else CR.fail 420 else CR.fail 420 else CR.fail 420 else CR.fail 420 else CR.fail 420 else CR.fail 420 else CR.fail 420 else CR.fail 420 else CR.fail 420 else bif true && (true && (m_nns c && true)) then KX 0 [some (Value.pointer (some (Addr.mk 0 0 none))), some (Value.pointer (some (Addr.mk 1 0 none))), some (Value.slice (some (Addr.mk b off (some 0))) len cap), some (Value.int IntKind.i64 (Int.ofNat len)), some (Value.int IntKind.i64 i)] [] [some (AObj.cells [Value.int IntKind.i64 (Int.ofNat 0), Value.int IntKind.u64 (Int.ofNat 0), Value.int IntKind.u64 (Int.ofNat 0), Value.int IntKind.u64 (Int.ofNat 0), Value.int IntKind.u64 (Int.ofNat 0), Value.int IntKind.u64 (Int.ofNat 0), Value.int IntKind.u64 (Int.ofNat 0), Value.int IntKind.u64 (Int.ofNat 0), Value.int IntKind.u64 (Int.ofNat 0), Value.int IntKind.u64 (Int.ofNat 0), Value.int IntKind.u64 (Int.ofNat 0), Value.int IntKind.u64 (Int.ofNat 0), Value.int IntKind.u64 (Int.ofNat 0), Value.int IntKind.u64 (Int.ofNat 0), Value.int IntKind.u64 (Int.ofNat 0), Value.int IntKind.u64 (Int.ofNat 0), Value.int IntKind.u64 (Int.ofNat 0), Value.slice none 0 0] 54 0 0), some (AObj.cells [Value.int IntKind.i64 n, Value.int IntKind.u64 z0, Value.int IntKind.u64 z1, Value.int IntKind.u64 z2, Value.int IntKind.u64 z3, Value.int IntKind.u64 z4, Value.int IntKind.u64 z5, Value.int IntKind.u64 z6, Value.int IntKind.u64 z7, Value.int IntKind.u64 z8, Value.int IntKind.u64 z9, Value.int IntKind.u64 z10, Value.int IntKind.u64 z11, Value.int IntKind.u64 z12, Value.int IntKind.u64 z13, Value.int IntKind.u64 z14, Value.int IntKind.u64 z15, Value.slice (some (Addr.mk 2 0 none)) m 9223372036854775808] 54 1 0), some (AObj.cells c 84 2 2)] else CR.fail 420 := by kernel_rfl

end Go.Proofs

/- hue's reading of a graph: what the call leaves. -/
set_option linter.unusedVariables false
set_option linter.unusedSimpArgs false
namespace Go.Proofs
open Go Go.Ev Go.Num
set_option maxRecDepth 100000
set_option linter.unusedSimpArgs false

/-- A graph's cells: n, the words of neighbours, the edges. -/
def m_hg (n : Int) (zs : List Int) (e : Value) : List Value := I n :: (zs.map U ++ [e])
theorem hg_lit (n z0 z1 z2 z3 z4 z5 z6 z7 z8 z9 z10 z11 z12 z13 z14 z15 : Int) (e : Value) : [I n, U z0, U z1, U z2, U z3, U z4, U z5, U z6, U z7, U z8, U z9, U z10, U z11, U z12, U z13, U z14, U z15, e] = m_hg n [z0, z1, z2, z3, z4, z5, z6, z7, z8, z9, z10, z11, z12, z13, z14, z15] e := rfl
theorem hg_get {n : Int} {zs : List Int} {e : Value} {k : Nat} (h : k < zs.length) : (m_hg n zs e)[Nat.add 1 (Nat.mul k 1)]? = some (U (zs.getD k 0)) := by
  rw [show Nat.add 1 (Nat.mul k 1) = k + 1 by simp [Nat.add_comm], List.getD_eq_getElem?_getD, List.getElem?_eq_getElem h]
  simp only [m_hg, List.getElem?_cons_succ, Option.getD_some]
  rw [List.getElem?_append_left (by simpa using h), List.getElem?_map, List.getElem?_eq_getElem h]
  rfl
theorem hg_set {n : Int} {zs : List Int} {e : Value} {k : Nat} (h : k < zs.length) (z : Int) : (m_hg n zs e).set (Nat.add 1 (Nat.mul k 1)) (U z) = m_hg n (zs.set k z) e := by
  rw [show Nat.add 1 (Nat.mul k 1) = k + 1 by simp [Nat.add_comm]]
  simp [m_hg, List.map_set, List.set_append, h]
theorem hg_len (n : Int) (zs : List Int) (e : Value) : (m_hg n zs e).length = zs.length + 2 := by simp [m_hg]

/-- The edges' row. -/
def m_ed (z : Nat → Int) (k : Nat) : List Value := (List.range (2 * k)).map fun j => I (z j)
theorem ed_len (z : Nat → Int) (k : Nat) : (m_ed z k).length = 2 * k := by simp [m_ed]
theorem ed_succ (z : Nat → Int) (k : Nat) : m_ed z k ++ [I (ea z k), I (eb z k)] = m_ed z (k + 1) := by
  unfold m_ed
  rw [show 2 * (k + 1) = 2 * k + 1 + 1 by omega, List.range_succ, List.range_succ]
  simp [ea, eb]
theorem takeAt_all (c : List Value) (n : Nat) (h : c.length = n) : takeAt c 0 n = some c := by
  rw [takeAt_old]
  subst h
  induction c with
  | nil => rfl
  | cons x c ih => simp only [takeA0, List.length_cons, ih]
theorem ed_nn (z : Nat → Int) (k : Nat) : m_nns (m_ed z k) = true := by
  unfold m_nns m_ed
  generalize List.range (2 * k) = l
  induction l with
  | nil => rfl
  | cons x l ih => simp only [List.map_cons, nns, ih, Bool.and_true]; rfl

theorem hsn_ok (r : Mem) (v : Int) (h : m_vG v = true) : GrT Tryz.prog r 44 [I v] (U (m_bit v)) :=
  GrT.of (SC_ok r) TOk.nil .nil rfl ⟨1, 3, by
    simp only [m_vG, Bool.and_eq_true, decide_eq_true_eq] at h
    rw [hsnA, dF (show ¬ v < 0 by omega), Bool.not_false, cond_true]
    obtain ⟨i, rfl⟩ : ∃ i : Nat, v = i := ⟨v.toNat, by omega⟩
    have hi : i < 16 := by omega
    have e : IntKind.wrap IntKind.u64 (Int.ofNat 1 * Int.ofNat 2 ^ min (Int.toNat (i : Int)) 64) = m_bit (i : Int) := by
      have : ∀ j : Fin 16, IntKind.wrap IntKind.u64 (Int.ofNat 1 * Int.ofNat 2 ^ min (Int.toNat ((j.val : Nat) : Int)) 64) = m_bit ((j.val : Nat) : Int) := by decide
      exact this ⟨i, hi⟩
    rw [e]; rfl⟩
theorem tHr_ok (r : Mem) : TOk (SC r) tHr := TOk.cons TOk.nil (eI1_ok fun v h => hsn_ok r v h)

def hrOs (n : Int) (z : Nat → Int) : Nat → OO
  | 0 => [some (.cells resH 54 0 0), some (.cells (m_hg n (nbz z 0) (.slice none 0 0)) 54 1 0)]
  | k + 1 => [some (.cells resH 54 0 0), some (.cells (m_hg n (nbz z (k + 1)) (.slice (some ⟨2, 0, none⟩) (k + 1) unk)) 54 1 0), some (.cells (m_ed z (k + 1)) 84 2 2)]
def hrVs (b off len cap : Nat) (k : Nat) : OV := [some (P0 0), some (P0 1), some (RS2 b off len cap), some (I (len : Nat)), some (I (k : Nat))]


theorem of_okAt {n : Int} {z : Nat → Int} {k : Nat} (h : 0 ≤ ea z k ∧ ea z k < eb z k ∧ eb z k < n ∧ n ≤ 16) : ∃ x y : Nat, ea z k = x ∧ eb z k = y ∧ x < y ∧ y < 16 := ⟨(ea z k).toNat, (eb z k).toNat, by omega, by omega, by omega, by omega⟩

theorem hr_round1 (r : Mem) (n : Int) (b off len cap : Nat) (z : Nat → Int) (hz : rowAt r b off (2 * len) z) (hl : len ≤ 1000000) (k : Nat) (hk0 : k = 0) (hk : k < len) (ho : 0 ≤ ea z k ∧ ea z k < eb z k ∧ eb z k < n ∧ n ≤ 16) (Q : OV → List Nat → OO → Prop) (hQ : Q (hrVs b off len cap (k + 1)) [] (hrOs n z (k + 1))) (KX : Nat → OV → List Nat → OO → CR) (kr : KS) :
    run (SC r) 7341811 61 1 Hr_4 (lvlT (SC r) tHr .nil 1 1) none (Outs.ask 0 ⟨lvHr, [.t, .t], Q⟩) (fun i => rbK 0 lvHr [.t, .t] (KX i)) kr [] (bT lvHr (hrVs b off len cap k) .nil) [] (mkA (hrOs n z k)) = okR := by
  have c1 : (k : Int) < Int.ofNat len := by simp; omega
  have c2 : 0 ≤ (k : Int) := by omega
  have c3 : Nat.blt k len = true := Nat.ble_eq_true_of_le (by omega)
  have hx := of_okAt ho
  obtain ⟨x, y, hx1, hy1, hxy, hy16⟩ := hx
  have l0 : r b (Nat.add off (Nat.mul k 2)) = some (I (x : Nat)) := by
    have := hz (2 * k) (by omega)
    rw [show Nat.add off (Nat.mul k 2) = off + 2 * k by simp [Nat.mul_comm], ← hx1]
    exact this
  have l1 : r b (Nat.succ (Nat.add off (Nat.mul k 2))) = some (I (y : Nat)) := by
    have := hz (2 * k + 1) (by omega)
    rw [show Nat.succ (Nat.add off (Nat.mul k 2)) = off + (2 * k + 1) by simp [Nat.mul_comm]; omega, ← hy1]
    exact this
  have w : IntKind.wrap IntKind.i64 ((k : Int) + Int.ofNat 1) = ((k + 1 : Nat) : Int) := by rw [wrI (by simp; omega)]; simp
  have ii : ∀ x, isI IntKind.i64 (I x) = true := fun _ => rfl
  have oo : ∀ x, ofI (I x) = x := fun _ => rfl
  have x0 : 0 ≤ ((x : Nat) : Int) := by omega
  have y0 : 0 ≤ ((y : Nat) : Int) := by omega
  have x16 : Nat.blt x 16 = true := Nat.ble_eq_true_of_le (by omega)
  have y16 : Nat.blt y 16 = true := Nat.ble_eq_true_of_le (by omega)
  have vx : m_vG ((x : Nat) : Int) = true := by simp only [m_vG, Bool.and_eq_true, decide_eq_true_eq]; omega
  have vy : m_vG ((y : Nat) : Int) = true := by simp only [m_vG, Bool.and_eq_true, decide_eq_true_eq]; omega
  have vv : ∀ z : Int, m_eqv (.int .i64 z) (.int .i64 z) = true := fun z => by simp [m_eqv, veq]
  have hl16 : ∀ zs : List Int, zs.length = 16 → ∀ e : Value, ∀ i, i < 16 → Nat.blt (Nat.add 1 (Nat.mul i 1)) (m_hg n zs e).length = true := fun zs hzs e i hi => Nat.ble_eq_true_of_le (by rw [hg_len, hzs]; simp; omega)
  have ez : jnZ (nbz z k) x y = nbz z (k + 1) := by rw [nbz, hx1, hy1]; simp
  have gx : ∀ e, (m_hg n (nbz z k) e)[Nat.add 1 (Nat.mul x 1)]? = some (U ((nbz z k).getD x 0)) := fun e => hg_get (by rw [nbz_len]; omega)
  have gl : ∀ e, Nat.blt (Nat.add 1 (Nat.mul x 1)) (m_hg n (nbz z k) e).length = true := fun e => hl16 _ (nbz_len z k) e x (by omega)
  have gs : ∀ e (u : Int), (m_hg n (nbz z k) e).set (Nat.add 1 (Nat.mul x 1)) (.int .u64 u) = m_hg n ((nbz z k).set x u) e := fun e u => hg_set (by rw [nbz_len]; omega) u
  have gy : ∀ e (u : Int), (m_hg n ((nbz z k).set x u) e)[Nat.add 1 (Nat.mul y 1)]? = some (U (((nbz z k).set x u).getD y 0)) := fun e u => hg_get (by rw [List.length_set, nbz_len]; omega)
  have gl2 : ∀ e (u : Int), Nat.blt (Nat.add 1 (Nat.mul y 1)) (m_hg n ((nbz z k).set x u) e).length = true := fun e u => hl16 _ (by rw [List.length_set, nbz_len]) e y (by omega)
  have gs2 : ∀ e (u v : Int), (m_hg n ((nbz z k).set x u) e).set (Nat.add 1 (Nat.mul y 1)) (.int .u64 v) = m_hg n (((nbz z k).set x u).set y v) e := fun e u v => hg_set (by rw [List.length_set, nbz_len]; omega) v
  obtain ⟨z0, z1, z2, z3, z4, z5, z6, z7, z8, z9, z10, z11, z12, z13, z14, z15, hz16⟩ := list16 (nbz_len z k)
  have hOs : hrOs n z k = [some (.cells resH 54 0 0), some (.cells (m_hg n (nbz z k) (.slice none 0 0)) 54 1 0)] := by rw [hk0]; rfl
  have hn := hrB1 r n b off len cap k z0 z1 z2 z3 z4 z5 z6 z7 z8 z9 z10 z11 z12 z13 z14 z15 (Outs.ask 0 ⟨lvHr, [.t, .t], Q⟩) KX kr
  simp only [dT c1, dT c2, c3, cond_true, Int.toNat_natCast, l0, l1, ii, oo, dT x0, dT y0, x16, y16, vx, vy, vv, w, hg_lit, ← hz16, gx, gl, isI_u, ofI_u, veq_u, gs, gy, gl2, gs2, bit_of] at hn
  have es : ((nbz z k).set x (ibits BinOp.or IntKind.u64 ((nbz z k).getD x 0) (bit y))).set y (ibits BinOp.or IntKind.u64 (((nbz z k).set x (ibits BinOp.or IntKind.u64 ((nbz z k).getD x 0) (bit y))).getD y 0) (bit x)) = nbz z (k + 1) := ez
  rw [es] at hn
  rw [hOs]
  refine Eq.trans hn ?_
  obtain ⟨y0, y1, y2, y3, y4, y5, y6, y7, y8, y9, y10, y11, y12, y13, y14, y15, hy16'⟩ := list16 (nbz_len z (k + 1))
  rw [hrOs, hy16'] at hQ
  rw [hy16']
  subst hk0
  have hQ' : Q (hrVs b off len cap 1) [] [some (.cells resH 54 0 0), some (.cells [I n, U y0, U y1, U y2, U y3, U y4, U y5, U y6, U y7, U y8, U y9, U y10, U y11, U y12, U y13, U y14, U y15, .slice (some ⟨2, 0, none⟩) 1 unk] 54 1 0), some (.cells [I (x : Nat), I (y : Nat)] 84 2 2)] := by
    have e : m_ed z 1 = [I (x : Nat), I (y : Nat)] := by rw [← hx1, ← hy1]; rfl
    rw [← e]
    exact hQ
  exact Eq.trans (by kernel_rfl) (qq_ok hQ')

theorem hr_round2 (r : Mem) (n : Int) (b off len cap : Nat) (z : Nat → Int) (hz : rowAt r b off (2 * len) z) (hl : len < 1000000) (k' k : Nat) (hk0 : k = k' + 1) (hk : k < len) (ho : 0 ≤ ea z k ∧ ea z k < eb z k ∧ eb z k < n ∧ n ≤ 16) (Q : OV → List Nat → OO → Prop) (hQ : Q (hrVs b off len cap (k + 1)) [] (hrOs n z (k + 1))) (KX : Nat → OV → List Nat → OO → CR) (kr : KS) :
    run (SC r) 7341811 61 1 Hr_4 (lvlT (SC r) tHr .nil 1 1) none (Outs.ask 0 ⟨lvHr, [.t, .t], Q⟩) (fun i => rbK 0 lvHr [.t, .t] (KX i)) kr [] (bT lvHr (hrVs b off len cap k) .nil) [] (mkA (hrOs n z k)) = okR := by
  have c1 : (k : Int) < Int.ofNat len := by simp; omega
  have c2 : 0 ≤ (k : Int) := by omega
  have c3 : Nat.blt k len = true := Nat.ble_eq_true_of_le (by omega)
  have hx := of_okAt ho
  obtain ⟨x, y, hx1, hy1, hxy, hy16⟩ := hx
  have l0 : r b (Nat.add off (Nat.mul k 2)) = some (I (x : Nat)) := by
    have := hz (2 * k) (by omega)
    rw [show Nat.add off (Nat.mul k 2) = off + 2 * k by simp [Nat.mul_comm], ← hx1]
    exact this
  have l1 : r b (Nat.succ (Nat.add off (Nat.mul k 2))) = some (I (y : Nat)) := by
    have := hz (2 * k + 1) (by omega)
    rw [show Nat.succ (Nat.add off (Nat.mul k 2)) = off + (2 * k + 1) by simp [Nat.mul_comm]; omega, ← hy1]
    exact this
  have w : IntKind.wrap IntKind.i64 ((k : Int) + Int.ofNat 1) = ((k + 1 : Nat) : Int) := by rw [wrI (by simp; omega)]; simp
  have ii : ∀ x, isI IntKind.i64 (I x) = true := fun _ => rfl
  have oo : ∀ x, ofI (I x) = x := fun _ => rfl
  have x0 : 0 ≤ ((x : Nat) : Int) := by omega
  have y0 : 0 ≤ ((y : Nat) : Int) := by omega
  have x16 : Nat.blt x 16 = true := Nat.ble_eq_true_of_le (by omega)
  have y16 : Nat.blt y 16 = true := Nat.ble_eq_true_of_le (by omega)
  have vx : m_vG ((x : Nat) : Int) = true := by simp only [m_vG, Bool.and_eq_true, decide_eq_true_eq]; omega
  have vy : m_vG ((y : Nat) : Int) = true := by simp only [m_vG, Bool.and_eq_true, decide_eq_true_eq]; omega
  have vv : ∀ z : Int, m_eqv (.int .i64 z) (.int .i64 z) = true := fun z => by simp [m_eqv, veq]
  have hl16 : ∀ zs : List Int, zs.length = 16 → ∀ e : Value, ∀ i, i < 16 → Nat.blt (Nat.add 1 (Nat.mul i 1)) (m_hg n zs e).length = true := fun zs hzs e i hi => Nat.ble_eq_true_of_le (by rw [hg_len, hzs]; simp; omega)
  have ez : jnZ (nbz z k) x y = nbz z (k + 1) := by rw [nbz, hx1, hy1]; simp
  have gx : ∀ e, (m_hg n (nbz z k) e)[Nat.add 1 (Nat.mul x 1)]? = some (U ((nbz z k).getD x 0)) := fun e => hg_get (by rw [nbz_len]; omega)
  have gl : ∀ e, Nat.blt (Nat.add 1 (Nat.mul x 1)) (m_hg n (nbz z k) e).length = true := fun e => hl16 _ (nbz_len z k) e x (by omega)
  have gs : ∀ e (u : Int), (m_hg n (nbz z k) e).set (Nat.add 1 (Nat.mul x 1)) (.int .u64 u) = m_hg n ((nbz z k).set x u) e := fun e u => hg_set (by rw [nbz_len]; omega) u
  have gy : ∀ e (u : Int), (m_hg n ((nbz z k).set x u) e)[Nat.add 1 (Nat.mul y 1)]? = some (U (((nbz z k).set x u).getD y 0)) := fun e u => hg_get (by rw [List.length_set, nbz_len]; omega)
  have gl2 : ∀ e (u : Int), Nat.blt (Nat.add 1 (Nat.mul y 1)) (m_hg n ((nbz z k).set x u) e).length = true := fun e u => hl16 _ (by rw [List.length_set, nbz_len]) e y (by omega)
  have gs2 : ∀ e (u v : Int), (m_hg n ((nbz z k).set x u) e).set (Nat.add 1 (Nat.mul y 1)) (.int .u64 v) = m_hg n (((nbz z k).set x u).set y v) e := fun e u v => hg_set (by rw [List.length_set, nbz_len]; omega) v
  obtain ⟨z0, z1, z2, z3, z4, z5, z6, z7, z8, z9, z10, z11, z12, z13, z14, z15, hz16⟩ := list16 (nbz_len z k)
  have hOs : hrOs n z k = [some (.cells resH 54 0 0), some (.cells (m_hg n (nbz z k) (.slice (some ⟨2, 0, none⟩) k unk)) 54 1 0), some (.cells (m_ed z k) 84 2 2)] := by rw [hk0]; rfl
  have hn := hrB2 r n b off len cap k z0 z1 z2 z3 z4 z5 z6 z7 z8 z9 z10 z11 z12 z13 z14 z15 k (m_ed z k) (Outs.ask 0 ⟨lvHr, [.t, .t], Q⟩) KX kr
  have m1 : Nat.ble (Nat.add k 1) 1000000 = true := Nat.ble_eq_true_of_le (by simp; omega)
  have tk : takeAt (m_ed z k) 0 (Nat.mul k 2) = some (m_ed z k) := takeAt_all _ _ (by rw [ed_len]; simp [Nat.mul_comm])
  simp only [dT c1, dT c2, c3, cond_true, Int.toNat_natCast, l0, l1, ii, oo, dT x0, dT y0, x16, y16, vx, vy, vv, w, m1, tk, hg_lit, ← hz16, gx, gl, isI_u, ofI_u, veq_u, gs, gy, gl2, gs2, bit_of] at hn
  have es : ((nbz z k).set x (ibits BinOp.or IntKind.u64 ((nbz z k).getD x 0) (bit y))).set y (ibits BinOp.or IntKind.u64 (((nbz z k).set x (ibits BinOp.or IntKind.u64 ((nbz z k).getD x 0) (bit y))).getD y 0) (bit x)) = nbz z (k + 1) := ez
  rw [es] at hn
  rw [hOs]
  refine Eq.trans hn ?_
  obtain ⟨y0, y1, y2, y3, y4, y5, y6, y7, y8, y9, y10, y11, y12, y13, y14, y15, hy16'⟩ := list16 (nbz_len z (k + 1))
  rw [hrOs, hy16'] at hQ
  rw [hy16']
  have ee := ed_succ z k
  rw [hx1, hy1] at ee
  have nn1 := ed_nn z (k + 1)
  rw [← ee] at hQ nn1
  refine Eq.trans (b := guardK (m_nns (m_ed z k ++ [I (x : Nat), I (y : Nat)]) && true) (qq (Q (hrVs b off len cap (k + 1)) [] [some (.cells resH 54 0 0), some (.cells (m_hg n [y0, y1, y2, y3, y4, y5, y6, y7, y8, y9, y10, y11, y12, y13, y14, y15] (.slice (some ⟨2, 0, none⟩) (k + 1) unk)) 54 1 0), some (.cells (m_ed z k ++ [I (x : Nat), I (y : Nat)]) 84 2 2)]))) (by kernel_rfl) ?_
  rw [nn1]
  exact qq_ok hQ

end Go.Proofs

/- hue's degree, run. -/
set_option linter.unusedVariables false
set_option linter.unusedSimpArgs false
namespace Go.Proofs
open Go Go.Ev Go.Num
set_option maxRecDepth 100000

noncomputable def cHg : Code := bodyOf S0 23
noncomputable def Hg_0 : Code := (lc cHg)
noncomputable def Hg_1 : Code := (lc (rc cHg))
noncomputable def Hg_2 : Code := (lc (lc (rc (rc cHg))))
noncomputable def Hg_3 : Code := (ic (ic (rc (lc (rc (rc cHg))))))
noncomputable def Hg_4 : Code := (rc (rc (rc cHg)))
theorem Hg_eq : cHg = (.seq Hg_0 (.seq Hg_1 (.seq (.seq Hg_2 (.block 0 (.loop Hg_3))) Hg_4))) := by kernel_rfl
def lvHg : List Nat := [1, 3, 6, 7]
def tHg : Tbl := tcons 77 ePop fun _ => none

theorem hgA (r : Mem) (n : Int) (l : List Value) (fs : FnsC) (K : OV → List Nat → OO → CR) (kx : Nat → KS) (kr : KS) : run (SC r) 223 19 1 (.seq Hg_0 (.seq Hg_1 Hg_2)) fs none (rbK 0 lvHg [] K) kx kr (sc0 223 [.agg ⟨I n :: l⟩]) (tr0 223 [.agg ⟨I n :: l⟩]) [] emptyA =
    bif m_nns (Value.int IntKind.i64 n :: l) && true then K [some (Value.pointer (some (Addr.mk 0 0 none))), some (Value.int IntKind.i64 (Int.ofNat 0)), some (Value.int IntKind.i64 n), some (Value.int IntKind.i64 (Int.ofNat 0))] [] [some (AObj.cells (Value.int IntKind.i64 n :: l) 54 0 0)] else CR.fail 420 := by kernel_rfl

theorem hgB (r : Mem) (n most i : Int) (l : List Value) (K : OV → List Nat → OO → CR) (KX : Nat → OV → List Nat → OO → CR) (kr : KS) : run (SC r) 223 19 1 Hg_3 (lvlT (SC r) tHg .nil 1 3) none (rbK 0 lvHg [] K) (fun i => rbK 0 lvHg [] (KX i)) kr [] (bT lvHg [some (P0 0), some (I most), some (I n), some (I i)] .nil) [] (mkA [some (.cells (I n :: l) 54 0 0)]) =
    bif decide (i < n) then bif decide (0 ≤ i) then bif Nat.blt (Int.toNat i) 16 then Option.casesOn (Value.int IntKind.i64 n :: l)[Nat.add 1 (Nat.mul (Int.toNat i) 1)]? (CR.fail 423) fun val => bif isI IntKind.u64 val then bif m_popG (ofI val) then bif m_nns (Value.int IntKind.i64 n :: l) && true then K [some (Value.pointer (some (Addr.mk 0 0 none))), some (Value.int IntKind.i64 (bif decide (m_pop (ofI val) > most) then m_pop (ofI val) else most)), some (Value.int IntKind.i64 n), some (Value.int IntKind.i64 (IntKind.wrap IntKind.i64 (i + Int.ofNat 1)))] [] [some (AObj.cells (Value.int IntKind.i64 n :: l) 54 0 0)] else CR.fail 420 else CR.fail 420 else CR.fail 420 else CR.fail 420 else CR.fail 420 else bif m_nns (Value.int IntKind.i64 n :: l) && true then KX 0 [some (Value.pointer (some (Addr.mk 0 0 none))), some (Value.int IntKind.i64 most), some (Value.int IntKind.i64 n), some (Value.int IntKind.i64 i)] [] [some (AObj.cells (Value.int IntKind.i64 n :: l) 54 0 0)] else CR.fail 420 := by kernel_rfl

theorem hgC (r : Mem) (n most i : Int) (c : List Value) (fs : FnsC) (K : OV → List Nat → OO → CR) (kn : KS) (kx : Nat → KS) : run (SC r) 223 19 1 Hg_4 fs none kn kx (rbK 0 [2] [] K) [] (bT lvHg [some (P0 0), some (I most), some (I n), some (I i)] .nil) [] (mkA [some (.cells c 54 0 0)]) =
    K [some (Value.int IntKind.i64 most)] [] [] := by kernel_rfl

theorem tHg_ok (r : Mem) : TOk (SC r) tHg := TOk.cons TOk.nil (ePop_ok r)

theorem hg_nn (n : Int) (zs : List Int) (e : Value) (he : nn e = true) : m_nns (m_hg n zs e) = true := by
  show (nn (I n) && nns (zs.map U ++ [e])) = true
  rw [show nn (I n) = true from rfl, Bool.true_and]
  induction zs with
  | nil => show (nn e && true) = true; rw [he]; rfl
  | cons x l ih => show (true && nns (l.map U ++ [e])) = true; rw [ih]; rfl

theorem hdeg_ok (r : Mem) (m : Nat) (zs : List Int) (hl : zs.length = 16) (hm : m ≤ 16) (w : Nat → Nat) (hz : ∀ k, k < m → zs.getD k 0 = (w k : Nat)) (hw : ∀ k, k < m → w k < 65536) (e : Value) (he : nn e = true) :
    GrT Tryz.prog r 23 [.agg ⟨m_hg m zs e⟩] (I (mxN w m : Nat)) := by
  have hnn := hg_nn m zs e he
  refine GrT.ofS (C := SC r) rfl rfl rfl (callL (SC_ok r) (by kernel_rfl) ((bodySC r _).trans Hg_eq) (nt := 19) (by kernel_rfl) (rs := [.tmp 2]) (by kernel_rfl) 223 rfl (.step (.step .base)) TOk.nil (tm := .nil) (L := 1) (d := 1) lvHg []
    (fun j vs ms os => ∃ k, k ≤ m ∧ j = m - k ∧ vs = [some (P0 0), some (I (mxN w k : Nat)), some (I (m : Nat)), some (I (k : Nat))] ∧ ms = [] ∧ os = [some (.cells (m_hg m zs e) 54 0 0)])
    ⟨lvHg, [], fun vs ms os => vs = [some (P0 0), some (I (mxN w m : Nat)), some (I (m : Nat)), some (I (m : Nat))] ∧ ms = [] ∧ os = [some (.cells (m_hg m zs e) 54 0 0)]⟩
    ⟨[2], [], fun vs ms os => vs = [some (I (mxN w m : Nat))] ∧ ms = [] ∧ os = []⟩ ?_ ?_ ?_ ?_)
  · have hn := fun K => hgA r m (zs.map U ++ [e]) (lvlT (SC r) (fun _ => none) .nil 1 1) K
    rw [show I (m : Int) :: (zs.map U ++ [e]) = m_hg m zs e from rfl] at hn
    simp only [hnn, cond_true, Bool.and_true] at hn
    exact (hn _ _ _).trans (qq_ok ⟨m, 0, Nat.zero_le _, rfl, rfl, rfl, rfl⟩)
  · rintro j vs ms os ⟨k, hk, rfl, rfl, rfl, rfl⟩
    refine ⟨tHg, tHg_ok r, .nil, 1, 1, 3, ?_⟩
    have hn := hgB r m (mxN w k : Nat) k (zs.map U ++ [e])
    rw [show I (m : Int) :: (zs.map U ++ [e]) = m_hg m zs e from rfl] at hn
    by_cases c : k < m
    · have c1 : (k : Int) < (m : Int) := by omega
      have c2 : 0 ≤ (k : Int) := by omega
      have c3 : Nat.blt k 16 = true := Nat.ble_eq_true_of_le (by omega)
      have e1 : (m_hg m zs e)[Nat.add 1 (Nat.mul k 1)]? = some (U (w k : Nat)) := by rw [hg_get (by omega), hz k c]
      have g : m_popG (w k : Nat) = true := decide_eq_true ⟨by omega, by have := hw k c; omega⟩
      have e2 : m_pop (w k : Nat) = (popN 16 (w k) : Nat) := by simp [m_pop]
      have e3 : IntKind.wrap IntKind.i64 ((k : Int) + Int.ofNat 1) = ((k + 1 : Nat) : Int) := by rw [wrI (by simp; omega)]; simp
      have e4 : (bif decide (((popN 16 (w k) : Nat) : Int) > (mxN w k : Nat)) then ((popN 16 (w k) : Nat) : Int) else (mxN w k : Nat)) = (mxN w (k + 1) : Nat) := by
        rw [mxN]
        by_cases h : ((popN 16 (w k) : Nat) : Int) > (mxN w k : Nat)
        · rw [dT h, cond_true, Nat.max_eq_right (by omega)]
        · rw [dF h, cond_false, Nat.max_eq_left (by omega)]
      simp only [dT c1, dT c2, cond_true, Int.toNat_natCast, c3, e1, isI_u, ofI_u, g, e2, e3, e4, hnn, Bool.and_true] at hn
      exact (hn _ _ _).trans <| qq_ok ⟨m - (k + 1), by omega, k + 1, c, rfl, rfl, rfl, rfl⟩
    · have hkl : k = m := by omega
      subst hkl
      have c1 : ¬ (k : Int) < (k : Int) := by omega
      simp only [dF c1, cond_false, hnn, Bool.and_true, cond_true] at hn
      exact (hn _ _ _).trans <| qq_ok ⟨rfl, rfl, rfl⟩
  · rintro vs ms os ⟨rfl, rfl, rfl⟩
    exact ⟨_, TOk.nil, .nil, 1, 1, 1, (hgC r m _ m _ _ _ _ _).trans (qq_ok ⟨rfl, rfl, rfl⟩)⟩
  · rintro vs ms os ⟨rfl, rfl, rfl⟩
    exact ⟨_, mkA [], by kernel_rfl, rfl⟩

end Go.Proofs

/- hue's reading of a graph and its degree: what the calls answer. -/
set_option linter.unusedVariables false
set_option linter.unusedSimpArgs false
namespace Go.Proofs
open Go Go.Ev Go.Num
set_option maxRecDepth 100000

/-- The words of neighbours, the program's and the reference's. -/
theorem nb_same (m : Nat) (hm : m ≤ 16) (z : Nat → Int) : ∀ k, (∀ i, i < k → 0 ≤ ea z i ∧ ea z i < eb z i ∧ eb z i < m) → ∀ i, i < m → (nbz z k).getD i 0 = ((nbN m z k).getD i 0 : Nat)
  | 0, _, i, hi => by
    rw [nbz, nbN, List.getD_eq_getElem?_getD, List.getD_eq_getElem?_getD, List.getElem?_replicate_of_lt (by omega), List.getElem?_replicate_of_lt (by omega)]
    rfl
  | k + 1, h, i, hi => by
    have ih := nb_same m hm z k fun i hi => h i (by omega)
    obtain ⟨x, y, hx, hy, hxy, hy16⟩ := of_okAt (n := (m : Int)) (z := z) (k := k) ⟨(h k (by omega)).1, (h k (by omega)).2.1, (h k (by omega)).2.2, by omega⟩
    have hym : y < m := by have := (h k (by omega)).2.2; omega
    have hw := nbN_lt m z (n := (m : Int)) (by omega) k fun i hi => h i (by omega)
    rw [nbz, nbN, hx, hy, Int.toNat_natCast, Int.toNat_natCast]
    have step : ∀ (zs : List Int) (ws : List Nat), zs.length = 16 → ws.length = m → (∀ w ∈ ws, w < 65536) → (∀ i, i < m → zs.getD i 0 = (ws.getD i 0 : Nat)) → ∀ (u v : Nat), u < m → v < 16 → ∀ i, i < m → (addB zs u (bit v)).getD i 0 = ((orN ws u v).getD i 0 : Nat) := fun zs ws hz hl hw hs u v hu hv i hi => by
      unfold addB orN
      have g1 : ∀ (l : List Int) (a : Int), i < l.length → (l.set u a).getD i 0 = if u = i then a else l.getD i 0 := fun l a h => by
        simp only [List.getD_eq_getElem?_getD, List.getElem?_set]
        by_cases c : u = i
        · subst c; rw [if_pos rfl, if_pos rfl, if_pos h]; rfl
        · rw [if_neg c, if_neg c]
      have g2 : ∀ (l : List Nat) (a : Nat), i < l.length → (l.set u a).getD i 0 = if u = i then a else l.getD i 0 := fun l a h => by
        simp only [List.getD_eq_getElem?_getD, List.getElem?_set]
        by_cases c : u = i
        · subst c; rw [if_pos rfl, if_pos rfl, if_pos h]; rfl
        · rw [if_neg c, if_neg c]
      rw [g1 _ _ (by omega), g2 _ _ (by omega)]
      by_cases c : u = i
      · subst c
        rw [if_pos rfl, if_pos rfl]
        unfold orB
        rw [hs u hi, show bit v = ((2 ^ v : Nat) : Int) by unfold bit; simp]
        exact or_nat (.inl rfl) (getD_lt hw u) (bit16 hv)
      · rw [if_neg c, if_neg c]
        exact hs i hi
    have s1 := step (nbz z k) (nbN m z k) (nbz_len z k) (nbN_len m z k) hw ih x y (by omega) hy16
    exact step _ _ (by rw [addB_len]; exact nbz_len z k) (by rw [orN_len]; exact nbN_len m z k) (orN_lt hw x hy16) s1 y x hym (by omega) i hi

def m_hdg (n : Int) (z : Nat → Int) (len : Nat) : Int := (mxN (fun i => (nbN n.toNat z len).getD i 0) n.toNat : Nat)

theorem ck_valid {n : Int} {z : Nat → Int} {len : Nat} (h : ckG n z len = 0) : 1 ≤ n ∧ n ≤ 16 ∧ okAll n z len = true := by
  unfold ckG at h
  split at h
  · cases h
  · split at h
    · rename_i h1 h2; exact ⟨by omega, by omega, h2⟩
    · cases h

def vRd (n : Int) (z : Nat → Int) (len : Nat) : Value := .tuple ⟨[.agg ⟨m_hg n (nbz z len) (match len with | 0 => .slice none 0 0 | k + 1 => .slice (some ⟨1, 0, none⟩) (k + 1) unk)⟩, I 0]⟩
def aRd (n : Int) (z : Nat → Int) : Nat → AW
  | 0 => mkA [some (.cells (m_hg n (nbz z 0) (.slice none 0 0)) 54 0 0)]
  | k + 1 => mkA [some (.cells (m_hg n (nbz z (k + 1)) (.slice (some ⟨1, 0, none⟩) (k + 1) unk)) 54 0 0), some (.cells (m_ed z (k + 1)) 84 1 2)]

theorem hrC1 (r : Mem) (n : Int) (b off len cap : Nat) (i : Int) (z0 z1 z2 z3 z4 z5 z6 z7 z8 z9 z10 z11 z12 z13 z14 z15 : Int) (fs : FnsC) (K : OV → List Nat → OO → CR) (kn : KS) (kx : Nat → KS) : run (SC r) 7341811 61 1 Hr_5 fs none kn kx (rbK 0 [4, 5] [.t] K) [] (bT lvHr [some (P0 0), some (P0 1), some (RS2 b off len cap), some (I (len : Nat)), some (I i)] .nil) [] (mkA [some (.cells resH 54 0 0), some (.cells [I n, U z0, U z1, U z2, U z3, U z4, U z5, U z6, U z7, U z8, U z9, U z10, U z11, U z12, U z13, U z14, U z15, .slice none 0 0] 54 1 0)]) =
    K [some (Value.pointer (some (Addr.mk 0 0 none))), some (Value.int IntKind.i64 (Int.ofNat 0))] [] [some (AObj.cells [Value.int IntKind.i64 n, Value.int IntKind.u64 z0, Value.int IntKind.u64 z1, Value.int IntKind.u64 z2, Value.int IntKind.u64 z3, Value.int IntKind.u64 z4, Value.int IntKind.u64 z5, Value.int IntKind.u64 z6, Value.int IntKind.u64 z7, Value.int IntKind.u64 z8, Value.int IntKind.u64 z9, Value.int IntKind.u64 z10, Value.int IntKind.u64 z11, Value.int IntKind.u64 z12, Value.int IntKind.u64 z13, Value.int IntKind.u64 z14, Value.int IntKind.u64 z15, Value.slice none 0 0] 54 0 0)] := by kernel_rfl

theorem hrC2 (r : Mem) (n : Int) (b off len cap : Nat) (i : Int) (z0 z1 z2 z3 z4 z5 z6 z7 z8 z9 z10 z11 z12 z13 z14 z15 : Int) (m : Nat) (c : List Value) (fs : FnsC) (K : OV → List Nat → OO → CR) (kn : KS) (kx : Nat → KS) : run (SC r) 7341811 61 1 Hr_5 fs none kn kx (rbK 0 [4, 5] [.t] K) [] (bT lvHr [some (P0 0), some (P0 1), some (RS2 b off len cap), some (I (len : Nat)), some (I i)] .nil) [] (mkA [some (.cells resH 54 0 0), some (.cells [I n, U z0, U z1, U z2, U z3, U z4, U z5, U z6, U z7, U z8, U z9, U z10, U z11, U z12, U z13, U z14, U z15, .slice (some ⟨2, 0, none⟩) m unk] 54 1 0), some (.cells c 84 2 2)]) =
    bif true && (m_nns c && true) then K [some (Value.pointer (some (Addr.mk 0 0 none))), some (Value.int IntKind.i64 (Int.ofNat 0))] [] [some (AObj.cells [Value.int IntKind.i64 n, Value.int IntKind.u64 z0, Value.int IntKind.u64 z1, Value.int IntKind.u64 z2, Value.int IntKind.u64 z3, Value.int IntKind.u64 z4, Value.int IntKind.u64 z5, Value.int IntKind.u64 z6, Value.int IntKind.u64 z7, Value.int IntKind.u64 z8, Value.int IntKind.u64 z9, Value.int IntKind.u64 z10, Value.int IntKind.u64 z11, Value.int IntKind.u64 z12, Value.int IntKind.u64 z13, Value.int IntKind.u64 z14, Value.int IntKind.u64 z15, Value.slice (some (Addr.mk 1 0 none)) m 9223372036854775808] 54 0 0), some (AObj.cells c 84 1 2)] else CR.fail 420 := by kernel_rfl

theorem tHc_ok (r : Mem) (hm : ∀ b j u, tabM b j = some u → r b j = some u) (n : Int) (b off len cap : Nat) (z : Nat → Int) (hz : rowAt r b off (2 * len) z) (hl : len ≤ 1000000) : TOk (SC r) (tHc [I n, RS2 b off len cap] (ckG n z len)) :=
  TOk.cons TOk.nil (entV_ok (partCheck_ok r hm n b off len cap z hz hl) rfl)

theorem hread_ok (r : Mem) (hm : ∀ b j u, tabM b j = some u → r b j = some u) (n : Int) (b off len cap : Nat) (z : Nat → Int) (hz : rowAt r b off (2 * len) z) (hl : len < 1000000) (hok : ckG n z len = 0) :
    SOk (SC r) 22 [I n, RS2 b off len cap] emptyA fun v A => v = vRd n z len ∧ A = aRd n z len := by
  obtain ⟨hn1, hn2, hall⟩ := ck_valid hok
  have h3 := okAll_at hall
  refine callL (SC_ok r) (by kernel_rfl) ((bodySC r _).trans Hr_eq) (nt := 61) (by kernel_rfl) (rs := [.cell 4 54, .tmp 5]) (by kernel_rfl) 7341811 rfl (.step (.step (.step .base))) (t := tHc [I n, RS2 b off len cap] (ckG n z len)) (tHc_ok r hm n b off len cap z hz (by omega)) (tm := .nil) (L := 1) (d := 1) lvHr [.t, .t]
    (fun j vs ms os => ∃ k, k ≤ len ∧ j = len - k ∧ vs = hrVs b off len cap k ∧ ms = [] ∧ os = hrOs n z k)
    ⟨lvHr, [.t, .t], fun vs ms os => vs = hrVs b off len cap len ∧ ms = [] ∧ os = hrOs n z len⟩
    ⟨[4, 5], [.t], fun vs ms os => vs = [some (P0 0), some (I 0)] ∧ ms = [] ∧ finish (SC r) 7341811 [.cell 4 54, .tmp 5] (St.of [4, 5] vs ms os) = .ret (vRd n z len) (aRd n z len)⟩ ?_ ?_ ?_ ?_
  · refine (hrA r n (ckG n z len) b off len cap _ _ _).trans ?_
    rw [show m_same _ _ = true from same_rfl _, cond_true, hok]
    exact qq_ok ⟨len, 0, Nat.zero_le _, rfl, rfl, rfl, rfl⟩
  · rintro j vs ms os ⟨k, hk, rfl, rfl, rfl, rfl⟩
    refine ⟨tHr, tHr_ok r, .nil, 1, 1, 1, ?_⟩
    by_cases c : k < len
    · have ho : 0 ≤ ea z k ∧ ea z k < eb z k ∧ eb z k < n ∧ n ≤ 16 := ⟨(h3 k c).1, (h3 k c).2.1, (h3 k c).2.2, hn2⟩
      have hQ : ∃ j', j' < len - k ∧ ∃ k', k' ≤ len ∧ j' = len - k' ∧ hrVs b off len cap (k + 1) = hrVs b off len cap k' ∧ ([] : List Nat) = [] ∧ hrOs n z (k + 1) = hrOs n z k' := ⟨len - (k + 1), by omega, k + 1, c, rfl, rfl, rfl, rfl⟩
      cases k with
      | zero => exact hr_round1 r n b off len cap z hz (by omega) 0 rfl c ho (fun vs ms os => ∃ j', j' < len - 0 ∧ ∃ k', k' ≤ len ∧ j' = len - k' ∧ vs = hrVs b off len cap k' ∧ ms = [] ∧ os = hrOs n z k') hQ _ _
      | succ k' => exact hr_round2 r n b off len cap z hz hl k' (k' + 1) rfl c ho (fun vs ms os => ∃ j', j' < len - (k' + 1) ∧ ∃ k', k' ≤ len ∧ j' = len - k' ∧ vs = hrVs b off len cap k' ∧ ms = [] ∧ os = hrOs n z k') hQ _ _
    · have hkl : k = len := by omega
      subst hkl
      have c1 : ¬ (k : Int) < Int.ofNat k := by simp
      have hn' := ed_nn z k
      obtain ⟨z0, z1, z2, z3, z4, z5, z6, z7, z8, z9, z10, z11, z12, z13, z14, z15, hz16⟩ := list16 (nbz_len z k)
      cases k with
      | zero =>
        have hn := hrB1 r n b off 0 cap (0 : Nat) z0 z1 z2 z3 z4 z5 z6 z7 z8 z9 z10 z11 z12 z13 z14 z15
        simp only [dF c1, cond_false] at hn
        simp only [hrOs, hz16]
        exact (hn _ _ _).trans (qq_ok ⟨rfl, rfl, rfl⟩)
      | succ k' =>
        have hn := hrB2 r n b off (k' + 1) cap (k' + 1 : Nat) z0 z1 z2 z3 z4 z5 z6 z7 z8 z9 z10 z11 z12 z13 z14 z15 (k' + 1) (m_ed z (k' + 1))
        simp only [dF c1, cond_false, hn', Bool.and_true, cond_true] at hn
        simp only [hrOs, hz16]
        exact (hn _ _ _).trans (qq_ok ⟨rfl, rfl, rfl⟩)
  · rintro vs ms os ⟨rfl, rfl, rfl⟩
    have hn' := ed_nn z len
    obtain ⟨z0, z1, z2, z3, z4, z5, z6, z7, z8, z9, z10, z11, z12, z13, z14, z15, hz16⟩ := list16 (nbz_len z len)
    refine ⟨_, TOk.nil, .nil, 1, 1, 1, ?_⟩
    cases len with
    | zero =>
      simp only [hrOs, hz16]
      exact (hrC1 r n b off 0 cap (0 : Nat) z0 z1 z2 z3 z4 z5 z6 z7 z8 z9 z10 z11 z12 z13 z14 z15 _ _ _ _).trans (qq_ok ⟨rfl, rfl, by simp only [vRd, aRd, hz16]; kernel_rfl⟩)
    | succ k' =>
      simp only [hrOs, hz16]
      have hn := hrC2 r n b off (k' + 1) cap (k' + 1 : Nat) z0 z1 z2 z3 z4 z5 z6 z7 z8 z9 z10 z11 z12 z13 z14 z15 (k' + 1) (m_ed z (k' + 1))
      simp only [hn', Bool.and_true, cond_true] at hn
      exact (hn _ _ _ _).trans (qq_ok ⟨rfl, rfl, by simp only [vRd, aRd, hz16]; kernel_rfl⟩)
  · rintro vs ms os ⟨rfl, rfl, h⟩
    exact ⟨_, _, h, rfl, rfl⟩

end Go.Proofs

/- The law of hue's checks, run. -/
namespace Go.Proofs
open Go Go.Ev Go.Num
set_option linter.unusedVariables false
set_option linter.unusedSimpArgs false
set_option maxRecDepth 100000

/-- A row of pairs of the caller's. -/
noncomputable def m_okL2 (c : List Value) (k len : Nat) : Bool := @decide (len ≤ 1000000 ∧ ∀ j, j < 2 * len → ∃ z : Int, c[k + j]? = some (I z)) (Classical.propDecidable _)
def zAt2 (c : List Value) (j : Nat) : Int := match c[j]? with
  | some (.int _ z) => z
  | _ => 0
def m_ckL (n : Int) (c : List Value) (k len : Nat) : Int := ckG n (fun j => zAt2 c (k + j)) len
def m_bad (n : Int) (c : List Value) (k len : Nat) : Bool := !decide (m_ckL n c k len = 0)
def m_ckN (n : Int) : Int := ckG n (fun _ => 0) 0
def m_badN (n : Int) : Bool := !decide (m_ckN n = 0)

noncomputable def eChk : Ent := ent
  (fun args A => match args with
    | [.int .i64 _, .slice none 0 0] => true
    | [.int .i64 _, .slice (some ⟨i, k, none⟩) len cap] => match A.heap.get i with
      | some (.cells c _ _ _) => m_okL2 c k len && !Nat.beq cap unkE
      | _ => false
    | _ => false)
  (fun args A => match args with
    | [.int .i64 n, .slice none 0 0] => I (m_ckN n)
    | [.int .i64 n, .slice (some ⟨i, k, none⟩) len _] => match A.heap.get i with
      | some (.cells c _ _ _) => I (m_ckL n c k len)
      | _ => undef
    | _ => undef)
def ex0 : List Value → Bool
  | [] => true
  | _ => false
def ex1 : List Value → Bool
  | [.int .i64 _] => true
  | _ => false
def exN : List Value → Bool
  | [.slice none 0 0] => true
  | _ => false
/-- A call at a row that is no graph's. -/
noncomputable def eBad (ex : List Value → Bool) (v : Int → Value) : Ent := ent
  (fun args A => match args with
    | .int .i64 n :: .slice none 0 0 :: l => ex l && m_badN n
    | .int .i64 n :: .slice (some ⟨i, k, none⟩) len cap :: l => match A.heap.get i with
      | some (.cells c _ _ _) => ex l && m_okL2 c k len && !Nat.beq cap unkE && m_bad n c k len
      | _ => false
    | _ => false)
  (fun args A => match args with
    | .int .i64 n :: .slice none 0 0 :: _ => v (m_ckN n)
    | .int .i64 n :: .slice (some ⟨i, k, none⟩) len _ :: _ => match A.heap.get i with
      | some (.cells c _ _ _) => v (m_ckL n c k len)
      | _ => undef
    | _ => undef)
def vIsProper (e : Int) : Value := .tuple ⟨[.bool false, I e]⟩
def vSides (e : Int) : Value := .tuple ⟨[I 0, .bool false, I e]⟩
def vOddRing (e : Int) : Value := .tuple ⟨[.slice none 0 0, .bool false, I e]⟩
def vVizing (e : Int) : Value := .tuple ⟨[.slice none 0 0, I e]⟩
def vKonig (e : Int) : Value := .tuple ⟨[.slice none 0 0, I e]⟩
def vFewest (e : Int) : Value := .tuple ⟨[.slice none 0 0, I e]⟩
def vGalvin (e : Int) : Value := .tuple ⟨[.slice none 0 0, I e]⟩
def vFromLists (e : Int) : Value := .tuple ⟨[.slice none 0 0, .bool false, I e]⟩
def vOrder (e : Int) : Value := .tuple ⟨[.slice none 0 0, I 0, I e]⟩
def vCore (e : Int) : Value := .tuple ⟨[I 0, I e]⟩
def vColours (e : Int) : Value := .tuple ⟨[.slice none 0 0, .bool false, I e]⟩
def vChromatic (e : Int) : Value := .tuple ⟨[I 0, .slice none 0 0, I e]⟩
def vDegree (e : Int) : Value := .tuple ⟨[I 0, I e]⟩
def vBad (e : Int) : Value := .tuple ⟨[.agg ⟨resH⟩, I e]⟩
noncomputable def tHd (a0 : List Value) (v : Value) : Tbl := tcons 22 (entV a0 v) fun _ => none

theorem rd_1 (r : Mem) (n : Int) (b off len cap : Nat) : (lvlT (SC r) (tHc [I n, RS2 b off len cap] 1) .nil 1 3).call 22 [I n, RS2 b off len cap] emptyA fin = bif m_same [I n, RS2 b off len cap] [I n, RS2 b off len cap] then .ret (vBad 1) emptyA else .fail 420 := by kernel_rfl
theorem rd_40 (r : Mem) (n : Int) (b off len cap : Nat) : (lvlT (SC r) (tHc [I n, RS2 b off len cap] 40) .nil 1 3).call 22 [I n, RS2 b off len cap] emptyA fin = bif m_same [I n, RS2 b off len cap] [I n, RS2 b off len cap] then .ret (vBad 40) emptyA else .fail 420 := by kernel_rfl
theorem rdN_1 (r : Mem) (n : Int) : (lvlT (SC r) (tHc [I n, .slice none 0 0] 1) .nil 1 3).call 22 [I n, .slice none 0 0] emptyA fin = bif m_same [I n, .slice none 0 0] [I n, .slice none 0 0] then .ret (vBad 1) emptyA else .fail 420 := by kernel_rfl

theorem rcN (r : Mem) (n : Int) : (lvlT (SC r) (fun _ => none) .nil 2 2).call 4 [I n, .slice none 0 0] emptyA fin =
    bif decide (n < 1) then CR.ret (Value.int IntKind.i64 (Int.ofNat 1)) (AW.mk 0 Tr.nil Tr.nil) else bif decide (n > 16) then CR.ret (Value.int IntKind.i64 (Int.ofNat 1)) (AW.mk 0 Tr.nil Tr.nil) else CR.ret (Value.int IntKind.i64 (Int.ofNat 0)) (AW.mk 0 Tr.nil Tr.nil) := by kernel_rfl

theorem pcN (r : Mem) (n : Int) : (lvlT (SC r) (fun _ => none) .nil 2 3).call 43 [I n, .slice none 0 0] emptyA fin =
    bif decide (n < 1) then CR.ret (Value.int IntKind.i64 (Int.ofNat 1)) (AW.mk 0 Tr.nil Tr.nil) else bif decide (n > 16) then CR.ret (Value.int IntKind.i64 (Int.ofNat 1)) (AW.mk 0 Tr.nil Tr.nil) else CR.ret (Value.int IntKind.i64 (Int.ofNat 0)) (AW.mk 0 Tr.nil Tr.nil) := by kernel_rfl

theorem bIsProper_1 (r : Mem) (n : Int) (b off len cap : Nat) : (lvlT (SC r) (tHd [I n, RS2 b off len cap] (vBad 1)) .nil 1 3).call 9 [I n, RS2 b off len cap, .slice none 0 0] emptyA fin = bif m_same [I n, RS2 b off len cap] [I n, RS2 b off len cap] then .ret (vIsProper 1) emptyA else .fail 420 := by kernel_rfl
theorem bIsProper_40 (r : Mem) (n : Int) (b off len cap : Nat) : (lvlT (SC r) (tHd [I n, RS2 b off len cap] (vBad 40)) .nil 1 3).call 9 [I n, RS2 b off len cap, .slice none 0 0] emptyA fin = bif m_same [I n, RS2 b off len cap] [I n, RS2 b off len cap] then .ret (vIsProper 40) emptyA else .fail 420 := by kernel_rfl
theorem nIsProper_1 (r : Mem) (n : Int) : (lvlT (SC r) (tHd [I n, .slice none 0 0] (vBad 1)) .nil 1 3).call 9 [I n, .slice none 0 0, .slice none 0 0] emptyA fin = bif m_same [I n, .slice none 0 0] [I n, .slice none 0 0] then .ret (vIsProper 1) emptyA else .fail 420 := by kernel_rfl
theorem bSides_1 (r : Mem) (n : Int) (b off len cap : Nat) : (lvlT (SC r) (tHd [I n, RS2 b off len cap] (vBad 1)) .nil 1 3).call 10 [I n, RS2 b off len cap] emptyA fin = bif m_same [I n, RS2 b off len cap] [I n, RS2 b off len cap] then .ret (vSides 1) emptyA else .fail 420 := by kernel_rfl
theorem bSides_40 (r : Mem) (n : Int) (b off len cap : Nat) : (lvlT (SC r) (tHd [I n, RS2 b off len cap] (vBad 40)) .nil 1 3).call 10 [I n, RS2 b off len cap] emptyA fin = bif m_same [I n, RS2 b off len cap] [I n, RS2 b off len cap] then .ret (vSides 40) emptyA else .fail 420 := by kernel_rfl
theorem nSides_1 (r : Mem) (n : Int) : (lvlT (SC r) (tHd [I n, .slice none 0 0] (vBad 1)) .nil 1 3).call 10 [I n, .slice none 0 0] emptyA fin = bif m_same [I n, .slice none 0 0] [I n, .slice none 0 0] then .ret (vSides 1) emptyA else .fail 420 := by kernel_rfl
theorem bOddRing_1 (r : Mem) (n : Int) (b off len cap : Nat) : (lvlT (SC r) (tHd [I n, RS2 b off len cap] (vBad 1)) .nil 1 3).call 11 [I n, RS2 b off len cap] emptyA fin = bif m_same [I n, RS2 b off len cap] [I n, RS2 b off len cap] then .ret (vOddRing 1) emptyA else .fail 420 := by kernel_rfl
theorem bOddRing_40 (r : Mem) (n : Int) (b off len cap : Nat) : (lvlT (SC r) (tHd [I n, RS2 b off len cap] (vBad 40)) .nil 1 3).call 11 [I n, RS2 b off len cap] emptyA fin = bif m_same [I n, RS2 b off len cap] [I n, RS2 b off len cap] then .ret (vOddRing 40) emptyA else .fail 420 := by kernel_rfl
theorem nOddRing_1 (r : Mem) (n : Int) : (lvlT (SC r) (tHd [I n, .slice none 0 0] (vBad 1)) .nil 1 3).call 11 [I n, .slice none 0 0] emptyA fin = bif m_same [I n, .slice none 0 0] [I n, .slice none 0 0] then .ret (vOddRing 1) emptyA else .fail 420 := by kernel_rfl
theorem bVizing_1 (r : Mem) (n : Int) (b off len cap : Nat) : (lvlT (SC r) (tHd [I n, RS2 b off len cap] (vBad 1)) .nil 1 3).call 12 [I n, RS2 b off len cap] emptyA fin = bif m_same [I n, RS2 b off len cap] [I n, RS2 b off len cap] then .ret (vVizing 1) emptyA else .fail 420 := by kernel_rfl
theorem bVizing_40 (r : Mem) (n : Int) (b off len cap : Nat) : (lvlT (SC r) (tHd [I n, RS2 b off len cap] (vBad 40)) .nil 1 3).call 12 [I n, RS2 b off len cap] emptyA fin = bif m_same [I n, RS2 b off len cap] [I n, RS2 b off len cap] then .ret (vVizing 40) emptyA else .fail 420 := by kernel_rfl
theorem nVizing_1 (r : Mem) (n : Int) : (lvlT (SC r) (tHd [I n, .slice none 0 0] (vBad 1)) .nil 1 3).call 12 [I n, .slice none 0 0] emptyA fin = bif m_same [I n, .slice none 0 0] [I n, .slice none 0 0] then .ret (vVizing 1) emptyA else .fail 420 := by kernel_rfl
theorem bKonig_1 (r : Mem) (n : Int) (b off len cap : Nat) : (lvlT (SC r) (tHd [I n, RS2 b off len cap] (vBad 1)) .nil 1 3).call 13 [I n, RS2 b off len cap] emptyA fin = bif m_same [I n, RS2 b off len cap] [I n, RS2 b off len cap] then .ret (vKonig 1) emptyA else .fail 420 := by kernel_rfl
theorem bKonig_40 (r : Mem) (n : Int) (b off len cap : Nat) : (lvlT (SC r) (tHd [I n, RS2 b off len cap] (vBad 40)) .nil 1 3).call 13 [I n, RS2 b off len cap] emptyA fin = bif m_same [I n, RS2 b off len cap] [I n, RS2 b off len cap] then .ret (vKonig 40) emptyA else .fail 420 := by kernel_rfl
theorem nKonig_1 (r : Mem) (n : Int) : (lvlT (SC r) (tHd [I n, .slice none 0 0] (vBad 1)) .nil 1 3).call 13 [I n, .slice none 0 0] emptyA fin = bif m_same [I n, .slice none 0 0] [I n, .slice none 0 0] then .ret (vKonig 1) emptyA else .fail 420 := by kernel_rfl
theorem bFewest_1 (r : Mem) (n : Int) (b off len cap : Nat) : (lvlT (SC r) (tHd [I n, RS2 b off len cap] (vBad 1)) .nil 1 3).call 14 [I n, RS2 b off len cap] emptyA fin = bif m_same [I n, RS2 b off len cap] [I n, RS2 b off len cap] then .ret (vFewest 1) emptyA else .fail 420 := by kernel_rfl
theorem bFewest_40 (r : Mem) (n : Int) (b off len cap : Nat) : (lvlT (SC r) (tHd [I n, RS2 b off len cap] (vBad 40)) .nil 1 3).call 14 [I n, RS2 b off len cap] emptyA fin = bif m_same [I n, RS2 b off len cap] [I n, RS2 b off len cap] then .ret (vFewest 40) emptyA else .fail 420 := by kernel_rfl
theorem nFewest_1 (r : Mem) (n : Int) : (lvlT (SC r) (tHd [I n, .slice none 0 0] (vBad 1)) .nil 1 3).call 14 [I n, .slice none 0 0] emptyA fin = bif m_same [I n, .slice none 0 0] [I n, .slice none 0 0] then .ret (vFewest 1) emptyA else .fail 420 := by kernel_rfl
theorem bGalvin_1 (r : Mem) (n : Int) (b off len cap : Nat) : (lvlT (SC r) (tHd [I n, RS2 b off len cap] (vBad 1)) .nil 1 3).call 15 [I n, RS2 b off len cap, .slice none 0 0] emptyA fin = bif m_same [I n, RS2 b off len cap] [I n, RS2 b off len cap] then .ret (vGalvin 1) emptyA else .fail 420 := by kernel_rfl
theorem bGalvin_40 (r : Mem) (n : Int) (b off len cap : Nat) : (lvlT (SC r) (tHd [I n, RS2 b off len cap] (vBad 40)) .nil 1 3).call 15 [I n, RS2 b off len cap, .slice none 0 0] emptyA fin = bif m_same [I n, RS2 b off len cap] [I n, RS2 b off len cap] then .ret (vGalvin 40) emptyA else .fail 420 := by kernel_rfl
theorem nGalvin_1 (r : Mem) (n : Int) : (lvlT (SC r) (tHd [I n, .slice none 0 0] (vBad 1)) .nil 1 3).call 15 [I n, .slice none 0 0, .slice none 0 0] emptyA fin = bif m_same [I n, .slice none 0 0] [I n, .slice none 0 0] then .ret (vGalvin 1) emptyA else .fail 420 := by kernel_rfl
theorem bFromLists_1 (r : Mem) (n : Int) (b off len cap : Nat) : (lvlT (SC r) (tHd [I n, RS2 b off len cap] (vBad 1)) .nil 1 3).call 16 [I n, RS2 b off len cap, .slice none 0 0] emptyA fin = bif m_same [I n, RS2 b off len cap] [I n, RS2 b off len cap] then .ret (vFromLists 1) emptyA else .fail 420 := by kernel_rfl
theorem bFromLists_40 (r : Mem) (n : Int) (b off len cap : Nat) : (lvlT (SC r) (tHd [I n, RS2 b off len cap] (vBad 40)) .nil 1 3).call 16 [I n, RS2 b off len cap, .slice none 0 0] emptyA fin = bif m_same [I n, RS2 b off len cap] [I n, RS2 b off len cap] then .ret (vFromLists 40) emptyA else .fail 420 := by kernel_rfl
theorem nFromLists_1 (r : Mem) (n : Int) : (lvlT (SC r) (tHd [I n, .slice none 0 0] (vBad 1)) .nil 1 3).call 16 [I n, .slice none 0 0, .slice none 0 0] emptyA fin = bif m_same [I n, .slice none 0 0] [I n, .slice none 0 0] then .ret (vFromLists 1) emptyA else .fail 420 := by kernel_rfl
theorem bOrder_1 (r : Mem) (n : Int) (b off len cap : Nat) : (lvlT (SC r) (tHd [I n, RS2 b off len cap] (vBad 1)) .nil 1 3).call 17 [I n, RS2 b off len cap] emptyA fin = bif m_same [I n, RS2 b off len cap] [I n, RS2 b off len cap] then .ret (vOrder 1) emptyA else .fail 420 := by kernel_rfl
theorem bOrder_40 (r : Mem) (n : Int) (b off len cap : Nat) : (lvlT (SC r) (tHd [I n, RS2 b off len cap] (vBad 40)) .nil 1 3).call 17 [I n, RS2 b off len cap] emptyA fin = bif m_same [I n, RS2 b off len cap] [I n, RS2 b off len cap] then .ret (vOrder 40) emptyA else .fail 420 := by kernel_rfl
theorem nOrder_1 (r : Mem) (n : Int) : (lvlT (SC r) (tHd [I n, .slice none 0 0] (vBad 1)) .nil 1 3).call 17 [I n, .slice none 0 0] emptyA fin = bif m_same [I n, .slice none 0 0] [I n, .slice none 0 0] then .ret (vOrder 1) emptyA else .fail 420 := by kernel_rfl
theorem bCore_1 (r : Mem) (n set : Int) (b off len cap : Nat) : (lvlT (SC r) (tHd [I n, RS2 b off len cap] (vBad 1)) .nil 1 3).call 18 [I n, RS2 b off len cap, I set] emptyA fin = bif m_same [I n, RS2 b off len cap] [I n, RS2 b off len cap] then .ret (vCore 1) emptyA else .fail 420 := by kernel_rfl
theorem bCore_40 (r : Mem) (n set : Int) (b off len cap : Nat) : (lvlT (SC r) (tHd [I n, RS2 b off len cap] (vBad 40)) .nil 1 3).call 18 [I n, RS2 b off len cap, I set] emptyA fin = bif m_same [I n, RS2 b off len cap] [I n, RS2 b off len cap] then .ret (vCore 40) emptyA else .fail 420 := by kernel_rfl
theorem nCore_1 (r : Mem) (n set : Int) : (lvlT (SC r) (tHd [I n, .slice none 0 0] (vBad 1)) .nil 1 3).call 18 [I n, .slice none 0 0, I set] emptyA fin = bif m_same [I n, .slice none 0 0] [I n, .slice none 0 0] then .ret (vCore 1) emptyA else .fail 420 := by kernel_rfl
theorem bColours_1 (r : Mem) (n : Int) (b off len cap : Nat) : (lvlT (SC r) (tHd [I n, RS2 b off len cap] (vBad 1)) .nil 1 3).call 19 [I n, RS2 b off len cap, .slice none 0 0] emptyA fin = bif m_same [I n, RS2 b off len cap] [I n, RS2 b off len cap] then .ret (vColours 1) emptyA else .fail 420 := by kernel_rfl
theorem bColours_40 (r : Mem) (n : Int) (b off len cap : Nat) : (lvlT (SC r) (tHd [I n, RS2 b off len cap] (vBad 40)) .nil 1 3).call 19 [I n, RS2 b off len cap, .slice none 0 0] emptyA fin = bif m_same [I n, RS2 b off len cap] [I n, RS2 b off len cap] then .ret (vColours 40) emptyA else .fail 420 := by kernel_rfl
theorem nColours_1 (r : Mem) (n : Int) : (lvlT (SC r) (tHd [I n, .slice none 0 0] (vBad 1)) .nil 1 3).call 19 [I n, .slice none 0 0, .slice none 0 0] emptyA fin = bif m_same [I n, .slice none 0 0] [I n, .slice none 0 0] then .ret (vColours 1) emptyA else .fail 420 := by kernel_rfl
theorem bChromatic_1 (r : Mem) (n : Int) (b off len cap : Nat) : (lvlT (SC r) (tHd [I n, RS2 b off len cap] (vBad 1)) .nil 1 3).call 20 [I n, RS2 b off len cap] emptyA fin = bif m_same [I n, RS2 b off len cap] [I n, RS2 b off len cap] then .ret (vChromatic 1) emptyA else .fail 420 := by kernel_rfl
theorem bChromatic_40 (r : Mem) (n : Int) (b off len cap : Nat) : (lvlT (SC r) (tHd [I n, RS2 b off len cap] (vBad 40)) .nil 1 3).call 20 [I n, RS2 b off len cap] emptyA fin = bif m_same [I n, RS2 b off len cap] [I n, RS2 b off len cap] then .ret (vChromatic 40) emptyA else .fail 420 := by kernel_rfl
theorem nChromatic_1 (r : Mem) (n : Int) : (lvlT (SC r) (tHd [I n, .slice none 0 0] (vBad 1)) .nil 1 3).call 20 [I n, .slice none 0 0] emptyA fin = bif m_same [I n, .slice none 0 0] [I n, .slice none 0 0] then .ret (vChromatic 1) emptyA else .fail 420 := by kernel_rfl
theorem bDegree_1 (r : Mem) (n : Int) (b off len cap : Nat) : (lvlT (SC r) (tHd [I n, RS2 b off len cap] (vBad 1)) .nil 1 3).call 5 [I n, RS2 b off len cap] emptyA fin = bif m_same [I n, RS2 b off len cap] [I n, RS2 b off len cap] then .ret (vDegree 1) emptyA else .fail 420 := by kernel_rfl
theorem bDegree_40 (r : Mem) (n : Int) (b off len cap : Nat) : (lvlT (SC r) (tHd [I n, RS2 b off len cap] (vBad 40)) .nil 1 3).call 5 [I n, RS2 b off len cap] emptyA fin = bif m_same [I n, RS2 b off len cap] [I n, RS2 b off len cap] then .ret (vDegree 40) emptyA else .fail 420 := by kernel_rfl
theorem nDegree_1 (r : Mem) (n : Int) : (lvlT (SC r) (tHd [I n, .slice none 0 0] (vBad 1)) .nil 1 3).call 5 [I n, .slice none 0 0] emptyA fin = bif m_same [I n, .slice none 0 0] [I n, .slice none 0 0] then .ret (vDegree 1) emptyA else .fail 420 := by kernel_rfl

end Go.Proofs

/- The law of hue's checks, run: graphs, and the law itself. -/
namespace Go.Proofs
open Go Go.Ev Go.Num
set_option linter.unusedVariables false
set_option linter.unusedSimpArgs false
set_option maxRecDepth 100000

/-- A row of small numbers of the caller's. -/
noncomputable def m_okW (c : List Value) (k len : Nat) : Bool := @decide (len ≤ 1000000 ∧ ∀ j, j < len → ∃ w : Nat, w < 65536 ∧ c[k + j]? = some (I (w : Nat))) (Classical.propDecidable _)
def wAt (c : List Value) (j : Nat) : Nat := match c[j]? with
  | some (.int _ z) => z.toNat
  | _ => 0
def m_mx (c : List Value) (k len : Nat) : Int := (mxN (fun j => wAt c (k + j)) len : Nat)
noncomputable def eRdg : Ent := ent
  (fun args A => match args with
    | [.slice (some ⟨i, k, none⟩) len cap] => match A.heap.get i with
      | some (.cells c _ _ _) => m_okW c k len && !Nat.beq cap unkE
      | _ => false
    | _ => false)
  (fun args A => match args with
    | [.slice (some ⟨i, k, none⟩) len _] => match A.heap.get i with
      | some (.cells c _ _ _) => I (m_mx c k len)
      | _ => undef
    | _ => undef)

def m_dg (n : Int) (c : List Value) (k len : Nat) : Int := m_hdg n (fun j => zAt2 c (k + j)) len
def m_dgN (n : Int) : Int := 0
/-- The degree of a graph of the caller's, or what is none. -/
noncomputable def eDeg : Ent := ent
  (fun args A => match args with
    | [.int .i64 _, .slice none 0 0] => true
    | [.int .i64 _, .slice (some ⟨i, k, none⟩) len cap] => match A.heap.get i with
      | some (.cells c _ _ _) => m_okL2 c k len && !Nat.beq cap unkE && Nat.blt len 1000000
      | _ => false
    | _ => false)
  (fun args A => match args with
    | [.int .i64 n, .slice none 0 0] => .tuple ⟨[I 0, I (m_ckN n)]⟩
    | [.int .i64 n, .slice (some ⟨i, k, none⟩) len _] => match A.heap.get i with
      | some (.cells c _ _ _) => .tuple ⟨[I (bif m_bad n c k len then 0 else m_dg n c k len), I (m_ckL n c k len)]⟩
      | _ => undef
    | _ => undef)

/-- The reference's graph, in a new row. -/
def m_of (n : Int) (c : List Value) (k len : Nat) : List Value := m_ws (nbN n.toNat (fun j => zAt2 c (k + j)) len)
def m_ofN (n : Int) : List Value := m_ws (List.replicate n.toNat 0)
noncomputable def eOfR : Ent := ⟨fun args A => match args with
    | [.int .i64 n, .slice none 0 0] => !m_badN n
    | [.int .i64 n, .slice (some ⟨i, k, none⟩) len cap] => match A.heap.get i with
      | some (.cells c _ _ _) => m_okL2 c k len && !Nat.beq cap unkE && !m_bad n c k len
      | _ => false
    | _ => false, fun _ _ => true,
  fun args A => match args with
    | [.int .i64 n, _] => .slice (some ⟨A.next, 0, none⟩) n.toNat n.toNat
    | _ => undef,
  fun args A => match args with
    | [.int .i64 n, .slice none 0 0] => A.new (.cells (m_ofN n) 3 A.next 1)
    | [.int .i64 n, .slice (some ⟨i, k, none⟩) len _] => match A.heap.get i with
      | some (.cells c _ _ _) => A.new (.cells (m_of n c k len) 3 A.next 1)
      | _ => A
    | _ => A, fun _ _ => undef, fun _ A => A⟩

noncomputable def cLw : Code := bodyOf S0 3
noncomputable def Lw_0 : Code := (lc cLw)
noncomputable def Lw_1 : Code := (lc (rc cLw))
noncomputable def Lw_2 : Code := (lc (rc (rc cLw)))
noncomputable def Lw_3 : Code := (rc (rc (rc cLw)))
theorem Lw_eq : cLw = (.seq Lw_0 (.seq Lw_1 (.seq Lw_2 Lw_3))) := by kernel_rfl

def lvLw : List Nat := [0, 2, 6, 7]
noncomputable def tLaw : Tbl := tcons 4 eChk (tcons 5 eDeg (tcons 8 (e0 (.bool true)) (tcons 7 eOfR (tcons 6 eRdg (tcons 9 (eBad exN vIsProper) (tcons 10 (eBad ex0 vSides) (tcons 11 (eBad ex0 vOddRing) (tcons 12 (eBad ex0 vVizing) (tcons 13 (eBad ex0 vKonig) (tcons 14 (eBad ex0 vFewest) (tcons 15 (eBad exN vGalvin) (tcons 16 (eBad exN vFromLists) (tcons 17 (eBad ex0 vOrder) (tcons 18 (eBad ex1 vCore) (tcons 19 (eBad exN vColours) (tcons 20 (eBad ex0 vChromatic) (fun _ => none)))))))))))))))))

theorem lwA (r : Mem) (n set : Int) (b off len cap : Nat) (fs : FnsC) (K : OV → List Nat → OO → CR) (kx : Nat → KS) (kr : KS) : run (SC r) 2199023255551 278 1 (.seq Lw_0 (.seq Lw_1 Lw_2)) fs none (rbK 0 lvLw [] K) kx kr (sc0 2199023255551 [I n, RS2 b off len cap, I set]) (tr0 2199023255551 [I n, RS2 b off len cap, I set]) [] emptyA =
    bif decide (0 ≤ bif decide (130 < Int.ofNat len) then Int.ofNat 130 else Int.ofNat len) then
      bif Nat.beq cap 9223372036854775809 then CR.fail 435
      else
        bif Nat.ble (Int.toNat (bif decide (130 < Int.ofNat len) then Int.ofNat 130 else Int.ofNat len)) cap then
          bif Nat.beq (Int.toNat (bif decide (130 < Int.ofNat len) then Int.ofNat 130 else Int.ofNat len)) 0 then K [some (Value.int IntKind.i64 n), some (Value.int IntKind.i64 set), some (Value.bool false), some (Value.slice none 0 0)] [] []
          else
            bif Nat.ble (Nat.add 0 (Nat.sub (Int.toNat (bif decide (130 < Int.ofNat len) then Int.ofNat 130 else Int.ofNat len)) 0)) 1000000 then
              Option.casesOn
                (match Nat.beq (Nat.sub cap 0) unkE with
                | true => none
                | false => takeF (Cfg.ro (SC r) b) (Nat.add off (Nat.mul 0 (TypeInfo.size Tryz.t59))) (Nat.mul (Nat.sub (Int.toNat (bif decide (130 < Int.ofNat len) then 130 else Int.ofNat len)) 0) (TypeInfo.size Tryz.t59)))
                (CR.fail 443) fun val => bif Nat.beq (List.length val) (Nat.mul (Nat.sub (Int.toNat (bif decide (130 < Int.ofNat len) then Int.ofNat 130 else Int.ofNat len)) 0) 2) then bif Nat.beq (Nat.sub (Int.toNat (bif decide (130 < Int.ofNat len) then Int.ofNat 130 else Int.ofNat len)) 0) 0 then K [some (Value.int IntKind.i64 n), some (Value.int IntKind.i64 set), some (Value.bool false), some (Value.slice none 0 0)] [] [] else bif m_nns val && true then K [some (Value.int IntKind.i64 n), some (Value.int IntKind.i64 set), some (Value.bool false), some (Value.slice (some (Addr.mk 0 0 none)) (Nat.sub (Int.toNat (bif decide (130 < Int.ofNat len) then Int.ofNat 130 else Int.ofNat len)) 0) 9223372036854775808)] [] [some (AObj.cells val 59 0 2)] else CR.fail 420 else CR.fail 420
            else CR.fail 420
        else CR.fail 420
    else CR.fail 420 := by kernel_rfl

theorem lwN (r : Mem) (n set : Int) (fs : FnsC) (K : OV → List Nat → OO → CR) (kx : Nat → KS) (kr : KS) : run (SC r) 2199023255551 278 1 (.seq Lw_0 (.seq Lw_1 Lw_2)) fs none (rbK 0 lvLw [] K) kx kr (sc0 2199023255551 [I n, .slice none 0 0, I set]) (tr0 2199023255551 [I n, .slice none 0 0, I set]) [] emptyA =
    K [some (Value.int IntKind.i64 n), some (Value.int IntKind.i64 set), some (Value.bool false), some (Value.slice none 0 0)] [] [] := by kernel_rfl

theorem lwR (r : Mem) (n set : Int) (m : Nat) (c : List Value) (K KR : OV → List Nat → OO → CR) (kx : Nat → KS) : run (SC r) 2199023255551 278 1 Lw_3 (lvlT (SC r) tLaw .nil 2 1) none (rbK 0 [6] [] K) kx (rbK 0 [6] [] KR) [] (bT lvLw [some (I n), some (I set), some (.bool false), some (.slice (some ⟨0, 0, none⟩) m unk)] .nil) [] (mkA [some (.cells c 59 0 2)]) =
    bif m_okL2 c 0 m && true then bif m_okL2 c 0 m && true && Nat.blt m 1000000 then bif m_ckL n c 0 m == Int.ofNat 0 then bif m_ckL n c 0 m == Int.ofNat 0 then bif m_okL2 c 0 m && true && !m_bad n c 0 m then bif m_okW (m_of n c 0 m) 0 (Int.toNat n) && !Nat.beq (Int.toNat n) 9223372036854775809 then bif (bif m_bad n c 0 m then Int.ofNat 0 else m_dg n c 0 m) == m_mx (m_of n c 0 m) 0 (Int.toNat n) then KR [some (Value.bool true)] [] [] else KR [some (Value.bool false)] [] [] else CR.fail 420 else CR.fail 420 else KR [some (Value.bool false)] [] [] else bif true && m_okL2 c 0 m && true && m_bad n c 0 m then bif true && m_okL2 c 0 m && true && m_bad n c 0 m then bif true && m_okL2 c 0 m && true && m_bad n c 0 m then bif true && m_okL2 c 0 m && true && m_bad n c 0 m then bif true && m_okL2 c 0 m && true && m_bad n c 0 m then bif true && m_okL2 c 0 m && true && m_bad n c 0 m then bif true && m_okL2 c 0 m && true && m_bad n c 0 m then bif true && m_okL2 c 0 m && true && m_bad n c 0 m then bif true && m_okL2 c 0 m && true && m_bad n c 0 m then bif true && m_okL2 c 0 m && true && m_bad n c 0 m then bif true && m_okL2 c 0 m && true && m_bad n c 0 m then bif true && m_okL2 c 0 m && true && m_bad n c 0 m then bif m_ckL n c 0 m == m_ckL n c 0 m then bif m_ckL n c 0 m == m_ckL n c 0 m then bif m_ckL n c 0 m == m_ckL n c 0 m then bif m_ckL n c 0 m == m_ckL n c 0 m then bif m_ckL n c 0 m == m_ckL n c 0 m then bif m_ckL n c 0 m == m_ckL n c 0 m then bif m_ckL n c 0 m == m_ckL n c 0 m then bif m_ckL n c 0 m == m_ckL n c 0 m then bif m_ckL n c 0 m == m_ckL n c 0 m then bif m_ckL n c 0 m == m_ckL n c 0 m then bif m_ckL n c 0 m == m_ckL n c 0 m then bif m_ckL n c 0 m == m_ckL n c 0 m then bif m_ckL n c 0 m == m_ckL n c 0 m then bif IntKind.wrap IntKind.i64 (IntKind.wrap IntKind.i64 (IntKind.wrap IntKind.i64 (IntKind.wrap IntKind.i64 ((bif m_bad n c 0 m then Int.ofNat 0 else m_dg n c 0 m) + Int.ofNat 0) + Int.ofNat 0) + Int.ofNat 0) + Int.ofNat 0) == Int.ofNat 0 then KR [some (Value.bool true)] [] [] else KR [some (Value.bool false)] [] [] else KR [some (Value.bool false)] [] [] else KR [some (Value.bool false)] [] [] else KR [some (Value.bool false)] [] [] else KR [some (Value.bool false)] [] [] else KR [some (Value.bool false)] [] [] else KR [some (Value.bool false)] [] [] else KR [some (Value.bool false)] [] [] else KR [some (Value.bool false)] [] [] else KR [some (Value.bool false)] [] [] else KR [some (Value.bool false)] [] [] else KR [some (Value.bool false)] [] [] else KR [some (Value.bool false)] [] [] else KR [some (Value.bool false)] [] [] else CR.fail 420 else CR.fail 420 else CR.fail 420 else CR.fail 420 else CR.fail 420 else CR.fail 420 else CR.fail 420 else CR.fail 420 else CR.fail 420 else CR.fail 420 else CR.fail 420 else CR.fail 420 else CR.fail 420 else CR.fail 420 := by kernel_rfl

theorem lwE (r : Mem) (n set : Int) (K KR : OV → List Nat → OO → CR) (kx : Nat → KS) : run (SC r) 2199023255551 278 1 Lw_3 (lvlT (SC r) tLaw .nil 2 1) none (rbK 0 [6] [] K) kx (rbK 0 [6] [] KR) [] (bT lvLw [some (I n), some (I set), some (.bool false), some (.slice none 0 0)] .nil) [] (mkA []) =
    bif m_ckN n == Int.ofNat 0 then bif m_ckN n == Int.ofNat 0 then bif !m_badN n then bif m_okW (m_ofN n) 0 (Int.toNat n) && !Nat.beq (Int.toNat n) 9223372036854775809 then bif Int.ofNat 0 == m_mx (m_ofN n) 0 (Int.toNat n) then KR [some (Value.bool true)] [] [] else KR [some (Value.bool false)] [] [] else CR.fail 420 else CR.fail 420 else KR [some (Value.bool false)] [] [] else bif true && m_badN n then bif true && m_badN n then bif true && m_badN n then bif true && m_badN n then bif true && m_badN n then bif true && m_badN n then bif true && m_badN n then bif true && m_badN n then bif true && m_badN n then bif true && m_badN n then bif true && m_badN n then bif true && m_badN n then bif m_ckN n == m_ckN n then bif m_ckN n == m_ckN n then bif m_ckN n == m_ckN n then bif m_ckN n == m_ckN n then bif m_ckN n == m_ckN n then bif m_ckN n == m_ckN n then bif m_ckN n == m_ckN n then bif m_ckN n == m_ckN n then bif m_ckN n == m_ckN n then bif m_ckN n == m_ckN n then bif m_ckN n == m_ckN n then bif m_ckN n == m_ckN n then bif m_ckN n == m_ckN n then KR [some (Value.bool true)] [] [] else KR [some (Value.bool false)] [] [] else KR [some (Value.bool false)] [] [] else KR [some (Value.bool false)] [] [] else KR [some (Value.bool false)] [] [] else KR [some (Value.bool false)] [] [] else KR [some (Value.bool false)] [] [] else KR [some (Value.bool false)] [] [] else KR [some (Value.bool false)] [] [] else KR [some (Value.bool false)] [] [] else KR [some (Value.bool false)] [] [] else KR [some (Value.bool false)] [] [] else KR [some (Value.bool false)] [] [] else KR [some (Value.bool false)] [] [] else CR.fail 420 else CR.fail 420 else CR.fail 420 else CR.fail 420 else CR.fail 420 else CR.fail 420 else CR.fail 420 else CR.fail 420 else CR.fail 420 else CR.fail 420 else CR.fail 420 else CR.fail 420 := by kernel_rfl

def tNil : Tbl := tcons 77 ePop fun _ => none
theorem dN1 : (lvlT (SC fun _ _ => none) tNil .nil 20 6).call 5 [I 1, .slice none 0 0] emptyA fin = .ret (.tuple ⟨[I 0, I 0]⟩) emptyA := by kernel_rfl
theorem oN1 : (lvlT (SC fun _ _ => none) (fun _ => none) .nil 20 3).call 7 [I 1, .slice none 0 0] emptyA finM = .ret (.slice (some ⟨0, 0, none⟩) 1 1) (rowA (m_ws (List.replicate 1 0)) 3 1) := by kernel_rfl
theorem dN2 : (lvlT (SC fun _ _ => none) tNil .nil 20 6).call 5 [I 2, .slice none 0 0] emptyA fin = .ret (.tuple ⟨[I 0, I 0]⟩) emptyA := by kernel_rfl
theorem oN2 : (lvlT (SC fun _ _ => none) (fun _ => none) .nil 20 3).call 7 [I 2, .slice none 0 0] emptyA finM = .ret (.slice (some ⟨0, 0, none⟩) 2 2) (rowA (m_ws (List.replicate 2 0)) 3 1) := by kernel_rfl
theorem dN3 : (lvlT (SC fun _ _ => none) tNil .nil 20 6).call 5 [I 3, .slice none 0 0] emptyA fin = .ret (.tuple ⟨[I 0, I 0]⟩) emptyA := by kernel_rfl
theorem oN3 : (lvlT (SC fun _ _ => none) (fun _ => none) .nil 20 3).call 7 [I 3, .slice none 0 0] emptyA finM = .ret (.slice (some ⟨0, 0, none⟩) 3 3) (rowA (m_ws (List.replicate 3 0)) 3 1) := by kernel_rfl
theorem dN4 : (lvlT (SC fun _ _ => none) tNil .nil 20 6).call 5 [I 4, .slice none 0 0] emptyA fin = .ret (.tuple ⟨[I 0, I 0]⟩) emptyA := by kernel_rfl
theorem oN4 : (lvlT (SC fun _ _ => none) (fun _ => none) .nil 20 3).call 7 [I 4, .slice none 0 0] emptyA finM = .ret (.slice (some ⟨0, 0, none⟩) 4 4) (rowA (m_ws (List.replicate 4 0)) 3 1) := by kernel_rfl
theorem dN5 : (lvlT (SC fun _ _ => none) tNil .nil 20 6).call 5 [I 5, .slice none 0 0] emptyA fin = .ret (.tuple ⟨[I 0, I 0]⟩) emptyA := by kernel_rfl
theorem oN5 : (lvlT (SC fun _ _ => none) (fun _ => none) .nil 20 3).call 7 [I 5, .slice none 0 0] emptyA finM = .ret (.slice (some ⟨0, 0, none⟩) 5 5) (rowA (m_ws (List.replicate 5 0)) 3 1) := by kernel_rfl
theorem dN6 : (lvlT (SC fun _ _ => none) tNil .nil 20 6).call 5 [I 6, .slice none 0 0] emptyA fin = .ret (.tuple ⟨[I 0, I 0]⟩) emptyA := by kernel_rfl
theorem oN6 : (lvlT (SC fun _ _ => none) (fun _ => none) .nil 20 3).call 7 [I 6, .slice none 0 0] emptyA finM = .ret (.slice (some ⟨0, 0, none⟩) 6 6) (rowA (m_ws (List.replicate 6 0)) 3 1) := by kernel_rfl
theorem dN7 : (lvlT (SC fun _ _ => none) tNil .nil 20 6).call 5 [I 7, .slice none 0 0] emptyA fin = .ret (.tuple ⟨[I 0, I 0]⟩) emptyA := by kernel_rfl
theorem oN7 : (lvlT (SC fun _ _ => none) (fun _ => none) .nil 20 3).call 7 [I 7, .slice none 0 0] emptyA finM = .ret (.slice (some ⟨0, 0, none⟩) 7 7) (rowA (m_ws (List.replicate 7 0)) 3 1) := by kernel_rfl
theorem dN8 : (lvlT (SC fun _ _ => none) tNil .nil 20 6).call 5 [I 8, .slice none 0 0] emptyA fin = .ret (.tuple ⟨[I 0, I 0]⟩) emptyA := by kernel_rfl
theorem oN8 : (lvlT (SC fun _ _ => none) (fun _ => none) .nil 20 3).call 7 [I 8, .slice none 0 0] emptyA finM = .ret (.slice (some ⟨0, 0, none⟩) 8 8) (rowA (m_ws (List.replicate 8 0)) 3 1) := by kernel_rfl
theorem dN9 : (lvlT (SC fun _ _ => none) tNil .nil 20 6).call 5 [I 9, .slice none 0 0] emptyA fin = .ret (.tuple ⟨[I 0, I 0]⟩) emptyA := by kernel_rfl
theorem oN9 : (lvlT (SC fun _ _ => none) (fun _ => none) .nil 20 3).call 7 [I 9, .slice none 0 0] emptyA finM = .ret (.slice (some ⟨0, 0, none⟩) 9 9) (rowA (m_ws (List.replicate 9 0)) 3 1) := by kernel_rfl
theorem dN10 : (lvlT (SC fun _ _ => none) tNil .nil 20 6).call 5 [I 10, .slice none 0 0] emptyA fin = .ret (.tuple ⟨[I 0, I 0]⟩) emptyA := by kernel_rfl
theorem oN10 : (lvlT (SC fun _ _ => none) (fun _ => none) .nil 20 3).call 7 [I 10, .slice none 0 0] emptyA finM = .ret (.slice (some ⟨0, 0, none⟩) 10 10) (rowA (m_ws (List.replicate 10 0)) 3 1) := by kernel_rfl
theorem dN11 : (lvlT (SC fun _ _ => none) tNil .nil 20 6).call 5 [I 11, .slice none 0 0] emptyA fin = .ret (.tuple ⟨[I 0, I 0]⟩) emptyA := by kernel_rfl
theorem oN11 : (lvlT (SC fun _ _ => none) (fun _ => none) .nil 20 3).call 7 [I 11, .slice none 0 0] emptyA finM = .ret (.slice (some ⟨0, 0, none⟩) 11 11) (rowA (m_ws (List.replicate 11 0)) 3 1) := by kernel_rfl
theorem dN12 : (lvlT (SC fun _ _ => none) tNil .nil 20 6).call 5 [I 12, .slice none 0 0] emptyA fin = .ret (.tuple ⟨[I 0, I 0]⟩) emptyA := by kernel_rfl
theorem oN12 : (lvlT (SC fun _ _ => none) (fun _ => none) .nil 20 3).call 7 [I 12, .slice none 0 0] emptyA finM = .ret (.slice (some ⟨0, 0, none⟩) 12 12) (rowA (m_ws (List.replicate 12 0)) 3 1) := by kernel_rfl
theorem dN13 : (lvlT (SC fun _ _ => none) tNil .nil 20 6).call 5 [I 13, .slice none 0 0] emptyA fin = .ret (.tuple ⟨[I 0, I 0]⟩) emptyA := by kernel_rfl
theorem oN13 : (lvlT (SC fun _ _ => none) (fun _ => none) .nil 20 3).call 7 [I 13, .slice none 0 0] emptyA finM = .ret (.slice (some ⟨0, 0, none⟩) 13 13) (rowA (m_ws (List.replicate 13 0)) 3 1) := by kernel_rfl
theorem dN14 : (lvlT (SC fun _ _ => none) tNil .nil 20 6).call 5 [I 14, .slice none 0 0] emptyA fin = .ret (.tuple ⟨[I 0, I 0]⟩) emptyA := by kernel_rfl
theorem oN14 : (lvlT (SC fun _ _ => none) (fun _ => none) .nil 20 3).call 7 [I 14, .slice none 0 0] emptyA finM = .ret (.slice (some ⟨0, 0, none⟩) 14 14) (rowA (m_ws (List.replicate 14 0)) 3 1) := by kernel_rfl
theorem dN15 : (lvlT (SC fun _ _ => none) tNil .nil 20 6).call 5 [I 15, .slice none 0 0] emptyA fin = .ret (.tuple ⟨[I 0, I 0]⟩) emptyA := by kernel_rfl
theorem oN15 : (lvlT (SC fun _ _ => none) (fun _ => none) .nil 20 3).call 7 [I 15, .slice none 0 0] emptyA finM = .ret (.slice (some ⟨0, 0, none⟩) 15 15) (rowA (m_ws (List.replicate 15 0)) 3 1) := by kernel_rfl
theorem dN16 : (lvlT (SC fun _ _ => none) tNil .nil 20 6).call 5 [I 16, .slice none 0 0] emptyA fin = .ret (.tuple ⟨[I 0, I 0]⟩) emptyA := by kernel_rfl
theorem oN16 : (lvlT (SC fun _ _ => none) (fun _ => none) .nil 20 3).call 7 [I 16, .slice none 0 0] emptyA finM = .ret (.slice (some ⟨0, 0, none⟩) 16 16) (rowA (m_ws (List.replicate 16 0)) 3 1) := by kernel_rfl

end Go.Proofs

/- hue's degree of a graph. -/
namespace Go.Proofs
open Go Go.Ev Go.Num
set_option linter.unusedVariables false
set_option linter.unusedSimpArgs false
set_option maxRecDepth 100000

noncomputable def eHd (n : Int) (zs : List Int) (e : Value) (d : Int) : Ent := ent (fun args _ => m_same args [.agg ⟨m_hg n zs e⟩]) fun _ _ => I d

theorem hd1 (r : Mem) (n : Int) (b off cap : Nat) (z0 z1 z2 z3 z4 z5 z6 z7 z8 z9 z10 z11 z12 z13 z14 z15 : Int) (d : Int) : (lvlT (SC r) (tcons 22 (entAt [I n, RS2 b off 0 cap] emptyA (.tuple ⟨[.agg ⟨m_hg n [z0, z1, z2, z3, z4, z5, z6, z7, z8, z9, z10, z11, z12, z13, z14, z15] (.slice none 0 0)⟩, I 0]⟩) (mkA [some (.cells (m_hg n [z0, z1, z2, z3, z4, z5, z6, z7, z8, z9, z10, z11, z12, z13, z14, z15] (.slice none 0 0)) 54 0 0)])) (tcons 23 (eHd n [z0, z1, z2, z3, z4, z5, z6, z7, z8, z9, z10, z11, z12, z13, z14, z15] (.slice none 0 0) d) fun _ => none)) .nil 1 3).call 5 [I n, RS2 b off 0 cap] emptyA fin =
    bif m_at [Value.int IntKind.i64 n, Value.slice (some (Addr.mk b off (some 0))) 0 cap] [Value.int IntKind.i64 n, Value.slice (some (Addr.mk b off (some 0))) 0 cap] (AW.mk 0 Tr.nil Tr.nil) (AW.mk 0 Tr.nil Tr.nil) then bif m_same [Value.agg (Array.mk [Value.int IntKind.i64 n, Value.int IntKind.u64 z0, Value.int IntKind.u64 z1, Value.int IntKind.u64 z2, Value.int IntKind.u64 z3, Value.int IntKind.u64 z4, Value.int IntKind.u64 z5, Value.int IntKind.u64 z6, Value.int IntKind.u64 z7, Value.int IntKind.u64 z8, Value.int IntKind.u64 z9, Value.int IntKind.u64 z10, Value.int IntKind.u64 z11, Value.int IntKind.u64 z12, Value.int IntKind.u64 z13, Value.int IntKind.u64 z14, Value.int IntKind.u64 z15, Value.slice none 0 0])] [Value.agg (Array.mk [Value.int IntKind.i64 n, Value.int IntKind.u64 z0, Value.int IntKind.u64 z1, Value.int IntKind.u64 z2, Value.int IntKind.u64 z3, Value.int IntKind.u64 z4, Value.int IntKind.u64 z5, Value.int IntKind.u64 z6, Value.int IntKind.u64 z7, Value.int IntKind.u64 z8, Value.int IntKind.u64 z9, Value.int IntKind.u64 z10, Value.int IntKind.u64 z11, Value.int IntKind.u64 z12, Value.int IntKind.u64 z13, Value.int IntKind.u64 z14, Value.int IntKind.u64 z15, Value.slice none 0 0])] then CR.ret (Value.tuple (Array.mk [Value.int IntKind.i64 d, Value.int IntKind.i64 (Int.ofNat 0)])) (AW.mk 0 Tr.nil Tr.nil) else CR.fail 420 else CR.fail 420 := by kernel_rfl

theorem hd2 (r : Mem) (n : Int) (b off cap k : Nat) (c : List Value) (z0 z1 z2 z3 z4 z5 z6 z7 z8 z9 z10 z11 z12 z13 z14 z15 : Int) (d : Int) : (lvlT (SC r) (tcons 22 (entAt [I n, RS2 b off (k + 1) cap] emptyA (.tuple ⟨[.agg ⟨m_hg n [z0, z1, z2, z3, z4, z5, z6, z7, z8, z9, z10, z11, z12, z13, z14, z15] (.slice (some ⟨1, 0, none⟩) (k + 1) unk)⟩, I 0]⟩) (mkA [some (.cells (m_hg n [z0, z1, z2, z3, z4, z5, z6, z7, z8, z9, z10, z11, z12, z13, z14, z15] (.slice (some ⟨1, 0, none⟩) (k + 1) unk)) 54 0 0), some (.cells c 84 1 2)])) (tcons 23 (eHd n [z0, z1, z2, z3, z4, z5, z6, z7, z8, z9, z10, z11, z12, z13, z14, z15] (.slice (some ⟨1, 0, none⟩) (k + 1) unk) d) fun _ => none)) .nil 1 3).call 5 [I n, RS2 b off (k + 1) cap] emptyA fin =
    bif m_at [Value.int IntKind.i64 n, Value.slice (some (Addr.mk b off (some 0))) (k + 1) cap] [Value.int IntKind.i64 n, Value.slice (some (Addr.mk b off (some 0))) (k + 1) cap] (AW.mk 0 Tr.nil Tr.nil) (AW.mk 0 Tr.nil Tr.nil) then bif m_same [Value.agg (Array.mk [Value.int IntKind.i64 n, Value.int IntKind.u64 z0, Value.int IntKind.u64 z1, Value.int IntKind.u64 z2, Value.int IntKind.u64 z3, Value.int IntKind.u64 z4, Value.int IntKind.u64 z5, Value.int IntKind.u64 z6, Value.int IntKind.u64 z7, Value.int IntKind.u64 z8, Value.int IntKind.u64 z9, Value.int IntKind.u64 z10, Value.int IntKind.u64 z11, Value.int IntKind.u64 z12, Value.int IntKind.u64 z13, Value.int IntKind.u64 z14, Value.int IntKind.u64 z15, Value.slice (some (Addr.mk 1 0 none)) (k + 1) 9223372036854775808])] [Value.agg (Array.mk [Value.int IntKind.i64 n, Value.int IntKind.u64 z0, Value.int IntKind.u64 z1, Value.int IntKind.u64 z2, Value.int IntKind.u64 z3, Value.int IntKind.u64 z4, Value.int IntKind.u64 z5, Value.int IntKind.u64 z6, Value.int IntKind.u64 z7, Value.int IntKind.u64 z8, Value.int IntKind.u64 z9, Value.int IntKind.u64 z10, Value.int IntKind.u64 z11, Value.int IntKind.u64 z12, Value.int IntKind.u64 z13, Value.int IntKind.u64 z14, Value.int IntKind.u64 z15, Value.slice (some (Addr.mk 1 0 none)) (k + 1) 9223372036854775808])] then CR.ret (Value.tuple (Array.mk [Value.int IntKind.i64 d, Value.int IntKind.i64 (Int.ofNat 0)])) (AW.mk 0 Tr.nil Tr.nil) else CR.fail 420 else CR.fail 420 := by kernel_rfl

end Go.Proofs

/- Chapter 7: the example calls, run. -/
namespace Go.Proofs
open Go Go.Ev
set_option linter.unusedVariables false
set_option linter.unusedSimpArgs false
set_option maxRecDepth 100000

def mskV : Tr Nat := (.node (.node (.node (.node (.node (.node (.node (.node .nil (some 3103) .nil) none .nil) (some 57567) (.node .nil (some 443) .nil)) (some 16327) (.node (.node (.node .nil (some 0) .nil) (some 15) .nil) (some 31) (.node .nil (some 183) .nil))) (some 499) (.node (.node (.node (.node .nil (some 0) .nil) (some 8389107) .nil) (some 14737663) (.node .nil (some 5) .nil)) (some 223) (.node (.node (.node .nil (some 0) .nil) (some 31) .nil) (some 493) (.node .nil (some 36028797018996495) .nil)))) (some 2199023255495) (.node (.node (.node (.node (.node .nil (some 4159) .nil) (some 66043) .nil) (some 11) (.node .nil (some 16778495) .nil)) (some 8135) (.node (.node (.node .nil (some 0) .nil) (some 5) .nil) (some 234884973) (.node .nil (some 5) .nil))) (some 2035) (.node (.node (.node (.node .nil (some 0) .nil) (some 7) .nil) (some 83) (.node .nil (some 19) .nil)) (some 7347703) (.node (.node (.node .nil (some 0) .nil) (some 7) .nil) (some 19) (.node .nil (some 15391) .nil))))) none (.node (.node (.node (.node (.node (.node .nil (some 5) .nil) (some 19) .nil) (some 15) (.node .nil (some 11) .nil)) (some 2035) (.node (.node (.node .nil (some 0) .nil) (some 31) .nil) none (.node .nil (some 5) .nil))) (some 1991) (.node (.node (.node (.node .nil (some 0) .nil) (some 2175) .nil) (some 65791) .nil) (some 5) (.node (.node (.node .nil (some 0) .nil) (some 435) .nil) (some 435) (.node .nil (some 7951) .nil)))) (some 243) (.node (.node (.node (.node (.node .nil (some 3103) .nil) (some 435) .nil) (some 4231240369645161563209679) (.node .nil (some 1055) .nil)) (some 243) (.node (.node (.node .nil (some 0) .nil) (some 59) .nil) (some 69) (.node .nil (some 7951) .nil))) (some 755) (.node (.node (.node (.node .nil (some 0) .nil) (some 5) .nil) (some 5) (.node .nil (some 5) .nil)) (some 2047) (.node (.node .nil (some 115) .nil) (some 95) (.node .nil (some 5) .nil)))))) none (.node (.node (.node (.node (.node (.node (.node .nil (some 5) .nil) (some 435) .nil) (some 917565) (.node .nil (some 199) .nil)) (some 8135) (.node (.node (.node .nil (some 0) .nil) (some 19) .nil) none (.node .nil (some 2096159) .nil))) (some 196607) (.node (.node (.node (.node .nil (some 0) .nil) (some 7) .nil) (some 511) (.node .nil (some 31) .nil)) (some 29) (.node (.node (.node .nil (some 0) .nil) none .nil) (some 72057602627870719) (.node .nil (some 775) .nil)))) (some 19) (.node (.node (.node (.node (.node .nil (some 5) .nil) (some 2035) .nil) (some 19) (.node .nil (some 5) .nil)) (some 2035) (.node (.node (.node .nil (some 0) .nil) (some 95) .nil) (some 7) (.node .nil (some 783) .nil))) (some 243) (.node (.node (.node (.node .nil (some 0) .nil) none .nil) (some 5) (.node .nil (some 243) .nil)) (some 1573343) (.node (.node .nil (some 63) .nil) (some 963012398791) (.node .nil (some 5) .nil))))) none (.node (.node (.node (.node (.node (.node .nil (some 271) .nil) (some 68) .nil) (some 7455443) (.node .nil (some 4083) .nil)) (some 967) (.node (.node (.node .nil (some 0) .nil) (some 27) .nil) (some 13) (.node .nil (some 11) .nil))) (some 2035) (.node (.node (.node (.node .nil (some 0) .nil) (some 79) .nil) (some 786943) (.node .nil (some 5) .nil)) (some 19) (.node (.node (.node .nil (some 0) .nil) (some 51) .nil) (some 63) (.node .nil (some 7199) .nil)))) (some 29) (.node (.node (.node (.node (.node .nil (some 0) .nil) (some 23) .nil) (some 48) .nil) none (.node (.node (.node .nil (some 0) .nil) (some 1097975) .nil) (some 23) (.node .nil (some 7943) .nil))) (some 243) (.node (.node (.node (.node .nil (some 0) .nil) (some 23) .nil) (some 435) (.node .nil (some 7) .nil)) (some 233455) (.node (.node .nil (some 8051) .nil) (some 23) (.node .nil (some 5) .nil)))))))
/-- The concrete evaluator. -/
noncomputable abbrev CC (r : Mem) : Cfg := Cfg.ofRo Tryz.prog r
theorem CC_ok (r : Mem) : (CC r).Ok := Cfg.ofRo_ok evMixed evNames r

end Go.Proofs

/- Chapter 7: the example calls answer true. -/
namespace Go.Proofs
open Go Go.Ev
set_option linter.unusedVariables false
set_option linter.unusedSimpArgs false
set_option maxRecDepth 100000

theorem awake7 : GrT Tryz.prog tabM 8 [] (.bool true) := GrT.of (CC_ok tabM) TOk.nil .nil rfl ⟨1000, 40, by kernel_rfl⟩

end Go.Proofs

/- The law of hue's checks: what it answers. -/
namespace Go.Proofs
open Go Go.Ev Go.Num
set_option linter.unusedVariables false
set_option linter.unusedSimpArgs false
set_option maxRecDepth 100000

theorem _root_.Go.Ev.GrT.more {P : Program} {r r' : Mem} {f : Nat} {args : List Value} {v : Value} (h : GrT P r f args v) (hle : ∀ b j u, r b j = some u → r' b j = some u) : GrT P r' f args v :=
  ⟨h.1, fun F hF k W args' hR ha => h.2 F hF k W args' (fun b j u e => hR b j u (hle b j u e)) ha⟩

theorem memW_tab {r : Mem} (hm : ∀ b j u, tabM b j = some u → r b j = some u) {γ : Gam} {W : World} (hR : Ro r γ W) : ∀ b j u, tabM b j = some u → memW W b j = some u := fun b j u h => by
  have hg : gnd u = true := by
    unfold tabM at h
    split at h
    · unfold memL u8s at h
      rw [List.getElem?_map] at h
      cases h1 : tab64[j]? with
      | none => rw [h1] at h; cases h
      | some x => rw [h1] at h; cases h; rfl
    · split at h
      · unfold memL u8s at h
        rw [List.getElem?_map] at h
        cases h1 : tab32[j]? with
        | none => rw [h1] at h; cases h
        | some x => rw [h1] at h; cases h; rfl
      · cases h
  obtain ⟨_, cc, e, fr, v', h1, h2, h3⟩ := hR b j u (hm b j u h)
  have := (h3 γ).eq_of_gnd hg
  subst this
  unfold memW
  rw [h1]
  simp only [h2, Option.bind_some]
  exact mark_gnd hg

/-- A row of pairs of the caller's, as memory that is read; more arguments behind it. -/
theorem own_mem {r : Mem} {γ : Gam} {A : AW} {W : World} (hw : WRel γ A W) (hR : Ro r γ W) {n : Int} {i k len cap : Nat} {c l : List Value} {e f z : Nat} (hget : A.heap.get i = some (.cells c e f z)) (hok : m_okL2 c k len = true) (hcap : Nat.beq cap unkE = false) (hl : gnds l = true)
    {args' : Array Value} (ha : VsRel γ (.int .i64 n :: .slice (some ⟨i, k, none⟩) len cap :: l) args'.toList) :
    ∃ b k', VsRel noG (I n :: RS2 b k' len 0 :: l) args'.toList ∧ rowAt (memW W) b k' (2 * len) (fun j => zAt2 c (k + j)) ∧ len ≤ 1000000 := by
  obtain ⟨h1, h2⟩ := @of_decide_eq_true _ (Classical.propDecidable _) hok
  obtain ⟨la⟩ := args'
  cases ha with
  | cons hn hrest =>
  cases hn
  cases hrest with
  | cons hv hrest =>
  obtain ⟨b, k', c', rfl, hrd⟩ := rd_world hw hR hv hcap
  refine ⟨b, k', .cons (.int _ _) (.cons (.sliceRo _ _ _ _ _ _ (by decide) (Nat.zero_le _)) ?_), fun j hj => ?_, h1⟩
  · rw [hrest.eq_of_gnds hl]
    exact VsRel.of_gnds noG l hl
  · obtain ⟨z, hz⟩ := h2 j hj
    have e1 : zAt2 c (k + j) = z := by unfold zAt2; rw [hz]
    show memW W b (k' + j) = some (I (zAt2 c (k + j)))
    rw [e1]
    refine hrd j _ ?_ rfl
    simp only [AW.rd, AW.cell, hget]
    exact hz

theorem natFK2 {i j : Nat} (h : i ≠ j) : Nat.beq i j = false := by
  cases e : Nat.beq i j with
  | false => rfl
  | true => exact absurd (Nat.eq_of_beq_eq_true e) h

abbrev Tab (r : Mem) : Prop := ∀ b j u, tabM b j = some u → r b j = some u

theorem eChk_ok (r : Mem) {f : Nat} (hN : ∀ n, GrT Tryz.prog (fun _ _ => none) f [I n, .slice none 0 0] (I (m_ckN n)))
    (hL : ∀ (r' : Mem) n b off len cap z, Tab r' → rowAt r' b off (2 * len) z → len ≤ 1000000 → GrT Tryz.prog r' f [I n, RS2 b off len cap] (I (ckG n z len))) (hm : Tab r) : EOk (SC r) f eChk := EOk.ent fun args A hg => by
  split at hg
  · exact ((hN _).plain (C := SC r) rfl A)
  · rename_i n i k len cap
    split at hg
    · rename_i c e f' z hget
      simp only [Bool.and_eq_true, Bool.not_eq_true'] at hg
      refine POk.of ?_ fun γ W args' hw hR ha => ?_
      · try simp only [hget]
        rfl
      · obtain ⟨b, k', h1, h2, h3⟩ := own_mem hw hR hget hg.1 hg.2 rfl ha
        refine ⟨memW W, _, memW_ro W, h1, ?_⟩
        try simp only [hget]
        exact hL (memW W) n b k' len 0 _ (memW_tab hm hR) h2 h3
    · cases hg
  · cases hg

theorem eBad_ok (r : Mem) {f : Nat} {ex : List Value → Bool} {v : Int → Value} (hx : ∀ l, ex l = true → gnds l = true) (hv : ∀ e, gnd (v e) = true)
    (hN : ∀ n l, ex l = true → m_badN n = true → GrT Tryz.prog (fun _ _ => none) f (I n :: .slice none 0 0 :: l) (v (m_ckN n)))
    (hL : ∀ (r' : Mem) n b off len cap z l, ex l = true → Tab r' → rowAt r' b off (2 * len) z → len ≤ 1000000 → ckG n z len ≠ 0 → GrT Tryz.prog r' f (I n :: RS2 b off len cap :: l) (v (ckG n z len))) (hm : Tab r) : EOk (SC r) f (eBad ex v) := EOk.ent fun args A hg => by
  split at hg
  · rename_i n l
    simp only [Bool.and_eq_true] at hg
    exact (hN n l hg.1 hg.2).plain (C := SC r) (by simp only [gnds, gnd, hx l hg.1, Bool.and_self, I]) A
  · rename_i n i k len cap l
    split at hg
    · rename_i c e f' z hget
      simp only [Bool.and_eq_true, Bool.not_eq_true'] at hg
      obtain ⟨⟨⟨hg1, hg2⟩, hg3⟩, hg4⟩ := hg
      refine POk.of ?_ fun γ W args' hw hR ha => ?_
      · try simp only [hget]
        exact hv _
      · obtain ⟨b, k', h1, h2, h3⟩ := own_mem hw hR hget hg2 hg3 (hx l hg1) ha
        refine ⟨memW W, _, memW_ro W, h1, ?_⟩
        try simp only [hget]
        refine hL (memW W) n b k' len 0 _ l hg1 (memW_tab hm hR) h2 h3 ?_
        unfold m_bad m_ckL at hg4
        simpa using hg4
    · cases hg
  · cases hg

theorem ckN_eq (n : Int) : m_ckN n = if n < 1 ∨ n > 16 then 1 else 0 := by
  unfold m_ckN ckG
  split
  · rfl
  · rfl
theorem ck_cases (n : Int) (z : Nat → Int) (len : Nat) (h : ckG n z len ≠ 0) : ckG n z len = 1 ∨ ckG n z len = 40 := by
  unfold ckG at *
  split
  · exact .inl rfl
  · rename_i h1
    rw [if_neg h1] at h
    split
    · rename_i h2; rw [if_pos h2] at h; exact absurd rfl h
    · exact .inr rfl


theorem rcN_ok (n : Int) : GrT Tryz.prog (fun _ _ => none) 4 [I n, .slice none 0 0] (I (m_ckN n)) := by
  refine GrT.of (SC_ok fun _ _ => none) TOk.nil .nil rfl ⟨2, 2, (rcN _ n).trans ?_⟩
  rw [ckN_eq]
  by_cases c1 : n < 1
  · rw [dT c1, cond_true, if_pos (.inl c1)]; rfl
  · by_cases c2 : n > 16
    · rw [dF c1, cond_false, dT c2, cond_true, if_pos (.inr c2)]; rfl
    · rw [dF c1, cond_false, dF c2, cond_false, if_neg (by omega)]; rfl
theorem pcN_ok (n : Int) : GrT Tryz.prog (fun _ _ => none) 43 [I n, .slice none 0 0] (I (m_ckN n)) := by
  refine GrT.of (SC_ok fun _ _ => none) TOk.nil .nil rfl ⟨2, 3, (pcN _ n).trans ?_⟩
  rw [ckN_eq]
  by_cases c1 : n < 1
  · rw [dT c1, cond_true, if_pos (.inl c1)]; rfl
  · by_cases c2 : n > 16
    · rw [dF c1, cond_false, dT c2, cond_true, if_pos (.inr c2)]; rfl
    · rw [dF c1, cond_false, dF c2, cond_false, if_neg (by omega)]; rfl
theorem bad_iff {n : Int} (h : m_badN n = true) : n < 1 ∨ n > 16 := by
  unfold m_badN at h
  rw [ckN_eq] at h
  by_cases c : n < 1 ∨ n > 16
  · exact c
  · rw [if_neg c] at h; cases h
theorem ckN_bad {n : Int} (h : m_badN n = true) : m_ckN n = 1 := by rw [ckN_eq, if_pos (bad_iff h)]
theorem rdN_ok {n : Int} (h : m_badN n = true) : GrT Tryz.prog (fun _ _ => none) 22 [I n, .slice none 0 0] (vBad 1) := by
  have hp := pcN_ok n
  rw [ckN_bad h] at hp
  exact GrT.of (SC_ok fun _ _ => none) (show TOk (SC fun _ _ => none) (tHc [I n, .slice none 0 0] 1) from TOk.cons TOk.nil (entV_ok hp rfl)) .nil rfl ⟨1, 3, (rdN_1 _ n).trans (by rw [show m_same _ _ = true from same_rfl _]; rfl)⟩
theorem tRdN_ok {n : Int} (h : m_badN n = true) : TOk (SC fun _ _ => none) (tHd [I n, .slice none 0 0] (vBad 1)) := TOk.cons TOk.nil (entV_ok (rdN_ok h) rfl)
theorem rd_ok {r : Mem} (hm : Tab r) {n : Int} {b off len cap : Nat} {z : Nat → Int} (hz : rowAt r b off (2 * len) z) (hl : len ≤ 1000000) (h : ckG n z len ≠ 0) : GrT Tryz.prog r 22 [I n, RS2 b off len cap] (vBad (ckG n z len)) := by
  have ht := tHc_ok r hm n b off len cap z hz hl
  rcases ck_cases n z len h with e | e <;> rw [e] at ht ⊢
  · exact GrT.of (SC_ok r) ht .nil rfl ⟨1, 3, (rd_1 r n b off len cap).trans (by rw [show m_same _ _ = true from same_rfl _]; rfl)⟩
  · exact GrT.of (SC_ok r) ht .nil rfl ⟨1, 3, (rd_40 r n b off len cap).trans (by rw [show m_same _ _ = true from same_rfl _]; rfl)⟩
theorem tRd_ok {r : Mem} (hm : Tab r) {n : Int} {b off len cap : Nat} {z : Nat → Int} (hz : rowAt r b off (2 * len) z) (hl : len ≤ 1000000) (h : ckG n z len ≠ 0) : TOk (SC r) (tHd [I n, RS2 b off len cap] (vBad (ckG n z len))) := TOk.cons TOk.nil (entV_ok (rd_ok hm hz hl h) rfl)

theorem ex0_of {l : List Value} (h : ex0 l = true) : l = [] := by
  unfold ex0 at h
  split at h
  · rfl
  · cases h
theorem ex1_of {l : List Value} (h : ex1 l = true) : ∃ s, l = [I s] := by
  unfold ex1 at h
  split at h
  · exact ⟨_, rfl⟩
  · cases h
theorem exN_of {l : List Value} (h : exN l = true) : l = [.slice none 0 0] := by
  unfold exN at h
  split at h
  · rfl
  · cases h
theorem ex0_gnd (l : List Value) (h : ex0 l = true) : gnds l = true := by rw [ex0_of h]; rfl
theorem ex1_gnd (l : List Value) (h : ex1 l = true) : gnds l = true := by obtain ⟨s, rfl⟩ := ex1_of h; rfl
theorem exN_gnd (l : List Value) (h : exN l = true) : gnds l = true := by rw [exN_of h]; rfl

theorem eBadIsProper_ok (r : Mem) (hm : Tab r) : EOk (SC r) 9 (eBad exN vIsProper) := eBad_ok r exN_gnd (fun _ => rfl)
  (fun n l h hb => by
    cases exN_of h
    rw [ckN_bad hb]
    exact GrT.of (SC_ok fun _ _ => none) (tRdN_ok hb) .nil rfl ⟨1, 3, (nIsProper_1 _ n).trans (by rw [show m_same _ _ = true from same_rfl _]; rfl)⟩)
  (fun r' n b off len cap z l h hm hz hl hne => by
    cases exN_of h
    have ht := tRd_ok (cap := cap) hm hz hl hne
    rcases ck_cases n z len hne with e | e <;> rw [e] at ht ⊢
    · exact GrT.of (SC_ok r') ht .nil rfl ⟨1, 3, (bIsProper_1 r' n b off len cap).trans (by rw [show m_same _ _ = true from same_rfl _]; rfl)⟩
    · exact GrT.of (SC_ok r') ht .nil rfl ⟨1, 3, (bIsProper_40 r' n b off len cap).trans (by rw [show m_same _ _ = true from same_rfl _]; rfl)⟩) hm
theorem eBadSides_ok (r : Mem) (hm : Tab r) : EOk (SC r) 10 (eBad ex0 vSides) := eBad_ok r ex0_gnd (fun _ => rfl)
  (fun n l h hb => by
    cases ex0_of h
    rw [ckN_bad hb]
    exact GrT.of (SC_ok fun _ _ => none) (tRdN_ok hb) .nil rfl ⟨1, 3, (nSides_1 _ n).trans (by rw [show m_same _ _ = true from same_rfl _]; rfl)⟩)
  (fun r' n b off len cap z l h hm hz hl hne => by
    cases ex0_of h
    have ht := tRd_ok (cap := cap) hm hz hl hne
    rcases ck_cases n z len hne with e | e <;> rw [e] at ht ⊢
    · exact GrT.of (SC_ok r') ht .nil rfl ⟨1, 3, (bSides_1 r' n b off len cap).trans (by rw [show m_same _ _ = true from same_rfl _]; rfl)⟩
    · exact GrT.of (SC_ok r') ht .nil rfl ⟨1, 3, (bSides_40 r' n b off len cap).trans (by rw [show m_same _ _ = true from same_rfl _]; rfl)⟩) hm
theorem eBadOddRing_ok (r : Mem) (hm : Tab r) : EOk (SC r) 11 (eBad ex0 vOddRing) := eBad_ok r ex0_gnd (fun _ => rfl)
  (fun n l h hb => by
    cases ex0_of h
    rw [ckN_bad hb]
    exact GrT.of (SC_ok fun _ _ => none) (tRdN_ok hb) .nil rfl ⟨1, 3, (nOddRing_1 _ n).trans (by rw [show m_same _ _ = true from same_rfl _]; rfl)⟩)
  (fun r' n b off len cap z l h hm hz hl hne => by
    cases ex0_of h
    have ht := tRd_ok (cap := cap) hm hz hl hne
    rcases ck_cases n z len hne with e | e <;> rw [e] at ht ⊢
    · exact GrT.of (SC_ok r') ht .nil rfl ⟨1, 3, (bOddRing_1 r' n b off len cap).trans (by rw [show m_same _ _ = true from same_rfl _]; rfl)⟩
    · exact GrT.of (SC_ok r') ht .nil rfl ⟨1, 3, (bOddRing_40 r' n b off len cap).trans (by rw [show m_same _ _ = true from same_rfl _]; rfl)⟩) hm
theorem eBadVizing_ok (r : Mem) (hm : Tab r) : EOk (SC r) 12 (eBad ex0 vVizing) := eBad_ok r ex0_gnd (fun _ => rfl)
  (fun n l h hb => by
    cases ex0_of h
    rw [ckN_bad hb]
    exact GrT.of (SC_ok fun _ _ => none) (tRdN_ok hb) .nil rfl ⟨1, 3, (nVizing_1 _ n).trans (by rw [show m_same _ _ = true from same_rfl _]; rfl)⟩)
  (fun r' n b off len cap z l h hm hz hl hne => by
    cases ex0_of h
    have ht := tRd_ok (cap := cap) hm hz hl hne
    rcases ck_cases n z len hne with e | e <;> rw [e] at ht ⊢
    · exact GrT.of (SC_ok r') ht .nil rfl ⟨1, 3, (bVizing_1 r' n b off len cap).trans (by rw [show m_same _ _ = true from same_rfl _]; rfl)⟩
    · exact GrT.of (SC_ok r') ht .nil rfl ⟨1, 3, (bVizing_40 r' n b off len cap).trans (by rw [show m_same _ _ = true from same_rfl _]; rfl)⟩) hm
theorem eBadKonig_ok (r : Mem) (hm : Tab r) : EOk (SC r) 13 (eBad ex0 vKonig) := eBad_ok r ex0_gnd (fun _ => rfl)
  (fun n l h hb => by
    cases ex0_of h
    rw [ckN_bad hb]
    exact GrT.of (SC_ok fun _ _ => none) (tRdN_ok hb) .nil rfl ⟨1, 3, (nKonig_1 _ n).trans (by rw [show m_same _ _ = true from same_rfl _]; rfl)⟩)
  (fun r' n b off len cap z l h hm hz hl hne => by
    cases ex0_of h
    have ht := tRd_ok (cap := cap) hm hz hl hne
    rcases ck_cases n z len hne with e | e <;> rw [e] at ht ⊢
    · exact GrT.of (SC_ok r') ht .nil rfl ⟨1, 3, (bKonig_1 r' n b off len cap).trans (by rw [show m_same _ _ = true from same_rfl _]; rfl)⟩
    · exact GrT.of (SC_ok r') ht .nil rfl ⟨1, 3, (bKonig_40 r' n b off len cap).trans (by rw [show m_same _ _ = true from same_rfl _]; rfl)⟩) hm
theorem eBadFewest_ok (r : Mem) (hm : Tab r) : EOk (SC r) 14 (eBad ex0 vFewest) := eBad_ok r ex0_gnd (fun _ => rfl)
  (fun n l h hb => by
    cases ex0_of h
    rw [ckN_bad hb]
    exact GrT.of (SC_ok fun _ _ => none) (tRdN_ok hb) .nil rfl ⟨1, 3, (nFewest_1 _ n).trans (by rw [show m_same _ _ = true from same_rfl _]; rfl)⟩)
  (fun r' n b off len cap z l h hm hz hl hne => by
    cases ex0_of h
    have ht := tRd_ok (cap := cap) hm hz hl hne
    rcases ck_cases n z len hne with e | e <;> rw [e] at ht ⊢
    · exact GrT.of (SC_ok r') ht .nil rfl ⟨1, 3, (bFewest_1 r' n b off len cap).trans (by rw [show m_same _ _ = true from same_rfl _]; rfl)⟩
    · exact GrT.of (SC_ok r') ht .nil rfl ⟨1, 3, (bFewest_40 r' n b off len cap).trans (by rw [show m_same _ _ = true from same_rfl _]; rfl)⟩) hm
theorem eBadGalvin_ok (r : Mem) (hm : Tab r) : EOk (SC r) 15 (eBad exN vGalvin) := eBad_ok r exN_gnd (fun _ => rfl)
  (fun n l h hb => by
    cases exN_of h
    rw [ckN_bad hb]
    exact GrT.of (SC_ok fun _ _ => none) (tRdN_ok hb) .nil rfl ⟨1, 3, (nGalvin_1 _ n).trans (by rw [show m_same _ _ = true from same_rfl _]; rfl)⟩)
  (fun r' n b off len cap z l h hm hz hl hne => by
    cases exN_of h
    have ht := tRd_ok (cap := cap) hm hz hl hne
    rcases ck_cases n z len hne with e | e <;> rw [e] at ht ⊢
    · exact GrT.of (SC_ok r') ht .nil rfl ⟨1, 3, (bGalvin_1 r' n b off len cap).trans (by rw [show m_same _ _ = true from same_rfl _]; rfl)⟩
    · exact GrT.of (SC_ok r') ht .nil rfl ⟨1, 3, (bGalvin_40 r' n b off len cap).trans (by rw [show m_same _ _ = true from same_rfl _]; rfl)⟩) hm
theorem eBadFromLists_ok (r : Mem) (hm : Tab r) : EOk (SC r) 16 (eBad exN vFromLists) := eBad_ok r exN_gnd (fun _ => rfl)
  (fun n l h hb => by
    cases exN_of h
    rw [ckN_bad hb]
    exact GrT.of (SC_ok fun _ _ => none) (tRdN_ok hb) .nil rfl ⟨1, 3, (nFromLists_1 _ n).trans (by rw [show m_same _ _ = true from same_rfl _]; rfl)⟩)
  (fun r' n b off len cap z l h hm hz hl hne => by
    cases exN_of h
    have ht := tRd_ok (cap := cap) hm hz hl hne
    rcases ck_cases n z len hne with e | e <;> rw [e] at ht ⊢
    · exact GrT.of (SC_ok r') ht .nil rfl ⟨1, 3, (bFromLists_1 r' n b off len cap).trans (by rw [show m_same _ _ = true from same_rfl _]; rfl)⟩
    · exact GrT.of (SC_ok r') ht .nil rfl ⟨1, 3, (bFromLists_40 r' n b off len cap).trans (by rw [show m_same _ _ = true from same_rfl _]; rfl)⟩) hm
theorem eBadOrder_ok (r : Mem) (hm : Tab r) : EOk (SC r) 17 (eBad ex0 vOrder) := eBad_ok r ex0_gnd (fun _ => rfl)
  (fun n l h hb => by
    cases ex0_of h
    rw [ckN_bad hb]
    exact GrT.of (SC_ok fun _ _ => none) (tRdN_ok hb) .nil rfl ⟨1, 3, (nOrder_1 _ n).trans (by rw [show m_same _ _ = true from same_rfl _]; rfl)⟩)
  (fun r' n b off len cap z l h hm hz hl hne => by
    cases ex0_of h
    have ht := tRd_ok (cap := cap) hm hz hl hne
    rcases ck_cases n z len hne with e | e <;> rw [e] at ht ⊢
    · exact GrT.of (SC_ok r') ht .nil rfl ⟨1, 3, (bOrder_1 r' n b off len cap).trans (by rw [show m_same _ _ = true from same_rfl _]; rfl)⟩
    · exact GrT.of (SC_ok r') ht .nil rfl ⟨1, 3, (bOrder_40 r' n b off len cap).trans (by rw [show m_same _ _ = true from same_rfl _]; rfl)⟩) hm
theorem eBadCore_ok (r : Mem) (hm : Tab r) : EOk (SC r) 18 (eBad ex1 vCore) := eBad_ok r ex1_gnd (fun _ => rfl)
  (fun n l h hb => by
    obtain ⟨s, rfl⟩ := ex1_of h
    rw [ckN_bad hb]
    exact GrT.of (SC_ok fun _ _ => none) (tRdN_ok hb) .nil rfl ⟨1, 3, (nCore_1 _ n s).trans (by rw [show m_same _ _ = true from same_rfl _]; rfl)⟩)
  (fun r' n b off len cap z l h hm hz hl hne => by
    obtain ⟨s, rfl⟩ := ex1_of h
    have ht := tRd_ok (cap := cap) hm hz hl hne
    rcases ck_cases n z len hne with e | e <;> rw [e] at ht ⊢
    · exact GrT.of (SC_ok r') ht .nil rfl ⟨1, 3, (bCore_1 r' n s b off len cap).trans (by rw [show m_same _ _ = true from same_rfl _]; rfl)⟩
    · exact GrT.of (SC_ok r') ht .nil rfl ⟨1, 3, (bCore_40 r' n s b off len cap).trans (by rw [show m_same _ _ = true from same_rfl _]; rfl)⟩) hm
theorem eBadColours_ok (r : Mem) (hm : Tab r) : EOk (SC r) 19 (eBad exN vColours) := eBad_ok r exN_gnd (fun _ => rfl)
  (fun n l h hb => by
    cases exN_of h
    rw [ckN_bad hb]
    exact GrT.of (SC_ok fun _ _ => none) (tRdN_ok hb) .nil rfl ⟨1, 3, (nColours_1 _ n).trans (by rw [show m_same _ _ = true from same_rfl _]; rfl)⟩)
  (fun r' n b off len cap z l h hm hz hl hne => by
    cases exN_of h
    have ht := tRd_ok (cap := cap) hm hz hl hne
    rcases ck_cases n z len hne with e | e <;> rw [e] at ht ⊢
    · exact GrT.of (SC_ok r') ht .nil rfl ⟨1, 3, (bColours_1 r' n b off len cap).trans (by rw [show m_same _ _ = true from same_rfl _]; rfl)⟩
    · exact GrT.of (SC_ok r') ht .nil rfl ⟨1, 3, (bColours_40 r' n b off len cap).trans (by rw [show m_same _ _ = true from same_rfl _]; rfl)⟩) hm
theorem eBadChromatic_ok (r : Mem) (hm : Tab r) : EOk (SC r) 20 (eBad ex0 vChromatic) := eBad_ok r ex0_gnd (fun _ => rfl)
  (fun n l h hb => by
    cases ex0_of h
    rw [ckN_bad hb]
    exact GrT.of (SC_ok fun _ _ => none) (tRdN_ok hb) .nil rfl ⟨1, 3, (nChromatic_1 _ n).trans (by rw [show m_same _ _ = true from same_rfl _]; rfl)⟩)
  (fun r' n b off len cap z l h hm hz hl hne => by
    cases ex0_of h
    have ht := tRd_ok (cap := cap) hm hz hl hne
    rcases ck_cases n z len hne with e | e <;> rw [e] at ht ⊢
    · exact GrT.of (SC_ok r') ht .nil rfl ⟨1, 3, (bChromatic_1 r' n b off len cap).trans (by rw [show m_same _ _ = true from same_rfl _]; rfl)⟩
    · exact GrT.of (SC_ok r') ht .nil rfl ⟨1, 3, (bChromatic_40 r' n b off len cap).trans (by rw [show m_same _ _ = true from same_rfl _]; rfl)⟩) hm

/-- The slice of a graph, in the caller's world. -/
theorem hg_noG {γ : Gam} {e : Value} (he : e = .slice none 0 0 ∨ ∃ i l, e = .slice (some ⟨i, 0, none⟩) (l + 1) unk) : ∀ (zs : List Int) (l' : List Value), VsRel γ (zs.map U ++ [e]) l' → ∃ e', nn e' = true ∧ VsRel noG (zs.map U ++ [e']) l'
  | [], l', h => by
    cases h with
    | cons h1 h2 =>
    cases h2
    rcases he with rfl | ⟨i, l, rfl⟩
    · cases h1
      exact ⟨.slice none 0 0, rfl, .cons .sliceNil .nil⟩
    · cases h1 with
      | slice k l' c c' hg hc =>
        rename_i g
        exact ⟨.slice (some ⟨g.blk, g.off + 0, some 0⟩) (l + 1) 0, rfl, .cons (.sliceRo _ _ _ _ _ _ (by decide) (Nat.zero_le _)) .nil⟩
  | x :: zs, l', h => by
    cases h with
    | cons h1 h2 =>
    obtain ⟨e', h3, h4⟩ := hg_noG he zs _ h2
    cases h1
    exact ⟨e', h3, .cons (.int _ _) h4⟩

theorem eHd_ok (r : Mem) {n : Int} {z : Nat → Int} {len : Nat} (hok : ckG n z len = 0) {e : Value} (he : e = .slice none 0 0 ∨ ∃ i l, e = .slice (some ⟨i, 0, none⟩) (l + 1) unk) : EOk (SC r) 23 (eHd n (nbz z len) e (m_hdg n z len)) := EOk.ent fun args A hg => by
  have ha := @of_decide_eq_true _ (Classical.propDecidable _) hg
  subst ha
  refine POk.of rfl fun γ W args' hw hR ha => ?_
  obtain ⟨hn1, hn2, hall⟩ := ck_valid hok
  have h3 := okAll_at hall
  obtain ⟨la⟩ := args'
  cases ha with
  | cons h1 h2 =>
  cases h2
  cases h1 with
  | agg h =>
  rename_i c'
  obtain ⟨lc⟩ := c'
  cases h with
  | cons ha hb =>
  cases ha
  obtain ⟨e', h5, h6⟩ := hg_noG he _ _ hb
  refine ⟨memW W, [.agg ⟨m_hg n (nbz z len) e'⟩], memW_ro W, .cons (.agg (.cons (.int _ _) h6)) .nil, ?_⟩
  have hnn : (n.toNat : Int) = n := by omega
  have := hdeg_ok (memW W) n.toNat (nbz z len) (nbz_len z len) (by omega) (fun i => (nbN n.toNat z len).getD i 0)
    (fun k hk => nb_same n.toNat (by omega) z len (fun i hi => ⟨(h3 i hi).1, (h3 i hi).2.1, by have := (h3 i hi).2.2; omega⟩) k hk)
    (fun k hk => getD_lt (nbN_lt n.toNat z hn2 len fun i hi => ⟨(h3 i hi).1, (h3 i hi).2.1, (h3 i hi).2.2⟩) k) e' h5
  rw [hnn] at this
  exact this

theorem degG_ok (r : Mem) (hm : Tab r) (n : Int) (b off len cap : Nat) (z : Nat → Int) (hz : rowAt r b off (2 * len) z) (hl : len < 1000000) (hok : ckG n z len = 0) : GrT Tryz.prog r 5 [I n, RS2 b off len cap] (.tuple ⟨[I (m_hdg n z len), I 0]⟩) := by
  have hr := hread_ok r hm n b off len cap z hz hl hok
  cases len with
  | zero =>
    have h1 := eHd_ok r (z := z) (len := 0) hok (.inl rfl)
    generalize m_hdg n z 0 = d at h1 ⊢
    simp only [vRd, aRd] at hr
    obtain ⟨z0, z1, z2, z3, z4, z5, z6, z7, z8, z9, z10, z11, z12, z13, z14, z15, h16⟩ := list16 (nbz_len z 0)
    rw [h16] at hr h1
    exact GrT.of (SC_ok r) (TOk.cons (TOk.cons TOk.nil h1) (entAt_ok hr.one)) .nil rfl ⟨1, 3, (hd1 r n b off cap z0 z1 z2 z3 z4 z5 z6 z7 z8 z9 z10 z11 z12 z13 z14 z15 d).trans (by rw [show m_at _ _ _ _ = true from at_rfl _ _, show m_same _ _ = true from same_rfl _]; rfl)⟩
  | succ k =>
    have h1 := eHd_ok r (z := z) (len := k + 1) hok (e := .slice (some ⟨1, 0, none⟩) (k + 1) unk) (.inr ⟨_, _, rfl⟩)
    generalize m_hdg n z (k + 1) = d at h1 ⊢
    simp only [vRd, aRd] at hr
    obtain ⟨z0, z1, z2, z3, z4, z5, z6, z7, z8, z9, z10, z11, z12, z13, z14, z15, h16⟩ := list16 (nbz_len z (k + 1))
    rw [h16] at hr h1
    exact GrT.of (SC_ok r) (TOk.cons (TOk.cons TOk.nil h1) (entAt_ok hr.one)) .nil rfl ⟨1, 3, (hd2 r n b off cap k (m_ed z (k + 1)) z0 z1 z2 z3 z4 z5 z6 z7 z8 z9 z10 z11 z12 z13 z14 z15 d).trans (by rw [show m_at _ _ _ _ = true from at_rfl _ _, show m_same _ _ = true from same_rfl _]; rfl)⟩

theorem degB_ok (r : Mem) (hm : Tab r) (n : Int) (b off len cap : Nat) (z : Nat → Int) (hz : rowAt r b off (2 * len) z) (hl : len ≤ 1000000) (hne : ckG n z len ≠ 0) : GrT Tryz.prog r 5 [I n, RS2 b off len cap] (vDegree (ckG n z len)) := by
  have ht := tRd_ok (cap := cap) hm hz hl hne
  rcases ck_cases n z len hne with e | e <;> rw [e] at ht ⊢
  · exact GrT.of (SC_ok r) ht .nil rfl ⟨1, 3, (bDegree_1 r n b off len cap).trans (by rw [show m_same _ _ = true from same_rfl _]; rfl)⟩
  · exact GrT.of (SC_ok r) ht .nil rfl ⟨1, 3, (bDegree_40 r n b off len cap).trans (by rw [show m_same _ _ = true from same_rfl _]; rfl)⟩

theorem tNil_ok (r : Mem) : TOk (SC r) tNil := TOk.cons TOk.nil (ePop_ok r)
theorem n16 {n : Int} (h1 : 1 ≤ n) (h2 : n ≤ 16) : n = 1 ∨ n = 2 ∨ n = 3 ∨ n = 4 ∨ n = 5 ∨ n = 6 ∨ n = 7 ∨ n = 8 ∨ n = 9 ∨ n = 10 ∨ n = 11 ∨ n = 12 ∨ n = 13 ∨ n = 14 ∨ n = 15 ∨ n = 16 := by omega
theorem degN_ok (n : Int) : GrT Tryz.prog (fun _ _ => none) 5 [I n, .slice none 0 0] (.tuple ⟨[I 0, I (m_ckN n)]⟩) := by
  by_cases c : m_badN n = true
  · rw [ckN_bad c]
    exact GrT.of (SC_ok fun _ _ => none) (tRdN_ok c) .nil rfl ⟨1, 3, (nDegree_1 _ n).trans (by rw [show m_same _ _ = true from same_rfl _]; rfl)⟩
  · have hk : m_ckN n = 0 := by unfold m_badN at c; simpa using c
    have h12 : 1 ≤ n ∧ n ≤ 16 := by
      rw [ckN_eq] at hk
      split at hk
      · cases hk
      · omega
    rw [hk]
    rcases n16 h12.1 h12.2 with rfl | rfl | rfl | rfl | rfl | rfl | rfl | rfl | rfl | rfl | rfl | rfl | rfl | rfl | rfl | rfl
    · exact GrT.of (SC_ok fun _ _ => none) (tNil_ok _) .nil rfl ⟨20, 6, dN1⟩
    · exact GrT.of (SC_ok fun _ _ => none) (tNil_ok _) .nil rfl ⟨20, 6, dN2⟩
    · exact GrT.of (SC_ok fun _ _ => none) (tNil_ok _) .nil rfl ⟨20, 6, dN3⟩
    · exact GrT.of (SC_ok fun _ _ => none) (tNil_ok _) .nil rfl ⟨20, 6, dN4⟩
    · exact GrT.of (SC_ok fun _ _ => none) (tNil_ok _) .nil rfl ⟨20, 6, dN5⟩
    · exact GrT.of (SC_ok fun _ _ => none) (tNil_ok _) .nil rfl ⟨20, 6, dN6⟩
    · exact GrT.of (SC_ok fun _ _ => none) (tNil_ok _) .nil rfl ⟨20, 6, dN7⟩
    · exact GrT.of (SC_ok fun _ _ => none) (tNil_ok _) .nil rfl ⟨20, 6, dN8⟩
    · exact GrT.of (SC_ok fun _ _ => none) (tNil_ok _) .nil rfl ⟨20, 6, dN9⟩
    · exact GrT.of (SC_ok fun _ _ => none) (tNil_ok _) .nil rfl ⟨20, 6, dN10⟩
    · exact GrT.of (SC_ok fun _ _ => none) (tNil_ok _) .nil rfl ⟨20, 6, dN11⟩
    · exact GrT.of (SC_ok fun _ _ => none) (tNil_ok _) .nil rfl ⟨20, 6, dN12⟩
    · exact GrT.of (SC_ok fun _ _ => none) (tNil_ok _) .nil rfl ⟨20, 6, dN13⟩
    · exact GrT.of (SC_ok fun _ _ => none) (tNil_ok _) .nil rfl ⟨20, 6, dN14⟩
    · exact GrT.of (SC_ok fun _ _ => none) (tNil_ok _) .nil rfl ⟨20, 6, dN15⟩
    · exact GrT.of (SC_ok fun _ _ => none) (tNil_ok _) .nil rfl ⟨20, 6, dN16⟩
theorem ofN_ok (n : Int) (hb : m_badN n = false) : GrM Tryz.prog (fun _ _ => none) 7 [I n, .slice none 0 0] (.slice (some ⟨0, 0, none⟩) n.toNat n.toNat) (rowA (m_ofN n) 3 1) := by
  have hk : m_ckN n = 0 := by unfold m_badN at hb; simpa using hb
  have h12 : 1 ≤ n ∧ n ≤ 16 := by
    rw [ckN_eq] at hk
    split at hk
    · cases hk
    · omega
  rcases n16 h12.1 h12.2 with rfl | rfl | rfl | rfl | rfl | rfl | rfl | rfl | rfl | rfl | rfl | rfl | rfl | rfl | rfl | rfl
  · exact GrM.of (SC_ok fun _ _ => none) TOk.nil .nil ⟨20, 3, oN1⟩
  · exact GrM.of (SC_ok fun _ _ => none) TOk.nil .nil ⟨20, 3, oN2⟩
  · exact GrM.of (SC_ok fun _ _ => none) TOk.nil .nil ⟨20, 3, oN3⟩
  · exact GrM.of (SC_ok fun _ _ => none) TOk.nil .nil ⟨20, 3, oN4⟩
  · exact GrM.of (SC_ok fun _ _ => none) TOk.nil .nil ⟨20, 3, oN5⟩
  · exact GrM.of (SC_ok fun _ _ => none) TOk.nil .nil ⟨20, 3, oN6⟩
  · exact GrM.of (SC_ok fun _ _ => none) TOk.nil .nil ⟨20, 3, oN7⟩
  · exact GrM.of (SC_ok fun _ _ => none) TOk.nil .nil ⟨20, 3, oN8⟩
  · exact GrM.of (SC_ok fun _ _ => none) TOk.nil .nil ⟨20, 3, oN9⟩
  · exact GrM.of (SC_ok fun _ _ => none) TOk.nil .nil ⟨20, 3, oN10⟩
  · exact GrM.of (SC_ok fun _ _ => none) TOk.nil .nil ⟨20, 3, oN11⟩
  · exact GrM.of (SC_ok fun _ _ => none) TOk.nil .nil ⟨20, 3, oN12⟩
  · exact GrM.of (SC_ok fun _ _ => none) TOk.nil .nil ⟨20, 3, oN13⟩
  · exact GrM.of (SC_ok fun _ _ => none) TOk.nil .nil ⟨20, 3, oN14⟩
  · exact GrM.of (SC_ok fun _ _ => none) TOk.nil .nil ⟨20, 3, oN15⟩
  · exact GrM.of (SC_ok fun _ _ => none) TOk.nil .nil ⟨20, 3, oN16⟩

end Go.Proofs

/- The law of hue's checks holds. -/
namespace Go.Proofs
open Go Go.Ev Go.Num
set_option linter.unusedVariables false
set_option linter.unusedSimpArgs false
set_option maxRecDepth 100000

theorem mxN_congr {f g : Nat → Nat} : ∀ (m : Nat), (∀ i, i < m → f i = g i) → mxN f m = mxN g m
  | 0, _ => rfl
  | m + 1, h => by rw [mxN, mxN, mxN_congr m fun i hi => h i (by omega), h m (by omega)]

theorem eRdg_ok (r : Mem) : EOk (SC r) 6 eRdg := EOk.ent fun args A hg => by
  split at hg
  · rename_i i k len cap
    split at hg
    · rename_i c e f' z hget
      simp only [Bool.and_eq_true, Bool.not_eq_true'] at hg
      obtain ⟨h1, h2⟩ := @of_decide_eq_true _ (Classical.propDecidable _) hg.1
      refine POk.of ?_ fun γ W args' hw hR ha => ?_
      · try simp only [hget]
        rfl
      · obtain ⟨la⟩ := args'
        cases ha with
        | cons hv hrest =>
        cases hrest
        obtain ⟨b, k', c', rfl, hrd⟩ := rd_world hw hR hv hg.2
        refine ⟨memW W, _, memW_ro W, .cons (.sliceRo b k' 0 len 0 c' (by decide) (Nat.zero_le _)) .nil, ?_⟩
        try simp only [hget]
        refine rdg_ok (memW W) b k' len 0 _ (fun j hj => ?_) (fun j hj => ?_) h1
        · obtain ⟨w, hw1, hw2⟩ := h2 j hj
          have e1 : wAt c (k + j) = w := by unfold wAt; rw [hw2]; simp
          rw [e1]
          refine hrd j _ ?_ rfl
          simp only [AW.rd, AW.cell, hget]
          exact hw2
        · obtain ⟨w, hw1, hw2⟩ := h2 j hj
          have e1 : wAt c (k + j) = w := by unfold wAt; rw [hw2]; simp
          rw [e1]
          exact hw1
    · cases hg
  · cases hg

theorem eDeg_ok (r : Mem) (hm : Tab r) : EOk (SC r) 5 eDeg := EOk.ent fun args A hg => by
  split at hg
  · exact (degN_ok _).plain (C := SC r) rfl A
  · rename_i n i k len cap
    split at hg
    · rename_i c e f' z hget
      simp only [Bool.and_eq_true, Bool.not_eq_true'] at hg
      obtain ⟨⟨hg1, hg2⟩, hg3⟩ := hg
      refine POk.of ?_ fun γ W args' hw hR ha => ?_
      · try simp only [hget]
        rfl
      · obtain ⟨b, k', h1, h2, h3⟩ := own_mem hw hR hget hg1 hg2 rfl ha
        refine ⟨memW W, _, memW_ro W, h1, ?_⟩
        try simp only [hget]
        have hlt : len < 1000000 := Nat.le_of_ble_eq_true hg3
        unfold m_bad m_ckL
        by_cases c0 : ckG n (fun j => zAt2 c (k + j)) len = 0
        · have := degG_ok (memW W) (memW_tab hm hR) n b k' len 0 _ h2 hlt c0
          rw [c0]
          exact this
        · have := degB_ok (memW W) (memW_tab hm hR) n b k' len 0 _ h2 h3 c0
          rw [show (!decide (ckG n (fun j => zAt2 c (k + j)) len = 0)) = true by simp [c0]]
          exact this
    · cases hg
  · cases hg

theorem eOfR_ok (r : Mem) : EOk (SC r) 7 eOfR := fun args A hgd F hF k γ W args' hw hR ha => by
  refine ⟨fun hcc => ?_, fun h => nomatch h⟩
  clear hcc
  dsimp only [eOfR] at hgd ⊢
  split at hgd
  · rename_i n
    have hb : m_badN n = false := by simpa using hgd
    have hof : ofV 0 (.slice (some ⟨0, 0, none⟩) n.toNat n.toNat) = true := by simp [ofV, of1]
    have := (ofN_ok n hb).ends (args := [.int .i64 n, .slice none 0 0]) (γ := γ) (A := A) hof (ws_gnd _) hF hw (fun b j u h => nomatch h) (k := k) (args' := args') ?_ ha
    · exact this
    · rw [ha.eq_of_gnds rfl]
      exact VsRel.of_gnds noG _ rfl
  · rename_i n i k' len cap
    split at hgd
    · rename_i c e f' z hget
      simp only [Bool.and_eq_true, Bool.not_eq_true'] at hgd
      obtain ⟨⟨hg1, hg2⟩, hg3⟩ := hgd
      obtain ⟨b, k2, h1, h2, h3⟩ := own_mem hw hR hget hg1 hg2 rfl ha
      have hok : ckG n (fun j => zAt2 c (k' + j)) len = 0 := by unfold m_bad m_ckL at hg3; simpa using hg3
      obtain ⟨hn1, hn2, hall⟩ := ck_valid hok
      have hnn : (n.toNat : Int) = n := by omega
      have hof : ofV 0 (.slice (some ⟨0, 0, none⟩) n.toNat n.toNat) = true := by
        have : Nat.beq n.toNat unkE = false := natFK2 (by unfold unkE; omega)
        simp [ofV, of1]
      have h := of_ok (memW W) n.toNat (by omega) (by omega) b k2 len 0 _ h2 h3 (by rw [hnn]; exact hall)
      rw [hnn] at h
      have := h.ends (args := [.int .i64 n, .slice (some ⟨i, k', none⟩) len cap]) (γ := γ) (A := A) hof (ws_gnd _) hF hw (memW_ro W) (k := k) (args' := args') h1 ha
      simp only [hget]
      exact this
    · cases hgd
  · cases hgd

theorem tLaw_ok (r : Mem) (hm : Tab r) : TOk (SC r) tLaw := by
  refine TOk.cons (TOk.cons (TOk.cons (TOk.cons (TOk.cons ?_ (eRdg_ok r)) (eOfR_ok r)) (e0_ok (awake7.more hm))) (eDeg_ok r hm)) (eChk_ok r rcN_ok (fun r' n b off len cap z h hz hl => refCheck_ok r' n b off len cap z hz hl) hm)
  exact TOk.cons (TOk.cons (TOk.cons (TOk.cons (TOk.cons (TOk.cons (TOk.cons (TOk.cons (TOk.cons (TOk.cons (TOk.cons (TOk.cons (TOk.nil) (eBadChromatic_ok r hm)) (eBadColours_ok r hm)) (eBadCore_ok r hm)) (eBadOrder_ok r hm)) (eBadFromLists_ok r hm)) (eBadGalvin_ok r hm)) (eBadFewest_ok r hm)) (eBadKonig_ok r hm)) (eBadVizing_ok r hm)) (eBadOddRing_ok r hm)) (eBadSides_ok r hm)) (eBadIsProper_ok r hm)

theorem ne_same (x : Int) : (x != x) = false := by simp
theorem eq_same (x : Int) : (x == x) = true := by simp

theorem okW_ws (ws : List Nat) (h : ∀ w ∈ ws, w < 65536) (m : Nat) (hl : ws.length = m) (hm : m ≤ 16) : m_okW (m_ws ws) 0 m = true := @decide_eq_true _ (Classical.propDecidable _) ⟨by omega, fun j hj => ⟨ws.getD j 0, getD_lt h j, by
  have := ws_get (ws := ws) (k := j) (by omega)
  rw [Nat.mul_eq, Nat.mul_one, Nat.add_eq] at this
  exact this⟩⟩
theorem mx_ws (ws : List Nat) (m : Nat) (hl : ws.length = m) : m_mx (m_ws ws) 0 m = (mxN (fun i => ws.getD i 0) m : Nat) := by
  unfold m_mx
  refine congrArg (fun (x : Nat) => (x : Int)) (mxN_congr m fun i hi => ?_)
  have := ws_get (ws := ws) (k := i) (by omega)
  rw [Nat.mul_eq, Nat.mul_one, Nat.add_eq] at this
  unfold wAt
  rw [this]
  simp

theorem law_rowS (r : Mem) (hm : Tab r) (n set : Int) (m : Nat) (c : List Value) (hok : m_okL2 c 0 m = true) (hlt : m < 1000000) : run (SC r) 2199023255551 278 1 Lw_3 (lvlT (SC r) tLaw .nil 2 1) none ((⟨[6], [], fun vs ms os => vs = [some (.bool true)] ∧ ms = [] ∧ os = []⟩ : Outs).ask 0) (fun _ => Outs.no.ask 0) ((⟨[6], [], fun vs ms os => vs = [some (.bool true)] ∧ ms = [] ∧ os = []⟩ : Outs).ask 0) [] (bT lvLw [some (I n), some (I set), some (.bool false), some (.slice (some ⟨0, 0, none⟩) m unk)] .nil) [] (mkA [some (.cells c 59 0 2)]) = okR := by
  have hn := lwR r n set m c
  have hb : Nat.blt m 1000000 = true := Nat.ble_eq_true_of_le hlt
  by_cases h : m_ckL n c 0 m = 0
  · obtain ⟨hn1, hn2, hall⟩ := ck_valid h
    have h3 := okAll_at hall
    have e : (m_ckL n c 0 m == Int.ofNat 0) = true := by rw [h]; rfl
    have b1 : m_bad n c 0 m = false := by unfold m_bad; rw [h]; rfl
    have hw := nbN_lt n.toNat (fun j => zAt2 c (0 + j)) hn2 m fun i hi => h3 i hi
    have hwl : (nbN n.toNat (fun j => zAt2 c (0 + j)) m).length = n.toNat := nbN_len _ _ _
    have ok : m_okW (m_of n c 0 m) 0 (Int.toNat n) = true := okW_ws _ hw _ hwl (by omega)
    have hu : Nat.beq (Int.toNat n) 9223372036854775809 = false := natFK2 (by omega)
    have hmx : (m_dg n c 0 m == m_mx (m_of n c 0 m) 0 (Int.toNat n)) = true := by
      have := mx_ws _ _ hwl
      unfold m_of
      rw [this]
      unfold m_dg m_hdg
      exact eq_same _
    simp only [hok, hb, e, b1, ok, hu, hmx, cond_true, cond_false, Bool.not_false, Bool.and_true, Bool.true_and] at hn
    exact (hn _ _ _).trans (qq_ok ⟨rfl, rfl, rfl⟩)
  · have e : (m_ckL n c 0 m == Int.ofNat 0) = false := by simpa using h
    have b1 : m_bad n c 0 m = true := by show (!decide (m_ckL n c 0 m = 0)) = true; simp [h]
    simp only [hok, hb, e, b1, eq_same, ne_same, cond_true, cond_false, Bool.not_false, Bool.and_true, Bool.true_and, show (IntKind.wrap IntKind.i64 (IntKind.wrap IntKind.i64 (IntKind.wrap IntKind.i64 (IntKind.wrap IntKind.i64 (Int.ofNat 0 + Int.ofNat 0) + Int.ofNat 0) + Int.ofNat 0) + Int.ofNat 0) == Int.ofNat 0) = true from by decide] at hn
    exact (hn _ _ _).trans (qq_ok ⟨rfl, rfl, rfl⟩)

theorem law_nilS (r : Mem) (n set : Int) : run (SC r) 2199023255551 278 1 Lw_3 (lvlT (SC r) tLaw .nil 2 1) none ((⟨[6], [], fun vs ms os => vs = [some (.bool true)] ∧ ms = [] ∧ os = []⟩ : Outs).ask 0) (fun _ => Outs.no.ask 0) ((⟨[6], [], fun vs ms os => vs = [some (.bool true)] ∧ ms = [] ∧ os = []⟩ : Outs).ask 0) [] (bT lvLw [some (I n), some (I set), some (.bool false), some (.slice none 0 0)] .nil) [] (mkA []) = okR := by
  have hn := lwE r n set
  by_cases h : m_ckN n = 0
  · have h12 : 1 ≤ n ∧ n ≤ 16 := by
      rw [ckN_eq] at h
      split at h
      · cases h
      · omega
    have e : (m_ckN n == Int.ofNat 0) = true := by rw [h]; rfl
    have b1 : m_badN n = false := by unfold m_badN; rw [h]; rfl
    have hw : ∀ w ∈ List.replicate n.toNat 0, w < 65536 := fun w hw => by rw [List.eq_of_mem_replicate hw]; omega
    have hwl : (List.replicate n.toNat 0).length = n.toNat := List.length_replicate ..
    have ok : m_okW (m_ofN n) 0 (Int.toNat n) = true := okW_ws _ hw _ hwl (by omega)
    have hu : Nat.beq (Int.toNat n) 9223372036854775809 = false := natFK2 (by omega)
    have hz : ∀ k, mxN (fun i => (List.replicate n.toNat 0).getD i 0) k = 0 := fun k => by
      induction k with
      | zero => rfl
      | succ k ih =>
        have e0 : (List.replicate n.toNat 0).getD k 0 = 0 := by
          rw [List.getD_eq_getElem?_getD, List.getElem?_replicate]
          split <;> rfl
        rw [mxN, ih, e0]
        rfl
    have hmx : (Int.ofNat 0 == m_mx (m_ofN n) 0 (Int.toNat n)) = true := by
      have := mx_ws _ _ hwl
      unfold m_ofN
      rw [this, hz]
      rfl
    simp only [e, b1, ok, hu, hmx, cond_true, cond_false, Bool.not_false, Bool.and_true, Bool.true_and] at hn
    exact (hn _ _ _).trans (qq_ok ⟨rfl, rfl, rfl⟩)
  · have e : (m_ckN n == Int.ofNat 0) = false := by simpa using h
    have b1 : m_badN n = true := by show (!decide (m_ckN n = 0)) = true; simp [h]
    simp only [e, b1, eq_same, ne_same, cond_true, cond_false, Bool.not_false, Bool.and_true, Bool.true_and] at hn
    exact (hn _ _ _).trans (qq_ok ⟨rfl, rfl, rfl⟩)

def oLw : Outs := ⟨[6], [], fun vs ms os => vs = [some (.bool true)] ∧ ms = [] ∧ os = []⟩
theorem fin_lw (r : Mem) : ∀ vs ms os, oLw.Q vs ms os → ∃ v A', finish (SC r) 2199023255551 [.tmp 6] (St.of oLw.lv vs ms os) = .ret v A' ∧ v = .bool true := by
  rintro vs ms os ⟨rfl, rfl, rfl⟩
  exact ⟨_, mkA [], by kernel_rfl, rfl⟩

theorem law_nil (r : Mem) (hm : Tab r) (n set : Int) : GrT Tryz.prog r 3 [I n, .slice none 0 0, I set] (.bool true) := by
  refine GrT.ofS (C := SC r) rfl rfl rfl (callP (SC_ok r) (by kernel_rfl) ((bodySC r _).trans Lw_eq) (nt := 278) (by kernel_rfl) (rs := [.tmp 6]) (by kernel_rfl) 2199023255551 rfl (.step (.step .base)) TOk.nil (tm := .nil) (L := 1) (d := 1)
    ⟨lvLw, [], fun vs ms os => vs = [some (I n), some (I set), some (.bool false), some (.slice none 0 0)] ∧ ms = [] ∧ os = []⟩ oLw ?_ ?_ (fin_lw r))
  · exact (lwN r n set _ _ _ _).trans (qq_ok ⟨rfl, rfl, rfl⟩)
  · rintro vs ms os ⟨rfl, rfl, rfl⟩
    exact ⟨_, tLaw_ok r hm, .nil, 1, 2, 1, law_nilS r n set⟩

theorem law_row (r : Mem) (hm : Tab r) (n set : Int) (b off len cap : Nat) (hl : len ≤ cap) (hc : cap ≤ maxLen) (hr : ∀ i, i < cap * 2 → ∃ z, r b (off + i) = some (I z)) : GrT Tryz.prog r 3 [I n, RS2 b off len cap, I set] (.bool true) := by
  have hcap : Nat.beq cap unkE = false := natFK2 (by unfold maxLen at hc; unfold unkE; omega)
  obtain ⟨zs, hzl, hz⟩ : ∃ zs : List Int, zs.length = 2 * min 130 len ∧ ∀ j, j < 2 * min 130 len → r b (off + j) = (zs.map I)[j]? := by
    refine ⟨(List.range (2 * min 130 len)).map fun j => ofI ((r b (off + j)).getD undef), by simp, fun j hj => ?_⟩
    obtain ⟨z, e⟩ := hr j (by omega)
    rw [List.getElem?_map, List.getElem?_map, List.getElem?_range hj]
    simp [e, ofI]
  have hok : m_okL2 (zs.map I) 0 (min 130 len) = true := @decide_eq_true _ (Classical.propDecidable _) ⟨by omega, fun j hj => by
    rw [Nat.zero_add, List.getElem?_map, List.getElem?_eq_getElem (by omega)]
    exact ⟨_, rfl⟩⟩
  have hnn : m_nns (zs.map I) = true := by
    show nns (zs.map I) = true
    clear hzl hz hok
    induction zs with
    | nil => rfl
    | cons x l ih => show (nn (I x) && nns (l.map I)) = true; rw [ih]; rfl
  refine GrT.ofS (C := SC r) rfl rfl rfl (callP (SC_ok r) (by kernel_rfl) ((bodySC r _).trans Lw_eq) (nt := 278) (by kernel_rfl) (rs := [.tmp 6]) (by kernel_rfl) 2199023255551 rfl (.step (.step .base)) TOk.nil (tm := .nil) (L := 1) (d := 1)
    ⟨lvLw, [], fun vs ms os => (vs = [some (I n), some (I set), some (.bool false), some (.slice none 0 0)] ∧ ms = [] ∧ os = []) ∨ (vs = [some (I n), some (I set), some (.bool false), some (.slice (some ⟨0, 0, none⟩) (min 130 len) unk)] ∧ ms = [] ∧ os = [some (.cells (zs.map I) 59 0 2)])⟩ oLw ?_ ?_ (fin_lw r))
  · have hn := fun K => lwA r n set b off len cap (lvlT (SC r) (fun _ => none) .nil 1 1) K
    have hM : (bif decide (130 < Int.ofNat len) then Int.ofNat 130 else Int.ofNat len) = ((min 130 len : Nat) : Int) := by
      by_cases c : 130 < len
      · have : (130 : Int) < Int.ofNat len := by simp; omega
        rw [dT this, cond_true, Nat.min_eq_left (by omega)]
        rfl
      · have : ¬ (130 : Int) < Int.ofNat len := by simp; omega
        rw [dF this, cond_false, Nat.min_eq_right (by omega)]
        rfl
    have hM' : (bif decide (130 < Int.ofNat len) then (130 : Int) else Int.ofNat len) = ((min 130 len : Nat) : Int) := hM
    have hn2 : min 130 len ≤ 130 := by omega
    have hncap : min 130 len ≤ cap := by omega
    generalize min 130 len = m at *
    have g0 : 0 ≤ (m : Int) := by omega
    have g1 : Nat.ble m cap = true := Nat.ble_eq_true_of_le hncap
    have g3 : Nat.ble m 1000000 = true := Nat.ble_eq_true_of_le (by omega)
    have hlen : (zs.map I).length = 2 * m := by rw [List.length_map, hzl]
    have g4 : takeF (r b) off (2 * m) = some (zs.map I) := takeF_all _ _ _ _ hlen hz
    have g5 : Nat.beq (List.length (zs.map I)) (m * 2) = true := by rw [hlen, Nat.mul_comm]; exact Nat.beq_refl _
    have g6 : Nat.beq cap unkE = false := hcap
    have e1 : TypeInfo.size Tryz.t59 = 2 := by kernel_rfl
    have g7 : takeF ((SC r).ro b) off (m * TypeInfo.size Tryz.t59) = some (zs.map I) := by
      rw [e1, Nat.mul_comm]
      exact g4
    by_cases h0 : m = 0
    · subst h0
      simp only [hM, hM', dT g0, cond_true, show Nat.beq cap 9223372036854775809 = false from hcap, cond_false, Int.toNat_natCast, g1, show Nat.beq 0 0 = true from rfl] at hn
      exact (hn _ _ _).trans (qq_ok (.inl ⟨rfl, rfl, rfl⟩))
    · have g2 : Nat.beq m 0 = false := natFK2 h0
      simp only [hM, hM', dT g0, cond_true, show Nat.beq cap 9223372036854775809 = false from hcap, cond_false, Int.toNat_natCast, g1, g2, Nat.sub_eq, Nat.sub_zero, Nat.add_eq, Nat.zero_add, g3, Nat.mul_eq, Nat.mul_one, Nat.zero_mul, Nat.add_zero, g6, g7, g5, hnn, Bool.and_true] at hn
      exact (hn _ _ _).trans (qq_ok (.inr ⟨rfl, rfl, rfl⟩))
  · rintro vs ms os (⟨rfl, rfl, rfl⟩ | ⟨rfl, rfl, rfl⟩)
    · exact ⟨_, tLaw_ok r hm, .nil, 1, 2, 1, law_nilS r n set⟩
    · exact ⟨_, tLaw_ok r hm, .nil, 1, 2, 1, law_rowS r hm n set _ _ hok (by omega)⟩

theorem law_hueChecks (r : Mem) (hm : ∀ b j u, tabM b j = some u → r b j = some u) (u0 u1 u2 : Value) (s0 : ArgInt .i64 u0) (s1 : ArgRowT r 2 (ArgInt .i64) u1) (s2 : ArgInt .i64 u2) : GrT Tryz.prog r 3 [u0, u1, u2] (.bool true) := by
  obtain ⟨n, rfl, _⟩ := s0
  obtain ⟨set, rfl, _⟩ := s2
  cases s1 with
  | nil => exact law_nil r hm n set
  | row b off len cap hl hc h =>
    refine law_row r hm n set b off len cap hl hc fun i hi => ?_
    obtain ⟨u, hu, z, rfl, _⟩ := h i hi
    exact ⟨z, hu⟩

end Go.Proofs

