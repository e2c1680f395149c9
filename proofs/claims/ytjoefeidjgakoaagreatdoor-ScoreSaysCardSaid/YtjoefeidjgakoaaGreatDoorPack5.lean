/- What the claim is proved with, part 5: the evaluator and the contracts of the calls. -/
import Derived.Test.YtjoefeidjgakoaaGreatDoorPack4
import Derived.Test.YtjoefeidjgakoaaGreatDoorPack1
import Derived.Test.YtjoefeidjgakoaaGreatDoorPack3
import Derived.Test.YtjoefeidjgakoaaGreatDoorPack2
/- The law of what is said, run. -/
namespace Go.Proofs
open Go Go.Ev Go.Num
set_option linter.unusedVariables false
set_option linter.unusedSimpArgs false
set_option maxRecDepth 100000

noncomputable def cLW : Code := bodyOf S0 3
noncomputable def LW_0 : Code := (lc cLW)
noncomputable def LW_1 : Code := (lc (rc cLW))
noncomputable def LW_2 : Code := (lc (rc (rc cLW)))
noncomputable def LW_3 : Code := (lc (rc (rc (rc cLW))))
noncomputable def LW_4 : Code := (lc (lc (rc (rc (rc (rc cLW))))))
noncomputable def LW_5 : Code := (lc (ic (ic (rc (lc (rc (rc (rc (rc cLW)))))))))
noncomputable def LW_6 : Code := (lc (ic (lc (rc (ic (ic (rc (lc (rc (rc (rc (rc cLW))))))))))))
noncomputable def LW_7 : Code := (lc (rc (ic (lc (rc (ic (ic (rc (lc (rc (rc (rc (rc cLW)))))))))))))
noncomputable def LW_8 : Code := (lc (rc (rc (ic (lc (rc (ic (ic (rc (lc (rc (rc (rc (rc cLW))))))))))))))
noncomputable def LW_9 : Code := (lc (rc (rc (rc (ic (lc (rc (ic (ic (rc (lc (rc (rc (rc (rc cLW)))))))))))))))
noncomputable def LW_10 : Code := (lc (lc (rc (rc (rc (rc (ic (lc (rc (ic (ic (rc (lc (rc (rc (rc (rc cLW)))))))))))))))))
noncomputable def LW_11 : Code := (lc (rc (lc (rc (rc (rc (rc (ic (lc (rc (ic (ic (rc (lc (rc (rc (rc (rc cLW))))))))))))))))))
noncomputable def LW_12 : Code := (ic (ic (rc (rc (lc (rc (rc (rc (rc (ic (lc (rc (ic (ic (rc (lc (rc (rc (rc (rc cLW))))))))))))))))))))
noncomputable def LW_13 : Code := (rc (rc (rc (rc (rc (ic (lc (rc (ic (ic (rc (lc (rc (rc (rc (rc cLW))))))))))))))))
noncomputable def LW_14 : Code := (rc (rc (ic (ic (rc (lc (rc (rc (rc (rc cLW))))))))))
noncomputable def LW_15 : Code := (rc (rc (rc (rc (rc cLW)))))
theorem LW_eq : cLW = (.seq LW_0 (.seq LW_1 (.seq LW_2 (.seq LW_3 (.seq (.seq LW_4 (.block 0 (.loop (.seq LW_5 (.seq (.block 1 (.seq LW_6 (.seq LW_7 (.seq LW_8 (.seq LW_9 (.cond (.tmp 62) (.seq LW_10 (.seq LW_11 (.block 2 (.loop LW_12)))) LW_13)))))) LW_14))))) LW_15))))) := by kernel_rfl
def oPr (c : List Value) (i : Nat) : Option AObj := some (.cells c 41 i 2)
def lvW : List Nat := [1, 7, 8, 9]
def vW (k : Int) (m : Nat) (P : Value) (i : Nat) : OV := [some (I k), some (gw 0 m), some P, some (I (i : Nat))]
def lvWb : List Nat := [1, 7, 8, 9, 10, 62]
def vWb (k : Int) (m : Nat) (P : Value) (i : Nat) (g : Bool) : OV := [some (I k), some (gw 0 m), some P, some (I (i : Nat)), some (I (m : Nat)), some (.bool g)]
def lvWl : List Nat := [1, 7, 8, 9, 10, 11, 12]
def vWl (k : Int) (m : Nat) (P : Value) (i j : Nat) (w : Nat) : OV := [some (I k), some (gw 0 m), some P, some (I (i : Nat)), some (I (m : Nat)), some (ow w m), some (I (j : Nat))]
noncomputable def eXk (m : Nat) (cx : List Value) (k : Int) (v : Bool) : Ent := ent (fun args A => match args with | [x, y] => bif gOne (gw 0 m) cx [x] A then m_svv [y] [I k] else false | _ => false) fun _ _ => .bool v
noncomputable def eXPo (m : Nat) (cx : List Value) (q : Nat) (cp : List Value) (v : Bool) : Ent := ent (fun args A => match args with | [x, y] => bif gOne (gw 0 m) cx [x] A then gOne (gw 0 q) cp [y] A else false | _ => false) fun _ _ => .bool v
noncomputable def eXPn (m : Nat) (cx : List Value) (v : Bool) : Ent := ent (fun args A => match args with | [x, y] => bif gOne (gw 0 m) cx [x] A then m_svv [y, .agg ⟨cx⟩] [nilV, .agg ⟨cx⟩] else false | _ => false) fun _ _ => .bool v
noncomputable def gEd (m : Nat) (q : Nat) (cp : List Value) (args : List Value) (A : AW) : Bool := match args with | [x, y] => bif m_svv [x] [I (m : Nat)] then gOne (gw 0 q) cp [y] A else false | _ => false
noncomputable def eEdo (m : Nat) (q : Nat) (cp : List Value) (v : Bool) : Ent := ent (fun args A => gEd m q cp args A) fun _ _ => .bool v
noncomputable def eOfo (m : Nat) (q : Nat) (cp ws : List Value) : Ent := ⟨fun args A => gEd m q cp args A, fun _ _ => true, fun _ A => .slice (some ⟨A.next, 0, none⟩) m m, fun _ A => A.new (.cells ws 3 A.next 1), fun _ _ => undef, fun _ A => A⟩
noncomputable def tWao (m : Nat) (cx : List Value) (q : Nat) (cp : List Value) (k : Int) (v w e : Bool) : Tbl := tcons 5 (eXk m cx k v) (tcons 6 (eXk m cx k v) (tcons 7 (eXPo m cx q cp w) (tcons 8 (eXPo m cx q cp w) (tcons 9 (eEdo m q cp e) fun _ => none))))
noncomputable def tWan (m : Nat) (cx : List Value) (k : Int) (v w e : Bool) : Tbl := tcons 5 (eXk m cx k v) (tcons 6 (eXk m cx k v) (tcons 7 (eXPn m cx w) (tcons 8 (eXPn m cx w) (tcons 9 (eVal [I (m : Nat), nilV] (.bool e)) fun _ => none))))
noncomputable def tWoo (m : Nat) (q : Nat) (cp ws : List Value) : Tbl := tcons 10 (eOfo m q cp ws) fun _ => none
noncomputable def tWon (m : Nat) (ws : List Value) : Tbl := tcons 10 (eOw true [I (m : Nat), nilV] m ws) fun _ => none
noncomputable def tLi (sl : Value) (m : Nat) (cx : List Value) : Tbl := tcons 4 (eRow [sl] m cx) fun _ => none
noncomputable def tAw : Tbl := tcons 12 (e0 (.bool true)) fun _ => none
noncomputable def tLx (sl : Value) : Tbl := tcons 4 (eVal [sl] nilV) tAw

theorem liR (r : Mem) (b off n cap : Nat) (K : Value → AW → CR) : (lvlT (SC r) (fun _ => none) .nil 1 2).call 4 [RS b off n cap] emptyA K =
    bif decide (0 ≤ bif decide (18 < Int.ofNat n) then Int.ofNat 18 else Int.ofNat n) then bif Nat.beq cap 9223372036854775809 then .fail 435 else bif Nat.ble (Int.toNat (bif decide (18 < Int.ofNat n) then Int.ofNat 18 else Int.ofNat n)) cap then bif Nat.beq (Int.toNat (bif decide (18 < Int.ofNat n) then Int.ofNat 18 else Int.ofNat n)) 0 then K (.slice none 0 0) (AW.mk 0 .nil .nil) else bif Nat.ble (Nat.add 0 (Nat.sub (Int.toNat (bif decide (18 < Int.ofNat n) then Int.ofNat 18 else Int.ofNat n)) 0)) 1000000 then Option.casesOn (match Nat.beq (Nat.sub cap 0) unkE with | true => none | false => takeF (Cfg.ro (SC r) b) (Nat.add off (Nat.mul 0 (TypeInfo.size Tryz.t3))) (Nat.mul (Nat.sub (Int.toNat (bif decide (18 < Int.ofNat n) then 18 else Int.ofNat n)) 0) (TypeInfo.size Tryz.t3))) (.fail 443) fun val => bif Nat.beq (List.length val) (Nat.mul (Nat.sub (Int.toNat (bif decide (18 < Int.ofNat n) then Int.ofNat 18 else Int.ofNat n)) 0) 1) then bif Nat.beq (Nat.sub (Int.toNat (bif decide (18 < Int.ofNat n) then Int.ofNat 18 else Int.ofNat n)) 0) 0 then K (.slice none 0 0) (AW.mk 0 .nil .nil) else K (.slice (some ⟨0, 0, none⟩) (Nat.sub (Int.toNat (bif decide (18 < Int.ofNat n) then Int.ofNat 18 else Int.ofNat n)) 0) unk) (AW.mk 1 (.node .nil (some (.cells val 3 0 1)) .nil) .nil) else .fail 420 else .fail 420 else .fail 420 else .fail 420 := by kernel_rfl

theorem lwIo (r : Mem) (b off n cap m b2 off2 n2 cap2 : Nat) (k : Int) (cx : List Value) (K : OV → List Nat → OO → CR) (kx : Nat → KS) (KR : OV → List Nat → OO → CR) : run (SC r) 4611686018427396039 80 1 (.seq LW_0 (.seq LW_1 (.seq LW_2 (.seq LW_3 LW_4)))) (lvlT (SC r) (tLi (RS b off n cap) m cx) .nil 1 2) none (rbK 0 lvW [] K) kx (rbK 0 [6] [] KR) (sc0 4611686018427396039 [RS b off n cap, I k, RS2 b2 off2 n2 cap2]) (tr0 4611686018427396039 [RS b off n cap, I k, RS2 b2 off2 n2 cap2]) [] emptyA =
    bif m_svv [.slice (some ⟨b, off, some 0⟩) n cap] [.slice (some ⟨b, off, some 0⟩) n cap] then bif decide (0 ≤ bif decide (125 < Int.ofNat n2) then Int.ofNat 125 else Int.ofNat n2) then bif Nat.beq cap2 9223372036854775809 then .fail 435 else bif Nat.ble (Int.toNat (bif decide (125 < Int.ofNat n2) then Int.ofNat 125 else Int.ofNat n2)) cap2 then bif Nat.beq (Int.toNat (bif decide (125 < Int.ofNat n2) then Int.ofNat 125 else Int.ofNat n2)) 0 then bif m_nns cx && true then K [some (I k), some (.slice (some ⟨0, 0, none⟩) m unk), some (.slice none 0 0), some (I (Int.ofNat 0))] [] [some (.cells cx 3 0 1)] else .fail 420 else bif Nat.ble (Nat.add 0 (Nat.sub (Int.toNat (bif decide (125 < Int.ofNat n2) then Int.ofNat 125 else Int.ofNat n2)) 0)) 1000000 then Option.casesOn (match Nat.beq (Nat.sub cap2 0) unkE with | true => none | false => takeF (Cfg.ro (SC r) b2) (Nat.add off2 (Nat.mul 0 (TypeInfo.size Tryz.t41))) (Nat.mul (Nat.sub (Int.toNat (bif decide (125 < Int.ofNat n2) then 125 else Int.ofNat n2)) 0) (TypeInfo.size Tryz.t41))) (.fail 443) fun val => bif Nat.beq (List.length val) (Nat.mul (Nat.sub (Int.toNat (bif decide (125 < Int.ofNat n2) then Int.ofNat 125 else Int.ofNat n2)) 0) 2) then bif Nat.beq (Nat.sub (Int.toNat (bif decide (125 < Int.ofNat n2) then Int.ofNat 125 else Int.ofNat n2)) 0) 0 then bif m_nns cx && true then K [some (I k), some (.slice (some ⟨0, 0, none⟩) m unk), some (.slice none 0 0), some (I (Int.ofNat 0))] [] [some (.cells cx 3 0 1)] else .fail 420 else bif m_nns cx && (m_nns val && true) then K [some (I k), some (.slice (some ⟨0, 0, none⟩) m unk), some (.slice (some ⟨1, 0, none⟩) (Nat.sub (Int.toNat (bif decide (125 < Int.ofNat n2) then Int.ofNat 125 else Int.ofNat n2)) 0) unk), some (I (Int.ofNat 0))] [] [some (.cells cx 3 0 1), some (.cells val 41 1 2)] else .fail 420 else .fail 420 else .fail 420 else .fail 420 else .fail 420 else .fail 420 := by kernel_rfl

theorem lwIn (r : Mem) (b off n cap m : Nat) (k : Int) (cx : List Value) (K : OV → List Nat → OO → CR) (kx : Nat → KS) (KR : OV → List Nat → OO → CR) : run (SC r) 4611686018427396039 80 1 (.seq LW_0 (.seq LW_1 (.seq LW_2 (.seq LW_3 LW_4)))) (lvlT (SC r) (tLi (RS b off n cap) m cx) .nil 1 2) none (rbK 0 lvW [] K) kx (rbK 0 [6] [] KR) (sc0 4611686018427396039 [RS b off n cap, I k, nilV]) (tr0 4611686018427396039 [RS b off n cap, I k, nilV]) [] emptyA =
    bif m_svv [.slice (some ⟨b, off, some 0⟩) n cap] [.slice (some ⟨b, off, some 0⟩) n cap] then bif m_nns cx && true then K [some (I k), some (.slice (some ⟨0, 0, none⟩) m unk), some (.slice none 0 0), some (I (Int.ofNat 0))] [] [some (.cells cx 3 0 1)] else .fail 420 else .fail 420 := by kernel_rfl

theorem lwTo (r : Mem) (k : Int) (m i : Nat) (cx : List Value) (q : Nat) (cp : List Value) (fs : FnsC) (K : OV → List Nat → OO → CR) (KX : Nat → OV → List Nat → OO → CR) (kr : KS) : run (SC r) 4611686018427396039 80 1 LW_5 fs none (rbK 0 lvW [] K) (fun j => rbK 0 [] [] (KX j)) kr [] (bT lvW (vW k m (gw 1 q) i) .nil) [] (mkA [oIn cx 0, oPr cp 1]) =
    bif decide (Int.ofNat i < 2) then bif m_nns cx && (m_nns cp && true) then K [some (I k), some (.slice (some ⟨0, 0, none⟩) m unk), some (.slice (some ⟨1, 0, none⟩) q unk), some (I (Int.ofNat i))] [] [some (.cells cx 3 0 1), some (.cells cp 41 1 2)] else .fail 420 else KX 0 [] [] [] := by kernel_rfl

theorem lwAo (r : Mem) (k : Int) (m i : Nat) (cx : List Value) (q : Nat) (cp : List Value) (v w e : Bool) (K : OV → List Nat → OO → CR) (kx : Nat → KS) (KR : OV → List Nat → OO → CR) : run (SC r) 4611686018427396039 80 1 (.seq LW_6 (.seq LW_7 (.seq LW_8 LW_9))) (lvlT (SC r) (tWao m cx q cp k v w e) .nil 1 1) none (rbK 0 lvWb [] K) kx (rbK 0 [6] [] KR) [] (bT lvW (vW k m (gw 1 q) i) .nil) [] (mkA [oIn cx 0, oPr cp 1]) =
    bif bif m_svv [.slice (some ⟨0, 0, none⟩) m unk, .agg ⟨cx⟩] [.slice (some ⟨0, 0, none⟩) m unk, .agg ⟨cx⟩] then m_svv [I k] [I k] else false then bif v then bif bif m_svv [.slice (some ⟨0, 0, none⟩) m unk, .agg ⟨cx⟩] [.slice (some ⟨0, 0, none⟩) m unk, .agg ⟨cx⟩] then m_svv [I k] [I k] else false then bif v then bif bif m_svv [.slice (some ⟨0, 0, none⟩) m unk, .agg ⟨cx⟩] [.slice (some ⟨0, 0, none⟩) m unk, .agg ⟨cx⟩] then m_svv [.slice (some ⟨0, 0, none⟩) q unk, .agg ⟨cp⟩] [.slice (some ⟨0, 0, none⟩) q unk, .agg ⟨cp⟩] else false then bif w then bif bif m_svv [.slice (some ⟨0, 0, none⟩) m unk, .agg ⟨cx⟩] [.slice (some ⟨0, 0, none⟩) m unk, .agg ⟨cx⟩] then m_svv [.slice (some ⟨0, 0, none⟩) q unk, .agg ⟨cp⟩] [.slice (some ⟨0, 0, none⟩) q unk, .agg ⟨cp⟩] else false then bif w then bif !decide (IntKind.wrap .u64 (IntKind.wrap .i64 (Int.ofNat m + Int.ofNat 1)) = 0) then bif decide (Int.ofNat m ≥ 1) then bif decide (Int.ofNat m ≤ 16) then bif bif m_svv [I (Int.ofNat m)] [I (Int.ofNat m)] then m_svv [.slice (some ⟨0, 0, none⟩) q unk, .agg ⟨cp⟩] [.slice (some ⟨0, 0, none⟩) q unk, .agg ⟨cp⟩] else false then bif e then bif m_nns cx && (m_nns cp && true) then K [some (I (IntKind.wrap .i64 (Int.tmod (IntKind.wrap .u64 k) (IntKind.wrap .u64 (IntKind.wrap .i64 (Int.ofNat m + Int.ofNat 1)))))), some (.slice (some ⟨0, 0, none⟩) m unk), some (.slice (some ⟨1, 0, none⟩) q unk), some (I (Int.ofNat i)), some (I (Int.ofNat m)), some (.bool true)] [] [some (.cells cx 3 0 1), some (.cells cp 41 1 2)] else .fail 420 else bif m_nns cx && (m_nns cp && true) then K [some (I (IntKind.wrap .i64 (Int.tmod (IntKind.wrap .u64 k) (IntKind.wrap .u64 (IntKind.wrap .i64 (Int.ofNat m + Int.ofNat 1)))))), some (.slice (some ⟨0, 0, none⟩) m unk), some (.slice (some ⟨1, 0, none⟩) q unk), some (I (Int.ofNat i)), some (I (Int.ofNat m)), some (.bool false)] [] [some (.cells cx 3 0 1), some (.cells cp 41 1 2)] else .fail 420 else .fail 420 else bif m_nns cx && (m_nns cp && true) then K [some (I (IntKind.wrap .i64 (Int.tmod (IntKind.wrap .u64 k) (IntKind.wrap .u64 (IntKind.wrap .i64 (Int.ofNat m + Int.ofNat 1)))))), some (.slice (some ⟨0, 0, none⟩) m unk), some (.slice (some ⟨1, 0, none⟩) q unk), some (I (Int.ofNat i)), some (I (Int.ofNat m)), some (.bool false)] [] [some (.cells cx 3 0 1), some (.cells cp 41 1 2)] else .fail 420 else bif m_nns cx && (m_nns cp && true) then K [some (I (IntKind.wrap .i64 (Int.tmod (IntKind.wrap .u64 k) (IntKind.wrap .u64 (IntKind.wrap .i64 (Int.ofNat m + Int.ofNat 1)))))), some (.slice (some ⟨0, 0, none⟩) m unk), some (.slice (some ⟨1, 0, none⟩) q unk), some (I (Int.ofNat i)), some (I (Int.ofNat m)), some (.bool false)] [] [some (.cells cx 3 0 1), some (.cells cp 41 1 2)] else .fail 420 else .fail 420 else KR [some (.bool false)] [] [] else .fail 420 else bif bif m_svv [.slice (some ⟨0, 0, none⟩) m unk, .agg ⟨cx⟩] [.slice (some ⟨0, 0, none⟩) m unk, .agg ⟨cx⟩] then m_svv [.slice (some ⟨0, 0, none⟩) q unk, .agg ⟨cp⟩] [.slice (some ⟨0, 0, none⟩) q unk, .agg ⟨cp⟩] else false then bif w then KR [some (.bool false)] [] [] else bif !decide (IntKind.wrap .u64 (IntKind.wrap .i64 (Int.ofNat m + Int.ofNat 1)) = 0) then bif decide (Int.ofNat m ≥ 1) then bif decide (Int.ofNat m ≤ 16) then bif bif m_svv [I (Int.ofNat m)] [I (Int.ofNat m)] then m_svv [.slice (some ⟨0, 0, none⟩) q unk, .agg ⟨cp⟩] [.slice (some ⟨0, 0, none⟩) q unk, .agg ⟨cp⟩] else false then bif e then bif m_nns cx && (m_nns cp && true) then K [some (I (IntKind.wrap .i64 (Int.tmod (IntKind.wrap .u64 k) (IntKind.wrap .u64 (IntKind.wrap .i64 (Int.ofNat m + Int.ofNat 1)))))), some (.slice (some ⟨0, 0, none⟩) m unk), some (.slice (some ⟨1, 0, none⟩) q unk), some (I (Int.ofNat i)), some (I (Int.ofNat m)), some (.bool true)] [] [some (.cells cx 3 0 1), some (.cells cp 41 1 2)] else .fail 420 else bif m_nns cx && (m_nns cp && true) then K [some (I (IntKind.wrap .i64 (Int.tmod (IntKind.wrap .u64 k) (IntKind.wrap .u64 (IntKind.wrap .i64 (Int.ofNat m + Int.ofNat 1)))))), some (.slice (some ⟨0, 0, none⟩) m unk), some (.slice (some ⟨1, 0, none⟩) q unk), some (I (Int.ofNat i)), some (I (Int.ofNat m)), some (.bool false)] [] [some (.cells cx 3 0 1), some (.cells cp 41 1 2)] else .fail 420 else .fail 420 else bif m_nns cx && (m_nns cp && true) then K [some (I (IntKind.wrap .i64 (Int.tmod (IntKind.wrap .u64 k) (IntKind.wrap .u64 (IntKind.wrap .i64 (Int.ofNat m + Int.ofNat 1)))))), some (.slice (some ⟨0, 0, none⟩) m unk), some (.slice (some ⟨1, 0, none⟩) q unk), some (I (Int.ofNat i)), some (I (Int.ofNat m)), some (.bool false)] [] [some (.cells cx 3 0 1), some (.cells cp 41 1 2)] else .fail 420 else bif m_nns cx && (m_nns cp && true) then K [some (I (IntKind.wrap .i64 (Int.tmod (IntKind.wrap .u64 k) (IntKind.wrap .u64 (IntKind.wrap .i64 (Int.ofNat m + Int.ofNat 1)))))), some (.slice (some ⟨0, 0, none⟩) m unk), some (.slice (some ⟨1, 0, none⟩) q unk), some (I (Int.ofNat i)), some (I (Int.ofNat m)), some (.bool false)] [] [some (.cells cx 3 0 1), some (.cells cp 41 1 2)] else .fail 420 else .fail 420 else .fail 420 else .fail 420 else KR [some (.bool false)] [] [] else .fail 420 else bif bif m_svv [.slice (some ⟨0, 0, none⟩) m unk, .agg ⟨cx⟩] [.slice (some ⟨0, 0, none⟩) m unk, .agg ⟨cx⟩] then m_svv [I k] [I k] else false then bif v then KR [some (.bool false)] [] [] else bif bif m_svv [.slice (some ⟨0, 0, none⟩) m unk, .agg ⟨cx⟩] [.slice (some ⟨0, 0, none⟩) m unk, .agg ⟨cx⟩] then m_svv [.slice (some ⟨0, 0, none⟩) q unk, .agg ⟨cp⟩] [.slice (some ⟨0, 0, none⟩) q unk, .agg ⟨cp⟩] else false then bif w then bif bif m_svv [.slice (some ⟨0, 0, none⟩) m unk, .agg ⟨cx⟩] [.slice (some ⟨0, 0, none⟩) m unk, .agg ⟨cx⟩] then m_svv [.slice (some ⟨0, 0, none⟩) q unk, .agg ⟨cp⟩] [.slice (some ⟨0, 0, none⟩) q unk, .agg ⟨cp⟩] else false then bif w then bif !decide (IntKind.wrap .u64 (IntKind.wrap .i64 (Int.ofNat m + Int.ofNat 1)) = 0) then bif decide (Int.ofNat m ≥ 1) then bif decide (Int.ofNat m ≤ 16) then bif bif m_svv [I (Int.ofNat m)] [I (Int.ofNat m)] then m_svv [.slice (some ⟨0, 0, none⟩) q unk, .agg ⟨cp⟩] [.slice (some ⟨0, 0, none⟩) q unk, .agg ⟨cp⟩] else false then bif e then bif m_nns cx && (m_nns cp && true) then K [some (I (IntKind.wrap .i64 (Int.tmod (IntKind.wrap .u64 k) (IntKind.wrap .u64 (IntKind.wrap .i64 (Int.ofNat m + Int.ofNat 1)))))), some (.slice (some ⟨0, 0, none⟩) m unk), some (.slice (some ⟨1, 0, none⟩) q unk), some (I (Int.ofNat i)), some (I (Int.ofNat m)), some (.bool true)] [] [some (.cells cx 3 0 1), some (.cells cp 41 1 2)] else .fail 420 else bif m_nns cx && (m_nns cp && true) then K [some (I (IntKind.wrap .i64 (Int.tmod (IntKind.wrap .u64 k) (IntKind.wrap .u64 (IntKind.wrap .i64 (Int.ofNat m + Int.ofNat 1)))))), some (.slice (some ⟨0, 0, none⟩) m unk), some (.slice (some ⟨1, 0, none⟩) q unk), some (I (Int.ofNat i)), some (I (Int.ofNat m)), some (.bool false)] [] [some (.cells cx 3 0 1), some (.cells cp 41 1 2)] else .fail 420 else .fail 420 else bif m_nns cx && (m_nns cp && true) then K [some (I (IntKind.wrap .i64 (Int.tmod (IntKind.wrap .u64 k) (IntKind.wrap .u64 (IntKind.wrap .i64 (Int.ofNat m + Int.ofNat 1)))))), some (.slice (some ⟨0, 0, none⟩) m unk), some (.slice (some ⟨1, 0, none⟩) q unk), some (I (Int.ofNat i)), some (I (Int.ofNat m)), some (.bool false)] [] [some (.cells cx 3 0 1), some (.cells cp 41 1 2)] else .fail 420 else bif m_nns cx && (m_nns cp && true) then K [some (I (IntKind.wrap .i64 (Int.tmod (IntKind.wrap .u64 k) (IntKind.wrap .u64 (IntKind.wrap .i64 (Int.ofNat m + Int.ofNat 1)))))), some (.slice (some ⟨0, 0, none⟩) m unk), some (.slice (some ⟨1, 0, none⟩) q unk), some (I (Int.ofNat i)), some (I (Int.ofNat m)), some (.bool false)] [] [some (.cells cx 3 0 1), some (.cells cp 41 1 2)] else .fail 420 else .fail 420 else KR [some (.bool false)] [] [] else .fail 420 else bif bif m_svv [.slice (some ⟨0, 0, none⟩) m unk, .agg ⟨cx⟩] [.slice (some ⟨0, 0, none⟩) m unk, .agg ⟨cx⟩] then m_svv [.slice (some ⟨0, 0, none⟩) q unk, .agg ⟨cp⟩] [.slice (some ⟨0, 0, none⟩) q unk, .agg ⟨cp⟩] else false then bif w then KR [some (.bool false)] [] [] else bif !decide (IntKind.wrap .u64 (IntKind.wrap .i64 (Int.ofNat m + Int.ofNat 1)) = 0) then bif decide (Int.ofNat m ≥ 1) then bif decide (Int.ofNat m ≤ 16) then bif bif m_svv [I (Int.ofNat m)] [I (Int.ofNat m)] then m_svv [.slice (some ⟨0, 0, none⟩) q unk, .agg ⟨cp⟩] [.slice (some ⟨0, 0, none⟩) q unk, .agg ⟨cp⟩] else false then bif e then bif m_nns cx && (m_nns cp && true) then K [some (I (IntKind.wrap .i64 (Int.tmod (IntKind.wrap .u64 k) (IntKind.wrap .u64 (IntKind.wrap .i64 (Int.ofNat m + Int.ofNat 1)))))), some (.slice (some ⟨0, 0, none⟩) m unk), some (.slice (some ⟨1, 0, none⟩) q unk), some (I (Int.ofNat i)), some (I (Int.ofNat m)), some (.bool true)] [] [some (.cells cx 3 0 1), some (.cells cp 41 1 2)] else .fail 420 else bif m_nns cx && (m_nns cp && true) then K [some (I (IntKind.wrap .i64 (Int.tmod (IntKind.wrap .u64 k) (IntKind.wrap .u64 (IntKind.wrap .i64 (Int.ofNat m + Int.ofNat 1)))))), some (.slice (some ⟨0, 0, none⟩) m unk), some (.slice (some ⟨1, 0, none⟩) q unk), some (I (Int.ofNat i)), some (I (Int.ofNat m)), some (.bool false)] [] [some (.cells cx 3 0 1), some (.cells cp 41 1 2)] else .fail 420 else .fail 420 else bif m_nns cx && (m_nns cp && true) then K [some (I (IntKind.wrap .i64 (Int.tmod (IntKind.wrap .u64 k) (IntKind.wrap .u64 (IntKind.wrap .i64 (Int.ofNat m + Int.ofNat 1)))))), some (.slice (some ⟨0, 0, none⟩) m unk), some (.slice (some ⟨1, 0, none⟩) q unk), some (I (Int.ofNat i)), some (I (Int.ofNat m)), some (.bool false)] [] [some (.cells cx 3 0 1), some (.cells cp 41 1 2)] else .fail 420 else bif m_nns cx && (m_nns cp && true) then K [some (I (IntKind.wrap .i64 (Int.tmod (IntKind.wrap .u64 k) (IntKind.wrap .u64 (IntKind.wrap .i64 (Int.ofNat m + Int.ofNat 1)))))), some (.slice (some ⟨0, 0, none⟩) m unk), some (.slice (some ⟨1, 0, none⟩) q unk), some (I (Int.ofNat i)), some (I (Int.ofNat m)), some (.bool false)] [] [some (.cells cx 3 0 1), some (.cells cp 41 1 2)] else .fail 420 else .fail 420 else .fail 420 else .fail 420 else .fail 420 else .fail 420 := by kernel_rfl

theorem lwOo (r : Mem) (k : Int) (m i : Nat) (g : Bool) (cx ws : List Value) (q : Nat) (cp : List Value) (K : OV → List Nat → OO → CR) (kx : Nat → KS) (kr : KS) : run (SC r) 4611686018427396039 80 1 (.seq LW_10 LW_11) (lvlT (SC r) (tWoo m q cp ws) .nil 1 1) none (rbK 0 lvWl [] K) kx kr [] (bT lvWb (vWb k m (gw 1 q) i g) .nil) [] (mkA [oIn cx 0, oPr cp 1]) =
    bif bif m_svv [I (Int.ofNat m)] [I (Int.ofNat m)] then m_svv [.slice (some ⟨0, 0, none⟩) q unk, .agg ⟨cp⟩] [.slice (some ⟨0, 0, none⟩) q unk, .agg ⟨cp⟩] else false then bif m_nns cx && (m_nns cp && (m_nns ws && true)) then K [some (I k), some (.slice (some ⟨0, 0, none⟩) m unk), some (.slice (some ⟨1, 0, none⟩) q unk), some (I (Int.ofNat i)), some (I (Int.ofNat m)), some (.slice (some ⟨2, 0, none⟩) m m), some (I (Int.ofNat 0))] [] [some (.cells cx 3 0 1), some (.cells cp 41 1 2), some (.cells ws 3 2 1)] else .fail 420 else .fail 420 := by kernel_rfl

theorem lwLo (r : Mem) (k : Int) (m i j : Nat) (cx ws : List Value) (q : Nat) (cp : List Value) (K : OV → List Nat → OO → CR) (KX : Nat → OV → List Nat → OO → CR) (kr : KS) : run (SC r) 4611686018427396039 80 1 LW_12 (lvlT (SC r) tSz .nil 1 1) none (rbK 0 lvWl [] K) (fun j => rbK 0 lvW [] (KX j)) kr [] (bT lvWl (vWl k m (gw 1 q) i j 2) .nil) [] (mkA [oIn cx 0, oPr cp 1, oIn ws 2]) =
    bif decide (Int.ofNat j < Int.ofNat m) then bif Nat.blt (Int.toNat (Int.ofNat j)) m then Option.casesOn ws[Nat.add 0 (Nat.mul (Int.toNat (Int.ofNat j)) 1)]? (.fail 423) fun val => bif isI IntKind.i64 val then bif decide (0 ≤ ofI val) && decide (ofI val < 65536) then bif Nat.blt (Int.toNat (Int.ofNat j)) m then bif Nat.blt (Nat.add 0 (Nat.mul (Int.toNat (Int.ofNat j)) 1)) (List.length cx) then bif m_nns (List.set cx (Nat.add 0 (Nat.mul (Int.toNat (Int.ofNat j)) 1)) (I (m_pop (ofI val)))) && (m_nns cp && (m_nns ws && true)) then K [some (I k), some (.slice (some ⟨0, 0, none⟩) m unk), some (.slice (some ⟨1, 0, none⟩) q unk), some (I (Int.ofNat i)), some (I (Int.ofNat m)), some (.slice (some ⟨2, 0, none⟩) m m), some (I (IntKind.wrap .i64 (Int.ofNat j + Int.ofNat 1)))] [] [some (.cells (List.set cx (Nat.add 0 (Nat.mul (Int.toNat (Int.ofNat j)) 1)) (I (m_pop (ofI val)))) 3 0 1), some (.cells cp 41 1 2), some (.cells ws 3 2 1)] else .fail 420 else .fail 420 else .fail 420 else .fail 420 else .fail 420 else .fail 420 else bif m_nns cx && (m_nns cp && true) then KX 2 [some (I k), some (.slice (some ⟨0, 0, none⟩) m unk), some (.slice (some ⟨1, 0, none⟩) q unk), some (I (Int.ofNat i))] [] [some (.cells cx 3 0 1), some (.cells cp 41 1 2)] else .fail 420 := by kernel_rfl

theorem lwSo (r : Mem) (k : Int) (m i : Nat) (g : Bool) (cx : List Value) (q : Nat) (cp : List Value) (fs : FnsC) (K : OV → List Nat → OO → CR) (kx : Nat → KS) (kr : KS) : run (SC r) 4611686018427396039 80 1 LW_13 fs none (rbK 0 lvW [] K) kx kr [] (bT lvWb (vWb k m (gw 1 q) i g) .nil) [] (mkA [oIn cx 0, oPr cp 1]) =
    bif m_nns cx && (m_nns cp && true) then K [some (I k), some (.slice (some ⟨0, 0, none⟩) m unk), some (.slice (some ⟨1, 0, none⟩) q unk), some (I (Int.ofNat i))] [] [some (.cells cx 3 0 1), some (.cells cp 41 1 2)] else .fail 420 := by kernel_rfl

theorem lwNo (r : Mem) (k : Int) (m i : Nat) (cx : List Value) (q : Nat) (cp : List Value) (fs : FnsC) (K : OV → List Nat → OO → CR) (kx : Nat → KS) (kr : KS) : run (SC r) 4611686018427396039 80 1 LW_14 fs none (rbK 0 lvW [] K) kx kr [] (bT lvW (vW k m (gw 1 q) i) .nil) [] (mkA [oIn cx 0, oPr cp 1]) =
    bif m_nns cx && (m_nns cp && true) then K [some (I k), some (.slice (some ⟨0, 0, none⟩) m unk), some (.slice (some ⟨1, 0, none⟩) q unk), some (I (IntKind.wrap .i64 (Int.ofNat i + Int.ofNat 1)))] [] [some (.cells cx 3 0 1), some (.cells cp 41 1 2)] else .fail 420 := by kernel_rfl

theorem lwTn (r : Mem) (k : Int) (m i : Nat) (cx : List Value) (fs : FnsC) (K : OV → List Nat → OO → CR) (KX : Nat → OV → List Nat → OO → CR) (kr : KS) : run (SC r) 4611686018427396039 80 1 LW_5 fs none (rbK 0 lvW [] K) (fun j => rbK 0 [] [] (KX j)) kr [] (bT lvW (vW k m nilV i) .nil) [] (mkA [oIn cx 0]) =
    bif decide (Int.ofNat i < 2) then bif m_nns cx && true then K [some (I k), some (.slice (some ⟨0, 0, none⟩) m unk), some (.slice none 0 0), some (I (Int.ofNat i))] [] [some (.cells cx 3 0 1)] else .fail 420 else KX 0 [] [] [] := by kernel_rfl

theorem lwAn (r : Mem) (k : Int) (m i : Nat) (cx : List Value) (v w e : Bool) (K : OV → List Nat → OO → CR) (kx : Nat → KS) (KR : OV → List Nat → OO → CR) : run (SC r) 4611686018427396039 80 1 (.seq LW_6 (.seq LW_7 (.seq LW_8 LW_9))) (lvlT (SC r) (tWan m cx k v w e) .nil 1 1) none (rbK 0 lvWb [] K) kx (rbK 0 [6] [] KR) [] (bT lvW (vW k m nilV i) .nil) [] (mkA [oIn cx 0]) =
    bif bif m_svv [.slice (some ⟨0, 0, none⟩) m unk, .agg ⟨cx⟩] [.slice (some ⟨0, 0, none⟩) m unk, .agg ⟨cx⟩] then m_svv [I k] [I k] else false then bif v then bif bif m_svv [.slice (some ⟨0, 0, none⟩) m unk, .agg ⟨cx⟩] [.slice (some ⟨0, 0, none⟩) m unk, .agg ⟨cx⟩] then m_svv [I k] [I k] else false then bif v then bif bif m_svv [.slice (some ⟨0, 0, none⟩) m unk, .agg ⟨cx⟩] [.slice (some ⟨0, 0, none⟩) m unk, .agg ⟨cx⟩] then m_svv [.slice none 0 0, .agg ⟨cx⟩] [.slice none 0 0, .agg ⟨cx⟩] else false then bif w then bif bif m_svv [.slice (some ⟨0, 0, none⟩) m unk, .agg ⟨cx⟩] [.slice (some ⟨0, 0, none⟩) m unk, .agg ⟨cx⟩] then m_svv [.slice none 0 0, .agg ⟨cx⟩] [.slice none 0 0, .agg ⟨cx⟩] else false then bif w then bif !decide (IntKind.wrap .u64 (IntKind.wrap .i64 (Int.ofNat m + Int.ofNat 1)) = 0) then bif decide (Int.ofNat m ≥ 1) then bif decide (Int.ofNat m ≤ 16) then bif m_svv [I (Int.ofNat m), .slice none 0 0] [I (Int.ofNat m), .slice none 0 0] then bif e then bif m_nns cx && true then K [some (I (IntKind.wrap .i64 (Int.tmod (IntKind.wrap .u64 k) (IntKind.wrap .u64 (IntKind.wrap .i64 (Int.ofNat m + Int.ofNat 1)))))), some (.slice (some ⟨0, 0, none⟩) m unk), some (.slice none 0 0), some (I (Int.ofNat i)), some (I (Int.ofNat m)), some (.bool true)] [] [some (.cells cx 3 0 1)] else .fail 420 else bif m_nns cx && true then K [some (I (IntKind.wrap .i64 (Int.tmod (IntKind.wrap .u64 k) (IntKind.wrap .u64 (IntKind.wrap .i64 (Int.ofNat m + Int.ofNat 1)))))), some (.slice (some ⟨0, 0, none⟩) m unk), some (.slice none 0 0), some (I (Int.ofNat i)), some (I (Int.ofNat m)), some (.bool false)] [] [some (.cells cx 3 0 1)] else .fail 420 else .fail 420 else bif m_nns cx && true then K [some (I (IntKind.wrap .i64 (Int.tmod (IntKind.wrap .u64 k) (IntKind.wrap .u64 (IntKind.wrap .i64 (Int.ofNat m + Int.ofNat 1)))))), some (.slice (some ⟨0, 0, none⟩) m unk), some (.slice none 0 0), some (I (Int.ofNat i)), some (I (Int.ofNat m)), some (.bool false)] [] [some (.cells cx 3 0 1)] else .fail 420 else bif m_nns cx && true then K [some (I (IntKind.wrap .i64 (Int.tmod (IntKind.wrap .u64 k) (IntKind.wrap .u64 (IntKind.wrap .i64 (Int.ofNat m + Int.ofNat 1)))))), some (.slice (some ⟨0, 0, none⟩) m unk), some (.slice none 0 0), some (I (Int.ofNat i)), some (I (Int.ofNat m)), some (.bool false)] [] [some (.cells cx 3 0 1)] else .fail 420 else .fail 420 else KR [some (.bool false)] [] [] else .fail 420 else bif bif m_svv [.slice (some ⟨0, 0, none⟩) m unk, .agg ⟨cx⟩] [.slice (some ⟨0, 0, none⟩) m unk, .agg ⟨cx⟩] then m_svv [.slice none 0 0, .agg ⟨cx⟩] [.slice none 0 0, .agg ⟨cx⟩] else false then bif w then KR [some (.bool false)] [] [] else bif !decide (IntKind.wrap .u64 (IntKind.wrap .i64 (Int.ofNat m + Int.ofNat 1)) = 0) then bif decide (Int.ofNat m ≥ 1) then bif decide (Int.ofNat m ≤ 16) then bif m_svv [I (Int.ofNat m), .slice none 0 0] [I (Int.ofNat m), .slice none 0 0] then bif e then bif m_nns cx && true then K [some (I (IntKind.wrap .i64 (Int.tmod (IntKind.wrap .u64 k) (IntKind.wrap .u64 (IntKind.wrap .i64 (Int.ofNat m + Int.ofNat 1)))))), some (.slice (some ⟨0, 0, none⟩) m unk), some (.slice none 0 0), some (I (Int.ofNat i)), some (I (Int.ofNat m)), some (.bool true)] [] [some (.cells cx 3 0 1)] else .fail 420 else bif m_nns cx && true then K [some (I (IntKind.wrap .i64 (Int.tmod (IntKind.wrap .u64 k) (IntKind.wrap .u64 (IntKind.wrap .i64 (Int.ofNat m + Int.ofNat 1)))))), some (.slice (some ⟨0, 0, none⟩) m unk), some (.slice none 0 0), some (I (Int.ofNat i)), some (I (Int.ofNat m)), some (.bool false)] [] [some (.cells cx 3 0 1)] else .fail 420 else .fail 420 else bif m_nns cx && true then K [some (I (IntKind.wrap .i64 (Int.tmod (IntKind.wrap .u64 k) (IntKind.wrap .u64 (IntKind.wrap .i64 (Int.ofNat m + Int.ofNat 1)))))), some (.slice (some ⟨0, 0, none⟩) m unk), some (.slice none 0 0), some (I (Int.ofNat i)), some (I (Int.ofNat m)), some (.bool false)] [] [some (.cells cx 3 0 1)] else .fail 420 else bif m_nns cx && true then K [some (I (IntKind.wrap .i64 (Int.tmod (IntKind.wrap .u64 k) (IntKind.wrap .u64 (IntKind.wrap .i64 (Int.ofNat m + Int.ofNat 1)))))), some (.slice (some ⟨0, 0, none⟩) m unk), some (.slice none 0 0), some (I (Int.ofNat i)), some (I (Int.ofNat m)), some (.bool false)] [] [some (.cells cx 3 0 1)] else .fail 420 else .fail 420 else .fail 420 else .fail 420 else KR [some (.bool false)] [] [] else .fail 420 else bif bif m_svv [.slice (some ⟨0, 0, none⟩) m unk, .agg ⟨cx⟩] [.slice (some ⟨0, 0, none⟩) m unk, .agg ⟨cx⟩] then m_svv [I k] [I k] else false then bif v then KR [some (.bool false)] [] [] else bif bif m_svv [.slice (some ⟨0, 0, none⟩) m unk, .agg ⟨cx⟩] [.slice (some ⟨0, 0, none⟩) m unk, .agg ⟨cx⟩] then m_svv [.slice none 0 0, .agg ⟨cx⟩] [.slice none 0 0, .agg ⟨cx⟩] else false then bif w then bif bif m_svv [.slice (some ⟨0, 0, none⟩) m unk, .agg ⟨cx⟩] [.slice (some ⟨0, 0, none⟩) m unk, .agg ⟨cx⟩] then m_svv [.slice none 0 0, .agg ⟨cx⟩] [.slice none 0 0, .agg ⟨cx⟩] else false then bif w then bif !decide (IntKind.wrap .u64 (IntKind.wrap .i64 (Int.ofNat m + Int.ofNat 1)) = 0) then bif decide (Int.ofNat m ≥ 1) then bif decide (Int.ofNat m ≤ 16) then bif m_svv [I (Int.ofNat m), .slice none 0 0] [I (Int.ofNat m), .slice none 0 0] then bif e then bif m_nns cx && true then K [some (I (IntKind.wrap .i64 (Int.tmod (IntKind.wrap .u64 k) (IntKind.wrap .u64 (IntKind.wrap .i64 (Int.ofNat m + Int.ofNat 1)))))), some (.slice (some ⟨0, 0, none⟩) m unk), some (.slice none 0 0), some (I (Int.ofNat i)), some (I (Int.ofNat m)), some (.bool true)] [] [some (.cells cx 3 0 1)] else .fail 420 else bif m_nns cx && true then K [some (I (IntKind.wrap .i64 (Int.tmod (IntKind.wrap .u64 k) (IntKind.wrap .u64 (IntKind.wrap .i64 (Int.ofNat m + Int.ofNat 1)))))), some (.slice (some ⟨0, 0, none⟩) m unk), some (.slice none 0 0), some (I (Int.ofNat i)), some (I (Int.ofNat m)), some (.bool false)] [] [some (.cells cx 3 0 1)] else .fail 420 else .fail 420 else bif m_nns cx && true then K [some (I (IntKind.wrap .i64 (Int.tmod (IntKind.wrap .u64 k) (IntKind.wrap .u64 (IntKind.wrap .i64 (Int.ofNat m + Int.ofNat 1)))))), some (.slice (some ⟨0, 0, none⟩) m unk), some (.slice none 0 0), some (I (Int.ofNat i)), some (I (Int.ofNat m)), some (.bool false)] [] [some (.cells cx 3 0 1)] else .fail 420 else bif m_nns cx && true then K [some (I (IntKind.wrap .i64 (Int.tmod (IntKind.wrap .u64 k) (IntKind.wrap .u64 (IntKind.wrap .i64 (Int.ofNat m + Int.ofNat 1)))))), some (.slice (some ⟨0, 0, none⟩) m unk), some (.slice none 0 0), some (I (Int.ofNat i)), some (I (Int.ofNat m)), some (.bool false)] [] [some (.cells cx 3 0 1)] else .fail 420 else .fail 420 else KR [some (.bool false)] [] [] else .fail 420 else bif bif m_svv [.slice (some ⟨0, 0, none⟩) m unk, .agg ⟨cx⟩] [.slice (some ⟨0, 0, none⟩) m unk, .agg ⟨cx⟩] then m_svv [.slice none 0 0, .agg ⟨cx⟩] [.slice none 0 0, .agg ⟨cx⟩] else false then bif w then KR [some (.bool false)] [] [] else bif !decide (IntKind.wrap .u64 (IntKind.wrap .i64 (Int.ofNat m + Int.ofNat 1)) = 0) then bif decide (Int.ofNat m ≥ 1) then bif decide (Int.ofNat m ≤ 16) then bif m_svv [I (Int.ofNat m), .slice none 0 0] [I (Int.ofNat m), .slice none 0 0] then bif e then bif m_nns cx && true then K [some (I (IntKind.wrap .i64 (Int.tmod (IntKind.wrap .u64 k) (IntKind.wrap .u64 (IntKind.wrap .i64 (Int.ofNat m + Int.ofNat 1)))))), some (.slice (some ⟨0, 0, none⟩) m unk), some (.slice none 0 0), some (I (Int.ofNat i)), some (I (Int.ofNat m)), some (.bool true)] [] [some (.cells cx 3 0 1)] else .fail 420 else bif m_nns cx && true then K [some (I (IntKind.wrap .i64 (Int.tmod (IntKind.wrap .u64 k) (IntKind.wrap .u64 (IntKind.wrap .i64 (Int.ofNat m + Int.ofNat 1)))))), some (.slice (some ⟨0, 0, none⟩) m unk), some (.slice none 0 0), some (I (Int.ofNat i)), some (I (Int.ofNat m)), some (.bool false)] [] [some (.cells cx 3 0 1)] else .fail 420 else .fail 420 else bif m_nns cx && true then K [some (I (IntKind.wrap .i64 (Int.tmod (IntKind.wrap .u64 k) (IntKind.wrap .u64 (IntKind.wrap .i64 (Int.ofNat m + Int.ofNat 1)))))), some (.slice (some ⟨0, 0, none⟩) m unk), some (.slice none 0 0), some (I (Int.ofNat i)), some (I (Int.ofNat m)), some (.bool false)] [] [some (.cells cx 3 0 1)] else .fail 420 else bif m_nns cx && true then K [some (I (IntKind.wrap .i64 (Int.tmod (IntKind.wrap .u64 k) (IntKind.wrap .u64 (IntKind.wrap .i64 (Int.ofNat m + Int.ofNat 1)))))), some (.slice (some ⟨0, 0, none⟩) m unk), some (.slice none 0 0), some (I (Int.ofNat i)), some (I (Int.ofNat m)), some (.bool false)] [] [some (.cells cx 3 0 1)] else .fail 420 else .fail 420 else .fail 420 else .fail 420 else .fail 420 else .fail 420 := by kernel_rfl

theorem lwOn (r : Mem) (k : Int) (m i : Nat) (g : Bool) (cx ws : List Value) (K : OV → List Nat → OO → CR) (kx : Nat → KS) (kr : KS) : run (SC r) 4611686018427396039 80 1 (.seq LW_10 LW_11) (lvlT (SC r) (tWon m ws) .nil 1 1) none (rbK 0 lvWl [] K) kx kr [] (bT lvWb (vWb k m nilV i g) .nil) [] (mkA [oIn cx 0]) =
    bif bif true then m_svv [I (Int.ofNat m), .slice none 0 0] [I (Int.ofNat m), .slice none 0 0] else false then bif m_nns cx && (m_nns ws && true) then K [some (I k), some (.slice (some ⟨0, 0, none⟩) m unk), some (.slice none 0 0), some (I (Int.ofNat i)), some (I (Int.ofNat m)), some (.slice (some ⟨1, 0, none⟩) m m), some (I (Int.ofNat 0))] [] [some (.cells cx 3 0 1), some (.cells ws 3 1 1)] else .fail 420 else .fail 420 := by kernel_rfl

theorem lwLn (r : Mem) (k : Int) (m i j : Nat) (cx ws : List Value) (K : OV → List Nat → OO → CR) (KX : Nat → OV → List Nat → OO → CR) (kr : KS) : run (SC r) 4611686018427396039 80 1 LW_12 (lvlT (SC r) tSz .nil 1 1) none (rbK 0 lvWl [] K) (fun j => rbK 0 lvW [] (KX j)) kr [] (bT lvWl (vWl k m nilV i j 1) .nil) [] (mkA [oIn cx 0, oIn ws 1]) =
    bif decide (Int.ofNat j < Int.ofNat m) then bif Nat.blt (Int.toNat (Int.ofNat j)) m then Option.casesOn ws[Nat.add 0 (Nat.mul (Int.toNat (Int.ofNat j)) 1)]? (.fail 423) fun val => bif isI IntKind.i64 val then bif decide (0 ≤ ofI val) && decide (ofI val < 65536) then bif Nat.blt (Int.toNat (Int.ofNat j)) m then bif Nat.blt (Nat.add 0 (Nat.mul (Int.toNat (Int.ofNat j)) 1)) (List.length cx) then bif m_nns (List.set cx (Nat.add 0 (Nat.mul (Int.toNat (Int.ofNat j)) 1)) (I (m_pop (ofI val)))) && (m_nns ws && true) then K [some (I k), some (.slice (some ⟨0, 0, none⟩) m unk), some (.slice none 0 0), some (I (Int.ofNat i)), some (I (Int.ofNat m)), some (.slice (some ⟨1, 0, none⟩) m m), some (I (IntKind.wrap .i64 (Int.ofNat j + Int.ofNat 1)))] [] [some (.cells (List.set cx (Nat.add 0 (Nat.mul (Int.toNat (Int.ofNat j)) 1)) (I (m_pop (ofI val)))) 3 0 1), some (.cells ws 3 1 1)] else .fail 420 else .fail 420 else .fail 420 else .fail 420 else .fail 420 else .fail 420 else bif m_nns cx && true then KX 2 [some (I k), some (.slice (some ⟨0, 0, none⟩) m unk), some (.slice none 0 0), some (I (Int.ofNat i))] [] [some (.cells cx 3 0 1)] else .fail 420 := by kernel_rfl

theorem lwSn (r : Mem) (k : Int) (m i : Nat) (g : Bool) (cx : List Value) (fs : FnsC) (K : OV → List Nat → OO → CR) (kx : Nat → KS) (kr : KS) : run (SC r) 4611686018427396039 80 1 LW_13 fs none (rbK 0 lvW [] K) kx kr [] (bT lvWb (vWb k m nilV i g) .nil) [] (mkA [oIn cx 0]) =
    bif m_nns cx && true then K [some (I k), some (.slice (some ⟨0, 0, none⟩) m unk), some (.slice none 0 0), some (I (Int.ofNat i))] [] [some (.cells cx 3 0 1)] else .fail 420 := by kernel_rfl

theorem lwNn (r : Mem) (k : Int) (m i : Nat) (cx : List Value) (fs : FnsC) (K : OV → List Nat → OO → CR) (kx : Nat → KS) (kr : KS) : run (SC r) 4611686018427396039 80 1 LW_14 fs none (rbK 0 lvW [] K) kx kr [] (bT lvW (vW k m nilV i) .nil) [] (mkA [oIn cx 0]) =
    bif m_nns cx && true then K [some (I k), some (.slice (some ⟨0, 0, none⟩) m unk), some (.slice none 0 0), some (I (IntKind.wrap .i64 (Int.ofNat i + Int.ofNat 1)))] [] [some (.cells cx 3 0 1)] else .fail 420 := by kernel_rfl

theorem lwZ (r : Mem) (K KR : OV → List Nat → OO → CR) (kx : Nat → KS) : run (SC r) 4611686018427396039 80 1 LW_15 (lvlT (SC r) tAw .nil 1 1) none (rbK 0 [6] [] K) kx (rbK 0 [6] [] KR) [] (bT [] [] .nil) [] (mkA []) =
    KR [some (.bool true)] [] [] := by kernel_rfl

end Go.Proofs

/- awake of chapter 5. -/
set_option linter.unusedVariables false
set_option linter.unusedSimpArgs false
namespace Go.Proofs
open Go Go.Ev

theorem awake_ok : GrT Tryz.prog tabM 12 [] (.bool true) := GrT.closedRo evMixed evNames tabM .nil 1000 40 (by kernel_rfl)

end Go.Proofs

/- The law of what is said: what it asks. -/
namespace Go.Proofs
open Go Go.Ev Go.Num
set_option linter.unusedVariables false
set_option linter.unusedSimpArgs false
set_option maxRecDepth 100000

theorem gOne_all {fa : Nat → Int} {la ca na : Nat} {args : List Value} {A : AW} (h1 : Nat.beq ca unkE = false) (hg : gOne (.slice (some ⟨0, 0, none⟩) la ca) (ixN fa na) args A = true) {γ : Gam} {W : World} {r : Mem} (hw : WRel γ A W) (hR : Ro r γ W) {args' : Array Value} (ha : VsRel γ args args'.toList) :
  ∃ b k, VsRel noG [RS b k la 0] args'.toList ∧ rowAt (memW W) b k na fa := by
 unfold gOne at hg
 split at hg
 ·rename_i i x l p
  split at hg
  ·rename_i ci e f zz hi
   have hs := @of_decide_eq_true _ (Classical.propDecidable _) hg
   simp only [List.cons.injEq, Value.slice.injEq, Option.some.injEq, Addr.mk.injEq, Value.agg.injEq, Array.mk.injEq, and_true, true_and] at hs
   obtain ⟨⟨rfl, rfl, rfl⟩, rfl⟩ := hs
   obtain ⟨la⟩ := args'
   cases ha with
   | cons hv hrest =>
   cases hrest
   obtain ⟨b, k, p1, p2⟩ := own_row hw hR h1 hi hv
   exact ⟨b, k, .cons p1 .nil, fun j hj => p2 j _ (ix_get (by omega)) rfl⟩
  ·cases hg
 ·cases hg
theorem gAnd {a b : Bool} (h : (bif a then b else false) = true) : a = true ∧ b = true := by
 cases a with
 | true => exact ⟨rfl, h⟩
 | false => cases h
theorem unk_ne : Nat.beq unk unkE = false := by decide

section
variable {r : Mem} {m q : Nat} {z zp : Nat → Int} {k : Int}
theorem two_o {x y : Value} {A : AW} (hg : (bif gOne (gw 0 m) (ixN z m) [x] A then gOne (gw 0 q) (ixN zp (2 * q)) [y] A else false) = true) {γ : Gam} {W : World} (hw : WRel γ A W) (hR : Ro r γ W) {args' : Array Value} (ha : VsRel γ [x, y] args'.toList) :
  ∃ b k P, VsRel noG [RS b k m 0, P] args'.toList ∧ rowAt (memW W) b k m z ∧ PrR (memW W) q zp P := by
 obtain ⟨g1, g2⟩ := gAnd hg
 obtain ⟨la⟩ := args'
 cases ha with
 | cons hv hrest =>
 cases hrest with
 | cons hv2 hrest =>
 cases hrest
 obtain ⟨b, k, p1, p2⟩ := gOne_all (args' := ⟨[_]⟩) unk_ne g1 hw hR (.cons hv .nil)
 obtain ⟨b', k', q1, q2⟩ := gOne_all (args' := ⟨[_]⟩) unk_ne g2 hw hR (.cons hv2 .nil)
 cases p1 with
 | cons p1 _ =>
 cases q1 with
 | cons q1 _ =>
 exact ⟨b, k, RS2 b' k' q 0, .cons p1 (.cons q1 .nil), p2, .own b' k' 0 q2⟩
theorem two_n {x y : Value} {A : AW} (hg : (bif gOne (gw 0 m) (ixN z m) [x] A then m_svv [y, .agg ⟨ixN z m⟩] [nilV, .agg ⟨ixN z m⟩] else false) = true) {γ : Gam} {W : World} (hw : WRel γ A W) (hR : Ro r γ W) {args' : Array Value} (ha : VsRel γ [x, y] args'.toList) :
  ∃ b k P, VsRel noG [RS b k m 0, P] args'.toList ∧ rowAt (memW W) b k m z ∧ PrR (memW W) 0 zp P := by
 obtain ⟨g1, g2⟩ := gAnd hg
 have hs := @of_decide_eq_true _ (Classical.propDecidable _) g2
 simp only [List.cons.injEq, and_true] at hs
 subst hs
 obtain ⟨la⟩ := args'
 cases ha with
 | cons hv hrest =>
 obtain ⟨b, k, p1, p2⟩ := gOne_all (args' := ⟨[_]⟩) unk_ne g1 hw hR (.cons hv .nil)
 cases p1 with
 | cons p1 _ =>
 exact ⟨b, k, nilV, .cons p1 (hrest.of_ros rfl), p2, .nil rfl⟩
theorem two_k {x y : Value} {A : AW} (hg : (bif gOne (gw 0 m) (ixN z m) [x] A then m_svv [y] [I k] else false) = true) {γ : Gam} {W : World} (hw : WRel γ A W) (hR : Ro r γ W) {args' : Array Value} (ha : VsRel γ [x, y] args'.toList) :
  ∃ b j, VsRel noG [RS b j m 0, I k] args'.toList ∧ rowAt (memW W) b j m z := by
 obtain ⟨g1, g2⟩ := gAnd hg
 have hs := @of_decide_eq_true _ (Classical.propDecidable _) g2
 simp only [List.cons.injEq, and_true] at hs
 subst hs
 obtain ⟨la⟩ := args'
 cases ha with
 | cons hv hrest =>
 obtain ⟨b, j, p1, p2⟩ := gOne_all (args' := ⟨[_]⟩) unk_ne g1 hw hR (.cons hv .nil)
 cases p1 with
 | cons p1 _ =>
 exact ⟨b, j, .cons p1 (hrest.of_ros rfl), p2⟩
theorem ed_o {x y : Value} {A : AW} (hg : (bif m_svv [x] [I (m : Nat)] then gOne (gw 0 q) (ixN zp (2 * q)) [y] A else false) = true) {γ : Gam} {W : World} (hw : WRel γ A W) (hR : Ro r γ W) {args' : Array Value} (ha : VsRel γ [x, y] args'.toList) :
  ∃ P, VsRel noG [I (m : Nat), P] args'.toList ∧ PrR (memW W) q zp P := by
 obtain ⟨g1, g2⟩ := gAnd hg
 have hs := @of_decide_eq_true _ (Classical.propDecidable _) g1
 simp only [List.cons.injEq, and_true] at hs
 subst hs
 obtain ⟨la⟩ := args'
 cases ha with
 | cons hv hrest =>
 cases hrest with
 | cons hv2 hrest =>
 cases hrest
 obtain ⟨b', k', q1, q2⟩ := gOne_all (args' := ⟨[_]⟩) unk_ne g2 hw hR (.cons hv2 .nil)
 cases q1 with
 | cons q1 _ =>
 cases hv
 exact ⟨RS2 b' k' q 0, .cons (.int _ _) (.cons q1 .nil), .own b' k' 0 q2⟩

theorem eXk1_ok (h64 : ∀ j, j < m → s64 (z j)) : EOk (SC r) 5 (eXk m (ixN z m) k (viR z m k)) := EOk.ent fun args A hg => POk.of rfl fun γ W args' hw hR ha => by
 split at hg
 ·obtain ⟨b, j, p1, p2⟩ := two_k hg hw hR ha
  exact ⟨memW W, _, memW_ro W, p1, iv_ok p2 h64 (by decide) k⟩
 ·cases hg
theorem eXk2_ok (h64 : ∀ j, j < m → s64 (z j)) : EOk (SC r) 6 (eXk m (ixN z m) k (viR z m k)) := EOk.ent fun args A hg => POk.of rfl fun γ W args' hw hR ha => by
 split at hg
 ·obtain ⟨b, j, p1, p2⟩ := two_k hg hw hR ha
  exact ⟨memW W, _, memW_ro W, p1, rv_ok p2 h64 k⟩
 ·cases hg
theorem tWao_ok (h64 : ∀ j, j < m → s64 (z j)) (hq : q ≤ 500000) : TOk (SC r) (tWao m (ixN z m) q (ixN zp (2 * q)) k (viR z m k) (irR z zp m q) (okAll (m : Int) zp q)) := by
 refine ((((TOk.nil.cons (EOk.ent fun args A hg => POk.of rfl fun γ W args' hw hR ha => ?_)).cons (EOk.ent fun args A hg => POk.of rfl fun γ W args' hw hR ha => ?_)).cons (EOk.ent fun args A hg => POk.of rfl fun γ W args' hw hR ha => ?_)).cons (eXk2_ok h64)).cons (eXk1_ok h64)
 ·unfold gEd at hg
  split at hg
  ·obtain ⟨P, p1, p2⟩ := ed_o hg hw hR ha
   exact ⟨memW W, _, memW_ro W, p1, ed_ok p2 hq m⟩
  ·cases hg
 ·split at hg
  ·obtain ⟨b, j, P, p1, p2, p3⟩ := two_o hg hw hR ha
   exact ⟨memW W, _, memW_ro W, p1, rr_ok p2 p3 hq⟩
  ·cases hg
 ·split at hg
  ·obtain ⟨b, j, P, p1, p2, p3⟩ := two_o hg hw hR ha
   exact ⟨memW W, _, memW_ro W, p1, ir_ok p2 p3 hq⟩
  ·cases hg
theorem tWan_ok (h64 : ∀ j, j < m → s64 (z j)) : TOk (SC r) (tWan m (ixN z m) k (viR z m k) (irR z zp m 0) (okAll (m : Int) zp 0)) := by
 refine ((((TOk.nil.cons (EOk.ent fun args A hg => ?_)).cons (EOk.ent fun args A hg => POk.of rfl fun γ W args' hw hR ha => ?_)).cons (EOk.ent fun args A hg => POk.of rfl fun γ W args' hw hR ha => ?_)).cons (eXk2_ok h64)).cons (eXk1_ok h64)
 ·have hs := @of_decide_eq_true _ (Classical.propDecidable _) hg
  subst hs
  exact (ed_ok (r := r) (z2 := zp) (len := 0) (.nil rfl) (by omega) m).ro rfl A
 ·split at hg
  ·obtain ⟨b, j, P, p1, p2, p3⟩ := two_n (zp := zp) hg hw hR ha
   exact ⟨memW W, _, memW_ro W, p1, rr_ok p2 p3 (by omega)⟩
  ·cases hg
 ·split at hg
  ·obtain ⟨b, j, P, p1, p2, p3⟩ := two_n (zp := zp) hg hw hR ha
   exact ⟨memW W, _, memW_ro W, p1, ir_ok p2 p3 (by omega)⟩
  ·cases hg
theorem eOfo_ok (h1 : 1 ≤ m) (hm : m ≤ 16) (hq : q ≤ 500000) (hok : okAll (m : Int) zp q = true) : EOk (SC r) 10 (eOfo m q (ixN zp (2 * q)) (ixN (wdN zp m q) m)) := fun args A hgd F hF k γ W args' hw hR ha => by
 refine ⟨fun hcc => ?_, fun h => nomatch h⟩
 have hgd : gEd m q (ixN zp (2 * q)) args A = true := hgd
 unfold gEd at hgd
 split at hgd
 ·obtain ⟨P, p1, p2⟩ := ed_o hgd hw hR ha
  exact (ws_ok p2 hq h1 hm hok).ends (γ := γ) (A := A) (ofV_ow (by omega)) (ix_gnd _ _) hF hw (memW_ro W) p1 ha
 ·cases hgd
theorem tWoo_ok (h1 : 1 ≤ m) (hm : m ≤ 16) (hq : q ≤ 500000) (hok : okAll (m : Int) zp q = true) : TOk (SC r) (tWoo m q (ixN zp (2 * q)) (ixN (wdN zp m q) m)) := TOk.nil.cons (eOfo_ok h1 hm hq hok)
theorem tWon_ok (h1 : 1 ≤ m) (hm : m ≤ 16) : TOk (SC r) (tWon m (ixN (wdN zp m 0) m)) :=
 TOk.nil.cons (eOw_ok (r := r) (z2 := zp) (len := 0) true (fun _ => ⟨h1, hm⟩) (.nil rfl) (by omega))
theorem tAw_ok (hm : ∀ b j u, tabM b j = some u → r b j = some u) : TOk (SC r) tAw := TOk.nil.cons (e0_ok (awake_ok.less hm))
end

theorem min_k (c n : Nat) : (bif decide ((c : Int) < (n : Int)) then (c : Int) else (n : Int)) = ((min n c : Nat) : Int) := by
 by_cases h : (c : Int) < (n : Int)
 ·rw [dT h, cond_true, Nat.min_eq_right (by omega)]
 ·rw [dF h, cond_false, Nat.min_eq_left (by omega)]
section
variable {r : Mem} {b off n cap m : Nat} {z : Nat → Int}
theorem takeF_z {f : Nat → Option Value} (n off : Nat) (h : ∀ i, i < n → f (off + i) = some (I (z i))) : takeF f off n = some (ixN z n) := by
 rw [takeF_row (z := z) n 0 off fun i hi => by rw [Nat.zero_add]; exact h i hi]
 unfold ixN
 rw [List.range_eq_range']
theorem li_row (hl : n ≤ cap) (hc : cap ≤ maxLen) (hm : m = min n 18) (h1 : 1 ≤ m) (hz : rowAt r b off m z) : GrM Tryz.prog r 4 [RS b off n cap] (gw 0 m) (rowA (ixN z m) 3 1) :=
 GrM.of (SC_ok r) TOk.nil .nil ⟨1, 2, by
  have hc : cap ≤ 9223372036854775807 := hc
  rw [liR]
  have e' : (bif decide ((18 : Int) < Int.ofNat n) then Int.ofNat 18 else Int.ofNat n) = ((m : Nat) : Int) := by rw [hm]; exact min_k 18 n
  have e2 : (bif decide ((18 : Int) < Int.ofNat n) then (18 : Int) else Int.ofNat n) = ((m : Nat) : Int) := by rw [hm]; exact min_k 18 n
  simp only [e', e2, dT (show (0 : Int) ≤ ((m : Nat) : Int) by omega), natFx (show cap ≠ 9223372036854775809 by omega), Int.toNat_natCast, Nat.ble_eq_true_of_le (show m ≤ cap by omega), natFx (show m ≠ 0 by omega), Nat.ble_eq_true_of_le (show Nat.add 0 (Nat.sub m 0) ≤ 1000000 by simp; omega), cond_true, cond_false]
  have hr' : (match Nat.beq (Nat.sub cap 0) unkE with | true => none | false => takeF (r b) (Nat.add off (Nat.mul 0 1)) (Nat.mul (Nat.sub m 0) 1)) = some (ixN z m) := by
   rw [natFx (show Nat.sub cap 0 ≠ unkE by unfold unkE; simp; omega)]
   show takeF (r b) off (Nat.mul m 1) = _
   rw [Nat.mul_eq, Nat.mul_one]
   exact takeF_z m off hz
  have oc : ∀ {o : Option (List Value)} {c : List Value} (h : o = some c) (a : CR) (F : List Value → CR), (Option.casesOn o a F : CR) = F c := fun h a F => by rw [h]
  refine (oc hr' _ _).trans ?_
  have l1 : Nat.beq (ixN z m).length (Nat.mul (Nat.sub m 0) 1) = true := by
   rw [ix_len, show Nat.mul (Nat.sub m 0) 1 = m by show m * 1 = _; omega]
   exact Nat.beq_refl _
  simp only [l1, natFx (show Nat.sub m 0 ≠ 0 by show m ≠ 0; omega), cond_true, cond_false]
  unfold finM rowOf rowsOf row1
  have hb : Nat.beq (Nat.sub m 0) 0 = false := natFx (by show m ≠ 0; omega)
  simp only [hb, Bool.and_false]
  have hg : gnds (ixN z m) = true := ix_gnd _ _
  show guardK (gnds (ixN z m)) _ = _
  rw [hg]
  rfl⟩
theorem li_0 (hc : cap ≤ maxLen) : GrT Tryz.prog r 4 [RS b off 0 cap] nilV := GrT.of (SC_ok r) TOk.nil .nil rfl ⟨1, 2, by
 have hc : cap ≤ 9223372036854775807 := hc
 rw [liR]
 have e' : (bif decide ((18 : Int) < Int.ofNat 0) then Int.ofNat 18 else Int.ofNat 0) = ((0 : Nat) : Int) := by decide
 simp only [e', dT (show (0 : Int) ≤ ((0 : Nat) : Int) by omega), natFx (show cap ≠ 9223372036854775809 by omega), Int.toNat_natCast, Nat.ble_eq_true_of_le (Nat.zero_le cap), show Nat.beq 0 0 = true from rfl, cond_true, cond_false]
 rfl⟩
theorem tLi_ok (hl : n ≤ cap) (hc : cap ≤ maxLen) (hm : m = min n 18) (h1 : 1 ≤ m) (hz : rowAt r b off m z) : TOk (SC r) (tLi (RS b off n cap) m (ixN z m)) := TOk.nil.cons (show EOk (SC r) 4 (eRow [RS b off n cap] m (ixN z m)) from fun args A hgd F hF k γ W args' hw hR ha => by
 refine ⟨fun hcc => ?_, fun h => nomatch h⟩
 have hs := @of_decide_eq_true _ (Classical.propDecidable _) hgd
 subst hs
 have hof : ofV 0 (gw 0 m) = true := by simp [ofV, of1]
 exact (li_row hl hc hm h1 hz).ends (γ := γ) (A := A) hof (ix_gnd _ _) hF hw (hR.noG noG fun _ => rfl) (ha.of_ros rfl) ha)
end

end Go.Proofs

/- The law of what is said: its rounds. -/
namespace Go.Proofs
open Go Go.Ev Go.Num
set_option linter.unusedVariables false
set_option linter.unusedSimpArgs false
set_option maxRecDepth 100000

def M0 : Nat := 4611686018427396039
inductive PvR (q : Nat) (zp : Nat → Int) : Value → OO → Nat → Prop
 | own : PvR q zp (gw 1 q) [oPr (ixN zp (2 * q)) 1] 2
 | nil (h : q = 0) : PvR q zp nilV [] 1
def kR (k : Int) (m : Nat) : Int := IntKind.wrap .i64 (Int.tmod (IntKind.wrap .u64 k) (IntKind.wrap .u64 (IntKind.wrap .i64 (Int.ofNat m + Int.ofNat 1))))
theorem kR_nz {m : Nat} (hm : m ≤ 18) : (IntKind.wrap .u64 (IntKind.wrap .i64 (Int.ofNat m + Int.ofNat 1)) = 0) = False := by
 have key : ∀ x : Fin 19, ¬ IntKind.wrap .u64 (IntKind.wrap .i64 (Int.ofNat x.val + Int.ofNat 1)) = 0 := by decide +kernel
 exact eq_false (key ⟨m, by omega⟩)
section
variable {r : Mem} {q m i : Nat} {z zp : Nat → Int} {k : Int} {P : Value} {oP : OO} {w : Nat}
theorem lwT (hP : PvR q zp P oP w) (fs : FnsC) (K : OV → List Nat → OO → CR) (KX : Nat → OV → List Nat → OO → CR) (kr : KS) :
  run (SC r) M0 80 1 LW_5 fs none (rbK 0 lvW [] K) (fun j => rbK 0 [] [] (KX j)) kr [] (bT lvW (vW k m P i) .nil) [] (mkA (oIn (ixN z m) 0 :: oP)) =
   bif decide (Int.ofNat i < 2) then K (vW k m P i) [] (oIn (ixN z m) 0 :: oP) else KX 0 [] [] [] := by
 cases hP with
 | own =>
  refine (lwTo r k m i (ixN z m) q (ixN zp (2 * q)) fs K KX kr).trans ?_
  simp only [ix_nn, Bool.and_true, cond_true]
  rfl
 | nil h =>
  refine (lwTn r k m i (ixN z m) fs K KX kr).trans ?_
  simp only [ix_nn, Bool.and_true, cond_true]
  rfl
theorem lwA (hP : PvR q zp P oP w) (h64 : ∀ j, j < m → s64 (z j)) (hq : q ≤ 500000) (hm : m ≤ 18) : ∃ t, TOk (SC r) t ∧ ∀ (K : OV → List Nat → OO → CR) (kx : Nat → KS) (KR : OV → List Nat → OO → CR),
  run (SC r) M0 80 1 (.seq LW_6 (.seq LW_7 (.seq LW_8 LW_9))) (lvlT (SC r) t .nil 1 1) none (rbK 0 lvWb [] K) kx (rbK 0 [6] [] KR) [] (bT lvW (vW k m P i) .nil) [] (mkA (oIn (ixN z m) 0 :: oP)) =
   K (vWb (kR k m) m P i (decide (1 ≤ m ∧ m ≤ 16) && okAll (m : Int) zp q)) [] (oIn (ixN z m) 0 :: oP) := by
 have d1 : decide (Int.ofNat m ≥ 1) = decide (1 ≤ m) := decide_eq_decide.2 (by simp; omega)
 have d2 : decide (Int.ofNat m ≤ 16) = decide (m ≤ 16) := decide_eq_decide.2 (by simp; omega)
 have nz := kR_nz hm
 cases hP with
 | own =>
  refine ⟨_, tWao_ok (q := q) (zp := zp) (k := k) h64 hq, fun K kx KR => (lwAo r k m i (ixN z m) q (ixN zp (2 * q)) _ _ _ K kx KR).trans ?_⟩
  rw [Bool.decide_and]
  generalize viR z m k = v1
  generalize irR z zp m q = v2
  generalize okAll (m : Int) zp q = v3
  simp only [svv_rfl, cond_true, nz, d1, d2, ix_nn, Bool.and_true, decide_false, Bool.not_false]
  cases decide (1 ≤ m) <;> cases decide (m ≤ 16) <;> cases v1 <;> cases v2 <;> cases v3 <;> rfl
 | nil h =>
  subst h
  refine ⟨_, tWan_ok (zp := zp) (k := k) h64, fun K kx KR => (lwAn r k m i (ixN z m) _ _ _ K kx KR).trans ?_⟩
  rw [Bool.decide_and]
  generalize viR z m k = v1
  generalize irR z zp m 0 = v2
  generalize okAll (m : Int) zp 0 = v3
  simp only [svv_rfl, cond_true, nz, d1, d2, ix_nn, Bool.and_true, decide_false, Bool.not_false]
  cases decide (1 ≤ m) <;> cases decide (m ≤ 16) <;> cases v1 <;> cases v2 <;> cases v3 <;> rfl
theorem lwO (hP : PvR q zp P oP w) (g : Bool) (h1 : 1 ≤ m) (hm : m ≤ 16) (hq : q ≤ 500000) (hok : okAll (m : Int) zp q = true) : ∃ t, TOk (SC r) t ∧ ∀ (K : OV → List Nat → OO → CR) (kx : Nat → KS) (kr : KS),
  run (SC r) M0 80 1 (.seq LW_10 LW_11) (lvlT (SC r) t .nil 1 1) none (rbK 0 lvWl [] K) kx kr [] (bT lvWb (vWb k m P i g) .nil) [] (mkA (oIn (ixN z m) 0 :: oP)) =
   K (vWl k m P i 0 w) [] (oIn (ixN z m) 0 :: (oP ++ [oIn (ixN (wdN zp m q) m) w])) := by
 cases hP with
 | own =>
  refine ⟨_, tWoo_ok (zp := zp) h1 hm hq hok, fun K kx kr => (lwOo r k m i g (ixN z m) (ixN (wdN zp m q) m) q (ixN zp (2 * q)) K kx kr).trans ?_⟩
  simp only [svv_rfl, cond_true, ix_nn, Bool.and_true]
  rfl
 | nil h =>
  subst h
  refine ⟨_, tWon_ok (zp := zp) h1 hm, fun K kx kr => (lwOn r k m i g (ixN z m) (ixN (wdN zp m 0) m) K kx kr).trans ?_⟩
  simp only [svv_rfl, cond_true, ix_nn, Bool.and_true]
  rfl
theorem lwL (hP : PvR q zp P oP w) {j : Nat} (hm : m ≤ 16) (hok : okAll (m : Int) zp q = true) (K : OV → List Nat → OO → CR) (KX : Nat → OV → List Nat → OO → CR) (kr : KS) :
  run (SC r) M0 80 1 LW_12 (lvlT (SC r) tSz .nil 1 1) none (rbK 0 lvWl [] K) (fun j => rbK 0 lvW [] (KX j)) kr [] (bT lvWl (vWl k m P i j w) .nil) [] (mkA (oIn (ixN z m) 0 :: (oP ++ [oIn (ixN (wdN zp m q) m) w]))) =
   if j < m then K (vWl k m P i (j + 1) w) [] (oIn (ixN (fun v => if v = j then dgN zp q j else z v) m) 0 :: (oP ++ [oIn (ixN (wdN zp m q) m) w])) else KX 2 (vW k m P i) [] (oIn (ixN z m) 0 :: oP) := by
 have n1 : ∀ i, Nat.add 0 (Nat.mul i 1) = i := fun i => by simp
 by_cases c : j < m
 ·rw [if_pos c]
  have c1 : (j : Int) < (m : Int) := by omega
  have c3 : Nat.blt j m = true := Nat.ble_eq_true_of_le (by omega)
  have e3 := inc1' (k := j) (by omega)
  simp only [Int.ofNat_eq_natCast] at e3
  have g1 : (ixN (wdN zp m q) m)[j]? = some (I (wdN zp m q j)) := ix_get c
  obtain ⟨w1, w2⟩ := wd_rg hm hok j
  have l1 : Nat.blt j (ixN z m).length = true := by rw [ix_len]; exact c3
  cases hP with
  | own =>
   have hn' := lwLo r k m i j (ixN z m) (ixN (wdN zp m q) m) q (ixN zp (2 * q)) K KX kr
   simp only [Int.ofNat_eq_natCast, Int.toNat_natCast] at hn'
   simp only [dT c1, c3, cond_true, n1, g1, isI_I, e3, l1] at hn'
   dsimp +instances only [ofI_I] at hn'
   simp only [dT w1, dT w2, Bool.and_self, cond_true, wd_pop hm hok c, ix_set, ix_nn] at hn'
   exact hn'
  | nil h =>
   subst h
   have hn' := lwLn r k m i j (ixN z m) (ixN (wdN zp m 0) m) K KX kr
   simp only [Int.ofNat_eq_natCast, Int.toNat_natCast] at hn'
   simp only [dT c1, c3, cond_true, n1, g1, isI_I, e3, l1] at hn'
   dsimp +instances only [ofI_I] at hn'
   simp only [dT w1, dT w2, Bool.and_self, cond_true, wd_pop hm hok c, ix_set, ix_nn] at hn'
   exact hn'
 ·rw [if_neg c]
  have c1 : ¬ Int.ofNat j < Int.ofNat m := by simp; omega
  cases hP with
  | own =>
   refine (lwLo r k m i j (ixN z m) (ixN (wdN zp m q) m) q (ixN zp (2 * q)) K KX kr).trans ?_
   rw [dF c1, cond_false]
   simp only [ix_nn, Bool.and_true, cond_true]
   rfl
  | nil h =>
   refine (lwLn r k m i j (ixN z m) (ixN (wdN zp m q) m) K KX kr).trans ?_
   rw [dF c1, cond_false]
   simp only [ix_nn, Bool.and_true, cond_true]
   rfl
theorem lwS (hP : PvR q zp P oP w) (g : Bool) (fs : FnsC) (K : OV → List Nat → OO → CR) (kx : Nat → KS) (kr : KS) :
  run (SC r) M0 80 1 LW_13 fs none (rbK 0 lvW [] K) kx kr [] (bT lvWb (vWb k m P i g) .nil) [] (mkA (oIn (ixN z m) 0 :: oP)) = K (vW k m P i) [] (oIn (ixN z m) 0 :: oP) := by
 cases hP with
 | own =>
  refine (lwSo r k m i g (ixN z m) q (ixN zp (2 * q)) fs K kx kr).trans ?_
  simp only [ix_nn, Bool.and_true, cond_true]
  rfl
 | nil h =>
  refine (lwSn r k m i g (ixN z m) fs K kx kr).trans ?_
  simp only [ix_nn, Bool.and_true, cond_true]
  rfl
theorem lwN (hP : PvR q zp P oP w) (hi : i ≤ 10) (fs : FnsC) (K : OV → List Nat → OO → CR) (kx : Nat → KS) (kr : KS) :
  run (SC r) M0 80 1 LW_14 fs none (rbK 0 lvW [] K) kx kr [] (bT lvW (vW k m P i) .nil) [] (mkA (oIn (ixN z m) 0 :: oP)) = K (vW k m P (i + 1)) [] (oIn (ixN z m) 0 :: oP) := by
 have e3 := inc1 (k := i) (by omega)
 cases hP with
 | own =>
  refine (lwNo r k m i (ixN z m) q (ixN zp (2 * q)) fs K kx kr).trans ?_
  simp only [ix_nn, Bool.and_true, cond_true, e3]
  rfl
 | nil h =>
  refine (lwNn r k m i (ixN z m) fs K kx kr).trans ?_
  simp only [ix_nn, Bool.and_true, cond_true, e3]
  rfl
end

end Go.Proofs

/- The law of what is said holds. -/
namespace Go.Proofs
open Go Go.Ev Go.Num
set_option linter.unusedVariables false
set_option linter.unusedSimpArgs false
set_option maxRecDepth 100000

theorem wf64 {x : Int} (h : (Lit.int .i64 x).wf = true) : s64 x := by
 simp [Lit.wf, IntKind.max, IntKind.min, IntKind.signed, IntKind.bits] at h
 unfold s64
 omega
noncomputable def zM (r : Mem) (b off m : Nat) (j : Nat) : Int := if j < m then ofI ((r b (off + j)).getD undef) else 0
section
variable {r : Mem} {b off n cap m : Nat}
theorem zM_row (h : ∀ i, i < m → ∃ u, r b (off + i) = some u ∧ ArgInt .i64 u) : rowAt r b off m (zM r b off m) := fun j hj => by
 obtain ⟨u, hu, w, rfl, _⟩ := h j hj
 unfold zM
 rw [if_pos hj, hu]
 rfl
theorem zM_64 (h : ∀ i, i < m → ∃ u, r b (off + i) = some u ∧ ArgInt .i64 u) (j : Nat) (hj : j < m) : s64 (zM r b off m j) := by
 obtain ⟨u, hu, w, rfl, hw⟩ := h j hj
 unfold zM
 rw [if_pos hj, hu]
 exact wf64 hw
theorem lwI {z : Nat → Int} {k : Int} (hl : n ≤ cap) (hc : cap ≤ maxLen) (hm : m = min n 18) (h1 : 1 ≤ m) (hz : rowAt r b off m z) {u2 : Value} (s2 : ArgRowT r 2 (ArgInt .i64) u2) : ∃ q zp P oP w, q ≤ 500000 ∧ PvR q zp P oP w ∧ ∀ (K : OV → List Nat → OO → CR) (kx : Nat → KS) (KR : OV → List Nat → OO → CR),
  run (SC r) M0 80 1 (.seq LW_0 (.seq LW_1 (.seq LW_2 (.seq LW_3 LW_4)))) (lvlT (SC r) (tLi (RS b off n cap) m (ixN z m)) .nil 1 2) none (rbK 0 lvW [] K) kx (rbK 0 [6] [] KR) (sc0 M0 [RS b off n cap, I k, u2]) (tr0 M0 [RS b off n cap, I k, u2]) [] emptyA = K (vW k m P 0) [] (oIn (ixN z m) 0 :: oP) := by
 cases s2 with
 | nil =>
  refine ⟨0, fun _ => 0, nilV, [], 1, by omega, .nil rfl, fun K kx KR => (lwIn r b off n cap m k (ixN z m) K kx KR).trans ?_⟩
  simp only [svv_rfl, ix_nn, Bool.and_true, cond_true]
  rfl
 | row b2 off2 n2 cap2 hl2 hc2 h2 =>
  have hc2' : cap2 ≤ 9223372036854775807 := hc2
  generalize hq : min n2 125 = q
  have e' : (bif decide ((125 : Int) < Int.ofNat n2) then Int.ofNat 125 else Int.ofNat n2) = ((q : Nat) : Int) := by rw [← hq]; exact min_k 125 n2
  have e2 : (bif decide ((125 : Int) < Int.ofNat n2) then (125 : Int) else Int.ofNat n2) = ((q : Nat) : Int) := by rw [← hq]; exact min_k 125 n2
  by_cases q0 : q = 0
  ·subst q0
   refine ⟨0, fun _ => 0, nilV, [], 1, by omega, .nil rfl, fun K kx KR => (lwIo r b off n cap m b2 off2 n2 cap2 k (ixN z m) K kx KR).trans ?_⟩
   simp only [e', e2, svv_rfl, ix_nn, Bool.and_true, cond_true, cond_false, dT (show (0 : Int) ≤ ((0 : Nat) : Int) by omega), natFx (show cap2 ≠ 9223372036854775809 by omega), Int.toNat_natCast, Nat.ble_eq_true_of_le (Nat.zero_le cap2), show Nat.beq 0 0 = true from rfl]
   rfl
  ·have hz2 : rowAt r b2 off2 (2 * q) (zM r b2 off2 (2 * q)) := zM_row fun i hi => h2 i (by omega)
   generalize zM r b2 off2 (2 * q) = zp at hz2
   refine ⟨q, zp, gw 1 q, [oPr (ixN zp (2 * q)) 1], 2, by omega, .own, fun K kx KR => (lwIo r b off n cap m b2 off2 n2 cap2 k (ixN z m) K kx KR).trans ?_⟩
   simp only [e', e2, svv_rfl, ix_nn, Bool.and_true, cond_true, cond_false, dT (show (0 : Int) ≤ ((q : Nat) : Int) by omega), natFx (show cap2 ≠ 9223372036854775809 by omega), Int.toNat_natCast, Nat.ble_eq_true_of_le (show q ≤ cap2 by omega), natFx q0, Nat.ble_eq_true_of_le (show Nat.add 0 (Nat.sub q 0) ≤ 1000000 by simp; omega)]
   have hr' : (match Nat.beq (Nat.sub cap2 0) unkE with | true => none | false => takeF (r b2) (Nat.add off2 (Nat.mul 0 2)) (Nat.mul (Nat.sub q 0) 2)) = some (ixN zp (2 * q)) := by
    rw [natFx (show Nat.sub cap2 0 ≠ unkE by unfold unkE; simp; omega)]
    show takeF (r b2) off2 (Nat.mul q 2) = _
    rw [Nat.mul_eq, Nat.mul_comm]
    exact takeF_z (2 * q) off2 hz2
   have oc : ∀ {o : Option (List Value)} {c : List Value} (h : o = some c) (a : CR) (F : List Value → CR), (Option.casesOn o a F : CR) = F c := fun h a F => by rw [h]
   refine (oc hr' _ _).trans ?_
   have l1 : Nat.beq (ixN zp (2 * q)).length (Nat.mul (Nat.sub q 0) 2) = true := by
    rw [ix_len, show Nat.mul (Nat.sub q 0) 2 = 2 * q by show q * 2 = _; omega]
    exact Nat.beq_refl _
   simp only [l1, natFx (show Nat.sub q 0 ≠ 0 by show q ≠ 0; omega), cond_true, cond_false, ix_nn, Bool.and_true]
   rfl

def oLe : Outs := ⟨[6], [], fun vs ms os => vs = [some (.bool true)] ∧ ms = [] ∧ os = []⟩
theorem oLe_fin (r : Mem) : ∀ vs ms os, oLe.Q vs ms os → ∃ v A', finish (SC r) M0 [.tmp 6] (St.of oLe.lv vs ms os) = .ret v A' ∧ (fun v _ => v = Value.bool true) v A' := by
 rintro vs ms os ⟨rfl, rfl, rfl⟩
 exact ⟨_, mkA [], by kernel_rfl, rfl⟩

theorem law_row {z : Nat → Int} {k : Int} (hm : ∀ b j u, tabM b j = some u → r b j = some u) (hl : n ≤ cap) (hc : cap ≤ maxLen) (hmn : m = min n 18) (h1 : 1 ≤ m) (hz : rowAt r b off m z) (h64 : ∀ j, j < m → s64 (z j)) {u2 : Value} (s2 : ArgRowT r 2 (ArgInt .i64) u2) :
  SOk (SC r) 3 [RS b off n cap, I k, u2] emptyA fun v _ => v = .bool true := by
 obtain ⟨q, zp, P, oP, w, hq, hP, hI⟩ := lwI (k := k) hl hc hmn h1 hz s2
 have hm18 : m ≤ 18 := by omega
 refine callO (SC_ok r) (by kernel_rfl) ((bodySC r _).trans LW_eq) (nt := 80) (by kernel_rfl) (rs := [.tmp 6]) (by kernel_rfl) M0 rfl oLe (oLe_fin r) fun γ W F kk hwr hF hro h0' => ?_
 have h0' : ∀ i, 0 ≤ i → γ i = none := h0'
 refine Go.Ev.Reach.after3R (SC_ok r) (tLi_ok hl hc hmn h1 hz) (tm := .nil) (L := 1) (L' := 1) (d := 2) hF hro h0' (.step (.step (.step (.step .base))))
  (o1 := ⟨lvW, [], fun vs ms os => vs = vW k m P 0 ∧ ms = [] ∧ os = oIn (ixN z m) 0 :: oP⟩)
  (o2 := ⟨[], [], fun vs ms os => vs = [] ∧ ms = [] ∧ os = []⟩) [] (fun p hp => nomatch hp) ?_ ?_ ((hI _ _ _).trans (qq_ok ⟨rfl, rfl, rfl⟩))
 ·rintro vs ms os ⟨rfl, rfl, rfl⟩
  refine Go.Ev.Reach.blockC (Go.Ev.Reach.loopC (j := 2) (lv := lvW) (fl := []) (I := fun jj vs ms os => ∃ (i : Nat) (z : Nat → Int) (k : Int), i ≤ 2 ∧ jj = 2 - i ∧ (∀ j, j < m → s64 (z j)) ∧ vs = vW k m P i ∧ ms = [] ∧ os = oIn (ixN z m) 0 :: oP) (fun jj vs ms os hJ => ?_) ⟨0, z, k, by omega, rfl, h64, rfl, rfl, rfl⟩)
  clear hI hz h64
  obtain ⟨i, z, k, hi, rfl, h64, rfl, rfl, rfl⟩ := hJ
  refine Go.Ev.Reach.after3R (SC_ok r) TOk.nil (tm := .nil) (L := 1) (L' := 1) (d := 1) hF hro h0' .flat
   (o1 := ⟨lvW, [], fun vs ms os => i < 2 ∧ vs = vW k m P i ∧ ms = [] ∧ os = oIn (ixN z m) 0 :: oP⟩)
   (o2 := ⟨lvW, [], fun vs ms os => i < 2 ∧ ∃ (z : Nat → Int) (k : Int), (∀ j, j < m → s64 (z j)) ∧ vs = vW k m P i ∧ ms = [] ∧ os = oIn (ixN z m) 0 :: oP⟩) [(0, ⟨[], [], fun vs ms os => vs = [] ∧ ms = [] ∧ os = []⟩)] (fun p hp => by simp only [List.mem_cons, List.not_mem_nil, or_false] at hp; subst hp; rfl) ?_ ?_ ?_
  ·rintro vs ms os ⟨hi2, rfl, rfl, rfl⟩
   obtain ⟨t, ht, hA⟩ := lwA (r := r) (i := i) (k := k) hP h64 hq hm18
   refine Go.Ev.Reach.blockC (Go.Ev.Reach.afterR (SC_ok r) ht (tm := .nil) (L := 1) (L' := 1) (d := 1) hF hro h0' (.step (.step (.step .base)))
    (o1 := ⟨lvWb, [], fun vs ms os => vs = vWb (kR k m) m P i (decide (1 ≤ m ∧ m ≤ 16) && okAll (m : Int) zp q) ∧ ms = [] ∧ os = oIn (ixN z m) 0 :: oP⟩) [] (fun p hp => nomatch hp) ?_ ((hA _ _ _).trans (qq_ok ⟨rfl, rfl, rfl⟩)))
   rintro vs ms os ⟨rfl, rfl, rfl⟩
   cases hg : (decide (1 ≤ m ∧ m ≤ 16) && okAll (m : Int) zp q) with
   | true =>
    simp only [Bool.and_eq_true, decide_eq_true_eq] at hg
    obtain ⟨⟨_, hm16⟩, hok⟩ := hg
    refine Go.Ev.Reach.condT (by cases hP <;> kernel_rfl) ?_
    obtain ⟨t2, ht2, hO⟩ := lwO (r := r) (i := i) (k := kR k m) (z := z) hP true h1 hm16 hq hok
    refine Go.Ev.Reach.afterR (SC_ok r) ht2 (tm := .nil) (L := 1) (L' := 1) (d := 1) hF hro h0' (.step .base)
     (o1 := ⟨lvWl, [], fun vs ms os => vs = vWl (kR k m) m P i 0 w ∧ ms = [] ∧ os = oIn (ixN z m) 0 :: (oP ++ [oIn (ixN (wdN zp m q) m) w])⟩) [] (fun p hp => nomatch hp) ?_ ((hO _ _ _).trans (qq_ok ⟨rfl, rfl, rfl⟩))
    rintro vs ms os ⟨rfl, rfl, rfl⟩
    refine Go.Ev.Reach.blockC (Go.Ev.Reach.loopC (j := m) (lv := lvWl) (fl := []) (I := fun jj vs ms os => ∃ (j : Nat) (z : Nat → Int), j ≤ m ∧ jj = m - j ∧ (∀ j, j < m → s64 (z j)) ∧ vs = vWl (kR k m) m P i j w ∧ ms = [] ∧ os = oIn (ixN z m) 0 :: (oP ++ [oIn (ixN (wdN zp m q) m) w])) (fun jj vs ms os hJ => ?_) ⟨0, z, by omega, rfl, h64, rfl, rfl, rfl⟩)
    clear h64 hA hO ht ht2
    obtain ⟨j, z, hj, rfl, h64, rfl, rfl, rfl⟩ := hJ
    refine Go.Ev.Reach.segR (SC_ok r) (tSz_ok r) (tm := .nil) (L := 1) (L' := 1) (d := 1) hF hro h0' [(2, ⟨lvW, [], fun vs ms os => i < 2 ∧ ∃ (z : Nat → Int) (k : Int), (∀ j, j < m → s64 (z j)) ∧ vs = vW k m P i ∧ ms = [] ∧ os = oIn (ixN z m) 0 :: oP⟩)] (fun p hp => by simp only [List.mem_cons, List.not_mem_nil, or_false] at hp; subst hp; rfl) ?_
    refine (lwL hP hm16 hok _ _ _).trans ?_
    by_cases c : j < m
    ·rw [if_pos c]
     have hd := dg_bd zp j q
     exact qq_ok ⟨m - (j + 1), by omega, j + 1, _, c, rfl, fun v hv => by
      show s64 (if v = j then dgN zp q j else z v)
      split
      ·unfold s64; omega
      ·exact h64 v hv, rfl, rfl, rfl⟩
    ·rw [if_neg c]
     exact qq_ok ⟨hi2, z, kR k m, h64, rfl, rfl, rfl⟩
   | false =>
    refine Go.Ev.Reach.condF (by cases hP <;> kernel_rfl) ?_
    refine Go.Ev.Reach.segR (SC_ok r) TOk.nil (tm := .nil) (L := 1) (L' := 1) (d := 1) hF hro h0' [] (fun p hp => nomatch hp) ?_
    exact (lwS hP false _ _ _ _).trans (qq_ok ⟨hi2, z, kR k m, h64, rfl, rfl, rfl⟩)
  ·rintro vs ms os ⟨hi2, z, k, h64, rfl, rfl, rfl⟩
   refine Go.Ev.Reach.segR (SC_ok r) TOk.nil (tm := .nil) (L := 1) (L' := 1) (d := 1) hF hro h0' [] (fun p hp => nomatch hp) ?_
   exact (lwN hP (by omega) _ _ _ _).trans (qq_ok ⟨2 - (i + 1), by omega, i + 1, z, k, hi2, rfl, h64, rfl, rfl, rfl⟩)
  ·refine (lwT hP _ _ _ _).trans ?_
   by_cases c : i < 2
   ·rw [dT (show Int.ofNat i < 2 by simp; omega), cond_true]
    exact qq_ok ⟨c, rfl, rfl, rfl⟩
   ·rw [dF (show ¬ Int.ofNat i < 2 by simp; omega), cond_false]
    exact qq_ok ⟨rfl, rfl, rfl⟩
 ·rintro vs ms os ⟨rfl, rfl, rfl⟩
  refine Go.Ev.Reach.segR (SC_ok r) (tAw_ok hm) (tm := .nil) (L := 1) (L' := 1) (d := 1) hF hro h0' [] (fun p hp => nomatch hp) ?_
  exact (lwZ r _ _ _).trans (qq_ok ⟨rfl, rfl, rfl⟩)
end

end Go.Proofs

/- The law of what is said, of nothing. -/
namespace Go.Proofs
open Go Go.Ev Go.Num
set_option linter.unusedVariables false
set_option linter.unusedSimpArgs false
set_option maxRecDepth 100000

theorem lwX1 (r : Mem) (k : Int) : (lvlT (SC r) tAw .nil 3 4).call 3 [nilV, I k, nilV] emptyA fin =
    .ret (.bool true) (AW.mk 0 .nil .nil) := by kernel_rfl

theorem lwX2 (r : Mem) (k : Int) (b off n cap : Nat) : (lvlT (SC r) tAw .nil 3 4).call 3 [nilV, I k, RS2 b off n cap] emptyA fin =
    bif decide (0 ≤ bif decide (125 < Int.ofNat n) then Int.ofNat 125 else Int.ofNat n) then bif Nat.beq cap 9223372036854775809 then .fail 435 else bif Nat.ble (Int.toNat (bif decide (125 < Int.ofNat n) then Int.ofNat 125 else Int.ofNat n)) cap then bif Nat.beq (Int.toNat (bif decide (125 < Int.ofNat n) then Int.ofNat 125 else Int.ofNat n)) 0 then .ret (.bool true) (AW.mk 0 .nil .nil) else bif Nat.ble (Nat.add 0 (Nat.sub (Int.toNat (bif decide (125 < Int.ofNat n) then Int.ofNat 125 else Int.ofNat n)) 0)) 1000000 then Option.casesOn (match Nat.beq (Nat.sub cap 0) unkE with | true => none | false => takeF (Cfg.ro (SC r) b) (Nat.add off (Nat.mul 0 (TypeInfo.size Tryz.t41))) (Nat.mul (Nat.sub (Int.toNat (bif decide (125 < Int.ofNat n) then 125 else Int.ofNat n)) 0) (TypeInfo.size Tryz.t41))) (.fail 443) fun val => bif Nat.beq (List.length val) (Nat.mul (Nat.sub (Int.toNat (bif decide (125 < Int.ofNat n) then Int.ofNat 125 else Int.ofNat n)) 0) 2) then bif Nat.beq (Nat.sub (Int.toNat (bif decide (125 < Int.ofNat n) then Int.ofNat 125 else Int.ofNat n)) 0) 0 then .ret (.bool true) (AW.mk 0 .nil .nil) else .ret (.bool true) (AW.mk 0 .nil .nil) else .fail 420 else .fail 420 else .fail 420 else .fail 420 := by kernel_rfl

theorem lwX3 (r : Mem) (k : Int) (b off cap : Nat) : (lvlT (SC r) (tLx (RS b off 0 cap)) .nil 3 4).call 3 [RS b off 0 cap, I k, nilV] emptyA fin =
    bif m_svv [.slice (some ⟨b, off, some 0⟩) 0 cap] [.slice (some ⟨b, off, some 0⟩) 0 cap] then .ret (.bool true) (AW.mk 0 .nil .nil) else .fail 420 := by kernel_rfl

theorem lwX4 (r : Mem) (k : Int) (b off cap b2 off2 n2 cap2 : Nat) : (lvlT (SC r) (tLx (RS b off 0 cap)) .nil 3 4).call 3 [RS b off 0 cap, I k, RS2 b2 off2 n2 cap2] emptyA fin =
    bif m_svv [.slice (some ⟨b, off, some 0⟩) 0 cap] [.slice (some ⟨b, off, some 0⟩) 0 cap] then bif decide (0 ≤ bif decide (125 < Int.ofNat n2) then Int.ofNat 125 else Int.ofNat n2) then bif Nat.beq cap2 9223372036854775809 then .fail 435 else bif Nat.ble (Int.toNat (bif decide (125 < Int.ofNat n2) then Int.ofNat 125 else Int.ofNat n2)) cap2 then bif Nat.beq (Int.toNat (bif decide (125 < Int.ofNat n2) then Int.ofNat 125 else Int.ofNat n2)) 0 then .ret (.bool true) (AW.mk 0 .nil .nil) else bif Nat.ble (Nat.add 0 (Nat.sub (Int.toNat (bif decide (125 < Int.ofNat n2) then Int.ofNat 125 else Int.ofNat n2)) 0)) 1000000 then Option.casesOn (match Nat.beq (Nat.sub cap2 0) unkE with | true => none | false => takeF (Cfg.ro (SC r) b2) (Nat.add off2 (Nat.mul 0 (TypeInfo.size Tryz.t41))) (Nat.mul (Nat.sub (Int.toNat (bif decide (125 < Int.ofNat n2) then 125 else Int.ofNat n2)) 0) (TypeInfo.size Tryz.t41))) (.fail 443) fun val => bif Nat.beq (List.length val) (Nat.mul (Nat.sub (Int.toNat (bif decide (125 < Int.ofNat n2) then Int.ofNat 125 else Int.ofNat n2)) 0) 2) then bif Nat.beq (Nat.sub (Int.toNat (bif decide (125 < Int.ofNat n2) then Int.ofNat 125 else Int.ofNat n2)) 0) 0 then .ret (.bool true) (AW.mk 0 .nil .nil) else .ret (.bool true) (AW.mk 0 .nil .nil) else .fail 420 else .fail 420 else .fail 420 else .fail 420 else .fail 420 := by kernel_rfl

end Go.Proofs

/- The law of what is said holds, for all arguments. -/
namespace Go.Proofs
open Go Go.Ev Go.Num
set_option linter.unusedVariables false
set_option linter.unusedSimpArgs false
set_option maxRecDepth 100000

theorem lwX2_ok {r : Mem} {k : Int} {b2 off2 n2 cap2 : Nat} (hl2 : n2 ≤ cap2) (hc2 : cap2 ≤ maxLen) (h2 : ∀ i, i < cap2 * 2 → ∃ u, r b2 (off2 + i) = some u ∧ ArgInt .i64 u) : (lvlT (SC r) tAw .nil 3 4).call 3 [nilV, I k, RS2 b2 off2 n2 cap2] emptyA fin = .ret (.bool true) (AW.mk 0 .nil .nil) := by
 have hc2' : cap2 ≤ 9223372036854775807 := hc2
 generalize hq : min n2 125 = q
 have e' : (bif decide ((125 : Int) < Int.ofNat n2) then Int.ofNat 125 else Int.ofNat n2) = ((q : Nat) : Int) := by rw [← hq]; exact min_k 125 n2
 have e2 : (bif decide ((125 : Int) < Int.ofNat n2) then (125 : Int) else Int.ofNat n2) = ((q : Nat) : Int) := by rw [← hq]; exact min_k 125 n2
 rw [lwX2]
 by_cases q0 : q = 0
 ·subst q0
  simp only [e', e2, cond_true, cond_false, dT (show (0 : Int) ≤ ((0 : Nat) : Int) by omega), natFx (show cap2 ≠ 9223372036854775809 by omega), Int.toNat_natCast, Nat.ble_eq_true_of_le (Nat.zero_le cap2), show Nat.beq 0 0 = true from rfl]
 ·have hz2 : rowAt r b2 off2 (2 * q) (zM r b2 off2 (2 * q)) := zM_row fun i hi => h2 i (by omega)
  generalize zM r b2 off2 (2 * q) = zp at hz2
  simp only [e', e2, cond_true, cond_false, dT (show (0 : Int) ≤ ((q : Nat) : Int) by omega), natFx (show cap2 ≠ 9223372036854775809 by omega), Int.toNat_natCast, Nat.ble_eq_true_of_le (show q ≤ cap2 by omega), natFx q0, Nat.ble_eq_true_of_le (show Nat.add 0 (Nat.sub q 0) ≤ 1000000 by simp; omega)]
  have hr' : (match Nat.beq (Nat.sub cap2 0) unkE with | true => none | false => takeF (r b2) (Nat.add off2 (Nat.mul 0 2)) (Nat.mul (Nat.sub q 0) 2)) = some (ixN zp (2 * q)) := by
   rw [natFx (show Nat.sub cap2 0 ≠ unkE by unfold unkE; simp; omega)]
   show takeF (r b2) off2 (Nat.mul q 2) = _
   rw [Nat.mul_eq, Nat.mul_comm]
   exact takeF_z (2 * q) off2 hz2
  have oc : ∀ {o : Option (List Value)} {c : List Value} (h : o = some c) (a : CR) (F : List Value → CR), (Option.casesOn o a F : CR) = F c := fun h a F => by rw [h]
  refine (oc hr' _ _).trans ?_
  have l1 : Nat.beq (ixN zp (2 * q)).length (Nat.mul (Nat.sub q 0) 2) = true := by
   rw [ix_len, show Nat.mul (Nat.sub q 0) 2 = 2 * q by show q * 2 = _; omega]
   exact Nat.beq_refl _
  simp only [l1, natFx (show Nat.sub q 0 ≠ 0 by show q ≠ 0; omega), cond_true, cond_false]
theorem tLx_ok {r : Mem} {b off cap : Nat} (hm : ∀ b j u, tabM b j = some u → r b j = some u) (hc : cap ≤ maxLen) : TOk (SC r) (tLx (RS b off 0 cap)) := (tAw_ok hm).cons (EOk.ent fun args A hg => by
 have hs := @of_decide_eq_true _ (Classical.propDecidable _) hg
 subst hs
 exact (li_0 (r := r) (b := b) (off := off) hc).ro rfl A)
theorem law_says (r : Mem) (hm : ∀ b j u, tabM b j = some u → r b j = some u) (u0 u1 u2 : Value) (s0 : ArgRowT r 1 (ArgInt .i64) u0) (s1 : ArgInt .i64 u1) (s2 : ArgRowT r 2 (ArgInt .i64) u2) : GrT Tryz.prog r 3 [u0, u1, u2] (.bool true) := by
 obtain ⟨k, rfl, _⟩ := s1
 cases s0 with
 | nil =>
  cases s2 with
  | nil => exact GrT.of (SC_ok r) (tAw_ok hm) .nil rfl ⟨3, 4, lwX1 r k⟩
  | row b2 off2 n2 cap2 hl2 hc2 h2 => exact GrT.of (SC_ok r) (tAw_ok hm) .nil rfl ⟨3, 4, lwX2_ok hl2 hc2 h2⟩
 | row b off n cap hl hc h =>
  by_cases n0 : n = 0
  ·subst n0
   cases s2 with
   | nil => exact GrT.of (SC_ok r) (tLx_ok hm hc) .nil rfl ⟨3, 4, by rw [lwX3, svv_rfl]; rfl⟩
   | row b2 off2 n2 cap2 hl2 hc2 h2 =>
    exact GrT.of (SC_ok r) (tLx_ok hm hc) .nil rfl ⟨3, 4, by
     rw [lwX4, svv_rfl, cond_true]
     exact (lwX2 r k b2 off2 n2 cap2).symm.trans (lwX2_ok hl2 hc2 h2)⟩
  ·have hg : ∀ i, i < min n 18 → ∃ u, r b (off + i) = some u ∧ ArgInt .i64 u := fun i hi => h i (by omega)
   exact GrT.ofS (C := SC r) rfl rfl rfl (law_row hm hl hc rfl (by omega) (zM_row hg) (zM_64 hg) s2)

end Go.Proofs

