/- What the claim is proved with, part 3: the evaluator and the contracts of the calls. -/
import Derived.Test.YtjlijogjddebjaaDoorPack2
import Derived.Test.YtjlijogjddebjaaDoorPack1
/- The law of structures judged, run. -/
namespace Go.Proofs
open Go Go.Ev Go.Num
set_option linter.unusedVariables false
set_option linter.unusedSimpArgs false
set_option maxRecDepth 100000

noncomputable def cFf : Code := bodyOf S0 6
noncomputable def Ff_0 : Code := (lc cFf)
noncomputable def Ff_1 : Code := (lc (rc cFf))
noncomputable def Ff_2 : Code := (lc (rc (rc cFf)))
noncomputable def Ff_3 : Code := (lc (lc (rc (rc (rc cFf)))))
noncomputable def Ff_4 : Code := (lc (ic (ic (rc (lc (rc (rc (rc cFf))))))))
noncomputable def Ff_5 : Code := (lc (lc (ic (lc (rc (ic (ic (rc (lc (rc (rc (rc cFf))))))))))))
noncomputable def Ff_6 : Code := (ic (ic (rc (lc (ic (lc (rc (ic (ic (rc (lc (rc (rc (rc cFf))))))))))))))
noncomputable def Ff_7 : Code := (rc (ic (lc (rc (ic (ic (rc (lc (rc (rc (rc cFf)))))))))))
noncomputable def Ff_10 : Code := (rc (rc (ic (ic (rc (lc (rc (rc (rc cFf)))))))))
noncomputable def Ff_11 : Code := (rc (rc (rc (rc cFf))))
theorem Ff_eq : cFf = (.seq Ff_0 (.seq Ff_1 (.seq Ff_2 (.seq (.seq Ff_3 (.block 0 (.loop (.seq Ff_4 (.seq (.block 1 (.seq (.seq Ff_5 (.block 2 (.loop Ff_6))) Ff_7)) Ff_10))))) Ff_11)))) := by kernel_rfl
def lvFf : List Nat := [0, 5, 7, 8, 9]
def lvFj : List Nat := [0, 5, 7, 8, 9, 10]
abbrev x5 (x0 x1 x2 x3 x4 : Int) : Option AObj := some (.cells [I x0, I x1, I x2, I x3, I x4] 43 0 0)
def vF1 (m len : Nat) (i : Int) : OV := [some (I (m : Nat)), some (P0 0), some (.slice (some ⟨1, 0, none⟩) len unk), some (.slice (some ⟨2, 0, none⟩) m m), some (I i)]
def vF0 (m : Nat) (i : Int) : OV := [some (I (m : Nat)), some (P0 0), some (.slice none 0 0), some (.slice (some ⟨1, 0, none⟩) m m), some (I i)]
def oF1 (c g : List Value) (x0 x1 x2 x3 x4 : Int) : OO := [x5 x0 x1 x2 x3 x4, some (.cells c 49 1 2), some (.cells g 3 2 1)]
def oF0 (g : List Value) (x0 x1 x2 x3 x4 : Int) : OO := [x5 x0 x1 x2 x3 x4, some (.cells g 3 1 1)]

abbrev St5 := Int → Int → Int → Int → Int → Int → Bool
noncomputable def m_rg (x : Int) : Bool := @decide (rng x) (Classical.propDecidable _)
noncomputable def eIS1 (m : Int) (len : Nat) (c : List Value) (st : St5) : Ent := ent
  (fun args A => match args with
    | [.int .i64 n, .slice (some ⟨i, k, none⟩) l cap, .int .i64 _, .agg ⟨[.int .i64 x0, .int .i64 x1, .int .i64 x2, .int .i64 x3, .int .i64 x4]⟩] => match A.heap.get i with
      | some (.cells c' _ _ _) => m_same [.int .i64 n, .slice (some ⟨0, k, none⟩) l cap, .agg ⟨c'⟩] [.int .i64 m, .slice (some ⟨0, 0, none⟩) len unk, .agg ⟨c⟩] && m_rg x0 && m_rg x1 && m_rg x2 && m_rg x3 && m_rg x4
      | _ => false
    | _ => false)
  (fun args _ => match args with
    | [_, _, .int .i64 s, .agg ⟨[.int .i64 x0, .int .i64 x1, .int .i64 x2, .int .i64 x3, .int .i64 x4]⟩] => .bool (st s x0 x1 x2 x3 x4)
    | _ => undef)
noncomputable def eIS0 (m : Int) (st : St5) : Ent := ent
  (fun args A => match args with
    | [.int .i64 n, .slice none 0 0, .int .i64 _, .agg ⟨[.int .i64 x0, .int .i64 x1, .int .i64 x2, .int .i64 x3, .int .i64 x4]⟩] => m_same [.int .i64 n] [.int .i64 m] && m_rg x0 && m_rg x1 && m_rg x2 && m_rg x3 && m_rg x4
    | _ => false)
  (fun args _ => match args with
    | [_, _, .int .i64 s, .agg ⟨[.int .i64 x0, .int .i64 x1, .int .i64 x2, .int .i64 x3, .int .i64 x4]⟩] => .bool (st s x0 x1 x2 x3 x4)
    | _ => undef)
noncomputable def eRI (m : Nat) (g : List Value) (st : St5) : Ent := ent
  (fun args A => match args with
    | [.slice (some ⟨i, k, none⟩) l cap, .int .i64 _, .agg ⟨[.int .i64 _, .int .i64 _, .int .i64 _, .int .i64 _, .int .i64 _]⟩] => match A.heap.get i with
      | some (.cells c' _ _ _) => m_same [.slice (some ⟨0, k, none⟩) l cap, .agg ⟨c'⟩] [.slice (some ⟨0, 0, none⟩) m m, .agg ⟨g⟩]
      | _ => false
    | _ => false)
  (fun args _ => match args with
    | [_, .int .i64 s, .agg ⟨[.int .i64 x0, .int .i64 x1, .int .i64 x2, .int .i64 x3, .int .i64 x4]⟩] => .bool (st s x0 x1 x2 x3 x4)
    | _ => undef)
noncomputable def eAl (m : Nat) : Ent := ent
  (fun args A => match args with
    | [.slice (some ⟨i, k, none⟩) l cap] => m_same [.slice (some ⟨0, k, none⟩) l cap] [.slice (some ⟨0, 0, none⟩) m m] && (A.heap.get i).isSome
    | _ => false)
  (fun _ _ => I (m_all (m : Nat)))
noncomputable def eOf1 (m len : Nat) (c g : List Value) : Ent := ⟨fun args A => match args with
    | [.int .i64 n, .slice (some ⟨i, k, none⟩) l cap] => match A.heap.get i with
      | some (.cells c' _ _ _) => m_same [.int .i64 n, .slice (some ⟨0, k, none⟩) l cap, .agg ⟨c'⟩] [.int .i64 m, .slice (some ⟨0, 0, none⟩) len unk, .agg ⟨c⟩]
      | _ => false
    | _ => false, fun _ _ => true, fun _ A => .slice (some ⟨A.next, 0, none⟩) m m, fun _ A => A.new (.cells g 3 A.next 1), fun _ _ => undef, fun _ A => A⟩
noncomputable def eOf0 (m : Nat) (g : List Value) : Ent := ⟨fun args _ => m_same args [I (m : Nat), .slice none 0 0], fun _ _ => true, fun _ A => .slice (some ⟨A.next, 0, none⟩) m m, fun _ A => A.new (.cells g 3 A.next 1), fun _ _ => undef, fun _ A => A⟩
noncomputable def eTm1 (a0 : List Value) (m len : Nat) (c : List Value) : Ent := ⟨fun args _ => m_same args a0, fun _ _ => true, fun _ A => .tuple ⟨[I (m : Nat), .slice (some ⟨A.next, 0, none⟩) len unk]⟩, fun _ A => A.new (.cells c 49 A.next 2), fun _ _ => undef, fun _ A => A⟩
noncomputable def tFf1 (a0 : List Value) (m len : Nat) (c g : List Value) (st : St5) : Tbl := tcons 14 (e0 (.bool true)) (tcons 7 (eTm1 a0 m len c) (tcons 8 (eOf1 m len c g) (tcons 22 (eIS1 (m : Nat) len c st) (tcons 21 (eRI m g st) (tcons 10 (eAl m) fun _ => none)))))
noncomputable def tFf0 (a0 : List Value) (m : Nat) (g : List Value) (st : St5) : Tbl := tcons 14 (e0 (.bool true)) (tcons 7 (entV a0 (.tuple ⟨[I (m : Nat), .slice none 0 0]⟩)) (tcons 8 (eOf0 m g) (tcons 22 (eIS0 (m : Nat) st) (tcons 21 (eRI m g st) (tcons 10 (eAl m) fun _ => none)))))

theorem fpR1 (r : Mem) (n : Int) (b off len cap : Nat) (m k : Nat) (c g : List Value) (st : St5) (x0 x1 x2 x3 x4 : Int) (K : OV → List Nat → OO → CR) (kx : Nat → KS) (kr : KS) : run (SC r) 8167 90 1 (.seq Ff_0 (.seq Ff_1 (.seq Ff_2 Ff_3))) (lvlT (SC r) (tFf1 [I n, RS2 b off len cap, I 10] m k c g st) .nil 1 1) none (rbK 0 lvFf [] K) kx kr (sc0 8167 [I n, RS2 b off len cap, .agg ⟨[I x0, I x1, I x2, I x3, I x4]⟩]) (tr0 8167 [I n, RS2 b off len cap, .agg ⟨[I x0, I x1, I x2, I x3, I x4]⟩]) [] emptyA =
    bif m_same [Value.int IntKind.i64 n, Value.slice (some (Addr.mk b off (some 0))) len cap, Value.int IntKind.i64 (Int.ofNat 10)] [Value.int IntKind.i64 n, Value.slice (some (Addr.mk b off (some 0))) len cap, Value.int IntKind.i64 (Int.ofNat 10)] then bif m_same [Value.int IntKind.i64 (Int.ofNat m), Value.slice (some (Addr.mk 0 0 none)) k 9223372036854775808, Value.agg (Array.mk c)] [Value.int IntKind.i64 (Int.ofNat m), Value.slice (some (Addr.mk 0 0 none)) k 9223372036854775808, Value.agg (Array.mk c)] then bif m_nns [Value.int IntKind.i64 x0, Value.int IntKind.i64 x1, Value.int IntKind.i64 x2, Value.int IntKind.i64 x3, Value.int IntKind.i64 x4] && (m_nns c && (m_nns g && true)) then K [some (Value.int IntKind.i64 (Int.ofNat m)), some (Value.pointer (some (Addr.mk 0 0 none))), some (Value.slice (some (Addr.mk 1 0 none)) k 9223372036854775808), some (Value.slice (some (Addr.mk 2 0 none)) m m), some (Value.int IntKind.i64 (Int.ofNat 0))] [] [some (AObj.cells [Value.int IntKind.i64 x0, Value.int IntKind.i64 x1, Value.int IntKind.i64 x2, Value.int IntKind.i64 x3, Value.int IntKind.i64 x4] 43 0 0), some (AObj.cells c 49 1 2), some (AObj.cells g 3 2 1)] else CR.fail 420 else CR.fail 420 else CR.fail 420 := by kernel_rfl

theorem fpR0 (r : Mem) (n : Int) (b off len cap : Nat) (m : Nat) (g : List Value) (st : St5) (x0 x1 x2 x3 x4 : Int) (K : OV → List Nat → OO → CR) (kx : Nat → KS) (kr : KS) : run (SC r) 8167 90 1 (.seq Ff_0 (.seq Ff_1 (.seq Ff_2 Ff_3))) (lvlT (SC r) (tFf0 [I n, RS2 b off len cap, I 10] m g st) .nil 1 1) none (rbK 0 lvFf [] K) kx kr (sc0 8167 [I n, RS2 b off len cap, .agg ⟨[I x0, I x1, I x2, I x3, I x4]⟩]) (tr0 8167 [I n, RS2 b off len cap, .agg ⟨[I x0, I x1, I x2, I x3, I x4]⟩]) [] emptyA =
    bif m_same [Value.int IntKind.i64 n, Value.slice (some (Addr.mk b off (some 0))) len cap, Value.int IntKind.i64 (Int.ofNat 10)] [Value.int IntKind.i64 n, Value.slice (some (Addr.mk b off (some 0))) len cap, Value.int IntKind.i64 (Int.ofNat 10)] then bif m_same [Value.int IntKind.i64 (Int.ofNat m), Value.slice none 0 0] [Value.int IntKind.i64 (Int.ofNat m), Value.slice none 0 0] then bif m_nns [Value.int IntKind.i64 x0, Value.int IntKind.i64 x1, Value.int IntKind.i64 x2, Value.int IntKind.i64 x3, Value.int IntKind.i64 x4] && (m_nns g && true) then K [some (Value.int IntKind.i64 (Int.ofNat m)), some (Value.pointer (some (Addr.mk 0 0 none))), some (Value.slice none 0 0), some (Value.slice (some (Addr.mk 1 0 none)) m m), some (Value.int IntKind.i64 (Int.ofNat 0))] [] [some (AObj.cells [Value.int IntKind.i64 x0, Value.int IntKind.i64 x1, Value.int IntKind.i64 x2, Value.int IntKind.i64 x3, Value.int IntKind.i64 x4] 43 0 0), some (AObj.cells g 3 1 1)] else CR.fail 420 else CR.fail 420 else CR.fail 420 := by kernel_rfl

theorem fpN1 (r : Mem) (n : Int) (m k : Nat) (c g : List Value) (st : St5) (x0 x1 x2 x3 x4 : Int) (K : OV → List Nat → OO → CR) (kx : Nat → KS) (kr : KS) : run (SC r) 8167 90 1 (.seq Ff_0 (.seq Ff_1 (.seq Ff_2 Ff_3))) (lvlT (SC r) (tFf1 [I n, .slice none 0 0, I 10] m k c g st) .nil 1 1) none (rbK 0 lvFf [] K) kx kr (sc0 8167 [I n, .slice none 0 0, .agg ⟨[I x0, I x1, I x2, I x3, I x4]⟩]) (tr0 8167 [I n, .slice none 0 0, .agg ⟨[I x0, I x1, I x2, I x3, I x4]⟩]) [] emptyA =
    bif m_same [Value.int IntKind.i64 n, Value.slice none 0 0, Value.int IntKind.i64 (Int.ofNat 10)] [Value.int IntKind.i64 n, Value.slice none 0 0, Value.int IntKind.i64 (Int.ofNat 10)] then bif m_same [Value.int IntKind.i64 (Int.ofNat m), Value.slice (some (Addr.mk 0 0 none)) k 9223372036854775808, Value.agg (Array.mk c)] [Value.int IntKind.i64 (Int.ofNat m), Value.slice (some (Addr.mk 0 0 none)) k 9223372036854775808, Value.agg (Array.mk c)] then bif m_nns [Value.int IntKind.i64 x0, Value.int IntKind.i64 x1, Value.int IntKind.i64 x2, Value.int IntKind.i64 x3, Value.int IntKind.i64 x4] && (m_nns c && (m_nns g && true)) then K [some (Value.int IntKind.i64 (Int.ofNat m)), some (Value.pointer (some (Addr.mk 0 0 none))), some (Value.slice (some (Addr.mk 1 0 none)) k 9223372036854775808), some (Value.slice (some (Addr.mk 2 0 none)) m m), some (Value.int IntKind.i64 (Int.ofNat 0))] [] [some (AObj.cells [Value.int IntKind.i64 x0, Value.int IntKind.i64 x1, Value.int IntKind.i64 x2, Value.int IntKind.i64 x3, Value.int IntKind.i64 x4] 43 0 0), some (AObj.cells c 49 1 2), some (AObj.cells g 3 2 1)] else CR.fail 420 else CR.fail 420 else CR.fail 420 := by kernel_rfl

theorem fpN0 (r : Mem) (n : Int) (m : Nat) (g : List Value) (st : St5) (x0 x1 x2 x3 x4 : Int) (K : OV → List Nat → OO → CR) (kx : Nat → KS) (kr : KS) : run (SC r) 8167 90 1 (.seq Ff_0 (.seq Ff_1 (.seq Ff_2 Ff_3))) (lvlT (SC r) (tFf0 [I n, .slice none 0 0, I 10] m g st) .nil 1 1) none (rbK 0 lvFf [] K) kx kr (sc0 8167 [I n, .slice none 0 0, .agg ⟨[I x0, I x1, I x2, I x3, I x4]⟩]) (tr0 8167 [I n, .slice none 0 0, .agg ⟨[I x0, I x1, I x2, I x3, I x4]⟩]) [] emptyA =
    bif m_same [Value.int IntKind.i64 n, Value.slice none 0 0, Value.int IntKind.i64 (Int.ofNat 10)] [Value.int IntKind.i64 n, Value.slice none 0 0, Value.int IntKind.i64 (Int.ofNat 10)] then bif m_same [Value.int IntKind.i64 (Int.ofNat m), Value.slice none 0 0] [Value.int IntKind.i64 (Int.ofNat m), Value.slice none 0 0] then bif m_nns [Value.int IntKind.i64 x0, Value.int IntKind.i64 x1, Value.int IntKind.i64 x2, Value.int IntKind.i64 x3, Value.int IntKind.i64 x4] && (m_nns g && true) then K [some (Value.int IntKind.i64 (Int.ofNat m)), some (Value.pointer (some (Addr.mk 0 0 none))), some (Value.slice none 0 0), some (Value.slice (some (Addr.mk 1 0 none)) m m), some (Value.int IntKind.i64 (Int.ofNat 0))] [] [some (AObj.cells [Value.int IntKind.i64 x0, Value.int IntKind.i64 x1, Value.int IntKind.i64 x2, Value.int IntKind.i64 x3, Value.int IntKind.i64 x4] 43 0 0), some (AObj.cells g 3 1 1)] else CR.fail 420 else CR.fail 420 else CR.fail 420 := by kernel_rfl

theorem fa1 (r : Mem) (i : Int) (m k : Nat) (c g : List Value) (x0 x1 x2 x3 x4 : Int) (fs : FnsC) (K : OV → List Nat → OO → CR) (KX : Nat → OV → List Nat → OO → CR) (kr : KS) : run (SC r) 8167 90 1 Ff_4 fs none (rbK 0 lvFf [] K) (fun i => rbK 0 [] [] (KX i)) kr [] (bT lvFf (vF1 m k i) .nil) [] (mkA (oF1 c g x0 x1 x2 x3 x4)) =
    bif decide (i < 2) then bif m_nns [Value.int IntKind.i64 x0, Value.int IntKind.i64 x1, Value.int IntKind.i64 x2, Value.int IntKind.i64 x3, Value.int IntKind.i64 x4] && (m_nns c && (m_nns g && true)) then K [some (Value.int IntKind.i64 (Int.ofNat m)), some (Value.pointer (some (Addr.mk 0 0 none))), some (Value.slice (some (Addr.mk 1 0 none)) k 9223372036854775808), some (Value.slice (some (Addr.mk 2 0 none)) m m), some (Value.int IntKind.i64 i)] [] [some (AObj.cells [Value.int IntKind.i64 x0, Value.int IntKind.i64 x1, Value.int IntKind.i64 x2, Value.int IntKind.i64 x3, Value.int IntKind.i64 x4] 43 0 0), some (AObj.cells c 49 1 2), some (AObj.cells g 3 2 1)] else CR.fail 420 else KX 0 [] [] [] := by kernel_rfl

theorem fb1 (r : Mem) (i : Int) (m k : Nat) (c g : List Value) (x0 x1 x2 x3 x4 : Int) (fs : FnsC) (K : OV → List Nat → OO → CR) (kx : Nat → KS) (kr : KS) : run (SC r) 8167 90 1 Ff_5 fs none (rbK 0 lvFj [] K) kx kr [] (bT lvFf (vF1 m k i) .nil) [] (mkA (oF1 c g x0 x1 x2 x3 x4)) =
    bif m_nns [Value.int IntKind.i64 x0, Value.int IntKind.i64 x1, Value.int IntKind.i64 x2, Value.int IntKind.i64 x3, Value.int IntKind.i64 x4] && (m_nns c && (m_nns g && true)) then K [some (Value.int IntKind.i64 (Int.ofNat m)), some (Value.pointer (some (Addr.mk 0 0 none))), some (Value.slice (some (Addr.mk 1 0 none)) k 9223372036854775808), some (Value.slice (some (Addr.mk 2 0 none)) m m), some (Value.int IntKind.i64 i), some (Value.int IntKind.i64 (Int.ofNat 0))] [] [some (AObj.cells [Value.int IntKind.i64 x0, Value.int IntKind.i64 x1, Value.int IntKind.i64 x2, Value.int IntKind.i64 x3, Value.int IntKind.i64 x4] 43 0 0), some (AObj.cells c 49 1 2), some (AObj.cells g 3 2 1)] else CR.fail 420 := by kernel_rfl

theorem fc1 (r : Mem) (a0 : List Value) (i s : Int) (m k : Nat) (c g : List Value) (st : St5) (x0 x1 x2 x3 x4 : Int) (K : OV → List Nat → OO → CR) (KX : Nat → OV → List Nat → OO → CR) (KR : OV → List Nat → OO → CR) : run (SC r) 8167 90 1 Ff_6 (lvlT (SC r) (tFf1 a0 m k c g st) .nil 1 1) none (rbK 0 lvFj [] K) (fun i => rbK 0 lvFf [] (KX i)) (rbK 0 [6] [] KR) [] (bT lvFj (vF1 m k i ++ [some (I s)]) .nil) [] (mkA (oF1 c g x0 x1 x2 x3 x4)) =
    bif decide (s < 5) then bif m_same [Value.int IntKind.i64 (Int.ofNat m), Value.slice (some (Addr.mk 0 0 none)) k 9223372036854775808, Value.agg (Array.mk c)] [Value.int IntKind.i64 (Int.ofNat m), Value.slice (some (Addr.mk 0 0 none)) k 9223372036854775808, Value.agg (Array.mk c)] && m_rg x0 && m_rg x1 && m_rg x2 && m_rg x3 && m_rg x4 then bif st s x0 x1 x2 x3 x4 then bif decide (s ≥ 1) then bif m_same [Value.slice (some (Addr.mk 0 0 none)) m m, Value.agg (Array.mk g)] [Value.slice (some (Addr.mk 0 0 none)) m m, Value.agg (Array.mk g)] then bif st s x0 x1 x2 x3 x4 then bif m_nns [Value.int IntKind.i64 x0, Value.int IntKind.i64 x1, Value.int IntKind.i64 x2, Value.int IntKind.i64 x3, Value.int IntKind.i64 x4] && (m_nns c && (m_nns g && true)) then K [some (Value.int IntKind.i64 (Int.ofNat m)), some (Value.pointer (some (Addr.mk 0 0 none))), some (Value.slice (some (Addr.mk 1 0 none)) k 9223372036854775808), some (Value.slice (some (Addr.mk 2 0 none)) m m), some (Value.int IntKind.i64 i), some (Value.int IntKind.i64 (IntKind.wrap IntKind.i64 (s + Int.ofNat 1)))] [] [some (AObj.cells [Value.int IntKind.i64 x0, Value.int IntKind.i64 x1, Value.int IntKind.i64 x2, Value.int IntKind.i64 x3, Value.int IntKind.i64 x4] 43 0 0), some (AObj.cells c 49 1 2), some (AObj.cells g 3 2 1)] else CR.fail 420 else KR [some (Value.bool false)] [] [] else CR.fail 420 else KR [some (Value.bool false)] [] [] else bif decide (s ≥ 1) then bif m_same [Value.slice (some (Addr.mk 0 0 none)) m m, Value.agg (Array.mk g)] [Value.slice (some (Addr.mk 0 0 none)) m m, Value.agg (Array.mk g)] then bif st s x0 x1 x2 x3 x4 then KR [some (Value.bool false)] [] [] else bif m_nns [Value.int IntKind.i64 x0, Value.int IntKind.i64 x1, Value.int IntKind.i64 x2, Value.int IntKind.i64 x3, Value.int IntKind.i64 x4] && (m_nns c && (m_nns g && true)) then K [some (Value.int IntKind.i64 (Int.ofNat m)), some (Value.pointer (some (Addr.mk 0 0 none))), some (Value.slice (some (Addr.mk 1 0 none)) k 9223372036854775808), some (Value.slice (some (Addr.mk 2 0 none)) m m), some (Value.int IntKind.i64 i), some (Value.int IntKind.i64 (IntKind.wrap IntKind.i64 (s + Int.ofNat 1)))] [] [some (AObj.cells [Value.int IntKind.i64 x0, Value.int IntKind.i64 x1, Value.int IntKind.i64 x2, Value.int IntKind.i64 x3, Value.int IntKind.i64 x4] 43 0 0), some (AObj.cells c 49 1 2), some (AObj.cells g 3 2 1)] else CR.fail 420 else CR.fail 420 else bif m_nns [Value.int IntKind.i64 x0, Value.int IntKind.i64 x1, Value.int IntKind.i64 x2, Value.int IntKind.i64 x3, Value.int IntKind.i64 x4] && (m_nns c && (m_nns g && true)) then K [some (Value.int IntKind.i64 (Int.ofNat m)), some (Value.pointer (some (Addr.mk 0 0 none))), some (Value.slice (some (Addr.mk 1 0 none)) k 9223372036854775808), some (Value.slice (some (Addr.mk 2 0 none)) m m), some (Value.int IntKind.i64 i), some (Value.int IntKind.i64 (IntKind.wrap IntKind.i64 (s + Int.ofNat 1)))] [] [some (AObj.cells [Value.int IntKind.i64 x0, Value.int IntKind.i64 x1, Value.int IntKind.i64 x2, Value.int IntKind.i64 x3, Value.int IntKind.i64 x4] 43 0 0), some (AObj.cells c 49 1 2), some (AObj.cells g 3 2 1)] else CR.fail 420 else CR.fail 420 else bif m_nns [Value.int IntKind.i64 x0, Value.int IntKind.i64 x1, Value.int IntKind.i64 x2, Value.int IntKind.i64 x3, Value.int IntKind.i64 x4] && (m_nns c && (m_nns g && true)) then KX 2 [some (Value.int IntKind.i64 (Int.ofNat m)), some (Value.pointer (some (Addr.mk 0 0 none))), some (Value.slice (some (Addr.mk 1 0 none)) k 9223372036854775808), some (Value.slice (some (Addr.mk 2 0 none)) m m), some (Value.int IntKind.i64 i)] [] [some (AObj.cells [Value.int IntKind.i64 x0, Value.int IntKind.i64 x1, Value.int IntKind.i64 x2, Value.int IntKind.i64 x3, Value.int IntKind.i64 x4] 43 0 0), some (AObj.cells c 49 1 2), some (AObj.cells g 3 2 1)] else CR.fail 420 := by kernel_rfl

theorem fd1 (r : Mem) (a0 : List Value) (i : Int) (m k : Nat) (c g : List Value) (st : St5) (x0 x1 x2 x3 x4 : Int) (K : OV → List Nat → OO → CR) (kx : Nat → KS) (kr : KS) : run (SC r) 8167 90 6 Ff_7 (lvlT (SC r) (tFf1 a0 m k c g st) .nil 6 1) none (rbK 0 lvFf [] K) kx kr [] (bT lvFf (vF1 m k i) .nil) [] (mkA (oF1 c g x0 x1 x2 x3 x4)) =
    bif m_same [Value.slice (some (Addr.mk 0 0 none)) m m] [Value.slice (some (Addr.mk 0 0 none)) m m] && true then bif !decide (IntKind.wrap IntKind.u64 (IntKind.wrap IntKind.i64 (m_all (Int.ofNat m) + Int.ofNat 1)) = 0) then bif m_eqv (Value.int IntKind.i64 (IntKind.wrap IntKind.i64 (Int.tmod (IntKind.wrap IntKind.u64 x0) (IntKind.wrap IntKind.u64 (IntKind.wrap IntKind.i64 (m_all (Int.ofNat m) + Int.ofNat 1)))))) (Value.int IntKind.i64 (IntKind.wrap IntKind.i64 (Int.tmod (IntKind.wrap IntKind.u64 x0) (IntKind.wrap IntKind.u64 (IntKind.wrap IntKind.i64 (m_all (Int.ofNat m) + Int.ofNat 1)))))) then bif m_eqv (Value.int IntKind.u64 (IntKind.wrap IntKind.u64 (IntKind.wrap IntKind.i64 (m_all (Int.ofNat m) + Int.ofNat 1)))) (Value.int IntKind.u64 (IntKind.wrap IntKind.u64 (IntKind.wrap IntKind.i64 (m_all (Int.ofNat m) + Int.ofNat 1)))) then bif m_eqv (Value.int IntKind.u64 (IntKind.wrap IntKind.u64 x0)) (Value.int IntKind.u64 (IntKind.wrap IntKind.u64 x0)) then bif m_eqv (Value.int IntKind.u64 (IntKind.wrap IntKind.u64 x0)) (Value.int IntKind.u64 (IntKind.wrap IntKind.u64 x0)) then bif m_eqv (Value.int IntKind.i64 x0) (Value.int IntKind.i64 x0) then bif m_eqv (Value.int IntKind.i64 x0) (Value.int IntKind.i64 x0) then bif m_same [Value.slice (some (Addr.mk 0 0 none)) m m] [Value.slice (some (Addr.mk 0 0 none)) m m] && true then bif !decide (IntKind.wrap IntKind.u64 (IntKind.wrap IntKind.i64 (m_all (Int.ofNat m) + Int.ofNat 1)) = 0) then bif m_eqv (Value.int IntKind.i64 (IntKind.wrap IntKind.i64 (Int.tmod (IntKind.wrap IntKind.u64 x1) (IntKind.wrap IntKind.u64 (IntKind.wrap IntKind.i64 (m_all (Int.ofNat m) + Int.ofNat 1)))))) (Value.int IntKind.i64 (IntKind.wrap IntKind.i64 (Int.tmod (IntKind.wrap IntKind.u64 x1) (IntKind.wrap IntKind.u64 (IntKind.wrap IntKind.i64 (m_all (Int.ofNat m) + Int.ofNat 1)))))) then bif m_eqv (Value.int IntKind.u64 (IntKind.wrap IntKind.u64 (IntKind.wrap IntKind.i64 (m_all (Int.ofNat m) + Int.ofNat 1)))) (Value.int IntKind.u64 (IntKind.wrap IntKind.u64 (IntKind.wrap IntKind.i64 (m_all (Int.ofNat m) + Int.ofNat 1)))) then bif m_eqv (Value.int IntKind.u64 (IntKind.wrap IntKind.u64 x1)) (Value.int IntKind.u64 (IntKind.wrap IntKind.u64 x1)) then bif m_eqv (Value.int IntKind.u64 (IntKind.wrap IntKind.u64 x1)) (Value.int IntKind.u64 (IntKind.wrap IntKind.u64 x1)) then bif m_eqv (Value.int IntKind.i64 x1) (Value.int IntKind.i64 x1) then bif m_eqv (Value.int IntKind.i64 x1) (Value.int IntKind.i64 x1) then bif m_same [Value.slice (some (Addr.mk 0 0 none)) m m] [Value.slice (some (Addr.mk 0 0 none)) m m] && true then bif !decide (IntKind.wrap IntKind.u64 (IntKind.wrap IntKind.i64 (m_all (Int.ofNat m) + Int.ofNat 1)) = 0) then bif m_eqv (Value.int IntKind.i64 (IntKind.wrap IntKind.i64 (Int.tmod (IntKind.wrap IntKind.u64 x2) (IntKind.wrap IntKind.u64 (IntKind.wrap IntKind.i64 (m_all (Int.ofNat m) + Int.ofNat 1)))))) (Value.int IntKind.i64 (IntKind.wrap IntKind.i64 (Int.tmod (IntKind.wrap IntKind.u64 x2) (IntKind.wrap IntKind.u64 (IntKind.wrap IntKind.i64 (m_all (Int.ofNat m) + Int.ofNat 1)))))) then bif m_eqv (Value.int IntKind.u64 (IntKind.wrap IntKind.u64 (IntKind.wrap IntKind.i64 (m_all (Int.ofNat m) + Int.ofNat 1)))) (Value.int IntKind.u64 (IntKind.wrap IntKind.u64 (IntKind.wrap IntKind.i64 (m_all (Int.ofNat m) + Int.ofNat 1)))) then bif m_eqv (Value.int IntKind.u64 (IntKind.wrap IntKind.u64 x2)) (Value.int IntKind.u64 (IntKind.wrap IntKind.u64 x2)) then bif m_eqv (Value.int IntKind.u64 (IntKind.wrap IntKind.u64 x2)) (Value.int IntKind.u64 (IntKind.wrap IntKind.u64 x2)) then bif m_eqv (Value.int IntKind.i64 x2) (Value.int IntKind.i64 x2) then bif m_eqv (Value.int IntKind.i64 x2) (Value.int IntKind.i64 x2) then bif m_same [Value.slice (some (Addr.mk 0 0 none)) m m] [Value.slice (some (Addr.mk 0 0 none)) m m] && true then bif !decide (IntKind.wrap IntKind.u64 (IntKind.wrap IntKind.i64 (m_all (Int.ofNat m) + Int.ofNat 1)) = 0) then bif m_eqv (Value.int IntKind.i64 (IntKind.wrap IntKind.i64 (Int.tmod (IntKind.wrap IntKind.u64 x3) (IntKind.wrap IntKind.u64 (IntKind.wrap IntKind.i64 (m_all (Int.ofNat m) + Int.ofNat 1)))))) (Value.int IntKind.i64 (IntKind.wrap IntKind.i64 (Int.tmod (IntKind.wrap IntKind.u64 x3) (IntKind.wrap IntKind.u64 (IntKind.wrap IntKind.i64 (m_all (Int.ofNat m) + Int.ofNat 1)))))) then bif m_eqv (Value.int IntKind.u64 (IntKind.wrap IntKind.u64 (IntKind.wrap IntKind.i64 (m_all (Int.ofNat m) + Int.ofNat 1)))) (Value.int IntKind.u64 (IntKind.wrap IntKind.u64 (IntKind.wrap IntKind.i64 (m_all (Int.ofNat m) + Int.ofNat 1)))) then bif m_eqv (Value.int IntKind.u64 (IntKind.wrap IntKind.u64 x3)) (Value.int IntKind.u64 (IntKind.wrap IntKind.u64 x3)) then bif m_eqv (Value.int IntKind.u64 (IntKind.wrap IntKind.u64 x3)) (Value.int IntKind.u64 (IntKind.wrap IntKind.u64 x3)) then bif m_eqv (Value.int IntKind.i64 x3) (Value.int IntKind.i64 x3) then bif m_eqv (Value.int IntKind.i64 x3) (Value.int IntKind.i64 x3) then bif m_same [Value.slice (some (Addr.mk 0 0 none)) m m] [Value.slice (some (Addr.mk 0 0 none)) m m] && true then bif !decide (IntKind.wrap IntKind.u64 (IntKind.wrap IntKind.i64 (m_all (Int.ofNat m) + Int.ofNat 1)) = 0) then bif m_eqv (Value.int IntKind.i64 (IntKind.wrap IntKind.i64 (Int.tmod (IntKind.wrap IntKind.u64 x4) (IntKind.wrap IntKind.u64 (IntKind.wrap IntKind.i64 (m_all (Int.ofNat m) + Int.ofNat 1)))))) (Value.int IntKind.i64 (IntKind.wrap IntKind.i64 (Int.tmod (IntKind.wrap IntKind.u64 x4) (IntKind.wrap IntKind.u64 (IntKind.wrap IntKind.i64 (m_all (Int.ofNat m) + Int.ofNat 1)))))) then bif m_eqv (Value.int IntKind.u64 (IntKind.wrap IntKind.u64 (IntKind.wrap IntKind.i64 (m_all (Int.ofNat m) + Int.ofNat 1)))) (Value.int IntKind.u64 (IntKind.wrap IntKind.u64 (IntKind.wrap IntKind.i64 (m_all (Int.ofNat m) + Int.ofNat 1)))) then bif m_eqv (Value.int IntKind.u64 (IntKind.wrap IntKind.u64 x4)) (Value.int IntKind.u64 (IntKind.wrap IntKind.u64 x4)) then bif m_eqv (Value.int IntKind.u64 (IntKind.wrap IntKind.u64 x4)) (Value.int IntKind.u64 (IntKind.wrap IntKind.u64 x4)) then bif m_eqv (Value.int IntKind.i64 x4) (Value.int IntKind.i64 x4) then bif m_eqv (Value.int IntKind.i64 x4) (Value.int IntKind.i64 x4) then bif m_same [Value.slice (some (Addr.mk 0 0 none)) m m] [Value.slice (some (Addr.mk 0 0 none)) m m] && true then bif m_eqv (Value.int IntKind.i64 (ibits BinOp.andNot IntKind.i64 (ibits BinOp.andNot IntKind.i64 (IntKind.wrap IntKind.i64 (Int.tmod (IntKind.wrap IntKind.u64 x1) (IntKind.wrap IntKind.u64 (IntKind.wrap IntKind.i64 (m_all (Int.ofNat m) + Int.ofNat 1))))) (ibits BinOp.or IntKind.i64 (IntKind.wrap IntKind.i64 (Int.tmod (IntKind.wrap IntKind.u64 x3) (IntKind.wrap IntKind.u64 (IntKind.wrap IntKind.i64 (m_all (Int.ofNat m) + Int.ofNat 1))))) (IntKind.wrap IntKind.i64 (Int.tmod (IntKind.wrap IntKind.u64 x4) (IntKind.wrap IntKind.u64 (IntKind.wrap IntKind.i64 (m_all (Int.ofNat m) + Int.ofNat 1))))))) (ibits BinOp.andNot IntKind.i64 (IntKind.wrap IntKind.i64 (Int.tmod (IntKind.wrap IntKind.u64 x0) (IntKind.wrap IntKind.u64 (IntKind.wrap IntKind.i64 (m_all (Int.ofNat m) + Int.ofNat 1))))) (ibits BinOp.or IntKind.i64 (IntKind.wrap IntKind.i64 (Int.tmod (IntKind.wrap IntKind.u64 x3) (IntKind.wrap IntKind.u64 (IntKind.wrap IntKind.i64 (m_all (Int.ofNat m) + Int.ofNat 1))))) (IntKind.wrap IntKind.i64 (Int.tmod (IntKind.wrap IntKind.u64 x4) (IntKind.wrap IntKind.u64 (IntKind.wrap IntKind.i64 (m_all (Int.ofNat m) + Int.ofNat 1))))))))) (Value.int IntKind.i64 (ibits BinOp.andNot IntKind.i64 (ibits BinOp.andNot IntKind.i64 (IntKind.wrap IntKind.i64 (Int.tmod (IntKind.wrap IntKind.u64 x1) (IntKind.wrap IntKind.u64 (IntKind.wrap IntKind.i64 (m_all (Int.ofNat m) + Int.ofNat 1))))) (ibits BinOp.or IntKind.i64 (IntKind.wrap IntKind.i64 (Int.tmod (IntKind.wrap IntKind.u64 x3) (IntKind.wrap IntKind.u64 (IntKind.wrap IntKind.i64 (m_all (Int.ofNat m) + Int.ofNat 1))))) (IntKind.wrap IntKind.i64 (Int.tmod (IntKind.wrap IntKind.u64 x4) (IntKind.wrap IntKind.u64 (IntKind.wrap IntKind.i64 (m_all (Int.ofNat m) + Int.ofNat 1))))))) (ibits BinOp.andNot IntKind.i64 (IntKind.wrap IntKind.i64 (Int.tmod (IntKind.wrap IntKind.u64 x0) (IntKind.wrap IntKind.u64 (IntKind.wrap IntKind.i64 (m_all (Int.ofNat m) + Int.ofNat 1))))) (ibits BinOp.or IntKind.i64 (IntKind.wrap IntKind.i64 (Int.tmod (IntKind.wrap IntKind.u64 x3) (IntKind.wrap IntKind.u64 (IntKind.wrap IntKind.i64 (m_all (Int.ofNat m) + Int.ofNat 1))))) (IntKind.wrap IntKind.i64 (Int.tmod (IntKind.wrap IntKind.u64 x4) (IntKind.wrap IntKind.u64 (IntKind.wrap IntKind.i64 (m_all (Int.ofNat m) + Int.ofNat 1))))))))) then bif m_eqv (Value.int IntKind.i64 (ibits BinOp.andNot IntKind.i64 (ibits BinOp.andNot IntKind.i64 (IntKind.wrap IntKind.i64 (Int.tmod (IntKind.wrap IntKind.u64 x1) (IntKind.wrap IntKind.u64 (IntKind.wrap IntKind.i64 (m_all (Int.ofNat m) + Int.ofNat 1))))) (ibits BinOp.or IntKind.i64 (IntKind.wrap IntKind.i64 (Int.tmod (IntKind.wrap IntKind.u64 x3) (IntKind.wrap IntKind.u64 (IntKind.wrap IntKind.i64 (m_all (Int.ofNat m) + Int.ofNat 1))))) (IntKind.wrap IntKind.i64 (Int.tmod (IntKind.wrap IntKind.u64 x4) (IntKind.wrap IntKind.u64 (IntKind.wrap IntKind.i64 (m_all (Int.ofNat m) + Int.ofNat 1))))))) (ibits BinOp.andNot IntKind.i64 (IntKind.wrap IntKind.i64 (Int.tmod (IntKind.wrap IntKind.u64 x0) (IntKind.wrap IntKind.u64 (IntKind.wrap IntKind.i64 (m_all (Int.ofNat m) + Int.ofNat 1))))) (ibits BinOp.or IntKind.i64 (IntKind.wrap IntKind.i64 (Int.tmod (IntKind.wrap IntKind.u64 x3) (IntKind.wrap IntKind.u64 (IntKind.wrap IntKind.i64 (m_all (Int.ofNat m) + Int.ofNat 1))))) (IntKind.wrap IntKind.i64 (Int.tmod (IntKind.wrap IntKind.u64 x4) (IntKind.wrap IntKind.u64 (IntKind.wrap IntKind.i64 (m_all (Int.ofNat m) + Int.ofNat 1))))))))) (Value.int IntKind.i64 (ibits BinOp.andNot IntKind.i64 (ibits BinOp.andNot IntKind.i64 (IntKind.wrap IntKind.i64 (Int.tmod (IntKind.wrap IntKind.u64 x1) (IntKind.wrap IntKind.u64 (IntKind.wrap IntKind.i64 (m_all (Int.ofNat m) + Int.ofNat 1))))) (ibits BinOp.or IntKind.i64 (IntKind.wrap IntKind.i64 (Int.tmod (IntKind.wrap IntKind.u64 x3) (IntKind.wrap IntKind.u64 (IntKind.wrap IntKind.i64 (m_all (Int.ofNat m) + Int.ofNat 1))))) (IntKind.wrap IntKind.i64 (Int.tmod (IntKind.wrap IntKind.u64 x4) (IntKind.wrap IntKind.u64 (IntKind.wrap IntKind.i64 (m_all (Int.ofNat m) + Int.ofNat 1))))))) (ibits BinOp.andNot IntKind.i64 (IntKind.wrap IntKind.i64 (Int.tmod (IntKind.wrap IntKind.u64 x0) (IntKind.wrap IntKind.u64 (IntKind.wrap IntKind.i64 (m_all (Int.ofNat m) + Int.ofNat 1))))) (ibits BinOp.or IntKind.i64 (IntKind.wrap IntKind.i64 (Int.tmod (IntKind.wrap IntKind.u64 x3) (IntKind.wrap IntKind.u64 (IntKind.wrap IntKind.i64 (m_all (Int.ofNat m) + Int.ofNat 1))))) (IntKind.wrap IntKind.i64 (Int.tmod (IntKind.wrap IntKind.u64 x4) (IntKind.wrap IntKind.u64 (IntKind.wrap IntKind.i64 (m_all (Int.ofNat m) + Int.ofNat 1))))))))) then bif m_eqv (Value.int IntKind.i64 (ibits BinOp.andNot IntKind.i64 (IntKind.wrap IntKind.i64 (Int.tmod (IntKind.wrap IntKind.u64 x0) (IntKind.wrap IntKind.u64 (IntKind.wrap IntKind.i64 (m_all (Int.ofNat m) + Int.ofNat 1))))) (ibits BinOp.or IntKind.i64 (IntKind.wrap IntKind.i64 (Int.tmod (IntKind.wrap IntKind.u64 x3) (IntKind.wrap IntKind.u64 (IntKind.wrap IntKind.i64 (m_all (Int.ofNat m) + Int.ofNat 1))))) (IntKind.wrap IntKind.i64 (Int.tmod (IntKind.wrap IntKind.u64 x4) (IntKind.wrap IntKind.u64 (IntKind.wrap IntKind.i64 (m_all (Int.ofNat m) + Int.ofNat 1)))))))) (Value.int IntKind.i64 (ibits BinOp.andNot IntKind.i64 (IntKind.wrap IntKind.i64 (Int.tmod (IntKind.wrap IntKind.u64 x0) (IntKind.wrap IntKind.u64 (IntKind.wrap IntKind.i64 (m_all (Int.ofNat m) + Int.ofNat 1))))) (ibits BinOp.or IntKind.i64 (IntKind.wrap IntKind.i64 (Int.tmod (IntKind.wrap IntKind.u64 x3) (IntKind.wrap IntKind.u64 (IntKind.wrap IntKind.i64 (m_all (Int.ofNat m) + Int.ofNat 1))))) (IntKind.wrap IntKind.i64 (Int.tmod (IntKind.wrap IntKind.u64 x4) (IntKind.wrap IntKind.u64 (IntKind.wrap IntKind.i64 (m_all (Int.ofNat m) + Int.ofNat 1)))))))) then bif m_eqv (Value.int IntKind.i64 (ibits BinOp.andNot IntKind.i64 (IntKind.wrap IntKind.i64 (Int.tmod (IntKind.wrap IntKind.u64 x0) (IntKind.wrap IntKind.u64 (IntKind.wrap IntKind.i64 (m_all (Int.ofNat m) + Int.ofNat 1))))) (ibits BinOp.or IntKind.i64 (IntKind.wrap IntKind.i64 (Int.tmod (IntKind.wrap IntKind.u64 x3) (IntKind.wrap IntKind.u64 (IntKind.wrap IntKind.i64 (m_all (Int.ofNat m) + Int.ofNat 1))))) (IntKind.wrap IntKind.i64 (Int.tmod (IntKind.wrap IntKind.u64 x4) (IntKind.wrap IntKind.u64 (IntKind.wrap IntKind.i64 (m_all (Int.ofNat m) + Int.ofNat 1)))))))) (Value.int IntKind.i64 (ibits BinOp.andNot IntKind.i64 (IntKind.wrap IntKind.i64 (Int.tmod (IntKind.wrap IntKind.u64 x0) (IntKind.wrap IntKind.u64 (IntKind.wrap IntKind.i64 (m_all (Int.ofNat m) + Int.ofNat 1))))) (ibits BinOp.or IntKind.i64 (IntKind.wrap IntKind.i64 (Int.tmod (IntKind.wrap IntKind.u64 x3) (IntKind.wrap IntKind.u64 (IntKind.wrap IntKind.i64 (m_all (Int.ofNat m) + Int.ofNat 1))))) (IntKind.wrap IntKind.i64 (Int.tmod (IntKind.wrap IntKind.u64 x4) (IntKind.wrap IntKind.u64 (IntKind.wrap IntKind.i64 (m_all (Int.ofNat m) + Int.ofNat 1)))))))) then bif m_nns [Value.int IntKind.i64 (ibits BinOp.andNot IntKind.i64 (IntKind.wrap IntKind.i64 (Int.tmod (IntKind.wrap IntKind.u64 x0) (IntKind.wrap IntKind.u64 (IntKind.wrap IntKind.i64 (m_all (Int.ofNat m) + Int.ofNat 1))))) (ibits BinOp.or IntKind.i64 (IntKind.wrap IntKind.i64 (Int.tmod (IntKind.wrap IntKind.u64 x3) (IntKind.wrap IntKind.u64 (IntKind.wrap IntKind.i64 (m_all (Int.ofNat m) + Int.ofNat 1))))) (IntKind.wrap IntKind.i64 (Int.tmod (IntKind.wrap IntKind.u64 x4) (IntKind.wrap IntKind.u64 (IntKind.wrap IntKind.i64 (m_all (Int.ofNat m) + Int.ofNat 1))))))), Value.int IntKind.i64 (ibits BinOp.andNot IntKind.i64 (ibits BinOp.andNot IntKind.i64 (IntKind.wrap IntKind.i64 (Int.tmod (IntKind.wrap IntKind.u64 x1) (IntKind.wrap IntKind.u64 (IntKind.wrap IntKind.i64 (m_all (Int.ofNat m) + Int.ofNat 1))))) (ibits BinOp.or IntKind.i64 (IntKind.wrap IntKind.i64 (Int.tmod (IntKind.wrap IntKind.u64 x3) (IntKind.wrap IntKind.u64 (IntKind.wrap IntKind.i64 (m_all (Int.ofNat m) + Int.ofNat 1))))) (IntKind.wrap IntKind.i64 (Int.tmod (IntKind.wrap IntKind.u64 x4) (IntKind.wrap IntKind.u64 (IntKind.wrap IntKind.i64 (m_all (Int.ofNat m) + Int.ofNat 1))))))) (ibits BinOp.andNot IntKind.i64 (IntKind.wrap IntKind.i64 (Int.tmod (IntKind.wrap IntKind.u64 x0) (IntKind.wrap IntKind.u64 (IntKind.wrap IntKind.i64 (m_all (Int.ofNat m) + Int.ofNat 1))))) (ibits BinOp.or IntKind.i64 (IntKind.wrap IntKind.i64 (Int.tmod (IntKind.wrap IntKind.u64 x3) (IntKind.wrap IntKind.u64 (IntKind.wrap IntKind.i64 (m_all (Int.ofNat m) + Int.ofNat 1))))) (IntKind.wrap IntKind.i64 (Int.tmod (IntKind.wrap IntKind.u64 x4) (IntKind.wrap IntKind.u64 (IntKind.wrap IntKind.i64 (m_all (Int.ofNat m) + Int.ofNat 1)))))))), Value.int IntKind.i64 (ibits BinOp.andNot IntKind.i64 (ibits BinOp.andNot IntKind.i64 (ibits BinOp.andNot IntKind.i64 (m_all (Int.ofNat m)) (ibits BinOp.or IntKind.i64 (IntKind.wrap IntKind.i64 (Int.tmod (IntKind.wrap IntKind.u64 x3) (IntKind.wrap IntKind.u64 (IntKind.wrap IntKind.i64 (m_all (Int.ofNat m) + Int.ofNat 1))))) (IntKind.wrap IntKind.i64 (Int.tmod (IntKind.wrap IntKind.u64 x4) (IntKind.wrap IntKind.u64 (IntKind.wrap IntKind.i64 (m_all (Int.ofNat m) + Int.ofNat 1))))))) (ibits BinOp.andNot IntKind.i64 (IntKind.wrap IntKind.i64 (Int.tmod (IntKind.wrap IntKind.u64 x0) (IntKind.wrap IntKind.u64 (IntKind.wrap IntKind.i64 (m_all (Int.ofNat m) + Int.ofNat 1))))) (ibits BinOp.or IntKind.i64 (IntKind.wrap IntKind.i64 (Int.tmod (IntKind.wrap IntKind.u64 x3) (IntKind.wrap IntKind.u64 (IntKind.wrap IntKind.i64 (m_all (Int.ofNat m) + Int.ofNat 1))))) (IntKind.wrap IntKind.i64 (Int.tmod (IntKind.wrap IntKind.u64 x4) (IntKind.wrap IntKind.u64 (IntKind.wrap IntKind.i64 (m_all (Int.ofNat m) + Int.ofNat 1)))))))) (ibits BinOp.andNot IntKind.i64 (ibits BinOp.andNot IntKind.i64 (IntKind.wrap IntKind.i64 (Int.tmod (IntKind.wrap IntKind.u64 x1) (IntKind.wrap IntKind.u64 (IntKind.wrap IntKind.i64 (m_all (Int.ofNat m) + Int.ofNat 1))))) (ibits BinOp.or IntKind.i64 (IntKind.wrap IntKind.i64 (Int.tmod (IntKind.wrap IntKind.u64 x3) (IntKind.wrap IntKind.u64 (IntKind.wrap IntKind.i64 (m_all (Int.ofNat m) + Int.ofNat 1))))) (IntKind.wrap IntKind.i64 (Int.tmod (IntKind.wrap IntKind.u64 x4) (IntKind.wrap IntKind.u64 (IntKind.wrap IntKind.i64 (m_all (Int.ofNat m) + Int.ofNat 1))))))) (ibits BinOp.andNot IntKind.i64 (IntKind.wrap IntKind.i64 (Int.tmod (IntKind.wrap IntKind.u64 x0) (IntKind.wrap IntKind.u64 (IntKind.wrap IntKind.i64 (m_all (Int.ofNat m) + Int.ofNat 1))))) (ibits BinOp.or IntKind.i64 (IntKind.wrap IntKind.i64 (Int.tmod (IntKind.wrap IntKind.u64 x3) (IntKind.wrap IntKind.u64 (IntKind.wrap IntKind.i64 (m_all (Int.ofNat m) + Int.ofNat 1))))) (IntKind.wrap IntKind.i64 (Int.tmod (IntKind.wrap IntKind.u64 x4) (IntKind.wrap IntKind.u64 (IntKind.wrap IntKind.i64 (m_all (Int.ofNat m) + Int.ofNat 1))))))))), Value.int IntKind.i64 (IntKind.wrap IntKind.i64 (Int.tmod (IntKind.wrap IntKind.u64 x3) (IntKind.wrap IntKind.u64 (IntKind.wrap IntKind.i64 (m_all (Int.ofNat m) + Int.ofNat 1))))), Value.int IntKind.i64 (IntKind.wrap IntKind.i64 (Int.tmod (IntKind.wrap IntKind.u64 x4) (IntKind.wrap IntKind.u64 (IntKind.wrap IntKind.i64 (m_all (Int.ofNat m) + Int.ofNat 1)))))] && (m_nns c && (m_nns g && true)) then K [some (Value.int IntKind.i64 (Int.ofNat m)), some (Value.pointer (some (Addr.mk 0 0 none))), some (Value.slice (some (Addr.mk 1 0 none)) k 9223372036854775808), some (Value.slice (some (Addr.mk 2 0 none)) m m), some (Value.int IntKind.i64 i)] [] [some (AObj.cells [Value.int IntKind.i64 (ibits BinOp.andNot IntKind.i64 (IntKind.wrap IntKind.i64 (Int.tmod (IntKind.wrap IntKind.u64 x0) (IntKind.wrap IntKind.u64 (IntKind.wrap IntKind.i64 (m_all (Int.ofNat m) + Int.ofNat 1))))) (ibits BinOp.or IntKind.i64 (IntKind.wrap IntKind.i64 (Int.tmod (IntKind.wrap IntKind.u64 x3) (IntKind.wrap IntKind.u64 (IntKind.wrap IntKind.i64 (m_all (Int.ofNat m) + Int.ofNat 1))))) (IntKind.wrap IntKind.i64 (Int.tmod (IntKind.wrap IntKind.u64 x4) (IntKind.wrap IntKind.u64 (IntKind.wrap IntKind.i64 (m_all (Int.ofNat m) + Int.ofNat 1))))))), Value.int IntKind.i64 (ibits BinOp.andNot IntKind.i64 (ibits BinOp.andNot IntKind.i64 (IntKind.wrap IntKind.i64 (Int.tmod (IntKind.wrap IntKind.u64 x1) (IntKind.wrap IntKind.u64 (IntKind.wrap IntKind.i64 (m_all (Int.ofNat m) + Int.ofNat 1))))) (ibits BinOp.or IntKind.i64 (IntKind.wrap IntKind.i64 (Int.tmod (IntKind.wrap IntKind.u64 x3) (IntKind.wrap IntKind.u64 (IntKind.wrap IntKind.i64 (m_all (Int.ofNat m) + Int.ofNat 1))))) (IntKind.wrap IntKind.i64 (Int.tmod (IntKind.wrap IntKind.u64 x4) (IntKind.wrap IntKind.u64 (IntKind.wrap IntKind.i64 (m_all (Int.ofNat m) + Int.ofNat 1))))))) (ibits BinOp.andNot IntKind.i64 (IntKind.wrap IntKind.i64 (Int.tmod (IntKind.wrap IntKind.u64 x0) (IntKind.wrap IntKind.u64 (IntKind.wrap IntKind.i64 (m_all (Int.ofNat m) + Int.ofNat 1))))) (ibits BinOp.or IntKind.i64 (IntKind.wrap IntKind.i64 (Int.tmod (IntKind.wrap IntKind.u64 x3) (IntKind.wrap IntKind.u64 (IntKind.wrap IntKind.i64 (m_all (Int.ofNat m) + Int.ofNat 1))))) (IntKind.wrap IntKind.i64 (Int.tmod (IntKind.wrap IntKind.u64 x4) (IntKind.wrap IntKind.u64 (IntKind.wrap IntKind.i64 (m_all (Int.ofNat m) + Int.ofNat 1)))))))), Value.int IntKind.i64 (ibits BinOp.andNot IntKind.i64 (ibits BinOp.andNot IntKind.i64 (ibits BinOp.andNot IntKind.i64 (m_all (Int.ofNat m)) (ibits BinOp.or IntKind.i64 (IntKind.wrap IntKind.i64 (Int.tmod (IntKind.wrap IntKind.u64 x3) (IntKind.wrap IntKind.u64 (IntKind.wrap IntKind.i64 (m_all (Int.ofNat m) + Int.ofNat 1))))) (IntKind.wrap IntKind.i64 (Int.tmod (IntKind.wrap IntKind.u64 x4) (IntKind.wrap IntKind.u64 (IntKind.wrap IntKind.i64 (m_all (Int.ofNat m) + Int.ofNat 1))))))) (ibits BinOp.andNot IntKind.i64 (IntKind.wrap IntKind.i64 (Int.tmod (IntKind.wrap IntKind.u64 x0) (IntKind.wrap IntKind.u64 (IntKind.wrap IntKind.i64 (m_all (Int.ofNat m) + Int.ofNat 1))))) (ibits BinOp.or IntKind.i64 (IntKind.wrap IntKind.i64 (Int.tmod (IntKind.wrap IntKind.u64 x3) (IntKind.wrap IntKind.u64 (IntKind.wrap IntKind.i64 (m_all (Int.ofNat m) + Int.ofNat 1))))) (IntKind.wrap IntKind.i64 (Int.tmod (IntKind.wrap IntKind.u64 x4) (IntKind.wrap IntKind.u64 (IntKind.wrap IntKind.i64 (m_all (Int.ofNat m) + Int.ofNat 1)))))))) (ibits BinOp.andNot IntKind.i64 (ibits BinOp.andNot IntKind.i64 (IntKind.wrap IntKind.i64 (Int.tmod (IntKind.wrap IntKind.u64 x1) (IntKind.wrap IntKind.u64 (IntKind.wrap IntKind.i64 (m_all (Int.ofNat m) + Int.ofNat 1))))) (ibits BinOp.or IntKind.i64 (IntKind.wrap IntKind.i64 (Int.tmod (IntKind.wrap IntKind.u64 x3) (IntKind.wrap IntKind.u64 (IntKind.wrap IntKind.i64 (m_all (Int.ofNat m) + Int.ofNat 1))))) (IntKind.wrap IntKind.i64 (Int.tmod (IntKind.wrap IntKind.u64 x4) (IntKind.wrap IntKind.u64 (IntKind.wrap IntKind.i64 (m_all (Int.ofNat m) + Int.ofNat 1))))))) (ibits BinOp.andNot IntKind.i64 (IntKind.wrap IntKind.i64 (Int.tmod (IntKind.wrap IntKind.u64 x0) (IntKind.wrap IntKind.u64 (IntKind.wrap IntKind.i64 (m_all (Int.ofNat m) + Int.ofNat 1))))) (ibits BinOp.or IntKind.i64 (IntKind.wrap IntKind.i64 (Int.tmod (IntKind.wrap IntKind.u64 x3) (IntKind.wrap IntKind.u64 (IntKind.wrap IntKind.i64 (m_all (Int.ofNat m) + Int.ofNat 1))))) (IntKind.wrap IntKind.i64 (Int.tmod (IntKind.wrap IntKind.u64 x4) (IntKind.wrap IntKind.u64 (IntKind.wrap IntKind.i64 (m_all (Int.ofNat m) + Int.ofNat 1))))))))), Value.int IntKind.i64 (IntKind.wrap IntKind.i64 (Int.tmod (IntKind.wrap IntKind.u64 x3) (IntKind.wrap IntKind.u64 (IntKind.wrap IntKind.i64 (m_all (Int.ofNat m) + Int.ofNat 1))))), Value.int IntKind.i64 (IntKind.wrap IntKind.i64 (Int.tmod (IntKind.wrap IntKind.u64 x4) (IntKind.wrap IntKind.u64 (IntKind.wrap IntKind.i64 (m_all (Int.ofNat m) + Int.ofNat 1)))))] 43 0 0), some (AObj.cells c 49 1 2), some (AObj.cells g 3 2 1)] else CR.fail 420 else CR.fail 420 else CR.fail 420 else CR.fail 420 else CR.fail 420 else CR.fail 420 else CR.fail 420 else CR.fail 420 else CR.fail 420 else CR.fail 420 else CR.fail 420 else CR.fail 420 else CR.fail 420 else CR.fail 420 else CR.fail 420 else CR.fail 420 else CR.fail 420 else CR.fail 420 else CR.fail 420 else CR.fail 420 else CR.fail 420 else CR.fail 420 else CR.fail 420 else CR.fail 420 else CR.fail 420 else CR.fail 420 else CR.fail 420 else CR.fail 420 else CR.fail 420 else CR.fail 420 else CR.fail 420 else CR.fail 420 else CR.fail 420 else CR.fail 420 else CR.fail 420 else CR.fail 420 else CR.fail 420 else CR.fail 420 else CR.fail 420 else CR.fail 420 else CR.fail 420 else CR.fail 420 else CR.fail 420 else CR.fail 420 else CR.fail 420 else CR.fail 420 := by kernel_rfl

theorem fe1 (r : Mem) (i : Int) (m k : Nat) (c g : List Value) (x0 x1 x2 x3 x4 : Int) (fs : FnsC) (K : OV → List Nat → OO → CR) (kx : Nat → KS) (kr : KS) : run (SC r) 8167 90 1 Ff_10 fs none (rbK 0 lvFf [] K) kx kr [] (bT lvFf (vF1 m k i) .nil) [] (mkA (oF1 c g x0 x1 x2 x3 x4)) =
    bif m_nns [Value.int IntKind.i64 x0, Value.int IntKind.i64 x1, Value.int IntKind.i64 x2, Value.int IntKind.i64 x3, Value.int IntKind.i64 x4] && (m_nns c && (m_nns g && true)) then K [some (Value.int IntKind.i64 (Int.ofNat m)), some (Value.pointer (some (Addr.mk 0 0 none))), some (Value.slice (some (Addr.mk 1 0 none)) k 9223372036854775808), some (Value.slice (some (Addr.mk 2 0 none)) m m), some (Value.int IntKind.i64 (IntKind.wrap IntKind.i64 (i + Int.ofNat 1)))] [] [some (AObj.cells [Value.int IntKind.i64 x0, Value.int IntKind.i64 x1, Value.int IntKind.i64 x2, Value.int IntKind.i64 x3, Value.int IntKind.i64 x4] 43 0 0), some (AObj.cells c 49 1 2), some (AObj.cells g 3 2 1)] else CR.fail 420 := by kernel_rfl

theorem fa0 (r : Mem) (i : Int) (m : Nat) (g : List Value) (x0 x1 x2 x3 x4 : Int) (fs : FnsC) (K : OV → List Nat → OO → CR) (KX : Nat → OV → List Nat → OO → CR) (kr : KS) : run (SC r) 8167 90 1 Ff_4 fs none (rbK 0 lvFf [] K) (fun i => rbK 0 [] [] (KX i)) kr [] (bT lvFf (vF0 m i) .nil) [] (mkA (oF0 g x0 x1 x2 x3 x4)) =
    bif decide (i < 2) then bif m_nns [Value.int IntKind.i64 x0, Value.int IntKind.i64 x1, Value.int IntKind.i64 x2, Value.int IntKind.i64 x3, Value.int IntKind.i64 x4] && (m_nns g && true) then K [some (Value.int IntKind.i64 (Int.ofNat m)), some (Value.pointer (some (Addr.mk 0 0 none))), some (Value.slice none 0 0), some (Value.slice (some (Addr.mk 1 0 none)) m m), some (Value.int IntKind.i64 i)] [] [some (AObj.cells [Value.int IntKind.i64 x0, Value.int IntKind.i64 x1, Value.int IntKind.i64 x2, Value.int IntKind.i64 x3, Value.int IntKind.i64 x4] 43 0 0), some (AObj.cells g 3 1 1)] else CR.fail 420 else KX 0 [] [] [] := by kernel_rfl

theorem fb0 (r : Mem) (i : Int) (m : Nat) (g : List Value) (x0 x1 x2 x3 x4 : Int) (fs : FnsC) (K : OV → List Nat → OO → CR) (kx : Nat → KS) (kr : KS) : run (SC r) 8167 90 1 Ff_5 fs none (rbK 0 lvFj [] K) kx kr [] (bT lvFf (vF0 m i) .nil) [] (mkA (oF0 g x0 x1 x2 x3 x4)) =
    bif m_nns [Value.int IntKind.i64 x0, Value.int IntKind.i64 x1, Value.int IntKind.i64 x2, Value.int IntKind.i64 x3, Value.int IntKind.i64 x4] && (m_nns g && true) then K [some (Value.int IntKind.i64 (Int.ofNat m)), some (Value.pointer (some (Addr.mk 0 0 none))), some (Value.slice none 0 0), some (Value.slice (some (Addr.mk 1 0 none)) m m), some (Value.int IntKind.i64 i), some (Value.int IntKind.i64 (Int.ofNat 0))] [] [some (AObj.cells [Value.int IntKind.i64 x0, Value.int IntKind.i64 x1, Value.int IntKind.i64 x2, Value.int IntKind.i64 x3, Value.int IntKind.i64 x4] 43 0 0), some (AObj.cells g 3 1 1)] else CR.fail 420 := by kernel_rfl

theorem fc0 (r : Mem) (a0 : List Value) (i s : Int) (m : Nat) (g : List Value) (st : St5) (x0 x1 x2 x3 x4 : Int) (K : OV → List Nat → OO → CR) (KX : Nat → OV → List Nat → OO → CR) (KR : OV → List Nat → OO → CR) : run (SC r) 8167 90 1 Ff_6 (lvlT (SC r) (tFf0 a0 m g st) .nil 1 1) none (rbK 0 lvFj [] K) (fun i => rbK 0 lvFf [] (KX i)) (rbK 0 [6] [] KR) [] (bT lvFj (vF0 m i ++ [some (I s)]) .nil) [] (mkA (oF0 g x0 x1 x2 x3 x4)) =
    bif decide (s < 5) then bif m_same [Value.int IntKind.i64 (Int.ofNat m)] [Value.int IntKind.i64 (Int.ofNat m)] && m_rg x0 && m_rg x1 && m_rg x2 && m_rg x3 && m_rg x4 then bif st s x0 x1 x2 x3 x4 then bif decide (s ≥ 1) then bif m_same [Value.slice (some (Addr.mk 0 0 none)) m m, Value.agg (Array.mk g)] [Value.slice (some (Addr.mk 0 0 none)) m m, Value.agg (Array.mk g)] then bif st s x0 x1 x2 x3 x4 then bif m_nns [Value.int IntKind.i64 x0, Value.int IntKind.i64 x1, Value.int IntKind.i64 x2, Value.int IntKind.i64 x3, Value.int IntKind.i64 x4] && (m_nns g && true) then K [some (Value.int IntKind.i64 (Int.ofNat m)), some (Value.pointer (some (Addr.mk 0 0 none))), some (Value.slice none 0 0), some (Value.slice (some (Addr.mk 1 0 none)) m m), some (Value.int IntKind.i64 i), some (Value.int IntKind.i64 (IntKind.wrap IntKind.i64 (s + Int.ofNat 1)))] [] [some (AObj.cells [Value.int IntKind.i64 x0, Value.int IntKind.i64 x1, Value.int IntKind.i64 x2, Value.int IntKind.i64 x3, Value.int IntKind.i64 x4] 43 0 0), some (AObj.cells g 3 1 1)] else CR.fail 420 else KR [some (Value.bool false)] [] [] else CR.fail 420 else KR [some (Value.bool false)] [] [] else bif decide (s ≥ 1) then bif m_same [Value.slice (some (Addr.mk 0 0 none)) m m, Value.agg (Array.mk g)] [Value.slice (some (Addr.mk 0 0 none)) m m, Value.agg (Array.mk g)] then bif st s x0 x1 x2 x3 x4 then KR [some (Value.bool false)] [] [] else bif m_nns [Value.int IntKind.i64 x0, Value.int IntKind.i64 x1, Value.int IntKind.i64 x2, Value.int IntKind.i64 x3, Value.int IntKind.i64 x4] && (m_nns g && true) then K [some (Value.int IntKind.i64 (Int.ofNat m)), some (Value.pointer (some (Addr.mk 0 0 none))), some (Value.slice none 0 0), some (Value.slice (some (Addr.mk 1 0 none)) m m), some (Value.int IntKind.i64 i), some (Value.int IntKind.i64 (IntKind.wrap IntKind.i64 (s + Int.ofNat 1)))] [] [some (AObj.cells [Value.int IntKind.i64 x0, Value.int IntKind.i64 x1, Value.int IntKind.i64 x2, Value.int IntKind.i64 x3, Value.int IntKind.i64 x4] 43 0 0), some (AObj.cells g 3 1 1)] else CR.fail 420 else CR.fail 420 else bif m_nns [Value.int IntKind.i64 x0, Value.int IntKind.i64 x1, Value.int IntKind.i64 x2, Value.int IntKind.i64 x3, Value.int IntKind.i64 x4] && (m_nns g && true) then K [some (Value.int IntKind.i64 (Int.ofNat m)), some (Value.pointer (some (Addr.mk 0 0 none))), some (Value.slice none 0 0), some (Value.slice (some (Addr.mk 1 0 none)) m m), some (Value.int IntKind.i64 i), some (Value.int IntKind.i64 (IntKind.wrap IntKind.i64 (s + Int.ofNat 1)))] [] [some (AObj.cells [Value.int IntKind.i64 x0, Value.int IntKind.i64 x1, Value.int IntKind.i64 x2, Value.int IntKind.i64 x3, Value.int IntKind.i64 x4] 43 0 0), some (AObj.cells g 3 1 1)] else CR.fail 420 else CR.fail 420 else bif m_nns [Value.int IntKind.i64 x0, Value.int IntKind.i64 x1, Value.int IntKind.i64 x2, Value.int IntKind.i64 x3, Value.int IntKind.i64 x4] && (m_nns g && true) then KX 2 [some (Value.int IntKind.i64 (Int.ofNat m)), some (Value.pointer (some (Addr.mk 0 0 none))), some (Value.slice none 0 0), some (Value.slice (some (Addr.mk 1 0 none)) m m), some (Value.int IntKind.i64 i)] [] [some (AObj.cells [Value.int IntKind.i64 x0, Value.int IntKind.i64 x1, Value.int IntKind.i64 x2, Value.int IntKind.i64 x3, Value.int IntKind.i64 x4] 43 0 0), some (AObj.cells g 3 1 1)] else CR.fail 420 := by kernel_rfl

theorem fd0 (r : Mem) (a0 : List Value) (i : Int) (m : Nat) (g : List Value) (st : St5) (x0 x1 x2 x3 x4 : Int) (K : OV → List Nat → OO → CR) (kx : Nat → KS) (kr : KS) : run (SC r) 8167 90 6 Ff_7 (lvlT (SC r) (tFf0 a0 m g st) .nil 6 1) none (rbK 0 lvFf [] K) kx kr [] (bT lvFf (vF0 m i) .nil) [] (mkA (oF0 g x0 x1 x2 x3 x4)) =
    bif m_same [Value.slice (some (Addr.mk 0 0 none)) m m] [Value.slice (some (Addr.mk 0 0 none)) m m] && true then bif !decide (IntKind.wrap IntKind.u64 (IntKind.wrap IntKind.i64 (m_all (Int.ofNat m) + Int.ofNat 1)) = 0) then bif m_eqv (Value.int IntKind.i64 (IntKind.wrap IntKind.i64 (Int.tmod (IntKind.wrap IntKind.u64 x0) (IntKind.wrap IntKind.u64 (IntKind.wrap IntKind.i64 (m_all (Int.ofNat m) + Int.ofNat 1)))))) (Value.int IntKind.i64 (IntKind.wrap IntKind.i64 (Int.tmod (IntKind.wrap IntKind.u64 x0) (IntKind.wrap IntKind.u64 (IntKind.wrap IntKind.i64 (m_all (Int.ofNat m) + Int.ofNat 1)))))) then bif m_eqv (Value.int IntKind.u64 (IntKind.wrap IntKind.u64 (IntKind.wrap IntKind.i64 (m_all (Int.ofNat m) + Int.ofNat 1)))) (Value.int IntKind.u64 (IntKind.wrap IntKind.u64 (IntKind.wrap IntKind.i64 (m_all (Int.ofNat m) + Int.ofNat 1)))) then bif m_eqv (Value.int IntKind.u64 (IntKind.wrap IntKind.u64 x0)) (Value.int IntKind.u64 (IntKind.wrap IntKind.u64 x0)) then bif m_eqv (Value.int IntKind.u64 (IntKind.wrap IntKind.u64 x0)) (Value.int IntKind.u64 (IntKind.wrap IntKind.u64 x0)) then bif m_eqv (Value.int IntKind.i64 x0) (Value.int IntKind.i64 x0) then bif m_eqv (Value.int IntKind.i64 x0) (Value.int IntKind.i64 x0) then bif m_same [Value.slice (some (Addr.mk 0 0 none)) m m] [Value.slice (some (Addr.mk 0 0 none)) m m] && true then bif !decide (IntKind.wrap IntKind.u64 (IntKind.wrap IntKind.i64 (m_all (Int.ofNat m) + Int.ofNat 1)) = 0) then bif m_eqv (Value.int IntKind.i64 (IntKind.wrap IntKind.i64 (Int.tmod (IntKind.wrap IntKind.u64 x1) (IntKind.wrap IntKind.u64 (IntKind.wrap IntKind.i64 (m_all (Int.ofNat m) + Int.ofNat 1)))))) (Value.int IntKind.i64 (IntKind.wrap IntKind.i64 (Int.tmod (IntKind.wrap IntKind.u64 x1) (IntKind.wrap IntKind.u64 (IntKind.wrap IntKind.i64 (m_all (Int.ofNat m) + Int.ofNat 1)))))) then bif m_eqv (Value.int IntKind.u64 (IntKind.wrap IntKind.u64 (IntKind.wrap IntKind.i64 (m_all (Int.ofNat m) + Int.ofNat 1)))) (Value.int IntKind.u64 (IntKind.wrap IntKind.u64 (IntKind.wrap IntKind.i64 (m_all (Int.ofNat m) + Int.ofNat 1)))) then bif m_eqv (Value.int IntKind.u64 (IntKind.wrap IntKind.u64 x1)) (Value.int IntKind.u64 (IntKind.wrap IntKind.u64 x1)) then bif m_eqv (Value.int IntKind.u64 (IntKind.wrap IntKind.u64 x1)) (Value.int IntKind.u64 (IntKind.wrap IntKind.u64 x1)) then bif m_eqv (Value.int IntKind.i64 x1) (Value.int IntKind.i64 x1) then bif m_eqv (Value.int IntKind.i64 x1) (Value.int IntKind.i64 x1) then bif m_same [Value.slice (some (Addr.mk 0 0 none)) m m] [Value.slice (some (Addr.mk 0 0 none)) m m] && true then bif !decide (IntKind.wrap IntKind.u64 (IntKind.wrap IntKind.i64 (m_all (Int.ofNat m) + Int.ofNat 1)) = 0) then bif m_eqv (Value.int IntKind.i64 (IntKind.wrap IntKind.i64 (Int.tmod (IntKind.wrap IntKind.u64 x2) (IntKind.wrap IntKind.u64 (IntKind.wrap IntKind.i64 (m_all (Int.ofNat m) + Int.ofNat 1)))))) (Value.int IntKind.i64 (IntKind.wrap IntKind.i64 (Int.tmod (IntKind.wrap IntKind.u64 x2) (IntKind.wrap IntKind.u64 (IntKind.wrap IntKind.i64 (m_all (Int.ofNat m) + Int.ofNat 1)))))) then bif m_eqv (Value.int IntKind.u64 (IntKind.wrap IntKind.u64 (IntKind.wrap IntKind.i64 (m_all (Int.ofNat m) + Int.ofNat 1)))) (Value.int IntKind.u64 (IntKind.wrap IntKind.u64 (IntKind.wrap IntKind.i64 (m_all (Int.ofNat m) + Int.ofNat 1)))) then bif m_eqv (Value.int IntKind.u64 (IntKind.wrap IntKind.u64 x2)) (Value.int IntKind.u64 (IntKind.wrap IntKind.u64 x2)) then bif m_eqv (Value.int IntKind.u64 (IntKind.wrap IntKind.u64 x2)) (Value.int IntKind.u64 (IntKind.wrap IntKind.u64 x2)) then bif m_eqv (Value.int IntKind.i64 x2) (Value.int IntKind.i64 x2) then bif m_eqv (Value.int IntKind.i64 x2) (Value.int IntKind.i64 x2) then bif m_same [Value.slice (some (Addr.mk 0 0 none)) m m] [Value.slice (some (Addr.mk 0 0 none)) m m] && true then bif !decide (IntKind.wrap IntKind.u64 (IntKind.wrap IntKind.i64 (m_all (Int.ofNat m) + Int.ofNat 1)) = 0) then bif m_eqv (Value.int IntKind.i64 (IntKind.wrap IntKind.i64 (Int.tmod (IntKind.wrap IntKind.u64 x3) (IntKind.wrap IntKind.u64 (IntKind.wrap IntKind.i64 (m_all (Int.ofNat m) + Int.ofNat 1)))))) (Value.int IntKind.i64 (IntKind.wrap IntKind.i64 (Int.tmod (IntKind.wrap IntKind.u64 x3) (IntKind.wrap IntKind.u64 (IntKind.wrap IntKind.i64 (m_all (Int.ofNat m) + Int.ofNat 1)))))) then bif m_eqv (Value.int IntKind.u64 (IntKind.wrap IntKind.u64 (IntKind.wrap IntKind.i64 (m_all (Int.ofNat m) + Int.ofNat 1)))) (Value.int IntKind.u64 (IntKind.wrap IntKind.u64 (IntKind.wrap IntKind.i64 (m_all (Int.ofNat m) + Int.ofNat 1)))) then bif m_eqv (Value.int IntKind.u64 (IntKind.wrap IntKind.u64 x3)) (Value.int IntKind.u64 (IntKind.wrap IntKind.u64 x3)) then bif m_eqv (Value.int IntKind.u64 (IntKind.wrap IntKind.u64 x3)) (Value.int IntKind.u64 (IntKind.wrap IntKind.u64 x3)) then bif m_eqv (Value.int IntKind.i64 x3) (Value.int IntKind.i64 x3) then bif m_eqv (Value.int IntKind.i64 x3) (Value.int IntKind.i64 x3) then bif m_same [Value.slice (some (Addr.mk 0 0 none)) m m] [Value.slice (some (Addr.mk 0 0 none)) m m] && true then bif !decide (IntKind.wrap IntKind.u64 (IntKind.wrap IntKind.i64 (m_all (Int.ofNat m) + Int.ofNat 1)) = 0) then bif m_eqv (Value.int IntKind.i64 (IntKind.wrap IntKind.i64 (Int.tmod (IntKind.wrap IntKind.u64 x4) (IntKind.wrap IntKind.u64 (IntKind.wrap IntKind.i64 (m_all (Int.ofNat m) + Int.ofNat 1)))))) (Value.int IntKind.i64 (IntKind.wrap IntKind.i64 (Int.tmod (IntKind.wrap IntKind.u64 x4) (IntKind.wrap IntKind.u64 (IntKind.wrap IntKind.i64 (m_all (Int.ofNat m) + Int.ofNat 1)))))) then bif m_eqv (Value.int IntKind.u64 (IntKind.wrap IntKind.u64 (IntKind.wrap IntKind.i64 (m_all (Int.ofNat m) + Int.ofNat 1)))) (Value.int IntKind.u64 (IntKind.wrap IntKind.u64 (IntKind.wrap IntKind.i64 (m_all (Int.ofNat m) + Int.ofNat 1)))) then bif m_eqv (Value.int IntKind.u64 (IntKind.wrap IntKind.u64 x4)) (Value.int IntKind.u64 (IntKind.wrap IntKind.u64 x4)) then bif m_eqv (Value.int IntKind.u64 (IntKind.wrap IntKind.u64 x4)) (Value.int IntKind.u64 (IntKind.wrap IntKind.u64 x4)) then bif m_eqv (Value.int IntKind.i64 x4) (Value.int IntKind.i64 x4) then bif m_eqv (Value.int IntKind.i64 x4) (Value.int IntKind.i64 x4) then bif m_same [Value.slice (some (Addr.mk 0 0 none)) m m] [Value.slice (some (Addr.mk 0 0 none)) m m] && true then bif m_eqv (Value.int IntKind.i64 (ibits BinOp.andNot IntKind.i64 (ibits BinOp.andNot IntKind.i64 (IntKind.wrap IntKind.i64 (Int.tmod (IntKind.wrap IntKind.u64 x1) (IntKind.wrap IntKind.u64 (IntKind.wrap IntKind.i64 (m_all (Int.ofNat m) + Int.ofNat 1))))) (ibits BinOp.or IntKind.i64 (IntKind.wrap IntKind.i64 (Int.tmod (IntKind.wrap IntKind.u64 x3) (IntKind.wrap IntKind.u64 (IntKind.wrap IntKind.i64 (m_all (Int.ofNat m) + Int.ofNat 1))))) (IntKind.wrap IntKind.i64 (Int.tmod (IntKind.wrap IntKind.u64 x4) (IntKind.wrap IntKind.u64 (IntKind.wrap IntKind.i64 (m_all (Int.ofNat m) + Int.ofNat 1))))))) (ibits BinOp.andNot IntKind.i64 (IntKind.wrap IntKind.i64 (Int.tmod (IntKind.wrap IntKind.u64 x0) (IntKind.wrap IntKind.u64 (IntKind.wrap IntKind.i64 (m_all (Int.ofNat m) + Int.ofNat 1))))) (ibits BinOp.or IntKind.i64 (IntKind.wrap IntKind.i64 (Int.tmod (IntKind.wrap IntKind.u64 x3) (IntKind.wrap IntKind.u64 (IntKind.wrap IntKind.i64 (m_all (Int.ofNat m) + Int.ofNat 1))))) (IntKind.wrap IntKind.i64 (Int.tmod (IntKind.wrap IntKind.u64 x4) (IntKind.wrap IntKind.u64 (IntKind.wrap IntKind.i64 (m_all (Int.ofNat m) + Int.ofNat 1))))))))) (Value.int IntKind.i64 (ibits BinOp.andNot IntKind.i64 (ibits BinOp.andNot IntKind.i64 (IntKind.wrap IntKind.i64 (Int.tmod (IntKind.wrap IntKind.u64 x1) (IntKind.wrap IntKind.u64 (IntKind.wrap IntKind.i64 (m_all (Int.ofNat m) + Int.ofNat 1))))) (ibits BinOp.or IntKind.i64 (IntKind.wrap IntKind.i64 (Int.tmod (IntKind.wrap IntKind.u64 x3) (IntKind.wrap IntKind.u64 (IntKind.wrap IntKind.i64 (m_all (Int.ofNat m) + Int.ofNat 1))))) (IntKind.wrap IntKind.i64 (Int.tmod (IntKind.wrap IntKind.u64 x4) (IntKind.wrap IntKind.u64 (IntKind.wrap IntKind.i64 (m_all (Int.ofNat m) + Int.ofNat 1))))))) (ibits BinOp.andNot IntKind.i64 (IntKind.wrap IntKind.i64 (Int.tmod (IntKind.wrap IntKind.u64 x0) (IntKind.wrap IntKind.u64 (IntKind.wrap IntKind.i64 (m_all (Int.ofNat m) + Int.ofNat 1))))) (ibits BinOp.or IntKind.i64 (IntKind.wrap IntKind.i64 (Int.tmod (IntKind.wrap IntKind.u64 x3) (IntKind.wrap IntKind.u64 (IntKind.wrap IntKind.i64 (m_all (Int.ofNat m) + Int.ofNat 1))))) (IntKind.wrap IntKind.i64 (Int.tmod (IntKind.wrap IntKind.u64 x4) (IntKind.wrap IntKind.u64 (IntKind.wrap IntKind.i64 (m_all (Int.ofNat m) + Int.ofNat 1))))))))) then bif m_eqv (Value.int IntKind.i64 (ibits BinOp.andNot IntKind.i64 (ibits BinOp.andNot IntKind.i64 (IntKind.wrap IntKind.i64 (Int.tmod (IntKind.wrap IntKind.u64 x1) (IntKind.wrap IntKind.u64 (IntKind.wrap IntKind.i64 (m_all (Int.ofNat m) + Int.ofNat 1))))) (ibits BinOp.or IntKind.i64 (IntKind.wrap IntKind.i64 (Int.tmod (IntKind.wrap IntKind.u64 x3) (IntKind.wrap IntKind.u64 (IntKind.wrap IntKind.i64 (m_all (Int.ofNat m) + Int.ofNat 1))))) (IntKind.wrap IntKind.i64 (Int.tmod (IntKind.wrap IntKind.u64 x4) (IntKind.wrap IntKind.u64 (IntKind.wrap IntKind.i64 (m_all (Int.ofNat m) + Int.ofNat 1))))))) (ibits BinOp.andNot IntKind.i64 (IntKind.wrap IntKind.i64 (Int.tmod (IntKind.wrap IntKind.u64 x0) (IntKind.wrap IntKind.u64 (IntKind.wrap IntKind.i64 (m_all (Int.ofNat m) + Int.ofNat 1))))) (ibits BinOp.or IntKind.i64 (IntKind.wrap IntKind.i64 (Int.tmod (IntKind.wrap IntKind.u64 x3) (IntKind.wrap IntKind.u64 (IntKind.wrap IntKind.i64 (m_all (Int.ofNat m) + Int.ofNat 1))))) (IntKind.wrap IntKind.i64 (Int.tmod (IntKind.wrap IntKind.u64 x4) (IntKind.wrap IntKind.u64 (IntKind.wrap IntKind.i64 (m_all (Int.ofNat m) + Int.ofNat 1))))))))) (Value.int IntKind.i64 (ibits BinOp.andNot IntKind.i64 (ibits BinOp.andNot IntKind.i64 (IntKind.wrap IntKind.i64 (Int.tmod (IntKind.wrap IntKind.u64 x1) (IntKind.wrap IntKind.u64 (IntKind.wrap IntKind.i64 (m_all (Int.ofNat m) + Int.ofNat 1))))) (ibits BinOp.or IntKind.i64 (IntKind.wrap IntKind.i64 (Int.tmod (IntKind.wrap IntKind.u64 x3) (IntKind.wrap IntKind.u64 (IntKind.wrap IntKind.i64 (m_all (Int.ofNat m) + Int.ofNat 1))))) (IntKind.wrap IntKind.i64 (Int.tmod (IntKind.wrap IntKind.u64 x4) (IntKind.wrap IntKind.u64 (IntKind.wrap IntKind.i64 (m_all (Int.ofNat m) + Int.ofNat 1))))))) (ibits BinOp.andNot IntKind.i64 (IntKind.wrap IntKind.i64 (Int.tmod (IntKind.wrap IntKind.u64 x0) (IntKind.wrap IntKind.u64 (IntKind.wrap IntKind.i64 (m_all (Int.ofNat m) + Int.ofNat 1))))) (ibits BinOp.or IntKind.i64 (IntKind.wrap IntKind.i64 (Int.tmod (IntKind.wrap IntKind.u64 x3) (IntKind.wrap IntKind.u64 (IntKind.wrap IntKind.i64 (m_all (Int.ofNat m) + Int.ofNat 1))))) (IntKind.wrap IntKind.i64 (Int.tmod (IntKind.wrap IntKind.u64 x4) (IntKind.wrap IntKind.u64 (IntKind.wrap IntKind.i64 (m_all (Int.ofNat m) + Int.ofNat 1))))))))) then bif m_eqv (Value.int IntKind.i64 (ibits BinOp.andNot IntKind.i64 (IntKind.wrap IntKind.i64 (Int.tmod (IntKind.wrap IntKind.u64 x0) (IntKind.wrap IntKind.u64 (IntKind.wrap IntKind.i64 (m_all (Int.ofNat m) + Int.ofNat 1))))) (ibits BinOp.or IntKind.i64 (IntKind.wrap IntKind.i64 (Int.tmod (IntKind.wrap IntKind.u64 x3) (IntKind.wrap IntKind.u64 (IntKind.wrap IntKind.i64 (m_all (Int.ofNat m) + Int.ofNat 1))))) (IntKind.wrap IntKind.i64 (Int.tmod (IntKind.wrap IntKind.u64 x4) (IntKind.wrap IntKind.u64 (IntKind.wrap IntKind.i64 (m_all (Int.ofNat m) + Int.ofNat 1)))))))) (Value.int IntKind.i64 (ibits BinOp.andNot IntKind.i64 (IntKind.wrap IntKind.i64 (Int.tmod (IntKind.wrap IntKind.u64 x0) (IntKind.wrap IntKind.u64 (IntKind.wrap IntKind.i64 (m_all (Int.ofNat m) + Int.ofNat 1))))) (ibits BinOp.or IntKind.i64 (IntKind.wrap IntKind.i64 (Int.tmod (IntKind.wrap IntKind.u64 x3) (IntKind.wrap IntKind.u64 (IntKind.wrap IntKind.i64 (m_all (Int.ofNat m) + Int.ofNat 1))))) (IntKind.wrap IntKind.i64 (Int.tmod (IntKind.wrap IntKind.u64 x4) (IntKind.wrap IntKind.u64 (IntKind.wrap IntKind.i64 (m_all (Int.ofNat m) + Int.ofNat 1)))))))) then bif m_eqv (Value.int IntKind.i64 (ibits BinOp.andNot IntKind.i64 (IntKind.wrap IntKind.i64 (Int.tmod (IntKind.wrap IntKind.u64 x0) (IntKind.wrap IntKind.u64 (IntKind.wrap IntKind.i64 (m_all (Int.ofNat m) + Int.ofNat 1))))) (ibits BinOp.or IntKind.i64 (IntKind.wrap IntKind.i64 (Int.tmod (IntKind.wrap IntKind.u64 x3) (IntKind.wrap IntKind.u64 (IntKind.wrap IntKind.i64 (m_all (Int.ofNat m) + Int.ofNat 1))))) (IntKind.wrap IntKind.i64 (Int.tmod (IntKind.wrap IntKind.u64 x4) (IntKind.wrap IntKind.u64 (IntKind.wrap IntKind.i64 (m_all (Int.ofNat m) + Int.ofNat 1)))))))) (Value.int IntKind.i64 (ibits BinOp.andNot IntKind.i64 (IntKind.wrap IntKind.i64 (Int.tmod (IntKind.wrap IntKind.u64 x0) (IntKind.wrap IntKind.u64 (IntKind.wrap IntKind.i64 (m_all (Int.ofNat m) + Int.ofNat 1))))) (ibits BinOp.or IntKind.i64 (IntKind.wrap IntKind.i64 (Int.tmod (IntKind.wrap IntKind.u64 x3) (IntKind.wrap IntKind.u64 (IntKind.wrap IntKind.i64 (m_all (Int.ofNat m) + Int.ofNat 1))))) (IntKind.wrap IntKind.i64 (Int.tmod (IntKind.wrap IntKind.u64 x4) (IntKind.wrap IntKind.u64 (IntKind.wrap IntKind.i64 (m_all (Int.ofNat m) + Int.ofNat 1)))))))) then bif m_nns [Value.int IntKind.i64 (ibits BinOp.andNot IntKind.i64 (IntKind.wrap IntKind.i64 (Int.tmod (IntKind.wrap IntKind.u64 x0) (IntKind.wrap IntKind.u64 (IntKind.wrap IntKind.i64 (m_all (Int.ofNat m) + Int.ofNat 1))))) (ibits BinOp.or IntKind.i64 (IntKind.wrap IntKind.i64 (Int.tmod (IntKind.wrap IntKind.u64 x3) (IntKind.wrap IntKind.u64 (IntKind.wrap IntKind.i64 (m_all (Int.ofNat m) + Int.ofNat 1))))) (IntKind.wrap IntKind.i64 (Int.tmod (IntKind.wrap IntKind.u64 x4) (IntKind.wrap IntKind.u64 (IntKind.wrap IntKind.i64 (m_all (Int.ofNat m) + Int.ofNat 1))))))), Value.int IntKind.i64 (ibits BinOp.andNot IntKind.i64 (ibits BinOp.andNot IntKind.i64 (IntKind.wrap IntKind.i64 (Int.tmod (IntKind.wrap IntKind.u64 x1) (IntKind.wrap IntKind.u64 (IntKind.wrap IntKind.i64 (m_all (Int.ofNat m) + Int.ofNat 1))))) (ibits BinOp.or IntKind.i64 (IntKind.wrap IntKind.i64 (Int.tmod (IntKind.wrap IntKind.u64 x3) (IntKind.wrap IntKind.u64 (IntKind.wrap IntKind.i64 (m_all (Int.ofNat m) + Int.ofNat 1))))) (IntKind.wrap IntKind.i64 (Int.tmod (IntKind.wrap IntKind.u64 x4) (IntKind.wrap IntKind.u64 (IntKind.wrap IntKind.i64 (m_all (Int.ofNat m) + Int.ofNat 1))))))) (ibits BinOp.andNot IntKind.i64 (IntKind.wrap IntKind.i64 (Int.tmod (IntKind.wrap IntKind.u64 x0) (IntKind.wrap IntKind.u64 (IntKind.wrap IntKind.i64 (m_all (Int.ofNat m) + Int.ofNat 1))))) (ibits BinOp.or IntKind.i64 (IntKind.wrap IntKind.i64 (Int.tmod (IntKind.wrap IntKind.u64 x3) (IntKind.wrap IntKind.u64 (IntKind.wrap IntKind.i64 (m_all (Int.ofNat m) + Int.ofNat 1))))) (IntKind.wrap IntKind.i64 (Int.tmod (IntKind.wrap IntKind.u64 x4) (IntKind.wrap IntKind.u64 (IntKind.wrap IntKind.i64 (m_all (Int.ofNat m) + Int.ofNat 1)))))))), Value.int IntKind.i64 (ibits BinOp.andNot IntKind.i64 (ibits BinOp.andNot IntKind.i64 (ibits BinOp.andNot IntKind.i64 (m_all (Int.ofNat m)) (ibits BinOp.or IntKind.i64 (IntKind.wrap IntKind.i64 (Int.tmod (IntKind.wrap IntKind.u64 x3) (IntKind.wrap IntKind.u64 (IntKind.wrap IntKind.i64 (m_all (Int.ofNat m) + Int.ofNat 1))))) (IntKind.wrap IntKind.i64 (Int.tmod (IntKind.wrap IntKind.u64 x4) (IntKind.wrap IntKind.u64 (IntKind.wrap IntKind.i64 (m_all (Int.ofNat m) + Int.ofNat 1))))))) (ibits BinOp.andNot IntKind.i64 (IntKind.wrap IntKind.i64 (Int.tmod (IntKind.wrap IntKind.u64 x0) (IntKind.wrap IntKind.u64 (IntKind.wrap IntKind.i64 (m_all (Int.ofNat m) + Int.ofNat 1))))) (ibits BinOp.or IntKind.i64 (IntKind.wrap IntKind.i64 (Int.tmod (IntKind.wrap IntKind.u64 x3) (IntKind.wrap IntKind.u64 (IntKind.wrap IntKind.i64 (m_all (Int.ofNat m) + Int.ofNat 1))))) (IntKind.wrap IntKind.i64 (Int.tmod (IntKind.wrap IntKind.u64 x4) (IntKind.wrap IntKind.u64 (IntKind.wrap IntKind.i64 (m_all (Int.ofNat m) + Int.ofNat 1)))))))) (ibits BinOp.andNot IntKind.i64 (ibits BinOp.andNot IntKind.i64 (IntKind.wrap IntKind.i64 (Int.tmod (IntKind.wrap IntKind.u64 x1) (IntKind.wrap IntKind.u64 (IntKind.wrap IntKind.i64 (m_all (Int.ofNat m) + Int.ofNat 1))))) (ibits BinOp.or IntKind.i64 (IntKind.wrap IntKind.i64 (Int.tmod (IntKind.wrap IntKind.u64 x3) (IntKind.wrap IntKind.u64 (IntKind.wrap IntKind.i64 (m_all (Int.ofNat m) + Int.ofNat 1))))) (IntKind.wrap IntKind.i64 (Int.tmod (IntKind.wrap IntKind.u64 x4) (IntKind.wrap IntKind.u64 (IntKind.wrap IntKind.i64 (m_all (Int.ofNat m) + Int.ofNat 1))))))) (ibits BinOp.andNot IntKind.i64 (IntKind.wrap IntKind.i64 (Int.tmod (IntKind.wrap IntKind.u64 x0) (IntKind.wrap IntKind.u64 (IntKind.wrap IntKind.i64 (m_all (Int.ofNat m) + Int.ofNat 1))))) (ibits BinOp.or IntKind.i64 (IntKind.wrap IntKind.i64 (Int.tmod (IntKind.wrap IntKind.u64 x3) (IntKind.wrap IntKind.u64 (IntKind.wrap IntKind.i64 (m_all (Int.ofNat m) + Int.ofNat 1))))) (IntKind.wrap IntKind.i64 (Int.tmod (IntKind.wrap IntKind.u64 x4) (IntKind.wrap IntKind.u64 (IntKind.wrap IntKind.i64 (m_all (Int.ofNat m) + Int.ofNat 1))))))))), Value.int IntKind.i64 (IntKind.wrap IntKind.i64 (Int.tmod (IntKind.wrap IntKind.u64 x3) (IntKind.wrap IntKind.u64 (IntKind.wrap IntKind.i64 (m_all (Int.ofNat m) + Int.ofNat 1))))), Value.int IntKind.i64 (IntKind.wrap IntKind.i64 (Int.tmod (IntKind.wrap IntKind.u64 x4) (IntKind.wrap IntKind.u64 (IntKind.wrap IntKind.i64 (m_all (Int.ofNat m) + Int.ofNat 1)))))] && (m_nns g && true) then K [some (Value.int IntKind.i64 (Int.ofNat m)), some (Value.pointer (some (Addr.mk 0 0 none))), some (Value.slice none 0 0), some (Value.slice (some (Addr.mk 1 0 none)) m m), some (Value.int IntKind.i64 i)] [] [some (AObj.cells [Value.int IntKind.i64 (ibits BinOp.andNot IntKind.i64 (IntKind.wrap IntKind.i64 (Int.tmod (IntKind.wrap IntKind.u64 x0) (IntKind.wrap IntKind.u64 (IntKind.wrap IntKind.i64 (m_all (Int.ofNat m) + Int.ofNat 1))))) (ibits BinOp.or IntKind.i64 (IntKind.wrap IntKind.i64 (Int.tmod (IntKind.wrap IntKind.u64 x3) (IntKind.wrap IntKind.u64 (IntKind.wrap IntKind.i64 (m_all (Int.ofNat m) + Int.ofNat 1))))) (IntKind.wrap IntKind.i64 (Int.tmod (IntKind.wrap IntKind.u64 x4) (IntKind.wrap IntKind.u64 (IntKind.wrap IntKind.i64 (m_all (Int.ofNat m) + Int.ofNat 1))))))), Value.int IntKind.i64 (ibits BinOp.andNot IntKind.i64 (ibits BinOp.andNot IntKind.i64 (IntKind.wrap IntKind.i64 (Int.tmod (IntKind.wrap IntKind.u64 x1) (IntKind.wrap IntKind.u64 (IntKind.wrap IntKind.i64 (m_all (Int.ofNat m) + Int.ofNat 1))))) (ibits BinOp.or IntKind.i64 (IntKind.wrap IntKind.i64 (Int.tmod (IntKind.wrap IntKind.u64 x3) (IntKind.wrap IntKind.u64 (IntKind.wrap IntKind.i64 (m_all (Int.ofNat m) + Int.ofNat 1))))) (IntKind.wrap IntKind.i64 (Int.tmod (IntKind.wrap IntKind.u64 x4) (IntKind.wrap IntKind.u64 (IntKind.wrap IntKind.i64 (m_all (Int.ofNat m) + Int.ofNat 1))))))) (ibits BinOp.andNot IntKind.i64 (IntKind.wrap IntKind.i64 (Int.tmod (IntKind.wrap IntKind.u64 x0) (IntKind.wrap IntKind.u64 (IntKind.wrap IntKind.i64 (m_all (Int.ofNat m) + Int.ofNat 1))))) (ibits BinOp.or IntKind.i64 (IntKind.wrap IntKind.i64 (Int.tmod (IntKind.wrap IntKind.u64 x3) (IntKind.wrap IntKind.u64 (IntKind.wrap IntKind.i64 (m_all (Int.ofNat m) + Int.ofNat 1))))) (IntKind.wrap IntKind.i64 (Int.tmod (IntKind.wrap IntKind.u64 x4) (IntKind.wrap IntKind.u64 (IntKind.wrap IntKind.i64 (m_all (Int.ofNat m) + Int.ofNat 1)))))))), Value.int IntKind.i64 (ibits BinOp.andNot IntKind.i64 (ibits BinOp.andNot IntKind.i64 (ibits BinOp.andNot IntKind.i64 (m_all (Int.ofNat m)) (ibits BinOp.or IntKind.i64 (IntKind.wrap IntKind.i64 (Int.tmod (IntKind.wrap IntKind.u64 x3) (IntKind.wrap IntKind.u64 (IntKind.wrap IntKind.i64 (m_all (Int.ofNat m) + Int.ofNat 1))))) (IntKind.wrap IntKind.i64 (Int.tmod (IntKind.wrap IntKind.u64 x4) (IntKind.wrap IntKind.u64 (IntKind.wrap IntKind.i64 (m_all (Int.ofNat m) + Int.ofNat 1))))))) (ibits BinOp.andNot IntKind.i64 (IntKind.wrap IntKind.i64 (Int.tmod (IntKind.wrap IntKind.u64 x0) (IntKind.wrap IntKind.u64 (IntKind.wrap IntKind.i64 (m_all (Int.ofNat m) + Int.ofNat 1))))) (ibits BinOp.or IntKind.i64 (IntKind.wrap IntKind.i64 (Int.tmod (IntKind.wrap IntKind.u64 x3) (IntKind.wrap IntKind.u64 (IntKind.wrap IntKind.i64 (m_all (Int.ofNat m) + Int.ofNat 1))))) (IntKind.wrap IntKind.i64 (Int.tmod (IntKind.wrap IntKind.u64 x4) (IntKind.wrap IntKind.u64 (IntKind.wrap IntKind.i64 (m_all (Int.ofNat m) + Int.ofNat 1)))))))) (ibits BinOp.andNot IntKind.i64 (ibits BinOp.andNot IntKind.i64 (IntKind.wrap IntKind.i64 (Int.tmod (IntKind.wrap IntKind.u64 x1) (IntKind.wrap IntKind.u64 (IntKind.wrap IntKind.i64 (m_all (Int.ofNat m) + Int.ofNat 1))))) (ibits BinOp.or IntKind.i64 (IntKind.wrap IntKind.i64 (Int.tmod (IntKind.wrap IntKind.u64 x3) (IntKind.wrap IntKind.u64 (IntKind.wrap IntKind.i64 (m_all (Int.ofNat m) + Int.ofNat 1))))) (IntKind.wrap IntKind.i64 (Int.tmod (IntKind.wrap IntKind.u64 x4) (IntKind.wrap IntKind.u64 (IntKind.wrap IntKind.i64 (m_all (Int.ofNat m) + Int.ofNat 1))))))) (ibits BinOp.andNot IntKind.i64 (IntKind.wrap IntKind.i64 (Int.tmod (IntKind.wrap IntKind.u64 x0) (IntKind.wrap IntKind.u64 (IntKind.wrap IntKind.i64 (m_all (Int.ofNat m) + Int.ofNat 1))))) (ibits BinOp.or IntKind.i64 (IntKind.wrap IntKind.i64 (Int.tmod (IntKind.wrap IntKind.u64 x3) (IntKind.wrap IntKind.u64 (IntKind.wrap IntKind.i64 (m_all (Int.ofNat m) + Int.ofNat 1))))) (IntKind.wrap IntKind.i64 (Int.tmod (IntKind.wrap IntKind.u64 x4) (IntKind.wrap IntKind.u64 (IntKind.wrap IntKind.i64 (m_all (Int.ofNat m) + Int.ofNat 1))))))))), Value.int IntKind.i64 (IntKind.wrap IntKind.i64 (Int.tmod (IntKind.wrap IntKind.u64 x3) (IntKind.wrap IntKind.u64 (IntKind.wrap IntKind.i64 (m_all (Int.ofNat m) + Int.ofNat 1))))), Value.int IntKind.i64 (IntKind.wrap IntKind.i64 (Int.tmod (IntKind.wrap IntKind.u64 x4) (IntKind.wrap IntKind.u64 (IntKind.wrap IntKind.i64 (m_all (Int.ofNat m) + Int.ofNat 1)))))] 43 0 0), some (AObj.cells g 3 1 1)] else CR.fail 420 else CR.fail 420 else CR.fail 420 else CR.fail 420 else CR.fail 420 else CR.fail 420 else CR.fail 420 else CR.fail 420 else CR.fail 420 else CR.fail 420 else CR.fail 420 else CR.fail 420 else CR.fail 420 else CR.fail 420 else CR.fail 420 else CR.fail 420 else CR.fail 420 else CR.fail 420 else CR.fail 420 else CR.fail 420 else CR.fail 420 else CR.fail 420 else CR.fail 420 else CR.fail 420 else CR.fail 420 else CR.fail 420 else CR.fail 420 else CR.fail 420 else CR.fail 420 else CR.fail 420 else CR.fail 420 else CR.fail 420 else CR.fail 420 else CR.fail 420 else CR.fail 420 else CR.fail 420 else CR.fail 420 else CR.fail 420 else CR.fail 420 else CR.fail 420 else CR.fail 420 else CR.fail 420 else CR.fail 420 else CR.fail 420 else CR.fail 420 else CR.fail 420 := by kernel_rfl

theorem fe0 (r : Mem) (i : Int) (m : Nat) (g : List Value) (x0 x1 x2 x3 x4 : Int) (fs : FnsC) (K : OV → List Nat → OO → CR) (kx : Nat → KS) (kr : KS) : run (SC r) 8167 90 1 Ff_10 fs none (rbK 0 lvFf [] K) kx kr [] (bT lvFf (vF0 m i) .nil) [] (mkA (oF0 g x0 x1 x2 x3 x4)) =
    bif m_nns [Value.int IntKind.i64 x0, Value.int IntKind.i64 x1, Value.int IntKind.i64 x2, Value.int IntKind.i64 x3, Value.int IntKind.i64 x4] && (m_nns g && true) then K [some (Value.int IntKind.i64 (Int.ofNat m)), some (Value.pointer (some (Addr.mk 0 0 none))), some (Value.slice none 0 0), some (Value.slice (some (Addr.mk 1 0 none)) m m), some (Value.int IntKind.i64 (IntKind.wrap IntKind.i64 (i + Int.ofNat 1)))] [] [some (AObj.cells [Value.int IntKind.i64 x0, Value.int IntKind.i64 x1, Value.int IntKind.i64 x2, Value.int IntKind.i64 x3, Value.int IntKind.i64 x4] 43 0 0), some (AObj.cells g 3 1 1)] else CR.fail 420 := by kernel_rfl

theorem fz (r : Mem) (K KR : OV → List Nat → OO → CR) (kx : Nat → KS) : run (SC r) 8167 90 1 Ff_11 (lvlT (SC r) (tcons 14 (e0 (.bool true)) fun _ => none) .nil 1 1) none (rbK 0 [6] [] K) kx (rbK 0 [6] [] KR) [] (bT [] [] .nil) [] (mkA []) =
    KR [some (Value.bool true)] [] [] := by kernel_rfl

end Go.Proofs

/- The law of structures judged: its calls. -/
namespace Go.Num

theorem popN_zero_of : ∀ (f y : Nat), y < 2 ^ f → popN f y = 0 → y = 0
  | 0, y, h, _ => by simpa using h
  | f + 1, y, h, hp => by
    rw [popN_succ] at hp
    have h2 : y / 2 < 2 ^ f := by rw [Nat.pow_succ] at h; omega
    have := popN_zero_of f (y / 2) h2 (by omega)
    omega

end Go.Num
namespace Go.Proofs
open Go Go.Ev Go.Num
set_option linter.unusedVariables false
set_option linter.unusedSimpArgs false
set_option maxRecDepth 100000

theorem zAt2_E (E : List (Nat × Nat)) {j : Nat} (h : j < 2 * E.length) : zAt2 (pcE E) (0 + j) = zE E j := by
  unfold zAt2
  rw [Nat.zero_add, pcE_get E j h]
theorem okL2_E (E : List (Nat × Nat)) (h : E.length ≤ 1000000) : m_okL2 (pcE E) 0 E.length = true := @decide_eq_true _ (Classical.propDecidable _) ⟨h, fun j hj => ⟨_, by rw [Nat.zero_add]; exact pcE_get E j hj⟩⟩
theorem rg_use {x : Int} (h : m_rg x = true) : rng x := @of_decide_eq_true _ (Classical.propDecidable _) h
theorem rg_of {x : Int} (h : rng x) : m_rg x = true := @decide_eq_true _ (Classical.propDecidable _) h
theorem rowE {r : Mem} {b k : Nat} {E : List (Nat × Nat)} (h : rowAt r b k (2 * E.length) (fun j => zAt2 (pcE E) (0 + j))) : rowAt r b k (2 * E.length) (zE E) := fun j hj => by
  have := h j hj
  simp only at this
  rw [this, zAt2_E E hj]
theorem rng_wrap (z : Int) : rng (IntKind.wrap .i64 z) := by
  unfold rng
  simp [IntKind.wrap, IntKind.bits, IntKind.signed]
  omega

theorem eIS1_ok (r : Mem) (hm : Tab r) {m : Nat} (h1 : 1 ≤ m) (hm10 : m ≤ 10) {E : List (Nat × Nat)} (hE : okAll (m : Int) (zE E) E.length = true) (hl : E.length ≤ 1000000) : EOk (SC r) 22 (eIS1 (m : Nat) E.length (pcE E) (stF m E)) := EOk.ent fun args A hg => by
  split at hg
  · rename_i n i k l cap s x0 x1 x2 x3 x4
    split at hg
    · rename_i c' e f z hget
      simp only [Bool.and_eq_true] at hg
      obtain ⟨⟨⟨⟨⟨hs, q0⟩, q1⟩, q2⟩, q3⟩, q4⟩ := hg
      have hs := @of_decide_eq_true _ (Classical.propDecidable _) hs
      simp only [List.cons.injEq, Value.int.injEq, Value.slice.injEq, Option.some.injEq, Addr.mk.injEq, Value.agg.injEq, Array.mk.injEq, and_true, true_and] at hs
      obtain ⟨rfl, ⟨rfl, rfl, rfl⟩, rfl⟩ := hs
      refine POk.of rfl fun γ W args' hw hR ha => ?_
      obtain ⟨b, k', p1, p2, p3⟩ := own_mem hw hR hget (okL2_E E hl) rfl rfl ha
      exact ⟨memW W, _, memW_ro W, p1, fIs_ok (memW W) (memW_tab hm hR) m h1 hm10 E hE hl b k' 0 (rowE p2) s x0 x1 x2 x3 x4 (rg_use q0) (rg_use q1) (rg_use q2) (rg_use q3) (rg_use q4)⟩
    · cases hg
  · cases hg
theorem eIS0_ok (r : Mem) (hm : Tab r) {m : Nat} (h1 : 1 ≤ m) (hm10 : m ≤ 10) : EOk (SC r) 22 (eIS0 (m : Nat) (stF m [])) := EOk.ent fun args A hg => by
  split at hg
  · rename_i n s x0 x1 x2 x3 x4
    simp only [Bool.and_eq_true] at hg
    obtain ⟨⟨⟨⟨⟨hs, q0⟩, q1⟩, q2⟩, q3⟩, q4⟩ := hg
    have hs := @of_decide_eq_true _ (Classical.propDecidable _) hs
    simp only [List.cons.injEq, Value.int.injEq, and_true, true_and] at hs
    subst hs
    exact (fIsN_ok r hm m h1 hm10 s x0 x1 x2 x3 x4 (rg_use q0) (rg_use q1) (rg_use q2) (rg_use q3) (rg_use q4)).ro rfl A
  · cases hg

/-- The words' row of the caller's, as memory. -/
theorem own_ws {r : Mem} {γ : Gam} {A : AW} {W : World} (hw : WRel γ A W) (hR : Ro r γ W) {i m : Nat} (hm : m ≤ 16) {ws : List Nat} (hlw : ws.length = m) {e f z : Nat} (hget : A.heap.get i = some (.cells (m_ws ws) e f z)) {l : List Value} (hl : gnds l = true) {args' : Array Value} (ha : VsRel γ (.slice (some ⟨i, 0, none⟩) m m :: l) args'.toList) :
    ∃ b k', VsRel noG (RS b k' m 0 :: l) args'.toList ∧ ∀ k, k < m → memW W b (k' + k) = some (I (ws.getD k 0 : Nat)) := by
  obtain ⟨la⟩ := args'
  cases ha with
  | cons hv hrest =>
  obtain ⟨b, k', c', rfl, hrd⟩ := rd_world hw hR hv (natFK2 (by unfold unkE; omega))
  refine ⟨b, k', .cons (.sliceRo _ _ _ _ _ _ (by decide) (Nat.zero_le _)) ?_, fun j hj => ?_⟩
  · rw [hrest.eq_of_gnds hl]
    exact VsRel.of_gnds noG l hl
  · refine hrd j _ ?_ rfl
    simp only [AW.rd, AW.cell, hget]
    have := ws_get (ws := ws) (k := j) (by omega)
    rw [Nat.mul_eq, Nat.mul_one, Nat.add_eq] at this
    exact this

theorem eRI_ok (r : Mem) {m : Nat} (hm10 : m ≤ 10) {E : List (Nat × Nat)} (hE : okAll (m : Int) (zE E) E.length = true) : EOk (SC r) 21 (eRI m (m_ws (nbN m (zE E) E.length)) (stF m E)) := EOk.ent fun args A hg => by
  split at hg
  · rename_i i k l cap s x0 x1 x2 x3 x4
    split at hg
    · rename_i c' e f z hget
      have hs := @of_decide_eq_true _ (Classical.propDecidable _) hg
      simp only [List.cons.injEq, Value.slice.injEq, Option.some.injEq, Addr.mk.injEq, Value.agg.injEq, Array.mk.injEq, and_true, true_and] at hs
      obtain ⟨⟨rfl, rfl, rfl⟩, rfl⟩ := hs
      refine POk.of rfl fun γ W args' hw hR ha => ?_
      obtain ⟨b, k', p1, p2⟩ := own_ws hw hR (by omega) (nbN_len cap (zE E) E.length) hget rfl ha
      have h3 := okAll_at hE
      have hlt := nbN_lt cap (zE E) (n := (cap : Int)) (by omega) E.length fun i hi => h3 i hi
      have := rstr_ok (memW W) b k' cap 0 hm10 (fun k => (nbN cap (zE E) E.length).getD k 0) p2 (fun k _ => getD_lt hlt k) s x0 x1 x2 x3 x4
      refine ⟨memW W, _, memW_ro W, p1, ?_⟩
      show GrT _ _ _ _ (.bool (stF cap E s x0 x1 x2 x3 x4))
      unfold stF
      rw [stI_congr (q' := fun s => quN (fun k => (nbN cap (zE E) E.length).getD k 0) s cap) fun t ht => by
        have := quN_cut (w := fun i => (nbN 10 (zE E) E.length).getD i 0) (w' := fun k => (nbN cap (zE E) E.length).getD k 0) ht (fun i hi => nb_ext hm10 (zE E) E.length (fun i hi => h3 i hi) i hi) (10 - cap)
        rwa [show cap + (10 - cap) = 10 by omega] at this]
      exact this
    · cases hg
  · cases hg
theorem eAl_ok (r : Mem) {m : Nat} (hm : m ≤ 16) : EOk (SC r) 10 (eAl m) := EOk.ent fun args A hg => by
  split at hg
  · rename_i i k l cap
    simp only [Bool.and_eq_true] at hg
    have hs := @of_decide_eq_true _ (Classical.propDecidable _) hg.1
    simp only [List.cons.injEq, Value.slice.injEq, Option.some.injEq, Addr.mk.injEq, and_true, true_and] at hs
    obtain ⟨rfl, rfl, rfl⟩ := hs
    refine POk.of rfl fun γ W args' hw hR ha => ?_
    obtain ⟨la⟩ := args'
    cases ha with
    | cons hv hrest =>
    cases hrest
    obtain ⟨b, k', c', rfl, hrd⟩ := rd_world hw hR hv (natFK2 (by unfold unkE; omega))
    exact ⟨memW W, _, memW_ro W, .cons (.sliceRo b k' 0 cap 0 c' (by decide) (Nat.zero_le _)) .nil, rall_ok (memW W) b k' cap 0 hm⟩
  · cases hg

theorem ofV_row {m : Nat} (h : m ≤ 16) : ofV 0 (.slice (some ⟨0, 0, none⟩) m m) = true := by simp [ofV, of1]
theorem eOf1_ok (r : Mem) {m : Nat} (h1 : 1 ≤ m) (hm10 : m ≤ 10) {E : List (Nat × Nat)} (hE : okAll (m : Int) (zE E) E.length = true) (hl : E.length ≤ 1000000) : EOk (SC r) 8 (eOf1 m E.length (pcE E) (m_ws (nbN m (zE E) E.length))) := fun args A hgd F hF k γ W args' hw hR ha => by
  refine ⟨fun hcc => ?_, fun h => nomatch h⟩
  clear hcc
  dsimp only [eOf1] at hgd ⊢
  split at hgd
  · rename_i n i k0 l cap
    split at hgd
    · rename_i c' e f z hget
      have hs := @of_decide_eq_true _ (Classical.propDecidable _) hgd
      simp only [List.cons.injEq, Value.int.injEq, Value.slice.injEq, Option.some.injEq, Addr.mk.injEq, Value.agg.injEq, Array.mk.injEq, and_true, true_and] at hs
      obtain ⟨rfl, ⟨rfl, rfl, rfl⟩, rfl⟩ := hs
      obtain ⟨b, k', p1, p2, p3⟩ := own_mem hw hR hget (okL2_E E hl) rfl rfl ha
      have h := of_ok (memW W) m h1 (by omega) b k' E.length 0 _ (rowE p2) p3 hE
      exact h.ends (γ := γ) (A := A) (ofV_row (by omega)) (ws_gnd _) hF hw (memW_ro W) p1 ha
    · cases hgd
  · cases hgd

theorem oN1 : (lvlT (SC fun _ _ => none) (fun _ => none) .nil 20 3).call 8 [I 1, .slice none 0 0] emptyA finM = .ret (.slice (some ⟨0, 0, none⟩) 1 1) (rowA (m_ws (List.replicate 1 0)) 3 1) := by kernel_rfl
theorem oN2 : (lvlT (SC fun _ _ => none) (fun _ => none) .nil 20 3).call 8 [I 2, .slice none 0 0] emptyA finM = .ret (.slice (some ⟨0, 0, none⟩) 2 2) (rowA (m_ws (List.replicate 2 0)) 3 1) := by kernel_rfl
theorem oN3 : (lvlT (SC fun _ _ => none) (fun _ => none) .nil 20 3).call 8 [I 3, .slice none 0 0] emptyA finM = .ret (.slice (some ⟨0, 0, none⟩) 3 3) (rowA (m_ws (List.replicate 3 0)) 3 1) := by kernel_rfl
theorem oN4 : (lvlT (SC fun _ _ => none) (fun _ => none) .nil 20 3).call 8 [I 4, .slice none 0 0] emptyA finM = .ret (.slice (some ⟨0, 0, none⟩) 4 4) (rowA (m_ws (List.replicate 4 0)) 3 1) := by kernel_rfl
theorem oN5 : (lvlT (SC fun _ _ => none) (fun _ => none) .nil 20 3).call 8 [I 5, .slice none 0 0] emptyA finM = .ret (.slice (some ⟨0, 0, none⟩) 5 5) (rowA (m_ws (List.replicate 5 0)) 3 1) := by kernel_rfl
theorem oN6 : (lvlT (SC fun _ _ => none) (fun _ => none) .nil 20 3).call 8 [I 6, .slice none 0 0] emptyA finM = .ret (.slice (some ⟨0, 0, none⟩) 6 6) (rowA (m_ws (List.replicate 6 0)) 3 1) := by kernel_rfl
theorem oN7 : (lvlT (SC fun _ _ => none) (fun _ => none) .nil 20 3).call 8 [I 7, .slice none 0 0] emptyA finM = .ret (.slice (some ⟨0, 0, none⟩) 7 7) (rowA (m_ws (List.replicate 7 0)) 3 1) := by kernel_rfl
theorem oN8 : (lvlT (SC fun _ _ => none) (fun _ => none) .nil 20 3).call 8 [I 8, .slice none 0 0] emptyA finM = .ret (.slice (some ⟨0, 0, none⟩) 8 8) (rowA (m_ws (List.replicate 8 0)) 3 1) := by kernel_rfl
theorem oN9 : (lvlT (SC fun _ _ => none) (fun _ => none) .nil 20 3).call 8 [I 9, .slice none 0 0] emptyA finM = .ret (.slice (some ⟨0, 0, none⟩) 9 9) (rowA (m_ws (List.replicate 9 0)) 3 1) := by kernel_rfl
theorem oN10 : (lvlT (SC fun _ _ => none) (fun _ => none) .nil 20 3).call 8 [I 10, .slice none 0 0] emptyA finM = .ret (.slice (some ⟨0, 0, none⟩) 10 10) (rowA (m_ws (List.replicate 10 0)) 3 1) := by kernel_rfl
theorem ofN_ok {m : Nat} (h1 : 1 ≤ m) (h2 : m ≤ 10) : GrM Tryd.prog (fun _ _ => none) 8 [I (m : Nat), .slice none 0 0] (.slice (some ⟨0, 0, none⟩) m m) (rowA (m_ws (nbN m (zE []) 0)) 3 1) := by
  have : m = 1 ∨ m = 2 ∨ m = 3 ∨ m = 4 ∨ m = 5 ∨ m = 6 ∨ m = 7 ∨ m = 8 ∨ m = 9 ∨ m = 10 := by omega
  rcases this with rfl | rfl | rfl | rfl | rfl | rfl | rfl | rfl | rfl | rfl
  · exact GrM.of (SC_ok fun _ _ => none) TOk.nil .nil ⟨20, 3, oN1⟩
  · exact GrM.of (SC_ok fun _ _ => none) TOk.nil .nil ⟨20, 3, oN2⟩
  · exact GrM.of (SC_ok fun _ _ => none) TOk.nil .nil ⟨20, 3, oN3⟩
  · exact GrM.of (SC_ok fun _ _ => none) TOk.nil .nil ⟨20, 3, oN4⟩
  · exact GrM.of (SC_ok fun _ _ => none) TOk.nil .nil ⟨20, 3, oN5⟩
  · exact GrM.of (SC_ok fun _ _ => none) TOk.nil .nil ⟨20, 3, oN6⟩
  · exact GrM.of (SC_ok fun _ _ => none) TOk.nil .nil ⟨20, 3, oN7⟩
  · exact GrM.of (SC_ok fun _ _ => none) TOk.nil .nil ⟨20, 3, oN8⟩
  · exact GrM.of (SC_ok fun _ _ => none) TOk.nil .nil ⟨20, 3, oN9⟩
  · exact GrM.of (SC_ok fun _ _ => none) TOk.nil .nil ⟨20, 3, oN10⟩
theorem eOf0_ok (r : Mem) {m : Nat} (h1 : 1 ≤ m) (hm10 : m ≤ 10) : EOk (SC r) 8 (eOf0 m (m_ws (nbN m (zE []) 0))) := fun args A hgd F hF k γ W args' hw hR ha => by
  refine ⟨fun hcc => ?_, fun h => nomatch h⟩
  have hs := @of_decide_eq_true _ (Classical.propDecidable _) hgd
  subst hs
  have := (ofN_ok h1 hm10).ends (args := [I (m : Nat), .slice none 0 0]) (γ := γ) (A := A) (ofV_row (by omega)) (ws_gnd _) hF hw (fun b j u h => nomatch h) (k := k) (args' := args') ?_ ha
  · exact this
  · rw [ha.eq_of_gnds rfl]
    exact VsRel.of_gnds noG _ rfl
theorem eTm1_ok (r : Mem) {a0 : List Value} (hro : roVs a0 = true) {m : Nat} {p : Nat × Nat} {l : List (Nat × Nat)} (h : SOk (SC r) 7 a0 emptyA fun v A => v = vTa m (p :: l) ∧ A = mkA (oL (p :: l))) : EOk (SC r) 7 (eTm1 a0 m (l.length + 1) (pcE (p :: l))) := fun args A hgd F hF k γ W args' hw hR ha => by
  refine ⟨fun hcc => ?_, fun h => nomatch h⟩
  have hs := @of_decide_eq_true _ (Classical.propDecidable _) hgd
  subst hs
  have hg : GrM Tryd.prog r 7 args (vTa m (p :: l)) (rowA (pcE (p :: l)) 49 2) := GrM.ofS (C := SC r) rfl rfl h
  have hof : ofV 0 (vTa m (p :: l)) = true := by simp [vTa, vL, ofV, of1, gnd]
  exact hg.ends (γ := γ) (A := A) hof (pcE_gnd _) hF hw (hR.noG noG fun _ => rfl) (ha.of_ros hro) ha
theorem tm0_ok (r : Mem) {a0 : List Value} {m : Nat} (h : SOk (SC r) 7 a0 emptyA fun v A => v = vTa m [] ∧ A = mkA (oL [])) : GrT Tryd.prog r 7 a0 (.tuple ⟨[I (m : Nat), .slice none 0 0]⟩) :=
  GrT.ofS (C := SC r) rfl rfl rfl fun F hF k γ W args' hw hR ha => (h F hF k γ W args' hw hR ha).mono fun e W' ⟨u, B, ⟨h, _⟩, he⟩ => ⟨u, B, h, he⟩

theorem st0 {m : Nat} (hm : m ≤ 10) (E : List (Nat × Nat)) (x0 x1 x2 x3 x4 : Int) : stF m E 0 x0 x1 x2 x3 x4 = false := by
  have hA : 2 ^ m ≤ 1024 := Nat.pow_le_pow_right (n := 2) (by decide) hm
  cases h : stF m E 0 x0 x1 x2 x3 x4 with
  | false => rfl
  | true =>
    exfalso
    unfold stF stI stN at h
    simp only [Bool.and_eq_true, decide_eq_true_eq, Bool.not_eq_true'] at h
    obtain ⟨_, ⟨⟨⟨⟨⟨⟨⟨_, hp⟩, h3⟩, _⟩, h34⟩, _⟩, _⟩, _⟩, _⟩ := h
    have hy := an_lt (b := x0.toNat ||| x1.toNat ||| x2.toNat) (all_lt m)
    have hz := popN_zero_of 16 _ (show anN (2 ^ m - 1) (x0.toNat ||| x1.toNat ||| x2.toNat) < 2 ^ 16 by omega) (by omega)
    rw [hz] at h34
    have h5 : anN x3.toNat 0 = 0 := by simpa using h34
    rw [an_zero, Nat.and_zero] at h5
    rw [← h5] at h3
    cases h3

end Go.Proofs

/- The law of covers, run. -/
namespace Go.Proofs
open Go Go.Ev Go.Num
set_option linter.unusedVariables false
set_option linter.unusedSimpArgs false
set_option maxRecDepth 100000

noncomputable def eQ1 (m : Int) (len : Nat) (c : List Value) (qb : Int → Bool) (qe : Int → Int) : Ent := ent
  (fun args A => match args with
    | [.int .i64 n, .slice (some ⟨i, k, none⟩) l cap, .int .i64 _] => match A.heap.get i with
      | some (.cells c' _ _ _) => m_same [.int .i64 n, .slice (some ⟨0, k, none⟩) l cap, .agg ⟨c'⟩] [.int .i64 m, .slice (some ⟨0, 0, none⟩) len unk, .agg ⟨c⟩]
      | _ => false
    | _ => false)
  (fun args _ => match args with
    | [_, _, .int .i64 s] => .tuple ⟨[.bool (qb s), I (qe s)]⟩
    | _ => undef)
noncomputable def eQ0 (m : Int) (qb : Int → Bool) (qe : Int → Int) : Ent := ent
  (fun args A => match args with
    | [.int .i64 n, .slice none 0 0, .int .i64 _] => m_same [.int .i64 n] [.int .i64 m]
    | _ => false)
  (fun args _ => match args with
    | [_, _, .int .i64 s] => .tuple ⟨[.bool (qb s), I (qe s)]⟩
    | _ => undef)
noncomputable def eC1 (m : Int) (len : Nat) (c : List Value) (cv : Int) : Ent := ent
  (fun args A => match args with
    | [.int .i64 n, .slice (some ⟨i, k, none⟩) l cap] => match A.heap.get i with
      | some (.cells c' _ _ _) => m_same [.int .i64 n, .slice (some ⟨0, k, none⟩) l cap, .agg ⟨c'⟩] [.int .i64 m, .slice (some ⟨0, 0, none⟩) len unk, .agg ⟨c⟩]
      | _ => false
    | _ => false)
  (fun _ _ => .tuple ⟨[I cv, I 0]⟩)
noncomputable def eQo (m : Nat) (g : List Value) (qb : Int → Bool) : Ent := ent
  (fun args A => match args with
    | [.slice (some ⟨i, k, none⟩) l cap, .int .i64 s] => match A.heap.get i with
      | some (.cells c' _ _ _) => m_same [.slice (some ⟨0, k, none⟩) l cap, .agg ⟨c'⟩] [.slice (some ⟨0, 0, none⟩) m m, .agg ⟨g⟩] && (!decide (s < 0) && !decide (s > m_all (m : Nat)))
      | _ => false
    | _ => false)
  (fun args _ => match args with
    | [_, .int .i64 s] => .bool (qb s)
    | _ => undef)
noncomputable def eCo (m : Nat) (g : List Value) (cv : Int) : Ent := ent
  (fun args A => match args with
    | [.slice (some ⟨i, k, none⟩) l cap] => match A.heap.get i with
      | some (.cells c' _ _ _) => m_same [.slice (some ⟨0, k, none⟩) l cap, .agg ⟨c'⟩] [.slice (some ⟨0, 0, none⟩) m m, .agg ⟨g⟩]
      | _ => false
    | _ => false)
  (fun _ _ => I cv)
noncomputable def tFc1 (a0 : List Value) (m len : Nat) (c g : List Value) (qb : Int → Bool) (qe : Int → Int) (cv : Int) : Tbl := tcons 14 (e0 (.bool true)) (tcons 7 (eTm1 a0 m len c) (tcons 8 (eOf1 m len c g) (tcons 9 (eQ1 (m : Nat) len c qb qe) (tcons 12 (eC1 (m : Nat) len c cv) (tcons 11 (eQo m g qb) (tcons 13 (eCo m g cv) (tcons 10 (eAl m) fun _ => none)))))))
noncomputable def tFc0 (a0 : List Value) (m : Nat) (g : List Value) (qb : Int → Bool) (qe : Int → Int) (cv : Int) : Tbl := tcons 14 (e0 (.bool true)) (tcons 7 (entV a0 (.tuple ⟨[I (m : Nat), .slice none 0 0]⟩)) (tcons 8 (eOf0 m g) (tcons 9 (eQ0 (m : Nat) qb qe) (tcons 12 (entV [I (m : Nat), .slice none 0 0] (.tuple ⟨[I cv, I 0]⟩)) (tcons 11 (eQo m g qb) (tcons 13 (eCo m g cv) (tcons 10 (eAl m) fun _ => none)))))))
noncomputable def cFc : Code := bodyOf S0 3
noncomputable def Fc_0 : Code := (lc cFc)
noncomputable def Fc_1 : Code := (lc (rc cFc))
noncomputable def Fc_2 : Code := (lc (rc (rc cFc)))
noncomputable def Fc_3 : Code := (lc (lc (rc (rc (rc cFc)))))
noncomputable def Fc_4 : Code := (ic (ic (rc (lc (rc (rc (rc cFc)))))))
noncomputable def Fc_5 : Code := (rc (rc (rc (rc cFc))))
theorem Fc_eq : cFc = (.seq Fc_0 (.seq Fc_1 (.seq Fc_2 (.seq (.seq Fc_3 (.block 0 (.loop Fc_4))) Fc_5)))) := by kernel_rfl
def lvFc : List Nat := [0, 2, 7, 8, 9]
def vC1 (m len : Nat) (set i : Int) : OV := [some (I (m : Nat)), some (I set), some (.slice (some ⟨0, 0, none⟩) len unk), some (.slice (some ⟨1, 0, none⟩) m m), some (I i)]
def vC0 (m : Nat) (set i : Int) : OV := [some (I (m : Nat)), some (I set), some (.slice none 0 0), some (.slice (some ⟨0, 0, none⟩) m m), some (I i)]
def oC1 (c g : List Value) : OO := [some (.cells c 49 0 2), some (.cells g 3 1 1)]
def oC0 (g : List Value) : OO := [some (.cells g 3 0 1)]
noncomputable def tCv (n : Int) (sl : Value) (l : List Value) (f : Int) : Tbl := tcons 24 (entV [I n, sl] (.tuple ⟨[.agg ⟨I n :: l⟩, I 0]⟩)) (tcons 27 (entV [.agg ⟨I n :: l⟩] (U f)) fun _ => none)

theorem cvR (r : Mem) (n f : Int) (b off len cap : Nat) (w0 w1 w2 w3 w4 w5 w6 w7 w8 w9 : Int) : (lvlT (SC r) (tCv n (RS2 b off len cap) [U w0, U w1, U w2, U w3, U w4, U w5, U w6, U w7, U w8, U w9] f) .nil 1 3).call 12 [I n, RS2 b off len cap] emptyA fin =
    bif m_same [Value.int IntKind.i64 n, Value.slice (some (Addr.mk b off (some 0))) len cap] [Value.int IntKind.i64 n, Value.slice (some (Addr.mk b off (some 0))) len cap] then bif m_same [Value.agg (Array.mk [Value.int IntKind.i64 n, Value.int IntKind.u64 w0, Value.int IntKind.u64 w1, Value.int IntKind.u64 w2, Value.int IntKind.u64 w3, Value.int IntKind.u64 w4, Value.int IntKind.u64 w5, Value.int IntKind.u64 w6, Value.int IntKind.u64 w7, Value.int IntKind.u64 w8, Value.int IntKind.u64 w9])] [Value.agg (Array.mk [Value.int IntKind.i64 n, Value.int IntKind.u64 w0, Value.int IntKind.u64 w1, Value.int IntKind.u64 w2, Value.int IntKind.u64 w3, Value.int IntKind.u64 w4, Value.int IntKind.u64 w5, Value.int IntKind.u64 w6, Value.int IntKind.u64 w7, Value.int IntKind.u64 w8, Value.int IntKind.u64 w9])] then CR.ret (Value.tuple (Array.mk [Value.int IntKind.i64 (IntKind.wrap IntKind.i64 f), Value.int IntKind.i64 (Int.ofNat 0)])) (AW.mk 0 Tr.nil Tr.nil) else CR.fail 420 else CR.fail 420 := by kernel_rfl

theorem cvZ (r : Mem) (n f : Int) (w0 w1 w2 w3 w4 w5 w6 w7 w8 w9 : Int) : (lvlT (SC r) (tCv n (.slice none 0 0) [U w0, U w1, U w2, U w3, U w4, U w5, U w6, U w7, U w8, U w9] f) .nil 1 3).call 12 [I n, .slice none 0 0] emptyA fin =
    bif m_same [Value.int IntKind.i64 n, Value.slice none 0 0] [Value.int IntKind.i64 n, Value.slice none 0 0] then bif m_same [Value.agg (Array.mk [Value.int IntKind.i64 n, Value.int IntKind.u64 w0, Value.int IntKind.u64 w1, Value.int IntKind.u64 w2, Value.int IntKind.u64 w3, Value.int IntKind.u64 w4, Value.int IntKind.u64 w5, Value.int IntKind.u64 w6, Value.int IntKind.u64 w7, Value.int IntKind.u64 w8, Value.int IntKind.u64 w9])] [Value.agg (Array.mk [Value.int IntKind.i64 n, Value.int IntKind.u64 w0, Value.int IntKind.u64 w1, Value.int IntKind.u64 w2, Value.int IntKind.u64 w3, Value.int IntKind.u64 w4, Value.int IntKind.u64 w5, Value.int IntKind.u64 w6, Value.int IntKind.u64 w7, Value.int IntKind.u64 w8, Value.int IntKind.u64 w9])] then CR.ret (Value.tuple (Array.mk [Value.int IntKind.i64 (IntKind.wrap IntKind.i64 f), Value.int IntKind.i64 (Int.ofNat 0)])) (AW.mk 0 Tr.nil Tr.nil) else CR.fail 420 else CR.fail 420 := by kernel_rfl

theorem gpR1 (r : Mem) (n set : Int) (b off len cap : Nat) (m k : Nat) (c g : List Value) (qb : Int → Bool) (qe : Int → Int) (cv : Int) (K : OV → List Nat → OO → CR) (kx : Nat → KS) (kr : KS) : run (SC r) 16327 81 1 (.seq Fc_0 (.seq Fc_1 (.seq Fc_2 Fc_3))) (lvlT (SC r) (tFc1 [I n, RS2 b off len cap, I 10] m k c g qb qe cv) .nil 1 1) none (rbK 0 lvFc [] K) kx kr (sc0 16327 [I n, RS2 b off len cap, I set]) (tr0 16327 [I n, RS2 b off len cap, I set]) [] emptyA =
    bif m_same [Value.int IntKind.i64 n, Value.slice (some (Addr.mk b off (some 0))) len cap, Value.int IntKind.i64 (Int.ofNat 10)] [Value.int IntKind.i64 n, Value.slice (some (Addr.mk b off (some 0))) len cap, Value.int IntKind.i64 (Int.ofNat 10)] then bif m_same [Value.int IntKind.i64 (Int.ofNat m), Value.slice (some (Addr.mk 0 0 none)) k 9223372036854775808, Value.agg (Array.mk c)] [Value.int IntKind.i64 (Int.ofNat m), Value.slice (some (Addr.mk 0 0 none)) k 9223372036854775808, Value.agg (Array.mk c)] then bif m_nns c && (m_nns g && true) then K [some (Value.int IntKind.i64 (Int.ofNat m)), some (Value.int IntKind.i64 set), some (Value.slice (some (Addr.mk 0 0 none)) k 9223372036854775808), some (Value.slice (some (Addr.mk 1 0 none)) m m), some (Value.int IntKind.i64 (Int.ofNat 0))] [] [some (AObj.cells c 49 0 2), some (AObj.cells g 3 1 1)] else CR.fail 420 else CR.fail 420 else CR.fail 420 := by kernel_rfl

theorem gpR0 (r : Mem) (n set : Int) (b off len cap : Nat) (m : Nat) (g : List Value) (qb : Int → Bool) (qe : Int → Int) (cv : Int) (K : OV → List Nat → OO → CR) (kx : Nat → KS) (kr : KS) : run (SC r) 16327 81 1 (.seq Fc_0 (.seq Fc_1 (.seq Fc_2 Fc_3))) (lvlT (SC r) (tFc0 [I n, RS2 b off len cap, I 10] m g qb qe cv) .nil 1 1) none (rbK 0 lvFc [] K) kx kr (sc0 16327 [I n, RS2 b off len cap, I set]) (tr0 16327 [I n, RS2 b off len cap, I set]) [] emptyA =
    bif m_same [Value.int IntKind.i64 n, Value.slice (some (Addr.mk b off (some 0))) len cap, Value.int IntKind.i64 (Int.ofNat 10)] [Value.int IntKind.i64 n, Value.slice (some (Addr.mk b off (some 0))) len cap, Value.int IntKind.i64 (Int.ofNat 10)] then bif m_same [Value.int IntKind.i64 (Int.ofNat m), Value.slice none 0 0] [Value.int IntKind.i64 (Int.ofNat m), Value.slice none 0 0] then bif m_nns g && true then K [some (Value.int IntKind.i64 (Int.ofNat m)), some (Value.int IntKind.i64 set), some (Value.slice none 0 0), some (Value.slice (some (Addr.mk 0 0 none)) m m), some (Value.int IntKind.i64 (Int.ofNat 0))] [] [some (AObj.cells g 3 0 1)] else CR.fail 420 else CR.fail 420 else CR.fail 420 := by kernel_rfl

theorem gpN1 (r : Mem) (n set : Int) (m k : Nat) (c g : List Value) (qb : Int → Bool) (qe : Int → Int) (cv : Int) (K : OV → List Nat → OO → CR) (kx : Nat → KS) (kr : KS) : run (SC r) 16327 81 1 (.seq Fc_0 (.seq Fc_1 (.seq Fc_2 Fc_3))) (lvlT (SC r) (tFc1 [I n, .slice none 0 0, I 10] m k c g qb qe cv) .nil 1 1) none (rbK 0 lvFc [] K) kx kr (sc0 16327 [I n, .slice none 0 0, I set]) (tr0 16327 [I n, .slice none 0 0, I set]) [] emptyA =
    bif m_same [Value.int IntKind.i64 n, Value.slice none 0 0, Value.int IntKind.i64 (Int.ofNat 10)] [Value.int IntKind.i64 n, Value.slice none 0 0, Value.int IntKind.i64 (Int.ofNat 10)] then bif m_same [Value.int IntKind.i64 (Int.ofNat m), Value.slice (some (Addr.mk 0 0 none)) k 9223372036854775808, Value.agg (Array.mk c)] [Value.int IntKind.i64 (Int.ofNat m), Value.slice (some (Addr.mk 0 0 none)) k 9223372036854775808, Value.agg (Array.mk c)] then bif m_nns c && (m_nns g && true) then K [some (Value.int IntKind.i64 (Int.ofNat m)), some (Value.int IntKind.i64 set), some (Value.slice (some (Addr.mk 0 0 none)) k 9223372036854775808), some (Value.slice (some (Addr.mk 1 0 none)) m m), some (Value.int IntKind.i64 (Int.ofNat 0))] [] [some (AObj.cells c 49 0 2), some (AObj.cells g 3 1 1)] else CR.fail 420 else CR.fail 420 else CR.fail 420 := by kernel_rfl

theorem gpN0 (r : Mem) (n set : Int) (m : Nat) (g : List Value) (qb : Int → Bool) (qe : Int → Int) (cv : Int) (K : OV → List Nat → OO → CR) (kx : Nat → KS) (kr : KS) : run (SC r) 16327 81 1 (.seq Fc_0 (.seq Fc_1 (.seq Fc_2 Fc_3))) (lvlT (SC r) (tFc0 [I n, .slice none 0 0, I 10] m g qb qe cv) .nil 1 1) none (rbK 0 lvFc [] K) kx kr (sc0 16327 [I n, .slice none 0 0, I set]) (tr0 16327 [I n, .slice none 0 0, I set]) [] emptyA =
    bif m_same [Value.int IntKind.i64 n, Value.slice none 0 0, Value.int IntKind.i64 (Int.ofNat 10)] [Value.int IntKind.i64 n, Value.slice none 0 0, Value.int IntKind.i64 (Int.ofNat 10)] then bif m_same [Value.int IntKind.i64 (Int.ofNat m), Value.slice none 0 0] [Value.int IntKind.i64 (Int.ofNat m), Value.slice none 0 0] then bif m_nns g && true then K [some (Value.int IntKind.i64 (Int.ofNat m)), some (Value.int IntKind.i64 set), some (Value.slice none 0 0), some (Value.slice (some (Addr.mk 0 0 none)) m m), some (Value.int IntKind.i64 (Int.ofNat 0))] [] [some (AObj.cells g 3 0 1)] else CR.fail 420 else CR.fail 420 else CR.fail 420 := by kernel_rfl

theorem gc1 (r : Mem) (a0 : List Value) (i set : Int) (m k : Nat) (c g : List Value) (qb : Int → Bool) (qe : Int → Int) (cv : Int) (K : OV → List Nat → OO → CR) (KX : Nat → OV → List Nat → OO → CR) (KR : OV → List Nat → OO → CR) : run (SC r) 16327 81 1 Fc_4 (lvlT (SC r) (tFc1 a0 m k c g qb qe cv) .nil 1 1) none (rbK 0 lvFc [] K) (fun i => rbK 0 lvFc [] (KX i)) (rbK 0 [6] [] KR) [] (bT lvFc (vC1 m k set i) .nil) [] (mkA (oC1 c g)) =
    bif decide (i < 2) then bif m_same [Value.int IntKind.i64 (Int.ofNat m), Value.slice (some (Addr.mk 0 0 none)) k 9223372036854775808, Value.agg (Array.mk c)] [Value.int IntKind.i64 (Int.ofNat m), Value.slice (some (Addr.mk 0 0 none)) k 9223372036854775808, Value.agg (Array.mk c)] then bif qb set then bif decide (set < 0) then bif qe set != Int.ofNat 1 then KR [some (Value.bool false)] [] [] else KR [some (Value.bool false)] [] [] else bif m_same [Value.slice (some (Addr.mk 0 0 none)) m m] [Value.slice (some (Addr.mk 0 0 none)) m m] && true then bif decide (set > m_all (Int.ofNat m)) then bif qe set != Int.ofNat 1 then KR [some (Value.bool false)] [] [] else KR [some (Value.bool false)] [] [] else bif qe set != Int.ofNat 0 then KR [some (Value.bool false)] [] [] else bif m_same [Value.slice (some (Addr.mk 0 0 none)) m m, Value.agg (Array.mk g)] [Value.slice (some (Addr.mk 0 0 none)) m m, Value.agg (Array.mk g)] && (!decide (set < 0) && !decide (set > m_all (Int.ofNat m))) then bif qb set then bif m_same [Value.slice (some (Addr.mk 0 0 none)) m m] [Value.slice (some (Addr.mk 0 0 none)) m m] && true then bif !decide (IntKind.wrap IntKind.u64 (IntKind.wrap IntKind.i64 (m_all (Int.ofNat m) + Int.ofNat 1)) = 0) then bif m_nns c && (m_nns g && true) then K [some (Value.int IntKind.i64 (Int.ofNat m)), some (Value.int IntKind.i64 (IntKind.wrap IntKind.i64 (Int.tmod (IntKind.wrap IntKind.u64 set) (IntKind.wrap IntKind.u64 (IntKind.wrap IntKind.i64 (m_all (Int.ofNat m) + Int.ofNat 1)))))), some (Value.slice (some (Addr.mk 0 0 none)) k 9223372036854775808), some (Value.slice (some (Addr.mk 1 0 none)) m m), some (Value.int IntKind.i64 (IntKind.wrap IntKind.i64 (i + Int.ofNat 1)))] [] [some (AObj.cells c 49 0 2), some (AObj.cells g 3 1 1)] else CR.fail 420 else CR.fail 420 else CR.fail 420 else KR [some (Value.bool false)] [] [] else CR.fail 420 else CR.fail 420 else bif decide (set < 0) then bif qe set != Int.ofNat 1 then KR [some (Value.bool false)] [] [] else bif m_same [Value.slice (some (Addr.mk 0 0 none)) m m] [Value.slice (some (Addr.mk 0 0 none)) m m] && true then bif !decide (IntKind.wrap IntKind.u64 (IntKind.wrap IntKind.i64 (m_all (Int.ofNat m) + Int.ofNat 1)) = 0) then bif m_nns c && (m_nns g && true) then K [some (Value.int IntKind.i64 (Int.ofNat m)), some (Value.int IntKind.i64 (IntKind.wrap IntKind.i64 (Int.tmod (IntKind.wrap IntKind.u64 set) (IntKind.wrap IntKind.u64 (IntKind.wrap IntKind.i64 (m_all (Int.ofNat m) + Int.ofNat 1)))))), some (Value.slice (some (Addr.mk 0 0 none)) k 9223372036854775808), some (Value.slice (some (Addr.mk 1 0 none)) m m), some (Value.int IntKind.i64 (IntKind.wrap IntKind.i64 (i + Int.ofNat 1)))] [] [some (AObj.cells c 49 0 2), some (AObj.cells g 3 1 1)] else CR.fail 420 else CR.fail 420 else CR.fail 420 else bif m_same [Value.slice (some (Addr.mk 0 0 none)) m m] [Value.slice (some (Addr.mk 0 0 none)) m m] && true then bif decide (set > m_all (Int.ofNat m)) then bif qe set != Int.ofNat 1 then KR [some (Value.bool false)] [] [] else bif m_same [Value.slice (some (Addr.mk 0 0 none)) m m] [Value.slice (some (Addr.mk 0 0 none)) m m] && true then bif !decide (IntKind.wrap IntKind.u64 (IntKind.wrap IntKind.i64 (m_all (Int.ofNat m) + Int.ofNat 1)) = 0) then bif m_nns c && (m_nns g && true) then K [some (Value.int IntKind.i64 (Int.ofNat m)), some (Value.int IntKind.i64 (IntKind.wrap IntKind.i64 (Int.tmod (IntKind.wrap IntKind.u64 set) (IntKind.wrap IntKind.u64 (IntKind.wrap IntKind.i64 (m_all (Int.ofNat m) + Int.ofNat 1)))))), some (Value.slice (some (Addr.mk 0 0 none)) k 9223372036854775808), some (Value.slice (some (Addr.mk 1 0 none)) m m), some (Value.int IntKind.i64 (IntKind.wrap IntKind.i64 (i + Int.ofNat 1)))] [] [some (AObj.cells c 49 0 2), some (AObj.cells g 3 1 1)] else CR.fail 420 else CR.fail 420 else CR.fail 420 else bif qe set != Int.ofNat 0 then KR [some (Value.bool false)] [] [] else bif m_same [Value.slice (some (Addr.mk 0 0 none)) m m, Value.agg (Array.mk g)] [Value.slice (some (Addr.mk 0 0 none)) m m, Value.agg (Array.mk g)] && (!decide (set < 0) && !decide (set > m_all (Int.ofNat m))) then bif qb set then KR [some (Value.bool false)] [] [] else bif m_same [Value.slice (some (Addr.mk 0 0 none)) m m] [Value.slice (some (Addr.mk 0 0 none)) m m] && true then bif !decide (IntKind.wrap IntKind.u64 (IntKind.wrap IntKind.i64 (m_all (Int.ofNat m) + Int.ofNat 1)) = 0) then bif m_nns c && (m_nns g && true) then K [some (Value.int IntKind.i64 (Int.ofNat m)), some (Value.int IntKind.i64 (IntKind.wrap IntKind.i64 (Int.tmod (IntKind.wrap IntKind.u64 set) (IntKind.wrap IntKind.u64 (IntKind.wrap IntKind.i64 (m_all (Int.ofNat m) + Int.ofNat 1)))))), some (Value.slice (some (Addr.mk 0 0 none)) k 9223372036854775808), some (Value.slice (some (Addr.mk 1 0 none)) m m), some (Value.int IntKind.i64 (IntKind.wrap IntKind.i64 (i + Int.ofNat 1)))] [] [some (AObj.cells c 49 0 2), some (AObj.cells g 3 1 1)] else CR.fail 420 else CR.fail 420 else CR.fail 420 else CR.fail 420 else CR.fail 420 else CR.fail 420 else bif m_nns c && (m_nns g && true) then KX 0 [some (Value.int IntKind.i64 (Int.ofNat m)), some (Value.int IntKind.i64 set), some (Value.slice (some (Addr.mk 0 0 none)) k 9223372036854775808), some (Value.slice (some (Addr.mk 1 0 none)) m m), some (Value.int IntKind.i64 i)] [] [some (AObj.cells c 49 0 2), some (AObj.cells g 3 1 1)] else CR.fail 420 := by kernel_rfl

theorem gd1 (r : Mem) (a0 : List Value) (i set : Int) (m k : Nat) (c g : List Value) (qb : Int → Bool) (qe : Int → Int) (cv : Int) (K : OV → List Nat → OO → CR) (kx : Nat → KS) (KR : OV → List Nat → OO → CR) : run (SC r) 16327 81 1 Fc_5 (lvlT (SC r) (tFc1 a0 m k c g qb qe cv) .nil 1 1) none (rbK 0 [6] [] K) kx (rbK 0 [6] [] KR) [] (bT lvFc (vC1 m k set i) .nil) [] (mkA (oC1 c g)) =
    bif m_same [Value.int IntKind.i64 (Int.ofNat m), Value.slice (some (Addr.mk 0 0 none)) k 9223372036854775808, Value.agg (Array.mk c)] [Value.int IntKind.i64 (Int.ofNat m), Value.slice (some (Addr.mk 0 0 none)) k 9223372036854775808, Value.agg (Array.mk c)] then bif m_same [Value.slice (some (Addr.mk 0 0 none)) m m, Value.agg (Array.mk g)] [Value.slice (some (Addr.mk 0 0 none)) m m, Value.agg (Array.mk g)] then bif cv == cv then KR [some (Value.bool true)] [] [] else KR [some (Value.bool false)] [] [] else CR.fail 420 else CR.fail 420 := by kernel_rfl

theorem gc0 (r : Mem) (a0 : List Value) (i set : Int) (m : Nat) (g : List Value) (qb : Int → Bool) (qe : Int → Int) (cv : Int) (K : OV → List Nat → OO → CR) (KX : Nat → OV → List Nat → OO → CR) (KR : OV → List Nat → OO → CR) : run (SC r) 16327 81 1 Fc_4 (lvlT (SC r) (tFc0 a0 m g qb qe cv) .nil 1 1) none (rbK 0 lvFc [] K) (fun i => rbK 0 lvFc [] (KX i)) (rbK 0 [6] [] KR) [] (bT lvFc (vC0 m set i) .nil) [] (mkA (oC0 g)) =
    bif decide (i < 2) then bif m_same [Value.int IntKind.i64 (Int.ofNat m)] [Value.int IntKind.i64 (Int.ofNat m)] then bif qb set then bif decide (set < 0) then bif qe set != Int.ofNat 1 then KR [some (Value.bool false)] [] [] else KR [some (Value.bool false)] [] [] else bif m_same [Value.slice (some (Addr.mk 0 0 none)) m m] [Value.slice (some (Addr.mk 0 0 none)) m m] && true then bif decide (set > m_all (Int.ofNat m)) then bif qe set != Int.ofNat 1 then KR [some (Value.bool false)] [] [] else KR [some (Value.bool false)] [] [] else bif qe set != Int.ofNat 0 then KR [some (Value.bool false)] [] [] else bif m_same [Value.slice (some (Addr.mk 0 0 none)) m m, Value.agg (Array.mk g)] [Value.slice (some (Addr.mk 0 0 none)) m m, Value.agg (Array.mk g)] && (!decide (set < 0) && !decide (set > m_all (Int.ofNat m))) then bif qb set then bif m_same [Value.slice (some (Addr.mk 0 0 none)) m m] [Value.slice (some (Addr.mk 0 0 none)) m m] && true then bif !decide (IntKind.wrap IntKind.u64 (IntKind.wrap IntKind.i64 (m_all (Int.ofNat m) + Int.ofNat 1)) = 0) then bif m_nns g && true then K [some (Value.int IntKind.i64 (Int.ofNat m)), some (Value.int IntKind.i64 (IntKind.wrap IntKind.i64 (Int.tmod (IntKind.wrap IntKind.u64 set) (IntKind.wrap IntKind.u64 (IntKind.wrap IntKind.i64 (m_all (Int.ofNat m) + Int.ofNat 1)))))), some (Value.slice none 0 0), some (Value.slice (some (Addr.mk 0 0 none)) m m), some (Value.int IntKind.i64 (IntKind.wrap IntKind.i64 (i + Int.ofNat 1)))] [] [some (AObj.cells g 3 0 1)] else CR.fail 420 else CR.fail 420 else CR.fail 420 else KR [some (Value.bool false)] [] [] else CR.fail 420 else CR.fail 420 else bif decide (set < 0) then bif qe set != Int.ofNat 1 then KR [some (Value.bool false)] [] [] else bif m_same [Value.slice (some (Addr.mk 0 0 none)) m m] [Value.slice (some (Addr.mk 0 0 none)) m m] && true then bif !decide (IntKind.wrap IntKind.u64 (IntKind.wrap IntKind.i64 (m_all (Int.ofNat m) + Int.ofNat 1)) = 0) then bif m_nns g && true then K [some (Value.int IntKind.i64 (Int.ofNat m)), some (Value.int IntKind.i64 (IntKind.wrap IntKind.i64 (Int.tmod (IntKind.wrap IntKind.u64 set) (IntKind.wrap IntKind.u64 (IntKind.wrap IntKind.i64 (m_all (Int.ofNat m) + Int.ofNat 1)))))), some (Value.slice none 0 0), some (Value.slice (some (Addr.mk 0 0 none)) m m), some (Value.int IntKind.i64 (IntKind.wrap IntKind.i64 (i + Int.ofNat 1)))] [] [some (AObj.cells g 3 0 1)] else CR.fail 420 else CR.fail 420 else CR.fail 420 else bif m_same [Value.slice (some (Addr.mk 0 0 none)) m m] [Value.slice (some (Addr.mk 0 0 none)) m m] && true then bif decide (set > m_all (Int.ofNat m)) then bif qe set != Int.ofNat 1 then KR [some (Value.bool false)] [] [] else bif m_same [Value.slice (some (Addr.mk 0 0 none)) m m] [Value.slice (some (Addr.mk 0 0 none)) m m] && true then bif !decide (IntKind.wrap IntKind.u64 (IntKind.wrap IntKind.i64 (m_all (Int.ofNat m) + Int.ofNat 1)) = 0) then bif m_nns g && true then K [some (Value.int IntKind.i64 (Int.ofNat m)), some (Value.int IntKind.i64 (IntKind.wrap IntKind.i64 (Int.tmod (IntKind.wrap IntKind.u64 set) (IntKind.wrap IntKind.u64 (IntKind.wrap IntKind.i64 (m_all (Int.ofNat m) + Int.ofNat 1)))))), some (Value.slice none 0 0), some (Value.slice (some (Addr.mk 0 0 none)) m m), some (Value.int IntKind.i64 (IntKind.wrap IntKind.i64 (i + Int.ofNat 1)))] [] [some (AObj.cells g 3 0 1)] else CR.fail 420 else CR.fail 420 else CR.fail 420 else bif qe set != Int.ofNat 0 then KR [some (Value.bool false)] [] [] else bif m_same [Value.slice (some (Addr.mk 0 0 none)) m m, Value.agg (Array.mk g)] [Value.slice (some (Addr.mk 0 0 none)) m m, Value.agg (Array.mk g)] && (!decide (set < 0) && !decide (set > m_all (Int.ofNat m))) then bif qb set then KR [some (Value.bool false)] [] [] else bif m_same [Value.slice (some (Addr.mk 0 0 none)) m m] [Value.slice (some (Addr.mk 0 0 none)) m m] && true then bif !decide (IntKind.wrap IntKind.u64 (IntKind.wrap IntKind.i64 (m_all (Int.ofNat m) + Int.ofNat 1)) = 0) then bif m_nns g && true then K [some (Value.int IntKind.i64 (Int.ofNat m)), some (Value.int IntKind.i64 (IntKind.wrap IntKind.i64 (Int.tmod (IntKind.wrap IntKind.u64 set) (IntKind.wrap IntKind.u64 (IntKind.wrap IntKind.i64 (m_all (Int.ofNat m) + Int.ofNat 1)))))), some (Value.slice none 0 0), some (Value.slice (some (Addr.mk 0 0 none)) m m), some (Value.int IntKind.i64 (IntKind.wrap IntKind.i64 (i + Int.ofNat 1)))] [] [some (AObj.cells g 3 0 1)] else CR.fail 420 else CR.fail 420 else CR.fail 420 else CR.fail 420 else CR.fail 420 else CR.fail 420 else bif m_nns g && true then KX 0 [some (Value.int IntKind.i64 (Int.ofNat m)), some (Value.int IntKind.i64 set), some (Value.slice none 0 0), some (Value.slice (some (Addr.mk 0 0 none)) m m), some (Value.int IntKind.i64 i)] [] [some (AObj.cells g 3 0 1)] else CR.fail 420 := by kernel_rfl

theorem gd0 (r : Mem) (a0 : List Value) (i set : Int) (m : Nat) (g : List Value) (qb : Int → Bool) (qe : Int → Int) (cv : Int) (K : OV → List Nat → OO → CR) (kx : Nat → KS) (KR : OV → List Nat → OO → CR) : run (SC r) 16327 81 1 Fc_5 (lvlT (SC r) (tFc0 a0 m g qb qe cv) .nil 1 1) none (rbK 0 [6] [] K) kx (rbK 0 [6] [] KR) [] (bT lvFc (vC0 m set i) .nil) [] (mkA (oC0 g)) =
    bif m_same [Value.int IntKind.i64 (Int.ofNat m), Value.slice none 0 0] [Value.int IntKind.i64 (Int.ofNat m), Value.slice none 0 0] then bif m_same [Value.slice (some (Addr.mk 0 0 none)) m m, Value.agg (Array.mk g)] [Value.slice (some (Addr.mk 0 0 none)) m m, Value.agg (Array.mk g)] then bif cv == cv then KR [some (Value.bool true)] [] [] else KR [some (Value.bool false)] [] [] else CR.fail 420 else CR.fail 420 := by kernel_rfl

end Go.Proofs

/- The law of structures judged holds. -/
namespace Go.Proofs
open Go Go.Ev Go.Num
set_option linter.unusedVariables false
set_option linter.unusedSimpArgs false
set_option maxRecDepth 100000

theorem equ_rfl (z : Int) : m_eqv (.int .u64 z) (.int .u64 z) = true := by simp [m_eqv, veq]
theorem nn5 (x0 x1 x2 x3 x4 : Int) : m_nns [Value.int IntKind.i64 x0, Value.int IntKind.i64 x1, Value.int IntKind.i64 x2, Value.int IntKind.i64 x3, Value.int IntKind.i64 x4] = true := rfl
theorem mod_ne {m : Nat} (h : m ≤ 10) : (!decide (IntKind.wrap IntKind.u64 (IntKind.wrap IntKind.i64 (m_all (Int.ofNat m) + Int.ofNat 1)) = 0)) = true := by
  have e := all_eq (m := m) (by omega)
  have hA : 2 ^ m ≤ 1024 := Nat.pow_le_pow_right (n := 2) (by decide) h
  have hp := Nat.two_pow_pos m
  rw [show m_all (Int.ofNat m) = ((2 ^ m - 1 : Nat) : Int) from e]
  have e2 : ((2 ^ m - 1 : Nat) : Int) + Int.ofNat 1 = ((2 ^ m : Nat) : Int) := by
    obtain ⟨q, hq⟩ : ∃ q, 2 ^ m = q + 1 := ⟨2 ^ m - 1, by omega⟩
    rw [hq]
    simp
  rw [e2, wrI (by omega), wrapU' (by omega), decide_eq_false (by omega)]
  rfl
def oTrue : Outs := ⟨[6], [], fun vs ms os => vs = [some (.bool true)] ∧ ms = [] ∧ os = []⟩
def oNone : Outs := ⟨[], [], fun vs ms os => vs = [] ∧ ms = [] ∧ os = []⟩

def iQ1 (m : Nat) (p : Nat × Nat) (l : List (Nat × Nat)) (i : Nat) : OV → List Nat → OO → Prop := fun vs ms os => ∃ x0 x1 x2 x3 x4 : Int, vs = vF1 m (l.length + 1) (i : Nat) ∧ ms = [] ∧ os = oF1 (pcE (p :: l)) (m_ws (nbN m (zE (p :: l)) (p :: l).length)) x0 x1 x2 x3 x4 ∧ rng x0 ∧ rng x1 ∧ rng x2 ∧ rng x3 ∧ rng x4
def iJ1 (m : Nat) (p : Nat × Nat) (l : List (Nat × Nat)) (i s : Nat) : OV → List Nat → OO → Prop := fun vs ms os => ∃ x0 x1 x2 x3 x4 : Int, vs = vF1 m (l.length + 1) (i : Nat) ++ [some (I (s : Nat))] ∧ ms = [] ∧ os = oF1 (pcE (p :: l)) (m_ws (nbN m (zE (p :: l)) (p :: l).length)) x0 x1 x2 x3 x4 ∧ rng x0 ∧ rng x1 ∧ rng x2 ∧ rng x3 ∧ rng x4
def iF1 (m : Nat) (p : Nat × Nat) (l : List (Nat × Nat)) (j : Nat) : OV → List Nat → OO → Prop := fun vs ms os => ∃ i : Nat, i ≤ 2 ∧ j = 2 - i ∧ iQ1 m p l i vs ms os
theorem law1 (r : Mem) (hm : Tab r) (m : Nat) (h1 : 1 ≤ m) (hm10 : m ≤ 10) (p : Nat × Nat) (l : List (Nat × Nat)) (hE : okAll (m : Int) (zE (p :: l)) (p :: l).length = true) (hl : (p :: l).length ≤ 1000000) (a0 args : List Value) (hle : Nat.ble args.length 90 = true)
    (htm : TOk (SC r) (tFf1 a0 m (l.length + 1) (pcE (p :: l)) (m_ws (nbN m (zE (p :: l)) (p :: l).length)) (stF m (p :: l))))
    (hpre : run (SC r) 8167 90 1 (.seq Ff_0 (.seq Ff_1 (.seq Ff_2 Ff_3))) (lvlT (SC r) (tFf1 a0 m (l.length + 1) (pcE (p :: l)) (m_ws (nbN m (zE (p :: l)) (p :: l).length)) (stF m (p :: l))) .nil 1 1) none (Outs.ask 0 ⟨lvFf, [], fun vs ms os => ∃ j, iF1 m p l j vs ms os⟩) (fun _ => Outs.no.ask 0) (oTrue.ask 0) (sc0 8167 args) (tr0 8167 args) [] emptyA = okR) :
    SOk (SC r) 6 args emptyA fun v _ => v = .bool true := by
  have sm : ∀ l : List Value, m_same l l = true := same_rfl
  refine callLM (SC_ok r) (by kernel_rfl) ((bodySC r _).trans Ff_eq) (nt := 90) (by kernel_rfl) (rs := [.tmp 6]) (by kernel_rfl) 8167 hle (.step (.step (.step .base))) htm (tm := .nil) (L := 1) (d := 1) lvFf []
    (iF1 m p l) oNone oTrue (fun j => ⟨lvFf, [], fun vs ms os => ∃ i : Nat, i < 2 ∧ j = 2 - i ∧ iQ1 m p l i vs ms os⟩) lvFj [] (fun j k vs ms os => ∃ i s : Nat, i < 2 ∧ j = 2 - i ∧ s ≤ 5 ∧ k = 5 - s ∧ iJ1 m p l i s vs ms os)
    (fun j => ⟨lvFf, [], fun vs ms os => ∃ i : Nat, i < 2 ∧ j = 2 - i ∧ iQ1 m p l i vs ms os⟩) (fun j => ⟨lvFf, [], fun vs ms os => ∃ i : Nat, i < 2 ∧ j = 2 - i ∧ iQ1 m p l i vs ms os⟩) hpre ?_ ?_ ?_ ?_ ?_ ?_ ?_
  · rintro j vs ms os ⟨i, hi, rfl, x0, x1, x2, x3, x4, rfl, rfl, rfl, hr⟩
    refine ⟨_, TOk.nil, .nil, 1, 1, 1, ?_⟩
    have hn := fa1 r i m (l.length + 1) (pcE (p :: l)) (m_ws (nbN m (zE (p :: l)) (p :: l).length)) x0 x1 x2 x3 x4
    by_cases c : i < 2
    · simp only [dT (show (i : Int) < 2 by omega), cond_true, nn5, pcE_nn, ws_nn, Bool.and_true] at hn
      exact (hn _ _ _ _).trans (qq_ok ⟨i, c, rfl, x0, x1, x2, x3, x4, rfl, rfl, rfl, hr⟩)
    · simp only [dF (show ¬ (i : Int) < 2 by omega), cond_false] at hn
      exact (hn _ _ _ _).trans (qq_ok ⟨rfl, rfl, rfl⟩)
  · rintro j vs ms os ⟨i, hi, rfl, x0, x1, x2, x3, x4, rfl, rfl, rfl, hr⟩
    refine ⟨_, TOk.nil, .nil, 1, 1, 1, ?_⟩
    have hn := fb1 r i m (l.length + 1) (pcE (p :: l)) (m_ws (nbN m (zE (p :: l)) (p :: l).length)) x0 x1 x2 x3 x4
    simp only [cond_true, nn5, pcE_nn, ws_nn, Bool.and_true] at hn
    exact (hn _ _ _ _).trans (qq_ok ⟨5, i, 0, hi, rfl, by omega, rfl, x0, x1, x2, x3, x4, rfl, rfl, rfl, hr⟩)
  · rintro j k vs ms os ⟨i, s, hi, rfl, hs, rfl, x0, x1, x2, x3, x4, rfl, rfl, rfl, hr⟩
    refine ⟨_, htm, .nil, 1, 1, 1, ?_⟩
    obtain ⟨r0, r1, r2, r3, r4⟩ := hr
    have hn := fc1 r a0 i s m (l.length + 1) (pcE (p :: l)) (m_ws (nbN m (zE (p :: l)) (p :: l).length)) (stF m (p :: l)) x0 x1 x2 x3 x4
    by_cases c : s < 5
    · have e3 : IntKind.wrap IntKind.i64 ((s : Int) + Int.ofNat 1) = ((s + 1 : Nat) : Int) := by rw [wrI (by simp; omega)]; simp
      have hQ : ∃ k', k' < 5 - s ∧ ∃ i' s' : Nat, i' < 2 ∧ 2 - i = 2 - i' ∧ s' ≤ 5 ∧ k' = 5 - s' ∧ iJ1 m p l i' s' (vF1 m (l.length + 1) (i : Nat) ++ [some (I ((s + 1 : Nat) : Int))]) [] (oF1 (pcE (p :: l)) (m_ws (nbN m (zE (p :: l)) (p :: l).length)) x0 x1 x2 x3 x4) := ⟨5 - (s + 1), by omega, i, s + 1, hi, rfl, by omega, rfl, x0, x1, x2, x3, x4, rfl, rfl, rfl, r0, r1, r2, r3, r4⟩
      simp only [dT (show (s : Int) < 5 by omega), sm, rg_of r0, rg_of r1, rg_of r2, rg_of r3, rg_of r4, Bool.and_self, nn5, pcE_nn, ws_nn, Bool.and_true, cond_true, e3] at hn
      by_cases z : s = 0
      · have e : stF m (p :: l) (s : Nat) x0 x1 x2 x3 x4 = false := by subst z; exact st0 hm10 _ x0 x1 x2 x3 x4
        simp only [e, cond_false, dF (show ¬ (s : Int) ≥ 1 by omega)] at hn
        exact (hn _ _ _).trans (qq_ok hQ)
      · simp only [dT (show (s : Int) ≥ 1 by omega), cond_true] at hn
        cases e : stF m (p :: l) (s : Nat) x0 x1 x2 x3 x4 with
        | true =>
          simp only [e, cond_true] at hn
          exact (hn _ _ _).trans (qq_ok hQ)
        | false =>
          simp only [e, cond_false] at hn
          exact (hn _ _ _).trans (qq_ok hQ)
    · simp only [dF (show ¬ (s : Int) < 5 by omega), cond_false, nn5, pcE_nn, ws_nn, Bool.and_true, cond_true] at hn
      exact (hn _ _ _).trans (qq_ok ⟨i, hi, rfl, x0, x1, x2, x3, x4, rfl, rfl, rfl, r0, r1, r2, r3, r4⟩)
  · rintro j vs ms os ⟨i, hi, rfl, x0, x1, x2, x3, x4, rfl, rfl, rfl, hr⟩
    refine ⟨_, htm, .nil, 6, 6, 1, ?_⟩
    have hn := fd1 r a0 i m (l.length + 1) (pcE (p :: l)) (m_ws (nbN m (zE (p :: l)) (p :: l).length)) (stF m (p :: l)) x0 x1 x2 x3 x4
    simp only [sm, mod_ne hm10, eqv_rfl, equ_rfl, Bool.and_self, cond_true, nn5, pcE_nn, ws_nn, Bool.and_true] at hn
    exact (hn _ _ _).trans (qq_ok ⟨i, hi, rfl, _, _, _, _, _, rfl, rfl, rfl, rng_wrap _, rng_wrap _, rng_wrap _, rng_wrap _, rng_wrap _⟩)
  · rintro j vs ms os ⟨i, hi, rfl, x0, x1, x2, x3, x4, rfl, rfl, rfl, hr⟩
    refine ⟨_, TOk.nil, .nil, 1, 1, 1, ?_⟩
    have hn := fe1 r i m (l.length + 1) (pcE (p :: l)) (m_ws (nbN m (zE (p :: l)) (p :: l).length)) x0 x1 x2 x3 x4
    have e3 : IntKind.wrap IntKind.i64 ((i : Int) + Int.ofNat 1) = ((i + 1 : Nat) : Int) := by rw [wrI (by simp; omega)]; simp
    simp only [cond_true, nn5, pcE_nn, ws_nn, Bool.and_true, e3] at hn
    exact (hn _ _ _ _).trans (qq_ok ⟨2 - (i + 1), by omega, i + 1, by omega, rfl, x0, x1, x2, x3, x4, rfl, rfl, rfl, hr⟩)
  · rintro vs ms os ⟨rfl, rfl, rfl⟩
    exact ⟨_, TOk.cons TOk.nil (e0_ok (awake8.less hm)), .nil, 1, 1, 1, (fz r _ _ _).trans (qq_ok ⟨rfl, rfl, rfl⟩)⟩
  · rintro vs ms os ⟨rfl, rfl, rfl⟩
    exact ⟨_, mkA [], by kernel_rfl, rfl⟩

def iQ0 (m : Nat)  (i : Nat) : OV → List Nat → OO → Prop := fun vs ms os => ∃ x0 x1 x2 x3 x4 : Int, vs = vF0 m (i : Nat) ∧ ms = [] ∧ os = oF0 (m_ws (nbN m (zE []) 0)) x0 x1 x2 x3 x4 ∧ rng x0 ∧ rng x1 ∧ rng x2 ∧ rng x3 ∧ rng x4
def iJ0 (m : Nat)  (i s : Nat) : OV → List Nat → OO → Prop := fun vs ms os => ∃ x0 x1 x2 x3 x4 : Int, vs = vF0 m (i : Nat) ++ [some (I (s : Nat))] ∧ ms = [] ∧ os = oF0 (m_ws (nbN m (zE []) 0)) x0 x1 x2 x3 x4 ∧ rng x0 ∧ rng x1 ∧ rng x2 ∧ rng x3 ∧ rng x4
def iF0 (m : Nat)  (j : Nat) : OV → List Nat → OO → Prop := fun vs ms os => ∃ i : Nat, i ≤ 2 ∧ j = 2 - i ∧ iQ0 m i vs ms os
theorem law0 (r : Mem) (hm : Tab r) (m : Nat) (h1 : 1 ≤ m) (hm10 : m ≤ 10)  (hE : okAll (m : Int) (zE ([] : List (Nat × Nat))) ([] : List (Nat × Nat)).length = true) (hl : ([] : List (Nat × Nat)).length ≤ 1000000) (a0 args : List Value) (hle : Nat.ble args.length 90 = true)
    (htm : TOk (SC r) (tFf0 a0 m (m_ws (nbN m (zE []) 0)) (stF m [])))
    (hpre : run (SC r) 8167 90 1 (.seq Ff_0 (.seq Ff_1 (.seq Ff_2 Ff_3))) (lvlT (SC r) (tFf0 a0 m (m_ws (nbN m (zE []) 0)) (stF m [])) .nil 1 1) none (Outs.ask 0 ⟨lvFf, [], fun vs ms os => ∃ j, iF0 m j vs ms os⟩) (fun _ => Outs.no.ask 0) (oTrue.ask 0) (sc0 8167 args) (tr0 8167 args) [] emptyA = okR) :
    SOk (SC r) 6 args emptyA fun v _ => v = .bool true := by
  have sm : ∀ l : List Value, m_same l l = true := same_rfl
  refine callLM (SC_ok r) (by kernel_rfl) ((bodySC r _).trans Ff_eq) (nt := 90) (by kernel_rfl) (rs := [.tmp 6]) (by kernel_rfl) 8167 hle (.step (.step (.step .base))) htm (tm := .nil) (L := 1) (d := 1) lvFf []
    (iF0 m) oNone oTrue (fun j => ⟨lvFf, [], fun vs ms os => ∃ i : Nat, i < 2 ∧ j = 2 - i ∧ iQ0 m i vs ms os⟩) lvFj [] (fun j k vs ms os => ∃ i s : Nat, i < 2 ∧ j = 2 - i ∧ s ≤ 5 ∧ k = 5 - s ∧ iJ0 m i s vs ms os)
    (fun j => ⟨lvFf, [], fun vs ms os => ∃ i : Nat, i < 2 ∧ j = 2 - i ∧ iQ0 m i vs ms os⟩) (fun j => ⟨lvFf, [], fun vs ms os => ∃ i : Nat, i < 2 ∧ j = 2 - i ∧ iQ0 m i vs ms os⟩) hpre ?_ ?_ ?_ ?_ ?_ ?_ ?_
  · rintro j vs ms os ⟨i, hi, rfl, x0, x1, x2, x3, x4, rfl, rfl, rfl, hr⟩
    refine ⟨_, TOk.nil, .nil, 1, 1, 1, ?_⟩
    have hn := fa0 r i m (m_ws (nbN m (zE []) 0)) x0 x1 x2 x3 x4
    by_cases c : i < 2
    · simp only [dT (show (i : Int) < 2 by omega), cond_true, nn5, nn5, ws_nn, Bool.and_true] at hn
      exact (hn _ _ _ _).trans (qq_ok ⟨i, c, rfl, x0, x1, x2, x3, x4, rfl, rfl, rfl, hr⟩)
    · simp only [dF (show ¬ (i : Int) < 2 by omega), cond_false] at hn
      exact (hn _ _ _ _).trans (qq_ok ⟨rfl, rfl, rfl⟩)
  · rintro j vs ms os ⟨i, hi, rfl, x0, x1, x2, x3, x4, rfl, rfl, rfl, hr⟩
    refine ⟨_, TOk.nil, .nil, 1, 1, 1, ?_⟩
    have hn := fb0 r i m (m_ws (nbN m (zE []) 0)) x0 x1 x2 x3 x4
    simp only [cond_true, nn5, nn5, ws_nn, Bool.and_true] at hn
    exact (hn _ _ _ _).trans (qq_ok ⟨5, i, 0, hi, rfl, by omega, rfl, x0, x1, x2, x3, x4, rfl, rfl, rfl, hr⟩)
  · rintro j k vs ms os ⟨i, s, hi, rfl, hs, rfl, x0, x1, x2, x3, x4, rfl, rfl, rfl, hr⟩
    refine ⟨_, htm, .nil, 1, 1, 1, ?_⟩
    obtain ⟨r0, r1, r2, r3, r4⟩ := hr
    have hn := fc0 r a0 i s m (m_ws (nbN m (zE []) 0)) (stF m ([] : List (Nat × Nat))) x0 x1 x2 x3 x4
    by_cases c : s < 5
    · have e3 : IntKind.wrap IntKind.i64 ((s : Int) + Int.ofNat 1) = ((s + 1 : Nat) : Int) := by rw [wrI (by simp; omega)]; simp
      have hQ : ∃ k', k' < 5 - s ∧ ∃ i' s' : Nat, i' < 2 ∧ 2 - i = 2 - i' ∧ s' ≤ 5 ∧ k' = 5 - s' ∧ iJ0 m i' s' (vF0 m (i : Nat) ++ [some (I ((s + 1 : Nat) : Int))]) [] (oF0 (m_ws (nbN m (zE []) 0)) x0 x1 x2 x3 x4) := ⟨5 - (s + 1), by omega, i, s + 1, hi, rfl, by omega, rfl, x0, x1, x2, x3, x4, rfl, rfl, rfl, r0, r1, r2, r3, r4⟩
      simp only [dT (show (s : Int) < 5 by omega), sm, rg_of r0, rg_of r1, rg_of r2, rg_of r3, rg_of r4, Bool.and_self, nn5, nn5, ws_nn, Bool.and_true, cond_true, e3] at hn
      by_cases z : s = 0
      · have e : stF m ([] : List (Nat × Nat)) (s : Nat) x0 x1 x2 x3 x4 = false := by subst z; exact st0 hm10 _ x0 x1 x2 x3 x4
        simp only [e, cond_false, dF (show ¬ (s : Int) ≥ 1 by omega)] at hn
        exact (hn _ _ _).trans (qq_ok hQ)
      · simp only [dT (show (s : Int) ≥ 1 by omega), cond_true] at hn
        cases e : stF m ([] : List (Nat × Nat)) (s : Nat) x0 x1 x2 x3 x4 with
        | true =>
          simp only [e, cond_true] at hn
          exact (hn _ _ _).trans (qq_ok hQ)
        | false =>
          simp only [e, cond_false] at hn
          exact (hn _ _ _).trans (qq_ok hQ)
    · simp only [dF (show ¬ (s : Int) < 5 by omega), cond_false, nn5, nn5, ws_nn, Bool.and_true, cond_true] at hn
      exact (hn _ _ _).trans (qq_ok ⟨i, hi, rfl, x0, x1, x2, x3, x4, rfl, rfl, rfl, r0, r1, r2, r3, r4⟩)
  · rintro j vs ms os ⟨i, hi, rfl, x0, x1, x2, x3, x4, rfl, rfl, rfl, hr⟩
    refine ⟨_, htm, .nil, 6, 6, 1, ?_⟩
    have hn := fd0 r a0 i m (m_ws (nbN m (zE []) 0)) (stF m ([] : List (Nat × Nat))) x0 x1 x2 x3 x4
    simp only [sm, mod_ne hm10, eqv_rfl, equ_rfl, Bool.and_self, cond_true, nn5, nn5, ws_nn, Bool.and_true] at hn
    exact (hn _ _ _).trans (qq_ok ⟨i, hi, rfl, _, _, _, _, _, rfl, rfl, rfl, rng_wrap _, rng_wrap _, rng_wrap _, rng_wrap _, rng_wrap _⟩)
  · rintro j vs ms os ⟨i, hi, rfl, x0, x1, x2, x3, x4, rfl, rfl, rfl, hr⟩
    refine ⟨_, TOk.nil, .nil, 1, 1, 1, ?_⟩
    have hn := fe0 r i m (m_ws (nbN m (zE []) 0)) x0 x1 x2 x3 x4
    have e3 : IntKind.wrap IntKind.i64 ((i : Int) + Int.ofNat 1) = ((i + 1 : Nat) : Int) := by rw [wrI (by simp; omega)]; simp
    simp only [cond_true, nn5, nn5, ws_nn, Bool.and_true, e3] at hn
    exact (hn _ _ _ _).trans (qq_ok ⟨2 - (i + 1), by omega, i + 1, by omega, rfl, x0, x1, x2, x3, x4, rfl, rfl, rfl, hr⟩)
  · rintro vs ms os ⟨rfl, rfl, rfl⟩
    exact ⟨_, TOk.cons TOk.nil (e0_ok (awake8.less hm)), .nil, 1, 1, 1, (fz r _ _ _).trans (qq_ok ⟨rfl, rfl, rfl⟩)⟩
  · rintro vs ms os ⟨rfl, rfl, rfl⟩
    exact ⟨_, mkA [], by kernel_rfl, rfl⟩

theorem tF1_ok (r : Mem) (hm : Tab r) (m : Nat) (h1 : 1 ≤ m) (hm10 : m ≤ 10) (p : Nat × Nat) (l : List (Nat × Nat)) (hE : okAll (m : Int) (zE (p :: l)) (p :: l).length = true) (hl : (p :: l).length ≤ 1000000) {a0 : List Value} (hro : roVs a0 = true) (h : SOk (SC r) 7 a0 emptyA fun v A => v = vTa m (p :: l) ∧ A = mkA (oL (p :: l))) :
    TOk (SC r) (tFf1 a0 m (l.length + 1) (pcE (p :: l)) (m_ws (nbN m (zE (p :: l)) (p :: l).length)) (stF m (p :: l))) :=
  TOk.cons (TOk.cons (TOk.cons (TOk.cons (TOk.cons (TOk.cons TOk.nil (eAl_ok r (by omega))) (eRI_ok r hm10 hE)) (eIS1_ok r hm h1 hm10 hE hl)) (eOf1_ok r h1 hm10 hE hl)) (eTm1_ok r hro h)) (e0_ok (awake8.less hm))
theorem tF0_ok (r : Mem) (hm : Tab r) (m : Nat) (h1 : 1 ≤ m) (hm10 : m ≤ 10) {a0 : List Value} (hro : roVs a0 = true) (h : SOk (SC r) 7 a0 emptyA fun v A => v = vTa m [] ∧ A = mkA (oL [])) :
    TOk (SC r) (tFf0 a0 m (m_ws (nbN m (zE []) 0)) (stF m [])) :=
  TOk.cons (TOk.cons (TOk.cons (TOk.cons (TOk.cons (TOk.cons TOk.nil (eAl_ok r (by omega))) (eRI_ok r hm10 (E := []) rfl)) (eIS0_ok r hm h1 hm10)) (eOf0_ok r h1 hm10)) (entV_ok (tm0_ok r h) hro)) (e0_ok (awake8.less hm))

theorem gE_len (n most : Int) (len : Nat) (z : Nat → Int) (h1 : 1 ≤ most) (h2 : most ≤ 16) : (gE n most len z).length ≤ 1000000 := by
  have hg := (gM_ok n h1 h2).2.2
  unfold gE
  have := alE_len (fun k => (tmN (gM n most) z (min 40 len)).getD k 0) (gM n most) (gM n most)
  have : gM n most * gM n most ≤ 16 * 16 := Nat.mul_le_mul hg hg
  omega
theorem fivesR (r : Mem) (hm : Tab r) (n : Int) (b off len cap : Nat) (z : Nat → Int) (hz : rowAt r b off (2 * len) z) (x0 x1 x2 x3 x4 : Int) (r0 : rng x0) (r1 : rng x1) (r2 : rng x2) (r3 : rng x3) (r4 : rng x4) : GrT Tryd.prog r 6 [I n, RS2 b off len cap, .agg ⟨[I x0, I x1, I x2, I x3, I x4]⟩] (.bool true) := by
  have sm : ∀ l : List Value, m_same l l = true := same_rfl
  have hg := gM_ok n (most := 10) (by decide) (by decide)
  have ht := tame_row r n 10 (by decide) (by decide) b off len cap z hz
  have hE := gE_ok n 10 len z
  have hL := gE_len n 10 len z (by decide) (by decide)
  generalize gE n 10 len z = E at ht hE hL
  generalize gM n 10 = m at ht hE hg
  cases E with
  | nil =>
    refine GrT.ofS (C := SC r) rfl rfl rfl (law0 r hm m hg.1 (by omega) hE hL [I n, RS2 b off len cap, I 10] _ rfl (tF0_ok r hm m hg.1 (by omega) rfl ht) ?_)
    have hn := fpR0 r n b off len cap m (m_ws (nbN m (zE []) 0)) (stF m []) x0 x1 x2 x3 x4
    simp only [sm, nn5, ws_nn, Bool.and_true, cond_true] at hn
    exact (hn _ _ _).trans (qq_ok ⟨2, 0, by omega, rfl, x0, x1, x2, x3, x4, rfl, rfl, rfl, r0, r1, r2, r3, r4⟩)
  | cons p l =>
    refine GrT.ofS (C := SC r) rfl rfl rfl (law1 r hm m hg.1 (by omega) p l hE hL [I n, RS2 b off len cap, I 10] _ rfl (tF1_ok r hm m hg.1 (by omega) p l hE hL rfl ht) ?_)
    have hn := fpR1 r n b off len cap m (l.length + 1) (pcE (p :: l)) (m_ws (nbN m (zE (p :: l)) (p :: l).length)) (stF m (p :: l)) x0 x1 x2 x3 x4
    simp only [sm, nn5, pcE_nn, ws_nn, Bool.and_true, cond_true] at hn
    exact (hn _ _ _).trans (qq_ok ⟨2, 0, by omega, rfl, x0, x1, x2, x3, x4, rfl, rfl, rfl, r0, r1, r2, r3, r4⟩)
theorem fivesN (r : Mem) (hm : Tab r) (n : Int) (x0 x1 x2 x3 x4 : Int) (r0 : rng x0) (r1 : rng x1) (r2 : rng x2) (r3 : rng x3) (r4 : rng x4) : GrT Tryd.prog r 6 [I n, .slice none 0 0, .agg ⟨[I x0, I x1, I x2, I x3, I x4]⟩] (.bool true) := by
  have sm : ∀ l : List Value, m_same l l = true := same_rfl
  have hg := gM_ok n (most := 10) (by decide) (by decide)
  have ht := tame_nil r n 10 (by decide) (by decide) fun _ => 0
  have hE := gE_ok n 10 0 (fun _ => 0)
  have hL := gE_len n 10 0 (fun _ => 0) (by decide) (by decide)
  generalize gE n 10 0 (fun _ => 0) = E at ht hE hL
  generalize gM n 10 = m at ht hE hg
  cases E with
  | nil =>
    refine GrT.ofS (C := SC r) rfl rfl rfl (law0 r hm m hg.1 (by omega) hE hL [I n, .slice none 0 0, I 10] _ rfl (tF0_ok r hm m hg.1 (by omega) rfl ht) ?_)
    have hn := fpN0 r n m (m_ws (nbN m (zE []) 0)) (stF m []) x0 x1 x2 x3 x4
    simp only [sm, nn5, ws_nn, Bool.and_true, cond_true] at hn
    exact (hn _ _ _).trans (qq_ok ⟨2, 0, by omega, rfl, x0, x1, x2, x3, x4, rfl, rfl, rfl, r0, r1, r2, r3, r4⟩)
  | cons p l =>
    refine GrT.ofS (C := SC r) rfl rfl rfl (law1 r hm m hg.1 (by omega) p l hE hL [I n, .slice none 0 0, I 10] _ rfl (tF1_ok r hm m hg.1 (by omega) p l hE hL rfl ht) ?_)
    have hn := fpN1 r n m (l.length + 1) (pcE (p :: l)) (m_ws (nbN m (zE (p :: l)) (p :: l).length)) (stF m (p :: l)) x0 x1 x2 x3 x4
    simp only [sm, nn5, pcE_nn, ws_nn, Bool.and_true, cond_true] at hn
    exact (hn _ _ _).trans (qq_ok ⟨2, 0, by omega, rfl, x0, x1, x2, x3, x4, rfl, rfl, rfl, r0, r1, r2, r3, r4⟩)

theorem rng_lit {u : Value} (h : ArgInt .i64 u) : ∃ z, u = I z ∧ rng z := by
  obtain ⟨z, rfl, hz⟩ := h
  refine ⟨z, rfl, ?_⟩
  simp [Lit.wf, IntKind.max, IntKind.min, IntKind.signed, IntKind.bits] at hz
  unfold rng
  omega
theorem law_fives (r : Mem) (hm : ∀ b j u, tabM b j = some u → r b j = some u) (u0 u1 u2 : Value) (s0 : ArgInt .i64 u0) (s1 : ArgRowT r 2 (ArgInt .i64) u1) (s2 : ArgArr 5 (ArgInt .i64) u2) : GrT Tryd.prog r 6 [u0, u1, u2] (.bool true) := by
  obtain ⟨n, rfl, _⟩ := s0
  obtain ⟨la, rfl, hl, hx⟩ := s2
  match la, hl with
  | [a, b, c, d, e], _ =>
    obtain ⟨x0, rfl, r0⟩ := rng_lit (hx a (by simp))
    obtain ⟨x1, rfl, r1⟩ := rng_lit (hx b (by simp))
    obtain ⟨x2, rfl, r2⟩ := rng_lit (hx c (by simp))
    obtain ⟨x3, rfl, r3⟩ := rng_lit (hx d (by simp))
    obtain ⟨x4, rfl, r4⟩ := rng_lit (hx e (by simp))
    cases s1 with
    | nil => exact fivesN r hm n x0 x1 x2 x3 x4 r0 r1 r2 r3 r4
    | row b off len cap hl hc h =>
      refine fivesR r hm n b off len cap (fun j => ofI ((r b (off + j)).getD undef)) (fun j hj => ?_) x0 x1 x2 x3 x4 r0 r1 r2 r3 r4
      obtain ⟨u, hu, z, rfl, _⟩ := h j (by omega)
      show r b (off + j) = some (I (ofI ((r b (off + j)).getD undef)))
      rw [hu]
      rfl

end Go.Proofs

/- The law of covers holds. -/
namespace Go.Proofs
open Go Go.Ev Go.Num
set_option linter.unusedVariables false
set_option linter.unusedSimpArgs false
set_option maxRecDepth 100000

def w10 (E : List (Nat × Nat)) (i : Nat) : Nat := (nbN 10 (zE E) E.length).getD i 0
def qbF (m : Nat) (E : List (Nat × Nat)) (s : Int) : Bool := inA (2 ^ m - 1) s && quN (w10 E) s.toNat 10
def qeF (m : Nat) (s : Int) : Int := bif inA (2 ^ m - 1) s then 0 else 1
def cvF (m : Nat) (E : List (Nat × Nat)) : Int := (cvN (2 ^ m - 1) (fun s => quN (w10 E) s 10) (2 ^ m - 1) : Nat)

theorem tQz_ok (r : Mem) (hm : Tab r) {m : Nat} (hm10 : m ≤ 10) {E : List (Nat × Nat)} (hE : okAll (m : Int) (zE E) E.length = true) {sl : Value} {l : List Value} (hp : pgC (m : Nat) (nbN 10 (zE E) E.length) = I (m : Nat) :: l) (hro : roVs [.agg ⟨I (m : Nat) :: l⟩] = true) (hr2 : roVs [I (m : Nat), sl] = true)
    (hr : GrT Tryd.prog r 24 [I (m : Nat), sl] (.tuple ⟨[.agg ⟨pgC (m : Nat) (nbN 10 (zE E) E.length)⟩, I 0]⟩)) : TOk (SC r) (tQz (m : Nat) sl l fun s => quN (w10 E) s.toNat 10) := by
  have hq : EOk (SC r) 26 (ePW (pgC (m : Nat) (nbN 10 (zE E) E.length)) fun s => .bool (quN (w10 E) s.toNat 10)) := ePW_ok r (pgC_gnd _ _) fun s hs => by
    have := isq_ok r hm (m : Nat) (nbN 10 (zE E) E.length) (nbN_len 10 _ _) (nb10_lt hm10 hE) s hs
    rw [Int.toNat_natCast]
    exact this
  have ha := fall_ok r m (by omega) _ (nbN_len 10 (zE E) E.length)
  rw [hp] at hq ha hr
  exact TOk.cons (TOk.cons (TOk.cons TOk.nil (entV_ok ha hro)) hq) (entV_ok hr hr2)

theorem fQ_ok (r : Mem) (hm : Tab r) (m : Nat) (h1 : 1 ≤ m) (hm10 : m ≤ 10) (E : List (Nat × Nat)) (hE : okAll (m : Int) (zE E) E.length = true) (hl : E.length ≤ 1000000) (b off cap : Nat) (hz : rowAt r b off (2 * E.length) (zE E)) (set : Int) :
    GrT Tryd.prog r 9 [I (m : Nat), RS2 b off E.length cap, I set] (.tuple ⟨[.bool (qbF m E set), I (qeF m set)]⟩) := by
  have hck : ckG (m : Int) (zE E) E.length = 0 := by unfold ckG; rw [if_neg (by omega), if_pos hE]
  have hr := fread_ok r hm (m : Nat) (by omega) b off E.length cap (zE E) hz hl hck
  obtain ⟨a0, a1, a2, a3, a4, a5, a6, a7, a8, a9, _, hp⟩ := pgC10 (m : Nat) (nbN_len 10 (zE E) E.length)
  refine GrT.of (SC_ok r) (tQz_ok r hm hm10 hE hp rfl rfl hr) .nil (by simp [gnd, gnds]) ⟨1, 3, (qzR r (m : Nat) set (fun s => quN (w10 E) s.toNat 10) b off E.length cap a0 a1 a2 a3 a4 a5 a6 a7 a8 a9).trans ?_⟩
  have hA2 : 2 ^ m ≤ 1024 := Nat.pow_le_pow_right (n := 2) (by decide) hm10
  have hpos := Nat.two_pow_pos m
  have sm : ∀ l : List Value, m_same l l = true := same_rfl
  have eA : IntKind.wrap .i64 (m_all (m : Nat)) = ((2 ^ m - 1 : Nat) : Int) := by rw [all_eq (by omega), wrI (by omega)]
  simp only [sm, Bool.true_and, cond_true, eA]
  unfold qbF qeF
  by_cases c : set < 0
  · rw [show inA (2 ^ m - 1) set = false from by unfold inA; rw [dF (show ¬ 0 ≤ set by omega)]; rfl]
    simp only [dT c, cond_true]
    rfl
  by_cases c' : set > ((2 ^ m - 1 : Nat) : Int)
  · rw [show inA (2 ^ m - 1) set = false from by unfold inA; rw [dF (show ¬ set ≤ ((2 ^ m - 1 : Nat) : Int) by omega)]; simp]
    simp only [dF c, cond_false, dT c', cond_true]
    rfl
  rw [show inA (2 ^ m - 1) set = true from by unfold inA; rw [dT (show 0 ≤ set by omega), dT (show set ≤ ((2 ^ m - 1 : Nat) : Int) by omega)]; rfl]
  have e1 : IntKind.wrap .u64 set = set := by rw [wrU]; omega
  have g1 : m_w10 set = true := decide_eq_true ⟨by omega, by omega⟩
  simp only [dF c, cond_false, dF c', e1, g1, cond_true]
  cases quN (w10 E) set.toNat 10 <;> rfl
theorem fQN_ok (r : Mem) (hm : Tab r) (m : Nat) (h1 : 1 ≤ m) (hm10 : m ≤ 10) (set : Int) :
    GrT Tryd.prog r 9 [I (m : Nat), .slice none 0 0, I set] (.tuple ⟨[.bool (qbF m [] set), I (qeF m set)]⟩) := by
  have hr := freadN_ok r m h1 hm10 (zE [])
  obtain ⟨a0, a1, a2, a3, a4, a5, a6, a7, a8, a9, _, hp⟩ := pgC10 (m : Nat) (nbN_len 10 (zE []) 0)
  refine GrT.of (SC_ok r) (tQz_ok r hm hm10 (E := []) rfl hp rfl rfl hr) .nil (by simp [gnd, gnds]) ⟨1, 3, (qzN r (m : Nat) set (fun s => quN (w10 []) s.toNat 10) a0 a1 a2 a3 a4 a5 a6 a7 a8 a9).trans ?_⟩
  generalize ([] : List (Nat × Nat)) = E
  have hA2 : 2 ^ m ≤ 1024 := Nat.pow_le_pow_right (n := 2) (by decide) hm10
  have hpos := Nat.two_pow_pos m
  have sm : ∀ l : List Value, m_same l l = true := same_rfl
  have eA : IntKind.wrap .i64 (m_all (m : Nat)) = ((2 ^ m - 1 : Nat) : Int) := by rw [all_eq (by omega), wrI (by omega)]
  simp only [sm, Bool.true_and, cond_true, eA]
  unfold qbF qeF
  by_cases c : set < 0
  · rw [show inA (2 ^ m - 1) set = false from by unfold inA; rw [dF (show ¬ 0 ≤ set by omega)]; rfl]
    simp only [dT c, cond_true]
    rfl
  by_cases c' : set > ((2 ^ m - 1 : Nat) : Int)
  · rw [show inA (2 ^ m - 1) set = false from by unfold inA; rw [dF (show ¬ set ≤ ((2 ^ m - 1 : Nat) : Int) by omega)]; simp]
    simp only [dF c, cond_false, dT c', cond_true]
    rfl
  rw [show inA (2 ^ m - 1) set = true from by unfold inA; rw [dT (show 0 ≤ set by omega), dT (show set ≤ ((2 ^ m - 1 : Nat) : Int) by omega)]; rfl]
  have e1 : IntKind.wrap .u64 set = set := by rw [wrU]; omega
  have g1 : m_w10 set = true := decide_eq_true ⟨by omega, by omega⟩
  simp only [dF c, cond_false, dF c', e1, g1, cond_true]
  cases quN (w10 E) set.toNat 10 <;> rfl
theorem fC_ok (r : Mem) (hm : Tab r) (m : Nat) (h1 : 1 ≤ m) (hm10 : m ≤ 10) (E : List (Nat × Nat)) (hE : okAll (m : Int) (zE E) E.length = true) (hl : E.length ≤ 1000000) (b off cap : Nat) (hz : rowAt r b off (2 * E.length) (zE E)) :
    GrT Tryd.prog r 12 [I (m : Nat), RS2 b off E.length cap] (.tuple ⟨[I (cvF m E), I 0]⟩) := by
  have hck : ckG (m : Int) (zE E) E.length = 0 := by unfold ckG; rw [if_neg (by omega), if_pos hE]
  have hr := fread_ok r hm (m : Nat) (by omega) b off E.length cap (zE E) hz hl hck
  have hc := cover_ok r hm m hm10 _ (nbN_len 10 (zE E) E.length) (nb10_lt hm10 hE)
  have hb := cv_bound (2 ^ m - 1) (fun s => quN (w10 E) s 10) (2 ^ m - 1) (by omega)
  have hA2 : 2 ^ m ≤ 1024 := Nat.pow_le_pow_right (n := 2) (by decide) hm10
  have ew : IntKind.wrap .i64 (cvF m E) = cvF m E := by unfold cvF; exact wrI (by omega)
  change GrT _ _ _ _ (U (cvF m E)) at hc
  obtain ⟨a0, a1, a2, a3, a4, a5, a6, a7, a8, a9, _, hp⟩ := pgC10 (m : Nat) (nbN_len 10 (zE E) E.length)
  rw [hp] at hr hc
  refine GrT.of (SC_ok r) (show TOk (SC r) (tCv (m : Nat) (RS2 b off E.length cap) [U a0, U a1, U a2, U a3, U a4, U a5, U a6, U a7, U a8, U a9] (cvF m E)) from TOk.cons (TOk.cons TOk.nil (entV_ok hc rfl)) (entV_ok hr rfl)) .nil rfl ⟨1, 3, (cvR r (m : Nat) (cvF m E) b off E.length cap a0 a1 a2 a3 a4 a5 a6 a7 a8 a9).trans ?_⟩
  rw [show m_same _ _ = true from same_rfl _, show m_same _ _ = true from same_rfl _, ew]
  rfl
theorem fCN_ok (r : Mem) (hm : Tab r) (m : Nat) (h1 : 1 ≤ m) (hm10 : m ≤ 10) :
    GrT Tryd.prog r 12 [I (m : Nat), .slice none 0 0] (.tuple ⟨[I (cvF m []), I 0]⟩) := by
  have hr := freadN_ok r m h1 hm10 (zE [])
  have hc := cover_ok r hm m hm10 _ (nbN_len 10 (zE []) 0) (fun w hw => by rw [nbN] at hw; rw [List.eq_of_mem_replicate hw]; decide)
  have hb := cv_bound (2 ^ m - 1) (fun s => quN (w10 []) s 10) (2 ^ m - 1) (by omega)
  have hA2 : 2 ^ m ≤ 1024 := Nat.pow_le_pow_right (n := 2) (by decide) hm10
  have ew : IntKind.wrap .i64 (cvF m []) = cvF m [] := by unfold cvF; exact wrI (by omega)
  change GrT _ _ _ _ (U (cvF m [])) at hc
  obtain ⟨a0, a1, a2, a3, a4, a5, a6, a7, a8, a9, _, hp⟩ := pgC10 (m : Nat) (nbN_len 10 (zE []) 0)
  rw [hp] at hr hc
  refine GrT.of (SC_ok r) (show TOk (SC r) (tCv (m : Nat) (.slice none 0 0) [U a0, U a1, U a2, U a3, U a4, U a5, U a6, U a7, U a8, U a9] (cvF m [])) from TOk.cons (TOk.cons TOk.nil (entV_ok hc rfl)) (entV_ok hr rfl)) .nil rfl ⟨1, 3, (cvZ r (m : Nat) (cvF m []) a0 a1 a2 a3 a4 a5 a6 a7 a8 a9).trans ?_⟩
  rw [show m_same _ _ = true from same_rfl _, show m_same _ _ = true from same_rfl _, ew]
  rfl

theorem eQ1_ok (r : Mem) (hm : Tab r) {m : Nat} (h1 : 1 ≤ m) (hm10 : m ≤ 10) {E : List (Nat × Nat)} (hE : okAll (m : Int) (zE E) E.length = true) (hl : E.length ≤ 1000000) : EOk (SC r) 9 (eQ1 (m : Nat) E.length (pcE E) (qbF m E) (qeF m)) := EOk.ent fun args A hg => by
  split at hg
  · rename_i n i k l cap s
    split at hg
    · rename_i c' e f z hget
      have hs := @of_decide_eq_true _ (Classical.propDecidable _) hg
      simp only [List.cons.injEq, Value.int.injEq, Value.slice.injEq, Option.some.injEq, Addr.mk.injEq, Value.agg.injEq, Array.mk.injEq, and_true, true_and] at hs
      obtain ⟨rfl, ⟨rfl, rfl, rfl⟩, rfl⟩ := hs
      refine POk.of (by simp [gnd, gnds]) fun γ W args' hw hR ha => ?_
      obtain ⟨b, k', p1, p2, p3⟩ := own_mem hw hR hget (okL2_E E hl) rfl rfl ha
      exact ⟨memW W, _, memW_ro W, p1, fQ_ok (memW W) (memW_tab hm hR) m h1 hm10 E hE hl b k' 0 (rowE p2) s⟩
    · cases hg
  · cases hg
theorem eQ0_ok (r : Mem) (hm : Tab r) {m : Nat} (h1 : 1 ≤ m) (hm10 : m ≤ 10) : EOk (SC r) 9 (eQ0 (m : Nat) (qbF m []) (qeF m)) := EOk.ent fun args A hg => by
  split at hg
  · rename_i n s
    have hs := @of_decide_eq_true _ (Classical.propDecidable _) hg
    simp only [List.cons.injEq, Value.int.injEq, and_true, true_and] at hs
    subst hs
    exact (fQN_ok r hm m h1 hm10 s).ro rfl A
  · cases hg
theorem eC1_ok (r : Mem) (hm : Tab r) {m : Nat} (h1 : 1 ≤ m) (hm10 : m ≤ 10) {E : List (Nat × Nat)} (hE : okAll (m : Int) (zE E) E.length = true) (hl : E.length ≤ 1000000) : EOk (SC r) 12 (eC1 (m : Nat) E.length (pcE E) (cvF m E)) := EOk.ent fun args A hg => by
  split at hg
  · rename_i n i k l cap
    split at hg
    · rename_i c' e f z hget
      have hs := @of_decide_eq_true _ (Classical.propDecidable _) hg
      simp only [List.cons.injEq, Value.int.injEq, Value.slice.injEq, Option.some.injEq, Addr.mk.injEq, Value.agg.injEq, Array.mk.injEq, and_true, true_and] at hs
      obtain ⟨rfl, ⟨rfl, rfl, rfl⟩, rfl⟩ := hs
      refine POk.of rfl fun γ W args' hw hR ha => ?_
      obtain ⟨b, k', p1, p2, p3⟩ := own_mem hw hR hget (okL2_E E hl) rfl rfl ha
      exact ⟨memW W, _, memW_ro W, p1, fC_ok (memW W) (memW_tab hm hR) m h1 hm10 E hE hl b k' 0 (rowE p2)⟩
    · cases hg
  · cases hg
theorem qu_m {m : Nat} (hm10 : m ≤ 10) {E : List (Nat × Nat)} (hE : okAll (m : Int) (zE E) E.length = true) {t : Nat} (ht : t < 2 ^ m) : quN (w10 E) t 10 = quN (fun k => (nbN m (zE E) E.length).getD k 0) t m := by
  have h3 := okAll_at hE
  have := quN_cut (w := w10 E) (w' := fun k => (nbN m (zE E) E.length).getD k 0) ht (fun i hi => nb_ext hm10 (zE E) E.length (fun i hi => h3 i hi) i hi) (10 - m)
  rwa [show m + (10 - m) = 10 by omega] at this
theorem eQo_ok (r : Mem) {m : Nat} (hm10 : m ≤ 10) {E : List (Nat × Nat)} (hE : okAll (m : Int) (zE E) E.length = true) : EOk (SC r) 11 (eQo m (m_ws (nbN m (zE E) E.length)) (qbF m E)) := EOk.ent fun args A hg => by
  split at hg
  · rename_i i k l cap s
    split at hg
    · rename_i c' e f z hget
      simp only [Bool.and_eq_true, Bool.not_eq_true', decide_eq_false_iff_not] at hg
      have hs := @of_decide_eq_true _ (Classical.propDecidable _) hg.1
      simp only [List.cons.injEq, Value.slice.injEq, Option.some.injEq, Addr.mk.injEq, Value.agg.injEq, Array.mk.injEq, and_true, true_and] at hs
      obtain ⟨⟨rfl, e1, e2⟩, e3⟩ := hs
      subst e1 e2 e3
      have hr1 := hg.2.1
      have hr2 := hg.2.2
      rw [all_eq (by omega)] at hr2
      refine POk.of rfl fun γ W args' hw hR ha => ?_
      obtain ⟨b, k', p1, p2⟩ := own_ws hw hR (by omega) (nbN_len _ (zE E) E.length) hget rfl ha
      have h3 := okAll_at hE
      have hlt := nbN_lt cap (zE E) (n := (cap : Int)) (by omega) E.length fun i hi => h3 i hi
      have hpos := Nat.two_pow_pos cap
      have hA2 : 2 ^ cap ≤ 1024 := Nat.pow_le_pow_right (n := 2) (by decide) hm10
      have := rquiet_ok (memW W) b k' cap 0 (fun k => (nbN cap (zE E) E.length).getD k 0) p2 (fun k _ => getD_lt hlt k) (by omega) s.toNat (by omega)
      rw [← qu_m hm10 hE (t := s.toNat) (by omega), show ((s.toNat : Nat) : Int) = s by omega] at this
      refine ⟨memW W, _, memW_ro W, p1, ?_⟩
      show GrT _ _ _ _ (.bool (qbF cap E s))
      unfold qbF
      rw [show inA (2 ^ cap - 1) s = true from by unfold inA; rw [dT (show 0 ≤ s by omega), dT (show s ≤ ((2 ^ cap - 1 : Nat) : Int) by omega)]; rfl, Bool.true_and]
      exact this
    · cases hg
  · cases hg
theorem eCo_ok (r : Mem) {m : Nat} (hm10 : m ≤ 10) {E : List (Nat × Nat)} (hE : okAll (m : Int) (zE E) E.length = true) : EOk (SC r) 13 (eCo m (m_ws (nbN m (zE E) E.length)) (cvF m E)) := EOk.ent fun args A hg => by
  split at hg
  · rename_i i k l cap
    split at hg
    · rename_i c' e f z hget
      have hs := @of_decide_eq_true _ (Classical.propDecidable _) hg
      simp only [List.cons.injEq, Value.slice.injEq, Option.some.injEq, Addr.mk.injEq, Value.agg.injEq, Array.mk.injEq, and_true, true_and] at hs
      obtain ⟨⟨rfl, e1, e2⟩, e3⟩ := hs
      subst e1 e2 e3
      refine POk.of rfl fun γ W args' hw hR ha => ?_
      obtain ⟨b, k', p1, p2⟩ := own_ws hw hR (by omega) (nbN_len _ (zE E) E.length) hget rfl ha
      have h3 := okAll_at hE
      have hlt := nbN_lt cap (zE E) (n := (cap : Int)) (by omega) E.length fun i hi => h3 i hi
      have := rcover_ok (memW W) b k' cap 0 hm10 (fun k => (nbN cap (zE E) E.length).getD k 0) p2 (fun k _ => getD_lt hlt k)
      refine ⟨memW W, _, memW_ro W, p1, ?_⟩
      show GrT _ _ _ _ (I (cvF cap E))
      unfold cvF
      rw [cv_congr (q' := fun s => quN (fun k => (nbN cap (zE E) E.length).getD k 0) s cap) (fun k _ => qu_m hm10 hE (an_lt (all_lt cap))) _ (by omega)]
      exact this
    · cases hg
  · cases hg

def kQ1 (m : Nat) (p : Nat × Nat) (l : List (Nat × Nat)) (i : Nat) : OV → List Nat → OO → Prop := fun vs ms os => ∃ set : Int, vs = vC1 m (l.length + 1) set (i : Nat) ∧ ms = [] ∧ os = oC1 (pcE (p :: l)) (m_ws (nbN m (zE (p :: l)) (p :: l).length))
theorem cov1 (r : Mem) (hm : Tab r) (m : Nat) (h1 : 1 ≤ m) (hm10 : m ≤ 10) (p : Nat × Nat) (l : List (Nat × Nat)) (a0 args : List Value) (hle : Nat.ble args.length 81 = true)
    (htm : TOk (SC r) (tFc1 a0 m (l.length + 1) (pcE (p :: l)) (m_ws (nbN m (zE (p :: l)) (p :: l).length)) (qbF m (p :: l)) (qeF m) (cvF m (p :: l))))
    (hpre : run (SC r) 16327 81 1 (.seq Fc_0 (.seq Fc_1 (.seq Fc_2 Fc_3))) (lvlT (SC r) (tFc1 a0 m (l.length + 1) (pcE (p :: l)) (m_ws (nbN m (zE (p :: l)) (p :: l).length)) (qbF m (p :: l)) (qeF m) (cvF m (p :: l))) .nil 1 1) none (Outs.ask 0 ⟨lvFc, [], fun vs ms os => ∃ j i : Nat, i ≤ 2 ∧ j = 2 - i ∧ kQ1 m p l i vs ms os⟩) (fun _ => Outs.no.ask 0) (oTrue.ask 0) (sc0 16327 args) (tr0 16327 args) [] emptyA = okR) :
    SOk (SC r) 3 args emptyA fun v _ => v = .bool true := by
  have sm : ∀ l : List Value, m_same l l = true := same_rfl
  have eA : m_all (Int.ofNat m) = ((2 ^ m - 1 : Nat) : Int) := all_eq (by omega)
  refine callL (SC_ok r) (by kernel_rfl) ((bodySC r _).trans Fc_eq) (nt := 81) (by kernel_rfl) (rs := [.tmp 6]) (by kernel_rfl) 16327 hle (.step (.step (.step .base))) htm (tm := .nil) (L := 1) (d := 1) lvFc []
    (fun j vs ms os => ∃ i : Nat, i ≤ 2 ∧ j = 2 - i ∧ kQ1 m p l i vs ms os) ⟨lvFc, [], fun vs ms os => ∃ i : Nat, kQ1 m p l i vs ms os⟩ oTrue hpre ?_ ?_ ?_
  · rintro j vs ms os ⟨i, hi, rfl, set, rfl, rfl, rfl⟩
    refine ⟨_, htm, .nil, 1, 1, 1, ?_⟩
    have hn := gc1 r a0 i set m (l.length + 1) (pcE (p :: l)) (m_ws (nbN m (zE (p :: l)) (p :: l).length)) (qbF m (p :: l)) (qeF m) (cvF m (p :: l))
    by_cases c : i < 2
    · have e3 : IntKind.wrap IntKind.i64 ((i : Int) + Int.ofNat 1) = ((i + 1 : Nat) : Int) := by rw [wrI (by simp; omega)]; simp
      have hQ : ∀ x : Int, ∃ j', j' < 2 - i ∧ ∃ i' : Nat, i' ≤ 2 ∧ j' = 2 - i' ∧ kQ1 m p l i' (vC1 m (l.length + 1) x ((i + 1 : Nat) : Int)) [] (oC1 (pcE (p :: l)) (m_ws (nbN m (zE (p :: l)) (p :: l).length))) := fun x => ⟨2 - (i + 1), by omega, i + 1, by omega, rfl, x, rfl, rfl, rfl⟩
      have mn := mod_ne hm10
      simp only [dT (show (i : Int) < 2 by omega), sm, mn, Bool.true_and, Bool.and_true, pcE_nn, ws_nn, cond_true, e3, eA] at hn
      simp only [eA] at mn
      simp only [mn, cond_true] at hn
      by_cases a1 : set < 0
      · have q1 : inA (2 ^ m - 1) set = false := by unfold inA; rw [dF (show ¬ 0 ≤ set by omega)]; rfl
        have q2 : qbF m (p :: l) set = false := by unfold qbF; rw [q1]; rfl
        have q3 : (qeF m set != Int.ofNat 1) = false := by unfold qeF; rw [q1]; rfl
        simp only [dT a1, q2, q3, cond_true, cond_false] at hn
        exact (hn _ _ _).trans (qq_ok (hQ _))
      · by_cases a2 : set > ((2 ^ m - 1 : Nat) : Int)
        · have q1 : inA (2 ^ m - 1) set = false := by unfold inA; rw [dF (show ¬ set ≤ ((2 ^ m - 1 : Nat) : Int) by omega)]; simp
          have q2 : qbF m (p :: l) set = false := by unfold qbF; rw [q1]; rfl
          have q3 : (qeF m set != Int.ofNat 1) = false := by unfold qeF; rw [q1]; rfl
          simp only [dF a1, dT a2, q2, q3, cond_true, cond_false] at hn
          exact (hn _ _ _).trans (qq_ok (hQ _))
        · have q1 : inA (2 ^ m - 1) set = true := by unfold inA; rw [dT (show 0 ≤ set by omega), dT (show set ≤ ((2 ^ m - 1 : Nat) : Int) by omega)]; rfl
          have q3 : (qeF m set != Int.ofNat 0) = false := by unfold qeF; rw [q1]; rfl
          simp only [dF a1, dF a2, q3, Bool.not_false, Bool.and_self, cond_true, cond_false] at hn
          cases q2 : qbF m (p :: l) set with
          | true =>
            simp only [q2, cond_true] at hn
            exact (hn _ _ _).trans (qq_ok (hQ _))
          | false =>
            simp only [q2, cond_false] at hn
            exact (hn _ _ _).trans (qq_ok (hQ _))
    · simp only [dF (show ¬ (i : Int) < 2 by omega), cond_false, pcE_nn, ws_nn, Bool.and_true, cond_true] at hn
      exact (hn _ _ _).trans (qq_ok ⟨i, set, rfl, rfl, rfl⟩)
  · rintro vs ms os ⟨i, set, rfl, rfl, rfl⟩
    refine ⟨_, htm, .nil, 1, 1, 1, ?_⟩
    have hn := gd1 r a0 i set m (l.length + 1) (pcE (p :: l)) (m_ws (nbN m (zE (p :: l)) (p :: l).length)) (qbF m (p :: l)) (qeF m) (cvF m (p :: l))
    simp only [sm, Bool.true_and, Bool.and_true, beq_self_eq_true, cond_true] at hn
    exact (hn _ _ _).trans (qq_ok ⟨rfl, rfl, rfl⟩)
  · rintro vs ms os ⟨rfl, rfl, rfl⟩
    exact ⟨_, mkA [], by kernel_rfl, rfl⟩

def kQ0 (m : Nat)  (i : Nat) : OV → List Nat → OO → Prop := fun vs ms os => ∃ set : Int, vs = vC0 m set (i : Nat) ∧ ms = [] ∧ os = oC0 (m_ws (nbN m (zE []) 0))
theorem cov0 (r : Mem) (hm : Tab r) (m : Nat) (h1 : 1 ≤ m) (hm10 : m ≤ 10)  (a0 args : List Value) (hle : Nat.ble args.length 81 = true)
    (htm : TOk (SC r) (tFc0 a0 m (m_ws (nbN m (zE []) 0)) (qbF m []) (qeF m) (cvF m [])))
    (hpre : run (SC r) 16327 81 1 (.seq Fc_0 (.seq Fc_1 (.seq Fc_2 Fc_3))) (lvlT (SC r) (tFc0 a0 m (m_ws (nbN m (zE []) 0)) (qbF m []) (qeF m) (cvF m [])) .nil 1 1) none (Outs.ask 0 ⟨lvFc, [], fun vs ms os => ∃ j i : Nat, i ≤ 2 ∧ j = 2 - i ∧ kQ0 m i vs ms os⟩) (fun _ => Outs.no.ask 0) (oTrue.ask 0) (sc0 16327 args) (tr0 16327 args) [] emptyA = okR) :
    SOk (SC r) 3 args emptyA fun v _ => v = .bool true := by
  have sm : ∀ l : List Value, m_same l l = true := same_rfl
  have eA : m_all (Int.ofNat m) = ((2 ^ m - 1 : Nat) : Int) := all_eq (by omega)
  refine callL (SC_ok r) (by kernel_rfl) ((bodySC r _).trans Fc_eq) (nt := 81) (by kernel_rfl) (rs := [.tmp 6]) (by kernel_rfl) 16327 hle (.step (.step (.step .base))) htm (tm := .nil) (L := 1) (d := 1) lvFc []
    (fun j vs ms os => ∃ i : Nat, i ≤ 2 ∧ j = 2 - i ∧ kQ0 m i vs ms os) ⟨lvFc, [], fun vs ms os => ∃ i : Nat, kQ0 m i vs ms os⟩ oTrue hpre ?_ ?_ ?_
  · rintro j vs ms os ⟨i, hi, rfl, set, rfl, rfl, rfl⟩
    refine ⟨_, htm, .nil, 1, 1, 1, ?_⟩
    have hn := gc0 r a0 i set m (m_ws (nbN m (zE []) 0)) (qbF m ([] : List (Nat × Nat))) (qeF m) (cvF m ([] : List (Nat × Nat)))
    by_cases c : i < 2
    · have e3 : IntKind.wrap IntKind.i64 ((i : Int) + Int.ofNat 1) = ((i + 1 : Nat) : Int) := by rw [wrI (by simp; omega)]; simp
      have hQ : ∀ x : Int, ∃ j', j' < 2 - i ∧ ∃ i' : Nat, i' ≤ 2 ∧ j' = 2 - i' ∧ kQ0 m i' (vC0 m x ((i + 1 : Nat) : Int)) [] (oC0 (m_ws (nbN m (zE []) 0))) := fun x => ⟨2 - (i + 1), by omega, i + 1, by omega, rfl, x, rfl, rfl, rfl⟩
      have mn := mod_ne hm10
      simp only [dT (show (i : Int) < 2 by omega), sm, mn, Bool.true_and, Bool.and_true, nn5, ws_nn, cond_true, e3, eA] at hn
      simp only [eA] at mn
      simp only [mn, cond_true] at hn
      by_cases a1 : set < 0
      · have q1 : inA (2 ^ m - 1) set = false := by unfold inA; rw [dF (show ¬ 0 ≤ set by omega)]; rfl
        have q2 : qbF m ([] : List (Nat × Nat)) set = false := by unfold qbF; rw [q1]; rfl
        have q3 : (qeF m set != Int.ofNat 1) = false := by unfold qeF; rw [q1]; rfl
        simp only [dT a1, q2, q3, cond_true, cond_false] at hn
        exact (hn _ _ _).trans (qq_ok (hQ _))
      · by_cases a2 : set > ((2 ^ m - 1 : Nat) : Int)
        · have q1 : inA (2 ^ m - 1) set = false := by unfold inA; rw [dF (show ¬ set ≤ ((2 ^ m - 1 : Nat) : Int) by omega)]; simp
          have q2 : qbF m ([] : List (Nat × Nat)) set = false := by unfold qbF; rw [q1]; rfl
          have q3 : (qeF m set != Int.ofNat 1) = false := by unfold qeF; rw [q1]; rfl
          simp only [dF a1, dT a2, q2, q3, cond_true, cond_false] at hn
          exact (hn _ _ _).trans (qq_ok (hQ _))
        · have q1 : inA (2 ^ m - 1) set = true := by unfold inA; rw [dT (show 0 ≤ set by omega), dT (show set ≤ ((2 ^ m - 1 : Nat) : Int) by omega)]; rfl
          have q3 : (qeF m set != Int.ofNat 0) = false := by unfold qeF; rw [q1]; rfl
          simp only [dF a1, dF a2, q3, Bool.not_false, Bool.and_self, cond_true, cond_false] at hn
          cases q2 : qbF m ([] : List (Nat × Nat)) set with
          | true =>
            simp only [q2, cond_true] at hn
            exact (hn _ _ _).trans (qq_ok (hQ _))
          | false =>
            simp only [q2, cond_false] at hn
            exact (hn _ _ _).trans (qq_ok (hQ _))
    · simp only [dF (show ¬ (i : Int) < 2 by omega), cond_false, nn5, ws_nn, Bool.and_true, cond_true] at hn
      exact (hn _ _ _).trans (qq_ok ⟨i, set, rfl, rfl, rfl⟩)
  · rintro vs ms os ⟨i, set, rfl, rfl, rfl⟩
    refine ⟨_, htm, .nil, 1, 1, 1, ?_⟩
    have hn := gd0 r a0 i set m (m_ws (nbN m (zE []) 0)) (qbF m ([] : List (Nat × Nat))) (qeF m) (cvF m ([] : List (Nat × Nat)))
    simp only [sm, Bool.true_and, Bool.and_true, beq_self_eq_true, cond_true] at hn
    exact (hn _ _ _).trans (qq_ok ⟨rfl, rfl, rfl⟩)
  · rintro vs ms os ⟨rfl, rfl, rfl⟩
    exact ⟨_, mkA [], by kernel_rfl, rfl⟩

theorem coversR (r : Mem) (hm : Tab r) (n set : Int) (b off len cap : Nat) (z : Nat → Int) (hz : rowAt r b off (2 * len) z) : GrT Tryd.prog r 3 [I n, RS2 b off len cap, I set] (.bool true) := by
  have sm : ∀ l : List Value, m_same l l = true := same_rfl
  have hg := gM_ok n (most := 10) (by decide) (by decide)
  have ht := tame_row r n 10 (by decide) (by decide) b off len cap z hz
  have hE := gE_ok n 10 len z
  have hL := gE_len n 10 len z (by decide) (by decide)
  generalize gE n 10 len z = E at ht hE hL
  generalize gM n 10 = m at ht hE hg
  have h1 := hg.1
  have hm10 : m ≤ 10 := by omega
  cases E with
  | nil =>
    refine GrT.ofS (C := SC r) rfl rfl rfl (cov0 r hm m h1 hm10 [I n, RS2 b off len cap, I 10] _ rfl (TOk.cons (TOk.cons (TOk.cons (TOk.cons (TOk.cons (TOk.cons (TOk.cons (TOk.cons TOk.nil (eAl_ok r (by omega))) (eCo_ok r hm10 (E := []) rfl)) (eQo_ok r hm10 (E := []) rfl)) (entV_ok (fCN_ok r hm m h1 hm10) rfl)) (eQ0_ok r hm h1 hm10)) (eOf0_ok r h1 hm10)) (entV_ok (tm0_ok r ht) rfl)) (e0_ok (awake8.less hm))) ?_)
    have hn := gpR0 r n set b off len cap m (m_ws (nbN m (zE []) 0)) (qbF m []) (qeF m) (cvF m [])
    simp only [sm, ws_nn, Bool.and_true, cond_true] at hn
    exact (hn _ _ _).trans (qq_ok ⟨2, 0, by omega, rfl, set, rfl, rfl, rfl⟩)
  | cons p l =>
    refine GrT.ofS (C := SC r) rfl rfl rfl (cov1 r hm m h1 hm10 p l [I n, RS2 b off len cap, I 10] _ rfl (TOk.cons (TOk.cons (TOk.cons (TOk.cons (TOk.cons (TOk.cons (TOk.cons (TOk.cons TOk.nil (eAl_ok r (by omega))) (eCo_ok r hm10 hE)) (eQo_ok r hm10 hE)) (eC1_ok r hm h1 hm10 hE hL)) (eQ1_ok r hm h1 hm10 hE hL)) (eOf1_ok r h1 hm10 hE hL)) (eTm1_ok r rfl ht)) (e0_ok (awake8.less hm))) ?_)
    have hn := gpR1 r n set b off len cap m (l.length + 1) (pcE (p :: l)) (m_ws (nbN m (zE (p :: l)) (p :: l).length)) (qbF m (p :: l)) (qeF m) (cvF m (p :: l))
    simp only [sm, pcE_nn, ws_nn, Bool.and_true, cond_true] at hn
    exact (hn _ _ _).trans (qq_ok ⟨2, 0, by omega, rfl, set, rfl, rfl, rfl⟩)
theorem coversN (r : Mem) (hm : Tab r) (n set : Int) : GrT Tryd.prog r 3 [I n, .slice none 0 0, I set] (.bool true) := by
  have sm : ∀ l : List Value, m_same l l = true := same_rfl
  have hg := gM_ok n (most := 10) (by decide) (by decide)
  have ht := tame_nil r n 10 (by decide) (by decide) fun _ => 0
  have hE := gE_ok n 10 0 (fun _ => 0)
  have hL := gE_len n 10 0 (fun _ => 0) (by decide) (by decide)
  generalize gE n 10 0 (fun _ => 0) = E at ht hE hL
  generalize gM n 10 = m at ht hE hg
  have h1 := hg.1
  have hm10 : m ≤ 10 := by omega
  cases E with
  | nil =>
    refine GrT.ofS (C := SC r) rfl rfl rfl (cov0 r hm m h1 hm10 [I n, .slice none 0 0, I 10] _ rfl (TOk.cons (TOk.cons (TOk.cons (TOk.cons (TOk.cons (TOk.cons (TOk.cons (TOk.cons TOk.nil (eAl_ok r (by omega))) (eCo_ok r hm10 (E := []) rfl)) (eQo_ok r hm10 (E := []) rfl)) (entV_ok (fCN_ok r hm m h1 hm10) rfl)) (eQ0_ok r hm h1 hm10)) (eOf0_ok r h1 hm10)) (entV_ok (tm0_ok r ht) rfl)) (e0_ok (awake8.less hm))) ?_)
    have hn := gpN0 r n set m (m_ws (nbN m (zE []) 0)) (qbF m []) (qeF m) (cvF m [])
    simp only [sm, ws_nn, Bool.and_true, cond_true] at hn
    exact (hn _ _ _).trans (qq_ok ⟨2, 0, by omega, rfl, set, rfl, rfl, rfl⟩)
  | cons p l =>
    refine GrT.ofS (C := SC r) rfl rfl rfl (cov1 r hm m h1 hm10 p l [I n, .slice none 0 0, I 10] _ rfl (TOk.cons (TOk.cons (TOk.cons (TOk.cons (TOk.cons (TOk.cons (TOk.cons (TOk.cons TOk.nil (eAl_ok r (by omega))) (eCo_ok r hm10 hE)) (eQo_ok r hm10 hE)) (eC1_ok r hm h1 hm10 hE hL)) (eQ1_ok r hm h1 hm10 hE hL)) (eOf1_ok r h1 hm10 hE hL)) (eTm1_ok r rfl ht)) (e0_ok (awake8.less hm))) ?_)
    have hn := gpN1 r n set m (l.length + 1) (pcE (p :: l)) (m_ws (nbN m (zE (p :: l)) (p :: l).length)) (qbF m (p :: l)) (qeF m) (cvF m (p :: l))
    simp only [sm, pcE_nn, ws_nn, Bool.and_true, cond_true] at hn
    exact (hn _ _ _).trans (qq_ok ⟨2, 0, by omega, rfl, set, rfl, rfl, rfl⟩)

theorem law_covers (r : Mem) (hm : ∀ b j u, tabM b j = some u → r b j = some u) (u0 u1 u2 : Value) (s0 : ArgInt .i64 u0) (s1 : ArgRowT r 2 (ArgInt .i64) u1) (s2 : ArgInt .i64 u2) : GrT Tryd.prog r 3 [u0, u1, u2] (.bool true) := by
  obtain ⟨n, rfl, _⟩ := s0
  obtain ⟨set, rfl, _⟩ := s2
  cases s1 with
  | nil => exact coversN r hm n set
  | row b off len cap hl hc h =>
    refine coversR r hm n set b off len cap (fun j => ofI ((r b (off + j)).getD undef)) fun j hj => ?_
    obtain ⟨u, hu, z, rfl, _⟩ := h j (by omega)
    show r b (off + j) = some (I (ofI ((r b (off + j)).getD undef)))
    rw [hu]
    rfl

end Go.Proofs

