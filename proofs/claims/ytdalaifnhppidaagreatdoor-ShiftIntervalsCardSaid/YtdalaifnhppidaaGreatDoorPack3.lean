/- What the claim is proved with, part 3: the evaluator and the contracts of the calls. -/
import Derived.Test.YtdalaifnhppidaaGreatDoorPack2
import Derived.Test.YtdalaifnhppidaaGreatDoorPack1
set_option linter.unusedVariables false
set_option linter.unusedSimpArgs false
set_option maxRecDepth 100000
namespace Go.Proofs
open Go Go.Ev Go.Num
noncomputable def cCn : Code := bodyOf S0 17
noncomputable def Cn_0 : Code := (lc cCn)
noncomputable def Cn_1 : Code := (lc (rc cCn))
noncomputable def Cn_2 : Code := (lc (rc (rc cCn)))
noncomputable def Cn_3 : Code := (lc (lc (rc (rc (rc cCn)))))
noncomputable def Cn_4 : Code := (lc (ic (ic (rc (lc (rc (rc (rc cCn))))))))
noncomputable def Cn_5 : Code := (lc (ic (lc (rc (ic (ic (rc (lc (rc (rc (rc cCn)))))))))))
noncomputable def Cn_6 : Code := (lc (lc (rc (ic (lc (rc (ic (ic (rc (lc (rc (rc (rc cCn)))))))))))))
noncomputable def Cn_7 : Code := (ic (ic (rc (lc (rc (ic (lc (rc (ic (ic (rc (lc (rc (rc (rc cCn)))))))))))))))
noncomputable def Cn_8 : Code := (rc (rc (ic (lc (rc (ic (ic (rc (lc (rc (rc (rc cCn))))))))))))
noncomputable def Cn_9 : Code := (rc (rc (ic (ic (rc (lc (rc (rc (rc cCn)))))))))
noncomputable def Cn_10 : Code := (rc (rc (rc (rc cCn))))
theorem Cn_eq : cCn = (.seq Cn_0 (.seq Cn_1 (.seq Cn_2 (.seq (.seq Cn_3 (.block 0 (.loop (.seq Cn_4 (.seq (.block 1 (.seq Cn_5 (.seq (.seq Cn_6 (.block 2 (.loop Cn_7))) Cn_8))) Cn_9))))) Cn_10)))) := by kernel_rfl
noncomputable def cHs : Code := bodyOf S0 11
noncomputable def Hs_0 : Code := (lc cHs)
noncomputable def Hs_1 : Code := (lc (rc cHs))
noncomputable def Hs_2 : Code := (lc (rc (rc cHs)))
noncomputable def Hs_3 : Code := (lc (lc (rc (rc (rc cHs)))))
noncomputable def Hs_4 : Code := (lc (ic (ic (rc (lc (rc (rc (rc cHs))))))))
noncomputable def Hs_5 : Code := (lc (ic (lc (rc (ic (ic (rc (lc (rc (rc (rc cHs)))))))))))
noncomputable def Hs_6 : Code := (lc (ic (ic (rc (ic (lc (rc (ic (ic (rc (lc (rc (rc (rc cHs))))))))))))))
noncomputable def Hs_7 : Code := (lc (ic (lc (rc (ic (ic (rc (ic (lc (rc (ic (ic (rc (lc (rc (rc (rc cHs)))))))))))))))))
noncomputable def Hs_8 : Code := (lc (ic (ic (rc (ic (lc (rc (ic (ic (rc (ic (lc (rc (ic (ic (rc (lc (rc (rc (rc cHs))))))))))))))))))))
noncomputable def Hs_9 : Code := (lc (ic (lc (rc (ic (ic (rc (ic (lc (rc (ic (ic (rc (ic (lc (rc (ic (ic (rc (lc (rc (rc (rc cHs)))))))))))))))))))))))
noncomputable def Hs_10 : Code := (ic (ic (rc (ic (lc (rc (ic (ic (rc (ic (lc (rc (ic (ic (rc (ic (lc (rc (ic (ic (rc (lc (rc (rc (rc cHs)))))))))))))))))))))))))
noncomputable def Hs_11 : Code := (rc (rc (ic (ic (rc (ic (lc (rc (ic (ic (rc (ic (lc (rc (ic (ic (rc (lc (rc (rc (rc cHs)))))))))))))))))))))
noncomputable def Hs_12 : Code := (rc (rc (ic (ic (rc (ic (lc (rc (ic (ic (rc (lc (rc (rc (rc cHs)))))))))))))))
noncomputable def Hs_13 : Code := (rc (rc (ic (ic (rc (lc (rc (rc (rc cHs)))))))))
noncomputable def Hs_14 : Code := (rc (rc (rc (rc cHs))))
theorem Hs_eq : cHs = (.seq Hs_0 (.seq Hs_1 (.seq Hs_2 (.seq (.seq Hs_3 (.block 0 (.loop (.seq Hs_4 (.seq (.block 1 (.seq Hs_5 (.block 2 (.loop (.seq Hs_6 (.seq (.block 3 (.seq Hs_7 (.block 4 (.loop (.seq Hs_8 (.seq (.block 5 (.seq Hs_9 (.block 6 (.loop Hs_10)))) Hs_11)))))) Hs_12)))))) Hs_13))))) Hs_14)))) := by kernel_rfl
noncomputable def cPz : Code := bodyOf S0 16
noncomputable def Pz_0 : Code := (lc cPz)
noncomputable def Pz_1 : Code := (lc (rc cPz))
noncomputable def Pz_2 : Code := (lc (lc (rc (rc cPz))))
noncomputable def Pz_3 : Code := (ic (ic (rc (lc (rc (rc cPz))))))
noncomputable def Pz_4 : Code := (rc (rc (rc cPz)))
theorem Pz_eq : cPz = (.seq Pz_0 (.seq Pz_1 (.seq (.seq Pz_2 (.block 0 (.loop Pz_3))) Pz_4))) := by kernel_rfl
def lvCn : List Nat := [0, 3, 4, 5]
def vCn (b off n cap q : Nat) (o : Value) (x : Nat) : OV := [some (RS b off n cap), some (gx 0 q), some o, some (I (x : Nat))]
def lvCm : List Nat := [0, 3, 4, 5, 6, 7]
def vCm (b off n cap q : Nat) (o : Value) (x j k : Nat) : OV := [some (RS b off n cap), some (gx 0 q), some o, some (I (x : Nat)), some (pq j), some (I (k : Nat))]
def lvCo : List Nat := [0, 3, 4, 5, 6]
def vCo (b off n cap q : Nat) (o : Value) (x j : Nat) : OV := [some (RS b off n cap), some (gx 0 q), some o, some (I (x : Nat)), some (pq j)]
def oBx2 (a e : Nat) (i : Nat) : Option AObj := some (.cells [I (a : Nat), I (e : Nat)] 71 i 0)
noncomputable def tCb (s : Value) (n : Nat) (w : Nat → Nat) : Tbl := tcons 42 (eBe s n w) fun _ => none
def mCn : Nat := 253
def mHs : Nat := 4093
def mPz : Nat := 51
noncomputable def m_q4 (s o : Value) (n : Nat) (a b c d : Int) : Bool := @decide (o = s ∧ (0 ≤ a ∧ a < n) ∧ (0 ≤ b ∧ b < n) ∧ (0 ≤ c ∧ c < n) ∧ (0 ≤ d ∧ d < n)) (Classical.propDecidable _)
def m_f4 (f : Nat → Nat → Nat → Nat → Bool) (a b c d : Int) : Bool := f a.toNat b.toNat c.toNat d.toNat
noncomputable def eQ4 (s : Value) (n : Nat) (f : Nat → Nat → Nat → Nat → Bool) : Ent := ent (fun args _ => match args with
 | [o, .agg ⟨[.int .i64 a, .int .i64 b, .int .i64 c, .int .i64 d]⟩] => m_q4 s o n a b c d
 | _ => false) fun args _ => match args with
 | [_, .agg ⟨[.int .i64 a, .int .i64 b, .int .i64 c, .int .i64 d]⟩] => .bool (m_f4 f a b c d)
 | _ => undef
noncomputable def tHs (s : Value) (n : Nat) (f g : Nat → Nat → Nat → Nat → Bool) : Tbl := tcons 13 (eQ4 s n f) (tcons 21 (eQ4 s n g) fun _ => none)
def lvH0 : List Nat := [0, 4, 5, 6, 7]
def lvH1 : List Nat := [0, 4, 5, 6, 7, 8]
def lvH2 : List Nat := [0, 4, 5, 6, 7, 8, 9]
def lvH3 : List Nat := [0, 4, 5, 6, 7, 8, 9, 10]
def vH0 (b off n cap : Nat) (u v : Bool) (x : Nat) : OV := [some (RS b off n cap), some (I (n : Nat)), some (.bool u), some (.bool v), some (I (x : Nat))]
def vH1 (b off n cap : Nat) (u v : Bool) (x y : Nat) : OV := vH0 b off n cap u v x ++ [some (I (y : Nat))]
def vH2 (b off n cap : Nat) (u v : Bool) (x y z : Nat) : OV := vH1 b off n cap u v x y ++ [some (I (z : Nat))]
def vH3 (b off n cap : Nat) (u v : Bool) (x y z t : Nat) : OV := vH2 b off n cap u v x y z ++ [some (I (t : Nat))]
def lvPz : List Nat := [0, 1, 5]
def vPz (b off n cap b2 o2 c2 k : Nat) : OV := [some (RS2 b off n cap), some (RS2 b2 o2 n c2), some (I (k : Nat))]
theorem cnA (r : Mem) (b off n cap q : Nat) (c : List Value) (K : KO) (kx : Nat → KS) (kr : KS) : run (SC r) mCn 47 1 (.seq Cn_0 (.seq Cn_1 (.seq Cn_2 Cn_3))) (lvlT (SC r) (tRm (RS b off n cap) q c) .nil 1 1) none (rbK 0 lvCn [] K) kx kr (sc0 mCn [RS b off n cap]) (tr0 mCn [RS b off n cap]) [] emptyA =
    bif m_svv [RS b off n cap] [RS b off n cap] then bif m_nns c && true then K [some (RS b off n cap), some (gx 0 q), some (.slice none 0 0), some (I (Int.ofNat 0))] [] [some (.cells c 3 0 1)] else F4 else F4 := by kernel_rfl
theorem cnBn (r : Mem) (b off n cap q x : Nat) (c : List Value) (fs : FnsC) (K : KO) (KX : Nat → KO) (kr : KS) : run (SC r) mCn 47 1 Cn_4 fs none (rbK 0 lvCn [] K) (fun j => rbK 0 [4] [] (KX j)) kr [] (bT lvCn (vCn b off n cap q nilT x) .nil) [] (mkA [oI1 c 0]) =
    bif decide (Int.ofNat x < Int.ofNat n) then bif m_nns c && true then K [some (RS b off n cap), some (gx 0 q), some (.slice none 0 0), some (I (Int.ofNat x))] [] [some (.cells c 3 0 1)] else F4 else KX 0 [some (.slice none 0 0)] [] [] := by kernel_rfl
theorem cnCn (r : Mem) (b off n cap q x : Nat) (c : List Value) (fs : FnsC) (K : KO) (kx : Nat → KS) (kr : KS) : run (SC r) mCn 47 1 (.seq Cn_5 Cn_6) fs none (rbK 0 lvCm [] K) kx kr [] (bT lvCn (vCn b off n cap q nilT x) .nil) [] (mkA [oI1 c 0]) =
    bif m_nns c && true then K [some (RS b off n cap), some (gx 0 q), some (.slice none 0 0), some (I (Int.ofNat x)), some (pq 1), some (I (Int.ofNat 0))] [] [some (.cells c 3 0 1), some (.cells [I (Int.ofNat 0), I (Int.ofNat 0)] 71 1 0)] else F4 := by kernel_rfl
theorem cnDn (r : Mem) (b off n cap q x k : Nat) (c : List Value) (a0 a1 : Nat) (w : Nat → Nat) (K : KO) (KX : Nat → KO) (kr : KS) : run (SC r) mCn 47 1 Cn_7 (lvlT (SC r) (tCb (RS b off n cap) n w) .nil 1 1) none (rbK 0 lvCm [] K) (fun j => rbK 0 lvCo [] (KX j)) kr [] (bT lvCm (vCm b off n cap q nilT x 1 k) .nil) [] (mkA [oI1 c 0, oBx2 a0 a1 1]) =
    bif decide (Int.ofNat k < Int.ofNat q) then bif Nat.blt (Int.toNat (Int.ofNat k)) q then Option.casesOn c[Nat.add 0 (Nat.mul (Int.toNat (Int.ofNat k)) 1)]? (.fail 423) fun val => bif isI IntKind.i64 val then bif m_bg (RS b off n cap) n (RS b off n cap) (Int.ofNat x) then bif ofI val == m_ow w (Int.ofNat x) then Option.casesOn c[Nat.add 0 (Nat.mul (Int.toNat (Int.ofNat k)) 1)]? (.fail 423) fun val_1 => bif isI IntKind.i64 val_1 then bif m_eqv (I (ofI val_1)) (I (ofI val)) then Option.casesOn c[Nat.add 0 (Nat.mul (Int.toNat (Int.ofNat k)) 1)]? (.fail 423) fun val_2 => bif isI IntKind.i64 val_2 then bif m_eqv (I (ofI val_2)) (I (ofI val)) then bif Nat.blt (Int.toNat (Int.ofNat k)) q then Option.casesOn c[Nat.add 0 (Nat.mul (Int.toNat (Int.ofNat k)) 1)]? (.fail 423) fun val => bif isI IntKind.i64 val then bif Int.tmod (Int.fdiv (ofI val) (Int.ofNat 2 ^ min (Int.toNat (Int.ofNat x)) 64)) (Int.ofNat 2) == Int.ofNat 0 then bif m_nns c && (m_nns [I (Int.ofNat k), I (Int.ofNat k)] && true) then K [some (RS b off n cap), some (gx 0 q), some (.slice none 0 0), some (I (Int.ofNat x)), some (pq 1), some (I (IntKind.wrap .i64 (Int.ofNat k + Int.ofNat 1)))] [] [some (.cells c 3 0 1), some (.cells [I (Int.ofNat k), I (Int.ofNat k)] 71 1 0)] else F4 else bif m_nns c && (m_nns [I (Int.ofNat k), I (Int.ofNat a1)] && true) then K [some (RS b off n cap), some (gx 0 q), some (.slice none 0 0), some (I (Int.ofNat x)), some (pq 1), some (I (IntKind.wrap .i64 (Int.ofNat k + Int.ofNat 1)))] [] [some (.cells c 3 0 1), some (.cells [I (Int.ofNat k), I (Int.ofNat a1)] 71 1 0)] else F4 else F4 else F4 else F4 else F4 else F4 else F4 else Option.casesOn c[Nat.add 0 (Nat.mul (Int.toNat (Int.ofNat k)) 1)]? (.fail 423) fun val_1 => bif isI IntKind.i64 val_1 then bif m_eqv (I (ofI val_1)) (I (ofI val)) then Option.casesOn c[Nat.add 0 (Nat.mul (Int.toNat (Int.ofNat k)) 1)]? (.fail 423) fun val_2 => bif isI IntKind.i64 val_2 then bif m_eqv (I (ofI val_2)) (I (ofI val)) then bif Nat.blt (Int.toNat (Int.ofNat k)) q then Option.casesOn c[Nat.add 0 (Nat.mul (Int.toNat (Int.ofNat k)) 1)]? (.fail 423) fun val => bif isI IntKind.i64 val then bif Int.tmod (Int.fdiv (ofI val) (Int.ofNat 2 ^ min (Int.toNat (Int.ofNat x)) 64)) (Int.ofNat 2) == Int.ofNat 0 then bif m_nns c && (m_nns [I (Int.ofNat a0), I (Int.ofNat k)] && true) then K [some (RS b off n cap), some (gx 0 q), some (.slice none 0 0), some (I (Int.ofNat x)), some (pq 1), some (I (IntKind.wrap .i64 (Int.ofNat k + Int.ofNat 1)))] [] [some (.cells c 3 0 1), some (.cells [I (Int.ofNat a0), I (Int.ofNat k)] 71 1 0)] else F4 else bif m_nns c && (m_nns [I (Int.ofNat a0), I (Int.ofNat a1)] && true) then K [some (RS b off n cap), some (gx 0 q), some (.slice none 0 0), some (I (Int.ofNat x)), some (pq 1), some (I (IntKind.wrap .i64 (Int.ofNat k + Int.ofNat 1)))] [] [some (.cells c 3 0 1), some (.cells [I (Int.ofNat a0), I (Int.ofNat a1)] 71 1 0)] else F4 else F4 else F4 else F4 else F4 else F4 else F4 else F4 else F4 else F4 else bif m_nns c && (m_nns [I (Int.ofNat a0), I (Int.ofNat a1)] && true) then KX 2 [some (RS b off n cap), some (gx 0 q), some (.slice none 0 0), some (I (Int.ofNat x)), some (pq 1)] [] [some (.cells c 3 0 1), some (.cells [I (Int.ofNat a0), I (Int.ofNat a1)] 71 1 0)] else F4 := by kernel_rfl
theorem cnEn (r : Mem) (b off n cap q x : Nat) (c : List Value) (a0 a1 : Nat) (fs : FnsC) (K : KO) (kx : Nat → KS) (kr : KS) : run (SC r) mCn 47 1 Cn_8 fs none (rbK 0 lvCn [] K) kx kr [] (bT lvCo (vCo b off n cap q nilT x 1) .nil) [] (mkA [oI1 c 0, oBx2 a0 a1 1]) =
    bif m_nns c && (m_nns [I (Int.ofNat a0), I (Int.ofNat a1)] && true) then K [some (RS b off n cap), some (gx 0 q), some (.slice (some ⟨1, 0, none⟩) 1 unk), some (I (Int.ofNat x))] [] [some (.cells c 3 0 1), some (.cells [I (Int.ofNat a0), I (Int.ofNat a1)] 71 1 2)] else F4 := by kernel_rfl
theorem cnBr (r : Mem) (b off n cap q x : Nat) (c : List Value) (e : List Value) (fs : FnsC) (K : KO) (KX : Nat → KO) (kr : KS) : run (SC r) mCn 47 1 Cn_4 fs none (rbK 0 lvCn [] K) (fun j => rbK 0 [4] [] (KX j)) kr [] (bT lvCn (vCn b off n cap q (gx 1 x) x) .nil) [] (mkA [oI1 c 0, oP2 e 1]) =
    bif decide (Int.ofNat x < Int.ofNat n) then bif m_nns c && (m_nns e && true) then K [some (RS b off n cap), some (gx 0 q), some (gx 1 x), some (I (Int.ofNat x))] [] [some (.cells c 3 0 1), some (.cells e 71 1 2)] else F4 else bif m_nns e && true then KX 0 [some (gx 0 x)] [] [some (.cells e 71 0 2)] else F4 := by kernel_rfl
theorem cnCr (r : Mem) (b off n cap q x : Nat) (c : List Value) (e : List Value) (fs : FnsC) (K : KO) (kx : Nat → KS) (kr : KS) : run (SC r) mCn 47 1 (.seq Cn_5 Cn_6) fs none (rbK 0 lvCm [] K) kx kr [] (bT lvCn (vCn b off n cap q (gx 1 x) x) .nil) [] (mkA [oI1 c 0, oP2 e 1]) =
    bif m_nns c && (m_nns e && true) then K [some (RS b off n cap), some (gx 0 q), some (gx 1 x), some (I (Int.ofNat x)), some (pq 2), some (I (Int.ofNat 0))] [] [some (.cells c 3 0 1), some (.cells e 71 1 2), some (.cells [I (Int.ofNat 0), I (Int.ofNat 0)] 71 2 0)] else F4 := by kernel_rfl
theorem cnDr (r : Mem) (b off n cap q x k : Nat) (c : List Value) (e : List Value) (a0 a1 : Nat) (w : Nat → Nat) (K : KO) (KX : Nat → KO) (kr : KS) : run (SC r) mCn 47 1 Cn_7 (lvlT (SC r) (tCb (RS b off n cap) n w) .nil 1 1) none (rbK 0 lvCm [] K) (fun j => rbK 0 lvCo [] (KX j)) kr [] (bT lvCm (vCm b off n cap q (gx 1 x) x 2 k) .nil) [] (mkA [oI1 c 0, oP2 e 1, oBx2 a0 a1 2]) =
    bif decide (Int.ofNat k < Int.ofNat q) then bif Nat.blt (Int.toNat (Int.ofNat k)) q then Option.casesOn c[Nat.add 0 (Nat.mul (Int.toNat (Int.ofNat k)) 1)]? (.fail 423) fun val => bif isI IntKind.i64 val then bif m_bg (RS b off n cap) n (RS b off n cap) (Int.ofNat x) then bif ofI val == m_ow w (Int.ofNat x) then Option.casesOn c[Nat.add 0 (Nat.mul (Int.toNat (Int.ofNat k)) 1)]? (.fail 423) fun val_1 => bif isI IntKind.i64 val_1 then bif m_eqv (I (ofI val_1)) (I (ofI val)) then Option.casesOn c[Nat.add 0 (Nat.mul (Int.toNat (Int.ofNat k)) 1)]? (.fail 423) fun val_2 => bif isI IntKind.i64 val_2 then bif m_eqv (I (ofI val_2)) (I (ofI val)) then bif Nat.blt (Int.toNat (Int.ofNat k)) q then Option.casesOn c[Nat.add 0 (Nat.mul (Int.toNat (Int.ofNat k)) 1)]? (.fail 423) fun val => bif isI IntKind.i64 val then bif Int.tmod (Int.fdiv (ofI val) (Int.ofNat 2 ^ min (Int.toNat (Int.ofNat x)) 64)) (Int.ofNat 2) == Int.ofNat 0 then bif m_nns c && (m_nns e && (m_nns [I (Int.ofNat k), I (Int.ofNat k)] && true)) then K [some (RS b off n cap), some (gx 0 q), some (gx 1 x), some (I (Int.ofNat x)), some (pq 2), some (I (IntKind.wrap .i64 (Int.ofNat k + Int.ofNat 1)))] [] [some (.cells c 3 0 1), some (.cells e 71 1 2), some (.cells [I (Int.ofNat k), I (Int.ofNat k)] 71 2 0)] else F4 else bif m_nns c && (m_nns e && (m_nns [I (Int.ofNat k), I (Int.ofNat a1)] && true)) then K [some (RS b off n cap), some (gx 0 q), some (gx 1 x), some (I (Int.ofNat x)), some (pq 2), some (I (IntKind.wrap .i64 (Int.ofNat k + Int.ofNat 1)))] [] [some (.cells c 3 0 1), some (.cells e 71 1 2), some (.cells [I (Int.ofNat k), I (Int.ofNat a1)] 71 2 0)] else F4 else F4 else F4 else F4 else F4 else F4 else F4 else Option.casesOn c[Nat.add 0 (Nat.mul (Int.toNat (Int.ofNat k)) 1)]? (.fail 423) fun val_1 => bif isI IntKind.i64 val_1 then bif m_eqv (I (ofI val_1)) (I (ofI val)) then Option.casesOn c[Nat.add 0 (Nat.mul (Int.toNat (Int.ofNat k)) 1)]? (.fail 423) fun val_2 => bif isI IntKind.i64 val_2 then bif m_eqv (I (ofI val_2)) (I (ofI val)) then bif Nat.blt (Int.toNat (Int.ofNat k)) q then Option.casesOn c[Nat.add 0 (Nat.mul (Int.toNat (Int.ofNat k)) 1)]? (.fail 423) fun val => bif isI IntKind.i64 val then bif Int.tmod (Int.fdiv (ofI val) (Int.ofNat 2 ^ min (Int.toNat (Int.ofNat x)) 64)) (Int.ofNat 2) == Int.ofNat 0 then bif m_nns c && (m_nns e && (m_nns [I (Int.ofNat a0), I (Int.ofNat k)] && true)) then K [some (RS b off n cap), some (gx 0 q), some (gx 1 x), some (I (Int.ofNat x)), some (pq 2), some (I (IntKind.wrap .i64 (Int.ofNat k + Int.ofNat 1)))] [] [some (.cells c 3 0 1), some (.cells e 71 1 2), some (.cells [I (Int.ofNat a0), I (Int.ofNat k)] 71 2 0)] else F4 else bif m_nns c && (m_nns e && (m_nns [I (Int.ofNat a0), I (Int.ofNat a1)] && true)) then K [some (RS b off n cap), some (gx 0 q), some (gx 1 x), some (I (Int.ofNat x)), some (pq 2), some (I (IntKind.wrap .i64 (Int.ofNat k + Int.ofNat 1)))] [] [some (.cells c 3 0 1), some (.cells e 71 1 2), some (.cells [I (Int.ofNat a0), I (Int.ofNat a1)] 71 2 0)] else F4 else F4 else F4 else F4 else F4 else F4 else F4 else F4 else F4 else F4 else bif m_nns c && (m_nns e && (m_nns [I (Int.ofNat a0), I (Int.ofNat a1)] && true)) then KX 2 [some (RS b off n cap), some (gx 0 q), some (gx 1 x), some (I (Int.ofNat x)), some (pq 2)] [] [some (.cells c 3 0 1), some (.cells e 71 1 2), some (.cells [I (Int.ofNat a0), I (Int.ofNat a1)] 71 2 0)] else F4 := by kernel_rfl
theorem cnEr (r : Mem) (b off n cap q x : Nat) (c : List Value) (e : List Value) (a0 a1 : Nat) (fs : FnsC) (K : KO) (kx : Nat → KS) (kr : KS) : run (SC r) mCn 47 1 Cn_8 fs none (rbK 0 lvCn [] K) kx kr [] (bT lvCo (vCo b off n cap q (gx 1 x) x 2) .nil) [] (mkA [oI1 c 0, oP2 e 1, oBx2 a0 a1 2]) =
    bif Nat.ble (Nat.add x 1) 1000000 then Option.casesOn (takeAt e 0 (Nat.mul x 2)) (.fail 439) fun val => bif m_nns c && (m_nns (val ++ [I (Int.ofNat a0), I (Int.ofNat a1)]) && true) then K [some (RS b off n cap), some (gx 0 q), some (.slice (some ⟨1, 0, none⟩) (Nat.add x 1) unk), some (I (Int.ofNat x))] [] [some (.cells c 3 0 1), some (.cells (val ++ [I (Int.ofNat a0), I (Int.ofNat a1)]) 71 1 2)] else F4 else F4 := by kernel_rfl
theorem cnF (r : Mem) (b off n cap q x y : Nat) (c e : List Value) (fs : FnsC) (K : KO) (kx : Nat → KS) (kr : KS) : run (SC r) mCn 47 1 Cn_9 fs none (rbK 0 lvCn [] K) kx kr [] (bT lvCn (vCn b off n cap q (gx 1 y) x) .nil) [] (mkA [oI1 c 0, oP2 e 1]) =
    bif m_nns c && (m_nns e && true) then K [some (RS b off n cap), some (gx 0 q), some (gx 1 y), some (I (IntKind.wrap .i64 (Int.ofNat x + Int.ofNat 1)))] [] [some (.cells c 3 0 1), some (.cells e 71 1 2)] else F4 := by kernel_rfl
theorem cnG (r : Mem) (y : Nat) (e : List Value) (fs : FnsC) (K KR : KO) (kx : Nat → KS) : run (SC r) mCn 47 1 Cn_10 fs none (rbK 0 [2] [] K) kx (rbK 0 [2] [] KR) [] (bT [4] [some (gx 0 y)] .nil) [] (mkA [oP2 e 0]) =
    bif m_nns e && true then KR [some (gx 0 y)] [] [some (.cells e 71 0 2)] else F4 := by kernel_rfl
theorem hsA (r : Mem) (b off n cap : Nat) (fs : FnsC) (K : KO) (kx : Nat → KS) (kr : KS) : run (SC r) mHs 62 1 (.seq Hs_0 (.seq Hs_1 (.seq Hs_2 Hs_3))) fs none (rbK 0 lvH0 [] K) kx kr (sc0 mHs [RS b off n cap]) (tr0 mHs [RS b off n cap]) [] emptyA =
    K [some (RS b off n cap), some (I (Int.ofNat n)), some (.bool false), some (.bool false), some (I (Int.ofNat 0))] [] [] := by kernel_rfl
theorem hsB (r : Mem) (b off n cap : Nat) (u v : Bool) (x : Nat) (fs : FnsC) (K : KO) (KX : Nat → KO) (kr : KS) : run (SC r) mHs 62 1 Hs_4 fs none (rbK 0 lvH0 [] K) (fun j => rbK 0 [5, 6] [] (KX j)) kr [] (bT lvH0 (vH0 b off n cap u v x) .nil) [] (mkA []) =
    bif decide (Int.ofNat x < Int.ofNat n) then K [some (RS b off n cap), some (I (Int.ofNat n)), some (.bool u), some (.bool v), some (I (Int.ofNat x))] [] [] else KX 0 [some (.bool u), some (.bool v)] [] [] := by kernel_rfl
theorem hsC (r : Mem) (b off n cap : Nat) (u v : Bool) (x : Nat) (fs : FnsC) (K : KO) (kx : Nat → KS) (kr : KS) : run (SC r) mHs 62 1 Hs_5 fs none (rbK 0 lvH1 [] K) kx kr [] (bT lvH0 (vH0 b off n cap u v x) .nil) [] (mkA []) =
    K [some (RS b off n cap), some (I (Int.ofNat n)), some (.bool u), some (.bool v), some (I (Int.ofNat x)), some (I (Int.ofNat 0))] [] [] := by kernel_rfl
theorem hsD (r : Mem) (b off n cap : Nat) (u v : Bool) (x y : Nat) (fs : FnsC) (K : KO) (KX : Nat → KO) (kr : KS) : run (SC r) mHs 62 1 Hs_6 fs none (rbK 0 lvH1 [] K) (fun j => rbK 0 lvH0 [] (KX j)) kr [] (bT lvH1 (vH1 b off n cap u v x y) .nil) [] (mkA []) =
    bif decide (Int.ofNat y < Int.ofNat n) then K [some (RS b off n cap), some (I (Int.ofNat n)), some (.bool u), some (.bool v), some (I (Int.ofNat x)), some (I (Int.ofNat y))] [] [] else KX 2 [some (RS b off n cap), some (I (Int.ofNat n)), some (.bool u), some (.bool v), some (I (Int.ofNat x))] [] [] := by kernel_rfl
theorem hsE (r : Mem) (b off n cap : Nat) (u v : Bool) (x y : Nat) (fs : FnsC) (K : KO) (kx : Nat → KS) (kr : KS) : run (SC r) mHs 62 1 Hs_7 fs none (rbK 0 lvH2 [] K) kx kr [] (bT lvH1 (vH1 b off n cap u v x y) .nil) [] (mkA []) =
    K [some (RS b off n cap), some (I (Int.ofNat n)), some (.bool u), some (.bool v), some (I (Int.ofNat x)), some (I (Int.ofNat y)), some (I (Int.ofNat 0))] [] [] := by kernel_rfl
theorem hsF (r : Mem) (b off n cap : Nat) (u v : Bool) (x y z : Nat) (fs : FnsC) (K : KO) (KX : Nat → KO) (kr : KS) : run (SS r 2) mHs 62 1 Hs_8 fs none (rbK 0 lvH2 [] K) (fun j => rbK 0 lvH1 [] (KX j)) kr [] (bT lvH2 (vH2 b off n cap u v x y z) .nil) [] (mkA []) =
    bif decide (Int.ofNat z < Int.ofNat n) then bif Nat.blt (Int.toNat (Int.ofNat x)) n then Option.casesOn (r b (Nat.add off (Nat.mul (Int.toNat (Int.ofNat x)) 1))) (.fail 423) fun val => bif isRoS val then bif Nat.blt (Int.toNat (Int.ofNat y)) (lnOf val) then Option.casesOn (r (blkOf val) (Nat.add (offOf val) (Nat.mul (Int.toNat (Int.ofNat y)) 1))) (.fail 423) fun val => bif Ev.isB val then bif ofB val then K [some (RS b off n cap), some (I (Int.ofNat n)), some (.bool u), some (.bool v), some (I (Int.ofNat x)), some (I (Int.ofNat y)), some (I (Int.ofNat z))] [] [] else KX 4 [some (RS b off n cap), some (I (Int.ofNat n)), some (.bool u), some (.bool v), some (I (Int.ofNat x)), some (I (Int.ofNat y))] [] [] else F4 else F4 else F4 else F4 else KX 4 [some (RS b off n cap), some (I (Int.ofNat n)), some (.bool u), some (.bool v), some (I (Int.ofNat x)), some (I (Int.ofNat y))] [] [] := by kernel_rfl
theorem hsG (r : Mem) (b off n cap : Nat) (u v : Bool) (x y z : Nat) (fs : FnsC) (K : KO) (kx : Nat → KS) (kr : KS) : run (SC r) mHs 62 1 Hs_9 fs none (rbK 0 lvH3 [] K) kx kr [] (bT lvH2 (vH2 b off n cap u v x y z) .nil) [] (mkA []) =
    K [some (RS b off n cap), some (I (Int.ofNat n)), some (.bool u), some (.bool v), some (I (Int.ofNat x)), some (I (Int.ofNat y)), some (I (Int.ofNat z)), some (I (Int.ofNat 0))] [] [] := by kernel_rfl
theorem hsH (r : Mem) (b off n cap : Nat) (u v : Bool) (x y z t : Nat) (f g : Nat → Nat → Nat → Nat → Bool) (K : KO) (KX : Nat → KO) (kr : KS) : run (SC r) mHs 62 1 Hs_10 (lvlT (SC r) (tHs (RS b off n cap) n f g) .nil 1 1) none (rbK 0 lvH3 [] K) (fun j => rbK 0 lvH2 [] (KX j)) kr [] (bT lvH3 (vH3 b off n cap u v x y z t) .nil) [] (mkA []) =
    bif decide (Int.ofNat t < Int.ofNat n) then bif u then bif v then K [some (RS b off n cap), some (I (Int.ofNat n)), some (.bool true), some (.bool true), some (I (Int.ofNat x)), some (I (Int.ofNat y)), some (I (Int.ofNat z)), some (I (IntKind.wrap .i64 (Int.ofNat t + Int.ofNat 1)))] [] [] else bif m_q4 (RS b off n cap) (RS b off n cap) n (Int.ofNat x) (Int.ofNat y) (Int.ofNat z) (Int.ofNat t) then bif m_f4 g (Int.ofNat x) (Int.ofNat y) (Int.ofNat z) (Int.ofNat t) then K [some (RS b off n cap), some (I (Int.ofNat n)), some (.bool true), some (.bool true), some (I (Int.ofNat x)), some (I (Int.ofNat y)), some (I (Int.ofNat z)), some (I (IntKind.wrap .i64 (Int.ofNat t + Int.ofNat 1)))] [] [] else K [some (RS b off n cap), some (I (Int.ofNat n)), some (.bool true), some (.bool false), some (I (Int.ofNat x)), some (I (Int.ofNat y)), some (I (Int.ofNat z)), some (I (IntKind.wrap .i64 (Int.ofNat t + Int.ofNat 1)))] [] [] else F4 else bif m_q4 (RS b off n cap) (RS b off n cap) n (Int.ofNat x) (Int.ofNat y) (Int.ofNat z) (Int.ofNat t) then bif m_f4 f (Int.ofNat x) (Int.ofNat y) (Int.ofNat z) (Int.ofNat t) then bif v then K [some (RS b off n cap), some (I (Int.ofNat n)), some (.bool true), some (.bool true), some (I (Int.ofNat x)), some (I (Int.ofNat y)), some (I (Int.ofNat z)), some (I (IntKind.wrap .i64 (Int.ofNat t + Int.ofNat 1)))] [] [] else bif m_q4 (RS b off n cap) (RS b off n cap) n (Int.ofNat x) (Int.ofNat y) (Int.ofNat z) (Int.ofNat t) then bif m_f4 g (Int.ofNat x) (Int.ofNat y) (Int.ofNat z) (Int.ofNat t) then K [some (RS b off n cap), some (I (Int.ofNat n)), some (.bool true), some (.bool true), some (I (Int.ofNat x)), some (I (Int.ofNat y)), some (I (Int.ofNat z)), some (I (IntKind.wrap .i64 (Int.ofNat t + Int.ofNat 1)))] [] [] else K [some (RS b off n cap), some (I (Int.ofNat n)), some (.bool true), some (.bool false), some (I (Int.ofNat x)), some (I (Int.ofNat y)), some (I (Int.ofNat z)), some (I (IntKind.wrap .i64 (Int.ofNat t + Int.ofNat 1)))] [] [] else F4 else bif v then K [some (RS b off n cap), some (I (Int.ofNat n)), some (.bool false), some (.bool true), some (I (Int.ofNat x)), some (I (Int.ofNat y)), some (I (Int.ofNat z)), some (I (IntKind.wrap .i64 (Int.ofNat t + Int.ofNat 1)))] [] [] else bif m_q4 (RS b off n cap) (RS b off n cap) n (Int.ofNat x) (Int.ofNat y) (Int.ofNat z) (Int.ofNat t) then bif m_f4 g (Int.ofNat x) (Int.ofNat y) (Int.ofNat z) (Int.ofNat t) then K [some (RS b off n cap), some (I (Int.ofNat n)), some (.bool false), some (.bool true), some (I (Int.ofNat x)), some (I (Int.ofNat y)), some (I (Int.ofNat z)), some (I (IntKind.wrap .i64 (Int.ofNat t + Int.ofNat 1)))] [] [] else K [some (RS b off n cap), some (I (Int.ofNat n)), some (.bool false), some (.bool false), some (I (Int.ofNat x)), some (I (Int.ofNat y)), some (I (Int.ofNat z)), some (I (IntKind.wrap .i64 (Int.ofNat t + Int.ofNat 1)))] [] [] else F4 else F4 else KX 6 [some (RS b off n cap), some (I (Int.ofNat n)), some (.bool u), some (.bool v), some (I (Int.ofNat x)), some (I (Int.ofNat y)), some (I (Int.ofNat z))] [] [] := by kernel_rfl
theorem hsI (r : Mem) (b off n cap : Nat) (u v : Bool) (x y z : Nat) (fs : FnsC) (K : KO) (kx : Nat → KS) (kr : KS) : run (SC r) mHs 62 1 Hs_11 fs none (rbK 0 lvH2 [] K) kx kr [] (bT lvH2 (vH2 b off n cap u v x y z) .nil) [] (mkA []) =
    K [some (RS b off n cap), some (I (Int.ofNat n)), some (.bool u), some (.bool v), some (I (Int.ofNat x)), some (I (Int.ofNat y)), some (I (IntKind.wrap .i64 (Int.ofNat z + Int.ofNat 1)))] [] [] := by kernel_rfl
theorem hsJ (r : Mem) (b off n cap : Nat) (u v : Bool) (x y : Nat) (fs : FnsC) (K : KO) (kx : Nat → KS) (kr : KS) : run (SC r) mHs 62 1 Hs_12 fs none (rbK 0 lvH1 [] K) kx kr [] (bT lvH1 (vH1 b off n cap u v x y) .nil) [] (mkA []) =
    K [some (RS b off n cap), some (I (Int.ofNat n)), some (.bool u), some (.bool v), some (I (Int.ofNat x)), some (I (IntKind.wrap .i64 (Int.ofNat y + Int.ofNat 1)))] [] [] := by kernel_rfl
theorem hsK (r : Mem) (b off n cap : Nat) (u v : Bool) (x : Nat) (fs : FnsC) (K : KO) (kx : Nat → KS) (kr : KS) : run (SC r) mHs 62 1 Hs_13 fs none (rbK 0 lvH0 [] K) kx kr [] (bT lvH0 (vH0 b off n cap u v x) .nil) [] (mkA []) =
    K [some (RS b off n cap), some (I (Int.ofNat n)), some (.bool u), some (.bool v), some (I (IntKind.wrap .i64 (Int.ofNat x + Int.ofNat 1)))] [] [] := by kernel_rfl
theorem hsL (r : Mem) (u v : Bool) (fs : FnsC) (K KR : KO) (kx : Nat → KS) : run (SC r) mHs 62 1 Hs_14 fs none (rbK 0 [2, 3] [] K) kx (rbK 0 [2, 3] [] KR) [] (bT [5, 6] [some (.bool u), some (.bool v)] .nil) [] (mkA []) =
    bif u then bif v then KR [some (.bool true), some (.bool true)] [] [] else KR [some (.bool true), some (.bool false)] [] [] else bif v then KR [some (.bool false), some (.bool true)] [] [] else KR [some (.bool false), some (.bool false)] [] [] := by kernel_rfl
theorem pzA (r : Mem) (b off n cap b2 o2 c2 : Nat) (fs : FnsC) (K : KO) (kx : Nat → KS) (KR : KO) : run (SC r) mPz 26 1 (.seq Pz_0 (.seq Pz_1 Pz_2)) fs none (rbK 0 lvPz [] K) kx (rbK 0 [4] [] KR) (sc0 mPz [RS2 b off n cap, RS2 b2 o2 n c2]) (tr0 mPz [RS2 b off n cap, RS2 b2 o2 n c2]) [] emptyA =
    bif Int.ofNat n != Int.ofNat n then KR [some (.bool false)] [] [] else K [some (RS b off n cap), some (.slice (some ⟨b2, o2, some 0⟩) n c2), some (I (Int.ofNat 0))] [] [] := by kernel_rfl
theorem pzB (r : Mem) (b off n cap b2 o2 c2 k : Nat) (fs : FnsC) (K : KO) (KX : Nat → KO) (KR : KO) : run (SC r) mPz 26 1 Pz_3 fs none (rbK 0 lvPz [] K) (fun j => rbK 0 [] [] (KX j)) (rbK 0 [4] [] KR) [] (bT lvPz (vPz b off n cap b2 o2 c2 k) .nil) [] (mkA []) =
    bif decide (Int.ofNat k < Int.ofNat n) then bif Nat.blt (Int.toNat (Int.ofNat k)) n then Option.casesOn (r b (Nat.add off (Nat.mul (Int.toNat (Int.ofNat k)) 2))) (.fail 423) fun val => bif isI IntKind.i64 val then Option.casesOn (r b (Nat.succ (Nat.add off (Nat.mul (Int.toNat (Int.ofNat k)) 2)))) (.fail 423) fun val_1 => bif isI IntKind.i64 val_1 then bif Nat.blt (Int.toNat (Int.ofNat k)) n then Option.casesOn (r b2 (Nat.add o2 (Nat.mul (Int.toNat (Int.ofNat k)) 2))) (.fail 423) fun val_2 => bif isI IntKind.i64 val_2 then Option.casesOn (r b2 (Nat.succ (Nat.add o2 (Nat.mul (Int.toNat (Int.ofNat k)) 2)))) (.fail 423) fun val_3 => bif isI IntKind.i64 val_3 then bif !(ofI val == ofI val_2 && (ofI val_1 == ofI val_3 && true)) then KR [some (.bool false)] [] [] else K [some (RS b off n cap), some (.slice (some ⟨b2, o2, some 0⟩) n c2), some (I (IntKind.wrap .i64 (Int.ofNat k + Int.ofNat 1)))] [] [] else F4 else F4 else F4 else F4 else F4 else F4 else KX 0 [] [] [] := by kernel_rfl
theorem pzC (r : Mem) (fs : FnsC) (K KR : KO) (kx : Nat → KS) : run (SC r) mPz 26 1 Pz_4 fs none (rbK 0 [4] [] K) kx (rbK 0 [4] [] KR) [] (bT [] [] .nil) [] (mkA []) =
    KR [some (.bool true)] [] [] := by kernel_rfl
end Go.Proofs
namespace Go.Proofs
open Go Go.Ev Go.Num
def orN (f : Nat → Bool) : Nat → Bool
 | 0 => false
 | k + 1 => orN f k || f k
theorem orN_iff {f : Nat → Bool} : ∀ {n : Nat}, orN f n = true ↔ ∃ k, k < n ∧ f k = true
 | 0 => ⟨fun h => (nomatch h), fun ⟨_, h, _⟩ => absurd h (by omega)⟩
 | n + 1 => by
  rw [orN, Bool.or_eq_true, orN_iff (n := n)]
  exact ⟨fun h => by
   rcases h with ⟨k, h1, h2⟩ | h
   ·exact ⟨k, by omega, h2⟩
   ·exact ⟨n, by omega, h⟩, fun ⟨k, h1, h2⟩ => by
   by_cases c : k = n
   ·subst c; exact .inr h2
   ·exact .inl ⟨k, by omega, h2⟩⟩
def twF (T : List (List Bool)) (a b c d : Nat) : Bool := twB T fun i => match i with | 0 => (a : Nat) | 1 => (b : Nat) | 2 => (c : Nat) | _ => (d : Nat)
noncomputable def thF (T : List (List Bool)) (a b c d : Nat) : Bool := thB T fun i => match i with | 0 => (a : Nat) | 1 => (b : Nat) | 2 => (c : Nat) | _ => (d : Nat)
def hZ (f : Nat → Nat → Nat → Nat → Bool) (n x y : Nat) (z : Nat) : Bool := orN (fun z => orN (f x y z) n) z
def hY (T : List (List Bool)) (f : Nat → Nat → Nat → Nat → Bool) (n x : Nat) (y : Nat) : Bool := orN (fun y => gT T x y && hZ f n x y n) y
def hX (T : List (List Bool)) (f : Nat → Nat → Nat → Nat → Bool) (n : Nat) (x : Nat) : Bool := orN (fun x => hY T f n x n) x
noncomputable def cHt : Code := .block 6 (.loop Hs_10)
noncomputable def cHz : Code := .block 4 (.loop (.seq Hs_8 (.seq (.block 5 (.seq Hs_9 cHt)) Hs_11)))
noncomputable def cHy : Code := .block 2 (.loop (.seq Hs_6 (.seq (.block 3 (.seq Hs_7 cHz)) Hs_12)))
theorem Hs_eq2 : cHs = (.seq Hs_0 (.seq Hs_1 (.seq Hs_2 (.seq (.seq Hs_3 (.block 0 (.loop (.seq Hs_4 (.seq (.block 1 (.seq Hs_5 cHy)) Hs_13))))) Hs_14)))) := Hs_eq
section
variable {r : Mem} {b off n cap : Nat} {T : List (List Bool)} {f g : Nat → Nat → Nat → Nat → Bool} {F : Fence} {kk : Nat} {γ : Gam} {W : World} {ox : Nat → Outs} {orr : Outs}
theorem q4_t {x y z t : Nat} (hx : x < n) (hy : y < n) (hz : z < n) (ht : t < n) : m_q4 (.slice (some ⟨b, off, some 0⟩) n cap) (.slice (some ⟨b, off, some 0⟩) n cap) n (Int.ofNat x) (Int.ofNat y) (Int.ofNat z) (Int.ofNat t) = true := @decide_eq_true _ (Classical.propDecidable _) ⟨rfl, ⟨by simp, by simp; omega⟩, ⟨by simp, by simp; omega⟩, ⟨by simp, by simp; omega⟩, by simp, by simp; omega⟩
theorem hs_t (htb : TOk (SC r) (tHs (RS b off n cap) n f g)) {x y z : Nat} (hx : x < n) (hy : y < n) (hz : z < n) (hn : n ≤ 12) (u v : Bool) (hF : Wide F) (hro : RoRel γ none F.round) (h0' : ∀ i, 0 ≤ i → γ i = none) :
  Go.Ev.Reach (SC r) mHs 62 F kk γ W cHt (St.of lvH3 (vH3 b off n cap u v x y z 0) [] []) (CanQ (SC r) mHs 62 γ W ⟨lvH2, [], fun vs ms os => vs = vH2 b off n cap (u || orN (f x y z) n) (v || orN (g x y z) n) x y z ∧ ms = [] ∧ os = []⟩ ox orr) := by
 refine Go.Ev.Reach.blockC (Go.Ev.Reach.loopC (j := n) (lv := lvH3) (fl := []) (I := fun j vs ms os => ∃ t : Nat, t ≤ n ∧ j = n - t ∧ vs = vH3 b off n cap (u || orN (f x y z) t) (v || orN (g x y z) t) x y z t ∧ ms = [] ∧ os = []) (fun j vs ms os hI => ?_) ⟨0, by omega, rfl, by simp [orN], rfl, rfl⟩)
 obtain ⟨t, ht, rfl, rfl, rfl, rfl⟩ := hI
 refine Go.Ev.Reach.segR (SC_ok r) htb (tm := .nil) (L := 1) (L' := 1) (d := 1) hF hro h0' [(6, ⟨lvH2, [], fun vs ms os => vs = vH2 b off n cap (u || orN (f x y z) n) (v || orN (g x y z) n) x y z ∧ ms = [] ∧ os = []⟩)] (fun p hp => by simp only [List.mem_cons, List.not_mem_nil, or_false] at hp; subst hp; rfl) ?_
 have hn' := hsH r b off n cap (u || orN (f x y z) t) (v || orN (g x y z) t) x y z t f g
 by_cases c : t < n
 ·have e1 : m_f4 f (Int.ofNat x) (Int.ofNat y) (Int.ofNat z) (Int.ofNat t) = f x y z t := rfl
  have e2 : m_f4 g (Int.ofNat x) (Int.ofNat y) (Int.ofNat z) (Int.ofNat t) = g x y z t := rfl
  have e3 : (u || orN (f x y z) (t + 1)) = ((u || orN (f x y z) t) || f x y z t) := by rw [orN, Bool.or_assoc]
  have e4 : (v || orN (g x y z) (t + 1)) = ((v || orN (g x y z) t) || g x y z t) := by rw [orN, Bool.or_assoc]
  simp only [dT (show Int.ofNat t < Int.ofNat n by simp; omega), q4_t hx hy hz c, e1, e2, cond_true] at hn'
  rw [show IntKind.wrap .i64 (Int.ofNat t + Int.ofNat 1) = ((t + 1 : Nat) : Int) from inc1 (by omega)] at hn'
  have fin : ∀ {a e : Bool}, a = (u || orN (f x y z) (t + 1)) → e = (v || orN (g x y z) (t + 1)) → ∃ j', j' < n - t ∧ ∃ t' : Nat, t' ≤ n ∧ j' = n - t' ∧ ([some (.slice (some ⟨b, off, some 0⟩) n cap), some (I (Int.ofNat n)), some (.bool a), some (.bool e), some (I (Int.ofNat x)), some (I (Int.ofNat y)), some (I (Int.ofNat z)), some (I ((t + 1 : Nat) : Int))] : OV) = vH3 b off n cap (u || orN (f x y z) t') (v || orN (g x y z) t') x y z t' ∧ ([] : List Nat) = [] ∧ ([] : OO) = [] := fun h1 h2 => ⟨n - (t + 1), by omega, t + 1, c, rfl, by rw [h1, h2]; rfl, rfl, rfl⟩
  generalize (u || orN (f x y z) t) = u1 at hn' e3
  generalize (v || orN (g x y z) t) = v1 at hn' e4
  cases u1 <;> cases v1 <;> cases hf : f x y z t <;> cases hg : g x y z t <;> simp only [hf, hg, cond_true, cond_false] at hn' <;> exact (hn' _ _ _).trans (qq_ok (fin (by rw [e3, hf]; rfl) (by rw [e4, hg]; rfl)))
 ·obtain rfl : t = n := by omega
  simp only [dF (show ¬ Int.ofNat t < Int.ofNat t by simp), cond_false] at hn'
  exact (hn' _ _ _).trans (qq_ok ⟨rfl, rfl, rfl⟩)
theorem hs_z (htb : TOk (SC r) (tHs (RS b off n cap) n f g)) (hM : TabM r b off T) (hnT : T.length = n) (hc : ckO T = true) {x y : Nat} (hx : x < n) (hy : y < n) (u v : Bool) (hF : Wide F) (hro : RoRel γ none F.round) (h0' : ∀ i, 0 ≤ i → γ i = none) :
  Go.Ev.Reach (SC r) mHs 62 F kk γ W cHz (St.of lvH2 (vH2 b off n cap u v x y 0) [] []) (CanQ (SC r) mHs 62 γ W ⟨lvH1, [], fun vs ms os => vs = vH1 b off n cap (u || (gT T x y && hZ f n x y n)) (v || (gT T x y && hZ g n x y n)) x y ∧ ms = [] ∧ os = []⟩ ox orr) := by
 obtain ⟨rb, ro, rc2, hrow⟩ := tab_all hM hc hnT
 have hl := ck_len hc
 refine Go.Ev.Reach.blockC (Go.Ev.Reach.loopC (j := n) (lv := lvH2) (fl := []) (I := fun j vs ms os => ∃ z : Nat, z ≤ n ∧ j = n - z ∧ (0 < z → gT T x y = true) ∧ vs = vH2 b off n cap (u || hZ f n x y z) (v || hZ g n x y z) x y z ∧ ms = [] ∧ os = []) (fun j vs ms os hI => ?_) ⟨0, by omega, rfl, fun h => absurd h (by omega), by simp [hZ, orN], rfl, rfl⟩)
 obtain ⟨z, hz, rfl, hgz, rfl, rfl, rfl⟩ := hI
 refine Go.Ev.Reach.seqC (o1 := ⟨lvH2, [], fun vs ms os => (z < n ∧ gT T x y = true) ∧ vs = vH2 b off n cap (u || hZ f n x y z) (v || hZ g n x y z) x y z ∧ ms = [] ∧ os = []⟩) (segSh 2 TOk.nil (tm := .nil) (L := 1) (L' := 1) (d := 1) hF hro h0' [(4, ⟨lvH1, [], fun vs ms os => vs = vH1 b off n cap (u || (gT T x y && hZ f n x y n)) (v || (gT T x y && hZ g n x y n)) x y ∧ ms = [] ∧ os = []⟩)] (fun p hp => by simp only [List.mem_cons, List.not_mem_nil, or_false] at hp; subst hp; rfl) ?_) ?_
 ·have hn' := hsF r b off n cap (u || hZ f n x y z) (v || hZ g n x y z) x y z
  simp only [tnO] at hn'
  by_cases c : z < n
  ·have q1 : Nat.blt x n = true := Nat.ble_eq_true_of_le hx
   have q2 : Nat.blt y n = true := Nat.ble_eq_true_of_le hy
   simp only [dT (show Int.ofNat z < Int.ofNat n by simp; omega), q1, q2, e0w, (hrow x hx).1, (hrow x hx).2 y hy, ro_RS, ln_RS, bk_RS, of_RS, b_bl, o_bl, cond_true] at hn'
   cases hg : gT T x y with
   | true =>
    simp only [hg, cond_true] at hn'
    exact (hn' _ _ _ _).trans (qq_ok ⟨⟨c, rfl⟩, rfl, rfl, rfl⟩)
   | false =>
    have z0 : z = 0 := by
     by_cases e : 0 < z
     ·have := hgz e; rw [hg] at this; cases this
     ·omega
    subst z0
    simp only [hg, cond_false] at hn'
    exact (hn' _ _ _ _).trans (qq_ok ⟨by simp [hZ, orN]; rfl, rfl, rfl⟩)
  ·obtain rfl : z = n := by omega
   simp only [dF (show ¬ Int.ofNat z < Int.ofNat z by simp), cond_false] at hn'
   have hg := hgz (by omega)
   exact (hn' _ _ _ _).trans (qq_ok ⟨by rw [hg, Bool.true_and, Bool.true_and]; rfl, rfl, rfl⟩)
 rintro vs ms os ⟨⟨c, hg⟩, rfl, rfl, rfl⟩
 refine Go.Ev.Reach.seqC (o1 := ⟨lvH2, [], fun vs ms os => vs = vH2 b off n cap (u || hZ f n x y (z + 1)) (v || hZ g n x y (z + 1)) x y z ∧ ms = [] ∧ os = []⟩) (Go.Ev.Reach.blockC (Go.Ev.Reach.seqC (o1 := ⟨lvH3, [], fun vs ms os => vs = vH3 b off n cap (u || hZ f n x y z) (v || hZ g n x y z) x y z 0 ∧ ms = [] ∧ os = []⟩) (Go.Ev.Reach.segR (SC_ok r) TOk.nil (tm := .nil) (L := 1) (L' := 1) (d := 1) hF hro h0' [] (fun p hp => nomatch hp) ((hsG r b off n cap _ _ x y z _ _ _ _).trans (qq_ok ⟨rfl, rfl, rfl⟩))) ?_)) ?_
 ·rintro vs ms os ⟨rfl, rfl, rfl⟩
  have h := hs_t (ox := fun j => if j = 5 then ⟨lvH2, [], fun vs ms os => vs = vH2 b off n cap (u || hZ f n x y (z + 1)) (v || hZ g n x y (z + 1)) x y z ∧ ms = [] ∧ os = []⟩ else if j = 4 then ⟨lvH1, [], fun vs ms os => vs = vH1 b off n cap (u || (gT T x y && hZ f n x y n)) (v || (gT T x y && hZ g n x y n)) x y ∧ ms = [] ∧ os = []⟩ else ox j) (orr := orr) (W := W) (kk := kk) htb hx hy c (by omega) (u || hZ f n x y z) (v || hZ g n x y z) hF hro h0'
  rw [show ((u || hZ f n x y z) || orN (f x y z) n) = (u || hZ f n x y (z + 1)) by unfold hZ; rw [orN, Bool.or_assoc], show ((v || hZ g n x y z) || orN (g x y z) n) = (v || hZ g n x y (z + 1)) by unfold hZ; rw [orN, Bool.or_assoc]] at h
  exact h
 rintro vs ms os ⟨rfl, rfl, rfl⟩
 refine Go.Ev.Reach.segR (SC_ok r) TOk.nil (tm := .nil) (L := 1) (L' := 1) (d := 1) hF hro h0' [] (fun p hp => nomatch hp) ?_
 have hn' := hsI r b off n cap (u || hZ f n x y (z + 1)) (v || hZ g n x y (z + 1)) x y z
 rw [show IntKind.wrap .i64 (Int.ofNat z + Int.ofNat 1) = ((z + 1 : Nat) : Int) from inc1 (by omega)] at hn'
 exact (hn' _ _ _ _).trans (qq_ok ⟨n - (z + 1), by omega, z + 1, c, rfl, fun _ => hg, rfl, rfl, rfl⟩)
theorem hs_y (htb : TOk (SC r) (tHs (RS b off n cap) n f g)) (hM : TabM r b off T) (hnT : T.length = n) (hc : ckO T = true) {x : Nat} (hx : x < n) (u v : Bool) (hF : Wide F) (hro : RoRel γ none F.round) (h0' : ∀ i, 0 ≤ i → γ i = none) :
  Go.Ev.Reach (SC r) mHs 62 F kk γ W cHy (St.of lvH1 (vH1 b off n cap u v x 0) [] []) (CanQ (SC r) mHs 62 γ W ⟨lvH0, [], fun vs ms os => vs = vH0 b off n cap (u || hY T f n x n) (v || hY T g n x n) x ∧ ms = [] ∧ os = []⟩ ox orr) := by
 have hl := ck_len hc
 refine Go.Ev.Reach.blockC (Go.Ev.Reach.loopC (j := n) (lv := lvH1) (fl := []) (I := fun j vs ms os => ∃ y : Nat, y ≤ n ∧ j = n - y ∧ vs = vH1 b off n cap (u || hY T f n x y) (v || hY T g n x y) x y ∧ ms = [] ∧ os = []) (fun j vs ms os hI => ?_) ⟨0, by omega, rfl, by simp [hY, orN], rfl, rfl⟩)
 obtain ⟨y, hy, rfl, rfl, rfl, rfl⟩ := hI
 refine Go.Ev.Reach.seqC (o1 := ⟨lvH1, [], fun vs ms os => y < n ∧ vs = vH1 b off n cap (u || hY T f n x y) (v || hY T g n x y) x y ∧ ms = [] ∧ os = []⟩) (Go.Ev.Reach.segR (SC_ok r) TOk.nil (tm := .nil) (L := 1) (L' := 1) (d := 1) hF hro h0' [(2, ⟨lvH0, [], fun vs ms os => vs = vH0 b off n cap (u || hY T f n x n) (v || hY T g n x n) x ∧ ms = [] ∧ os = []⟩)] (fun p hp => by simp only [List.mem_cons, List.not_mem_nil, or_false] at hp; subst hp; rfl) ?_) ?_
 ·have hn' := hsD r b off n cap (u || hY T f n x y) (v || hY T g n x y) x y
  by_cases c : y < n
  ·simp only [dT (show Int.ofNat y < Int.ofNat n by simp; omega), cond_true] at hn'
   exact (hn' _ _ _ _).trans (qq_ok ⟨c, rfl, rfl, rfl⟩)
  ·obtain rfl : y = n := by omega
   simp only [dF (show ¬ Int.ofNat y < Int.ofNat y by simp), cond_false] at hn'
   exact (hn' _ _ _ _).trans (qq_ok ⟨rfl, rfl, rfl⟩)
 rintro vs ms os ⟨c, rfl, rfl, rfl⟩
 refine Go.Ev.Reach.seqC (o1 := ⟨lvH1, [], fun vs ms os => vs = vH1 b off n cap (u || hY T f n x (y + 1)) (v || hY T g n x (y + 1)) x y ∧ ms = [] ∧ os = []⟩) (Go.Ev.Reach.blockC (Go.Ev.Reach.seqC (o1 := ⟨lvH2, [], fun vs ms os => vs = vH2 b off n cap (u || hY T f n x y) (v || hY T g n x y) x y 0 ∧ ms = [] ∧ os = []⟩) (Go.Ev.Reach.segR (SC_ok r) TOk.nil (tm := .nil) (L := 1) (L' := 1) (d := 1) hF hro h0' [] (fun p hp => nomatch hp) ((hsE r b off n cap _ _ x y _ _ _ _).trans (qq_ok ⟨rfl, rfl, rfl⟩))) ?_)) ?_
 ·rintro vs ms os ⟨rfl, rfl, rfl⟩
  have e : ∀ (p : Bool) (q : Nat → Nat → Nat → Nat → Bool), ((p || hY T q n x y) || (gT T x y && hZ q n x y n)) = (p || hY T q n x (y + 1)) := fun p q => by unfold hY; rw [orN, Bool.or_assoc]
  rw [← e u f, ← e v g]
  exact hs_z htb hM hnT hc hx c _ _ hF hro h0'
 rintro vs ms os ⟨rfl, rfl, rfl⟩
 refine Go.Ev.Reach.segR (SC_ok r) TOk.nil (tm := .nil) (L := 1) (L' := 1) (d := 1) hF hro h0' [] (fun p hp => nomatch hp) ?_
 have hn' := hsJ r b off n cap (u || hY T f n x (y + 1)) (v || hY T g n x (y + 1)) x y
 rw [show IntKind.wrap .i64 (Int.ofNat y + Int.ofNat 1) = ((y + 1 : Nat) : Int) from inc1 (by omega)] at hn'
 exact (hn' _ _ _ _).trans (qq_ok ⟨n - (y + 1), by omega, y + 1, c, rfl, rfl, rfl, rfl⟩)
end
section
variable {r : Mem} {b off n cap : Nat} {T : List (List Bool)}
theorem tHs_ok (hM : TabM r b off T) (hn : T.length = n) (hc : ckO T = true) : TOk (SC r) (tHs (RS b off n cap) n (twF T) (thF T)) := (TOk.nil.cons (EOk.ent fun args A hgd => by
  split at hgd
  ·rename_i o a b' c d
   obtain ⟨rfl, h1, h2, h3, h4⟩ := @of_decide_eq_true _ (Classical.propDecidable _) hgd
   have h := rf_th (cap := cap) hM hn hc fun i => match i with | 0 => (a.toNat : Nat) | 1 => (b'.toNat : Nat) | 2 => (c.toNat : Nat) | _ => (d.toNat : Nat)
   have e : x4 (fun i => match i with | 0 => (a.toNat : Nat) | 1 => (b'.toNat : Nat) | 2 => (c.toNat : Nat) | _ => (d.toNat : Nat)) = .agg ⟨[I a, I b', I c, I d]⟩ := by
    show Value.agg ⟨[I ((a.toNat : Nat) : Int), I ((b'.toNat : Nat) : Int), I ((c.toNat : Nat) : Int), I ((d.toNat : Nat) : Int)]⟩ = _
    rw [show ((a.toNat : Nat) : Int) = a by omega, show ((b'.toNat : Nat) : Int) = b' by omega, show ((c.toNat : Nat) : Int) = c by omega, show ((d.toNat : Nat) : Int) = d by omega]
   rw [e] at h
   exact h.ro rfl A
  ·cases hgd)).cons (EOk.ent fun args A hgd => by
  split at hgd
  ·rename_i o a b' c d
   obtain ⟨rfl, h1, h2, h3, h4⟩ := @of_decide_eq_true _ (Classical.propDecidable _) hgd
   have h := rf_tw (cap := cap) hM hn hc fun i => match i with | 0 => (a.toNat : Nat) | 1 => (b'.toNat : Nat) | 2 => (c.toNat : Nat) | _ => (d.toNat : Nat)
   have e : x4 (fun i => match i with | 0 => (a.toNat : Nat) | 1 => (b'.toNat : Nat) | 2 => (c.toNat : Nat) | _ => (d.toNat : Nat)) = .agg ⟨[I a, I b', I c, I d]⟩ := by
    show Value.agg ⟨[I ((a.toNat : Nat) : Int), I ((b'.toNat : Nat) : Int), I ((c.toNat : Nat) : Int), I ((d.toNat : Nat) : Int)]⟩ = _
    rw [show ((a.toNat : Nat) : Int) = a by omega, show ((b'.toNat : Nat) : Int) = b' by omega, show ((c.toNat : Nat) : Int) = c by omega, show ((d.toNat : Nat) : Int) = d by omega]
   rw [e] at h
   exact h.ro rfl A
  ·cases hgd)
theorem hs_ok (hM : TabM r b off T) (hn : T.length = n) (hc : ckO T = true) : GrT Tryz.prog r 11 [RS b off n cap] (.tuple ⟨[.bool (hX T (twF T) n n), .bool (hX T (thF T) n n)]⟩) := by
 have hl := ck_len hc
 have htb := tHs_ok (cap := cap) hM hn hc
 generalize twF T = f at htb
 generalize thF T = g at htb
 refine GrT.ofS (C := SC r) rfl rfl rfl (callO (SC_ok r) (by kernel_rfl) ((bodySC r _).trans Hs_eq2) (nt := 62) (by kernel_rfl) (rs := [.tmp 2, .tmp 3]) (by kernel_rfl) mHs rfl ⟨[2, 3], [], fun vs ms os => vs = [some (.bool (hX T f n n)), some (.bool (hX T g n n))] ∧ ms = [] ∧ os = []⟩ ?_ fun γ W F kk hwr hF hro h0' => ?_)
 ·rintro vs ms os ⟨rfl, rfl, rfl⟩
  exact ⟨_, mkA [], by kernel_rfl, rfl⟩
 have h0' : ∀ i, 0 ≤ i → γ i = none := h0'
 refine Go.Ev.Reach.after3R (SC_ok r) TOk.nil (tm := .nil) (L := 1) (L' := 1) (d := 1) hF hro h0' (.step (.step (.step .base))) (o1 := ⟨lvH0, [], fun vs ms os => vs = vH0 b off n cap false false 0 ∧ ms = [] ∧ os = []⟩) (o2 := ⟨[5, 6], [], fun vs ms os => vs = [some (.bool (hX T f n n)), some (.bool (hX T g n n))] ∧ ms = [] ∧ os = []⟩) [] (fun p hp => nomatch hp) ?_ ?_ ((hsA r b off n cap _ _ _ _).trans (qq_ok ⟨rfl, rfl, rfl⟩))
 ·rintro vs ms os ⟨rfl, rfl, rfl⟩
  refine Go.Ev.Reach.blockC (Go.Ev.Reach.loopC (j := n) (lv := lvH0) (fl := []) (I := fun j vs ms os => ∃ x : Nat, x ≤ n ∧ j = n - x ∧ vs = vH0 b off n cap (hX T f n x) (hX T g n x) x ∧ ms = [] ∧ os = []) (fun j vs ms os hI => ?_) ⟨0, by omega, rfl, rfl, rfl, rfl⟩)
  obtain ⟨x, hx, rfl, rfl, rfl, rfl⟩ := hI
  refine Go.Ev.Reach.seqC (o1 := ⟨lvH0, [], fun vs ms os => x < n ∧ vs = vH0 b off n cap (hX T f n x) (hX T g n x) x ∧ ms = [] ∧ os = []⟩) (Go.Ev.Reach.segR (SC_ok r) TOk.nil (tm := .nil) (L := 1) (L' := 1) (d := 1) hF hro h0' [(0, ⟨[5, 6], [], fun vs ms os => vs = [some (.bool (hX T f n n)), some (.bool (hX T g n n))] ∧ ms = [] ∧ os = []⟩)] (fun p hp => by simp only [List.mem_cons, List.not_mem_nil, or_false] at hp; subst hp; rfl) ?_) ?_
  ·have hn' := hsB r b off n cap (hX T f n x) (hX T g n x) x
   by_cases c : x < n
   ·simp only [dT (show Int.ofNat x < Int.ofNat n by simp; omega), cond_true] at hn'
    exact (hn' _ _ _ _).trans (qq_ok ⟨c, rfl, rfl, rfl⟩)
   ·obtain rfl : x = n := by omega
    simp only [dF (show ¬ Int.ofNat x < Int.ofNat x by simp), cond_false] at hn'
    exact (hn' _ _ _ _).trans (qq_ok ⟨rfl, rfl, rfl⟩)
  rintro vs ms os ⟨c, rfl, rfl, rfl⟩
  refine Go.Ev.Reach.seqC (o1 := ⟨lvH0, [], fun vs ms os => vs = vH0 b off n cap (hX T f n (x + 1)) (hX T g n (x + 1)) x ∧ ms = [] ∧ os = []⟩) (Go.Ev.Reach.blockC (Go.Ev.Reach.seqC (o1 := ⟨lvH1, [], fun vs ms os => vs = vH1 b off n cap (hX T f n x) (hX T g n x) x 0 ∧ ms = [] ∧ os = []⟩) (Go.Ev.Reach.segR (SC_ok r) TOk.nil (tm := .nil) (L := 1) (L' := 1) (d := 1) hF hro h0' [] (fun p hp => nomatch hp) ((hsC r b off n cap _ _ x _ _ _ _).trans (qq_ok ⟨rfl, rfl, rfl⟩))) ?_)) ?_
  ·rintro vs ms os ⟨rfl, rfl, rfl⟩
   exact hs_y htb hM hn hc c _ _ hF hro h0'
  rintro vs ms os ⟨rfl, rfl, rfl⟩
  refine Go.Ev.Reach.segR (SC_ok r) TOk.nil (tm := .nil) (L := 1) (L' := 1) (d := 1) hF hro h0' [] (fun p hp => nomatch hp) ?_
  have hn' := hsK r b off n cap (hX T f n (x + 1)) (hX T g n (x + 1)) x
  rw [show IntKind.wrap .i64 (Int.ofNat x + Int.ofNat 1) = ((x + 1 : Nat) : Int) from inc1 (by omega)] at hn'
  exact (hn' _ _ _ _).trans (qq_ok ⟨n - (x + 1), by omega, x + 1, c, rfl, rfl, rfl, rfl⟩)
 ·rintro vs ms os ⟨rfl, rfl, rfl⟩
  refine Go.Ev.Reach.segR (SC_ok r) TOk.nil (tm := .nil) (L := 1) (L' := 1) (d := 1) hF hro h0' [] (fun p hp => nomatch hp) ?_
  generalize hX T f n n = u
  generalize hX T g n n = v
  have hn' := hsL r u v
  cases u <;> cases v <;> exact (hn' _ _ _ _).trans (qq_ok ⟨rfl, rfl, rfl⟩)
end
end Go.Proofs
namespace Go.Proofs
open Go Go.Ev Go.Num
def idK (L : List Nat) (s : Nat) : Nat → Nat
 | 0 => 0
 | k + 1 => bif Nat.beq (L.getD k 0) s then k else idK L s k
def ciR (w : Nat → Nat) (m j : Nat) : Int := if j % 2 = 0 then (idK (rsN w m) (w (j / 2)) (rsN w m).length : Nat) else (rtK (rsN w m) (j / 2) 0 (rsN w m).length : Nat)
theorem ci_snoc (w : Nat → Nat) (m x : Nat) : ixN (ciR w m) (2 * x) ++ [I (idK (rsN w m) (w x) (rsN w m).length : Nat), I (rtK (rsN w m) x 0 (rsN w m).length : Nat)] = ixN (ciR w m) (2 * (x + 1)) := by
 unfold ixN
 rw [show 2 * (x + 1) = 2 * x + 1 + 1 by omega, List.range_succ, List.range_succ, List.map_append, List.map_append, List.append_assoc]
 congr 1
 have e1 : ciR w m (2 * x) = (idK (rsN w m) (w x) (rsN w m).length : Nat) := by unfold ciR; rw [if_pos (by omega), show 2 * x / 2 = x by omega]
 have e2 : ciR w m (2 * x + 1) = (rtK (rsN w m) x 0 (rsN w m).length : Nat) := by unfold ciR; rw [if_neg (by omega), show (2 * x + 1) / 2 = x by omega]
 show _ = [I (ciR w m (2 * x))] ++ [I (ciR w m (2 * x + 1))]
 rw [e1, e2]
 rfl
section
variable {r : Mem} {b off n cap : Nat} {T : List (List Bool)}
theorem shr2 (s : Nat) {k : Nat} (h : k ≤ 12) : (Int.tmod (Int.fdiv ((s : Nat) : Int) (Int.ofNat 2 ^ min k 64)) (Int.ofNat 2) == Int.ofNat 0) = !s.testBit k := by
 rw [show ((s : Nat) : Int) = Int.ofNat s from rfl, shr12 s h, Nat.testBit_eq_decide_div_mod_eq]
 have e : Int.tmod ((s / 2 ^ k : Nat) : Int) (Int.ofNat 2) = ((s / 2 ^ k % 2 : Nat) : Int) := rfl
 rw [e]
 by_cases c : s / 2 ^ k % 2 = 1
 ·rw [c]; rfl
 ·rw [show s / 2 ^ k % 2 = 0 by omega]; rfl
theorem cn_xn (hM : TabM r b off T) (hn : T.length = n) (hc : ckO T = true) {w : Nat → Nat} (hwT : w = clW T) {L : List Nat} {x : Nat} (hx : x < n) (hx0 : x = 0) {F : Fence} {kk : Nat} {γ : Gam} {W : World} (hF : Wide F) (hro : RoRel γ none F.round) (h0' : ∀ i, 0 ≤ i → γ i = none) {ox : Nat → Outs} {orr : Outs} (hlen : L.length ≤ 12) :
  Go.Ev.Reach (SC r) mCn 47 F kk γ W (.seq Cn_5 (.seq (.seq Cn_6 (.block 2 (.loop Cn_7))) Cn_8)) (St.of lvCn (vCn b off n cap L.length nilT x) [] [oI1 (rowI (eI L)) 0]) (CanQ (SC r) mCn 47 γ W ⟨lvCn, [], fun vs ms os => vs = vCn b off n cap L.length (gx 1 (x + 1)) x ∧ ms = [] ∧ os = [oI1 (rowI (eI L)) 0, oP2 ([I (idK L (w x) L.length : Nat), I (rtK L x 0 L.length : Nat)]) 1]⟩ ox orr) := by
 have hl := ck_len hc
 have hnn := rowI_nn (eI L)
 refine Go.Ev.Reach.after3R (SC_ok r) TOk.nil (tm := .nil) (L := 1) (L' := 1) (d := 1) hF hro h0' (.step .base) (o1 := ⟨lvCm, [], fun vs ms os => vs = vCm b off n cap L.length nilT x 1 0 ∧ ms = [] ∧ os = [oI1 (rowI (eI L)) 0, oBx2 0 0 1]⟩) (o2 := ⟨lvCo, [], fun vs ms os => vs = vCo b off n cap L.length nilT x 1 ∧ ms = [] ∧ os = [oI1 (rowI (eI L)) 0, oBx2 (idK L (w x) L.length) (rtK L x 0 L.length) 1]⟩) [] (fun p hp => nomatch hp) ?_ ?_ ?_
 ·rintro vs ms os ⟨rfl, rfl, rfl⟩
  refine Go.Ev.Reach.blockC (Go.Ev.Reach.loopC (j := L.length) (lv := lvCm) (fl := []) (I := fun j vs ms os => ∃ k : Nat, k ≤ L.length ∧ j = L.length - k ∧ vs = vCm b off n cap L.length nilT x 1 k ∧ ms = [] ∧ os = [oI1 (rowI (eI L)) 0, oBx2 (idK L (w x) k) (rtK L x 0 k) 1]) (fun j vs ms os hI => ?_) ⟨0, by omega, rfl, rfl, rfl, rfl⟩)
  obtain ⟨k, hk, rfl, rfl, rfl, rfl⟩ := hI
  refine Go.Ev.Reach.segR (SC_ok r) (t := tCb (RS b off n cap) n w) (by rw [hwT]; exact TOk.nil.cons (eBe_ok hM hn hc)) (tm := .nil) (L := 1) (L' := 1) (d := 1) hF hro h0' [(2, ⟨lvCo, [], fun vs ms os => vs = vCo b off n cap L.length nilT x 1 ∧ ms = [] ∧ os = [oI1 (rowI (eI L)) 0, oBx2 (idK L (w x) L.length) (rtK L x 0 L.length) 1]⟩)] (fun p hp => by simp only [List.mem_cons, List.not_mem_nil, or_false] at hp; subst hp; rfl) ?_
  have hn' := cnDn r b off n cap L.length x k (rowI (eI L)) (idK L (w x) k) (rtK L x 0 k) w
  have two : ∀ x y : Int, m_nns [I x, I y] = true := fun _ _ => rfl
  simp only [tnO, hnn, two, Bool.and_true, Bool.and_self, cond_true] at hn'
  by_cases c : k < L.length
  ·have q1 : Nat.blt k L.length = true := Nat.ble_eq_true_of_le c
   have q2 : (rowI (eI L))[Nat.add 0 (Nat.mul k 1)]? = some (I ((L[k] : Nat) : Int)) := by
    rw [show Nat.add 0 (Nat.mul k 1) = k by simp, rowI_get (by rw [eI_len]; exact c), eI_get c]
   have q3 : m_bg (.slice (some ⟨b, off, some 0⟩) n cap) n (.slice (some ⟨b, off, some 0⟩) n cap) (Int.ofNat x) = true := @decide_eq_true _ (Classical.propDecidable _) ⟨rfl, by simp, by simp; omega⟩
   have q4 : m_ow w (Int.ofNat x) = ((w x : Nat) : Int) := rfl
   have q5 : L.getD k 0 = L[k] := by simp [c]
   have q6 : rtK L x 0 (k + 1) = bif (L[k]).testBit x then rtK L x 0 k else k := by rw [rtK, q5]
   have q7 : idK L (w x) (k + 1) = bif Nat.beq L[k] (w x) then k else idK L (w x) k := by rw [idK, q5]
   simp only [dT (show Int.ofNat k < Int.ofNat L.length by simp; omega), q1, q2, q3, q4, isI_I, cond_true] at hn'
   dsimp +instances only [ofI_I] at hn'
   simp only [eqv_i, shr2 L[k] (show x ≤ 12 by omega), cond_true] at hn'
   rw [show IntKind.wrap .i64 (Int.ofNat k + Int.ofNat 1) = ((k + 1 : Nat) : Int) from inc1 (by omega)] at hn'
   by_cases c1 : L[k] = w x
   ·rw [c1, Nat.beq_refl, cond_true] at q7
    simp only [eqT (show ((L[k] : Nat) : Int) = ((w x : Nat) : Int) by omega), cond_true] at hn'
    cases hb : (L[k]).testBit x with
    | true =>
     simp only [hb, Bool.not_true, cond_false] at hn'
     rw [hb, cond_true] at q6
     exact (hn' _ _ _).trans (qq_ok ⟨L.length - (k + 1), by omega, k + 1, c, rfl, rfl, rfl, by rw [q6, q7]; rfl⟩)
    | false =>
     simp only [hb, Bool.not_false, cond_true] at hn'
     rw [hb, cond_false] at q6
     exact (hn' _ _ _).trans (qq_ok ⟨L.length - (k + 1), by omega, k + 1, c, rfl, rfl, rfl, by rw [q6, q7]; rfl⟩)
   ·rw [natFx c1, cond_false] at q7
    simp only [eqF (show ((L[k] : Nat) : Int) ≠ ((w x : Nat) : Int) by omega), cond_false] at hn'
    cases hb : (L[k]).testBit x with
    | true =>
     simp only [hb, Bool.not_true, cond_false] at hn'
     rw [hb, cond_true] at q6
     exact (hn' _ _ _).trans (qq_ok ⟨L.length - (k + 1), by omega, k + 1, c, rfl, rfl, rfl, by rw [q6, q7]; rfl⟩)
    | false =>
     simp only [hb, Bool.not_false, cond_true] at hn'
     rw [hb, cond_false] at q6
     exact (hn' _ _ _).trans (qq_ok ⟨L.length - (k + 1), by omega, k + 1, c, rfl, rfl, rfl, by rw [q6, q7]; rfl⟩)
  ·obtain rfl : k = L.length := by omega
   simp only [dF (show ¬ Int.ofNat L.length < Int.ofNat L.length by simp), cond_false] at hn'
   exact (hn' _ _ _).trans (qq_ok ⟨rfl, rfl, rfl⟩)
 ·rintro vs ms os ⟨rfl, rfl, rfl⟩
  refine Go.Ev.Reach.segR (SC_ok r) TOk.nil (tm := .nil) (L := 1) (L' := 1) (d := 1) hF hro h0' [] (fun p hp => nomatch hp) ?_
  have hn' := cnEn r b off n cap L.length x (rowI (eI L)) (idK L (w x) L.length) (rtK L x 0 L.length)
  have two : ∀ x y : Int, m_nns [I x, I y] = true := fun _ _ => rfl
  simp only [hnn, two, Bool.and_true, Bool.and_self, cond_true] at hn'
  subst hx0
  exact (hn' _ _ _ _).trans (qq_ok ⟨rfl, rfl, rfl⟩)
 ·have hn' := cnCn r b off n cap L.length x (rowI (eI L))
  have two : ∀ x y : Int, m_nns [I x, I y] = true := fun _ _ => rfl
  simp only [hnn, Bool.and_true, Bool.and_self, cond_true] at hn'
  exact (hn' _ _ _ _).trans (qq_ok ⟨rfl, rfl, rfl⟩)
theorem cn_xr (hM : TabM r b off T) (hn : T.length = n) (hc : ckO T = true) {w : Nat → Nat} (hwT : w = clW T) {L : List Nat} {x : Nat} (hx : x < n) {e : List Value} (hel : e.length = 2 * x) (hen : m_nns e = true) (hx1 : x ≤ 1000) {F : Fence} {kk : Nat} {γ : Gam} {W : World} (hF : Wide F) (hro : RoRel γ none F.round) (h0' : ∀ i, 0 ≤ i → γ i = none) {ox : Nat → Outs} {orr : Outs} (hlen : L.length ≤ 12) :
  Go.Ev.Reach (SC r) mCn 47 F kk γ W (.seq Cn_5 (.seq (.seq Cn_6 (.block 2 (.loop Cn_7))) Cn_8)) (St.of lvCn (vCn b off n cap L.length (gx 1 x) x) [] [oI1 (rowI (eI L)) 0, oP2 e 1]) (CanQ (SC r) mCn 47 γ W ⟨lvCn, [], fun vs ms os => vs = vCn b off n cap L.length (gx 1 (x + 1)) x ∧ ms = [] ∧ os = [oI1 (rowI (eI L)) 0, oP2 (e ++ [I (idK L (w x) L.length : Nat), I (rtK L x 0 L.length : Nat)]) 1]⟩ ox orr) := by
 have hl := ck_len hc
 have hnn := rowI_nn (eI L)
 refine Go.Ev.Reach.after3R (SC_ok r) TOk.nil (tm := .nil) (L := 1) (L' := 1) (d := 1) hF hro h0' (.step .base) (o1 := ⟨lvCm, [], fun vs ms os => vs = vCm b off n cap L.length (gx 1 x) x 2 0 ∧ ms = [] ∧ os = [oI1 (rowI (eI L)) 0, oP2 e 1, oBx2 0 0 2]⟩) (o2 := ⟨lvCo, [], fun vs ms os => vs = vCo b off n cap L.length (gx 1 x) x 2 ∧ ms = [] ∧ os = [oI1 (rowI (eI L)) 0, oP2 e 1, oBx2 (idK L (w x) L.length) (rtK L x 0 L.length) 2]⟩) [] (fun p hp => nomatch hp) ?_ ?_ ?_
 ·rintro vs ms os ⟨rfl, rfl, rfl⟩
  refine Go.Ev.Reach.blockC (Go.Ev.Reach.loopC (j := L.length) (lv := lvCm) (fl := []) (I := fun j vs ms os => ∃ k : Nat, k ≤ L.length ∧ j = L.length - k ∧ vs = vCm b off n cap L.length (gx 1 x) x 2 k ∧ ms = [] ∧ os = [oI1 (rowI (eI L)) 0, oP2 e 1, oBx2 (idK L (w x) k) (rtK L x 0 k) 2]) (fun j vs ms os hI => ?_) ⟨0, by omega, rfl, rfl, rfl, rfl⟩)
  obtain ⟨k, hk, rfl, rfl, rfl, rfl⟩ := hI
  refine Go.Ev.Reach.segR (SC_ok r) (t := tCb (RS b off n cap) n w) (by rw [hwT]; exact TOk.nil.cons (eBe_ok hM hn hc)) (tm := .nil) (L := 1) (L' := 1) (d := 1) hF hro h0' [(2, ⟨lvCo, [], fun vs ms os => vs = vCo b off n cap L.length (gx 1 x) x 2 ∧ ms = [] ∧ os = [oI1 (rowI (eI L)) 0, oP2 e 1, oBx2 (idK L (w x) L.length) (rtK L x 0 L.length) 2]⟩)] (fun p hp => by simp only [List.mem_cons, List.not_mem_nil, or_false] at hp; subst hp; rfl) ?_
  have hn' := cnDr r b off n cap L.length x k (rowI (eI L)) e (idK L (w x) k) (rtK L x 0 k) w
  have two : ∀ x y : Int, m_nns [I x, I y] = true := fun _ _ => rfl
  simp only [tnO, hnn, hen, two, Bool.and_true, Bool.and_self, cond_true] at hn'
  by_cases c : k < L.length
  ·have q1 : Nat.blt k L.length = true := Nat.ble_eq_true_of_le c
   have q2 : (rowI (eI L))[Nat.add 0 (Nat.mul k 1)]? = some (I ((L[k] : Nat) : Int)) := by
    rw [show Nat.add 0 (Nat.mul k 1) = k by simp, rowI_get (by rw [eI_len]; exact c), eI_get c]
   have q3 : m_bg (.slice (some ⟨b, off, some 0⟩) n cap) n (.slice (some ⟨b, off, some 0⟩) n cap) (Int.ofNat x) = true := @decide_eq_true _ (Classical.propDecidable _) ⟨rfl, by simp, by simp; omega⟩
   have q4 : m_ow w (Int.ofNat x) = ((w x : Nat) : Int) := rfl
   have q5 : L.getD k 0 = L[k] := by simp [c]
   have q6 : rtK L x 0 (k + 1) = bif (L[k]).testBit x then rtK L x 0 k else k := by rw [rtK, q5]
   have q7 : idK L (w x) (k + 1) = bif Nat.beq L[k] (w x) then k else idK L (w x) k := by rw [idK, q5]
   simp only [dT (show Int.ofNat k < Int.ofNat L.length by simp; omega), q1, q2, q3, q4, isI_I, cond_true] at hn'
   dsimp +instances only [ofI_I] at hn'
   simp only [eqv_i, shr2 L[k] (show x ≤ 12 by omega), cond_true] at hn'
   rw [show IntKind.wrap .i64 (Int.ofNat k + Int.ofNat 1) = ((k + 1 : Nat) : Int) from inc1 (by omega)] at hn'
   by_cases c1 : L[k] = w x
   ·rw [c1, Nat.beq_refl, cond_true] at q7
    simp only [eqT (show ((L[k] : Nat) : Int) = ((w x : Nat) : Int) by omega), cond_true] at hn'
    cases hb : (L[k]).testBit x with
    | true =>
     simp only [hb, Bool.not_true, cond_false] at hn'
     rw [hb, cond_true] at q6
     exact (hn' _ _ _).trans (qq_ok ⟨L.length - (k + 1), by omega, k + 1, c, rfl, rfl, rfl, by rw [q6, q7]; rfl⟩)
    | false =>
     simp only [hb, Bool.not_false, cond_true] at hn'
     rw [hb, cond_false] at q6
     exact (hn' _ _ _).trans (qq_ok ⟨L.length - (k + 1), by omega, k + 1, c, rfl, rfl, rfl, by rw [q6, q7]; rfl⟩)
   ·rw [natFx c1, cond_false] at q7
    simp only [eqF (show ((L[k] : Nat) : Int) ≠ ((w x : Nat) : Int) by omega), cond_false] at hn'
    cases hb : (L[k]).testBit x with
    | true =>
     simp only [hb, Bool.not_true, cond_false] at hn'
     rw [hb, cond_true] at q6
     exact (hn' _ _ _).trans (qq_ok ⟨L.length - (k + 1), by omega, k + 1, c, rfl, rfl, rfl, by rw [q6, q7]; rfl⟩)
    | false =>
     simp only [hb, Bool.not_false, cond_true] at hn'
     rw [hb, cond_false] at q6
     exact (hn' _ _ _).trans (qq_ok ⟨L.length - (k + 1), by omega, k + 1, c, rfl, rfl, rfl, by rw [q6, q7]; rfl⟩)
  ·obtain rfl : k = L.length := by omega
   simp only [dF (show ¬ Int.ofNat L.length < Int.ofNat L.length by simp), cond_false] at hn'
   exact (hn' _ _ _).trans (qq_ok ⟨rfl, rfl, rfl⟩)
 ·rintro vs ms os ⟨rfl, rfl, rfl⟩
  refine Go.Ev.Reach.segR (SC_ok r) TOk.nil (tm := .nil) (L := 1) (L' := 1) (d := 1) hF hro h0' [] (fun p hp => nomatch hp) ?_
  have hn' := cnEr r b off n cap L.length x (rowI (eI L)) e (idK L (w x) L.length) (rtK L x 0 L.length)
  have two : ∀ x y : Int, m_nns [I x, I y] = true := fun _ _ => rfl
  have ht : takeAt e 0 (Nat.mul x 2) = some e := takeL_row _ _ (by rw [hel, Nat.mul_eq]; omega)
  have hen2 : ∀ x y : Int, m_nns (e ++ [I x, I y]) = true := fun x y => by rw [nns_app, hen]; rfl
  simp only [hnn, ht, hen2, Nat.ble_eq_true_of_le (show Nat.add x 1 ≤ 1000000 by rw [Nat.add_eq]; omega), Bool.and_true, Bool.and_self, cond_true] at hn'
  exact (hn' _ _ _ _).trans (qq_ok ⟨rfl, rfl, rfl⟩)
 ·have hn' := cnCr r b off n cap L.length x (rowI (eI L)) e
  have two : ∀ x y : Int, m_nns [I x, I y] = true := fun _ _ => rfl
  simp only [hnn, hen, Bool.and_true, Bool.and_self, cond_true] at hn'
  exact (hn' _ _ _ _).trans (qq_ok ⟨rfl, rfl, rfl⟩)
theorem cn_S (hM : TabM r b off T) (hn : T.length = n) (hc : ckO T = true) : SOk (SC r) 17 [RS b off n cap] emptyA fun v A => v = gx 0 n ∧ A = mkA [oP2 (ixN (ciR (clW T) n) (2 * n)) 0] := by
 have hl := ck_len hc
 obtain ⟨w, hwT⟩ : ∃ w, w = clW T := ⟨_, rfl⟩
 have hrs := rs_S (cap := cap) hM hn hc
 rw [← hwT] at hrs ⊢
 have hrl := rs_len w n
 refine callO (SC_ok r) (by kernel_rfl) ((bodySC r _).trans Cn_eq) (nt := 47) (by kernel_rfl) (rs := [.tmp 2]) (by kernel_rfl) mCn rfl ⟨[2], [], fun vs ms os => vs = [some (gx 0 n)] ∧ ms = [] ∧ os = [oP2 (ixN (ciR w n) (2 * n)) 0]⟩ ?_ fun γ W F kk hwr hF hro h0' => ?_
 ·rintro vs ms os ⟨rfl, rfl, rfl⟩
  exact ⟨_, mkA [oP2 (ixN (ciR w n) (2 * n)) 0], by kernel_rfl, rfl, rfl⟩
 have h0' : ∀ i, 0 ≤ i → γ i = none := h0'
 obtain ⟨L, hL⟩ : ∃ L, L = rsN w n := ⟨_, rfl⟩
 have hLl : L.length ≤ 12 := by rw [hL]; omega
 have hnn := rowI_nn (eI L)
 refine Go.Ev.Reach.after3R (SC_ok r) (t := tRm (RS b off n cap) L.length (rowI (eI L))) (by rw [hL]; exact TOk.nil.cons (eNw_ok (A1 := emptyA) rfl (rowI_gnd _) hrs)) (tm := .nil) (L := 1) (L' := 1) (d := 1) hF hro h0' (.step (.step (.step .base))) (o1 := ⟨lvCn, [], fun vs ms os => vs = vCn b off n cap L.length nilT 0 ∧ ms = [] ∧ os = [oI1 (rowI (eI L)) 0]⟩) (o2 := ⟨[4], [], fun vs ms os => vs = [some (gx 0 n)] ∧ ms = [] ∧ os = [oP2 (ixN (ciR w n) (2 * n)) 0]⟩) [] (fun p hp => nomatch hp) ?_ ?_ ?_
 ·rintro vs ms os ⟨rfl, rfl, rfl⟩
  refine Go.Ev.Reach.blockC (Go.Ev.Reach.loopC (j := n) (lv := lvCn) (fl := []) (I := fun j vs ms os => ∃ x : Nat, x ≤ n ∧ j = n - x ∧ ms = [] ∧ ((x = 0 ∧ vs = vCn b off n cap L.length nilT 0 ∧ os = [oI1 (rowI (eI L)) 0]) ∨ (1 ≤ x ∧ vs = vCn b off n cap L.length (gx 1 x) x ∧ os = [oI1 (rowI (eI L)) 0, oP2 (ixN (ciR w n) (2 * x)) 1]))) (fun j vs ms os hI => ?_) ⟨0, by omega, rfl, rfl, .inl ⟨rfl, rfl, rfl⟩⟩)
  obtain ⟨x, hx, rfl, rfl, ⟨rfl, rfl, rfl⟩ | ⟨hx1, rfl, rfl⟩⟩ := hI
  ·refine Go.Ev.Reach.seqC (o1 := ⟨lvCn, [], fun vs ms os => vs = vCn b off n cap L.length nilT 0 ∧ ms = [] ∧ os = [oI1 (rowI (eI L)) 0]⟩) (Go.Ev.Reach.segR (SC_ok r) TOk.nil (tm := .nil) (L := 1) (L' := 1) (d := 1) hF hro h0' [(0, ⟨[4], [], fun vs ms os => vs = [some (gx 0 n)] ∧ ms = [] ∧ os = [oP2 (ixN (ciR w n) (2 * n)) 0]⟩)] (fun p hp => by simp only [List.mem_cons, List.not_mem_nil, or_false] at hp; subst hp; rfl) ?_) ?_
   ·have hn' := cnBn r b off n cap L.length 0 (rowI (eI L))
    simp only [hnn, dT (show Int.ofNat 0 < Int.ofNat n by simp; omega), Bool.and_true, cond_true] at hn'
    exact (hn' _ _ _ _).trans (qq_ok ⟨rfl, rfl, rfl⟩)
   rintro vs ms os ⟨rfl, rfl, rfl⟩
   refine Go.Ev.Reach.seqC (Go.Ev.Reach.blockC (cn_xn hM hn hc hwT (show 0 < n by omega) rfl hF hro h0' (by omega))) ?_
   rintro vs ms os ⟨rfl, rfl, rfl⟩
   refine Go.Ev.Reach.segR (SC_ok r) TOk.nil (tm := .nil) (L := 1) (L' := 1) (d := 1) hF hro h0' [] (fun p hp => nomatch hp) ?_
   have hn' := cnF r b off n cap L.length 0 1 (rowI (eI L)) [I (idK L (w 0) L.length : Nat), I (rtK L 0 0 L.length : Nat)]
   have two : ∀ x y : Int, m_nns [I x, I y] = true := fun _ _ => rfl
   simp only [hnn, two, Bool.and_true, Bool.and_self, cond_true] at hn'
   have e := ci_snoc w n 0
   rw [← hL] at e
   exact (hn' _ _ _ _).trans (qq_ok ⟨n - 1, by omega, 1, by omega, rfl, rfl, .inr ⟨Nat.le_refl _, rfl, by rw [← e]; rfl⟩⟩)
  ·refine Go.Ev.Reach.seqC (o1 := ⟨lvCn, [], fun vs ms os => x < n ∧ vs = vCn b off n cap L.length (gx 1 x) x ∧ ms = [] ∧ os = [oI1 (rowI (eI L)) 0, oP2 (ixN (ciR w n) (2 * x)) 1]⟩) (Go.Ev.Reach.segR (SC_ok r) TOk.nil (tm := .nil) (L := 1) (L' := 1) (d := 1) hF hro h0' [(0, ⟨[4], [], fun vs ms os => vs = [some (gx 0 n)] ∧ ms = [] ∧ os = [oP2 (ixN (ciR w n) (2 * n)) 0]⟩)] (fun p hp => by simp only [List.mem_cons, List.not_mem_nil, or_false] at hp; subst hp; rfl) ?_) ?_
   ·have hn' := cnBr r b off n cap L.length x (rowI (eI L)) (ixN (ciR w n) (2 * x))
    simp only [hnn, ix_nn, Bool.and_true, Bool.and_self, cond_true] at hn'
    by_cases c : x < n
    ·simp only [dT (show Int.ofNat x < Int.ofNat n by simp; omega), cond_true] at hn'
     exact (hn' _ _ _ _).trans (qq_ok ⟨c, rfl, rfl, rfl⟩)
    ·obtain rfl : x = n := by omega
     simp only [dF (show ¬ Int.ofNat x < Int.ofNat x by simp), cond_false] at hn'
     exact (hn' _ _ _ _).trans (qq_ok ⟨rfl, rfl, rfl⟩)
   rintro vs ms os ⟨c, rfl, rfl, rfl⟩
   refine Go.Ev.Reach.seqC (Go.Ev.Reach.blockC (cn_xr hM hn hc hwT c (ix_len _ _) (ix_nn _ _) (by omega) hF hro h0' (by omega))) ?_
   rintro vs ms os ⟨rfl, rfl, rfl⟩
   refine Go.Ev.Reach.segR (SC_ok r) TOk.nil (tm := .nil) (L := 1) (L' := 1) (d := 1) hF hro h0' [] (fun p hp => nomatch hp) ?_
   have e := ci_snoc w n x
   rw [← hL] at e
   rw [e]
   have hn' := cnF r b off n cap L.length x (x + 1) (rowI (eI L)) (ixN (ciR w n) (2 * (x + 1)))
   simp only [hnn, ix_nn, Bool.and_true, Bool.and_self, cond_true] at hn'
   rw [show IntKind.wrap .i64 (Int.ofNat x + Int.ofNat 1) = ((x + 1 : Nat) : Int) from inc1 (by omega)] at hn'
   exact (hn' _ _ _ _).trans (qq_ok ⟨n - (x + 1), by omega, x + 1, c, rfl, rfl, .inr ⟨by omega, rfl, rfl⟩⟩)
 ·rintro vs ms os ⟨rfl, rfl, rfl⟩
  have hn' := cnG r n (ixN (ciR w n) (2 * n))
  simp only [ix_nn, Bool.and_true, cond_true] at hn'
  exact Go.Ev.Reach.segR (SC_ok r) TOk.nil (tm := .nil) (L := 1) (L' := 1) (d := 1) hF hro h0' [] (fun p hp => nomatch hp) ((hn' _ _ _ _).trans (qq_ok ⟨rfl, rfl, rfl⟩))
 ·have hn' := cnA r b off n cap L.length (rowI (eI L))
  simp only [svv_rfl, hnn, Bool.and_true, cond_true] at hn'
  exact (hn' _ _ _).trans (qq_ok ⟨rfl, rfl, rfl⟩)
theorem pz_ok {b2 o2 c2 : Nat} {z : Nat → Int} (h1 : rowAt r b off (2 * n) z) (h2 : rowAt r b2 o2 (2 * n) z) (hn : n ≤ 1000) : GrT Tryz.prog r 16 [RS2 b off n cap, RS2 b2 o2 n c2] (.bool true) := by
 refine GrT.ofS (C := SC r) rfl rfl rfl (callO (SC_ok r) (by kernel_rfl) ((bodySC r _).trans Pz_eq) (nt := 26) (by kernel_rfl) (rs := [.tmp 4]) (by kernel_rfl) mPz rfl ⟨[4], [], fun vs ms os => vs = [some (.bool true)] ∧ ms = [] ∧ os = []⟩ ?_ fun γ W F kk hwr hF hro h0' => ?_)
 ·rintro vs ms os ⟨rfl, rfl, rfl⟩
  exact ⟨_, mkA [], by kernel_rfl, rfl⟩
 have h0' : ∀ i, 0 ≤ i → γ i = none := h0'
 have ra : ∀ {b' o' : Nat}, rowAt r b' o' (2 * n) z → ∀ {i : Nat}, i < n → r b' (Nat.add o' (Nat.mul i 2)) = some (I (z (2 * i))) := fun hz i h => by
  have := hz (2 * i) (by omega)
  rw [Nat.add_eq, Nat.mul_eq, Nat.mul_comm]
  exact this
 have rb : ∀ {b' o' : Nat}, rowAt r b' o' (2 * n) z → ∀ {i : Nat}, i < n → r b' (Nat.succ (Nat.add o' (Nat.mul i 2))) = some (I (z (2 * i + 1))) := fun hz i h => by
  have := hz (2 * i + 1) (by omega)
  rw [Nat.add_eq, Nat.mul_eq, Nat.mul_comm]
  exact this
 refine Go.Ev.Reach.after3R (SC_ok r) TOk.nil (tm := .nil) (L := 1) (L' := 1) (d := 1) hF hro h0' (.step (.step .base)) (o1 := ⟨lvPz, [], fun vs ms os => vs = vPz b off n cap b2 o2 c2 0 ∧ ms = [] ∧ os = []⟩) (o2 := ⟨[], [], fun vs ms os => vs = [] ∧ ms = [] ∧ os = []⟩) [] (fun p hp => nomatch hp) ?_ ?_ ?_
 ·rintro vs ms os ⟨rfl, rfl, rfl⟩
  refine Go.Ev.Reach.blockC (Go.Ev.Reach.loopC (j := n) (lv := lvPz) (fl := []) (I := fun j vs ms os => ∃ k : Nat, k ≤ n ∧ j = n - k ∧ vs = vPz b off n cap b2 o2 c2 k ∧ ms = [] ∧ os = []) (fun j vs ms os hI => ?_) ⟨0, by omega, rfl, rfl, rfl, rfl⟩)
  obtain ⟨k, hk, rfl, rfl, rfl, rfl⟩ := hI
  refine Go.Ev.Reach.segR (SC_ok r) TOk.nil (tm := .nil) (L := 1) (L' := 1) (d := 1) hF hro h0' [(0, ⟨[], [], fun vs ms os => vs = [] ∧ ms = [] ∧ os = []⟩)] (fun p hp => by simp only [List.mem_cons, List.not_mem_nil, or_false] at hp; subst hp; rfl) ?_
  have hn' := pzB r b off n cap b2 o2 c2 k
  simp only [tnO] at hn'
  by_cases c : k < n
  ·have q1 : Nat.blt k n = true := Nat.ble_eq_true_of_le c
   simp only [dT (show Int.ofNat k < Int.ofNat n by simp; omega), q1, ra h1 c, rb h1 c, ra h2 c, rb h2 c, isI_I, cond_true] at hn'
   dsimp +instances only [ofI_I] at hn'
   simp only [beq_self_eq_true, Bool.and_self, Bool.not_true, cond_false] at hn'
   rw [show IntKind.wrap .i64 (Int.ofNat k + Int.ofNat 1) = ((k + 1 : Nat) : Int) from inc1 (by omega)] at hn'
   exact (hn' _ _ _ _).trans (qq_ok ⟨n - (k + 1), by omega, k + 1, c, rfl, rfl, rfl, rfl⟩)
  ·obtain rfl : k = n := by omega
   simp only [dF (show ¬ Int.ofNat k < Int.ofNat k by simp), cond_false] at hn'
   exact (hn' _ _ _ _).trans (qq_ok ⟨rfl, rfl, rfl⟩)
 ·rintro vs ms os ⟨rfl, rfl, rfl⟩
  exact Go.Ev.Reach.segR (SC_ok r) TOk.nil (tm := .nil) (L := 1) (L' := 1) (d := 1) hF hro h0' [] (fun p hp => nomatch hp) ((pzC r _ _ _ _).trans (qq_ok ⟨rfl, rfl, rfl⟩))
 ·have hn' := pzA r b off n cap b2 o2 c2
  simp only [neF (show Int.ofNat n = Int.ofNat n from rfl), cond_false] at hn'
  exact (hn' _ _ _ _).trans (qq_ok ⟨rfl, rfl, rfl⟩)
end
end Go.Proofs
namespace Go.Proofs
open Go Go.Ev Go.Num
noncomputable def cZt : Code := bodyOf S0 7
noncomputable def Zt_0 : Code := (lc cZt)
noncomputable def Zt_1 : Code := (lc (rc cZt))
noncomputable def Zt_2 : Code := (lc (rc (rc cZt)))
noncomputable def Zt_3 : Code := (lc (rc (rc (rc cZt))))
noncomputable def Zt_4 : Code := (lc (rc (rc (rc (rc cZt)))))
noncomputable def Zt_5 : Code := (lc (lc (rc (rc (rc (rc (rc cZt)))))))
noncomputable def Zt_6 : Code := (ic (ic (rc (lc (rc (rc (rc (rc (rc cZt)))))))))
noncomputable def Zt_7 : Code := (lc (lc (rc (rc (rc (rc (rc (rc cZt))))))))
noncomputable def Zt_8 : Code := (lc (ic (ic (rc (lc (rc (rc (rc (rc (rc (rc cZt)))))))))))
noncomputable def Zt_9 : Code := (lc (ic (lc (rc (ic (ic (rc (lc (rc (rc (rc (rc (rc (rc cZt))))))))))))))
noncomputable def Zt_10 : Code := (ic (ic (rc (ic (lc (rc (ic (ic (rc (lc (rc (rc (rc (rc (rc (rc cZt))))))))))))))))
noncomputable def Zt_11 : Code := (rc (rc (ic (ic (rc (lc (rc (rc (rc (rc (rc (rc cZt))))))))))))
noncomputable def Zt_12 : Code := (lc (lc (rc (rc (rc (rc (rc (rc (rc cZt)))))))))
noncomputable def Zt_13 : Code := (lc (ic (ic (rc (lc (rc (rc (rc (rc (rc (rc (rc cZt))))))))))))
noncomputable def Zt_14 : Code := (lc (ic (lc (rc (ic (ic (rc (lc (rc (rc (rc (rc (rc (rc (rc cZt)))))))))))))))
noncomputable def Zt_15 : Code := (lc (ic (ic (rc (ic (lc (rc (ic (ic (rc (lc (rc (rc (rc (rc (rc (rc (rc cZt))))))))))))))))))
noncomputable def Zt_16 : Code := (lc (ic (lc (rc (ic (ic (rc (ic (lc (rc (ic (ic (rc (lc (rc (rc (rc (rc (rc (rc (rc cZt)))))))))))))))))))))
noncomputable def Zt_17 : Code := (ic (ic (rc (ic (lc (rc (ic (ic (rc (ic (lc (rc (ic (ic (rc (lc (rc (rc (rc (rc (rc (rc (rc cZt)))))))))))))))))))))))
noncomputable def Zt_18 : Code := (rc (rc (ic (ic (rc (ic (lc (rc (ic (ic (rc (lc (rc (rc (rc (rc (rc (rc (rc cZt)))))))))))))))))))
noncomputable def Zt_19 : Code := (rc (rc (ic (ic (rc (lc (rc (rc (rc (rc (rc (rc (rc cZt)))))))))))))
noncomputable def Zt_20 : Code := (rc (rc (rc (rc (rc (rc (rc (rc cZt))))))))
theorem Zt_eq : cZt = (.seq Zt_0 (.seq Zt_1 (.seq Zt_2 (.seq Zt_3 (.seq Zt_4 (.seq (.seq Zt_5 (.block 0 (.loop Zt_6))) (.seq (.seq Zt_7 (.block 2 (.loop (.seq Zt_8 (.seq (.block 3 (.seq Zt_9 (.block 4 (.loop Zt_10)))) Zt_11))))) (.seq (.seq Zt_12 (.block 6 (.loop (.seq Zt_13 (.seq (.block 7 (.seq Zt_14 (.block 8 (.loop (.seq Zt_15 (.seq (.block 9 (.seq Zt_16 (.block 10 (.loop Zt_17)))) Zt_18)))))) Zt_19))))) Zt_20)))))))) := by kernel_rfl
noncomputable def Za : Code := lc Zt_10
noncomputable def Zb : Code := ic (lc (rc Zt_10))
noncomputable def Zb0 : Code := lc Zb
noncomputable def Zb1 : Code := lc (rc Zb)
noncomputable def Zb2 : Code := lc (lc (rc (rc Zb)))
noncomputable def Zb3 : Code := rc (lc (rc (rc Zb)))
noncomputable def Zc : Code := rc (rc Zt_10)
theorem Zt10_eq : Zt_10 = .seq Za (.seq (.block 5 (.seq Zb0 (.seq Zb1 (.cond (.tmp 89) (.seq Zb2 Zb3) .skip)))) Zc) := by kernel_rfl
noncomputable def Zd : Code := lc Zt_17
noncomputable def Ze : Code := ic (lc (rc Zt_17))
noncomputable def Ze0 : Code := lc Ze
noncomputable def Ze1 : Code := lc (lc (rc Ze))
noncomputable def Ze2 : Code := rc (lc (rc Ze))
noncomputable def Zf : Code := rc (rc Zt_17)
theorem Zt17_eq : Zt_17 = .seq Zd (.seq (.block 11 (.seq Ze0 (.cond (.tmp 127) (.seq Ze1 Ze2) .skip))) Zf) := by kernel_rfl
def mZt : Nat := 170141183461088201751329993853333733373
noncomputable def eZ (a0 : List Value) (v : Value) : Ent := ent (fun args _ => m_svv args a0) fun _ _ => v
noncomputable def tZc (sl : Value) (e : Int) : Tbl := tcons 30 (eZ [sl] (I e)) fun _ => none
def enZ (sl : Value) : List (Nat × Value) × Tr Value := ([(16, sl)], bT [0] [some sl] .nil)
def lvZ0 : List Nat := [3, 4, 5, 6]
def vZ0 (p E : Value) (n x : Nat) : OV := [some p, some (I (n : Nat)), some E, some (I (x : Nat))]
def lvZ2 : List Nat := [3, 4, 5, 7]
def lvZ3 : List Nat := [3, 4, 5, 7, 8]
def lvZ4 : List Nat := [3, 4, 5, 7, 8, 9, 10]
def lvZ5 : List Nat := [3, 4, 5, 7, 8, 9, 10, 89]
def vZ3 (p o : Value) (n x y : Nat) : OV := [some p, some (I (n : Nat)), some o, some (I (x : Nat)), some (I (y : Nat))]
def vZ4 (p o : Value) (n x y a b : Nat) : OV := [some p, some (I (n : Nat)), some o, some (I (x : Nat)), some (I (y : Nat)), some (I (a : Nat)), some (I (b : Nat))]
def lvZ6 : List Nat := [4, 5, 12]
def lvZ7 : List Nat := [4, 5, 12, 13]
def lvZ8 : List Nat := [4, 5, 12, 13, 14]
def vZ6 (o : Value) (n z : Nat) : OV := [some (I (n : Nat)), some o, some (I (z : Nat))]
def vZ7 (o : Value) (n z x : Nat) : OV := [some (I (n : Nat)), some o, some (I (z : Nat)), some (I (x : Nat))]
def vZ8 (o : Value) (n z x y : Nat) : OV := [some (I (n : Nat)), some o, some (I (z : Nat)), some (I (x : Nat)), some (I (y : Nat))]
theorem ztA (r : Mem) (b off n cap : Nat) (fs : FnsC) (K : KO) (kx : Nat → KS) (kr : KS) : run (SC r) mZt 136 1 Zt_0 fs none (rbK 0 [0] [] K) kx kr (sc0 mZt [RS b off n cap]) (tr0 mZt [RS b off n cap]) [] emptyA =
    K [some (.slice (some ⟨b, off, some 0⟩) n cap)] [] [] := by kernel_rfl
theorem ztB (r : Mem) (b off n cap : Nat) (fs : FnsC) (K : KS) : preK (SC r) mZt 136 Zt_1 1 fs K [] (bT [0] [some (RS b off n cap)] .nil) [] (mkA []) =
    K [(16, .slice (some ⟨b, off, some 0⟩) n cap)] (.node .nil (some (.slice (some ⟨b, off, some 0⟩) n cap)) .nil) [] (AW.mk 0 .nil .nil) := by kernel_rfl
theorem ztC (r : Mem) (b off n cap : Nat) (m : Nat) (c : List Value) (fs : FnsC) (K : KO) : tailK (SC r) mZt 136 Zt_1 1 fs (rbK 0 [3] [] K) (gwT 0 m) (enZ (RS b off n cap)).1 (enZ (RS b off n cap)).2 [] (mkA [oTb c 0]) =
    bif m_nns c && true then K [some (.slice (some ⟨0, 0, none⟩) m unk)] [] [some (.cells c 52 0 1)] else F4 := by kernel_rfl
theorem ztD0 (r : Mem) (bp op m : Nat) (K : KO) (kx : Nat → KS) (KR : KO) : run (SC r) mZt 136 1 Zt_2 (lvlT (SC r) (tZc (RS bp op m 0) 0) .nil 1 1) none (rbK 0 [3] [] K) kx (rbK 0 [2] [] KR) [] (bT [3] [some (RS bp op m 0)] .nil) [] (mkA []) =
    bif m_svv [.slice (some ⟨bp, op, some 0⟩) m 0] [.slice (some ⟨bp, op, some 0⟩) m 0] then KR [some (.slice (some ⟨bp, op, some 0⟩) m 0)] [] [] else F4 := by kernel_rfl
theorem ztD100 (r : Mem) (bp op m : Nat) (K : KO) (kx : Nat → KS) (KR : KO) : run (SC r) mZt 136 1 Zt_2 (lvlT (SC r) (tZc (RS bp op m 0) 100) .nil 1 1) none (rbK 0 [3] [] K) kx (rbK 0 [2] [] KR) [] (bT [3] [some (RS bp op m 0)] .nil) [] (mkA []) =
    bif m_svv [.slice (some ⟨bp, op, some 0⟩) m 0] [.slice (some ⟨bp, op, some 0⟩) m 0] then K [some (.slice (some ⟨bp, op, some 0⟩) m 0)] [] [] else F4 := by kernel_rfl
theorem ztE (r : Mem) (bp op m : Nat) (fs : FnsC) (K : KO) (kx : Nat → KS) (kr : KS) : run (SC r) mZt 136 1 Zt_3 fs none (rbK 0 [3, 4] [] K) kx kr [] (bT [3] [some (RS bp op m 0)] .nil) [] (mkA []) =
    K [some (.slice (some ⟨bp, op, some 0⟩) m 0), some (I (IntKind.wrap .i64 (Int.ofNat 1 + Int.tmod (Int.ofNat m) (Int.ofNat 12))))] [] [] := by kernel_rfl
theorem ztF (r : Mem) (bp op m n : Nat) (fs : FnsC) (K : KO) (kx : Nat → KS) (kr : KS) : run (SC r) mZt 136 1 Zt_4 fs none (rbK 0 [3, 4, 5] [] K) kx kr [] (bT [3, 4] [some (RS bp op m 0), some (I (n : Nat))] .nil) [] (mkA []) =
    K [some (.slice (some ⟨bp, op, some 0⟩) m 0), some (I (Int.ofNat n)), some (.slice none 0 0)] [] [] := by kernel_rfl
theorem ztG (r : Mem) (bp op m n : Nat) (fs : FnsC) (K : KO) (kx : Nat → KS) (kr : KS) : run (SC r) mZt 136 1 Zt_5 fs none (rbK 0 lvZ0 [] K) kx kr [] (bT [3, 4, 5] [some (RS bp op m 0), some (I (n : Nat)), some nilT] .nil) [] (mkA []) =
    K [some (.slice (some ⟨bp, op, some 0⟩) m 0), some (I (Int.ofNat n)), some (.slice none 0 0), some (I (Int.ofNat 0))] [] [] := by kernel_rfl
theorem ztHn (r : Mem) (bp op m n : Nat) (x : Nat) (fs : FnsC) (K : KO) (KX : Nat → KO) (kr : KS) : run (SC r) mZt 136 1 Zt_6 fs none (rbK 0 lvZ0 [.t, .g] K) (fun j => rbK 0 [3, 4, 5] [] (KX j)) kr [] (bT lvZ0 (vZ0 (RS bp op m 0) nilT n x) .nil) [] (mkA []) =
    bif decide (Int.ofNat x < Int.ofNat n) then bif Nat.ble (Int.toNat (Int.ofNat n)) (Int.toNat (Int.ofNat n)) then bif Nat.ble (Int.toNat (Int.ofNat n)) 1000000 then bif true && (m_nns (zerosL (Nat.mul (Int.toNat (Int.ofNat n)) 1) [.bool false]) && true) then K [some (.slice (some ⟨bp, op, some 0⟩) m 0), some (I (Int.ofNat n)), some (.slice (some ⟨0, 0, none⟩) 1 unk), some (I (IntKind.wrap .i64 (Int.ofNat x + Int.ofNat 1)))] [] [some (.cells [.slice (some ⟨1, 0, none⟩) (Int.toNat (Int.ofNat n)) (Int.toNat (Int.ofNat n))] 52 0 1), some (.cells (zerosL (Nat.mul (Int.toNat (Int.ofNat n)) 1) [.bool false]) 4 1 1)] else F4 else F4 else F4 else KX 0 [some (.slice (some ⟨bp, op, some 0⟩) m 0), some (I (Int.ofNat n)), some (.slice none 0 0)] [] [] := by kernel_rfl
theorem ztHo (r : Mem) (bp op m n : Nat) (x k : Nat) (c : List Value) (fs : FnsC) (K : KO) (KX : Nat → KO) (kr : KS) : run (SC r) mZt 136 1 Zt_6 fs none (rbK 0 lvZ0 [.q [1], .g] K) (fun j => rbK 0 [3, 4, 5] [.g] (KX j)) kr [] (bT lvZ0 (vZ0 (RS bp op m 0) (gwT 0 k) n x) .nil) [] (mkA [oTb c 0]) =
    bif decide (Int.ofNat x < Int.ofNat n) then bif Nat.ble (Int.toNat (Int.ofNat n)) (Int.toNat (Int.ofNat n)) then bif Nat.ble (Int.toNat (Int.ofNat n)) 1000000 then bif Nat.ble (Nat.add k 1) 1000000 then Option.casesOn (takeAt c 0 (Nat.mul k 1)) (.fail 439) fun val => bif m_nopo (m_mvq [3, 1] (val ++ [.slice (some ⟨1, 0, none⟩) (Int.toNat (Int.ofNat n)) (Int.toNat (Int.ofNat n))])) && (m_nns (zerosL (Nat.mul (Int.toNat (Int.ofNat n)) 1) [.bool false]) && true) then K [some (.slice (some ⟨bp, op, some 0⟩) m 0), some (I (Int.ofNat n)), some (.slice (some ⟨0, 0, none⟩) (Nat.add k 1) unk), some (I (IntKind.wrap .i64 (Int.ofNat x + Int.ofNat 1)))] [] [some (.cells (m_mvq [3, 1] (val ++ [.slice (some ⟨1, 0, none⟩) (Int.toNat (Int.ofNat n)) (Int.toNat (Int.ofNat n))])) 52 0 1), some (.cells (zerosL (Nat.mul (Int.toNat (Int.ofNat n)) 1) [.bool false]) 4 1 1)] else F4 else F4 else F4 else F4 else bif m_nns c && true then KX 0 [some (.slice (some ⟨bp, op, some 0⟩) m 0), some (I (Int.ofNat n)), some (.slice (some ⟨0, 0, none⟩) k unk)] [] [some (.cells c 52 0 1)] else F4 := by kernel_rfl
theorem ztI (r : Mem) (bp op m n : Nat) (bo oo : Nat) (fs : FnsC) (K : KO) (kx : Nat → KS) (kr : KS) : run (SC r) mZt 136 1 Zt_7 fs none (rbK 0 lvZ2 [] K) kx kr [] (bT [3, 4, 5] [some (RS bp op m 0), some (I (n : Nat)), some (RS bo oo n 0)] .nil) [] (mkA []) =
    K [some (.slice (some ⟨bp, op, some 0⟩) m 0), some (I (Int.ofNat n)), some (.slice (some ⟨bo, oo, some 0⟩) n 0), some (I (Int.ofNat 0))] [] [] := by kernel_rfl
theorem ztJ (r : Mem) (bp op m n : Nat) (bo oo : Nat) (x : Nat) (fs : FnsC) (K : KO) (KX : Nat → KO) (kr : KS) : run (SC r) mZt 136 1 Zt_8 fs none (rbK 0 lvZ2 [] K) (fun j => rbK 0 [4, 5] [] (KX j)) kr [] (bT lvZ2 [some (RS bp op m 0), some (I (n : Nat)), some (RS bo oo n 0), some (I (x : Nat))] .nil) [] (mkA []) =
    bif decide (Int.ofNat x < Int.ofNat n) then K [some (.slice (some ⟨bp, op, some 0⟩) m 0), some (I (Int.ofNat n)), some (.slice (some ⟨bo, oo, some 0⟩) n 0), some (I (Int.ofNat x))] [] [] else KX 2 [some (I (Int.ofNat n)), some (.slice (some ⟨bo, oo, some 0⟩) n 0)] [] [] := by kernel_rfl
theorem ztK (r : Mem) (bp op m n : Nat) (bo oo : Nat) (x : Nat) (fs : FnsC) (K : KO) (kx : Nat → KS) (kr : KS) : run (SC r) mZt 136 1 Zt_9 fs none (rbK 0 lvZ3 [] K) kx kr [] (bT lvZ2 [some (RS bp op m 0), some (I (n : Nat)), some (RS bo oo n 0), some (I (x : Nat))] .nil) [] (mkA []) =
    K [some (.slice (some ⟨bp, op, some 0⟩) m 0), some (I (Int.ofNat n)), some (.slice (some ⟨bo, oo, some 0⟩) n 0), some (I (Int.ofNat x)), some (I (IntKind.wrap .i64 (Int.ofNat x + Int.ofNat 1)))] [] [] := by kernel_rfl
theorem zaA (r : Mem) (bp op m n : Nat) (bo oo : Nat) (x y : Nat) (fs : FnsC) (K : KO) (KX : Nat → KO) (kr : KS) : run (SC r) mZt 136 1 Za fs none (rbK 0 lvZ3 [] K) (fun j => rbK 0 lvZ2 [] (KX j)) kr [] (bT lvZ3 (vZ3 (RS bp op m 0) (RS bo oo n 0) n x y) .nil) [] (mkA []) =
    bif decide (Int.ofNat y < Int.ofNat n) then K [some (.slice (some ⟨bp, op, some 0⟩) m 0), some (I (Int.ofNat n)), some (.slice (some ⟨bo, oo, some 0⟩) n 0), some (I (Int.ofNat x)), some (I (Int.ofNat y))] [] [] else KX 4 [some (.slice (some ⟨bp, op, some 0⟩) m 0), some (I (Int.ofNat n)), some (.slice (some ⟨bo, oo, some 0⟩) n 0), some (I (Int.ofNat x))] [] [] := by kernel_rfl
theorem zbA (r : Mem) (bp op m n : Nat) (bo oo : Nat) (x y : Nat) (fs : FnsC) (K : KO) (kx : Nat → KS) (kr : KS) : run (SC r) mZt 136 1 Zb0 fs none (rbK 0 lvZ4 [] K) kx kr [] (bT lvZ3 (vZ3 (RS bp op m 0) (RS bo oo n 0) n x y) .nil) [] (mkA []) =
    bif !decide (Int.ofNat n = 0) then bif !decide (Int.ofNat n = 0) then K [some (.slice (some ⟨bp, op, some 0⟩) m 0), some (I (Int.ofNat n)), some (.slice (some ⟨bo, oo, some 0⟩) n 0), some (I (Int.ofNat x)), some (I (Int.ofNat y)), some (I (Int.tmod (IntKind.wrap .i64 (IntKind.wrap .i64 (Int.ofNat 5 * Int.ofNat x) + Int.ofNat 1)) (Int.ofNat n))), some (I (Int.tmod (IntKind.wrap .i64 (IntKind.wrap .i64 (Int.ofNat 5 * Int.ofNat y) + Int.ofNat 1)) (Int.ofNat n)))] [] [] else F4 else F4 := by kernel_rfl
theorem zbBN (r : Mem) (bp op m n : Nat) (bo oo : Nat) (x y a b : Nat) (fs : FnsC) (K : KO) (kx : Nat → KS) (kr : KS) : run (SS r 1) mZt 136 1 Zb1 fs none (rbK 0 lvZ5 [] K) kx kr [] (bT lvZ4 (vZ4 (RS bp op m 0) (RS bo oo n 0) n x y a b) .nil) [] (mkA []) =
    bif Int.ofNat a != Int.ofNat b then bif decide (Int.ofNat x < Int.ofNat m) then bif Nat.blt (Int.toNat (Int.ofNat x)) m then Option.casesOn (r bp (Nat.add op (Nat.mul (Int.toNat (Int.ofNat x)) 1))) (.fail 423) fun val => bif isNilS val then K [some (.slice (some ⟨bp, op, some 0⟩) m 0), some (I (Int.ofNat n)), some (.slice (some ⟨bo, oo, some 0⟩) n 0), some (I (Int.ofNat x)), some (I (Int.ofNat y)), some (I (Int.ofNat a)), some (I (Int.ofNat b)), some (.bool false)] [] [] else F4 else F4 else K [some (.slice (some ⟨bp, op, some 0⟩) m 0), some (I (Int.ofNat n)), some (.slice (some ⟨bo, oo, some 0⟩) n 0), some (I (Int.ofNat x)), some (I (Int.ofNat y)), some (I (Int.ofNat a)), some (I (Int.ofNat b)), some (.bool false)] [] [] else K [some (.slice (some ⟨bp, op, some 0⟩) m 0), some (I (Int.ofNat n)), some (.slice (some ⟨bo, oo, some 0⟩) n 0), some (I (Int.ofNat x)), some (I (Int.ofNat y)), some (I (Int.ofNat a)), some (I (Int.ofNat b)), some (.bool false)] [] [] := by kernel_rfl
theorem zbBR (r : Mem) (bp op m n : Nat) (bo oo : Nat) (x y a b : Nat) (fs : FnsC) (K : KO) (kx : Nat → KS) (kr : KS) : run (SS r 2) mZt 136 1 Zb1 fs none (rbK 0 lvZ5 [] K) kx kr [] (bT lvZ4 (vZ4 (RS bp op m 0) (RS bo oo n 0) n x y a b) .nil) [] (mkA []) =
    bif Int.ofNat a != Int.ofNat b then bif decide (Int.ofNat x < Int.ofNat m) then bif Nat.blt (Int.toNat (Int.ofNat x)) m then Option.casesOn (r bp (Nat.add op (Nat.mul (Int.toNat (Int.ofNat x)) 1))) (.fail 423) fun val => bif isRoS val then bif decide (Int.ofNat y < Int.ofNat (lnOf val)) then bif Nat.blt (Int.toNat (Int.ofNat x)) m then Option.casesOn (r bp (Nat.add op (Nat.mul (Int.toNat (Int.ofNat x)) 1))) (.fail 423) fun val => bif isRoS val then bif Nat.blt (Int.toNat (Int.ofNat y)) (lnOf val) then Option.casesOn (r (blkOf val) (Nat.add (offOf val) (Nat.mul (Int.toNat (Int.ofNat y)) 1))) (.fail 423) fun val => bif isB val then bif ofB val then bif Int.tmod (Int.ofNat n) (Int.ofNat 5) != Int.ofNat 0 then K [some (.slice (some ⟨bp, op, some 0⟩) m 0), some (I (Int.ofNat n)), some (.slice (some ⟨bo, oo, some 0⟩) n 0), some (I (Int.ofNat x)), some (I (Int.ofNat y)), some (I (Int.ofNat a)), some (I (Int.ofNat b)), some (.bool true)] [] [] else K [some (.slice (some ⟨bp, op, some 0⟩) m 0), some (I (Int.ofNat n)), some (.slice (some ⟨bo, oo, some 0⟩) n 0), some (I (Int.ofNat x)), some (I (Int.ofNat y)), some (I (Int.ofNat a)), some (I (Int.ofNat b)), some (.bool false)] [] [] else K [some (.slice (some ⟨bp, op, some 0⟩) m 0), some (I (Int.ofNat n)), some (.slice (some ⟨bo, oo, some 0⟩) n 0), some (I (Int.ofNat x)), some (I (Int.ofNat y)), some (I (Int.ofNat a)), some (I (Int.ofNat b)), some (.bool false)] [] [] else F4 else F4 else F4 else F4 else K [some (.slice (some ⟨bp, op, some 0⟩) m 0), some (I (Int.ofNat n)), some (.slice (some ⟨bo, oo, some 0⟩) n 0), some (I (Int.ofNat x)), some (I (Int.ofNat y)), some (I (Int.ofNat a)), some (I (Int.ofNat b)), some (.bool false)] [] [] else F4 else F4 else K [some (.slice (some ⟨bp, op, some 0⟩) m 0), some (I (Int.ofNat n)), some (.slice (some ⟨bo, oo, some 0⟩) n 0), some (I (Int.ofNat x)), some (I (Int.ofNat y)), some (I (Int.ofNat a)), some (I (Int.ofNat b)), some (.bool false)] [] [] else K [some (.slice (some ⟨bp, op, some 0⟩) m 0), some (I (Int.ofNat n)), some (.slice (some ⟨bo, oo, some 0⟩) n 0), some (I (Int.ofNat x)), some (I (Int.ofNat y)), some (I (Int.ofNat a)), some (I (Int.ofNat b)), some (.bool false)] [] [] := by kernel_rfl
theorem zbC (r : Mem) (bp op m n : Nat) (bo oo : Nat) (x y a b : Nat) (fs : FnsC) (K : KO) (kx : Nat → KS) (kr : KS) : run (SS r 2) mZt 136 1 Zb2 fs none (rbK 0 [3, 4, 5, 7, 8, 10, 11] [] K) kx kr [] (bT lvZ5 ((vZ4 (RS bp op m 0) (RS bo oo n 0) n x y a b) ++ [some (.bool true)]) .nil) [] (mkA []) =
    bif Nat.blt (Int.toNat (Int.ofNat a)) n then Option.casesOn (r bo (Nat.add oo (Nat.mul (Int.toNat (Int.ofNat a)) 1))) (.fail 423) fun val => bif isRoS val then K [some (.slice (some ⟨bp, op, some 0⟩) m 0), some (I (Int.ofNat n)), some (.slice (some ⟨bo, oo, some 0⟩) n 0), some (I (Int.ofNat x)), some (I (Int.ofNat y)), some (I (Int.ofNat b)), some (.slice (some ⟨(blkOf val), (offOf val), some 0⟩) (lnOf val) (cpOf val))] [] [] else F4 else F4 := by kernel_rfl
theorem zbD (r : Mem) (bp op m n : Nat) (bo oo : Nat) (x y b b1 o1 : Nat) (fs : FnsC) (K : KS) : preK (SC r) mZt 136 Zb3 3 fs K [] (bT [3, 4, 5, 7, 8, 10, 11] [some (RS bp op m 0), some (I (n : Nat)), some (RS bo oo n 0), some (I (x : Nat)), some (I (y : Nat)), some (I (b : Nat)), some (RS b1 o1 n n)] .nil) [] (mkA []) =
    bif Nat.blt (Int.toNat (Int.ofNat b)) n then K [(96, .pointer (some ⟨b1, (Nat.add o1 (Nat.mul (Int.toNat (Int.ofNat b)) 1)), some 0⟩)), (95, I (Int.ofNat b)), (94, .slice (some ⟨b1, o1, some 0⟩) n n)] (.node (.node (.node (.node .nil (some (I (Int.ofNat x))) .nil) (some (.slice (some ⟨bp, op, some 0⟩) m 0)) (.node .nil (some (.slice (some ⟨b1, o1, some 0⟩) n n)) .nil)) none (.node .nil (some (.slice (some ⟨bo, oo, some 0⟩) n 0)) .nil)) none (.node (.node (.node .nil (some (I (Int.ofNat y))) .nil) (some (I (Int.ofNat n))) .nil) none (.node (.node .nil (some (I (Int.ofNat b))) .nil) none .nil))) [] (AW.mk 0 .nil .nil) else F4 := by kernel_rfl
theorem zcA (r : Mem) (bp op m n : Nat) (bo oo : Nat) (x y : Nat) (fs : FnsC) (K : KO) (kx : Nat → KS) (kr : KS) : run (SC r) mZt 136 1 Zc fs none (rbK 0 lvZ3 [] K) kx kr [] (bT lvZ3 (vZ3 (RS bp op m 0) (RS bo oo n 0) n x y) .nil) [] (mkA []) =
    K [some (.slice (some ⟨bp, op, some 0⟩) m 0), some (I (Int.ofNat n)), some (.slice (some ⟨bo, oo, some 0⟩) n 0), some (I (Int.ofNat x)), some (I (IntKind.wrap .i64 (Int.ofNat y + Int.ofNat 1)))] [] [] := by kernel_rfl
theorem ztL (r : Mem) (bp op m n : Nat) (bo oo : Nat) (x : Nat) (fs : FnsC) (K : KO) (kx : Nat → KS) (kr : KS) : run (SC r) mZt 136 1 Zt_11 fs none (rbK 0 lvZ2 [] K) kx kr [] (bT lvZ2 [some (RS bp op m 0), some (I (n : Nat)), some (RS bo oo n 0), some (I (x : Nat))] .nil) [] (mkA []) =
    K [some (.slice (some ⟨bp, op, some 0⟩) m 0), some (I (Int.ofNat n)), some (.slice (some ⟨bo, oo, some 0⟩) n 0), some (I (IntKind.wrap .i64 (Int.ofNat x + Int.ofNat 1)))] [] [] := by kernel_rfl
theorem ztM (r : Mem) (bo oo n : Nat) (fs : FnsC) (K : KO) (kx : Nat → KS) (kr : KS) : run (SC r) mZt 136 1 Zt_12 fs none (rbK 0 lvZ6 [] K) kx kr [] (bT [4, 5] [some (I (n : Nat)), some (RS bo oo n 0)] .nil) [] (mkA []) =
    K [some (I (Int.ofNat n)), some (.slice (some ⟨bo, oo, some 0⟩) n 0), some (I (Int.ofNat 0))] [] [] := by kernel_rfl
theorem ztN (r : Mem) (bo oo n : Nat) (z : Nat) (fs : FnsC) (K : KO) (KX : Nat → KO) (kr : KS) : run (SC r) mZt 136 1 Zt_13 fs none (rbK 0 lvZ6 [] K) (fun j => rbK 0 [5] [] (KX j)) kr [] (bT lvZ6 (vZ6 (RS bo oo n 0) n z) .nil) [] (mkA []) =
    bif decide (Int.ofNat z < Int.ofNat n) then K [some (I (Int.ofNat n)), some (.slice (some ⟨bo, oo, some 0⟩) n 0), some (I (Int.ofNat z))] [] [] else KX 6 [some (.slice (some ⟨bo, oo, some 0⟩) n 0)] [] [] := by kernel_rfl
theorem ztO (r : Mem) (bo oo n : Nat) (z : Nat) (fs : FnsC) (K : KO) (kx : Nat → KS) (kr : KS) : run (SC r) mZt 136 1 Zt_14 fs none (rbK 0 lvZ7 [] K) kx kr [] (bT lvZ6 (vZ6 (RS bo oo n 0) n z) .nil) [] (mkA []) =
    K [some (I (Int.ofNat n)), some (.slice (some ⟨bo, oo, some 0⟩) n 0), some (I (Int.ofNat z)), some (I (Int.ofNat 0))] [] [] := by kernel_rfl
theorem ztP (r : Mem) (bo oo n : Nat) (z x : Nat) (fs : FnsC) (K : KO) (KX : Nat → KO) (kr : KS) : run (SC r) mZt 136 1 Zt_15 fs none (rbK 0 lvZ7 [] K) (fun j => rbK 0 lvZ6 [] (KX j)) kr [] (bT lvZ7 (vZ7 (RS bo oo n 0) n z x) .nil) [] (mkA []) =
    bif decide (Int.ofNat x < Int.ofNat n) then K [some (I (Int.ofNat n)), some (.slice (some ⟨bo, oo, some 0⟩) n 0), some (I (Int.ofNat z)), some (I (Int.ofNat x))] [] [] else KX 8 [some (I (Int.ofNat n)), some (.slice (some ⟨bo, oo, some 0⟩) n 0), some (I (Int.ofNat z))] [] [] := by kernel_rfl
theorem ztQ (r : Mem) (bo oo n : Nat) (z x : Nat) (fs : FnsC) (K : KO) (kx : Nat → KS) (kr : KS) : run (SC r) mZt 136 1 Zt_16 fs none (rbK 0 lvZ8 [] K) kx kr [] (bT lvZ7 (vZ7 (RS bo oo n 0) n z x) .nil) [] (mkA []) =
    K [some (I (Int.ofNat n)), some (.slice (some ⟨bo, oo, some 0⟩) n 0), some (I (Int.ofNat z)), some (I (Int.ofNat x)), some (I (Int.ofNat 0))] [] [] := by kernel_rfl
theorem zdA (r : Mem) (bo oo n : Nat) (z x y : Nat) (fs : FnsC) (K : KO) (KX : Nat → KO) (kr : KS) : run (SC r) mZt 136 1 Zd fs none (rbK 0 lvZ8 [] K) (fun j => rbK 0 lvZ7 [] (KX j)) kr [] (bT lvZ8 (vZ8 (RS bo oo n 0) n z x y) .nil) [] (mkA []) =
    bif decide (Int.ofNat y < Int.ofNat n) then K [some (I (Int.ofNat n)), some (.slice (some ⟨bo, oo, some 0⟩) n 0), some (I (Int.ofNat z)), some (I (Int.ofNat x)), some (I (Int.ofNat y))] [] [] else KX 10 [some (I (Int.ofNat n)), some (.slice (some ⟨bo, oo, some 0⟩) n 0), some (I (Int.ofNat z)), some (I (Int.ofNat x))] [] [] := by kernel_rfl
theorem zeA (r : Mem) (bo oo n : Nat) (z x y : Nat) (fs : FnsC) (K : KO) (kx : Nat → KS) (kr : KS) : run (SS r 2) mZt 136 1 Ze0 fs none (rbK 0 (lvZ8 ++ [127]) [] K) kx kr [] (bT lvZ8 (vZ8 (RS bo oo n 0) n z x y) .nil) [] (mkA []) =
    bif Nat.blt (Int.toNat (Int.ofNat x)) n then Option.casesOn (r bo (Nat.add oo (Nat.mul (Int.toNat (Int.ofNat x)) 1))) (.fail 423) fun val => bif isRoS val then bif Nat.blt (Int.toNat (Int.ofNat z)) (lnOf val) then Option.casesOn (r (blkOf val) (Nat.add (offOf val) (Nat.mul (Int.toNat (Int.ofNat z)) 1))) (.fail 423) fun val => bif isB val then bif ofB val then bif Nat.blt (Int.toNat (Int.ofNat z)) n then Option.casesOn (r bo (Nat.add oo (Nat.mul (Int.toNat (Int.ofNat z)) 1))) (.fail 423) fun val => bif isRoS val then bif Nat.blt (Int.toNat (Int.ofNat y)) (lnOf val) then Option.casesOn (r (blkOf val) (Nat.add (offOf val) (Nat.mul (Int.toNat (Int.ofNat y)) 1))) (.fail 423) fun val => bif isB val then bif ofB val then K [some (I (Int.ofNat n)), some (.slice (some ⟨bo, oo, some 0⟩) n 0), some (I (Int.ofNat z)), some (I (Int.ofNat x)), some (I (Int.ofNat y)), some (.bool true)] [] [] else K [some (I (Int.ofNat n)), some (.slice (some ⟨bo, oo, some 0⟩) n 0), some (I (Int.ofNat z)), some (I (Int.ofNat x)), some (I (Int.ofNat y)), some (.bool false)] [] [] else F4 else F4 else F4 else F4 else K [some (I (Int.ofNat n)), some (.slice (some ⟨bo, oo, some 0⟩) n 0), some (I (Int.ofNat z)), some (I (Int.ofNat x)), some (I (Int.ofNat y)), some (.bool false)] [] [] else F4 else F4 else F4 else F4 := by kernel_rfl
theorem zeB (r : Mem) (bo oo n : Nat) (z x y : Nat) (fs : FnsC) (K : KO) (kx : Nat → KS) (kr : KS) : run (SS r 2) mZt 136 1 Ze1 fs none (rbK 0 (lvZ8 ++ [15]) [] K) kx kr [] (bT (lvZ8 ++ [127]) ((vZ8 (RS bo oo n 0) n z x y) ++ [some (.bool true)]) .nil) [] (mkA []) =
    bif Nat.blt (Int.toNat (Int.ofNat x)) n then Option.casesOn (r bo (Nat.add oo (Nat.mul (Int.toNat (Int.ofNat x)) 1))) (.fail 423) fun val => bif isRoS val then K [some (I (Int.ofNat n)), some (.slice (some ⟨bo, oo, some 0⟩) n 0), some (I (Int.ofNat z)), some (I (Int.ofNat x)), some (I (Int.ofNat y)), some (.slice (some ⟨(blkOf val), (offOf val), some 0⟩) (lnOf val) (cpOf val))] [] [] else F4 else F4 := by kernel_rfl
theorem zeC (r : Mem) (bo oo n : Nat) (z x y b1 o1 : Nat) (fs : FnsC) (K : KS) : preK (SC r) mZt 136 Ze2 3 fs K [] (bT (lvZ8 ++ [15]) ((vZ8 (RS bo oo n 0) n z x y) ++ [some (RS b1 o1 n n)]) .nil) [] (mkA []) =
    bif Nat.blt (Int.toNat (Int.ofNat y)) n then K [(134, .pointer (some ⟨b1, (Nat.add o1 (Nat.mul (Int.toNat (Int.ofNat y)) 1)), some 0⟩)), (133, I (Int.ofNat y)), (132, .slice (some ⟨b1, o1, some 0⟩) n n)] (.node (.node (.node (.node (.node .nil (some (.slice (some ⟨b1, o1, some 0⟩) n n)) .nil) none .nil) none .nil) none (.node .nil (some (.slice (some ⟨bo, oo, some 0⟩) n 0)) (.node .nil (some (I (Int.ofNat x))) .nil))) none (.node (.node .nil (some (I (Int.ofNat n))) (.node .nil (some (I (Int.ofNat z))) .nil)) none (.node .nil none (.node .nil (some (I (Int.ofNat y))) .nil)))) [] (AW.mk 0 .nil .nil) else F4 := by kernel_rfl
theorem zfA (r : Mem) (bo oo n : Nat) (z x y : Nat) (fs : FnsC) (K : KO) (kx : Nat → KS) (kr : KS) : run (SC r) mZt 136 1 Zf fs none (rbK 0 lvZ8 [] K) kx kr [] (bT lvZ8 (vZ8 (RS bo oo n 0) n z x y) .nil) [] (mkA []) =
    K [some (I (Int.ofNat n)), some (.slice (some ⟨bo, oo, some 0⟩) n 0), some (I (Int.ofNat z)), some (I (Int.ofNat x)), some (I (IntKind.wrap .i64 (Int.ofNat y + Int.ofNat 1)))] [] [] := by kernel_rfl
theorem ztR (r : Mem) (bo oo n : Nat) (z x : Nat) (fs : FnsC) (K : KO) (kx : Nat → KS) (kr : KS) : run (SC r) mZt 136 1 Zt_18 fs none (rbK 0 lvZ7 [] K) kx kr [] (bT lvZ7 (vZ7 (RS bo oo n 0) n z x) .nil) [] (mkA []) =
    K [some (I (Int.ofNat n)), some (.slice (some ⟨bo, oo, some 0⟩) n 0), some (I (Int.ofNat z)), some (I (IntKind.wrap .i64 (Int.ofNat x + Int.ofNat 1)))] [] [] := by kernel_rfl
theorem ztS (r : Mem) (bo oo n : Nat) (z : Nat) (fs : FnsC) (K : KO) (kx : Nat → KS) (kr : KS) : run (SC r) mZt 136 1 Zt_19 fs none (rbK 0 lvZ6 [] K) kx kr [] (bT lvZ6 (vZ6 (RS bo oo n 0) n z) .nil) [] (mkA []) =
    K [some (I (Int.ofNat n)), some (.slice (some ⟨bo, oo, some 0⟩) n 0), some (I (IntKind.wrap .i64 (Int.ofNat z + Int.ofNat 1)))] [] [] := by kernel_rfl
theorem ztT (r : Mem) (bo oo n : Nat) (fs : FnsC) (K : KO) (KR : KO) (kx : Nat → KS) : run (SC r) mZt 136 1 Zt_20 fs none (rbK 0 [2] [] K) kx (rbK 0 [2] [] KR) [] (bT [5] [some (RS bo oo n 0)] .nil) [] (mkA []) =
    KR [some (.slice (some ⟨bo, oo, some 0⟩) n 0)] [] [] := by kernel_rfl
theorem zbE (r : Mem) (bp op m n : Nat) (bo oo : Nat) (x y b b1 o1 : Nat) (fs : FnsC) (K : KO) : tailK (SC r) mZt 136 Zb3 3 fs (rbK 0 lvZ3 [] K) undef [(96, .pointer (some ⟨b1, o1 + b, some 0⟩)), (95, I (b : Nat)), (94, RS b1 o1 n n)] (bT [3, 4, 5, 7, 8, 10, 11] [some (RS bp op m 0), some (I (n : Nat)), some (RS bo oo n 0), some (I (x : Nat)), some (I (y : Nat)), some (I (b : Nat)), some (RS b1 o1 n n)] .nil) [] (mkA []) =
    K [some (.slice (some ⟨bp, op, some 0⟩) m 0), some (I (Int.ofNat n)), some (.slice (some ⟨bo, oo, some 0⟩) n 0), some (I (Int.ofNat x)), some (I (Int.ofNat y))] [] [] := by kernel_rfl
theorem zeD (r : Mem) (bo oo n : Nat) (z x y b1 o1 : Nat) (fs : FnsC) (K : KO) : tailK (SC r) mZt 136 Ze2 3 fs (rbK 0 lvZ8 [] K) undef [(134, .pointer (some ⟨b1, o1 + y, some 0⟩)), (133, I (y : Nat)), (132, RS b1 o1 n n)] (bT (lvZ8 ++ [15]) ((vZ8 (RS bo oo n 0) n z x y) ++ [some (RS b1 o1 n n)]) .nil) [] (mkA []) =
    K [some (I (Int.ofNat n)), some (.slice (some ⟨bo, oo, some 0⟩) n 0), some (I (Int.ofNat z)), some (I (Int.ofNat x)), some (I (Int.ofNat y))] [] [] := by kernel_rfl
theorem zbS (r : Mem) (bp op m n : Nat) (bo oo : Nat) (x y a b : Nat) (fs : FnsC) (K : KO) (kx : Nat → KS) (kr : KS) : run (SC r) mZt 136 1 .skip fs none (rbK 0 lvZ3 [] K) kx kr [] (bT lvZ5 ((vZ4 (RS bp op m 0) (RS bo oo n 0) n x y a b) ++ [some (.bool false)]) .nil) [] (mkA []) =
    K [some (.slice (some ⟨bp, op, some 0⟩) m 0), some (I (Int.ofNat n)), some (.slice (some ⟨bo, oo, some 0⟩) n 0), some (I (Int.ofNat x)), some (I (Int.ofNat y))] [] [] := by kernel_rfl
theorem zeS (r : Mem) (bo oo n : Nat) (z x y : Nat) (fs : FnsC) (K : KO) (kx : Nat → KS) (kr : KS) : run (SC r) mZt 136 1 .skip fs none (rbK 0 lvZ8 [] K) kx kr [] (bT (lvZ8 ++ [127]) ((vZ8 (RS bo oo n 0) n z x y) ++ [some (.bool false)]) .nil) [] (mkA []) =
    K [some (I (Int.ofNat n)), some (.slice (some ⟨bo, oo, some 0⟩) n 0), some (I (Int.ofNat z)), some (I (Int.ofNat x)), some (I (Int.ofNat y))] [] [] := by kernel_rfl
theorem ztX (r : Mem) (kn : KS) (kx : Nat → KS) (KR : KO) : run (SC r) mZt 136 3 cZt (lvlT (SC r) (fun _ => none) .nil 3 8) none kn kx (rbK 0 [2] [.t, .t] KR) (sc0 mZt [nilT]) (tr0 mZt [nilT]) [] emptyA =
    KR [some (.slice (some ⟨0, 0, none⟩) 1 unk)] [] [some (.cells [.slice (some ⟨1, 0, none⟩) 1 1] 52 0 1), some (.cells [.bool false] 4 1 1)] := by kernel_rfl
theorem ztY (r : Mem) (b off cap : Nat) (kn : KS) (kx : Nat → KS) (KR : KO) : run (SC r) mZt 136 3 cZt (lvlT (SC r) (fun _ => none) .nil 3 8) none kn kx (rbK 0 [2] [.t, .t] KR) (sc0 mZt [RS b off 0 cap]) (tr0 mZt [RS b off 0 cap]) [] emptyA =
    KR [some (.slice (some ⟨0, 0, none⟩) 1 unk)] [] [some (.cells [.slice (some ⟨1, 0, none⟩) 1 1] 52 0 1), some (.cells [.bool false] 4 1 1)] := by kernel_rfl
end Go.Proofs
namespace Go.Num
def rhoN (n a : Nat) : Nat := ((List.range n).find? fun x => (5 * x + 1) % n == a).getD 0
theorem rho_all : ∀ n : Fin 13, n.val % 5 ≠ 0 → ∀ x : Fin 12, x.val < n.val → rhoN n.val ((5 * x.val + 1) % n.val) = x.val := by decide +kernel
theorem rho_at {n x : Nat} (hn : n ≤ 12) (h5 : n % 5 ≠ 0) (hx : x < n) : rhoN n ((5 * x + 1) % n) = x := rho_all ⟨n, by omega⟩ h5 ⟨x, by omega⟩ hx
def RankOk (n : Nat) (M : Nat → Nat → Bool) : Prop := ∀ i j, M i j = true → i < n ∧ j < n ∧ rhoN n i < rhoN n j
theorem RankOk.irr {n : Nat} {M : Nat → Nat → Bool} (h : RankOk n M) (i : Nat) : M i i = false := by
 cases q : M i i with
 | false => rfl
 | true => have := (h i i q).2.2; omega
def setM (M : Nat → Nat → Bool) (x y : Nat) : Nat → Nat → Bool := fun i j => if i = x ∧ j = y then true else M i j
theorem RankOk.none (n : Nat) : RankOk n fun _ _ => false := fun _ _ h => by cases h
theorem RankOk.set {n : Nat} {M : Nat → Nat → Bool} (h : RankOk n M) (hn : n ≤ 12) (h5 : n % 5 ≠ 0) {x y : Nat} (hxy : x < y) (hy : y < n) : RankOk n (setM M ((5 * x + 1) % n) ((5 * y + 1) % n)) := fun i j hij => by
 unfold setM at hij
 split at hij
 ·rename_i c
  obtain ⟨rfl, rfl⟩ := c
  refine ⟨Nat.mod_lt _ (by omega), Nat.mod_lt _ (by omega), ?_⟩
  rw [rho_at hn h5 (by omega), rho_at hn h5 hy]
  exact hxy
 ·exact h i j hij
def fwM (M : Nat → Nat → Bool) (z x y : Nat) : Nat → Nat → Bool := fun i j => M i j || (M i z && (M z j && (decide (i < x) || (decide (i = x) && decide (j < y)))))
theorem fw_zero (M : Nat → Nat → Bool) (z : Nat) : fwM M z 0 0 = M := by
 funext i j
 unfold fwM
 simp
section
variable {n z x y : Nat} {M : Nat → Nat → Bool} (h : RankOk n M)
include h
theorem fw_col (i : Nat) : fwM M z x y i z = M i z := by
 unfold fwM
 rw [h.irr z, Bool.false_and, Bool.and_false, Bool.or_false]
theorem fw_row (j : Nat) : fwM M z x y z j = M z j := by
 unfold fwM
 rw [h.irr z, Bool.false_and, Bool.or_false]
theorem fw_set (hc : (M x z && M z y) = true) : setM (fwM M z x y) x y = fwM M z x (y + 1) := by
 have _ := h
 rw [Bool.and_eq_true] at hc
 funext i j
 unfold setM fwM
 by_cases c : i = x ∧ j = y
 ·obtain ⟨rfl, rfl⟩ := c
  simp [hc.1, hc.2]
 ·rw [if_neg c]
  by_cases d : i = x
  ·subst d
   have hj : j ≠ y := fun e => c ⟨rfl, e⟩
   have : decide (j < y + 1) = decide (j < y) := by rw [decide_eq_decide]; omega
   rw [this]
  ·simp [d]
theorem fw_skip (hc : (M x z && M z y) = false) : fwM M z x y = fwM M z x (y + 1) := by
 have _ := h
 funext i j
 unfold fwM
 by_cases d : i = x
 ·subst d
  by_cases e : j = y
  ·subst e
   cases q1 : M i z with
   | false => simp
   | true =>
    rw [q1, Bool.true_and] at hc
    simp [hc]
  ·have : decide (j < y + 1) = decide (j < y) := by rw [decide_eq_decide]; omega
   rw [this]
 ·simp [d]
theorem fw_next : fwM M z x n = fwM M z (x + 1) 0 := by
 funext i j
 unfold fwM
 cases q : M z j with
 | false => simp
 | true =>
  have hj := (h z j q).2.1
  by_cases d : i = x
  ·subst d; simp [hj]
  ·by_cases e : i < x
   ·simp [e, show i < x + 1 by omega]
   ·simp [d, e, show ¬ i < x + 1 by omega]
theorem fw_end (i j : Nat) : fwM M z n 0 i j = (M i j || (M i z && M z j)) := by
 unfold fwM
 cases q : M i z with
 | false => simp
 | true => simp [(h i z q).1]
theorem fw_rank : RankOk n (fwM M z n 0) := fun i j hij => by
 rw [fw_end h, Bool.or_eq_true, Bool.and_eq_true] at hij
 rcases hij with q | ⟨q1, q2⟩
 ·exact h i j q
 ·have a := h i z q1
  have b := h z j q2
  exact ⟨a.1, b.2.1, by omega⟩
end
def TrP (z : Nat) (M : Nat → Nat → Bool) : Prop := ∀ k, k < z → ∀ i j, M i k = true → M k j = true → M i j = true
theorem fw_tr {n z : Nat} {M : Nat → Nat → Bool} (h : RankOk n M) (ht : TrP z M) : TrP (z + 1) (fwM M z n 0) := fun k hk i j h1 h2 => by
 rw [fw_end h, Bool.or_eq_true, Bool.and_eq_true] at h1 h2 ⊢
 by_cases e : k = z
 ·subst e
  have a1 : M i k = true := by
   rcases h1 with q | ⟨q, _⟩
   ·exact q
   ·exact q
  have a2 : M k j = true := by
   rcases h2 with q | ⟨_, q⟩
   ·exact q
   ·exact q
  exact .inr ⟨a1, a2⟩
 ·have hk' : k < z := by omega
  rcases h1 with a | ⟨a1, a2⟩
  ·rcases h2 with b | ⟨b1, b2⟩
   ·exact .inl (ht k hk' i j a b)
   ·exact .inr ⟨ht k hk' i z a b1, b2⟩
  ·rcases h2 with b | ⟨b1, b2⟩
   ·exact .inr ⟨a1, ht k hk' z j a2 b⟩
   ·exact .inr ⟨a1, b2⟩
end Go.Num
namespace Go.Proofs
open Go Go.Ev Go.Num
def tbM (M : Nat → Nat → Bool) (n : Nat) : List (List Bool) := (List.range n).map fun i => (List.range n).map fun j => M i j
theorem tbM_len (M : Nat → Nat → Bool) (n : Nat) : (tbM M n).length = n := by simp [tbM]
theorem tbM_get {M : Nat → Nat → Bool} {n i : Nat} (h : i < n) : (tbM M n)[i]? = some ((List.range n).map fun j => M i j) := by
 unfold tbM
 rw [List.getElem?_map, List.getElem?_range h]
 rfl
theorem tbM_row {M : Nat → Nat → Bool} {n i : Nat} (h : i < n) : (tbM M n).getD i [] = (List.range n).map fun j => M i j := by
 rw [List.getD_eq_getElem?_getD, tbM_get h]; rfl
theorem tbM_rl {M : Nat → Nat → Bool} {n i : Nat} (h : i < n) : ((tbM M n).getD i []).length = n := by rw [tbM_row h]; simp
theorem tbM_at {M : Nat → Nat → Bool} {n i j : Nat} (h : i < n) (hj : j < n) : gT (tbM M n) i j = M i j := by
 unfold gT
 rw [tbM_row h, List.getD_eq_getElem?_getD, List.getElem?_map, List.getElem?_range hj]
 rfl
theorem tbM_ck {M : Nat → Nat → Bool} {n : Nat} (h1 : 1 ≤ n) (hn : n ≤ 12) (h : RankOk n M) (ht : TrP n M) : ckO (tbM M n) = true := by
 unfold ckO
 have hl := tbM_len M n
 rw [hl, decide_eq_true ⟨h1, hn⟩, Bool.true_and, Bool.and_eq_true]
 constructor
 ·have hlen : ∀ m, m ≤ n → lenO (tbM M n) m = true := fun m => by
   induction m with
   | zero => exact fun _ => rfl
   | succ m ih =>
    intro hm
    rw [lenO, ih (by omega), tbM_rl (show m < n by omega), hl]
    simp
  exact lenI_all.2 ⟨hlen n (Nat.le_refl _), fun i hi => by rw [tbM_at hi hi]; exact h.irr i⟩
 ·refine trI_all.2 fun i hi => trJ_all.2 fun k hk => trK_all.2 fun m hm => ?_
  rw [hl] at hk hm
  unfold badO
  rw [tbM_at hi hk, tbM_at hk hm, tbM_at hi hm]
  cases q1 : M i k with
  | false => rfl
  | true =>
   cases q2 : M k m with
   | false => rfl
   | true => rw [ht k hk i m q1 q2]; rfl
end Go.Proofs
namespace Go.Proofs
open Go Go.Ev Go.Num
structure MatM (γ0 : Gam) (W0 : World) (r0 r : Mem) (bo oo n : Nat) (bk ok : Nat → Nat) (M : Nat → Nat → Bool) : Prop where
 le : Mem.le r0 r
 row : ∀ x, x < n → r bo (oo + x) = some (RS (bk x) (ok x) n n)
 ne : ∀ x, x < n → bk x ≠ bo
 own : ∀ x, x < n → r.own (bk x) = true
 may : ∀ x, x < n → bk x < W0.heap.size → ∃ i g, γ0 i = some g ∧ g.blk = bk x
 new : ∀ x, x < n → ∀ k, r0 (bk x) k = none
 cell : ∀ x y, x < n → y < n → r (bk x) (ok x + y) = some (.bool (M x y))
 inj : ∀ x y, x < n → y < n → bk x = bk y → x = y
theorem MatM.set {γ0 : Gam} {W0 : World} {r0 r : Mem} {bo oo n : Nat} {bk ok : Nat → Nat} {M : Nat → Nat → Bool} (h : MatM γ0 W0 r0 r bo oo n bk ok M) {x y : Nat} (hx : x < n) (hy : y < n) : MatM γ0 W0 r0 (r.upd (bk x) (ok x + y) (.bool true)) bo oo n bk ok (setM M x y) := by
 refine ⟨⟨fun b k u hu => ?_, fun b k u hu => ?_, h.le.own⟩, fun i hi => ?_, h.ne, h.own, h.may, h.new, fun i j hi hj => ?_, h.inj⟩
 ·rw [Mem.upd_other _ _ (.inl fun e => by subst e; rw [h.new x hx k] at hu; cases hu)]
  exact h.le b k u hu
 ·by_cases e : b = bk x
  ·exact .inr fun k' => by rw [e]; exact h.new x hx k'
  ·rw [Mem.upd_other _ _ (.inl e)] at hu
   exact h.le.new b k u hu
 ·rw [Mem.upd_other _ _ (.inl fun e => h.ne x hx e.symm)]
  exact h.row i hi
 ·by_cases c : i = x ∧ j = y
  ·obtain ⟨rfl, rfl⟩ := c
   rw [Mem.upd_same]
   unfold setM
   rw [if_pos ⟨rfl, rfl⟩]
  ·rw [Mem.upd_other _ _ (if d : i = x then .inr fun e => c ⟨d, by subst d; omega⟩ else .inl fun e => d (h.inj i x hi hx e))]
   unfold setM
   rw [if_neg c]
   exact h.cell i j hi hj
theorem MatM.tab {γ0 : Gam} {W0 : World} {r0 r : Mem} {bo oo n : Nat} {bk ok : Nat → Nat} {M : Nat → Nat → Bool} (h : MatM γ0 W0 r0 r bo oo n bk ok M) (h1 : 1 ≤ n) : TabM r bo oo (tbM M n) := fun i l hl => by
 have hi : i < n := by have := (List.getElem?_eq_some_iff.1 hl).1; rwa [tbM_len] at this
 rw [tbM_get hi] at hl
 cases hl
 refine ⟨_, h.row i hi, .inr ⟨fun e => by have := congrArg List.length e; simp at this; omega, bk i, ok i, n, by simp, fun j x hj => ?_⟩⟩
 rw [List.getElem?_map] at hj
 by_cases c : j < n
 ·rw [List.getElem?_range c] at hj
  cases hj
  exact h.cell i j hi c
 ·rw [List.getElem?_eq_none (by simp; omega)] at hj
  cases hj
end Go.Proofs
namespace Go.Proofs
open Go Go.Ev Go.Num
theorem w1z (k : Nat) (hk : k ≤ 1000) : IntKind.wrap IntKind.i64 ((k : Int) + ((1 : Nat) : Int)) = ((k + 1 : Nat) : Int) := inc1' (by omega)
theorem e0z (o k : Nat) : Nat.add o (Nat.mul k 1) = o + k := by simp
section
variable {r0 : Mem} {bo oo n : Nat} {bk ok : Nat → Nat} {M : Nat → Nat → Bool} {F : Fence} {kk : Nat} {γ : Gam} {W : World}
theorem zt_rnd (hn : n ≤ 12) (hR : RankOk n M) (hF : Wide F) (hro : RoRel γ none F.round) (h0' : ∀ i, 0 ≤ i → γ i = none) {z x y : Nat} (hz : z < n) (hx : x < n) (hy : y < n) {r : Mem} (hM : MatM γ W r0 r bo oo n bk ok (fwM M z x y)) {ox : Nat → OutsG} {orr : OutsG} :
  ReachG Tryz.prog mZt 136 F kk γ W (.block 11 (.seq Ze0 (.cond (.tmp 127) (.seq Ze1 Ze2) .skip))) r (St.of lvZ8 (vZ8 (RS bo oo n 0) n z x y) [] []) (CanG Tryz.prog mZt 136 γ W ⟨lvZ8, fun r1 vs ms os => MatM γ W r0 r1 bo oo n bk ok (fwM M z x (y + 1)) ∧ vs = vZ8 (RS bo oo n 0) n z x y ∧ ms = [] ∧ os = []⟩ ox orr) := by
 have bx : Nat.blt x n = true := Nat.ble_eq_true_of_le (by omega)
 have by' : Nat.blt y n = true := Nat.ble_eq_true_of_le (by omega)
 have bz : Nat.blt z n = true := Nat.ble_eq_true_of_le (by omega)
 have cx := hM.cell x z hx hz
 have cz := hM.cell z y hz hy
 rw [fw_col hR] at cx
 rw [fw_row hR] at cz
 refine ReachG.blockC (ReachG.seqC (o1 := ⟨lvZ8 ++ [127], fun r1 vs ms os => r1 = r ∧ vs = vZ8 (RS bo oo n 0) n z x y ++ [some (.bool (M x z && M z y))] ∧ ms = [] ∧ os = []⟩) (ReachG.segS (C := SS r 2) rfl rfl (SS_ok r 2) (t := fun _ => none) TOk.nil (tm := .nil) (L' := 1) (d := 1) (L := 1) (n0 := 0) hF hro h0' [] (on := ⟨lvZ8 ++ [127], [], fun vs ms os => vs = vZ8 (RS bo oo n 0) n z x y ++ [some (.bool (M x z && M z y))] ∧ ms = [] ∧ os = []⟩) (ox := fun _ => Outs.no) (orr := Outs.no) (fun p hp => nomatch hp) ?_ (fun vs ms os h => IsG.here ⟨rfl, h⟩) (fun _ _ _ _ h => h.elim) (fun _ _ _ h => h.elim)) fun r1 vs ms os hq => ?_)
 ·have hn' := zeA r bo oo n z x y
  simp only [tnO, bx, bz, by', e0z, hM.row x hx, hM.row z hz, ro_RS, ln_RS, bk_RS, of_RS, cx, cz, b_bl, o_bl, cond_true] at hn'
  cases q1 : M x z with
  | false =>
   simp only [q1, cond_false] at hn'
   exact (hn' _ _ _ _).trans (qq_ok ⟨rfl, rfl, rfl⟩)
  | true =>
   simp only [q1, cond_true] at hn'
   cases q2 : M z y with
   | false =>
    simp only [q2, cond_false] at hn'
    exact (hn' _ _ _ _).trans (qq_ok ⟨rfl, rfl, rfl⟩)
   | true =>
    simp only [q2, cond_true] at hn'
    exact (hn' _ _ _ _).trans (qq_ok ⟨rfl, rfl, rfl⟩)
 obtain ⟨rfl, rfl, rfl, rfl⟩ := hq
 refine ReachG.cond (v := (M x z && M z y)) (by kernel_rfl) (fun hv => ?_) fun hv => ?_
 ·rw [hv]
  refine ReachG.seqC (o1 := ⟨lvZ8 ++ [15], fun r2 vs ms os => r2 = r1 ∧ vs = vZ8 (RS bo oo n 0) n z x y ++ [some (RS (bk x) (ok x) n n)] ∧ ms = [] ∧ os = []⟩) (ReachG.segS (C := SS r1 2) rfl rfl (SS_ok r1 2) (t := fun _ => none) TOk.nil (tm := .nil) (L' := 1) (d := 1) (L := 1) (n0 := 0) hF hro h0' [] (on := ⟨lvZ8 ++ [15], [], fun vs ms os => vs = vZ8 (RS bo oo n 0) n z x y ++ [some (RS (bk x) (ok x) n n)] ∧ ms = [] ∧ os = []⟩) (ox := fun _ => Outs.no) (orr := Outs.no) (fun p hp => nomatch hp) ?_ (fun vs ms os h => IsG.here ⟨rfl, h⟩) (fun _ _ _ _ h => h.elim) (fun _ _ _ h => h.elim)) fun r2 vs ms os hq => ?_
  ·have hn' := zeB r1 bo oo n z x y
   simp only [tnO, bx, e0z, hM.row x hx, ro_RS, ln_RS, bk_RS, of_RS, cp_RS, cond_true] at hn'
   exact (hn' _ _ _ _).trans (qq_ok ⟨rfl, rfl, rfl⟩)
  obtain ⟨rfl, rfl, rfl, rfl⟩ := hq
  refine ReachG.storeC (fl := []) SC_ok hF h0' TOk.nil (tm := .nil) (L := 1) (d := 1) 3 (s1 := [(134, .pointer (some ⟨bk x, ok x + y, some 0⟩)), (133, I (y : Nat)), (132, RS (bk x) (ok x) n n)]) (b1 := bT (lvZ8 ++ [15]) (vZ8 (RS bo oo n 0) n z x y ++ [some (RS (bk x) (ok x) n n)]) .nil) (ms1 := []) (A1 := mkA []) (bb := bk x) (j := ok x + y) (v := .bool true) ?_ (by kernel_rfl) (hM.own x hx) (hM.cell x y hx hy) rfl rfl rfl (hM.may x hx) ?_
  ·have hn' := zeC r2 bo oo n z x y (bk x) (ok x)
   simp only [tnO, by', e0z, cond_true] at hn'
   exact (hn' _ _).trans (qn_ok rfl)
  ·refine ⟨fun _ => none, TOk.nil, .nil, 1, 1, ?_⟩
   have hM2 := hM.set hx hy
   rw [fw_set hR hv] at hM2
   exact (zeD _ bo oo n z x y (bk x) (ok x) _ _).trans (qq_ok ⟨hM2, rfl, rfl, rfl⟩)
 ·rw [hv]
  refine ReachG.segR (SC_ok r1) TOk.nil (tm := .nil) (L := 1) (L' := 1) (d := 1) (n0 := 0) hF hro h0' [] (on := ⟨lvZ8, [], fun vs ms os => vs = vZ8 (RS bo oo n 0) n z x y ∧ ms = [] ∧ os = []⟩) (ox := fun _ => Outs.no) (orr := Outs.no) (fun p hp => nomatch hp) ((zeS r1 bo oo n z x y _ _ _ _).trans (qq_ok ⟨rfl, rfl, rfl⟩)) (fun vs ms os h => IsG.here ⟨?_, h⟩) (fun _ _ _ _ h => h.elim) (fun _ _ _ h => h.elim)
  rw [← fw_skip hR hv]
  exact hM
theorem zt_y (hn : n ≤ 12) (hR : RankOk n M) (hF : Wide F) (hro : RoRel γ none F.round) (h0' : ∀ i, 0 ≤ i → γ i = none) {z x : Nat} (hz : z < n) (hx : x < n) {r : Mem} (hM : MatM γ W r0 r bo oo n bk ok (fwM M z x 0)) {ox : Nat → OutsG} {orr : OutsG} :
  ReachG Tryz.prog mZt 136 F kk γ W (.block 10 (.loop Zt_17)) r (St.of lvZ8 (vZ8 (RS bo oo n 0) n z x 0) [] []) (CanG Tryz.prog mZt 136 γ W ⟨lvZ7, fun r1 vs ms os => MatM γ W r0 r1 bo oo n bk ok (fwM M z (x + 1) 0) ∧ vs = vZ7 (RS bo oo n 0) n z x ∧ ms = [] ∧ os = []⟩ ox orr) := by
 refine ReachG.blockC (ReachG.loopC (j := n) (lv := lvZ8) (I := fun j r1 vs ms os => ∃ y : Nat, y ≤ n ∧ j = n - y ∧ MatM γ W r0 r1 bo oo n bk ok (fwM M z x y) ∧ vs = vZ8 (RS bo oo n 0) n z x y ∧ ms = [] ∧ os = []) (fun j r1 vs ms os hI => ?_) ⟨0, by omega, rfl, hM, rfl, rfl, rfl⟩)
 obtain ⟨y, hy, rfl, hM1, rfl, rfl, rfl⟩ := hI
 rw [Zt17_eq]
 refine ReachG.seqC (o1 := ⟨lvZ8, fun r2 vs ms os => r2 = r1 ∧ y < n ∧ vs = vZ8 (RS bo oo n 0) n z x y ∧ ms = [] ∧ os = []⟩) (ReachG.segR (SC_ok r1) TOk.nil (tm := .nil) (L := 1) (L' := 1) (d := 1) (n0 := 0) hF hro h0' [(10, ⟨lvZ7, [], fun vs ms os => y = n ∧ vs = vZ7 (RS bo oo n 0) n z x ∧ ms = [] ∧ os = []⟩)] (on := ⟨lvZ8, [], fun vs ms os => y < n ∧ vs = vZ8 (RS bo oo n 0) n z x y ∧ ms = [] ∧ os = []⟩) (ox := fun j => if j = 10 then ⟨lvZ7, [], fun vs ms os => y = n ∧ vs = vZ7 (RS bo oo n 0) n z x ∧ ms = [] ∧ os = []⟩ else Outs.no) (orr := Outs.no) (fun p hp => by simp only [List.mem_cons, List.not_mem_nil, or_false] at hp; subst hp; rfl) ?_ (fun vs ms os h => IsG.here ⟨rfl, h⟩) (fun id vs ms os h => ?_) (fun _ _ _ h => h.elim)) fun r2 vs ms os hq => ?_
 ·have hn' := zdA r1 bo oo n z x y
  simp only [Int.ofNat_eq_natCast] at hn'
  by_cases c : y < n
  ·simp only [dT (show (y : Int) < (n : Int) by omega), cond_true] at hn'
   exact (hn' _ _ _ _).trans (qq_ok ⟨c, rfl, rfl, rfl⟩)
  ·simp only [dF (show ¬ (y : Int) < (n : Int) by omega), cond_false] at hn'
   exact (hn' _ _ _ _).trans (qq_ok ⟨by omega, rfl, rfl, rfl⟩)
 ·by_cases e : id = 10
  ·subst e
   obtain ⟨rfl, rfl, rfl, rfl⟩ := h
   rw [fw_next hR] at hM1
   exact IsG.here ⟨hM1, rfl, rfl, rfl⟩
  ·simp only [if_neg e] at h; exact h.elim
 obtain ⟨rfl, c, rfl, rfl, rfl⟩ := hq
 refine ReachG.seqC (zt_rnd hn hR hF hro h0' hz hx c hM1) fun r3 vs ms os hq => ?_
 obtain ⟨hM3, rfl, rfl, rfl⟩ := hq
 refine ReachG.segR (SC_ok r3) TOk.nil (tm := .nil) (L := 1) (L' := 1) (d := 1) (n0 := 0) hF hro h0' [] (on := ⟨lvZ8, [], fun vs ms os => vs = vZ8 (RS bo oo n 0) n z x (y + 1) ∧ ms = [] ∧ os = []⟩) (ox := fun _ => Outs.no) (orr := Outs.no) (fun p hp => nomatch hp) ?_ (fun vs ms os h => IsG.here ⟨n - (y + 1), by omega, y + 1, c, rfl, hM3, h⟩) (fun _ _ _ _ h => h.elim) (fun _ _ _ h => h.elim)
 have hn' := zfA r3 bo oo n z x y
 simp only [Int.ofNat_eq_natCast] at hn'
 rw [w1z y (by omega)] at hn'
 exact (hn' _ _ _ _).trans (qq_ok ⟨rfl, rfl, rfl⟩)
theorem zt_x (hn : n ≤ 12) (hR : RankOk n M) (hF : Wide F) (hro : RoRel γ none F.round) (h0' : ∀ i, 0 ≤ i → γ i = none) {z : Nat} (hz : z < n) {r : Mem} (hM : MatM γ W r0 r bo oo n bk ok M) {ox : Nat → OutsG} {orr : OutsG} :
  ReachG Tryz.prog mZt 136 F kk γ W (.block 8 (.loop (.seq Zt_15 (.seq (.block 9 (.seq Zt_16 (.block 10 (.loop Zt_17)))) Zt_18)))) r (St.of lvZ7 (vZ7 (RS bo oo n 0) n z 0) [] []) (CanG Tryz.prog mZt 136 γ W ⟨lvZ6, fun r1 vs ms os => MatM γ W r0 r1 bo oo n bk ok (fwM M z n 0) ∧ vs = vZ6 (RS bo oo n 0) n z ∧ ms = [] ∧ os = []⟩ ox orr) := by
 refine ReachG.blockC (ReachG.loopC (j := n) (lv := lvZ7) (I := fun j r1 vs ms os => ∃ x : Nat, x ≤ n ∧ j = n - x ∧ MatM γ W r0 r1 bo oo n bk ok (fwM M z x 0) ∧ vs = vZ7 (RS bo oo n 0) n z x ∧ ms = [] ∧ os = []) (fun j r1 vs ms os hI => ?_) ⟨0, by omega, rfl, by rw [fw_zero]; exact hM, rfl, rfl, rfl⟩)
 obtain ⟨x, hx, rfl, hM1, rfl, rfl, rfl⟩ := hI
 refine ReachG.seqC (o1 := ⟨lvZ7, fun r2 vs ms os => r2 = r1 ∧ x < n ∧ vs = vZ7 (RS bo oo n 0) n z x ∧ ms = [] ∧ os = []⟩) (ReachG.segR (SC_ok r1) TOk.nil (tm := .nil) (L := 1) (L' := 1) (d := 1) (n0 := 0) hF hro h0' [(8, ⟨lvZ6, [], fun vs ms os => x = n ∧ vs = vZ6 (RS bo oo n 0) n z ∧ ms = [] ∧ os = []⟩)] (on := ⟨lvZ7, [], fun vs ms os => x < n ∧ vs = vZ7 (RS bo oo n 0) n z x ∧ ms = [] ∧ os = []⟩) (ox := fun j => if j = 8 then ⟨lvZ6, [], fun vs ms os => x = n ∧ vs = vZ6 (RS bo oo n 0) n z ∧ ms = [] ∧ os = []⟩ else Outs.no) (orr := Outs.no) (fun p hp => by simp only [List.mem_cons, List.not_mem_nil, or_false] at hp; subst hp; rfl) ?_ (fun vs ms os h => IsG.here ⟨rfl, h⟩) (fun id vs ms os h => ?_) (fun _ _ _ h => h.elim)) fun r2 vs ms os hq => ?_
 ·have hn' := ztP r1 bo oo n z x
  simp only [Int.ofNat_eq_natCast] at hn'
  by_cases c : x < n
  ·simp only [dT (show (x : Int) < (n : Int) by omega), cond_true] at hn'
   exact (hn' _ _ _ _).trans (qq_ok ⟨c, rfl, rfl, rfl⟩)
  ·simp only [dF (show ¬ (x : Int) < (n : Int) by omega), cond_false] at hn'
   exact (hn' _ _ _ _).trans (qq_ok ⟨by omega, rfl, rfl, rfl⟩)
 ·by_cases e : id = 8
  ·subst e
   obtain ⟨rfl, rfl, rfl, rfl⟩ := h
   exact IsG.here ⟨hM1, rfl, rfl, rfl⟩
  ·simp only [if_neg e] at h; exact h.elim
 obtain ⟨rfl, c, rfl, rfl, rfl⟩ := hq
 refine ReachG.seqC (o1 := ⟨lvZ7, fun r3 vs ms os => MatM γ W r0 r3 bo oo n bk ok (fwM M z (x + 1) 0) ∧ vs = vZ7 (RS bo oo n 0) n z x ∧ ms = [] ∧ os = []⟩) (ReachG.blockC (ReachG.seqC (o1 := ⟨lvZ8, fun r3 vs ms os => r3 = r2 ∧ vs = vZ8 (RS bo oo n 0) n z x 0 ∧ ms = [] ∧ os = []⟩) (ReachG.segR (SC_ok r2) TOk.nil (tm := .nil) (L := 1) (L' := 1) (d := 1) (n0 := 0) hF hro h0' [] (on := ⟨lvZ8, [], fun vs ms os => vs = vZ8 (RS bo oo n 0) n z x 0 ∧ ms = [] ∧ os = []⟩) (ox := fun _ => Outs.no) (orr := Outs.no) (fun p hp => nomatch hp) ((ztQ r2 bo oo n z x _ _ _ _).trans (qq_ok ⟨rfl, rfl, rfl⟩)) (fun vs ms os h => IsG.here ⟨rfl, h⟩) (fun _ _ _ _ h => h.elim) (fun _ _ _ h => h.elim)) fun r3 vs ms os hq => ?_)) fun r3 vs ms os hq => ?_
 ·obtain ⟨rfl, rfl, rfl, rfl⟩ := hq
  exact zt_y hn hR hF hro h0' hz c hM1
 obtain ⟨hM3, rfl, rfl, rfl⟩ := hq
 refine ReachG.segR (SC_ok r3) TOk.nil (tm := .nil) (L := 1) (L' := 1) (d := 1) (n0 := 0) hF hro h0' [] (on := ⟨lvZ7, [], fun vs ms os => vs = vZ7 (RS bo oo n 0) n z (x + 1) ∧ ms = [] ∧ os = []⟩) (ox := fun _ => Outs.no) (orr := Outs.no) (fun p hp => nomatch hp) ?_ (fun vs ms os h => IsG.here ⟨n - (x + 1), by omega, x + 1, c, rfl, hM3, h⟩) (fun _ _ _ _ h => h.elim) (fun _ _ _ h => h.elim)
 have hn' := ztR r3 bo oo n z x
 simp only [Int.ofNat_eq_natCast] at hn'
 rw [w1z x (by omega)] at hn'
 exact (hn' _ _ _ _).trans (qq_ok ⟨rfl, rfl, rfl⟩)
theorem zt_z (hn : n ≤ 12) (hR : RankOk n M) (hF : Wide F) (hro : RoRel γ none F.round) (h0' : ∀ i, 0 ≤ i → γ i = none) {r : Mem} (hM : MatM γ W r0 r bo oo n bk ok M) {ox : Nat → OutsG} {orr : OutsG} :
  ReachG Tryz.prog mZt 136 F kk γ W (.block 6 (.loop (.seq Zt_13 (.seq (.block 7 (.seq Zt_14 (.block 8 (.loop (.seq Zt_15 (.seq (.block 9 (.seq Zt_16 (.block 10 (.loop Zt_17)))) Zt_18)))))) Zt_19)))) r (St.of lvZ6 (vZ6 (RS bo oo n 0) n 0) [] []) (CanG Tryz.prog mZt 136 γ W ⟨[5], fun r1 vs ms os => (∃ M', RankOk n M' ∧ TrP n M' ∧ MatM γ W r0 r1 bo oo n bk ok M') ∧ vs = [some (RS bo oo n 0)] ∧ ms = [] ∧ os = []⟩ ox orr) := by
 refine ReachG.blockC (ReachG.loopC (j := n) (lv := lvZ6) (I := fun j r1 vs ms os => ∃ z : Nat, z ≤ n ∧ j = n - z ∧ (∃ M', RankOk n M' ∧ TrP z M' ∧ MatM γ W r0 r1 bo oo n bk ok M') ∧ vs = vZ6 (RS bo oo n 0) n z ∧ ms = [] ∧ os = []) (fun j r1 vs ms os hI => ?_) ⟨0, by omega, rfl, ⟨M, hR, fun k hk => absurd hk (by omega), hM⟩, rfl, rfl, rfl⟩)
 obtain ⟨z, hz, rfl, ⟨M', hR', hT', hM1⟩, rfl, rfl, rfl⟩ := hI
 refine ReachG.seqC (o1 := ⟨lvZ6, fun r2 vs ms os => r2 = r1 ∧ z < n ∧ vs = vZ6 (RS bo oo n 0) n z ∧ ms = [] ∧ os = []⟩) (ReachG.segR (SC_ok r1) TOk.nil (tm := .nil) (L := 1) (L' := 1) (d := 1) (n0 := 0) hF hro h0' [(6, ⟨[5], [], fun vs ms os => z = n ∧ vs = [some (RS bo oo n 0)] ∧ ms = [] ∧ os = []⟩)] (on := ⟨lvZ6, [], fun vs ms os => z < n ∧ vs = vZ6 (RS bo oo n 0) n z ∧ ms = [] ∧ os = []⟩) (ox := fun j => if j = 6 then ⟨[5], [], fun vs ms os => z = n ∧ vs = [some (RS bo oo n 0)] ∧ ms = [] ∧ os = []⟩ else Outs.no) (orr := Outs.no) (fun p hp => by simp only [List.mem_cons, List.not_mem_nil, or_false] at hp; subst hp; rfl) ?_ (fun vs ms os h => IsG.here ⟨rfl, h⟩) (fun id vs ms os h => ?_) (fun _ _ _ h => h.elim)) fun r2 vs ms os hq => ?_
 ·have hn' := ztN r1 bo oo n z
  simp only [Int.ofNat_eq_natCast] at hn'
  by_cases c : z < n
  ·simp only [dT (show (z : Int) < (n : Int) by omega), cond_true] at hn'
   exact (hn' _ _ _ _).trans (qq_ok ⟨c, rfl, rfl, rfl⟩)
  ·simp only [dF (show ¬ (z : Int) < (n : Int) by omega), cond_false] at hn'
   exact (hn' _ _ _ _).trans (qq_ok ⟨by omega, rfl, rfl, rfl⟩)
 ·by_cases e : id = 6
  ·subst e
   obtain ⟨rfl, rfl, rfl, rfl⟩ := h
   exact IsG.here ⟨⟨M', hR', hT', hM1⟩, rfl, rfl, rfl⟩
  ·simp only [if_neg e] at h; exact h.elim
 obtain ⟨rfl, c, rfl, rfl, rfl⟩ := hq
 refine ReachG.seqC (o1 := ⟨lvZ6, fun r3 vs ms os => MatM γ W r0 r3 bo oo n bk ok (fwM M' z n 0) ∧ vs = vZ6 (RS bo oo n 0) n z ∧ ms = [] ∧ os = []⟩) (ReachG.blockC (ReachG.seqC (o1 := ⟨lvZ7, fun r3 vs ms os => r3 = r2 ∧ vs = vZ7 (RS bo oo n 0) n z 0 ∧ ms = [] ∧ os = []⟩) (ReachG.segR (SC_ok r2) TOk.nil (tm := .nil) (L := 1) (L' := 1) (d := 1) (n0 := 0) hF hro h0' [] (on := ⟨lvZ7, [], fun vs ms os => vs = vZ7 (RS bo oo n 0) n z 0 ∧ ms = [] ∧ os = []⟩) (ox := fun _ => Outs.no) (orr := Outs.no) (fun p hp => nomatch hp) ((ztO r2 bo oo n z _ _ _ _).trans (qq_ok ⟨rfl, rfl, rfl⟩)) (fun vs ms os h => IsG.here ⟨rfl, h⟩) (fun _ _ _ _ h => h.elim) (fun _ _ _ h => h.elim)) fun r3 vs ms os hq => ?_)) fun r3 vs ms os hq => ?_
 ·obtain ⟨rfl, rfl, rfl, rfl⟩ := hq
  exact zt_x hn hR' hF hro h0' c hM1
 obtain ⟨hM3, rfl, rfl, rfl⟩ := hq
 refine ReachG.segR (SC_ok r3) TOk.nil (tm := .nil) (L := 1) (L' := 1) (d := 1) (n0 := 0) hF hro h0' [] (on := ⟨lvZ6, [], fun vs ms os => vs = vZ6 (RS bo oo n 0) n (z + 1) ∧ ms = [] ∧ os = []⟩) (ox := fun _ => Outs.no) (orr := Outs.no) (fun p hp => nomatch hp) ?_ (fun vs ms os h => IsG.here ⟨n - (z + 1), by omega, z + 1, c, rfl, ⟨_, fw_rank hR', fw_tr hR' hT', hM3⟩, h⟩) (fun _ _ _ _ h => h.elim) (fun _ _ _ h => h.elim)
 have hn' := ztS r3 bo oo n z
 simp only [Int.ofNat_eq_natCast] at hn'
 rw [w1z z (by omega)] at hn'
 exact (hn' _ _ _ _).trans (qq_ok ⟨rfl, rfl, rfl⟩)
end
end Go.Proofs
namespace Go.Proofs
open Go Go.Ev Go.Num
theorem zT {p : Prop} {i : Decidable p} (h : p) {a b c : CR} (e : a = c) : (bif @decide p i then a else b) = c := by rw [@decide_eq_true _ i h]; exact e
theorem zF {p : Prop} {i : Decidable p} (h : ¬ p) {a b c : CR} (e : b = c) : (bif @decide p i then a else b) = c := by rw [@decide_eq_false _ i h]; exact e
theorem tmod5 {n x : Nat} (hn : 1 ≤ n) (hx : x ≤ 1000) : Int.tmod (IntKind.wrap IntKind.i64 (IntKind.wrap IntKind.i64 (((5 : Nat) : Int) * ((x : Nat) : Int)) + ((1 : Nat) : Int))) ((n : Nat) : Int) = (((5 * x + 1) % n : Nat) : Int) := by
 have e1 : IntKind.wrap IntKind.i64 (((5 : Nat) : Int) * ((x : Nat) : Int)) = ((5 * x : Nat) : Int) := by
  rw [← Int.natCast_mul]
  exact wrI (by omega)
 rw [e1, show IntKind.wrap IntKind.i64 (((5 * x : Nat) : Int) + ((1 : Nat) : Int)) = ((5 * x + 1 : Nat) : Int) from inc1' (by omega)]
 exact (Int.ofNat_tmod _ _).symm
section
variable {r0 : Mem} {bp op m bo oo n : Nat} {bk ok : Nat → Nat} {T : List (List Bool)} {F : Fence} {kk : Nat} {γ : Gam} {W : World}
theorem zu_rnd (h1 : 1 ≤ n) (hn : n ≤ 12) (hp : TabM r0 bp op T) (hTl : T.length = m) (hm : m ≤ 1000) (hF : Wide F) (hro : RoRel γ none F.round) (h0' : ∀ i, 0 ≤ i → γ i = none) {x y : Nat} (hxy : x < y) (hy : y < n) {r : Mem} {M : Nat → Nat → Bool} (hR : RankOk n M) (hM : MatM γ W r0 r bo oo n bk ok M) {ox : Nat → OutsG} {orr : OutsG} :
  ReachG Tryz.prog mZt 136 F kk γ W (.block 5 (.seq Zb0 (.seq Zb1 (.cond (.tmp 89) (.seq Zb2 Zb3) .skip)))) r (St.of lvZ3 (vZ3 (RS bp op m 0) (RS bo oo n 0) n x y) [] []) (CanG Tryz.prog mZt 136 γ W ⟨lvZ3, fun r1 vs ms os => (∃ M', RankOk n M' ∧ MatM γ W r0 r1 bo oo n bk ok M') ∧ vs = vZ3 (RS bp op m 0) (RS bo oo n 0) n x y ∧ ms = [] ∧ os = []⟩ ox orr) := by
 generalize ha : (5 * x + 1) % n = a
 generalize hb : (5 * y + 1) % n = b
 have han : a < n := by rw [← ha]; exact Nat.mod_lt _ (by omega)
 have hbn : b < n := by rw [← hb]; exact Nat.mod_lt _ (by omega)
 refine ReachG.blockC (ReachG.seqC (o1 := ⟨lvZ4, fun r1 vs ms os => r1 = r ∧ vs = vZ4 (RS bp op m 0) (RS bo oo n 0) n x y a b ∧ ms = [] ∧ os = []⟩) (ReachG.segR (SC_ok r) TOk.nil (tm := .nil) (L := 1) (L' := 1) (d := 1) (n0 := 0) hF hro h0' [] (on := ⟨lvZ4, [], fun vs ms os => vs = vZ4 (RS bp op m 0) (RS bo oo n 0) n x y a b ∧ ms = [] ∧ os = []⟩) (ox := fun _ => Outs.no) (orr := Outs.no) (fun p hp => nomatch hp) ?_ (fun vs ms os h => IsG.here ⟨rfl, h⟩) (fun _ _ _ _ h => h.elim) (fun _ _ _ h => h.elim)) fun r1 vs ms os hq => ?_)
 ·have hn' := zbA r bp op m n bo oo x y
  have z0 : (!decide ((n : Int) = 0)) = true := by rw [decide_eq_false (by omega)]; rfl
  simp only [Int.ofNat_eq_natCast, z0, cond_true] at hn'
  rw [tmod5 h1 (by omega), tmod5 h1 (by omega), ha, hb] at hn'
  exact (hn' _ _ _ _).trans (qq_ok ⟨rfl, rfl, rfl⟩)
 obtain ⟨rfl, rfl, rfl, rfl⟩ := hq
 have hp1 : ∀ i l, T[i]? = some l → ∃ v, r1 bp (op + i) = some v ∧ RowV r1 v l := fun i l hl => by
  obtain ⟨v, h2, h3⟩ := hp i l hl
  exact ⟨v, hM.le _ _ _ h2, h3.mono hM.le⟩
 have hp1 : TabM r1 bp op T := hp1
 refine ReachG.seqC (o1 := ⟨lvZ5, fun r2 vs ms os => r2 = r1 ∧ ∃ v : Bool, (v = true → n % 5 ≠ 0) ∧ vs = vZ4 (RS bp op m 0) (RS bo oo n 0) n x y a b ++ [some (.bool v)] ∧ ms = [] ∧ os = []⟩) ?_ fun r2 vs ms os hq => ?_
 ·have fin : ∀ {ox' : Nat → OutsG} (sh : Nat) (v : Bool), (v = true → n % 5 ≠ 0) → (∀ (fs : FnsC) (K : KO) (kx : Nat → KS) (kr : KS), run (SS r1 sh) mZt 136 1 Zb1 fs none (rbK 0 lvZ5 [] K) kx kr [] (bT lvZ4 (vZ4 (RS bp op m 0) (RS bo oo n 0) n x y a b) .nil) [] (mkA []) = K (vZ4 (RS bp op m 0) (RS bo oo n 0) n x y a b ++ [some (.bool v)]) [] []) →
    ReachG Tryz.prog mZt 136 F kk γ W Zb1 r1 (St.of lvZ4 (vZ4 (RS bp op m 0) (RS bo oo n 0) n x y a b) [] []) (CanG Tryz.prog mZt 136 γ W ⟨lvZ5, fun r2 vs ms os => r2 = r1 ∧ ∃ v : Bool, (v = true → n % 5 ≠ 0) ∧ vs = vZ4 (RS bp op m 0) (RS bo oo n 0) n x y a b ++ [some (.bool v)] ∧ ms = [] ∧ os = []⟩ ox' orr) := fun {ox'} sh v hv h =>
   ReachG.segS (C := SS r1 sh) rfl rfl (SS_ok r1 sh) (t := fun _ => none) TOk.nil (tm := .nil) (L' := 1) (d := 1) (L := 1) (n0 := 0) hF hro h0' [] (on := ⟨lvZ5, [], fun vs ms os => vs = vZ4 (RS bp op m 0) (RS bo oo n 0) n x y a b ++ [some (.bool v)] ∧ ms = [] ∧ os = []⟩) (ox := fun _ => Outs.no) (orr := Outs.no) (fun p hp => nomatch hp) ((h _ _ _ _).trans (qq_ok ⟨rfl, rfl, rfl⟩)) (fun vs ms os h => IsG.here ⟨rfl, v, hv, h⟩) (fun _ _ _ _ h => h.elim) (fun _ _ _ h => h.elim)
  by_cases cab : a = b
  ·refine fin 1 false (fun h => nomatch h) fun fs K kx kr => ?_
   have hn' := zbBN r1 bp op m n bo oo x y a b
   simp only [Int.ofNat_eq_natCast, show ((a : Int) != (b : Int)) = false from neF (by omega), cond_false] at hn'
   exact hn' _ _ _ _
  ·have cab' : ((a : Int) != (b : Int)) = true := neT (by omega)
   by_cases cx : x < m
   ·have bx : Nat.blt x m = true := Nat.ble_eq_true_of_le (by omega)
    by_cases hz : (T.getD x []).length = 0
    ·obtain ⟨u, hu, hr⟩ := tab_row hp1 (i := x) (by omega)
     have hun : u = nilT := by
      rcases hr with ⟨_, h⟩ | ⟨h, _⟩
      ·exact h
      ·exact absurd (List.length_eq_zero_iff.1 hz) h
     subst hun
     refine fin 1 false (fun h => nomatch h) fun fs K kx kr => ?_
     have hn' := zbBN r1 bp op m n bo oo x y a b
     simp only [Int.ofNat_eq_natCast, Int.toNat_natCast, cab', dT (show (x : Int) < (m : Int) by omega), bx, e0z, hu, show isNilS nilT = true from rfl, cond_true] at hn'
     exact hn' _ _ _ _
    ·obtain ⟨b2, o2, c2, hu, hr⟩ := tab_RS hp1 (i := x) (by omega) hz
     have hn' := zbBR r1 bp op m n bo oo x y a b
     simp only [Int.ofNat_eq_natCast, Int.toNat_natCast, cab', dT (show (x : Int) < (m : Int) by omega), bx, e0z, hu, ro_RS, ln_RS, bk_RS, of_RS, cond_true] at hn'
     by_cases cy : y < (T.getD x []).length
     ·have by' : Nat.blt y (T.getD x []).length = true := Nat.ble_eq_true_of_le (by omega)
      simp only [by', hr y cy, b_bl, o_bl, cond_true] at hn'
      cases hg : gT T x y with
      | false =>
       refine fin 2 false (fun h => nomatch h) fun fs K kx kr => (hn' _ _ _ _).trans (zT (by omega) ?_)
       simp only [hg, cond_false]
       rfl
      | true =>
       by_cases c5 : n % 5 = 0
       ·refine fin 2 false (fun h => nomatch h) fun fs K kx kr => (hn' _ _ _ _).trans (zT (by omega) ?_)
        have e5 : (Int.tmod ((n : Nat) : Int) ((5 : Nat) : Int) != ((0 : Nat) : Int)) = false := neF (by rw [← Int.ofNat_tmod]; omega)
        simp only [hg, cond_true, e5, cond_false]
        rfl
       ·refine fin 2 true (fun _ => c5) fun fs K kx kr => (hn' _ _ _ _).trans (zT (by omega) ?_)
        have e5 : (Int.tmod ((n : Nat) : Int) ((5 : Nat) : Int) != ((0 : Nat) : Int)) = true := neT (by rw [← Int.ofNat_tmod]; omega)
        simp only [hg, cond_true, e5]
        rfl
     ·exact fin 2 false (fun h => nomatch h) fun fs K kx kr => (hn' _ _ _ _).trans (zF (by omega) rfl)
   ·refine fin 1 false (fun h => nomatch h) fun fs K kx kr => ?_
    have hn' := zbBN r1 bp op m n bo oo x y a b
    simp only [Int.ofNat_eq_natCast, cab', dF (show ¬ (x : Int) < (m : Int) by omega), cond_true, cond_false] at hn'
    exact hn' _ _ _ _
 obtain ⟨rfl, v, hv5, rfl, rfl, rfl⟩ := hq
 refine ReachG.cond (v := v) (by kernel_rfl) (fun hv => ?_) fun hv => ?_
 ·subst hv
  have ban : Nat.blt a n = true := Nat.ble_eq_true_of_le (by omega)
  have bbn : Nat.blt b n = true := Nat.ble_eq_true_of_le (by omega)
  refine ReachG.seqC (o1 := ⟨[3, 4, 5, 7, 8, 10, 11], fun r3 vs ms os => r3 = r2 ∧ vs = [some (RS bp op m 0), some (I (n : Nat)), some (RS bo oo n 0), some (I (x : Nat)), some (I (y : Nat)), some (I (b : Nat)), some (RS (bk a) (ok a) n n)] ∧ ms = [] ∧ os = []⟩) (ReachG.segS (C := SS r2 2) rfl rfl (SS_ok r2 2) (t := fun _ => none) TOk.nil (tm := .nil) (L' := 1) (d := 1) (L := 1) (n0 := 0) hF hro h0' [] (on := ⟨[3, 4, 5, 7, 8, 10, 11], [], fun vs ms os => vs = [some (RS bp op m 0), some (I (n : Nat)), some (RS bo oo n 0), some (I (x : Nat)), some (I (y : Nat)), some (I (b : Nat)), some (RS (bk a) (ok a) n n)] ∧ ms = [] ∧ os = []⟩) (ox := fun _ => Outs.no) (orr := Outs.no) (fun p hp => nomatch hp) ?_ (fun vs ms os h => IsG.here ⟨rfl, h⟩) (fun _ _ _ _ h => h.elim) (fun _ _ _ h => h.elim)) fun r3 vs ms os hq => ?_
  ·have hn' := zbC r2 bp op m n bo oo x y a b
   simp only [tnO, ban, e0z, hM.row a han, ro_RS, ln_RS, bk_RS, of_RS, cp_RS, cond_true] at hn'
   exact (hn' _ _ _ _).trans (qq_ok ⟨rfl, rfl, rfl⟩)
  obtain ⟨rfl, rfl, rfl, rfl⟩ := hq
  refine ReachG.storeC (fl := []) SC_ok hF h0' TOk.nil (tm := .nil) (L := 1) (d := 1) 3 (s1 := [(96, .pointer (some ⟨bk a, ok a + b, some 0⟩)), (95, I (b : Nat)), (94, RS (bk a) (ok a) n n)]) (b1 := bT [3, 4, 5, 7, 8, 10, 11] [some (RS bp op m 0), some (I (n : Nat)), some (RS bo oo n 0), some (I (x : Nat)), some (I (y : Nat)), some (I (b : Nat)), some (RS (bk a) (ok a) n n)] .nil) (ms1 := []) (A1 := mkA []) (bb := bk a) (j := ok a + b) (v := .bool true) ?_ (by kernel_rfl) (hM.own a han) (hM.cell a b han hbn) rfl rfl rfl (hM.may a han) ?_
  ·have hn' := zbD r3 bp op m n bo oo x y b (bk a) (ok a)
   simp only [tnO, bbn, e0z, cond_true] at hn'
   exact (hn' _ _).trans (qn_ok rfl)
  ·refine ⟨fun _ => none, TOk.nil, .nil, 1, 1, ?_⟩
   have hR2 := hR.set hn (hv5 rfl) hxy hy
   rw [ha, hb] at hR2
   exact (zbE _ bp op m n bo oo x y b (bk a) (ok a) _ _).trans (qq_ok ⟨⟨_, hR2, hM.set han hbn⟩, rfl, rfl, rfl⟩)
 ·subst hv
  exact ReachG.segR (SC_ok r2) TOk.nil (tm := .nil) (L := 1) (L' := 1) (d := 1) (n0 := 0) hF hro h0' [] (on := ⟨lvZ3, [], fun vs ms os => vs = vZ3 (RS bp op m 0) (RS bo oo n 0) n x y ∧ ms = [] ∧ os = []⟩) (ox := fun _ => Outs.no) (orr := Outs.no) (fun p hp => nomatch hp) ((zbS r2 bp op m n bo oo x y a b _ _ _ _).trans (qq_ok ⟨rfl, rfl, rfl⟩)) (fun vs ms os h => IsG.here ⟨⟨M, hR, hM⟩, h⟩) (fun _ _ _ _ h => h.elim) (fun _ _ _ h => h.elim)
end
end Go.Proofs
namespace Go.Proofs
open Go Go.Ev Go.Num
theorem frzZ (j b o n : Nat) (h : n < unk) : frzV j b o (.slice (some ⟨j, 0, none⟩) n n) = some (RS b o n n) := by
 show (match Nat.beq j j with | true => (match (Nat.beq n 0 && Nat.beq n unkE) with | true => some (Value.slice (some ⟨j, 0, none⟩) n n) | false => some (Value.slice (some ⟨b, o + 0, some 0⟩) n (frzC n))) | false => some (Value.slice (some ⟨j, 0, none⟩) n n)) = _
 rw [Nat.beq_refl, show Nat.beq n unkE = false from natFx (by unfold unkE; unfold unk at h; omega), Bool.and_false]
 have : frzC n = n := by
  unfold frzC
  rw [show Nat.blt n unk = true from Nat.ble_eq_true_of_le h]
 rw [this]; rfl
theorem frzU (j b o n : Nat) : frzV j b o (.slice (some ⟨j, 0, none⟩) n unk) = some (RS b o n 0) := by
 show (match Nat.beq j j with | true => (match (Nat.beq n 0 && Nat.beq unk unkE) with | true => some (Value.slice (some ⟨j, 0, none⟩) n unk) | false => some (Value.slice (some ⟨b, o + 0, some 0⟩) n (frzC unk))) | false => some (Value.slice (some ⟨j, 0, none⟩) n unk)) = _
 rw [Nat.beq_refl, show Nat.beq unk unkE = false by decide, Bool.and_false]
 rfl
theorem zerB (n : Nat) : zerosL (Nat.mul n 1) [.bool false] = List.replicate n (Value.bool false) := by
 show List.replicate (Nat.mul n 1) (Value.bool false) = _
 rw [Nat.mul_eq, Nat.mul_one]
theorem nnsRep (v : Value) (hv : nn v = true) : ∀ n, m_nns (List.replicate n v) = true
 | 0 => rfl
 | n + 1 => by
  have ih := nnsRep v hv n
  show (nn v && nns (List.replicate n v)) = true
  unfold m_nns at ih
  rw [hv, ih]; rfl
theorem isG_trans {P : Program} {m n : Nat} {γ0 : Gam} {W0 : World} {o1 o2 : OutsG} {r : Mem} {st : St} (h : IsG P m n γ0 W0 o1 r st) (hq : ∀ r vs ms os, o1.Q r vs ms os → IsG P m n γ0 W0 o2 r (St.of o1.lv vs ms os)) : IsG P m n γ0 W0 o2 r st := fun γ a W hs hb => by
 obtain ⟨r1, γ1, vs, ms, os, q, s, b⟩ := h γ a W hs hb
 exact hq r1 vs ms os q γ1 a W s b
structure RowsZ (γ0 : Gam) (W0 : World) (r0 r : Mem) (c : List Value) (n x : Nat) (bk ok : Nat → Nat) : Prop where
 le : Mem.le r0 r
 nn : m_nns c = true
 len : c.length = x
 row : ∀ i, i < x → c[i]? = some (RS (bk i) (ok i) n n)
 own : ∀ i, i < x → r.own (bk i) = true
 may : ∀ i, i < x → bk i < W0.heap.size → ∃ k g, γ0 k = some g ∧ g.blk = bk i
 new : ∀ i, i < x → ∀ k, r0 (bk i) k = none
 cell : ∀ i y, i < x → y < n → r (bk i) (ok i + y) = some (.bool false)
 inj : ∀ i j, i < x → j < x → bk i = bk j → i = j
theorem RowsZ.snoc {γ0 : Gam} {W0 : World} {r0 r r1 : Mem} {c : List Value} {n x : Nat} {bk ok : Nat → Nat} (h : RowsZ γ0 W0 r0 r c n x bk ok) (h1 : 1 ≤ n) {b o : Nat} (hle : Mem.le r r1) (hF : Frz γ0 W0 r r1 b) (hc : ∀ y, y < n → r1 b (o + y) = some (.bool false)) : RowsZ γ0 W0 r0 r1 (c ++ [RS b o n n]) n (x + 1) (fun i => if i = x then b else bk i) (fun i => if i = x then o else ok i) := by
 have old : ∀ i, i < x → bk i ≠ b := fun i hi e => by
  have := h.cell i 0 hi (by omega)
  rw [e, hF.fresh] at this
  cases this
 refine ⟨Mem.le_trans h.le hle, by rw [nns_app, h.nn]; rfl, by simp [h.len], fun i hi => ?_, fun i hi => ?_, fun i hi hlt => ?_, fun i hi k => ?_, fun i y hi hy => ?_, fun i j hi hj e => ?_⟩
 ·by_cases d : i = x
  ·subst d
   rw [List.getElem?_append_right (by rw [h.len]; exact Nat.le_refl _), h.len, Nat.sub_self, if_pos rfl, if_pos rfl]
   rfl
  ·rw [List.getElem?_append_left (by rw [h.len]; omega), if_neg d, if_neg d]
   exact h.row i (by omega)
 ·by_cases d : i = x
  ·rw [if_pos d]; exact hF.own
  ·rw [if_neg d, (hF.other _ (old i (by omega))).2]; exact h.own i (by omega)
 ·by_cases d : i = x
  ·simp only [if_pos d] at hlt ⊢; exact hF.may hlt
  ·simp only [if_neg d] at hlt ⊢; exact h.may i (by omega) hlt
 ·by_cases d : i = x
  ·rw [if_pos d]
   cases q : r0 b k with
   | none => rfl
   | some u => have := h.le _ _ _ q; rw [hF.fresh] at this; cases this
  ·rw [if_neg d]; exact h.new i (by omega) k
 ·by_cases d : i = x
  ·rw [if_pos d, if_pos d]; exact hc y hy
  ·rw [if_neg d, if_neg d]; exact hle _ _ _ (h.cell i y (by omega) hy)
 ·by_cases d : i = x
  ·by_cases f : j = x
   ·omega
   ·rw [if_pos d, if_neg f] at e
    exact absurd e.symm (old j (by omega))
  ·by_cases f : j = x
   ·rw [if_neg d, if_pos f] at e
    exact absurd e (old i (by omega))
   ·rw [if_neg d, if_neg f] at e
    exact h.inj i j (by omega) (by omega) e
theorem RowsZ.mat {γ0 : Gam} {W0 : World} {r0 r r1 : Mem} {c : List Value} {n : Nat} {bk ok : Nat → Nat} (h : RowsZ γ0 W0 r0 r c n n bk ok) (h1 : 1 ≤ n) {b o : Nat} (hle : Mem.le r r1) (hF : Frz γ0 W0 r r1 b) (hc : ∀ k u, c[k]? = some u → r1 b (o + k) = some u) : MatM γ0 W0 r0 r1 b o n bk ok (fun _ _ => false) := by
 have old : ∀ i, i < n → bk i ≠ b := fun i hi e => by
  have := h.cell i 0 hi (by omega)
  rw [e, hF.fresh] at this
  cases this
 exact ⟨Mem.le_trans h.le hle, fun i hi => hc i _ (h.row i hi), old, fun i hi => by rw [(hF.other _ (old i hi)).2]; exact h.own i hi, h.may, h.new, fun i y hi hy => hle _ _ _ (h.cell i y hi hy), h.inj⟩
section
variable {r0 : Mem} {bp op m n : Nat} {T : List (List Bool)} {F : Fence} {kk : Nat} {γ : Gam} {W : World}
theorem zv_x (h1 : 1 ≤ n) (hn : n ≤ 12) (hF : Wide F) (hro : RoRel γ none F.round) (h0' : ∀ i, 0 ≤ i → γ i = none) {ox : Nat → OutsG} {orr : OutsG} :
  ReachG Tryz.prog mZt 136 F kk γ W (.block 0 (.loop Zt_6)) r0 (St.of lvZ0 (vZ0 (RS bp op m 0) nilT n 0) [] []) (CanG Tryz.prog mZt 136 γ W ⟨[3, 4, 5], fun r1 vs ms os => ∃ bo oo bk ok, MatM γ W r0 r1 bo oo n bk ok (fun _ _ => false) ∧ vs = [some (RS bp op m 0), some (I (n : Nat)), some (RS bo oo n 0)] ∧ ms = [] ∧ os = []⟩ ox orr) := by
 have hunk : n < unk := by unfold unk; omega
 have b4 : Nat.ble n n = true := Nat.ble_eq_true_of_le (Nat.le_refl _)
 have b5 : Nat.ble n 1000000 = true := Nat.ble_eq_true_of_le (by omega)
 have zc : ∀ b o (r : Mem), (∀ k u, (List.replicate n (Value.bool false))[k]? = some u → r b (o + k) = some u) → ∀ y, y < n → r b (o + y) = some (.bool false) := fun b o r h y hy => h y _ (by rw [List.getElem?_replicate, if_pos hy])
 refine ReachG.blockC (ReachG.loopC (j := n) (lv := lvZ0) (I := fun j r1 vs ms os => ∃ x : Nat, x ≤ n ∧ j = n - x ∧ ms = [] ∧ ((x = 0 ∧ r1 = r0 ∧ vs = vZ0 (RS bp op m 0) nilT n 0 ∧ os = []) ∨ (1 ≤ x ∧ ∃ c bk ok, vs = vZ0 (RS bp op m 0) (gwT 0 x) n x ∧ os = [oTb c 0] ∧ RowsZ γ W r0 r1 c n x bk ok))) (fun j r1 vs ms os hI => ?_) ⟨0, by omega, rfl, rfl, .inl ⟨rfl, rfl, rfl, rfl⟩⟩)
 obtain ⟨x, hx, rfl, rfl, hcase⟩ := hI
 rcases hcase with ⟨rfl, rfl, rfl, rfl⟩ | ⟨hx1, c, bk, ok, rfl, rfl, hZ⟩
 ·refine ReachG.segR (SC_ok r1) TOk.nil (tm := .nil) (L := 1) (L' := 1) (d := 1) (n0 := 0) hF hro h0' [(0, ⟨[3, 4, 5], [], fun _ _ _ => False⟩)] (on := ⟨lvZ0, [.t, .g], fun vs ms os => vs = vZ0 (RS bp op m 0) (gwT 0 1) n 1 ∧ ms = [] ∧ os = [oTb [.slice (some ⟨1, 0, none⟩) n n] 0, oBo (List.replicate n (.bool false)) 1]⟩) (ox := fun j => if j = 0 then ⟨[3, 4, 5], [], fun _ _ _ => False⟩ else Outs.no) (orr := Outs.no) (fun p hp => by simp only [List.mem_cons, List.not_mem_nil, or_false] at hp; subst hp; rfl) ?_ ?_ (fun id vs ms os h => ?_) (fun _ _ _ h => h.elim)
  ·have hn' := ztHn r1 bp op m n 0
   simp only [tnO] at hn'
   simp only [Int.ofNat_eq_natCast, dT (show ((0 : Nat) : Int) < (n : Int) by omega), b4, b5, zerB, nnsRep (.bool false) rfl n, Bool.and_true, Bool.true_and, cond_true] at hn'
   rw [w1z 0 (by omega)] at hn'
   exact (hn' _ _ _ _).trans (qq_ok ⟨rfl, rfl, rfl⟩)
  ·rintro vs ms os ⟨rfl, rfl, rfl⟩
   refine IsG.freezeO (os0 := [oTb [.slice (some ⟨1, 0, none⟩) n n] 0]) (j := 1) h0' rfl (Nat.zero_le _) rfl (nnsRep (.bool false) rfl n) fun b' o' r2 hle hFz hrow => ?_
   have hz0 : RowsZ γ W r1 r1 [] n 0 (fun _ => 0) (fun _ => 0) := ⟨Mem.le_refl _, rfl, rfl, fun i h => absurd h (by omega), fun i h => absurd h (by omega), fun i h => absurd h (by omega), fun i h => absurd h (by omega), fun i y h => absurd h (by omega), fun i j h => absurd h (by omega)⟩
   refine ⟨vZ0 (RS bp op m 0) (gwT 0 1) n 1, [oTb [RS b' o' n n] 0], rfl, ?_, n - 1, by omega, 1, h1, rfl, rfl, .inr ⟨Nat.le_refl _, _, _, _, rfl, rfl, hz0.snoc h1 hle hFz (zc b' o' r2 hrow)⟩⟩
   have e1 : frzVs 1 b' o' [.slice (some ⟨1, 0, none⟩) n n] = some [RS b' o' n n] := frzVs_one _ _ _ _ _ (frzZ 1 b' o' n hunk)
   unfold oTb
   simp only [frzAs, frzA, e1]
  ·by_cases e : id = 0
   ·subst e; exact h.elim
   ·simp only [if_neg e] at h; exact h.elim
 ·have hn' := ztHo r1 bp op m n x x c
  simp only [tnO] at hn'
  by_cases cx : x < n
  ·refine ReachG.segR (SC_ok r1) TOk.nil (tm := .nil) (L := 1) (L' := 1) (d := 1) (n0 := 0) hF hro h0' [(0, ⟨[3, 4, 5], [.g], fun _ _ _ => False⟩)] (on := ⟨lvZ0, [.q [1], .g], fun vs ms os => vs = vZ0 (RS bp op m 0) (gwT 0 (x + 1)) n (x + 1) ∧ ms = [] ∧ os = [oTb (c ++ [.slice (some ⟨1, 0, none⟩) n n]) 0, oBo (List.replicate n (.bool false)) 1]⟩) (ox := fun j => if j = 0 then ⟨[3, 4, 5], [.g], fun _ _ _ => False⟩ else Outs.no) (orr := Outs.no) (fun p hp => by simp only [List.mem_cons, List.not_mem_nil, or_false] at hp; subst hp; rfl) ?_ ?_ (fun id vs ms os h => ?_) (fun _ _ _ h => h.elim)
   ·have m1 : Nat.ble (Nat.add x 1) 1000000 = true := Nat.ble_eq_true_of_le (by simp only [Nat.add_eq]; omega)
    have tk : takeAt c 0 (Nat.mul x 1) = some c := takeL_row _ _ (by rw [hZ.len]; simp)
    have s2 : m_mvq [3, 1] (c ++ [.slice (some ⟨1, 0, none⟩) n n]) = c ++ [.slice (some ⟨1, 0, none⟩) n n] := by rw [mvq_app, mvq_nn hZ.nn]; rfl
    have s3 : m_nopo (c ++ [.slice (some ⟨1, 0, none⟩) n n]) = true := by rw [nopo_app, nopo_nn hZ.nn]; rfl
    simp only [Int.ofNat_eq_natCast, dT (show (x : Int) < (n : Int) by omega), b4, b5, m1, tk, s2, s3, zerB, nnsRep (.bool false) rfl n, Bool.and_true, cond_true] at hn'
    rw [w1z x (by omega)] at hn'
    exact (hn' _ _ _ _).trans (qq_ok ⟨rfl, rfl, rfl⟩)
   ·rintro vs ms os ⟨rfl, rfl, rfl⟩
    refine IsG.freezeO (os0 := [oTb (c ++ [.slice (some ⟨1, 0, none⟩) n n]) 0]) (j := 1) h0' rfl (Nat.zero_le _) rfl (nnsRep (.bool false) rfl n) fun b' o' r2 hle hFz hrow => ?_
    refine ⟨vZ0 (RS bp op m 0) (gwT 0 (x + 1)) n (x + 1), [oTb (c ++ [RS b' o' n n]) 0], rfl, ?_, n - (x + 1), by omega, x + 1, cx, rfl, rfl, .inr ⟨by omega, _, _, _, rfl, rfl, hZ.snoc h1 hle hFz (zc b' o' r2 hrow)⟩⟩
    have e1 := frzVs_app 1 b' o' c [.slice (some ⟨1, 0, none⟩) n n] c [RS b' o' n n] (frzVs_nn 1 b' o' c hZ.nn) (frzVs_one _ _ _ _ _ (frzZ 1 b' o' n hunk))
    unfold oTb
    simp only [frzAs, frzA, e1]
   ·by_cases e : id = 0
    ·subst e; exact h.elim
    ·simp only [if_neg e] at h; exact h.elim
  ·obtain rfl : x = n := by omega
   refine ReachG.segR (SC_ok r1) TOk.nil (tm := .nil) (L := 1) (L' := 1) (d := 1) (n0 := 0) hF hro h0' [(0, ⟨[3, 4, 5], [.g], fun vs ms os => vs = [some (RS bp op m 0), some (I (x : Nat)), some (gwT 0 x)] ∧ ms = [] ∧ os = [oTb c 0]⟩)] (on := ⟨lvZ0, [.q [1], .g], fun _ _ _ => False⟩) (ox := fun j => if j = 0 then ⟨[3, 4, 5], [.g], fun vs ms os => vs = [some (RS bp op m 0), some (I (x : Nat)), some (gwT 0 x)] ∧ ms = [] ∧ os = [oTb c 0]⟩ else Outs.no) (orr := Outs.no) (fun p hp => by simp only [List.mem_cons, List.not_mem_nil, or_false] at hp; subst hp; rfl) ?_ (fun _ _ _ h => h.elim) (fun id vs ms os h => ?_) (fun _ _ _ h => h.elim)
   ·simp only [Int.ofNat_eq_natCast, dF (show ¬ (x : Int) < (x : Int) by omega), hZ.nn, Bool.and_true, cond_true, cond_false] at hn'
    exact (hn' _ _ _ _).trans (qq_ok ⟨rfl, rfl, rfl⟩)
   ·by_cases e : id = 0
    ·subst e
     obtain ⟨rfl, rfl, rfl⟩ := h
     refine IsG.freezeO (os0 := []) (j := 0) h0' rfl (Nat.zero_le _) rfl hZ.nn fun b' o' r2 hle hFz hrow => ?_
     have hf := frzU 0 b' o' x
     have hf2 : frzV 0 b' o' (RS bp op m 0) = some (RS bp op m 0) := rfl
     have hf3 : frzV 0 b' o' (I (x : Nat)) = some (I (x : Nat)) := rfl
     exact ⟨[some (RS bp op m 0), some (I (x : Nat)), some (RS b' o' x 0)], [], by simp only [frzO, hf, hf2, hf3], rfl, b', o', bk, ok, hZ.mat h1 hle hFz hrow, rfl, rfl, rfl⟩
    ·simp only [if_neg e] at h; exact h.elim
theorem zu_x {bo oo : Nat} {bk ok : Nat → Nat} (h1 : 1 ≤ n) (hn : n ≤ 12) (hp : TabM r0 bp op T) (hTl : T.length = m) (hm : m ≤ 1000) (hF : Wide F) (hro : RoRel γ none F.round) (h0' : ∀ i, 0 ≤ i → γ i = none) {r : Mem} {M : Nat → Nat → Bool} (hR : RankOk n M) (hM : MatM γ W r0 r bo oo n bk ok M) {ox : Nat → OutsG} {orr : OutsG} :
  ReachG Tryz.prog mZt 136 F kk γ W (.block 2 (.loop (.seq Zt_8 (.seq (.block 3 (.seq Zt_9 (.block 4 (.loop Zt_10)))) Zt_11)))) r (St.of lvZ2 [some (RS bp op m 0), some (I (n : Nat)), some (RS bo oo n 0), some (I (0 : Nat))] [] []) (CanG Tryz.prog mZt 136 γ W ⟨[4, 5], fun r1 vs ms os => (∃ M', RankOk n M' ∧ MatM γ W r0 r1 bo oo n bk ok M') ∧ vs = [some (I (n : Nat)), some (RS bo oo n 0)] ∧ ms = [] ∧ os = []⟩ ox orr) := by
 refine ReachG.blockC (ReachG.loopC (j := n) (lv := lvZ2) (I := fun j r1 vs ms os => ∃ x : Nat, x ≤ n ∧ j = n - x ∧ (∃ M', RankOk n M' ∧ MatM γ W r0 r1 bo oo n bk ok M') ∧ vs = [some (RS bp op m 0), some (I (n : Nat)), some (RS bo oo n 0), some (I (x : Nat))] ∧ ms = [] ∧ os = []) (fun j r1 vs ms os hI => ?_) ⟨0, by omega, rfl, ⟨M, hR, hM⟩, rfl, rfl, rfl⟩)
 obtain ⟨x, hx, rfl, ⟨M1, hR1, hM1⟩, rfl, rfl, rfl⟩ := hI
 refine ReachG.seqC (o1 := ⟨lvZ2, fun r2 vs ms os => r2 = r1 ∧ x < n ∧ vs = [some (RS bp op m 0), some (I (n : Nat)), some (RS bo oo n 0), some (I (x : Nat))] ∧ ms = [] ∧ os = []⟩) (ReachG.segR (SC_ok r1) TOk.nil (tm := .nil) (L := 1) (L' := 1) (d := 1) (n0 := 0) hF hro h0' [(2, ⟨[4, 5], [], fun vs ms os => vs = [some (I (n : Nat)), some (RS bo oo n 0)] ∧ ms = [] ∧ os = []⟩)] (on := ⟨lvZ2, [], fun vs ms os => x < n ∧ vs = [some (RS bp op m 0), some (I (n : Nat)), some (RS bo oo n 0), some (I (x : Nat))] ∧ ms = [] ∧ os = []⟩) (ox := fun j => if j = 2 then ⟨[4, 5], [], fun vs ms os => vs = [some (I (n : Nat)), some (RS bo oo n 0)] ∧ ms = [] ∧ os = []⟩ else Outs.no) (orr := Outs.no) (fun p hp => by simp only [List.mem_cons, List.not_mem_nil, or_false] at hp; subst hp; rfl) ?_ (fun vs ms os h => IsG.here ⟨rfl, h⟩) (fun id vs ms os h => ?_) (fun _ _ _ h => h.elim)) fun r2 vs ms os hq => ?_
 ·have hn' := ztJ r1 bp op m n bo oo x
  simp only [Int.ofNat_eq_natCast] at hn'
  by_cases c : x < n
  ·simp only [dT (show (x : Int) < (n : Int) by omega), cond_true] at hn'
   exact (hn' _ _ _ _).trans (qq_ok ⟨c, rfl, rfl, rfl⟩)
  ·simp only [dF (show ¬ (x : Int) < (n : Int) by omega), cond_false] at hn'
   exact (hn' _ _ _ _).trans (qq_ok ⟨rfl, rfl, rfl⟩)
 ·by_cases e : id = 2
  ·subst e
   obtain ⟨rfl, rfl, rfl⟩ := h
   exact IsG.here ⟨⟨M1, hR1, hM1⟩, rfl, rfl, rfl⟩
  ·simp only [if_neg e] at h; exact h.elim
 obtain ⟨rfl, c, rfl, rfl, rfl⟩ := hq
 refine ReachG.seqC (o1 := ⟨lvZ2, fun r3 vs ms os => (∃ M', RankOk n M' ∧ MatM γ W r0 r3 bo oo n bk ok M') ∧ vs = [some (RS bp op m 0), some (I (n : Nat)), some (RS bo oo n 0), some (I (x : Nat))] ∧ ms = [] ∧ os = []⟩) (ReachG.blockC (ReachG.seqC (o1 := ⟨lvZ3, fun r3 vs ms os => r3 = r2 ∧ vs = vZ3 (RS bp op m 0) (RS bo oo n 0) n x (x + 1) ∧ ms = [] ∧ os = []⟩) (ReachG.segR (SC_ok r2) TOk.nil (tm := .nil) (L := 1) (L' := 1) (d := 1) (n0 := 0) hF hro h0' [] (on := ⟨lvZ3, [], fun vs ms os => vs = vZ3 (RS bp op m 0) (RS bo oo n 0) n x (x + 1) ∧ ms = [] ∧ os = []⟩) (ox := fun _ => Outs.no) (orr := Outs.no) (fun p hp => nomatch hp) ?_ (fun vs ms os h => IsG.here ⟨rfl, h⟩) (fun _ _ _ _ h => h.elim) (fun _ _ _ h => h.elim)) fun r3 vs ms os hq => ?_)) fun r3 vs ms os hq => ?_
 ·have hn' := ztK r2 bp op m n bo oo x
  simp only [Int.ofNat_eq_natCast] at hn'
  rw [w1z x (by omega)] at hn'
  exact (hn' _ _ _ _).trans (qq_ok ⟨rfl, rfl, rfl⟩)
 ·obtain ⟨rfl, rfl, rfl, rfl⟩ := hq
  refine ReachG.blockC (ReachG.loopC (lv := lvZ3) (I := fun j r4 vs ms os => ∃ y : Nat, x < y ∧ y ≤ n ∧ j = n - y ∧ (∃ M', RankOk n M' ∧ MatM γ W r0 r4 bo oo n bk ok M') ∧ vs = vZ3 (RS bp op m 0) (RS bo oo n 0) n x y ∧ ms = [] ∧ os = []) (fun j r4 vs ms os hI => ?_) (j := n - (x + 1)) ⟨x + 1, by omega, by omega, rfl, ⟨M1, hR1, hM1⟩, rfl, rfl, rfl⟩)
  obtain ⟨y, hxy, hy, rfl, ⟨M4, hR4, hM4⟩, rfl, rfl, rfl⟩ := hI
  rw [Zt10_eq]
  refine ReachG.seqC (o1 := ⟨lvZ3, fun r5 vs ms os => r5 = r4 ∧ y < n ∧ vs = vZ3 (RS bp op m 0) (RS bo oo n 0) n x y ∧ ms = [] ∧ os = []⟩) (ReachG.segR (SC_ok r4) TOk.nil (tm := .nil) (L := 1) (L' := 1) (d := 1) (n0 := 0) hF hro h0' [(4, ⟨lvZ2, [], fun vs ms os => vs = [some (RS bp op m 0), some (I (n : Nat)), some (RS bo oo n 0), some (I (x : Nat))] ∧ ms = [] ∧ os = []⟩)] (on := ⟨lvZ3, [], fun vs ms os => y < n ∧ vs = vZ3 (RS bp op m 0) (RS bo oo n 0) n x y ∧ ms = [] ∧ os = []⟩) (ox := fun j => if j = 4 then ⟨lvZ2, [], fun vs ms os => vs = [some (RS bp op m 0), some (I (n : Nat)), some (RS bo oo n 0), some (I (x : Nat))] ∧ ms = [] ∧ os = []⟩ else Outs.no) (orr := Outs.no) (fun p hp => by simp only [List.mem_cons, List.not_mem_nil, or_false] at hp; subst hp; rfl) ?_ (fun vs ms os h => IsG.here ⟨rfl, h⟩) (fun id vs ms os h => ?_) (fun _ _ _ h => h.elim)) fun r5 vs ms os hq => ?_
  ·have hn' := zaA r4 bp op m n bo oo x y
   simp only [Int.ofNat_eq_natCast] at hn'
   by_cases c : y < n
   ·simp only [dT (show (y : Int) < (n : Int) by omega), cond_true] at hn'
    exact (hn' _ _ _ _).trans (qq_ok ⟨c, rfl, rfl, rfl⟩)
   ·simp only [dF (show ¬ (y : Int) < (n : Int) by omega), cond_false] at hn'
    exact (hn' _ _ _ _).trans (qq_ok ⟨rfl, rfl, rfl⟩)
  ·by_cases e : id = 4
   ·subst e
    obtain ⟨rfl, rfl, rfl⟩ := h
    exact IsG.here ⟨⟨M4, hR4, hM4⟩, rfl, rfl, rfl⟩
   ·simp only [if_neg e] at h; exact h.elim
  obtain ⟨rfl, cy, rfl, rfl, rfl⟩ := hq
  refine ReachG.seqC (zu_rnd h1 hn hp hTl hm hF hro h0' hxy cy hR4 hM4) fun r6 vs ms os hq => ?_
  obtain ⟨hM6, rfl, rfl, rfl⟩ := hq
  refine ReachG.segR (SC_ok r6) TOk.nil (tm := .nil) (L := 1) (L' := 1) (d := 1) (n0 := 0) hF hro h0' [] (on := ⟨lvZ3, [], fun vs ms os => vs = vZ3 (RS bp op m 0) (RS bo oo n 0) n x (y + 1) ∧ ms = [] ∧ os = []⟩) (ox := fun _ => Outs.no) (orr := Outs.no) (fun p hp => nomatch hp) ?_ (fun vs ms os h => IsG.here ⟨n - (y + 1), by omega, y + 1, by omega, cy, rfl, hM6, h⟩) (fun _ _ _ _ h => h.elim) (fun _ _ _ h => h.elim)
  have hn' := zcA r6 bp op m n bo oo x y
  simp only [Int.ofNat_eq_natCast] at hn'
  rw [w1z y (by omega)] at hn'
  exact (hn' _ _ _ _).trans (qq_ok ⟨rfl, rfl, rfl⟩)
 obtain ⟨hM3, rfl, rfl, rfl⟩ := hq
 refine ReachG.segR (SC_ok r3) TOk.nil (tm := .nil) (L := 1) (L' := 1) (d := 1) (n0 := 0) hF hro h0' [] (on := ⟨lvZ2, [], fun vs ms os => vs = [some (RS bp op m 0), some (I (n : Nat)), some (RS bo oo n 0), some (I ((x + 1 : Nat) : Int))] ∧ ms = [] ∧ os = []⟩) (ox := fun _ => Outs.no) (orr := Outs.no) (fun p hp => nomatch hp) ?_ (fun vs ms os h => IsG.here ⟨n - (x + 1), by omega, x + 1, c, rfl, hM3, h⟩) (fun _ _ _ _ h => h.elim) (fun _ _ _ h => h.elim)
 have hn' := ztL r3 bp op m n bo oo x
 simp only [Int.ofNat_eq_natCast] at hn'
 rw [w1z x (by omega)] at hn'
 exact (hn' _ _ _ _).trans (qq_ok ⟨rfl, rfl, rfl⟩)
end
end Go.Proofs
namespace Go.Proofs
open Go Go.Ev Go.Num
theorem reachG_thenZ {P : Program} {m n : Nat} {F : Fence} {k : Nat} {γ0 : Gam} {W0 : World} {c : Code} {r : Mem} {st : St} {o1 o2 : OutsG} {ox : Nat → OutsG} {orr : OutsG} (h : ReachG P m n F k γ0 W0 c r st (CanG P m n γ0 W0 o1 (fun _ => OutsG.no) OutsG.no)) (hq : ∀ r vs ms os, o1.Q r vs ms os → IsG P m n γ0 W0 o2 r (St.of o1.lv vs ms os)) : ReachG P m n F k γ0 W0 c r st (CanG P m n γ0 W0 o2 ox orr) :=
 ReachG.mono h fun ex r1 st h => by
  cases ex with
  | normal => exact isG_trans h hq
  | exit id =>
   intro γ' a W' hs hb
   obtain ⟨_, _, _, _, _, hf, _⟩ := h γ' a W' hs hb
   exact hf.elim
  | ret =>
   intro γ' a W' hs hb
   obtain ⟨_, _, _, _, _, hf, _⟩ := h γ' a W' hs hb
   exact hf.elim
  | _ => exact h
theorem TabC.tabMZ {r r1 : Mem} (hle : Mem.le r r1) {c : List Value} {T : List (List Bool)} (hT : TabC r c T) {b o : Nat} (hrow : ∀ k u, c[k]? = some u → r1 b (o + k) = some u) : TabM r1 b o T := fun i l hl => by
 have hi : i < T.length := (List.getElem?_eq_some_iff.1 hl).1
 obtain ⟨v, hv⟩ : ∃ v, c[i]? = some v := ⟨_, List.getElem?_eq_getElem (by rw [hT.1]; exact hi)⟩
 exact ⟨v, hrow _ _ hv, (hT.2 i v l hv hl).mono hle⟩
theorem tZc_ok {r : Mem} {bp op m : Nat} {T : List (List Bool)} (hp : TabM r bp op T) (hTl : T.length = m) (hm : m ≤ 1000) {e : Int} (he : e = (if ckO T then 0 else 100)) : TOk (SC r) (tZc (RS bp op m 0) e) := by
 refine TOk.nil.cons (EOk.ent fun args A hgd => ?_)
 have hs := @of_decide_eq_true _ (Classical.propDecidable _) hgd
 subst hs
 subst he
 exact (og_ok hp hTl hm).ro rfl A
def OrdM (r1 : Mem) (v : Value) : Prop := ∃ bo oo T, v = RS bo oo T.length 0 ∧ 1 ≤ T.length ∧ T.length ≤ 14 ∧ TabM r1 bo oo T ∧ ckO T = true
def qZt (r : Mem) : OutsG := ⟨[2], fun r1 vs ms os => ∃ v, Mem.le r r1 ∧ OrdM r1 v ∧ vs = [some v] ∧ ms = [] ∧ os = []⟩
theorem zt_ok {r : Mem} {b off n cap : Nat} (h1 : 1 ≤ n) (hin : ∀ i, i < min n 14 → ∃ u, r b (off + i) = some u ∧ ArgRow r 1 ArgBool u) : SOkG Tryz.prog r 7 [RS b off n cap] emptyA fun v A r1 => Mem.le r r1 ∧ A = mkA [] ∧ OrdM r1 v := by
 refine callOG SC_ok (by kernel_rfl) ((bodySC r _).trans Zt_eq) (nt := 136) (by kernel_rfl) (rs := [.tmp 2]) (by kernel_rfl) mZt rfl (qZt r) ?_ fun γ W F kk hwr hF hro h0' => ?_
 ·rintro r1 vs ms os ⟨v, hle, ⟨bo, oo, T, rfl, hT⟩, rfl, rfl, rfl⟩
  exact ⟨_, mkA [], by kernel_rfl, hle, rfl, bo, oo, T, rfl, hT⟩
 have h0' : ∀ i, 0 ≤ i → γ i = none := h0'
 have hTl := inTab_len r b off (min n 14)
 refine ReachG.seqC (o1 := ⟨[0], fun r1 vs ms os => r1 = r ∧ vs = [some (RS b off n cap)] ∧ ms = [] ∧ os = []⟩) (ReachG.segR (SC_ok r) TOk.nil (tm := .nil) (L := 1) (L' := 1) (d := 1) (n0 := 0) hF hro h0' [] (on := ⟨[0], [], fun vs ms os => vs = [some (RS b off n cap)] ∧ ms = [] ∧ os = []⟩) (ox := fun _ => Outs.no) (orr := Outs.no) (fun p hp => nomatch hp) ?_ (fun vs ms os h => IsG.here ⟨rfl, h⟩) (fun _ _ _ _ h => h.elim) (fun _ _ _ h => h.elim)) fun r1 vs ms os hq => ?_
 ·exact (ztA r b off n cap _ _ _ _).trans (qq_ok ⟨rfl, rfl, rfl⟩)
 obtain ⟨rfl, rfl, rfl, rfl⟩ := hq
 refine ReachG.seqC (o1 := ⟨[3], fun r2 vs ms os => ∃ bp op, Mem.le r1 r2 ∧ TabM r2 bp op (inTab r1 b off (min n 14)) ∧ vs = [some (RS bp op (min n 14) 0)] ∧ ms = [] ∧ os = []⟩) ?_ fun r2 vs ms os hq => ?_
 ·refine reachG_thenZ (o1 := ⟨[3], fun r2 vs ms os => ms = [] ∧ Mem.le r1 r2 ∧ ∃ c, vs = [some (gwT 0 (min n 14))] ∧ os = [oTb c 0] ∧ TabC r2 c (inTab r1 b off (min n 14)) ∧ m_nns c = true⟩) (ReachG.callC (fl := []) SC_ok hF h0' TOk.nil (tm := .nil) (L := 1) (d := 1) 1 (s1 := (enZ (RS b off n cap)).1) (b1 := (enZ (RS b off n cap)).2) (ms1 := []) (A1 := mkA []) (A2 := emptyA) (i := 29) (args := [RS b off n cap]) ?_ (by kernel_rfl) (ta_ok h1 hin) ?_) fun r2 vs ms os h => ?_
  ·exact (ztB r1 b off n cap _ _).trans (qn_ok rfl)
  ·rintro v A' r2 ⟨hle, c, rfl, rfl, hT, hc⟩
   refine ⟨fun _ => none, TOk.nil, .nil, 1, 1, ?_⟩
   have hn' := ztC r2 b off n cap (min n 14) c
   simp only [hc, Bool.and_true, cond_true] at hn'
   exact (hn' _ _).trans (qq_ok ⟨rfl, hle, c, rfl, rfl, hT, hc⟩)
  ·obtain ⟨rfl, hle, c, rfl, rfl, hT, hc⟩ := h
   refine IsG.freeze (os0 := []) (j := 0) h0' rfl (Nat.zero_le _) rfl hc fun b' o' r3 hle2 hrow => ?_
   have hf := frzU 0 b' o' (min n 14)
   exact ⟨[some (RS b' o' (min n 14) 0)], [], by simp only [frzO, hf], rfl, b', o', Mem.le_trans hle hle2, hT.tabMZ hle2 hrow, rfl, rfl, rfl⟩
 obtain ⟨bp, op, hle2, hp, rfl, rfl, rfl⟩ := hq
 have hm : min n 14 ≤ 1000 := by omega
 by_cases hck : ckO (inTab r1 b off (min n 14)) = true
 ·refine ReachG.seqC (o1 := ⟨[3], fun _ _ _ _ => False⟩) (ReachG.segR (SC_ok r2) (tZc_ok hp hTl hm (e := 0) (by rw [hck]; rfl)) (tm := .nil) (L := 1) (L' := 1) (d := 1) (n0 := 0) hF hro h0' [] (on := ⟨[3], [], fun _ _ _ => False⟩) (ox := fun _ => Outs.no) (orr := ⟨[2], [], fun vs ms os => vs = [some (RS bp op (min n 14) 0)] ∧ ms = [] ∧ os = []⟩) (fun p hp => nomatch hp) ?_ (fun vs ms os h => h.elim) (fun _ _ _ _ h => h.elim) ?_) fun r3 vs ms os hq => hq.elim
  ·have hn' := ztD0 r2 bp op (min n 14)
   simp only [svv_rfl, cond_true] at hn'
   exact (hn' _ _ _).trans (qq_ok ⟨rfl, rfl, rfl⟩)
  ·rintro vs ms os ⟨rfl, rfl, rfl⟩
   exact IsG.here ⟨_, hle2, ⟨bp, op, inTab r1 b off (min n 14), by rw [hTl], by rw [hTl]; omega, by rw [hTl]; omega, hp, hck⟩, rfl, rfl, rfl⟩
 refine ReachG.seqC (o1 := ⟨[3], fun r3 vs ms os => r3 = r2 ∧ vs = [some (RS bp op (min n 14) 0)] ∧ ms = [] ∧ os = []⟩) (ReachG.segR (SC_ok r2) (tZc_ok hp hTl hm (e := 100) (by rw [if_neg hck])) (tm := .nil) (L := 1) (L' := 1) (d := 1) (n0 := 0) hF hro h0' [] (on := ⟨[3], [], fun vs ms os => vs = [some (RS bp op (min n 14) 0)] ∧ ms = [] ∧ os = []⟩) (ox := fun _ => Outs.no) (orr := ⟨[2], [], fun _ _ _ => False⟩) (fun p hp => nomatch hp) ?_ (fun vs ms os h => IsG.here ⟨rfl, h⟩) (fun _ _ _ _ h => h.elim) (fun _ _ _ h => h.elim)) fun r3 vs ms os hq => ?_
 ·have hn' := ztD100 r2 bp op (min n 14)
  simp only [svv_rfl, cond_true] at hn'
  exact (hn' _ _ _).trans (qq_ok ⟨rfl, rfl, rfl⟩)
 obtain ⟨rfl, rfl, rfl, rfl⟩ := hq
 obtain ⟨q, hqe⟩ : ∃ q, q = 1 + min n 14 % 12 := ⟨_, rfl⟩
 have hq1 : 1 ≤ q := by omega
 have hq12 : q ≤ 12 := by omega
 have hw : IntKind.wrap .i64 (1 + Int.tmod (min n 14 : Nat) 12) = (q : Nat) := by
  have e1 : Int.tmod ((min n 14 : Nat) : Int) 12 = ((min n 14 % 12 : Nat) : Int) := rfl
  rw [e1]
  have e2 : (1 : Int) + ((min n 14 % 12 : Nat) : Int) = ((q : Nat) : Int) := by omega
  rw [e2]
  exact wrI (by omega)
 refine ReachG.seqC (o1 := ⟨[3, 4], fun r4 vs ms os => r4 = r3 ∧ vs = [some (RS bp op (min n 14) 0), some (I (q : Nat))] ∧ ms = [] ∧ os = []⟩) (ReachG.segR (SC_ok r3) TOk.nil (tm := .nil) (L := 1) (L' := 1) (d := 1) (n0 := 0) hF hro h0' [] (on := ⟨[3, 4], [], fun vs ms os => vs = [some (RS bp op (min n 14) 0), some (I (q : Nat))] ∧ ms = [] ∧ os = []⟩) (ox := fun _ => Outs.no) (orr := Outs.no) (fun p hp => nomatch hp) ?_ (fun vs ms os h => IsG.here ⟨rfl, h⟩) (fun _ _ _ _ h => h.elim) (fun _ _ _ h => h.elim)) fun r4 vs ms os hq => ?_
 ·have hn' := ztE r3 bp op (min n 14)
  simp only [Int.ofNat_eq_natCast] at hn'
  simp only [show ((1 : Nat) : Int) = 1 from rfl, show ((12 : Nat) : Int) = 12 from rfl, hw] at hn'
  exact (hn' _ _ _ _).trans (qq_ok ⟨rfl, rfl, rfl⟩)
 obtain ⟨rfl, rfl, rfl, rfl⟩ := hq
 refine ReachG.seqC (o1 := ⟨[3, 4, 5], fun r5 vs ms os => r5 = r4 ∧ vs = [some (RS bp op (min n 14) 0), some (I (q : Nat)), some nilT] ∧ ms = [] ∧ os = []⟩) (ReachG.segR (SC_ok r4) TOk.nil (tm := .nil) (L := 1) (L' := 1) (d := 1) (n0 := 0) hF hro h0' [] (on := ⟨[3, 4, 5], [], fun vs ms os => vs = [some (RS bp op (min n 14) 0), some (I (q : Nat)), some nilT] ∧ ms = [] ∧ os = []⟩) (ox := fun _ => Outs.no) (orr := Outs.no) (fun p hp => nomatch hp) ((ztF r4 bp op (min n 14) q _ _ _ _).trans (qq_ok ⟨rfl, rfl, rfl⟩)) (fun vs ms os h => IsG.here ⟨rfl, h⟩) (fun _ _ _ _ h => h.elim) (fun _ _ _ h => h.elim)) fun r5 vs ms os hq => ?_
 obtain ⟨rfl, rfl, rfl, rfl⟩ := hq
 refine ReachG.seqC (o1 := ⟨[3, 4, 5], fun r6 vs ms os => ∃ bo oo bk ok, MatM γ W r5 r6 bo oo q bk ok (fun _ _ => false) ∧ vs = [some (RS bp op (min n 14) 0), some (I (q : Nat)), some (RS bo oo q 0)] ∧ ms = [] ∧ os = []⟩) (ReachG.seqC (o1 := ⟨lvZ0, fun r6 vs ms os => r6 = r5 ∧ vs = vZ0 (RS bp op (min n 14) 0) nilT q 0 ∧ ms = [] ∧ os = []⟩) (ReachG.segR (SC_ok r5) TOk.nil (tm := .nil) (L := 1) (L' := 1) (d := 1) (n0 := 0) hF hro h0' [] (on := ⟨lvZ0, [], fun vs ms os => vs = vZ0 (RS bp op (min n 14) 0) nilT q 0 ∧ ms = [] ∧ os = []⟩) (ox := fun _ => Outs.no) (orr := Outs.no) (fun p hp => nomatch hp) ((ztG r5 bp op (min n 14) q _ _ _ _).trans (qq_ok ⟨rfl, rfl, rfl⟩)) (fun vs ms os h => IsG.here ⟨rfl, h⟩) (fun _ _ _ _ h => h.elim) (fun _ _ _ h => h.elim)) fun r6 vs ms os hq => ?_) fun r6 vs ms os hq => ?_
 ·obtain ⟨rfl, rfl, rfl, rfl⟩ := hq
  exact zv_x hq1 hq12 hF hro h0'
 obtain ⟨bo, oo, bk, ok, hM6, rfl, rfl, rfl⟩ := hq
 refine ReachG.seqC (o1 := ⟨[4, 5], fun r7 vs ms os => (∃ M', RankOk q M' ∧ MatM γ W r5 r7 bo oo q bk ok M') ∧ vs = [some (I (q : Nat)), some (RS bo oo q 0)] ∧ ms = [] ∧ os = []⟩) (ReachG.seqC (o1 := ⟨lvZ2, fun r7 vs ms os => r7 = r6 ∧ vs = [some (RS bp op (min n 14) 0), some (I (q : Nat)), some (RS bo oo q 0), some (I (0 : Nat))] ∧ ms = [] ∧ os = []⟩) (ReachG.segR (SC_ok r6) TOk.nil (tm := .nil) (L := 1) (L' := 1) (d := 1) (n0 := 0) hF hro h0' [] (on := ⟨lvZ2, [], fun vs ms os => vs = [some (RS bp op (min n 14) 0), some (I (q : Nat)), some (RS bo oo q 0), some (I (0 : Nat))] ∧ ms = [] ∧ os = []⟩) (ox := fun _ => Outs.no) (orr := Outs.no) (fun p hp => nomatch hp) ((ztI r6 bp op (min n 14) q bo oo _ _ _ _).trans (qq_ok ⟨rfl, rfl, rfl⟩)) (fun vs ms os h => IsG.here ⟨rfl, h⟩) (fun _ _ _ _ h => h.elim) (fun _ _ _ h => h.elim)) fun r7 vs ms os hq => ?_) fun r7 vs ms os hq => ?_
 ·obtain ⟨rfl, rfl, rfl, rfl⟩ := hq
  exact zu_x hq1 hq12 hp hTl hm hF hro h0' (RankOk.none q) hM6
 obtain ⟨⟨M', hR7, hM7⟩, rfl, rfl, rfl⟩ := hq
 refine ReachG.seqC (o1 := ⟨[5], fun r8 vs ms os => (∃ M', RankOk q M' ∧ TrP q M' ∧ MatM γ W r5 r8 bo oo q bk ok M') ∧ vs = [some (RS bo oo q 0)] ∧ ms = [] ∧ os = []⟩) (ReachG.seqC (o1 := ⟨lvZ6, fun r8 vs ms os => r8 = r7 ∧ vs = vZ6 (RS bo oo q 0) q 0 ∧ ms = [] ∧ os = []⟩) (ReachG.segR (SC_ok r7) TOk.nil (tm := .nil) (L := 1) (L' := 1) (d := 1) (n0 := 0) hF hro h0' [] (on := ⟨lvZ6, [], fun vs ms os => vs = vZ6 (RS bo oo q 0) q 0 ∧ ms = [] ∧ os = []⟩) (ox := fun _ => Outs.no) (orr := Outs.no) (fun p hp => nomatch hp) ((ztM r7 bo oo q _ _ _ _).trans (qq_ok ⟨rfl, rfl, rfl⟩)) (fun vs ms os h => IsG.here ⟨rfl, h⟩) (fun _ _ _ _ h => h.elim) (fun _ _ _ h => h.elim)) fun r8 vs ms os hq => ?_) fun r8 vs ms os hq => ?_
 ·obtain ⟨rfl, rfl, rfl, rfl⟩ := hq
  exact zt_z hq12 hR7 hF hro h0' hM7
 obtain ⟨⟨M8, hR8, hT8, hM8⟩, rfl, rfl, rfl⟩ := hq
 have hl8 := tbM_len M8 q
 refine ReachG.segR (SC_ok r8) TOk.nil (tm := .nil) (L := 1) (L' := 1) (d := 1) (n0 := 0) hF hro h0' [] (on := ⟨[2], [], fun _ _ _ => False⟩) (ox := fun _ => Outs.no) (orr := ⟨[2], [], fun vs ms os => vs = [some (RS bo oo q 0)] ∧ ms = [] ∧ os = []⟩) (fun p hp => nomatch hp) ((ztT r8 bo oo q _ _ _ _).trans (qq_ok ⟨rfl, rfl, rfl⟩)) (fun vs ms os h => h.elim) (fun _ _ _ _ h => h.elim) ?_
 rintro vs ms os ⟨rfl, rfl, rfl⟩
 exact IsG.here ⟨_, Mem.le_trans hle2 hM8.le, ⟨bo, oo, tbM M8 q, by rw [hl8], by rw [hl8]; exact hq1, by rw [hl8]; omega, hM8.tab hq1, tbM_ck hq1 hq12 hR8 hT8⟩, rfl, rfl, rfl⟩
theorem zt_end {P : Program} {r : Mem} {γ : Gam} {W : World} (h0' : ∀ i, 0 ≤ i → γ i = none) {m n : Nat} : ∀ vs ms os, vs = [some (gwT 0 1)] ∧ ms = [] ∧ os = [oTb [.slice (some ⟨1, 0, none⟩) 1 1] 0, oBo [.bool false] 1] → IsG P m n γ W (qZt r) r (St.of [2] vs ms os) := by
 rintro vs ms os ⟨rfl, rfl, rfl⟩
 refine isG_trans (o1 := ⟨[2], fun r1 vs ms os => Mem.le r r1 ∧ ∃ b1 o1, r1 b1 (o1 + 0) = some (.bool false) ∧ vs = [some (gwT 0 1)] ∧ ms = [] ∧ os = [oTb [RS b1 o1 1 1] 0]⟩) (IsG.freeze (os0 := [oTb [.slice (some ⟨1, 0, none⟩) 1 1] 0]) (j := 1) h0' rfl (Nat.zero_le _) rfl rfl fun b' o' r2 hle hrow => ?_) ?_
 ·refine ⟨[some (gwT 0 1)], [oTb [RS b' o' 1 1] 0], rfl, ?_, hle, b', o', hrow 0 _ rfl, rfl, rfl, rfl⟩
  have e1 : frzVs 1 b' o' [.slice (some ⟨1, 0, none⟩) 1 1] = some [RS b' o' 1 1] := frzVs_one _ _ _ _ _ (frzZ 1 b' o' 1 (by unfold unk; omega))
  unfold oTb
  simp only [frzAs, frzA, e1]
 ·rintro r1 vs ms os ⟨hle, b1, o1, h1, rfl, rfl, rfl⟩
  refine IsG.freeze (os0 := []) (j := 0) h0' rfl (Nat.zero_le _) rfl rfl fun b' o' r2 hle2 hrow => ?_
  have hf := frzU 0 b' o' 1
  refine ⟨[some (RS b' o' 1 0)], [], by simp only [frzO, hf], rfl, _, Mem.le_trans hle hle2, ⟨b', o', [[false]], rfl, Nat.le_refl _, by decide, ?_, by decide⟩, rfl, rfl, rfl⟩
  intro i l hl
  match i, hl with
  | 0, hl =>
   cases hl
   exact ⟨_, hrow 0 _ rfl, .inr ⟨by decide, b1, o1, 1, rfl, fun j x hx => by
    match j, hx with
    | 0, hx => cases hx; exact hle2 _ _ _ h1⟩⟩
theorem zt_nil {r : Mem} : SOkG Tryz.prog r 7 [nilT] emptyA fun v A r1 => Mem.le r r1 ∧ A = mkA [] ∧ OrdM r1 v := by
 refine callOG SC_ok (by kernel_rfl) (c := cZt) (bodySC r _) (nt := 136) (by kernel_rfl) (rs := [.tmp 2]) (by kernel_rfl) mZt rfl (qZt r) ?_ fun γ W F kk hwr hF hro h0' => ?_
 ·rintro r1 vs ms os ⟨v, hle, ⟨bo, oo, T, rfl, hT⟩, rfl, rfl, rfl⟩
  exact ⟨_, mkA [], by kernel_rfl, hle, rfl, bo, oo, T, rfl, hT⟩
 have h0' : ∀ i, 0 ≤ i → γ i = none := h0'
 exact ReachG.segR (SC_ok r) TOk.nil (tm := .nil) (L := 3) (L' := 3) (d := 8) (n0 := 0) hF hro h0' [] (on := ⟨[2], [], fun _ _ _ => False⟩) (ox := fun _ => Outs.no) (orr := ⟨[2], [.t, .t], fun vs ms os => vs = [some (gwT 0 1)] ∧ ms = [] ∧ os = [oTb [.slice (some ⟨1, 0, none⟩) 1 1] 0, oBo [.bool false] 1]⟩) (fun p hp => nomatch hp) ((ztX r _ _ _).trans (qq_ok ⟨rfl, rfl, rfl⟩)) (fun vs ms os h => h.elim) (fun _ _ _ _ h => h.elim) (zt_end h0')
theorem zt_emp {r : Mem} {b off cap : Nat} : SOkG Tryz.prog r 7 [RS b off 0 cap] emptyA fun v A r1 => Mem.le r r1 ∧ A = mkA [] ∧ OrdM r1 v := by
 refine callOG SC_ok (by kernel_rfl) (c := cZt) (bodySC r _) (nt := 136) (by kernel_rfl) (rs := [.tmp 2]) (by kernel_rfl) mZt rfl (qZt r) ?_ fun γ W F kk hwr hF hro h0' => ?_
 ·rintro r1 vs ms os ⟨v, hle, ⟨bo, oo, T, rfl, hT⟩, rfl, rfl, rfl⟩
  exact ⟨_, mkA [], by kernel_rfl, hle, rfl, bo, oo, T, rfl, hT⟩
 have h0' : ∀ i, 0 ≤ i → γ i = none := h0'
 exact ReachG.segR (SC_ok r) TOk.nil (tm := .nil) (L := 3) (L' := 3) (d := 8) (n0 := 0) hF hro h0' [] (on := ⟨[2], [], fun _ _ _ => False⟩) (ox := fun _ => Outs.no) (orr := ⟨[2], [.t, .t], fun vs ms os => vs = [some (gwT 0 1)] ∧ ms = [] ∧ os = [oTb [.slice (some ⟨1, 0, none⟩) 1 1] 0, oBo [.bool false] 1]⟩) (fun p hp => nomatch hp) ((ztY r b off cap _ _ _).trans (qq_ok ⟨rfl, rfl, rfl⟩)) (fun vs ms os h => h.elim) (fun _ _ _ _ h => h.elim) (zt_end h0')
end Go.Proofs
namespace Go.Proofs
open Go Go.Ev Go.Num
theorem ArgRow.moreT {r r' : Mem} (hle : ∀ b j u, r b j = some u → r' b j = some u) {u : Value} (h : ArgRow r 1 ArgBool u) : ArgRow r' 1 ArgBool u := by
 cases h with
 | nil => exact .nil
 | empty => exact .empty
 | row b off len cap hl hc h =>
  refine .row b off len cap hl hc fun i hi => ?_
  obtain ⟨u, h1, h2⟩ := h i hi
  exact ⟨u, hle _ _ _ h1, h2⟩
def TameK (r : Mem) (L : Value) : Prop := ∀ r', (∀ b j u, r b j = some u → r' b j = some u) → SOkG Tryz.prog r' 7 [L] emptyA fun v A r1 => Mem.le r' r1 ∧ A = mkA [] ∧ OrdM r1 v
theorem tameK_n {r : Mem} : TameK r nilT := fun r' _ => zt_nil
theorem tameK_r {r : Mem} {b off n cap : Nat} (hl : n ≤ cap) (h : ∀ i, i < cap * 1 → ∃ u, r b (off + i) = some u ∧ ArgRow r 1 ArgBool u) : TameK r (RS b off n cap) := fun r' hle => by
 by_cases n0 : n = 0
 ·subst n0
  exact zt_emp
 ·refine zt_ok (by omega) fun i hi => ?_
  obtain ⟨u, h1, h2⟩ := h i (by omega)
  exact ⟨u, hle _ _ _ h1, ArgRow.moreT hle h2⟩
noncomputable def eVv (a0 : List Value) (v : Value) : Ent := ent (fun args _ => m_svv args a0) fun _ _ => v
theorem eVv_ok {r : Mem} {f : Nat} {a0 : List Value} {v : Value} (ha : roVs a0 = true) (h : GrT Tryz.prog r f a0 v) : EOk (SC r) f (eVv a0 v) := EOk.ent fun args A hgd => by
 have hs := @of_decide_eq_true _ (Classical.propDecidable _) hgd
 subst hs
 exact h.ro ha A
section
variable {r : Mem} {f m n : Nat} {L : Value} {c0 c1 c2 : Code} {p : Nat}
theorem tame_law (hbody : bodyOf S0 f = .seq c0 (.seq c1 c2)) (hb : hasBody (SC r) f = true) (hnt : ntm (SC r) f = n) (hrs : resOf (SC r) f = [.tmp 2]) (hle : Nat.ble [L].length n = true) (hL : ∀ b o, frzV 0 b o L = some L)
  (hA : ∀ (fs : FnsC) (K : KO) (kx : Nat → KS) (kr : KS), run (SC r) m n 1 c0 fs none (rbK 0 [0] [] K) kx kr (sc0 m [L]) (tr0 m [L]) [] emptyA = K [some L] [] [])
  (hB : ∀ (fs : FnsC) (K : KS), preK (SC r) m n c1 1 fs K [] (bT [0] [some L] .nil) [] (mkA []) = K [(p, L)] (bT [0] [some L] .nil) [] (mkA []))
  (hY : callAtG (SC r) m c1 1 ⟨[(p, L)], bT [0] [some L] .nil⟩ (mkA []) = some (7, [L], emptyA))
  (hC : ∀ (r : Mem) (bp op k : Nat) (fs : FnsC) (K : KO), tailK (SC r) m n c1 1 fs (rbK 0 [3] [] K) (RS bp op k 0) [(p, L)] (bT [0] [some L] .nil) [] (mkA []) = K [some (RS bp op k 0)] [] [])
  (hfin : ∀ r1, finish (Cfg.sym Tryz.prog r1) m [.tmp 2] (St.of [2] [some (.bool true)] [] []) = .ret (.bool true) (mkA []))
  (htm : TameK r L)
  (hD : ∀ (r2 : Mem) (bp op : Nat) (T : List (List Bool)) (γ : Gam) (W : World) (F : Fence) (kk : Nat), Wide F → RoRel γ none F.round → (∀ i, 0 ≤ i → γ i = none) → TabM r2 bp op T → ckO T = true → Mem.le r r2 → ReachG Tryz.prog m n F kk γ W c2 r2 (St.of [3] [some (RS bp op T.length 0)] [] []) (CanG Tryz.prog m n γ W ⟨[2], fun r1 vs ms os => vs = [some (.bool true)] ∧ ms = [] ∧ os = []⟩ (fun _ => OutsG.no) ⟨[2], fun r1 vs ms os => vs = [some (.bool true)] ∧ ms = [] ∧ os = []⟩)) : GrT Tryz.prog r f [L] (.bool true) := by
 refine SOkG.grT rfl rfl (S := fun _ _ _ => True) (callOG SC_ok hb ((bodySC r _).trans hbody) (nt := n) hnt (rs := [.tmp 2]) hrs m hle ⟨[2], fun r1 vs ms os => vs = [some (.bool true)] ∧ ms = [] ∧ os = []⟩ ?_ fun γ W F kk hwr hF hro h0' => ?_)
 ·rintro r1 vs ms os ⟨rfl, rfl, rfl⟩
  exact ⟨_, mkA [], hfin r1, rfl⟩
 have h0' : ∀ i, 0 ≤ i → γ i = none := h0'
 refine ReachG.seqC (o1 := ⟨[0], fun r1 vs ms os => r1 = r ∧ vs = [some L] ∧ ms = [] ∧ os = []⟩) (ReachG.segR (SC_ok r) TOk.nil (tm := .nil) (L := 1) (L' := 1) (d := 1) (n0 := 0) hF hro h0' [] (on := ⟨[0], [], fun vs ms os => vs = [some L] ∧ ms = [] ∧ os = []⟩) (ox := fun _ => Outs.no) (orr := Outs.no) (fun p hp => nomatch hp) ((hA _ _ _ _).trans (qq_ok ⟨rfl, rfl, rfl⟩)) (fun vs ms os h => IsG.here ⟨rfl, h⟩) (fun _ _ _ _ h => h.elim) (fun _ _ _ h => h.elim)) fun r1 vs ms os hq => ?_
 obtain ⟨rfl, rfl, rfl, rfl⟩ := hq
 refine ReachG.seqC (o1 := ⟨[3], fun r2 vs ms os => ∃ bp op T, TabM r2 bp op T ∧ ckO T = true ∧ Mem.le r1 r2 ∧ vs = [some (RS bp op T.length 0)] ∧ ms = [] ∧ os = []⟩) (ReachG.callC (fl := []) SC_ok hF h0' TOk.nil (tm := .nil) (L := 1) (d := 1) 1 (s1 := [(p, L)]) (b1 := bT [0] [some L] .nil) (ms1 := []) (A1 := mkA []) (A2 := emptyA) (i := 7) (args := [L]) ((hB _ _).trans (qn_ok rfl)) hY (htm r1 fun _ _ _ h => h) ?_) fun r2 vs ms os hq => ?_
 ·rintro v A' r2 ⟨hle, rfl, bp, op, T, rfl, hT1, hT14, hTM, hck⟩
  exact ⟨fun _ => none, TOk.nil, .nil, 1, 1, (hC r2 bp op T.length _ _).trans (qq_ok ⟨bp, op, T, hTM, hck, hle, rfl, rfl, rfl⟩)⟩
 obtain ⟨bp, op, T, hTM, hck, hle2, rfl, rfl, rfl⟩ := hq
 exact hD r2 bp op T γ W F kk hF hro h0' hTM hck hle2
end
end Go.Proofs
namespace Go.Proofs
open Go Go.Ev Go.Num
noncomputable def tTw (m : Nat) (w a : Nat → Nat) (v : Value) : Tbl := tcons 35 (eVv [.agg ⟨orC m w a⟩] v) fun _ => none
noncomputable def tTt (s : Value) (m : Nat) (w a : Nat → Nat) (v : Value) : Tbl := tcons 31 (eRd s m w a) (tTw m w a v)
noncomputable def eN2 (a0 : List Value) (k : Nat) (c : List Value) : Ent := ⟨fun args _ => m_svv args a0, fun _ _ => true, fun _ A => .slice (some ⟨A.next, 0, none⟩) k k, fun _ A => A.new (.cells c 71 A.next 2), fun _ _ => undef, fun _ A => A⟩
noncomputable def tIn0 (s : Value) (m : Nat) (w a : Nat → Nat) : Tbl := tcons 31 (eRd s m w a) (tcons 33 (eVv [.agg ⟨orC m w a⟩] (.bool false)) fun _ => none)
noncomputable def tIn1 (s : Value) (m : Nat) (w a : Nat → Nat) (c : List Value) : Tbl := tcons 31 (eRd s m w a) (tcons 33 (eVv [.agg ⟨orC m w a⟩] (.bool true)) (tcons 34 (eN2 [.agg ⟨orC m w a⟩] m c) fun _ => none))
theorem hiA (r : Mem) (m : Nat) (w a : Nat → Nat) (x : Nat → Int) (v : Bool) : (lvlT (SC r) (tTw m w a (.tuple ⟨[x4 x, .bool v]⟩)) .nil 1 2).call 33 [.agg ⟨orC m w a⟩] emptyA fin =
    bif m_svv [.agg ⟨(orC m w a)⟩] [.agg ⟨(orC m w a)⟩] then bif v then .ret (.bool false) (AW.mk 0 .nil .nil) else .ret (.bool true) (AW.mk 0 .nil .nil) else F4 := by kernel_rfl
theorem ttA (r : Mem) (b off n cap m : Nat) (w a : Nat → Nat) (x : Nat → Int) (v : Bool) : (lvlT (SC r) (tTt (RS b off n cap) m w a (.tuple ⟨[x4 x, .bool v]⟩)) .nil 1 2).call 10 [RS b off n cap] emptyA fin =
    bif m_svv [.slice (some ⟨b, off, some 0⟩) n cap] [.slice (some ⟨b, off, some 0⟩) n cap] then bif m_svv [.agg ⟨(orC m w a)⟩] [.agg ⟨(orC m w a)⟩] then bif v then .ret (.tuple ⟨[.agg ⟨[I (x 0), I (x 1), I (x 2), I (x 3)]⟩, .bool true, I (Int.ofNat 0)]⟩) (AW.mk 0 .nil .nil) else .ret (.tuple ⟨[.agg ⟨[I (x 0), I (x 1), I (x 2), I (x 3)]⟩, .bool false, I (Int.ofNat 0)]⟩) (AW.mk 0 .nil .nil) else F4 else F4 := by kernel_rfl
theorem inA (r : Mem) (b off n cap m : Nat) (w a : Nat → Nat) : (lvlT (SC r) (tIn0 (RS b off n cap) m w a) .nil 1 2).call 9 [RS b off n cap] emptyA fin =
    bif m_svv [.slice (some ⟨b, off, some 0⟩) n cap] [.slice (some ⟨b, off, some 0⟩) n cap] then bif m_svv [.agg ⟨(orC m w a)⟩] [.agg ⟨(orC m w a)⟩] then .ret (.tuple ⟨[.slice none 0 0, I (Int.ofNat 4)]⟩) (AW.mk 0 .nil .nil) else F4 else F4 := by kernel_rfl
theorem inB (r : Mem) (b off n cap m : Nat) (w a : Nat → Nat) (c : List Value) (K : Value → AW → CR) : (lvlT (SC r) (tIn1 (RS b off n cap) m w a c) .nil 1 2).call 9 [RS b off n cap] emptyA K =
    bif m_svv [.slice (some ⟨b, off, some 0⟩) n cap] [.slice (some ⟨b, off, some 0⟩) n cap] then bif m_svv [.agg ⟨(orC m w a)⟩] [.agg ⟨(orC m w a)⟩] then bif m_svv [.agg ⟨(orC m w a)⟩] [.agg ⟨(orC m w a)⟩] then K (.tuple ⟨[.slice (some ⟨1, 0, none⟩) m m, I (Int.ofNat 0)]⟩) (AW.mk 2 (.node (.node .nil (some (.cells c 71 1 2)) .nil) (some (.cells (orC m w a) 59 0 0)) .nil) .nil) else F4 else F4 else F4 := by kernel_rfl
section
variable {r : Mem} {b off n cap : Nat} {T : List (List Bool)}
theorem clW_lt (hn : T.length ≤ 12) : ∀ j, clW T j < 4096 := fun j => lt12 hn (clO_lt T j T.length)
theorem hi_ok (hmt : ∀ b j u, tabM b j = some u → r b j = some u) {m : Nat} {w a : Nat → Nat} (hw : ∀ j, w j < 4096) (h1 : 1 ≤ m) (hm : m ≤ 12) : GrT Tryz.prog r 33 [.agg ⟨orC m w a⟩] (.bool (!(twO w m).isSome)) := by
 have h := tw_okS (a := a) hmt hw h1 hm
 generalize (twO w m).isSome = v at h
 refine GrT.of (SC_ok r) (t := tTw m w a (.tuple ⟨[x4 (twV w m), .bool v]⟩)) (TOk.nil.cons (eVv_ok rfl h)) .nil rfl ⟨1, 2, ?_⟩
 have hn' := hiA r m w a (twV w m) v
 simp only [svv_rfl, cond_true] at hn'
 refine hn'.trans ?_
 cases v <;> rfl
theorem tt_ok (hmt : ∀ b j u, tabM b j = some u → r b j = some u) (hM : TabM r b off T) (hn : T.length = n) (hc : ckO T = true) : GrT Tryz.prog r 10 [RS b off n cap] (.tuple ⟨[x4 (twV (clW T) n), .bool (twO (clW T) n).isSome, I 0]⟩) := by
 have hl := ck_len hc
 have h := tw_okS (a := wA T n 0) hmt (clW_lt hl.2) (show 1 ≤ n by omega) (show n ≤ 12 by omega)
 generalize (twO (clW T) n).isSome = v at h
 refine GrT.of (SC_ok r) (t := tTt (RS b off n cap) n (clW T) (wA T n 0) (.tuple ⟨[x4 (twV (clW T) n), .bool v]⟩)) ((TOk.nil.cons (eVv_ok rfl h)).cons (eRd_okS hmt hM hn hc)) .nil rfl ⟨1, 2, ?_⟩
 have hn' := ttA r b off n cap n (clW T) (wA T n 0) (twV (clW T) n) v
 simp only [svv_rfl, cond_true] at hn'
 refine hn'.trans ?_
 cases v <;> rfl
theorem in_no (hmt : ∀ b j u, tabM b j = some u → r b j = some u) (hM : TabM r b off T) (hn : T.length = n) (hc : ckO T = true) (h2 : (twO (clW T) n).isSome = true) : GrT Tryz.prog r 9 [RS b off n cap] (.tuple ⟨[nilT, I 4]⟩) := by
 have hl := ck_len hc
 have h := hi_ok (a := wA T n 0) hmt (clW_lt hl.2) (show 1 ≤ n by omega) (show n ≤ 12 by omega)
 rw [h2] at h
 refine GrT.of (SC_ok r) (t := tIn0 (RS b off n cap) n (clW T) (wA T n 0)) ((TOk.nil.cons (eVv_ok rfl h)).cons (eRd_okS hmt hM hn hc)) .nil rfl ⟨1, 2, ?_⟩
 have hn' := inA r b off n cap n (clW T) (wA T n 0)
 simp only [svv_rfl, cond_true] at hn'
 exact hn'.trans rfl
theorem eN2_ok {f k : Nat} {a0 : List Value} {c : List Value} (ha0 : roVs a0 = true) (hgc : gnds c = true) (h : SOk (SC r) f a0 emptyA fun v A => v = gy 0 k ∧ A = mkA [oP2 c 0]) : EOk (SC r) f (eN2 a0 k c) := fun args A hgd F hF kk γ W args' hw hR ha => by
 refine ⟨fun hcc => ?_, fun h => nomatch h⟩
 have hs := @of_decide_eq_true _ (Classical.propDecidable _) hgd
 subst hs
 have hg : GrM Tryz.prog r f args (gy 0 k) (rowA c 71 2) := GrM.ofS (C := SC r) rfl rfl h
 have hof : ofV 0 (gy 0 k) = true := by simp [ofV, of1]
 exact hg.ends (γ := γ) (A := A) hof hgc hF hw (hR.noG noG fun _ => rfl) (ha.of_ros ha0) ha
theorem in_yes (hmt : ∀ b j u, tabM b j = some u → r b j = some u) (hM : TabM r b off T) (hn : T.length = n) (hc : ckO T = true) (h2 : (twO (clW T) n).isSome = false) : GrM Tryz.prog r 9 [RS b off n cap] (.tuple ⟨[gy 0 n, I 0]⟩) (rowA (ixN (ciZ (clW T) n) (2 * n)) 71 2) := by
 have hl := ck_len hc
 have h := hi_ok (a := wA T n 0) hmt (clW_lt hl.2) (show 1 ≤ n by omega) (show n ≤ 12 by omega)
 rw [h2] at h
 have hi := iv_S (r := r) (a := wA T n 0) (clW_lt hl.2) (show 1 ≤ n by omega) (show n ≤ 12 by omega)
 exact GrM.of (SC_ok r) (t := tIn1 (RS b off n cap) n (clW T) (wA T n 0) (ixN (ciZ (clW T) n) (2 * n))) (((TOk.nil.cons (eN2_ok rfl (ix_gnd _ _) hi)).cons (eVv_ok rfl h)).cons (eRd_okS hmt hM hn hc)) .nil ⟨1, 2, by
  rw [inB]
  simp only [svv_rfl, cond_true]
  unfold finM rowOf rowsOf row1
  have hb : Nat.beq n 0 = false := natFx (by omega)
  have hg : gnds (ixN (ciZ (clW T) n) (2 * n)) = true := ix_gnd _ _
  simp only [hb, Bool.and_false]
  show guardK (gnds (ixN (ciZ (clW T) n) (2 * n))) _ = _
  rw [hg]
  rfl⟩
end
end Go.Proofs
namespace Go.Proofs
open Go Go.Ev Go.Num
theorem twJ_no {w : Nat → Nat} {b : Nat} : ∀ {k : Nat}, twJ w b k = none → ∀ d, d < k → twI w b d = false
 | k + 1, h, d, hd => by
  rw [twJ] at h
  cases q : twJ w b k with
  | some e => rw [q] at h; cases h
  | none =>
   rw [q] at h
   by_cases c : d = k
   ·subst c
    cases q2 : twI w b d with
    | false => rfl
    | true => simp only [q2, cond_true] at h; cases h
   ·exact twJ_no q d (by omega)
theorem twO_no {w : Nat → Nat} : ∀ {n : Nat}, twO w n = none → ∀ b d, b < n → d < b → twI w b d = false
 | n + 1, h, b, d, hb, hd => by
  rw [twO] at h
  cases q : twO w n with
  | some e => rw [q] at h; cases h
  | none =>
   rw [q] at h
   by_cases c : b = n
   ·subst c
    cases q2 : twJ w b b with
    | some e => simp only [q2] at h; cases h
    | none => exact twJ_no q2 d hd
   ·exact twO_no q b d (by omega) hd
theorem twJ_yes {w : Nat → Nat} {b d : Nat} : ∀ {k : Nat}, twJ w b k = some d → d < k ∧ twI w b d = true
 | k + 1, h => by
  rw [twJ] at h
  cases q : twJ w b k with
  | some e =>
   rw [q] at h
   cases h
   have := twJ_yes q
   exact ⟨by omega, this.2⟩
  | none =>
   rw [q] at h
   cases q2 : twI w b k with
   | false => simp only [q2, cond_false] at h; cases h
   | true =>
    simp only [q2, cond_true] at h
    cases h
    exact ⟨by omega, q2⟩
theorem twO_yes {w : Nat → Nat} {b d : Nat} : ∀ {n : Nat}, twO w n = some (b, d) → b < n ∧ d < b ∧ twI w b d = true
 | n + 1, h => by
  rw [twO] at h
  cases q : twO w n with
  | some e =>
   rw [q] at h
   cases h
   have := twO_yes q
   exact ⟨by omega, this.2⟩
  | none =>
   rw [q] at h
   cases q2 : twJ w n n with
   | none => simp only [q2] at h; cases h
   | some e =>
    simp only [q2] at h
    cases h
    have := twJ_yes q2
    exact ⟨by omega, this⟩
theorem anN_ne {a b : Nat} (h : anN a b = 0) (i : Nat) (ha : a.testBit i = true) : b.testBit i = true := in_bit.1 (an_zero.1 h) i ha
section
variable {T : List (List Bool)}
theorem clW_b {x y : Nat} (hx : x < T.length) : (clW T y).testBit x = gT T x y := by rw [clW_bit, dT hx, Bool.true_and]
theorem clW_t {x y : Nat} (h : (clW T y).testBit x = true) : x < T.length ∧ gT T x y = true := by
 rw [clW_bit, Bool.and_eq_true, decide_eq_true_eq] at h
 exact h
theorem twI_of {a b c d : Nat} (h1 : gT T a b = true) (h2 : gT T c d = true) (h3 : gT T a d = false) (h4 : gT T c b = false) (ha : a < T.length) (hc : c < T.length) : twI (clW T) b d = true := by
 unfold twI
 rw [beq_ne, beq_ne, Bool.and_eq_true, decide_eq_true_eq, decide_eq_true_eq]
 refine ⟨fun h => ?_, fun h => ?_⟩
 ·have := anN_ne h a (by rw [clW_b ha]; exact h1)
  rw [clW_b ha, h3] at this
  cases this
 ·have := anN_ne h c (by rw [clW_b hc]; exact h2)
  rw [clW_b hc, h4] at this
  cases this
theorem twF_iff {a b c d : Nat} : twF T a b c d = true ↔ (a < T.length ∧ b < T.length ∧ c < T.length ∧ d < T.length) ∧ gT T a b = true ∧ gT T c d = true ∧ gT T a d = false ∧ gT T c b = false := by
 unfold twF twB
 rw [Bool.and_eq_true, insB_iff]
 simp only [Int.toNat_natCast, Bool.and_eq_true, Bool.not_eq_true']
 constructor
 ·rintro ⟨⟨⟨_, h1⟩, ⟨_, h2⟩, ⟨_, h3⟩, _, h4⟩, h5, h6, h7, h8⟩
  exact ⟨⟨by omega, by omega, by omega, by omega⟩, h5, h6, h7, h8⟩
 ·rintro ⟨⟨h1, h2, h3, h4⟩, h5, h6, h7, h8⟩
  exact ⟨⟨⟨by omega, by omega⟩, ⟨by omega, by omega⟩, ⟨by omega, by omega⟩, by omega, by omega⟩, h5, h6, h7, h8⟩
theorem tw_four {b d : Nat} (hn : T.length ≤ 12) (h : twO (clW T) T.length = some (b, d)) : twB T (twV (clW T) T.length) = true := by
 obtain ⟨h1, h2, h3⟩ := twO_yes h
 have hw := clW_lt hn
 unfold twI at h3
 rw [beq_ne, beq_ne, Bool.and_eq_true, decide_eq_true_eq, decide_eq_true_eq] at h3
 have e1 : anN (clW T b) (clW T d) < 2 ^ 16 := an_lt (by have := hw b; omega)
 have e2 : anN (clW T d) (clW T b) < 2 ^ 16 := an_lt (by have := hw d; omega)
 have t1 := (tz_bit 16 _ e1 h3.1).2
 have t2 := (tz_bit 16 _ e2 h3.2).2
 generalize ha : tzN 16 (anN (clW T b) (clW T d)) = a at t1
 generalize hc : tzN 16 (anN (clW T d) (clW T b)) = c at t2
 have t1 := t1.1
 have t2 := t2.1
 rw [an_bit, Bool.and_eq_true, Bool.not_eq_true'] at t1 t2
 obtain ⟨a1, a2⟩ := clW_t t1.1
 obtain ⟨c1, c2⟩ := clW_t t2.1
 have a3 := t1.2
 have c3 := t2.2
 rw [clW_b a1] at a3
 rw [clW_b c1] at c3
 have hF : twF T a b c d = true := twF_iff.2 ⟨⟨a1, h1, c1, by omega⟩, a2, c2, a3, c3⟩
 unfold twF at hF
 have e : twB T (twV (clW T) T.length) = twB T fun i => match i with | 0 => (a : Nat) | 1 => (b : Nat) | 2 => (c : Nat) | _ => (d : Nat) := by
  have v : twV (clW T) T.length = fun i => match i with | 0 => (a : Nat) | 1 => (b : Nat) | 2 => (c : Nat) | _ => (d : Nat) := by
   subst ha
   subst hc
   funext i
   unfold twV
   rw [h]
   rcases i with _ | _ | _ | i <;> rfl
  rw [v]
 rw [e]
 exact hF
theorem tw_has (hn : T.length ≤ 12) : hX T (twF T) T.length T.length = (twO (clW T) T.length).isSome := by
 cases h : twO (clW T) T.length with
 | none =>
  have hno := twO_no h
  cases q : hX T (twF T) T.length T.length with
  | false => rfl
  | true =>
   exfalso
   unfold hX hY hZ at q
   obtain ⟨a, ha, q⟩ := orN_iff.1 q
   obtain ⟨b, hb, q⟩ := orN_iff.1 q
   rw [Bool.and_eq_true] at q
   obtain ⟨c, hc, q2⟩ := orN_iff.1 q.2
   obtain ⟨d, hd, q2⟩ := orN_iff.1 q2
   obtain ⟨_, h1, h2, h3, h4⟩ := twF_iff.1 q2
   rcases Nat.lt_trichotomy b d with e | e | e
   ·have := hno d b hd e
    rw [twI_of h2 h1 h4 h3 hc ha] at this
    cases this
   ·subst e
    rw [h1] at h3
    cases h3
   ·have := hno b d hb e
    rw [twI_of h1 h2 h3 h4 ha hc] at this
    cases this
 | some p =>
  obtain ⟨b, d⟩ := p
  obtain ⟨h1, h2, h3⟩ := twO_yes h
  have hB := tw_four hn h
  unfold twB at hB
  rw [Bool.and_eq_true, insB_iff] at hB
  obtain ⟨⟨x0, x1, x2, x3⟩, hB⟩ := hB
  have hF : twF T (twV (clW T) T.length 0).toNat (twV (clW T) T.length 1).toNat (twV (clW T) T.length 2).toNat (twV (clW T) T.length 3).toNat = true := by
   refine twF_iff.2 ⟨⟨by omega, by omega, by omega, by omega⟩, ?_⟩
   simp only [Bool.and_eq_true, Bool.not_eq_true'] at hB
   exact hB
  show hX T (twF T) T.length T.length = true
  unfold hX hY hZ
  refine orN_iff.2 ⟨(twV (clW T) T.length 0).toNat, by omega, orN_iff.2 ⟨(twV (clW T) T.length 1).toNat, by omega, ?_⟩⟩
  rw [Bool.and_eq_true]
  exact ⟨(twF_iff.1 hF).2.1, orN_iff.2 ⟨(twV (clW T) T.length 2).toNat, by omega, orN_iff.2 ⟨(twV (clW T) T.length 3).toNat, by omega, hF⟩⟩⟩
end
theorem idK_eq {L : List Nat} {s : Nat} (hnd : L.Nodup) (hs : s ∈ L) : ∀ k, k ≤ L.length → idK L s k = if L.idxOf s < k then L.idxOf s else 0
 | 0, _ => rfl
 | k + 1, hk => by
  have ih := idK_eq hnd hs k (by omega)
  have hi : L.idxOf s < L.length := List.idxOf_lt_length_of_mem hs
  have hg : L[L.idxOf s] = s := List.getElem_idxOf hi
  have e : L.getD k 0 = L[k] := by simp [show k < L.length by omega]
  rw [idK, ih, e]
  by_cases c : L[k] = s
  ·have hk2 : k = L.idxOf s := (List.getElem_inj hnd).1 (by rw [hg]; exact c)
   rw [c, Nat.beq_refl, cond_true, if_pos (by omega)]
   exact hk2
  ·have hk2 : k ≠ L.idxOf s := fun e => c (by subst e; exact hg)
   rw [natFx c, cond_false]
   by_cases d : L.idxOf s < k
   ·rw [if_pos d, if_pos (by omega)]
   ·rw [if_neg d, if_neg (by omega)]
theorem rtK_ind {L : List Nat} {x i0 i1 : Nat} : ∀ {k : Nat}, (∃ j, j < k ∧ (L.getD j 0).testBit x = false) → rtK L x i0 k = rtK L x i1 k
 | 0, ⟨_, h, _⟩ => absurd h (by omega)
 | k + 1, ⟨j, hj, hb⟩ => by
  rw [rtK, rtK]
  cases q : (L.getD k 0).testBit x with
  | false => rfl
  | true =>
   simp only [cond_true]
   refine rtK_ind ⟨j, ?_, hb⟩
   by_cases c : j = k
   ·subst c; rw [hb] at q; cases q
   ·omega
theorem ci_same {T : List (List Bool)} (hc : ckO T = true) : ixN (ciR (clW T) T.length) (2 * T.length) = ixN (ciZ (clW T) T.length) (2 * T.length) := by
 refine ix_ext fun j hj => ?_
 have hx' : j / 2 < T.length := by omega
 unfold ciR ciZ lfZ rtZ
 generalize j / 2 = x at hx' ⊢
 have hx := hx'
 have hmem : clW T x ∈ rsN (clW T) T.length := rsN_mem.2 ⟨x, hx, rfl⟩
 have hi : (rsN (clW T) T.length).idxOf (clW T x) < (rsN (clW T) T.length).length := List.idxOf_lt_length_of_mem hmem
 have hg : (rsN (clW T) T.length)[(rsN (clW T) T.length).idxOf (clW T x)] = clW T x := List.getElem_idxOf hi
 by_cases c : j % 2 = 0
 ·rw [if_pos c, if_pos c, idK_eq (rsN_nodup _ _) hmem _ (Nat.le_refl _), if_pos hi]
 ·rw [if_neg c, if_neg c]
  rw [rtK_ind (i0 := 0) (i1 := (rsN (clW T) T.length).idxOf (clW T x)) ⟨(rsN (clW T) T.length).idxOf (clW T x), hi, ?_⟩]
  have e : (rsN (clW T) T.length).getD ((rsN (clW T) T.length).idxOf (clW T x)) 0 = clW T x := by
   rw [List.getD_eq_getElem?_getD, List.getElem?_eq_getElem hi, hg]; rfl
  rw [e, clW_b hx]
  exact (ck_row hc hx).2
end Go.Proofs
namespace Go.Proofs
open Go Go.Ev Go.Num
noncomputable def cLi : Code := bodyOf S0 3
noncomputable def Li_0 : Code := lc cLi
noncomputable def Li_1 : Code := lc (rc cLi)
noncomputable def Li_2 : Code := rc (rc cLi)
theorem Li_eq : cLi = .seq Li_0 (.seq Li_1 Li_2) := by kernel_rfl
def mLi : Nat := 4093
noncomputable def tAwI : Tbl := tcons 15 (e0 (.bool true)) fun _ => none
noncomputable def tLi (P : Value) (k : Int) (t : Value) (h3 : Bool) (bb : Bool) (tb : Tbl) : Tbl := tcons 8 (eVv [P] (.tuple ⟨[I k, I 0]⟩)) (tcons 12 (eVv [P] (I k)) (tcons 10 (eVv [P] t) (tcons 11 (eVv [P] (.tuple ⟨[.bool bb, .bool h3]⟩)) tb)))
noncomputable def tLi2 (P : Value) (k : Int) (h3 : Bool) (x : Nat → Int) : Tbl := tcons 9 (eVv [P] (.tuple ⟨[nilT, I 4]⟩)) (tLi P k (.tuple ⟨[x4 x, .bool true, I 0]⟩) h3 true (tcons 13 (eV [P, x4 x] true) (tcons 14 (eV [P, x4 x] true) tAwI)))
noncomputable def eI2n (a0 : List Value) (k : Nat) (c : List Value) : Ent := ⟨fun args _ => m_svv args a0, fun _ _ => true, fun _ A => .tuple ⟨[.slice (some ⟨A.next, 0, none⟩) k k, I 0]⟩, fun _ A => A.new (.cells c 71 A.next 2), fun _ _ => undef, fun _ A => A⟩
noncomputable def eN2u (a0 : List Value) (k : Nat) (c : List Value) : Ent := ⟨fun args _ => m_svv args a0, fun _ _ => true, fun _ A => .slice (some ⟨A.next, 0, none⟩) k unk, fun _ A => A.new (.cells c 71 A.next 2), fun _ _ => undef, fun _ A => A⟩
noncomputable def m_pq (n : Nat) (c : List Value) (l z : Nat) (ci : List Value) (l2 z2 : Nat) (cj : List Value) : Bool := @decide (l = n ∧ l2 = n ∧ z ≠ unkE ∧ z2 ≠ unkE ∧ ci = c ∧ cj = c) (Classical.propDecidable _)
noncomputable def ePq (n : Nat) (c : List Value) : Ent := ent (fun args A => match args with
 | [.slice (some ⟨i, 0, none⟩) l z, .slice (some ⟨j, 0, none⟩) l2 z2] => match A.heap.get i, A.heap.get j with
  | some (.cells ci _ _ _), some (.cells cj _ _ _) => m_pq n c l z ci l2 z2 cj
  | _, _ => false
 | _ => false) fun _ _ => .bool true
def z4i : Value := .agg ⟨[I 0, I 0, I 0, I 0]⟩
noncomputable def tLi0 (P : Value) (k : Int) (h3 : Bool) (n : Nat) (c : List Value) : Tbl := tcons 9 (eI2n [P] n c) (tcons 17 (eN2u [P] n c) (tcons 16 (ePq n c) (tLi P k (.tuple ⟨[z4i, .bool false, I 0]⟩) h3 false tAwI)))
theorem liAn (r : Mem) (fs : FnsC) (K : KO) (kx : Nat → KS) (kr : KS) : run (SC r) mLi 90 1 Li_0 fs none (rbK 0 [0] [] K) kx kr (sc0 mLi [nilT]) (tr0 mLi [nilT]) [] emptyA =
    K [some (.slice none 0 0)] [] [] := by kernel_rfl
theorem liAr (r : Mem) (b off n cap : Nat) (fs : FnsC) (K : KO) (kx : Nat → KS) (kr : KS) : run (SC r) mLi 90 1 Li_0 fs none (rbK 0 [0] [] K) kx kr (sc0 mLi [RS b off n cap]) (tr0 mLi [RS b off n cap]) [] emptyA =
    K [some (.slice (some ⟨b, off, some 0⟩) n cap)] [] [] := by kernel_rfl
theorem liBn (r : Mem) (fs : FnsC) (K : KS) : preK (SC r) mLi 90 Li_1 1 fs K [] (bT [0] [some nilT] .nil) [] (mkA []) =
    K [(13, .slice none 0 0)] (.node .nil (some (.slice none 0 0)) .nil) [] (AW.mk 0 .nil .nil) := by kernel_rfl
theorem liBr (r : Mem) (b off n cap : Nat) (fs : FnsC) (K : KS) : preK (SC r) mLi 90 Li_1 1 fs K [] (bT [0] [some (RS b off n cap)] .nil) [] (mkA []) =
    K [(13, .slice (some ⟨b, off, some 0⟩) n cap)] (.node .nil (some (.slice (some ⟨b, off, some 0⟩) n cap)) .nil) [] (AW.mk 0 .nil .nil) := by kernel_rfl
theorem liCn (r : Mem) (bp op m : Nat) (fs : FnsC) (K : KO) : tailK (SC r) mLi 90 Li_1 1 fs (rbK 0 [3] [] K) (RS bp op m 0) [(13, nilT)] (bT [0] [some nilT] .nil) [] (mkA []) =
    K [some (.slice (some ⟨bp, op, some 0⟩) m 0)] [] [] := by kernel_rfl
theorem liCr (r : Mem) (b off n cap bp op m : Nat) (fs : FnsC) (K : KO) : tailK (SC r) mLi 90 Li_1 1 fs (rbK 0 [3] [] K) (RS bp op m 0) [(13, RS b off n cap)] (bT [0] [some (RS b off n cap)] .nil) [] (mkA []) =
    K [some (.slice (some ⟨bp, op, some 0⟩) m 0)] [] [] := by kernel_rfl
theorem liD (r : Mem) (bp op m : Nat) (k : Int) (h3 : Bool) (x : Nat → Int) (K : KS) (kx : Nat → KS) (KR : KO) : run (SC r) mLi 90 1 Li_2 (lvlT (SC r) (tLi2 (RS bp op m 0) k h3 x) .nil 1 1) none K kx (rbK 0 [2] [] KR) [] (bT [3] [some (RS bp op m 0)] .nil) [] (mkA []) =
    bif m_svv [.slice (some ⟨bp, op, some 0⟩) m 0] [.slice (some ⟨bp, op, some 0⟩) m 0] then bif m_svv [.slice (some ⟨bp, op, some 0⟩) m 0] [.slice (some ⟨bp, op, some 0⟩) m 0] then bif m_svv [.slice (some ⟨bp, op, some 0⟩) m 0] [.slice (some ⟨bp, op, some 0⟩) m 0] then bif m_svv [.slice (some ⟨bp, op, some 0⟩) m 0] [.slice (some ⟨bp, op, some 0⟩) m 0] then bif h3 then bif m_svv [.slice (some ⟨bp, op, some 0⟩) m 0] [.slice (some ⟨bp, op, some 0⟩) m 0] then bif k != k then KR [some (.bool false)] [] [] else bif m_svv [.slice (some ⟨bp, op, some 0⟩) m 0, .agg ⟨[I (x 0), I (x 1), I (x 2), I (x 3)]⟩] [.slice (some ⟨bp, op, some 0⟩) m 0, .agg ⟨[I (x 0), I (x 1), I (x 2), I (x 3)]⟩] then bif m_svv [.slice (some ⟨bp, op, some 0⟩) m 0, .agg ⟨[I (x 0), I (x 1), I (x 2), I (x 3)]⟩] [.slice (some ⟨bp, op, some 0⟩) m 0, .agg ⟨[I (x 0), I (x 1), I (x 2), I (x 3)]⟩] then KR [some (.bool true)] [] [] else F4 else F4 else F4 else bif m_svv [.slice (some ⟨bp, op, some 0⟩) m 0] [.slice (some ⟨bp, op, some 0⟩) m 0] then bif k != k then KR [some (.bool false)] [] [] else bif m_svv [.slice (some ⟨bp, op, some 0⟩) m 0, .agg ⟨[I (x 0), I (x 1), I (x 2), I (x 3)]⟩] [.slice (some ⟨bp, op, some 0⟩) m 0, .agg ⟨[I (x 0), I (x 1), I (x 2), I (x 3)]⟩] then bif m_svv [.slice (some ⟨bp, op, some 0⟩) m 0, .agg ⟨[I (x 0), I (x 1), I (x 2), I (x 3)]⟩] [.slice (some ⟨bp, op, some 0⟩) m 0, .agg ⟨[I (x 0), I (x 1), I (x 2), I (x 3)]⟩] then KR [some (.bool true)] [] [] else F4 else F4 else F4 else F4 else F4 else F4 else F4 := by kernel_rfl
theorem liE (r : Mem) (bp op m : Nat) (k : Int) (h3 : Bool) (c : List Value) (K : KS) (kx : Nat → KS) (KR : KO) : run (SC r) mLi 90 1 Li_2 (lvlT (SC r) (tLi0 (RS bp op m 0) k h3 m c) .nil 1 1) none K kx (rbK 0 [2] [] KR) [] (bT [3] [some (RS bp op m 0)] .nil) [] (mkA []) =
    bif m_svv [.slice (some ⟨bp, op, some 0⟩) m 0] [.slice (some ⟨bp, op, some 0⟩) m 0] then bif m_svv [.slice (some ⟨bp, op, some 0⟩) m 0] [.slice (some ⟨bp, op, some 0⟩) m 0] then bif m_svv [.slice (some ⟨bp, op, some 0⟩) m 0] [.slice (some ⟨bp, op, some 0⟩) m 0] then bif m_svv [.slice (some ⟨bp, op, some 0⟩) m 0] [.slice (some ⟨bp, op, some 0⟩) m 0] then bif h3 then bif m_svv [.slice (some ⟨bp, op, some 0⟩) m 0] [.slice (some ⟨bp, op, some 0⟩) m 0] then bif k != k then KR [some (.bool false)] [] [] else bif m_svv [.slice (some ⟨bp, op, some 0⟩) m 0] [.slice (some ⟨bp, op, some 0⟩) m 0] then bif m_pq m c m m c m unk c then KR [some (.bool true)] [] [] else F4 else F4 else F4 else bif m_svv [.slice (some ⟨bp, op, some 0⟩) m 0] [.slice (some ⟨bp, op, some 0⟩) m 0] then bif k != k then KR [some (.bool false)] [] [] else bif m_svv [.slice (some ⟨bp, op, some 0⟩) m 0] [.slice (some ⟨bp, op, some 0⟩) m 0] then bif m_pq m c m m c m unk c then KR [some (.bool true)] [] [] else F4 else F4 else F4 else F4 else F4 else F4 else F4 := by kernel_rfl
end Go.Proofs
namespace Go.Proofs
open Go Go.Ev
def mskH : Tr Nat := (.node (.node (.node (.node (.node (.node (.node (.node .nil (some 3103) .nil) (some 479) .nil) none (.node .nil (some 23) .nil)) (some 49119) (.node (.node (.node .nil (some 0) .nil) (some 19) .nil) (some 12351) (.node .nil (some 5) .nil))) (some 65533) (.node (.node (.node (.node .nil (some 0) .nil) (some 12885957631) .nil) (some 61) (.node .nil (some 783) .nil)) (some 1021) (.node (.node .nil (some 23) .nil) (some 19) (.node .nil (some 783) .nil)))) (some 4093) (.node (.node (.node (.node (.node .nil (some 3103) .nil) (some 33557567) .nil) none (.node .nil (some 5) .nil)) none (.node (.node (.node .nil (some 0) .nil) (some 5) .nil) (some 7) (.node .nil (some 5) .nil))) (some 4093) (.node (.node (.node (.node .nil (some 0) .nil) none .nil) (some 23) (.node .nil (some 775) .nil)) (some 455) (.node (.node .nil (some 1971) .nil) (some 115) (.node .nil (some 775) .nil))))) none (.node (.node (.node (.node (.node (.node .nil (some 271) .nil) (some 458877) .nil) (some 23) (.node .nil (some 183) .nil)) (some 253) (.node (.node (.node .nil (some 0) .nil) (some 19) .nil) (some 511) (.node .nil (some 2096159) .nil))) (some 61) (.node (.node (.node (.node .nil (some 0) .nil) (some 7351) .nil) (some 13) (.node .nil (some 7943) .nil)) (some 13) (.node (.node .nil (some 435) .nil) (some 115) (.node .nil (some 7943) .nil)))) (some 131031) (.node (.node (.node (.node (.node .nil (some 0) .nil) (some 2013) .nil) (some 59) (.node .nil (some 39) .nil)) (some 27) (.node (.node .nil (some 5) .nil) (some 51) (.node .nil (some 271) .nil))) (some 27) (.node (.node (.node (.node .nil (some 0) .nil) (some 71) .nil) none (.node .nil (some 7199) .nil)) (some 61) (.node (.node .nil (some 11) .nil) (some 5) (.node .nil (some 7199) .nil)))))) none (.node (.node (.node (.node (.node (.node (.node .nil (some 3103) .nil) (some 79) .nil) (some 415) (.node .nil (some 16607) .nil)) (some 51) (.node (.node (.node .nil (some 0) .nil) (some 5) .nil) (some 71) (.node .nil (some 5) .nil))) (some 61) (.node (.node (.node (.node .nil (some 0) .nil) (some 7) .nil) (some 125) (.node .nil (some 7951) .nil)) (some 51) (.node (.node .nil (some 1567) .nil) (some 493) (.node .nil (some 7951) .nil)))) (some 131069) (.node (.node (.node (.node (.node .nil (some 0) .nil) (some 28895) .nil) (some 253) (.node .nil (some 19) .nil)) (some 61) (.node (.node .nil (some 5) .nil) none (.node .nil (some 5) .nil))) (some 5) (.node (.node (.node (.node .nil (some 0) .nil) (some 435) .nil) (some 17) (.node .nil (some 7951) .nil)) (some 71) (.node (.node .nil (some 25166847) .nil) (some 19) (.node .nil (some 7951) .nil))))) none (.node (.node (.node (.node (.node (.node .nil (some 4159) .nil) none .nil) (some 117900287) (.node .nil (some 2096159) .nil)) (some 125) (.node (.node (.node .nil (some 0) .nil) (some 43) .nil) (some 946866127) (.node .nil (some 3103) .nil))) none (.node (.node (.node (.node .nil (some 0) .nil) (some 7) .nil) (some 115) (.node .nil (some 36028797018996495) .nil)) (some 123) (.node (.node .nil (some 23) .nil) (some 5) (.node .nil (some 36028797018996495) .nil)))) (some 33554429) (.node (.node (.node (.node (.node .nil (some 0) .nil) (some 29) .nil) (some 511) (.node .nil (some 23) .nil)) (some 455) (.node (.node .nil (some 5) .nil) (some 7) (.node .nil (some 4159) .nil))) (some 123) (.node (.node (.node (.node .nil (some 0) .nil) (some 5) .nil) none (.node .nil (some 15391) .nil)) (some 253) (.node (.node .nil (some 7) .nil) (some 29) (.node .nil (some 15391) .nil)))))))
noncomputable abbrev CC (r : Mem) : Cfg := Cfg.ofRo Tryz.prog r
theorem CC_ok (r : Mem) : (CC r).Ok := Cfg.ofRo_ok evMixed evNames r
noncomputable def tSF : Tbl := tcons 53 eSF fun _ => none
theorem tSF_ok (r : Mem) : TOk (CC r) tSF := (show TOk (SC r) tSF from TOk.nil.cons (eSF_ok r))
end Go.Proofs
namespace Go.Proofs
open Go Go.Ev
theorem awake10 : GrT Tryz.prog tabM 15 [] (.bool true) := GrT.of (CC_ok tabM) (tSF_ok tabM) mskH rfl ⟨1000, 40, by kernel_rfl⟩
end Go.Proofs
namespace Go.Proofs
open Go Go.Ev Go.Num
section
variable {r : Mem} {b off n cap : Nat} {T : List (List Bool)}
theorem eI2n_ok {f k : Nat} {a0 : List Value} {c : List Value} (hk : k ≠ 0) (ha0 : roVs a0 = true) (hgc : gnds c = true) (hg : GrM Tryz.prog r f a0 (.tuple ⟨[gy 0 k, I 0]⟩) (rowA c 71 2)) : EOk (SC r) f (eI2n a0 k c) := fun args A hgd F hF kk γ W args' hw hR ha => by
 refine ⟨fun hcc => ?_, fun h => nomatch h⟩
 have hs := @of_decide_eq_true _ (Classical.propDecidable _) hgd
 subst hs
 have hof : ofV 0 (.tuple ⟨[gy 0 k, I 0]⟩) = true := by simp [ofV, of1, gnd]
 exact hg.ends (γ := γ) (A := A) hof hgc hF hw (hR.noG noG fun _ => rfl) (ha.of_ros ha0) ha
theorem eN2u_ok {f k : Nat} {a0 : List Value} {c : List Value} (ha0 : roVs a0 = true) (hgc : gnds c = true) (h : SOk (SC r) f a0 emptyA fun v A => v = gx 0 k ∧ A = mkA [oP2 c 0]) : EOk (SC r) f (eN2u a0 k c) := fun args A hgd F hF kk γ W args' hw hR ha => by
 refine ⟨fun hcc => ?_, fun h => nomatch h⟩
 have hs := @of_decide_eq_true _ (Classical.propDecidable _) hgd
 subst hs
 have hg : GrM Tryz.prog r f args (gx 0 k) (rowA c 71 2) := GrM.ofS (C := SC r) rfl rfl h
 have hof : ofV 0 (gx 0 k) = true := by simp [ofV, of1]
 exact hg.ends (γ := γ) (A := A) hof hgc hF hw (hR.noG noG fun _ => rfl) (ha.of_ros ha0) ha
theorem ePq_ok {z : Nat → Int} (hn : n ≤ 1000) : EOk (SC r) 16 (ePq n (ixN z (2 * n))) := EOk.ent fun args A hgd => by
 split at hgd
 ·rename_i i l z1 j l2 z2
  split at hgd
  ·rename_i ci e f sz cj e' f' sz' hgi hgj
   obtain ⟨rfl, rfl, hz1, hz2, rfl, rfl⟩ := @of_decide_eq_true _ (Classical.propDecidable _) hgd
   refine POk.of rfl fun γ W args' hw hR ha => ?_
   obtain ⟨la⟩ := args'
   cases ha with
   | cons h1 h2 =>
   cases h2 with
   | cons h2 h3 =>
   cases h3
   obtain ⟨b, k', p1, p2⟩ := own_row hw hR (natFx hz1) hgi h1
   obtain ⟨b2, k2, p3, p4⟩ := own_row hw hR (natFx hz2) hgj h2
   exact ⟨memW W, [RS b k' l2 0, RS b2 k2 l2 0], memW_ro W, .cons p1 (.cons p3 .nil), pz_ok (fun j hj => p2 j _ (ix_get hj) rfl) (fun j hj => p4 j _ (ix_get hj) rfl) hn⟩
  ·cases hgd
 ·cases hgd
theorem tLi_ok {t : Value} {h3 bb : Bool} {tb : Tbl} (hmt : ∀ b j u, tabM b j = some u → r b j = some u) (hM : TabM r b off T) (hn : T.length = n) (hc : ckO T = true) (ht : GrT Tryz.prog r 10 [RS b off n cap] t) (hh : GrT Tryz.prog r 11 [RS b off n cap] (.tuple ⟨[.bool bb, .bool h3]⟩)) (htb : TOk (SC r) tb) : TOk (SC r) (tLi (RS b off n cap) ((rsN (clW T) n).length : Nat) t h3 bb tb) :=
 (((htb.cons (eVv_ok rfl hh)).cons (eVv_ok rfl ht)).cons (eVv_ok rfl (rm_ok hM hn hc))).cons (eVv_ok rfl (mg_ok hmt hM hn hc))
theorem lx_all {γ : Gam} {W : World} {F : Fence} {kk : Nat} (haw : ∀ r : Mem, (∀ b j u, tabM b j = some u → r b j = some u) → GrT Tryz.prog r 15 [] (.bool true)) (hF : Wide F) (hro : RoRel γ none F.round) (h0' : ∀ i, 0 ≤ i → γ i = none) (hmt : ∀ b j u, tabM b j = some u → r b j = some u) (hM : TabM r b off T) (hc : ckO T = true) {ox2 : Nat → OutsG} : ReachG Tryz.prog mLi 90 F kk γ W Li_2 r (St.of [3] [some (RS b off T.length 0)] [] []) (CanG Tryz.prog mLi 90 γ W ⟨[2], fun r1 vs ms os => vs = [some (.bool true)] ∧ ms = [] ∧ os = []⟩ ox2 ⟨[2], fun r1 vs ms os => vs = [some (.bool true)] ∧ ms = [] ∧ os = []⟩) := by
 have hl := ck_len hc
 have hta : TOk (SC r) tAwI := TOk.nil.cons (e0_ok (haw r hmt))
 have hh := hs_ok (cap := 0) hM rfl hc
 have ht := tt_ok (cap := 0) hmt hM rfl hc
 rw [tw_has hl.2] at hh
 generalize hX T (thF T) T.length T.length = h3 at hh
 cases hO : twO (clW T) T.length with
 | some p =>
  obtain ⟨pb, pd⟩ := p
  have hB := tw_four hl.2 hO
  have hI := in_no (cap := 0) hmt hM rfl hc (by rw [hO]; rfl)
  have e1 := rf_tw (cap := 0) hM rfl hc (twV (clW T) T.length)
  have e2 := sh_tw (cap := 0) hmt hM rfl hc (twV (clW T) T.length)
  rw [hB] at e1 e2
  rw [hO] at hh ht
  refine ReachG.segR (SC_ok r) (t := tLi2 (RS b off T.length 0) ((rsN (clW T) T.length).length : Nat) h3 (twV (clW T) T.length)) ((tLi_ok hmt hM rfl hc ht hh ((hta.cons (eV_ok rfl e2)).cons (eV_ok rfl e1))).cons (eVv_ok rfl hI)) (tm := .nil) (L := 1) (L' := 1) (d := 1) (n0 := 0) hF hro h0' [] (on := Outs.no) (ox := fun _ => Outs.no) (orr := ⟨[2], [], fun vs ms os => vs = [some (.bool true)] ∧ ms = [] ∧ os = []⟩) (fun p hp => nomatch hp) ?_ (fun _ _ _ h => h.elim) (fun _ _ _ _ h => h.elim) (fun vs ms os h => IsG.here h)
  have hn' := liD r b off T.length ((rsN (clW T) T.length).length : Nat) h3 (twV (clW T) T.length)
  simp only [svv_rfl, neF (show (((rsN (clW T) T.length).length : Nat) : Int) = ((rsN (clW T) T.length).length : Nat) from rfl), cond_true, cond_false] at hn'
  cases h3 <;> exact (hn' _ _ _).trans (qq_ok ⟨rfl, rfl, rfl⟩)
 | none =>
  have hI := in_yes (cap := 0) hmt hM rfl hc (by rw [hO]; rfl)
  have hcn := cn_S (cap := 0) hM rfl hc
  rw [ci_same hc] at hcn
  rw [hO] at hh ht
  have hv : x4 (twV (clW T) T.length) = z4i := by unfold x4 twV; rw [hO]; rfl
  rw [hv] at ht
  refine ReachG.segR (SC_ok r) (t := tLi0 (RS b off T.length 0) ((rsN (clW T) T.length).length : Nat) h3 T.length (ixN (ciZ (clW T) T.length) (2 * T.length))) ((((tLi_ok hmt hM rfl hc ht hh hta).cons (ePq_ok (by omega))).cons (eN2u_ok rfl (ix_gnd _ _) hcn)).cons (eI2n_ok (by omega) rfl (ix_gnd _ _) hI)) (tm := .nil) (L := 1) (L' := 1) (d := 1) (n0 := 0) hF hro h0' [] (on := Outs.no) (ox := fun _ => Outs.no) (orr := ⟨[2], [], fun vs ms os => vs = [some (.bool true)] ∧ ms = [] ∧ os = []⟩) (fun p hp => nomatch hp) ?_ (fun _ _ _ h => h.elim) (fun _ _ _ _ h => h.elim) (fun vs ms os h => IsG.here h)
  have hn' := liE r b off T.length ((rsN (clW T) T.length).length : Nat) h3 (ixN (ciZ (clW T) T.length) (2 * T.length))
  have hpq : m_pq T.length (ixN (ciZ (clW T) T.length) (2 * T.length)) T.length T.length (ixN (ciZ (clW T) T.length) (2 * T.length)) T.length unk (ixN (ciZ (clW T) T.length) (2 * T.length)) = true := @decide_eq_true _ (Classical.propDecidable _) ⟨rfl, rfl, by unfold unkE; omega, by decide, rfl, rfl⟩
  simp only [svv_rfl, neF (show (((rsN (clW T) T.length).length : Nat) : Int) = ((rsN (clW T) T.length).length : Nat) from rfl), hpq, cond_true, cond_false] at hn'
  cases h3 <;> exact (hn' _ _ _).trans (qq_ok ⟨rfl, rfl, rfl⟩)
end
theorem law_intervals (r : Mem) (hm : ∀ b j u, tabM b j = some u → r b j = some u) (u0 : Value) (s0 : ArgRowT r 1 (ArgRow r 1 ArgBool) u0) : GrT Tryz.prog r 3 [u0] (.bool true) := by
 have haw : ∀ r : Mem, (∀ b j u, tabM b j = some u → r b j = some u) → GrT Tryz.prog r 15 [] (.bool true) := fun r h => awake10.more h
 cases s0 with
 | nil => exact tame_law Li_eq (by kernel_rfl) (by kernel_rfl) (by kernel_rfl) rfl (fun _ _ => rfl) (liAn r) (liBn r) (by kernel_rfl) (fun r bp op k => liCn r bp op k) (fun r1 => by kernel_rfl) tameK_n fun r2 bp op T γ W F kk hF hro h0' hM hc hle => lx_all haw hF hro h0' (fun b j u e => hle.sub _ _ _ (hm b j u e)) hM hc
 | row b off n cap hl hc h => exact tame_law Li_eq (by kernel_rfl) (by kernel_rfl) (by kernel_rfl) rfl (fun _ _ => rfl) (liAr r b off n cap) (liBr r b off n cap) (by kernel_rfl) (fun r bp op k => liCr r b off n cap bp op k) (fun r1 => by kernel_rfl) (tameK_r hl h) fun r2 bp op T γ W F kk hF hro h0' hM hc hle => lx_all haw hF hro h0' (fun b j u e => hle.sub _ _ _ (hm b j u e)) hM hc
end Go.Proofs
