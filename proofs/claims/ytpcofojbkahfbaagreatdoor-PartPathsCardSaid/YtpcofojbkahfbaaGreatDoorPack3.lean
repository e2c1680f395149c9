/- What the claim is proved with, part 3: the evaluator and the contracts of the calls. -/
import Derived.Test.YtpcofojbkahfbaaGreatDoorPack2
import Derived.Test.YtpcofojbkahfbaaGreatDoorEvRd
import Derived.Test.YtpcofojbkahfbaaGreatDoorPack1
import Derived.Test.YtpcofojbkahfbaaGreatDoorEvOwn
import Derived.Test.YtpcofojbkahfbaaGreatDoorEvSetB
/- The search for a path, run. -/
namespace Go.Proofs
open Go Go.Ev Go.Num
set_option linter.unusedVariables false
set_option linter.unusedSimpArgs false
set_option maxRecDepth 100000

noncomputable def cPa : Code := bodyOf S0 35
noncomputable def Pa_0 : Code := (lc cPa)
noncomputable def xPa : Code := scB (rc cPa)
noncomputable def Pa_l : Code := lc xPa
noncomputable def Pa_1 : Code := (lc (lc (rc xPa)))
noncomputable def bPa : Code := (ic (ic (rc (lc (rc xPa)))))
noncomputable def Pa_z : Code := rc (rc xPa)
noncomputable def Pa_2 : Code := lc bPa
noncomputable def Pa_c : Code := lc (rc bPa)
noncomputable def yPa : Code := ic (lc (rc (rc bPa)))
noncomputable def Pa_11 : Code := rc (rc (rc bPa))
noncomputable def Pa_3 : Code := lc yPa
noncomputable def Pa_4 : Code := lc (rc yPa)
noncomputable def Pa_5 : Code := lc (rc (rc yPa))
noncomputable def Pa_r : Code := ic (rc (rc (rc yPa)))
noncomputable def k_p1 : Code := rgA Pa_r
noncomputable def k_p2 : Code := rgB Pa_r
noncomputable def bPb : Code := ic k_p2
noncomputable def Pa_7 : Code := lc bPb
noncomputable def Pa_s : Code := ic (rc bPb)
noncomputable def k_p3 : Code := rgA Pa_s
noncomputable def k_p4 : Code := rgB Pa_s
noncomputable def Pa_9 : Code := ic k_p4
theorem Pa_eq : cPa = .seq Pa_0 (.scope (.seq Pa_l (.seq (.seq Pa_1 (.block 0 (.loop (.seq Pa_2 (.seq Pa_c (.seq (.block 1 (.seq Pa_3 (.seq Pa_4 (.seq Pa_5 (.block 2 (.rangeFunc (.tmp 33) #[34] k_p1 k_p2)))))) Pa_11)))))) Pa_z))) := by kernel_rfl
theorem Pb_eq : k_p2 = .block 3 (.seq Pa_7 (.block 4 (.rangeFunc (.tmp 47) #[48] k_p3 k_p4))) := by kernel_rfl
theorem Pc_eq : k_p4 = .block 5 Pa_9 := by kernel_rfl

/-- The edges, as a new row. -/
noncomputable def eOwn (a0 : List Value) (m : Nat) (c : List Value) : Ent := ⟨fun args _ => m_same args a0, fun _ _ => true, fun _ A => .slice (some ⟨A.next, 0, none⟩) m unk, fun _ A => A.new (.cells c 51 A.next 2), fun _ _ => undef, fun _ A => A⟩
noncomputable def tPa (g : List Value) (k : Nat) (d : List Value) : Tbl := tcons 25 (eOwn [.agg ⟨g⟩] k d) fun _ => none
noncomputable def tPz (g : List Value) : Tbl := tcons 25 (entV [.agg ⟨g⟩] (.slice none 0 0)) fun _ => none

def o4 (f0 f1 f2 f3 : Int) (i : Nat) : Option AObj := some (.cells [I f0, I f1, I f2, I f3] 45 i 0)
def oB (b : Bool) (i : Nat) : Option AObj := some (.cells [.bool b] 4 i 0)
def oJ (x : Int) (i : Nat) : Option AObj := some (.cells [I x] 3 i 0)
def oV (x : Int) (i : Nat) : Option AObj := some (.cells [U x] 52 i 0)
abbrev fEc (i : Nat) : Value := .func (.func 53) ⟨[]⟩ ⟨[P0 i]⟩
def lv0 : List Nat := [1, 2, 3, 11, 12, 13]
def v0 (k : Nat) (i : Int) : OV := [some (P0 0), some (P0 1), some (P0 2), some (rowV 3 k), some (I k), some (I i)]
def o0 (g d : List Value) (f0 f1 f2 f3 : Int) (ok : Bool) : OO := [oPg g 0, o4 f0 f1 f2 f3 1, oB ok 2, oRw d 3]
def fl0 : List Fl := [.g, .t, .t, .g]
def lv1 : List Nat := [1, 2, 3, 11, 12, 13, 6, 7, 33]
def v1 (k : Nat) (i : Int) : OV := v0 k i ++ [some (P0 4), some (P0 5), some (fEc 6)]
def o1 (g d : List Value) (f0 f1 f2 f3 : Int) (ok : Bool) (b c s : Int) : OO := o0 g d f0 f1 f2 f3 ok ++ [oJ b 4, oJ c 5, oV s 6]
def fl1 : List Fl := fl0 ++ [.t, .t, .t]
noncomputable def r1 (k : Nat) (i : Int) (st : LoopState) (pend : Option Code) : AObj := .loop st pend 422238234885103 ⟨[], bT lv1 (v1 k i) .nil⟩ 64 #[34] k_p1 k_p2 7
noncomputable def o9 (g d : List Value) (k : Nat) (i : Int) (f0 f1 f2 f3 : Int) (ok : Bool) (b c s : Int) (st : LoopState) (pend : Option Code) : OO := o1 g d f0 f1 f2 f3 ok b c s ++ [some .defd, some (r1 k i st pend)]
def fl9 : List Fl := fl1 ++ [.t, .l lv1]
def lvb : List Nat := [1, 2, 3, 6, 7, 8]
def vb : OV := [some (P0 0), some (P0 1), some (P0 2), some (P0 4), some (P0 5), some (P0 9)]
def lv2 : List Nat := [1, 2, 3, 6, 7, 8, 47]
def v2 : OV := vb ++ [some (fEc 10)]
noncomputable def r2 (st : LoopState) (pend : Option Code) : AObj := .loop st pend 422238234885103 ⟨[], bT lv2 v2 .nil⟩ 64 #[48] k_p3 k_p4 7
noncomputable def oX (a s' : Int) : OO := [oJ a 9, oV s' 10]
noncomputable def o12 (g d : List Value) (k : Nat) (i : Int) (f0 f1 f2 f3 : Int) (ok : Bool) (b c s a s' : Int) (st : LoopState) (pend : Option Code) : OO := o9 g d k i f0 f1 f2 f3 ok b c s .busy none ++ oX a s' ++ [some (r2 st pend)]
def fl12 : List Fl := fl9 ++ [.t, .t, .l lv2]
def lvc : List Nat := [1, 2, 3, 6, 7, 8, 9]

theorem paZ (r : Mem) (n : Int) (w : Nat → Int) : (lvlT (SC r) (tPz (gC n w)) .nil 1 2).call 35 [.agg ⟨gC n w⟩] emptyA fin =
    bif m_same [Value.agg (Array.mk (gC n w))] [Value.agg (Array.mk (gC n w))] then CR.ret (Value.tuple (Array.mk [Value.agg (Array.mk [I (Int.ofNat 0), I (Int.ofNat 0), I (Int.ofNat 0), I (Int.ofNat 0)]), Value.bool false])) (AW.mk 0 Tr.nil Tr.nil) else CR.fail 420 := by kernel_rfl

theorem paA (r : Mem) (n : Int) (w : Nat → Int) (k : Nat) (d : List Value) (K : OV → List Nat → OO → CR) (kx : Nat → KS) (kr : KS) : run (SC r) 422238234885103 64 1 (.seq Pa_0 (.seq Pa_l Pa_1)) (lvlT (SC r) (tPa (gC n w) k d) .nil 1 2) none (rbK 0 lv0 fl0 K) kx kr (sc0 422238234885103 [.agg ⟨gC n w⟩]) (tr0 422238234885103 [.agg ⟨gC n w⟩]) [] emptyA =
    bif m_same [Value.agg (Array.mk (gC n w))] [Value.agg (Array.mk (gC n w))] then bif m_nns (gC n w) && (true && (true && (m_nns d && true))) then K [some (P0 0), some (P0 1), some (P0 2), some (Value.slice (some (Addr.mk 3 0 none)) k 9223372036854775808), some (I (Int.ofNat k)), some (I (Int.ofNat 0))] [] [some (AObj.cells (gC n w) 55 0 0), some (AObj.cells [I (Int.ofNat 0), I (Int.ofNat 0), I (Int.ofNat 0), I (Int.ofNat 0)] 45 1 0), some (AObj.cells [Value.bool false] 4 2 0), some (AObj.cells d 51 3 2)] else CR.fail 420 else CR.fail 420 := by kernel_rfl

theorem paB (r : Mem) (g d : List Value) (k : Nat) (i : Int) (fs : FnsC) (K : OV → List Nat → OO → CR) (KX : Nat → OV → List Nat → OO → CR) (kr : KS) : run (SC r) 422238234885103 64 1 (.seq Pa_2 Pa_c) fs none (rbK 0 lv0 fl0 K) (fun i => rbK 0 [2, 3] [.t, .t] (KX i)) kr [] (bT lv0 (v0 k i) .nil) [] (mkA (o0 g d 0 0 0 0 false)) =
    bif decide (i < Int.ofNat k) then bif m_nns g && (true && (true && (m_nns d && true))) then K [some (P0 0), some (P0 1), some (P0 2), some (Value.slice (some (Addr.mk 3 0 none)) k 9223372036854775808), some (I (Int.ofNat k)), some (I i)] [] [some (AObj.cells g 55 0 0), some (AObj.cells [I (Int.ofNat 0), I (Int.ofNat 0), I (Int.ofNat 0), I (Int.ofNat 0)] 45 1 0), some (AObj.cells [Value.bool false] 4 2 0), some (AObj.cells d 51 3 2)] else CR.fail 420 else KX 0 [some (P0 0), some (P0 1)] [] [some (AObj.cells [I (Int.ofNat 0), I (Int.ofNat 0), I (Int.ofNat 0), I (Int.ofNat 0)] 45 0 0), some (AObj.cells [Value.bool false] 4 1 0)] := by kernel_rfl

theorem paC (r : Mem) (g d : List Value) (k : Nat) (i : Int) (K : OV → List Nat → OO → CR) (kx : Nat → KS) (kr : KS) : run (SC r) 422238234885103 64 1 (.seq Pa_3 (.seq Pa_4 Pa_5)) (lvlT (SC r) (fun _ => none) .nil 1 3) none (rbK 0 lv1 fl1 K) kx kr [] (bT lv0 (v0 k i) .nil) [] (mkA (o0 g d 0 0 0 0 false)) =
    bif decide (0 ≤ i) then bif Nat.blt (Int.toNat i) k then Option.casesOn d[Nat.add 0 (Nat.mul (Int.toNat i) 2)]? (CR.fail 423) fun val => bif isI IntKind.i64 val then Option.casesOn d[Nat.succ (Nat.add 0 (Nat.mul (Int.toNat i) 2))]? (CR.fail 423) fun val_1 => bif isI IntKind.i64 val_1 then bif m_eqv (I (ofI val_1)) (I (ofI val_1)) then bif m_eqv (I (ofI val_1)) (I (ofI val_1)) then bif m_eqv (I (ofI val_1)) (I (ofI val_1)) then bif m_eqv (I (ofI val_1)) (I (ofI val_1)) then bif m_eqv (I (ofI val)) (I (ofI val)) then bif m_eqv (I (ofI val)) (I (ofI val)) then bif m_eqv (I (ofI val)) (I (ofI val)) then bif decide (0 ≤ ofI val) then bif Nat.blt (Int.toNat (ofI val)) 16 then Option.casesOn g[Nat.add 1 (Nat.mul (Int.toNat (ofI val)) 1)]? (CR.fail 423) fun val_2 => bif isI IntKind.u64 val_2 then bif decide (0 ≤ ofI val_1) then bif Nat.blt (Int.toNat (ofI val_1)) 16 then Option.casesOn g[Nat.add 1 (Nat.mul (Int.toNat (ofI val_1)) 1)]? (CR.fail 423) fun val_3 => bif isI IntKind.u64 val_3 then bif !decide (ofI val_1 < 0) then bif m_eqv (I (ofI val_1)) (I (ofI val_1)) then Option.casesOn g[Nat.add 1 (Nat.mul (Int.toNat (ofI val_1)) 1)]? (CR.fail 423) fun val_4 => bif isI IntKind.u64 val_4 then bif m_eqv (U (ofI val_4)) (U (ofI val_3)) then Option.casesOn g[Nat.add 1 (Nat.mul (Int.toNat (ofI val_1)) 1)]? (CR.fail 423) fun val_5 => bif isI IntKind.u64 val_5 then bif m_eqv (U (ofI val_5)) (U (ofI val_3)) then bif m_eqv (I (ofI val_1)) (I (ofI val_1)) then bif m_eqv (I (ofI val_1)) (I (ofI val_1)) then Option.casesOn g[Nat.add 1 (Nat.mul (Int.toNat (ofI val)) 1)]? (CR.fail 423) fun val_6 => bif isI IntKind.u64 val_6 then bif m_eqv (U (ofI val_6)) (U (ofI val_2)) then Option.casesOn g[Nat.add 1 (Nat.mul (Int.toNat (ofI val)) 1)]? (CR.fail 423) fun val_7 => bif isI IntKind.u64 val_7 then bif m_eqv (U (ofI val_7)) (U (ofI val_2)) then bif m_eqv (I (ofI val)) (I (ofI val)) then bif m_eqv (I (ofI val)) (I (ofI val)) then bif m_nns g && (true && (true && (m_nns d && (true && (true && (true && true)))))) then K [some (P0 0), some (P0 1), some (P0 2), some (Value.slice (some (Addr.mk 3 0 none)) k 9223372036854775808), some (I (Int.ofNat k)), some (I i), some (P0 4), some (P0 5), some (Value.func (Fn.func 53) (Array.mk []) (Array.mk [P0 6]))] [] [some (AObj.cells g 55 0 0), some (AObj.cells [I (Int.ofNat 0), I (Int.ofNat 0), I (Int.ofNat 0), I (Int.ofNat 0)] 45 1 0), some (AObj.cells [Value.bool false] 4 2 0), some (AObj.cells d 51 3 2), some (AObj.cells [I (ofI val)] 3 4 0), some (AObj.cells [I (ofI val_1)] 3 5 0), some (AObj.cells [U (ibits BinOp.andNot IntKind.u64 (ibits BinOp.andNot IntKind.u64 (ofI val_2) (ofI val_3)) (IntKind.wrap IntKind.u64 (Int.ofNat 1 * Int.ofNat 2 ^ min (Int.toNat (ofI val_1)) 64)))] 52 6 0)] else CR.fail 420 else CR.fail 420 else CR.fail 420 else CR.fail 420 else CR.fail 420 else CR.fail 420 else CR.fail 420 else CR.fail 420 else CR.fail 420 else CR.fail 420 else CR.fail 420 else CR.fail 420 else CR.fail 420 else CR.fail 420 else CR.fail 420 else CR.fail 420 else CR.fail 420 else CR.fail 420 else CR.fail 420 else CR.fail 420 else CR.fail 420 else CR.fail 420 else CR.fail 420 else CR.fail 420 else CR.fail 420 else CR.fail 420 else CR.fail 420 else CR.fail 420 else CR.fail 420 else CR.fail 420 else CR.fail 420 else CR.fail 420 := by kernel_rfl

theorem paD (r : Mem) (g d : List Value) (k : Nat) (i b c s a : Int) (fs : FnsC) (K : OV → List Nat → OO → CR) (kx : Nat → KS) (kr : KS) : run (SC r) 422238234885103 64 1 k_p1 fs (some 8) (begK 8 (rbK 9 lvb fl9 K)) kx kr [] (bT (lv1 ++ [34]) (v1 k i ++ [some (I a)]) .nil) [] (mkA (o9 g d k i 0 0 0 0 false b c s .ready none)) =
    bif m_nns g && (true && (true && (m_nns d && (true && (true && (true && (true && (true && (m_nns [I a] && true))))))))) then K [some (P0 0), some (P0 1), some (P0 2), some (P0 4), some (P0 5), some (P0 9)] [] [some (AObj.cells g 55 0 0), some (AObj.cells [I (Int.ofNat 0), I (Int.ofNat 0), I (Int.ofNat 0), I (Int.ofNat 0)] 45 1 0), some (AObj.cells [Value.bool false] 4 2 0), some (AObj.cells d 51 3 2), some (AObj.cells [I b] 3 4 0), some (AObj.cells [I c] 3 5 0), some (AObj.cells [U s] 52 6 0), some AObj.defd, some (r1 k i LoopState.busy none), some (AObj.cells [I a] 3 9 0)] else CR.fail 420 := by kernel_rfl

theorem paE (r : Mem) (g d : List Value) (k : Nat) (i b c s a : Int) (K : OV → List Nat → OO → CR) (kx : Nat → KS) (kr : KS) : run (SC r) 422238234885103 64 1 Pa_7 (lvlT (SC r) (fun _ => none) .nil 1 3) (some 8) (rbK 9 lv2 fl9 K) kx kr [] (bT lvb vb .nil) [] (mkA (o9 g d k i 0 0 0 0 false b c s .busy none ++ [oJ a 9])) =
    bif decide (0 ≤ c) then bif Nat.blt (Int.toNat c) 16 then Option.casesOn g[Nat.add 1 (Nat.mul (Int.toNat c) 1)]? (CR.fail 423) fun val => bif isI IntKind.u64 val then bif decide (0 ≤ b) then bif Nat.blt (Int.toNat b) 16 then Option.casesOn g[Nat.add 1 (Nat.mul (Int.toNat b) 1)]? (CR.fail 423) fun val_1 => bif isI IntKind.u64 val_1 then bif !decide (b < 0) then bif m_eqv (I b) (I b) then Option.casesOn g[Nat.add 1 (Nat.mul (Int.toNat b) 1)]? (CR.fail 423) fun val_2 => bif isI IntKind.u64 val_2 then bif m_eqv (U (ofI val_2)) (U (ofI val_1)) then Option.casesOn g[Nat.add 1 (Nat.mul (Int.toNat b) 1)]? (CR.fail 423) fun val_3 => bif isI IntKind.u64 val_3 then bif m_eqv (U (ofI val_3)) (U (ofI val_1)) then bif m_eqv (I b) (I b) then bif m_eqv (I b) (I b) then Option.casesOn g[Nat.add 1 (Nat.mul (Int.toNat c) 1)]? (CR.fail 423) fun val_4 => bif isI IntKind.u64 val_4 then bif m_eqv (U (ofI val_4)) (U (ofI val)) then Option.casesOn g[Nat.add 1 (Nat.mul (Int.toNat c) 1)]? (CR.fail 423) fun val_5 => bif isI IntKind.u64 val_5 then bif m_eqv (U (ofI val_5)) (U (ofI val)) then bif m_eqv (I c) (I c) then bif m_eqv (I c) (I c) then bif m_nns g && (true && (true && (m_nns d && (true && (true && (true && (true && (true && (m_nns [I a] && (m_nns [U (ibits BinOp.andNot IntKind.u64 (ibits BinOp.andNot IntKind.u64 (ofI val) (ofI val_1)) (IntKind.wrap IntKind.u64 (Int.ofNat 1 * Int.ofNat 2 ^ min (Int.toNat b) 64)))] && true)))))))))) then K [some (P0 0), some (P0 1), some (P0 2), some (P0 4), some (P0 5), some (P0 9), some (Value.func (Fn.func 53) (Array.mk []) (Array.mk [P0 10]))] [] [some (AObj.cells g 55 0 0), some (AObj.cells [I (Int.ofNat 0), I (Int.ofNat 0), I (Int.ofNat 0), I (Int.ofNat 0)] 45 1 0), some (AObj.cells [Value.bool false] 4 2 0), some (AObj.cells d 51 3 2), some (AObj.cells [I b] 3 4 0), some (AObj.cells [I c] 3 5 0), some (AObj.cells [U s] 52 6 0), some AObj.defd, some (r1 k i LoopState.busy none), some (AObj.cells [I a] 3 9 0), some (AObj.cells [U (ibits BinOp.andNot IntKind.u64 (ibits BinOp.andNot IntKind.u64 (ofI val) (ofI val_1)) (IntKind.wrap IntKind.u64 (Int.ofNat 1 * Int.ofNat 2 ^ min (Int.toNat b) 64)))] 52 10 0)] else CR.fail 420 else CR.fail 420 else CR.fail 420 else CR.fail 420 else CR.fail 420 else CR.fail 420 else CR.fail 420 else CR.fail 420 else CR.fail 420 else CR.fail 420 else CR.fail 420 else CR.fail 420 else CR.fail 420 else CR.fail 420 else CR.fail 420 else CR.fail 420 else CR.fail 420 else CR.fail 420 else CR.fail 420 else CR.fail 420 else CR.fail 420 := by kernel_rfl

theorem paF (r : Mem) (g d : List Value) (k : Nat) (i b c s a s' e : Int) (fs : FnsC) (K : OV → List Nat → OO → CR) (kx : Nat → KS) (kr : KS) : run (SC r) 422238234885103 64 1 k_p3 fs (some 11) (begK 11 (rbK 12 lvc fl12 K)) kx kr [] (bT (lv2 ++ [48]) (v2 ++ [some (I e)]) .nil) [] (mkA (o12 g d k i 0 0 0 0 false b c s a s' .ready none)) =
    bif m_nns g && (true && (true && (m_nns d && (true && (true && (true && (true && (true && (true && (true && true)))))))))) then K [some (P0 0), some (P0 1), some (P0 2), some (P0 4), some (P0 5), some (P0 9), some (I e)] [] [some (AObj.cells g 55 0 0), some (AObj.cells [I (Int.ofNat 0), I (Int.ofNat 0), I (Int.ofNat 0), I (Int.ofNat 0)] 45 1 0), some (AObj.cells [Value.bool false] 4 2 0), some (AObj.cells d 51 3 2), some (AObj.cells [I b] 3 4 0), some (AObj.cells [I c] 3 5 0), some (AObj.cells [U s] 52 6 0), some AObj.defd, some (r1 k i LoopState.busy none), some (AObj.cells [I a] 3 9 0), some (AObj.cells [U s'] 52 10 0), some (r2 LoopState.busy none)] else CR.fail 420 := by kernel_rfl

theorem paG (r : Mem) (g d : List Value) (k : Nat) (i b c s a s' e : Int) (K : OV → List Nat → OO → CR) (KX : Nat → OV → List Nat → OO → CR) (kr : KS) : run (SC r) 422238234885103 64 1 Pa_9 (lvlT (SC r) (fun _ => none) .nil 1 3) (some 11) (rbK 12 [] fl12 K) (fun i => rbK 12 [] fl12 (KX i)) kr [] (bT lvc (vb ++ [some (I e)]) .nil) [] (mkA (o12 g d k i 0 0 0 0 false b c s a s' .busy none)) =
    bif decide (0 ≤ a) then bif Nat.blt (Int.toNat a) 16 then Option.casesOn g[Nat.add 1 (Nat.mul (Int.toNat a) 1)]? (CR.fail 423) fun val => bif isI IntKind.u64 val then bif !decide (e < 0) then bif ibits BinOp.and IntKind.u64 (Int.fdiv (ofI val) (Int.ofNat 2 ^ min (Int.toNat e) 64)) (Int.ofNat 1) == Int.ofNat 1 then bif m_nns g && (true && (true && (m_nns d && (true && (true && (true && (true && (true && (true && (true && true)))))))))) then K [] [] [some (AObj.cells g 55 0 0), some (AObj.cells [I (Int.ofNat 0), I (Int.ofNat 0), I (Int.ofNat 0), I (Int.ofNat 0)] 45 1 0), some (AObj.cells [Value.bool false] 4 2 0), some (AObj.cells d 51 3 2), some (AObj.cells [I b] 3 4 0), some (AObj.cells [I c] 3 5 0), some (AObj.cells [U s] 52 6 0), some AObj.defd, some (r1 k i LoopState.busy none), some (AObj.cells [I a] 3 9 0), some (AObj.cells [U s'] 52 10 0), some (r2 LoopState.busy none)] else CR.fail 420 else bif m_nns g && (true && (true && (m_nns d && (true && (true && (true && (true && (true && (true && (true && true)))))))))) then KX 0 [] [] [some (AObj.cells g 55 0 0), some (AObj.cells [I a, I b, I c, I e] 45 1 0), some (AObj.cells [Value.bool true] 4 2 0), some (AObj.cells d 51 3 2), some (AObj.cells [I b] 3 4 0), some (AObj.cells [I c] 3 5 0), some (AObj.cells [U s] 52 6 0), some AObj.defd, some (r1 k i LoopState.busy none), some (AObj.cells [I a] 3 9 0), some (AObj.cells [U s'] 52 10 0), some (r2 LoopState.busy none)] else CR.fail 420 else CR.fail 420 else CR.fail 420 else CR.fail 420 else CR.fail 420 := by kernel_rfl

theorem paT2 (r : Mem) (g d : List Value) (k : Nat) (i b c s a s' : Int) (K : OV → List Nat → OO → CR) (kx : Nat → KS) (kr : KS) : tailRK 11 ⟨[], bT lv2 v2 .nil⟩ [] (rbK 9 [] fl9 K) kx kr (mkA (o12 g d k i 0 0 0 0 false b c s a s' .ready none)) =
    bif m_nns g && (true && (true && (m_nns d && (true && (true && (true && (true && (true && true)))))))) then K [] [] [some (AObj.cells g 55 0 0), some (AObj.cells [I (Int.ofNat 0), I (Int.ofNat 0), I (Int.ofNat 0), I (Int.ofNat 0)] 45 1 0), some (AObj.cells [Value.bool false] 4 2 0), some (AObj.cells d 51 3 2), some (AObj.cells [I b] 3 4 0), some (AObj.cells [I c] 3 5 0), some (AObj.cells [U s] 52 6 0), some AObj.defd, some (r1 k i LoopState.busy none)] else CR.fail 420 := by kernel_rfl

theorem paU2 (r : Mem) (g d : List Value) (k : Nat) (i b c s a s' f0 f1 f2 f3 : Int) (kn : KS) (KX : Nat → OV → List Nat → OO → CR) (kr : KS) : tailRK 11 ⟨[], bT lv2 v2 .nil⟩ [] kn (fun i => rbK 9 [] fl9 (KX i)) kr (mkA (o12 g d k i f0 f1 f2 f3 true b c s a s' .done (some (.exit 0)))) =
    bif m_nns g && (true && (true && (m_nns d && (true && (true && (true && (true && (true && true)))))))) then KX 0 [] [] [some (AObj.cells g 55 0 0), some (AObj.cells [I f0, I f1, I f2, I f3] 45 1 0), some (AObj.cells [Value.bool true] 4 2 0), some (AObj.cells d 51 3 2), some (AObj.cells [I b] 3 4 0), some (AObj.cells [I c] 3 5 0), some (AObj.cells [U s] 52 6 0), some AObj.defd, some (r1 k i LoopState.busy none)] else CR.fail 420 := by kernel_rfl

theorem paT1 (r : Mem) (g d : List Value) (k : Nat) (i b c s : Int) (K : OV → List Nat → OO → CR) (kx : Nat → KS) (kr : KS) : tailRK 8 ⟨[], bT lv1 (v1 k i) .nil⟩ [7] (rbK 0 lv0 fl0 K) kx kr (mkA (o9 g d k i 0 0 0 0 false b c s .ready none)) =
    bif m_nns g && (true && (true && (m_nns d && true))) then K [some (P0 0), some (P0 1), some (P0 2), some (Value.slice (some (Addr.mk 3 0 none)) k 9223372036854775808), some (I (Int.ofNat k)), some (I i)] [] [some (AObj.cells g 55 0 0), some (AObj.cells [I (Int.ofNat 0), I (Int.ofNat 0), I (Int.ofNat 0), I (Int.ofNat 0)] 45 1 0), some (AObj.cells [Value.bool false] 4 2 0), some (AObj.cells d 51 3 2)] else CR.fail 420 := by kernel_rfl

theorem paU1 (r : Mem) (g d : List Value) (k : Nat) (i b c s f0 f1 f2 f3 : Int) (kn : KS) (KX : Nat → OV → List Nat → OO → CR) (kr : KS) : tailRK 8 ⟨[], bT lv1 (v1 k i) .nil⟩ [7] kn (fun i => rbK 0 [2, 3] [.t, .t] (KX i)) kr (mkA (o9 g d k i f0 f1 f2 f3 true b c s .done (some (.exit 0)))) =
    KX 0 [some (P0 0), some (P0 1)] [] [some (AObj.cells [I f0, I f1, I f2, I f3] 45 0 0), some (AObj.cells [Value.bool true] 4 1 0)] := by kernel_rfl

theorem paH (r : Mem) (g d : List Value) (k : Nat) (i : Int) (fs : FnsC) (K : OV → List Nat → OO → CR) (kx : Nat → KS) (kr : KS) : run (SC r) 422238234885103 64 1 Pa_11 fs none (rbK 0 lv0 fl0 K) kx kr [] (bT lv0 (v0 k i) .nil) [] (mkA (o0 g d 0 0 0 0 false)) =
    bif m_nns g && (true && (true && (m_nns d && true))) then K [some (P0 0), some (P0 1), some (P0 2), some (Value.slice (some (Addr.mk 3 0 none)) k 9223372036854775808), some (I (Int.ofNat k)), some (I (IntKind.wrap IntKind.i64 (i + Int.ofNat 1)))] [] [some (AObj.cells g 55 0 0), some (AObj.cells [I (Int.ofNat 0), I (Int.ofNat 0), I (Int.ofNat 0), I (Int.ofNat 0)] 45 1 0), some (AObj.cells [Value.bool false] 4 2 0), some (AObj.cells d 51 3 2)] else CR.fail 420 := by kernel_rfl

theorem paY (r : Mem) (f0 f1 f2 f3 : Int) (ok : Bool) (fs : FnsC) (K KR : OV → List Nat → OO → CR) (kx : Nat → KS) : run (SC r) 422238234885103 64 1 Pa_z fs none (rbK 0 [2, 3] [.t, .t] K) kx (rbK 0 [2, 3] [.t, .t] KR) [] (bT [2, 3] [some (P0 0), some (P0 1)] .nil) [] (mkA [o4 f0 f1 f2 f3 0, oB ok 1]) =
    bif ok then bif m_eqv (Value.bool ok) (Value.bool ok) then bif m_eqv (Value.bool ok) (Value.bool ok) then bif m_eqv (Value.agg (Array.mk [I f0, I f1, I f2, I f3])) (Value.agg (Array.mk [I f0, I f1, I f2, I f3])) then KR [some (P0 0), some (P0 1)] [] [some (AObj.cells [I f0, I f1, I f2, I f3] 45 0 0), some (AObj.cells [Value.bool true] 4 1 0)] else CR.fail 420 else CR.fail 420 else CR.fail 420 else bif m_eqv (Value.bool ok) (Value.bool ok) then bif m_eqv (Value.bool ok) (Value.bool ok) then bif m_eqv (Value.agg (Array.mk [I f0, I f1, I f2, I f3])) (Value.agg (Array.mk [I f0, I f1, I f2, I f3])) then KR [some (P0 0), some (P0 1)] [] [some (AObj.cells [I f0, I f1, I f2, I f3] 45 0 0), some (AObj.cells [Value.bool false] 4 1 0)] else CR.fail 420 else CR.fail 420 else CR.fail 420 := by kernel_rfl

end Go.Proofs

/- The search for a path: what the rounds do. -/
namespace Go.Num
open Go.Proofs

/-- The first answer. -/
def fnd {α : Type} (P : Nat → Option α) : Nat → Option α
  | 0 => none
  | k + 1 => match fnd P k with
    | some a => some a
    | none => P k

theorem fnd_some {α : Type} {P : Nat → Option α} {t : Nat} {a : α} (h : fnd P t = none) (ha : P t = some a) : ∀ m, t < m → fnd P m = some a
  | 0, hm => by omega
  | m + 1, hm => by
    rw [fnd]
    by_cases c : t = m
    · subst c; rw [h]; exact ha
    · rw [fnd_some h ha m (by omega)]
theorem fnd_skip {α : Type} {P : Nat → Option α} {t : Nat} (h : fnd P t = none) : ∀ m, t ≤ m → (∀ k, t ≤ k → k < m → P k = none) → fnd P m = none
  | 0, hm, _ => by obtain rfl : t = 0 := by omega
                   exact h
  | m + 1, hm, hk => by
    by_cases c : t = m + 1
    · subst c; exact h
    · rw [fnd, fnd_skip h m (by omega) fun k h1 h2 => hk k h1 (by omega)]
      exact hk m (by omega) (by omega)
theorem fnd_use {α : Type} {P : Nat → Option α} {a : α} : ∀ {m : Nat}, fnd P m = some a → ∃ k, k < m ∧ P k = some a
  | 0, h => nomatch h
  | m + 1, h => by
    rw [fnd] at h
    split at h
    · rename_i b hb
      cases h
      obtain ⟨k, h1, h2⟩ := fnd_use hb
      exact ⟨k, by omega, h2⟩
    · exact ⟨m, by omega, h⟩
theorem fnd_none {α : Type} {P : Nat → Option α} : ∀ {m : Nat}, fnd P m = none → ∀ k, k < m → P k = none
  | 0, _, k, hk => by omega
  | m + 1, h, k, hk => by
    rw [fnd] at h
    split at h
    · cases h
    · rename_i hb
      by_cases c : k = m
      · subst c; exact h
      · exact fnd_none hb k (by omega)
abbrev T4 := Nat × Nat × Nat × Nat
/-- The vertices at one side of an edge, not at the other. -/
def sdN (w : Nat → Nat) (b c : Nat) : Nat := anN (anN (w b) (w c)) (2 ^ c)
def qD (w : Nat → Nat) (b c a e : Nat) : Option T4 := if (sdN w c b).testBit e = true ∧ btN (w a) e = false then some (a, b, c, e) else none
def qA (w : Nat → Nat) (b c a : Nat) : Option T4 := if (sdN w b c).testBit a = true then fnd (qD w b c a) 16 else none
def qE (w : Nat → Nat) (b c : Nat) : Option T4 := fnd (qA w b c) 16
theorem sd_lt {w : Nat → Nat} (hw : ∀ i, w i < 65536) (b c : Nat) : sdN w b c < 65536 := an_lt (k := 16) (an_lt (k := 16) (hw b))

end Go.Num
namespace Go.Proofs
open Go Go.Ev Go.Num
set_option linter.unusedVariables false
set_option linter.unusedSimpArgs false
set_option maxRecDepth 100000

theorem ei (k : IntKind) (z : Int) : m_eqv (.int k z) (.int k z) = true := by simp [m_eqv, veq]
theorem ebv (b : Bool) : m_eqv (.bool b) (.bool b) = true := by simp [m_eqv, veq]
theorem ea4 (k : IntKind) (a0 a1 a2 a3 : Int) : m_eqv (.agg ⟨[.int k a0, .int k a1, .int k a2, .int k a3]⟩) (.agg ⟨[.int k a0, .int k a1, .int k a2, .int k a3]⟩) = true := by simp [m_eqv, veq, veqs]
theorem n1 (x : Int) : m_nns [I x] = true := rfl
theorem nU (x : Int) : m_nns [U x] = true := rfl
theorem shl1 {b : Nat} (h : b < 16) : IntKind.wrap IntKind.u64 (Int.ofNat 1 * Int.ofNat 2 ^ min b 64) = ((2 ^ b : Nat) : Int) := by
  have h1 : 2 ^ b < 65536 := Nat.pow_lt_pow_right (n := 16) (by decide) h
  rw [Nat.min_eq_left (by omega), wrU, show (Int.ofNat 1 * Int.ofNat 2 ^ b : Int) = ((2 ^ b : Nat) : Int) by simp]
  generalize 2 ^ b = x at *
  omega
theorem uAn {a b : Nat} (ha : a < 18446744073709551616) (hb : b < 18446744073709551616) : ibits .andNot .u64 ((a : Nat) : Int) ((b : Nat) : Int) = ((anN a b : Nat) : Int) := (uO ha hb).2.2

def e4 (t : T4) : List Int := [(t.1 : Int), (t.2.1 : Int), (t.2.2.1 : Int), (t.2.2.2 : Int)]
noncomputable def z12 (g d : List Value) (k : Nat) (i b c s a s' : Int) (st : LoopState) : OO := o12 g d k i 0 0 0 0 false b c s a s' st none
noncomputable def s12 (g d : List Value) (k : Nat) (i b c s a s' : Int) (st : LoopState) (pend : Option Code) (t : T4) : OO := o12 g d k i (t.1 : Nat) (t.2.1 : Nat) (t.2.2.1 : Nat) (t.2.2.2 : Nat) true b c s a s' st pend
noncomputable def e12 (g d : List Value) (k : Nat) (i b c s a s' : Int) : Option T4 → OO
  | none => z12 g d k i b c s a s' .ready
  | some t => s12 g d k i b c s a s' .done (some (.exit 0)) t
noncomputable def z9 (g d : List Value) (k : Nat) (i b c s : Int) (st : LoopState) : OO := o9 g d k i 0 0 0 0 false b c s st none
noncomputable def s9 (g d : List Value) (k : Nat) (i b c s : Int) (st : LoopState) (pend : Option Code) (t : T4) : OO := o9 g d k i (t.1 : Nat) (t.2.1 : Nat) (t.2.2.1 : Nat) (t.2.2.2 : Nat) true b c s st pend
noncomputable def e9 (g d : List Value) (k : Nat) (i b c s : Int) : Option T4 → OO
  | none => z9 g d k i b c s .ready
  | some t => s9 g d k i b c s .done (some (.exit 0)) t

theorem gd12 {g d : List Value} (hg : m_nns g = true) (hd : m_nns d = true) (k : Nat) (i f0 f1 f2 f3 : Int) (ok : Bool) (b c s a s' : Int) (st : LoopState) (pend : Option Code) : gdAs fl12 (o12 g d k i f0 f1 f2 f3 ok b c s a s' st pend) = true := by
  have h : gdAs fl12 (o12 g d k i f0 f1 f2 f3 ok b c s a s' st pend) = (m_nns g && (true && (true && (m_nns d && (true && (true && (true && (true && (true && (true && (true && (true && true)))))))))))) := by kernel_rfl
  rw [h, hg, hd]
  rfl
theorem gd9 {g d : List Value} (hg : m_nns g = true) (hd : m_nns d = true) (k : Nat) (i f0 f1 f2 f3 : Int) (ok : Bool) (b c s : Int) (st : LoopState) (pend : Option Code) : gdAs fl9 (o9 g d k i f0 f1 f2 f3 ok b c s st pend) = true := by
  have h : gdAs fl9 (o9 g d k i f0 f1 f2 f3 ok b c s st pend) = (m_nns g && (true && (true && (m_nns d && (true && (true && (true && (true && (true && true))))))))) := by kernel_rfl
  rw [h, hg, hd]
  rfl
theorem cn12z {g d : List Value} (hg : m_nns g = true) (hd : m_nns d = true) (k : Nat) (i b c s a s' : Int) : Cn 12 fl12 (mkA (z12 g d k i b c s a s' .ready)) (z12 g d k i b c s a s' .ready) := ⟨by kernel_rfl, gd12 hg hd ..⟩
theorem cn12s {g d : List Value} (hg : m_nns g = true) (hd : m_nns d = true) (k : Nat) (i b c s a s' : Int) (t : T4) : Cn 12 fl12 (mkA (s12 g d k i b c s a s' .done (some (.exit 0)) t)) (s12 g d k i b c s a s' .done (some (.exit 0)) t) := ⟨by kernel_rfl, gd12 hg hd ..⟩
theorem end11z (g d : List Value) (k : Nat) (i b c s a s' : Int) : endR 11 none (St.of [] [] [] (z12 g d k i b c s a s' .busy)) = .ret (.bool true) (mkA (z12 g d k i b c s a s' .ready)) := by kernel_rfl
theorem end11s (g d : List Value) (k : Nat) (i b c s a s' : Int) (t : T4) : endR 11 (some (.exit 0)) (St.of [] [] [] (s12 g d k i b c s a s' .busy none t)) = .ret (.bool false) (mkA (s12 g d k i b c s a s' .done (some (.exit 0)) t)) := by kernel_rfl
theorem cn9z {g d : List Value} (hg : m_nns g = true) (hd : m_nns d = true) (k : Nat) (i b c s : Int) : Cn 9 fl9 (mkA (z9 g d k i b c s .ready)) (z9 g d k i b c s .ready) := ⟨by kernel_rfl, gd9 hg hd ..⟩
theorem cn9s {g d : List Value} (hg : m_nns g = true) (hd : m_nns d = true) (k : Nat) (i b c s : Int) (t : T4) : Cn 9 fl9 (mkA (s9 g d k i b c s .done (some (.exit 0)) t)) (s9 g d k i b c s .done (some (.exit 0)) t) := ⟨by kernel_rfl, gd9 hg hd ..⟩
theorem end8z (g d : List Value) (k : Nat) (i b c s : Int) : endR 8 none (St.of [] [] [] (z9 g d k i b c s .busy)) = .ret (.bool true) (mkA (z9 g d k i b c s .ready)) := by kernel_rfl
theorem end8s (g d : List Value) (k : Nat) (i b c s : Int) (t : T4) : endR 8 (some (.exit 0)) (St.of [] [] [] (s9 g d k i b c s .busy none t)) = .ret (.bool false) (mkA (s9 g d k i b c s .done (some (.exit 0)) t)) := by kernel_rfl

/-- A round of the inner walk. -/
theorem y11 {r : Mem} {g d : List Value} (hg : m_nns g = true) (hd : m_nns d = true) {w : Nat → Nat} (hw : ∀ i, w i < 65536) (hgr : ∀ i, i < 16 → g[Nat.add 1 (Nat.mul i 1)]? = some (U (w i : Nat))) (k : Nat) (i s s' : Int) {a b c e : Nat} (ha : a < 16) (he : e < 16) (hbit : (sdN w c b).testBit e = true) (hI : fnd (qD w b c a) e = none) :
    YOk (SC r) 11 [I (e : Nat)] (mkA (z12 g d k i (b : Nat) (c : Nat) s (a : Nat) s' .ready)) fun v A' => ∃ os', Cn 12 fl12 A' os' ∧
      ((v = .bool true ∧ fnd (qD w b c a) (e + 1) = none ∧ os' = z12 g d k i (b : Nat) (c : Nat) s (a : Nat) s' .ready) ∨ (v = .bool false ∧ os' = e12 g d k i (b : Nat) (c : Nat) s (a : Nat) s' (fnd (qD w b c a) 16))) := by
  have hnx : (mkA (z12 g d k i (b : Nat) (c : Nat) s (a : Nat) s' .ready)).next = 12 := by kernel_rfl
  have p0 : ∀ k : Nat, decide (0 ≤ (k : Int)) = true := fun k => decide_eq_true (by omega)
  have n0 : ∀ k : Nat, decide ((k : Int) < 0) = false := fun k => decide_eq_false (by omega)
  have bl : Nat.blt a 16 = true := Nat.ble_eq_true_of_le ha
  have ii : ∀ x, isI IntKind.u64 (U x) = true := fun _ => rfl
  have oo : ∀ x, ofI (U x) = x := fun _ => rfl
  refine YOk.of (SC_ok r) (i := 11) (st := .ready) (pend := none) (m := 422238234885103) (n := 64) (en := ⟨[], bT lv2 v2 .nil⟩) (params := #[48]) (assign := k_p3) (body := k_p4) (d := 7) (by kernel_rfl) (s0 := []) (b0 := bT (lv2 ++ [48]) (v2 ++ [some (I (e : Nat))]) .nil) (by kernel_rfl) TOk.nil (tm := .nil) (L := 1) (L' := 1) (d' := 3)
    ⟨lvc, fl12, fun vs ms os => vs = vb ++ [some (I (e : Nat))] ∧ ms = [] ∧ os = z12 g d k i (b : Nat) (c : Nat) s (a : Nat) s' .busy⟩
    ⟨[], fl12, fun vs ms os => qD w b c a e = none ∧ vs = [] ∧ ms = [] ∧ os = z12 g d k i (b : Nat) (c : Nat) s (a : Nat) s' .busy⟩
    (fun x => if x = 0 then ⟨[], fl12, fun vs ms os => qD w b c a e = some (a, b, c, e) ∧ vs = [] ∧ ms = [] ∧ os = s12 g d k i (b : Nat) (c : Nat) s (a : Nat) s' .busy none (a, b, c, e)⟩ else Outs.no) Outs.no ?_ ?_ ?_ ?_ ?_
  · rw [hnx]
    have hn := paF r g d k i (b : Nat) (c : Nat) s (a : Nat) s' (e : Nat)
    simp only [hg, hd, Bool.and_self, cond_true] at hn
    exact (hn _ _ _ _).trans (qq_ok ⟨rfl, rfl, rfl⟩)
  · rintro F k' γ W hF hro h0 vs ms os ⟨rfl, rfl, rfl⟩
    rw [hnx] at h0
    rw [Pc_eq]
    refine Go.Ev.Reach.blockC (Go.Ev.Reach.segR (SC_ok r) TOk.nil (tm := .nil) (L := 1) (L' := 1) (d := 3) hF hro h0 [(0, ⟨[], fl12, fun vs ms os => qD w b c a e = some (a, b, c, e) ∧ vs = [] ∧ ms = [] ∧ os = s12 g d k i (b : Nat) (c : Nat) s (a : Nat) s' .busy none (a, b, c, e)⟩)] (fun p hp => by simp only [List.mem_cons, List.not_mem_nil, or_false] at hp; subst hp; rfl) ?_)
    have hn := paG r g d k i (b : Nat) (c : Nat) s (a : Nat) s' (e : Nat)
    simp only [p0, n0, bl, hgr a ha, ii, oo, Int.toNat_natCast, bitU (hw a) (show e ≤ 16 by omega), Bool.not_false, hg, hd, Bool.and_self, cond_true] at hn
    cases hb : btN (w a) e with
    | true =>
      simp only [hb, cond_true] at hn
      exact (hn _ _ _).trans (qq_ok ⟨if_neg fun h => (Bool.noConfusion (hb.symm.trans h.2)), rfl, rfl, rfl⟩)
    | false =>
      simp only [hb, cond_false] at hn
      exact (hn _ _ _).trans (qq_ok ⟨if_pos ⟨hbit, hb⟩, rfl, rfl, rfl⟩)
  · rintro vs ms os ⟨hP, rfl, rfl, rfl⟩
    exact ⟨_, _, end11z g d k i (b : Nat) (c : Nat) s (a : Nat) s', _, cn12z hg hd k i (b : Nat) (c : Nat) s (a : Nat) s', .inl ⟨rfl, by rw [fnd, hI]; exact hP, rfl⟩⟩
  · rintro id vs ms os hf
    by_cases c0 : id = 0
    · subst c0
      rw [if_pos rfl] at hf ⊢
      obtain ⟨hP, rfl, rfl, rfl⟩ := hf
      refine ⟨_, _, end11s g d k i (b : Nat) (c : Nat) s (a : Nat) s' _, _, cn12s hg hd k i (b : Nat) (c : Nat) s (a : Nat) s' _, .inr ⟨rfl, ?_⟩⟩
      rw [fnd_some hI hP 16 he]
      rfl
    · rw [if_neg c0] at hf
      exact hf.elim
  · rintro vs ms os hf
    exact hf.elim

/-- A round of the outer walk. -/
theorem y8 {r : Mem} (hm : ∀ b j u, tabM b j = some u → r b j = some u) {g d : List Value} (hg : m_nns g = true) (hd : m_nns d = true) {w : Nat → Nat} (hw : ∀ i, w i < 65536) (hgr : ∀ i, i < 16 → g[Nat.add 1 (Nat.mul i 1)]? = some (U (w i : Nat))) (k : Nat) (i s : Int) {a b c : Nat} (ha : a < 16) (hb : b < 16) (hc : c < 16) (hbit : (sdN w b c).testBit a = true) (hI : fnd (qA w b c) a = none) :
    YOk (SC r) 8 [I (a : Nat)] (mkA (z9 g d k i (b : Nat) (c : Nat) s .ready)) fun v A' => ∃ os', Cn 9 fl9 A' os' ∧
      ((v = .bool true ∧ fnd (qA w b c) (a + 1) = none ∧ os' = z9 g d k i (b : Nat) (c : Nat) s .ready) ∨ (v = .bool false ∧ os' = e9 g d k i (b : Nat) (c : Nat) s (qE w b c))) := by
  have hnx : (mkA (z9 g d k i (b : Nat) (c : Nat) s .ready)).next = 9 := by kernel_rfl
  have p0 : ∀ k : Nat, decide (0 ≤ (k : Int)) = true := fun k => decide_eq_true (by omega)
  have n0 : ∀ k : Nat, decide ((k : Int) < 0) = false := fun k => decide_eq_false (by omega)
  have bl : ∀ x, x < 16 → Nat.blt x 16 = true := fun x h => Nat.ble_eq_true_of_le h
  have ii : ∀ x, isI IntKind.u64 (U x) = true := fun _ => rfl
  have oo : ∀ x, ofI (U x) = x := fun _ => rfl
  have hqa : qA w b c a = fnd (qD w b c a) 16 := if_pos hbit
  refine YOk.of (SC_ok r) (i := 8) (st := .ready) (pend := none) (m := 422238234885103) (n := 64) (en := ⟨[], bT lv1 (v1 k i) .nil⟩) (params := #[34]) (assign := k_p1) (body := k_p2) (d := 7) (by kernel_rfl) (s0 := []) (b0 := bT (lv1 ++ [34]) (v1 k i ++ [some (I (a : Nat))]) .nil) (by kernel_rfl) TOk.nil (tm := .nil) (L := 1) (L' := 1) (d' := 3)
    ⟨lvb, fl9, fun vs ms os => vs = vb ∧ ms = [] ∧ os = z9 g d k i (b : Nat) (c : Nat) s .busy ++ [oJ (a : Nat) 9]⟩
    ⟨[], fl9, fun vs ms os => qA w b c a = none ∧ vs = [] ∧ ms = [] ∧ os = z9 g d k i (b : Nat) (c : Nat) s .busy⟩
    (fun x => if x = 0 then ⟨[], fl9, fun vs ms os => ∃ t, qA w b c a = some t ∧ vs = [] ∧ ms = [] ∧ os = s9 g d k i (b : Nat) (c : Nat) s .busy none t⟩ else Outs.no) Outs.no ?_ ?_ ?_ ?_ ?_
  · rw [hnx]
    have hn := paD r g d k i (b : Nat) (c : Nat) s (a : Nat)
    simp only [hg, hd, n1, Bool.and_self, cond_true] at hn
    exact (hn _ _ _ _).trans (qq_ok ⟨rfl, rfl, rfl⟩)
  · rintro F k' γ W hF hro h0 vs ms os ⟨rfl, rfl, rfl⟩
    rw [hnx] at h0
    rw [Pb_eq]
    refine Go.Ev.Reach.blockC (Go.Ev.Reach.seqC (o1 := ⟨lv2, fl9, fun vs ms os => vs = v2 ∧ ms = [] ∧ os = z9 g d k i (b : Nat) (c : Nat) s .busy ++ oX (a : Nat) (sdN w c b : Nat)⟩) (Go.Ev.Reach.segR (SC_ok r) TOk.nil (tm := .nil) (L := 1) (L' := 1) (d := 3) hF hro h0 [] (fun p hp => nomatch hp) ?_) ?_)
    · have hn := paE r g d k i (b : Nat) (c : Nat) s (a : Nat)
      have d1 := uAn (show w c < 18446744073709551616 by have := hw c; omega) (show w b < 18446744073709551616 by have := hw b; omega)
      have h1 : anN (w c) (w b) < 65536 := an_lt (k := 16) (hw c)
      have h2 : 2 ^ b < 65536 := Nat.pow_lt_pow_right (n := 16) (by decide) hb
      have d2 := uAn (show anN (w c) (w b) < 18446744073709551616 by omega) (show 2 ^ b < 18446744073709551616 by omega)
      simp only [p0, n0, bl b hb, bl c hc, hgr b hb, hgr c hc, ii, oo, ei, Int.toNat_natCast, shl1 hb, d1, d2, n1, nU, hg, hd, Bool.not_false, Bool.and_self, cond_true] at hn
      exact (hn _ _ _).trans (qq_ok ⟨rfl, rfl, rfl⟩)
    · rintro vs ms os ⟨rfl, rfl, rfl⟩
      have hl : (mkA (z9 g d k i (b : Nat) (c : Nat) s .busy ++ oX (a : Nat) (sdN w c b : Nat))).next = 11 := by kernel_rfl
      refine Go.Ev.Reach.blockC (Go.Ev.Reach.rangeC (SC_ok r) hF hro h0 (d := 7) (marks := []) (A1 := mkA (z9 g d k i (b : Nat) (c : Nat) s .busy ++ oX (a : Nat) (sdN w c b : Nat))) (g := 53) (first := []) (captured := [P0 10]) (S := fun v A' => ∃ os, A' = mkA os ∧ os = e12 g d k i (b : Nat) (c : Nat) s (a : Nat) (sdN w c b : Nat) (fnd (qD w b c a) 16))
        [(0, ⟨[], fl9, fun vs ms os => ∃ t, qA w b c a = some t ∧ vs = [] ∧ ms = [] ∧ os = s9 g d k i (b : Nat) (c : Nat) s .busy none t⟩)] (fun p hp => by simp only [List.mem_cons, List.not_mem_nil, or_false] at hp; subst hp; rfl) (by kernel_rfl) (by kernel_rfl) (by kernel_rfl) ?_ ?_)
      · have hE : (mkA (z9 g d k i (b : Nat) (c : Nat) s .busy ++ oX (a : Nat) (sdN w c b : Nat))).new (.loop .ready none 422238234885103 ⟨[], bT lv2 v2 .nil⟩ 64 #[48] k_p3 k_p4 7) = mkA (z12 g d k i (b : Nat) (c : Nat) s (a : Nat) (sdN w c b : Nat) .ready) := by kernel_rfl
        show SOk _ _ _ ((mkA (z9 g d k i (b : Nat) (c : Nat) s .busy ++ oX (a : Nat) (sdN w c b : Nat))).new (.loop .ready none 422238234885103 ⟨[], bT lv2 v2 .nil⟩ 64 #[48] k_p3 k_p4 7)) _
        rw [hE, hl]
        have hnx2 : (mkA (z12 g d k i (b : Nat) (c : Nat) s (a : Nat) (sdN w c b : Nat) .ready)).next = 12 := by kernel_rfl
        refine each_iter r hm (l := 11) (p := 10) (fl := fl12) (s := sdN w c b) (sd_lt hw c b) (J := fun v os => fnd (qD w b c a) v = none ∧ os = z12 g d k i (b : Nat) (c : Nat) s (a : Nat) (sdN w c b : Nat) .ready) (E := fun os => os = e12 g d k i (b : Nat) (c : Nat) s (a : Nat) (sdN w c b : Nat) (fnd (qD w b c a) 16)) (os0 := z12 g d k i (b : Nat) (c : Nat) s (a : Nat) (sdN w c b : Nat) .ready)
          ⟨52, 10, 0, by kernel_rfl⟩ ?_ ?_ ?_ ⟨rfl, rfl⟩ (by kernel_rfl)
        · rintro v os hv hbv ⟨h1, h2⟩
          exact ⟨by rw [fnd, h1]; exact if_neg fun h => (Bool.noConfusion (hbv.symm.trans h.1)), h2⟩
        · rintro v os hv hbv ⟨h1, rfl⟩
          rw [hnx2]
          exact y11 hg hd hw hgr k i s _ ha hv hbv h1
        · rintro os ⟨h1, rfl⟩
          rw [h1]
          rfl
      · rintro v A' ⟨os, rfl, rfl⟩
        rw [hl, ← hqa]
        cases hq : qA w b c a with
        | none =>
          have hn := paT2 r g d k i (b : Nat) (c : Nat) s (a : Nat) (sdN w c b : Nat)
          simp only [hg, hd, Bool.and_self, cond_true] at hn
          exact (hn _ _ _).trans (qq_ok ⟨rfl, rfl, rfl, rfl⟩)
        | some t =>
          have hn := paU2 r g d k i (b : Nat) (c : Nat) s (a : Nat) (sdN w c b : Nat) (t.1 : Nat) (t.2.1 : Nat) (t.2.2.1 : Nat) (t.2.2.2 : Nat)
          simp only [hg, hd, Bool.and_self, cond_true] at hn
          exact (hn _ _ _).trans (qq_ok ⟨t, rfl, rfl, rfl, rfl⟩)
  · rintro vs ms os ⟨hP, rfl, rfl, rfl⟩
    exact ⟨_, _, end8z g d k i (b : Nat) (c : Nat) s, _, cn9z hg hd k i (b : Nat) (c : Nat) s, .inl ⟨rfl, by rw [fnd, hI]; exact hP, rfl⟩⟩
  · rintro id vs ms os hf
    by_cases c0 : id = 0
    · subst c0
      rw [if_pos rfl] at hf ⊢
      obtain ⟨t, hP, rfl, rfl, rfl⟩ := hf
      refine ⟨_, _, end8s g d k i (b : Nat) (c : Nat) s _, _, cn9s hg hd k i (b : Nat) (c : Nat) s _, .inr ⟨rfl, ?_⟩⟩
      rw [show qE w b c = some t from fnd_some hI hP 16 ha]
      rfl
    · rw [if_neg c0] at hf
      exact hf.elim
  · rintro vs ms os hf
    exact hf.elim

end Go.Proofs

/- The reference's IsPath, run. -/
namespace Go.Proofs
open Go Go.Ev Go.Num
set_option linter.unusedVariables false
set_option linter.unusedSimpArgs false
set_option maxRecDepth 100000

theorem ipA (r : Mem) (b off len cap : Nat) (x0 x1 x2 x3 : Int) : (lvlT (SC r) (fun _ => none) .nil 7 2).call 22 [RS b off len cap, .agg ⟨[I x0, I x1, I x2, I x3]⟩] emptyA fin =
    bif decide (x0 < 0) then CR.ret (Value.bool false) (AW.mk 0 Tr.nil Tr.nil) else bif decide (x0 ≥ Int.ofNat len) then CR.ret (Value.bool false) (AW.mk 0 Tr.nil Tr.nil) else bif decide (x1 < 0) then CR.ret (Value.bool false) (AW.mk 0 Tr.nil Tr.nil) else bif decide (x1 ≥ Int.ofNat len) then CR.ret (Value.bool false) (AW.mk 0 Tr.nil Tr.nil) else bif decide (x2 < 0) then CR.ret (Value.bool false) (AW.mk 0 Tr.nil Tr.nil) else bif decide (x2 ≥ Int.ofNat len) then CR.ret (Value.bool false) (AW.mk 0 Tr.nil Tr.nil) else bif decide (x3 < 0) then CR.ret (Value.bool false) (AW.mk 0 Tr.nil Tr.nil) else bif decide (x3 ≥ Int.ofNat len) then CR.ret (Value.bool false) (AW.mk 0 Tr.nil Tr.nil) else bif x0 == x1 then CR.ret (Value.bool false) (AW.mk 0 Tr.nil Tr.nil) else bif decide (0 ≤ x0) then bif Nat.blt (Int.toNat x0) len then Option.casesOn (r b (Nat.add off (Nat.mul (Int.toNat x0) 1))) (CR.fail 423) fun val => bif isI IntKind.i64 val then bif !decide (x1 < 0) then bif Int.tmod (Int.fdiv (ofI val) (Int.ofNat 2 ^ min (Int.toNat x1) 64)) (Int.ofNat 2) == Int.ofNat 1 then bif x0 == x2 then CR.ret (Value.bool false) (AW.mk 0 Tr.nil Tr.nil) else bif decide (0 ≤ x0) then bif Nat.blt (Int.toNat x0) len then Option.casesOn (r b (Nat.add off (Nat.mul (Int.toNat x0) 1))) (CR.fail 423) fun val => bif isI IntKind.i64 val then bif !decide (x2 < 0) then bif Int.tmod (Int.fdiv (ofI val) (Int.ofNat 2 ^ min (Int.toNat x2) 64)) (Int.ofNat 2) == Int.ofNat 1 then CR.ret (Value.bool false) (AW.mk 0 Tr.nil Tr.nil) else bif x0 == x3 then CR.ret (Value.bool false) (AW.mk 0 Tr.nil Tr.nil) else bif decide (0 ≤ x0) then bif Nat.blt (Int.toNat x0) len then Option.casesOn (r b (Nat.add off (Nat.mul (Int.toNat x0) 1))) (CR.fail 423) fun val => bif isI IntKind.i64 val then bif !decide (x3 < 0) then bif Int.tmod (Int.fdiv (ofI val) (Int.ofNat 2 ^ min (Int.toNat x3) 64)) (Int.ofNat 2) == Int.ofNat 1 then CR.ret (Value.bool false) (AW.mk 0 Tr.nil Tr.nil) else bif x1 == x2 then CR.ret (Value.bool false) (AW.mk 0 Tr.nil Tr.nil) else bif decide (0 ≤ x1) then bif Nat.blt (Int.toNat x1) len then Option.casesOn (r b (Nat.add off (Nat.mul (Int.toNat x1) 1))) (CR.fail 423) fun val => bif isI IntKind.i64 val then bif !decide (x2 < 0) then bif Int.tmod (Int.fdiv (ofI val) (Int.ofNat 2 ^ min (Int.toNat x2) 64)) (Int.ofNat 2) == Int.ofNat 1 then bif x1 == x3 then CR.ret (Value.bool false) (AW.mk 0 Tr.nil Tr.nil) else bif decide (0 ≤ x1) then bif Nat.blt (Int.toNat x1) len then Option.casesOn (r b (Nat.add off (Nat.mul (Int.toNat x1) 1))) (CR.fail 423) fun val => bif isI IntKind.i64 val then bif !decide (x3 < 0) then bif Int.tmod (Int.fdiv (ofI val) (Int.ofNat 2 ^ min (Int.toNat x3) 64)) (Int.ofNat 2) == Int.ofNat 1 then CR.ret (Value.bool false) (AW.mk 0 Tr.nil Tr.nil) else bif x2 == x3 then CR.ret (Value.bool false) (AW.mk 0 Tr.nil Tr.nil) else bif decide (0 ≤ x2) then bif Nat.blt (Int.toNat x2) len then Option.casesOn (r b (Nat.add off (Nat.mul (Int.toNat x2) 1))) (CR.fail 423) fun val => bif isI IntKind.i64 val then bif !decide (x3 < 0) then bif Int.tmod (Int.fdiv (ofI val) (Int.ofNat 2 ^ min (Int.toNat x3) 64)) (Int.ofNat 2) == Int.ofNat 1 then CR.ret (Value.bool true) (AW.mk 0 Tr.nil Tr.nil) else CR.ret (Value.bool false) (AW.mk 0 Tr.nil Tr.nil) else CR.fail 420 else CR.fail 420 else CR.fail 420 else CR.fail 420 else CR.fail 420 else CR.fail 420 else CR.fail 420 else CR.fail 420 else CR.ret (Value.bool false) (AW.mk 0 Tr.nil Tr.nil) else CR.fail 420 else CR.fail 420 else CR.fail 420 else CR.fail 420 else CR.fail 420 else CR.fail 420 else CR.fail 420 else CR.fail 420 else CR.fail 420 else CR.fail 420 else CR.fail 420 else CR.fail 420 else CR.ret (Value.bool false) (AW.mk 0 Tr.nil Tr.nil) else CR.fail 420 else CR.fail 420 else CR.fail 420 else CR.fail 420 := by kernel_rfl

end Go.Proofs

/- The reference's IsPath: what the call answers. -/
namespace Go.Num
open Go.Proofs

def ipN (w : Nat → Nat) (a b c d : Nat) : Bool :=
  !(a == b) && (btN (w a) b && (!(a == c) && (!btN (w a) c && (!(a == d) && (!btN (w a) d && (!(b == c) && (btN (w b) c && (!(b == d) && (!btN (w b) d && (!(c == d) && btN (w c) d))))))))))
def ipI (w : Nat → Nat) (m : Nat) (x0 x1 x2 x3 : Int) : Bool :=
  !decide (x0 < 0) && (!decide (x0 ≥ Int.ofNat m) && (!decide (x1 < 0) && (!decide (x1 ≥ Int.ofNat m) && (!decide (x2 < 0) && (!decide (x2 ≥ Int.ofNat m) && (!decide (x3 < 0) && (!decide (x3 ≥ Int.ofNat m) && ipN w x0.toNat x1.toNat x2.toNat x3.toNat)))))))

end Go.Num
namespace Go.Proofs
open Go Go.Ev Go.Num
set_option linter.unusedVariables false
set_option linter.unusedSimpArgs false
set_option maxRecDepth 100000

theorem iInc {a : Nat} (h : a < 1000000) : IntKind.wrap IntKind.i64 (((a : Nat) : Int) + Int.ofNat 1) = ((a + 1 : Nat) : Int) := by rw [wrI (by simp; omega)]; simp
theorem bitT {x k : Nat} (hk : k ≤ 16) : (Int.tmod (Int.fdiv ((x : Nat) : Int) (Int.ofNat 2 ^ min k 64)) (Int.ofNat 2) == Int.ofNat 1) = btN x k := by
  rw [shr_nat x k (by omega)]
  unfold btN
  have : ∀ x : Nat, Int.tmod (x : Int) (Int.ofNat 2) = ((x % 2 : Nat) : Int) := fun x => by
    show Int.tmod (x : Int) 2 = _
    rw [Int.tmod_eq_emod_of_nonneg (by omega)]
    omega
  rw [this]
  rcases Nat.mod_two_eq_zero_or_one (x / 2 ^ k) with h | h <;> rw [h] <;> rfl
def rB (b : Bool) : CR := .ret (.bool b) emptyA
theorem L1 (x : Bool) {y : CR} {z : Bool} (h : x = false → y = rB z) : (bif x then rB false else y) = rB (!x && z) := by
  cases x with
  | true => rfl
  | false => exact h rfl
theorem L2 (x : Bool) {y : CR} {z : Bool} (h : x = true → y = rB z) : (bif x then y else rB false) = rB (x && z) := by
  cases x with
  | false => rfl
  | true => exact h rfl

theorem ip_ok (r : Mem) (b off m cap : Nat) (hm : m ≤ 16) (w : Nat → Nat) (hr : ∀ k, k < m → r b (off + k) = some (I (w k : Nat))) (x0 x1 x2 x3 : Int) :
    GrT Tryz.prog r 22 [RS b off m cap, .agg ⟨[I x0, I x1, I x2, I x3]⟩] (.bool (ipI w m x0 x1 x2 x3)) :=
  GrT.of (SC_ok r) TOk.nil .nil rfl ⟨7, 2, by
    rw [ipA]
    refine L1 _ fun h0 => L1 _ fun h1 => L1 _ fun h2 => L1 _ fun h3 => L1 _ fun h4 => L1 _ fun h5 => L1 _ fun h6 => L1 _ fun h7 => ?_
    have h0 := of_decide_eq_false h0
    have h1 := of_decide_eq_false h1
    have h2 := of_decide_eq_false h2
    have h3 := of_decide_eq_false h3
    have h4 := of_decide_eq_false h4
    have h5 := of_decide_eq_false h5
    have h6 := of_decide_eq_false h6
    have h7 := of_decide_eq_false h7
    obtain ⟨x, rfl⟩ := Int.eq_ofNat_of_zero_le (show 0 ≤ x0 by omega)
    obtain ⟨y, rfl⟩ := Int.eq_ofNat_of_zero_le (show 0 ≤ x1 by omega)
    obtain ⟨z, rfl⟩ := Int.eq_ofNat_of_zero_le (show 0 ≤ x2 by omega)
    obtain ⟨t, rfl⟩ := Int.eq_ofNat_of_zero_le (show 0 ≤ x3 by omega)
    have g1 : x < m := by simp at h1; omega
    have g2 : y < m := by simp at h3; omega
    have g3 : z < m := by simp at h5; omega
    have g4 : t < m := by simp at h7; omega
    have p0 : ∀ k : Nat, decide (0 ≤ (k : Int)) = true := fun k => decide_eq_true (by omega)
    have n0 : ∀ k : Nat, decide ((k : Int) < 0) = false := fun k => decide_eq_false (by omega)
    have bl : ∀ k, k < m → Nat.blt k m = true := fun k h => Nat.ble_eq_true_of_le h
    have rr : ∀ k, k < m → r b (Nat.add off (Nat.mul k 1)) = some (I (w k : Nat)) := fun k h => by rw [Nat.mul_eq, Nat.mul_one]; exact hr k h
    have ii : ∀ x, isI IntKind.i64 (I x) = true := fun _ => rfl
    have oo : ∀ x, ofI (I x) = x := fun _ => rfl
    have eqn : ∀ a c : Nat, ((a : Int) == (c : Int)) = (a == c) := fun a c => by rw [Bool.eq_iff_iff, beq_iff_eq, beq_iff_eq]; exact Int.ofNat_inj
    simp only [p0, n0, bl x g1, bl y g2, bl z g3, rr x g1, rr y g2, rr z g3, ii, oo, Int.toNat_natCast, bitT (show y ≤ 16 by omega), bitT (show z ≤ 16 by omega), bitT (show t ≤ 16 by omega), Bool.not_false, cond_true, eqn]
    exact L1 _ fun _ => L2 _ fun _ => L1 _ fun _ => L1 _ fun _ => L1 _ fun _ => L1 _ fun _ => L1 _ fun _ => L2 _ fun _ => L1 _ fun _ => L1 _ fun _ => L1 _ fun _ => by cases btN (w z) t <;> rfl⟩

/-- IsPath, at this row. -/
noncomputable def eIP (g : Value) (q : Int → Int → Int → Int → Bool) : Ent := ent (fun args _ => match args with | [v, .agg ⟨[.int .i64 _, .int .i64 _, .int .i64 _, .int .i64 _]⟩] => m_same [v] [g] | _ => false) (fun args _ => match args with | [_, .agg ⟨[.int .i64 a, .int .i64 b, .int .i64 c, .int .i64 d]⟩] => .bool (q a b c d) | _ => undef)
theorem eIP_ok (r : Mem) {b off len cap : Nat} {q : Int → Int → Int → Int → Bool} (h : ∀ x y z t, GrT Tryz.prog r 22 [RS b off len cap, .agg ⟨[I x, I y, I z, I t]⟩] (.bool (q x y z t))) : EOk (SC r) 22 (eIP (RS b off len cap) q) := EOk.ent fun args A hg => by
  split at hg
  · rename_i v x y z t
    have h1 := @of_decide_eq_true _ (Classical.propDecidable _) hg
    cases h1
    exact (h x y z t).ro rfl A
  · cases hg

end Go.Proofs

/- The reference's search for a path, run. -/
namespace Go.Proofs
open Go Go.Ev Go.Num
set_option linter.unusedVariables false
set_option linter.unusedSimpArgs false
set_option maxRecDepth 100000

noncomputable def cHp : Code := bodyOf S0 21
noncomputable def Hp_0 : Code := (lc cHp)
noncomputable def Hp_1 : Code := (lc (rc cHp))
noncomputable def Hp_2 : Code := (lc (lc (rc (rc cHp))))
noncomputable def bHa : Code := (ic (ic (rc (lc (rc (rc cHp))))))
noncomputable def Hp_3 : Code := (lc bHa)
noncomputable def yHa : Code := (ic (lc (rc bHa)))
noncomputable def Hp_4 : Code := (lc yHa)
noncomputable def bHb : Code := (ic (ic (rc yHa)))
noncomputable def Hp_5 : Code := (lc bHb)
noncomputable def yHb : Code := (ic (lc (rc bHb)))
noncomputable def Hp_6 : Code := (lc yHb)
noncomputable def bHc : Code := (ic (ic (rc yHb)))
noncomputable def Hp_7 : Code := (lc bHc)
noncomputable def yHc : Code := (ic (lc (rc bHc)))
noncomputable def Hp_8 : Code := (lc yHc)
noncomputable def Hp_9 : Code := (ic (ic (rc yHc)))
noncomputable def Hp_10 : Code := (rc (rc bHc))
noncomputable def Hp_11 : Code := (rc (rc bHb))
noncomputable def Hp_12 : Code := (rc (rc bHa))
noncomputable def Hp_13 : Code := (rc (rc (rc cHp)))
theorem Hp_eq : cHp = (.seq Hp_0 (.seq Hp_1 (.seq (.seq Hp_2 (.block 0 (.loop (.seq Hp_3 (.seq (.block 1 (.seq Hp_4 (.block 2 (.loop (.seq Hp_5 (.seq (.block 3 (.seq Hp_6 (.block 4 (.loop (.seq Hp_7 (.seq (.block 5 (.seq Hp_8 (.block 6 (.loop Hp_9)))) Hp_10)))))) Hp_11)))))) Hp_12))))) Hp_13))) := by kernel_rfl
def lvPa : List Nat := [0, 3, 4]
def vPa (b off m cap : Nat) (x : Int) : OV := [some (RS b off m cap), some (I (m : Nat)), some (I x)]
def lvPb : List Nat := [0, 3, 4, 5]
def vPb (b off m cap : Nat) (x y : Int) : OV := [some (RS b off m cap), some (I (m : Nat)), some (I x), some (I y)]
def lvPc : List Nat := [0, 3, 4, 5, 6]
def vPc (b off m cap : Nat) (x y z : Int) : OV := [some (RS b off m cap), some (I (m : Nat)), some (I x), some (I y), some (I z)]
def lvPd : List Nat := [0, 3, 4, 5, 6, 7]
def vPd (b off m cap : Nat) (x y z t : Int) : OV := [some (RS b off m cap), some (I (m : Nat)), some (I x), some (I y), some (I z), some (I t)]
noncomputable def tHp (g : Value) (q : Int → Int → Int → Int → Bool) : Tbl := tcons 22 (eIP g q) fun _ => none

theorem hpA (r : Mem) (b off m cap : Nat) (fs : FnsC) (K : OV → List Nat → OO → CR) (kx : Nat → KS) (kr : KS) : run (SC r) 253 57 1 (.seq Hp_0 (.seq Hp_1 Hp_2)) fs none (rbK 0 lvPa [] K) kx kr (sc0 253 [RS b off m cap]) (tr0 253 [RS b off m cap]) [] emptyA =
    K [some (Value.slice (some (Addr.mk b off (some 0))) m cap), some (Value.int IntKind.i64 (Int.ofNat m)), some (Value.int IntKind.i64 (Int.ofNat 0))] [] [] := by kernel_rfl

theorem hpB (r : Mem) (b off m cap : Nat) (x : Int) (fs : FnsC) (K : OV → List Nat → OO → CR) (KX : Nat → OV → List Nat → OO → CR) (kr : KS) : run (SC r) 253 57 1 Hp_3 fs none (rbK 0 lvPa [] K) (fun i => rbK 0 [] [] (KX i)) kr [] (bT lvPa (vPa b off m cap x) .nil) [] (mkA []) =
    bif decide (x < Int.ofNat m) then K [some (Value.slice (some (Addr.mk b off (some 0))) m cap), some (Value.int IntKind.i64 (Int.ofNat m)), some (Value.int IntKind.i64 x)] [] [] else KX 0 [] [] [] := by kernel_rfl

theorem hpC (r : Mem) (b off m cap : Nat) (x : Int) (fs : FnsC) (K : OV → List Nat → OO → CR) (kx : Nat → KS) (kr : KS) : run (SC r) 253 57 1 Hp_4 fs none (rbK 0 lvPb [] K) kx kr [] (bT lvPa (vPa b off m cap x) .nil) [] (mkA []) =
    K [some (Value.slice (some (Addr.mk b off (some 0))) m cap), some (Value.int IntKind.i64 (Int.ofNat m)), some (Value.int IntKind.i64 x), some (Value.int IntKind.i64 (Int.ofNat 0))] [] [] := by kernel_rfl

theorem hpD (r : Mem) (b off m cap : Nat) (x y : Int) (fs : FnsC) (K : OV → List Nat → OO → CR) (KX : Nat → OV → List Nat → OO → CR) (kr : KS) : run (SC r) 253 57 1 Hp_5 fs none (rbK 0 lvPb [] K) (fun i => rbK 0 lvPa [] (KX i)) kr [] (bT lvPb (vPb b off m cap x y) .nil) [] (mkA []) =
    bif decide (y < Int.ofNat m) then K [some (Value.slice (some (Addr.mk b off (some 0))) m cap), some (Value.int IntKind.i64 (Int.ofNat m)), some (Value.int IntKind.i64 x), some (Value.int IntKind.i64 y)] [] [] else KX 2 [some (Value.slice (some (Addr.mk b off (some 0))) m cap), some (Value.int IntKind.i64 (Int.ofNat m)), some (Value.int IntKind.i64 x)] [] [] := by kernel_rfl

theorem hpE (r : Mem) (b off m cap : Nat) (x y : Int) (fs : FnsC) (K : OV → List Nat → OO → CR) (kx : Nat → KS) (kr : KS) : run (SC r) 253 57 1 Hp_6 fs none (rbK 0 lvPc [] K) kx kr [] (bT lvPb (vPb b off m cap x y) .nil) [] (mkA []) =
    K [some (Value.slice (some (Addr.mk b off (some 0))) m cap), some (Value.int IntKind.i64 (Int.ofNat m)), some (Value.int IntKind.i64 x), some (Value.int IntKind.i64 y), some (Value.int IntKind.i64 (Int.ofNat 0))] [] [] := by kernel_rfl

theorem hpF (r : Mem) (b off m cap : Nat) (x y z : Int) (fs : FnsC) (K : OV → List Nat → OO → CR) (KX : Nat → OV → List Nat → OO → CR) (kr : KS) : run (SC r) 253 57 1 Hp_7 fs none (rbK 0 lvPc [] K) (fun i => rbK 0 lvPb [] (KX i)) kr [] (bT lvPc (vPc b off m cap x y z) .nil) [] (mkA []) =
    bif decide (z < Int.ofNat m) then bif decide (0 ≤ x) then bif Nat.blt (Int.toNat x) m then Option.casesOn (r b (Nat.add off (Nat.mul (Int.toNat x) 1))) (CR.fail 423) fun val => bif isI IntKind.i64 val then bif !decide (y < 0) then bif Int.tmod (Int.fdiv (ofI val) (Int.ofNat 2 ^ min (Int.toNat y) 64)) (Int.ofNat 2) == Int.ofNat 1 then K [some (Value.slice (some (Addr.mk b off (some 0))) m cap), some (Value.int IntKind.i64 (Int.ofNat m)), some (Value.int IntKind.i64 x), some (Value.int IntKind.i64 y), some (Value.int IntKind.i64 z)] [] [] else KX 4 [some (Value.slice (some (Addr.mk b off (some 0))) m cap), some (Value.int IntKind.i64 (Int.ofNat m)), some (Value.int IntKind.i64 x), some (Value.int IntKind.i64 y)] [] [] else CR.fail 420 else CR.fail 420 else CR.fail 420 else CR.fail 420 else KX 4 [some (Value.slice (some (Addr.mk b off (some 0))) m cap), some (Value.int IntKind.i64 (Int.ofNat m)), some (Value.int IntKind.i64 x), some (Value.int IntKind.i64 y)] [] [] := by kernel_rfl

theorem hpG (r : Mem) (b off m cap : Nat) (x y z : Int) (fs : FnsC) (K : OV → List Nat → OO → CR) (kx : Nat → KS) (kr : KS) : run (SC r) 253 57 1 Hp_8 fs none (rbK 0 lvPd [] K) kx kr [] (bT lvPc (vPc b off m cap x y z) .nil) [] (mkA []) =
    K [some (Value.slice (some (Addr.mk b off (some 0))) m cap), some (Value.int IntKind.i64 (Int.ofNat m)), some (Value.int IntKind.i64 x), some (Value.int IntKind.i64 y), some (Value.int IntKind.i64 z), some (Value.int IntKind.i64 (Int.ofNat 0))] [] [] := by kernel_rfl

theorem hpH (r : Mem) (b off m cap : Nat) (x y z t : Int) (q : Int → Int → Int → Int → Bool) (K : OV → List Nat → OO → CR) (KX : Nat → OV → List Nat → OO → CR) (KR : OV → List Nat → OO → CR) : run (SC r) 253 57 1 Hp_9 (lvlT (SC r) (tHp (RS b off m cap) q) .nil 1 1) none (rbK 0 lvPd [] K) (fun i => rbK 0 lvPc [] (KX i)) (rbK 0 [2] [] KR) [] (bT lvPd (vPd b off m cap x y z t) .nil) [] (mkA []) =
    bif decide (t < Int.ofNat m) then bif decide (0 ≤ y) then bif Nat.blt (Int.toNat y) m then Option.casesOn (r b (Nat.add off (Nat.mul (Int.toNat y) 1))) (CR.fail 423) fun val => bif isI IntKind.i64 val then bif !decide (z < 0) then bif Int.tmod (Int.fdiv (ofI val) (Int.ofNat 2 ^ min (Int.toNat z) 64)) (Int.ofNat 2) == Int.ofNat 1 then bif m_same [Value.slice (some (Addr.mk b off (some 0))) m cap] [Value.slice (some (Addr.mk b off (some 0))) m cap] then bif q x y z t then KR [some (Value.bool true)] [] [] else K [some (Value.slice (some (Addr.mk b off (some 0))) m cap), some (Value.int IntKind.i64 (Int.ofNat m)), some (Value.int IntKind.i64 x), some (Value.int IntKind.i64 y), some (Value.int IntKind.i64 z), some (Value.int IntKind.i64 (IntKind.wrap IntKind.i64 (t + Int.ofNat 1)))] [] [] else CR.fail 420 else KX 6 [some (Value.slice (some (Addr.mk b off (some 0))) m cap), some (Value.int IntKind.i64 (Int.ofNat m)), some (Value.int IntKind.i64 x), some (Value.int IntKind.i64 y), some (Value.int IntKind.i64 z)] [] [] else CR.fail 420 else CR.fail 420 else CR.fail 420 else CR.fail 420 else KX 6 [some (Value.slice (some (Addr.mk b off (some 0))) m cap), some (Value.int IntKind.i64 (Int.ofNat m)), some (Value.int IntKind.i64 x), some (Value.int IntKind.i64 y), some (Value.int IntKind.i64 z)] [] [] := by kernel_rfl

theorem hpI (r : Mem) (b off m cap : Nat) (x y z : Int) (fs : FnsC) (K : OV → List Nat → OO → CR) (kx : Nat → KS) (kr : KS) : run (SC r) 253 57 1 Hp_10 fs none (rbK 0 lvPc [] K) kx kr [] (bT lvPc (vPc b off m cap x y z) .nil) [] (mkA []) =
    K [some (Value.slice (some (Addr.mk b off (some 0))) m cap), some (Value.int IntKind.i64 (Int.ofNat m)), some (Value.int IntKind.i64 x), some (Value.int IntKind.i64 y), some (Value.int IntKind.i64 (IntKind.wrap IntKind.i64 (z + Int.ofNat 1)))] [] [] := by kernel_rfl

theorem hpJ (r : Mem) (b off m cap : Nat) (x y : Int) (fs : FnsC) (K : OV → List Nat → OO → CR) (kx : Nat → KS) (kr : KS) : run (SC r) 253 57 1 Hp_11 fs none (rbK 0 lvPb [] K) kx kr [] (bT lvPb (vPb b off m cap x y) .nil) [] (mkA []) =
    K [some (Value.slice (some (Addr.mk b off (some 0))) m cap), some (Value.int IntKind.i64 (Int.ofNat m)), some (Value.int IntKind.i64 x), some (Value.int IntKind.i64 (IntKind.wrap IntKind.i64 (y + Int.ofNat 1)))] [] [] := by kernel_rfl

theorem hpK (r : Mem) (b off m cap : Nat) (x : Int) (fs : FnsC) (K : OV → List Nat → OO → CR) (kx : Nat → KS) (kr : KS) : run (SC r) 253 57 1 Hp_12 fs none (rbK 0 lvPa [] K) kx kr [] (bT lvPa (vPa b off m cap x) .nil) [] (mkA []) =
    K [some (Value.slice (some (Addr.mk b off (some 0))) m cap), some (Value.int IntKind.i64 (Int.ofNat m)), some (Value.int IntKind.i64 (IntKind.wrap IntKind.i64 (x + Int.ofNat 1)))] [] [] := by kernel_rfl

theorem hpL (r : Mem) (fs : FnsC) (K KR : OV → List Nat → OO → CR) (kx : Nat → KS) : run (SC r) 253 57 1 Hp_13 fs none (rbK 0 [2] [] K) kx (rbK 0 [2] [] KR) [] (bT [] [] .nil) [] (mkA []) =
    KR [some (Value.bool false)] [] [] := by kernel_rfl

end Go.Proofs

/- The reference's search for a path: what the call answers. -/
namespace Go.Num
open Go.Proofs

def anyN (P : Nat → Bool) : Nat → Bool
  | 0 => false
  | k + 1 => anyN P k || P k
theorem any_true {P : Nat → Bool} {t : Nat} (h : P t = true) : ∀ m, t < m → anyN P m = true
  | 0, hm => by omega
  | m + 1, hm => by
    rw [anyN]
    by_cases c : t = m
    · subst c; rw [h, Bool.or_true]
    · rw [any_true h m (by omega), Bool.true_or]
theorem any_false {P : Nat → Bool} : ∀ {m : Nat}, anyN P m = false → ∀ k, k < m → P k = false
  | 0, _, k, hk => by omega
  | m + 1, h, k, hk => by
    rw [anyN, Bool.or_eq_false_iff] at h
    by_cases c : k = m
    · subst c; exact h.2
    · exact any_false h.1 k (by omega)
theorem any_of {P : Nat → Bool} : ∀ {m : Nat}, (∀ k, k < m → P k = false) → anyN P m = false
  | 0, _ => rfl
  | m + 1, h => by rw [anyN, any_of fun k hk => h k (by omega), h m (by omega)]; rfl
theorem any_use {P : Nat → Bool} : ∀ {m : Nat}, anyN P m = true → ∃ k, k < m ∧ P k = true
  | 0, h => nomatch h
  | m + 1, h => by
    rw [anyN, Bool.or_eq_true] at h
    rcases h with h | h
    · obtain ⟨k, h1, h2⟩ := any_use h
      exact ⟨k, by omega, h2⟩
    · exact ⟨m, by omega, h⟩
def cpP (w : Nat → Nat) (q : Nat → Nat → Nat → Nat → Bool) (m x y z : Nat) : Bool := btN (w y) z && anyN (q x y z) m
def bpP (w : Nat → Nat) (q : Nat → Nat → Nat → Nat → Bool) (m x y : Nat) : Bool := btN (w x) y && anyN (cpP w q m x y) m
def apP (w : Nat → Nat) (q : Nat → Nat → Nat → Nat → Bool) (m x : Nat) : Bool := anyN (bpP w q m x) m
def hpP (w : Nat → Nat) (q : Nat → Nat → Nat → Nat → Bool) (m : Nat) : Bool := anyN (apP w q m) m

end Go.Num
namespace Go.Proofs
open Go Go.Ev Go.Num
set_option linter.unusedVariables false
set_option linter.unusedSimpArgs false
set_option maxRecDepth 100000

theorem rhasp_ok (r : Mem) (b off m cap : Nat) (hm : m ≤ 16) (w : Nat → Nat) (hr : ∀ k, k < m → r b (off + k) = some (I (w k : Nat))) {qi : Int → Int → Int → Int → Bool} (q : Nat → Nat → Nat → Nat → Bool) (hqi : ∀ x y z t : Nat, qi (x : Nat) (y : Nat) (z : Nat) (t : Nat) = q x y z t)
    (hq : EOk (SC r) 22 (eIP (RS b off m cap) qi)) :
    GrT Tryz.prog r 21 [RS b off m cap] (.bool (hpP w q m)) := by
  have sm : ∀ l : List Value, m_same l l = true := same_rfl
  have ht : TOk (SC r) (tHp (RS b off m cap) qi) := TOk.cons TOk.nil hq
  have p0 : ∀ k : Nat, decide (0 ≤ (k : Int)) = true := fun k => decide_eq_true (by omega)
  have n0 : ∀ k : Nat, decide ((k : Int) < 0) = false := fun k => decide_eq_false (by omega)
  have bl : ∀ k, k < m → Nat.blt k m = true := fun k h => Nat.ble_eq_true_of_le h
  have rr : ∀ k, k < m → r b (Nat.add off (Nat.mul k 1)) = some (I (w k : Nat)) := fun k h => by rw [Nat.mul_eq, Nat.mul_one]; exact hr k h
  have ii : ∀ x, isI IntKind.i64 (I x) = true := fun _ => rfl
  have oo : ∀ x, ofI (I x) = x := fun _ => rfl
  have lt : ∀ k : Nat, decide ((k : Int) < Int.ofNat m) = decide (k < m) := fun k => by rw [Bool.eq_iff_iff, decide_eq_true_eq, decide_eq_true_eq]; exact Int.ofNat_lt
  refine GrT.ofS (C := SC r) rfl rfl rfl (callO (SC_ok r) (by kernel_rfl) ((bodySC r _).trans Hp_eq) (nt := 57) (by kernel_rfl) (rs := [.tmp 2]) (by kernel_rfl) 253 rfl
    ⟨[2], [], fun vs ms os => vs = [some (.bool (hpP w q m))] ∧ ms = [] ∧ os = []⟩ ?_ fun γ W F k hwr hF hro h0 => ?_)
  · rintro vs ms os ⟨rfl, rfl, rfl⟩
    exact ⟨_, mkA [], by kernel_rfl, rfl⟩
  have h0 : ∀ i, 0 ≤ i → γ i = none := h0
  let A0 : Nat → Outs := fun x => ⟨lvPa, [], fun vs ms os => x < m ∧ vs = vPa b off m cap (x : Nat) ∧ ms = [] ∧ os = []⟩
  let A1 : Nat → Outs := fun x => ⟨lvPa, [], fun vs ms os => apP w q m x = false ∧ vs = vPa b off m cap (x : Nat) ∧ ms = [] ∧ os = []⟩
  let B1 : Nat → Nat → Outs := fun x y => ⟨lvPb, [], fun vs ms os => bpP w q m x y = false ∧ vs = vPb b off m cap (x : Nat) (y : Nat) ∧ ms = [] ∧ os = []⟩
  let C1 : Nat → Nat → Nat → Outs := fun x y z => ⟨lvPc, [], fun vs ms os => cpP w q m x y z = false ∧ vs = vPc b off m cap (x : Nat) (y : Nat) (z : Nat) ∧ ms = [] ∧ os = []⟩
  let Z : Outs := ⟨[], [], fun vs ms os => hpP w q m = false ∧ vs = [] ∧ ms = [] ∧ os = []⟩
  refine Go.Ev.Reach.after3R (SC_ok r) TOk.nil (tm := .nil) (L := 1) (L' := 1) (d := 1) hF hro h0 (.step (.step .base))
    (o1 := ⟨lvPa, [], fun vs ms os => vs = vPa b off m cap ((0 : Nat) : Int) ∧ ms = [] ∧ os = []⟩) (o2 := Z) [] (fun p hp => nomatch hp) ?_ ?_ ?_
  · rintro vs ms os ⟨rfl, rfl, rfl⟩
    refine Go.Ev.Reach.blockC (Go.Ev.Reach.loopC (j := m) (lv := lvPa) (fl := []) (I := fun j vs ms os => ∃ x, x ≤ m ∧ j = m - x ∧ anyN (apP w q m) x = false ∧ vs = vPa b off m cap (x : Nat) ∧ ms = [] ∧ os = []) (fun j vs ms os hI => ?_) ⟨0, by omega, rfl, rfl, rfl, rfl, rfl⟩)
    obtain ⟨x, hx, rfl, hax, rfl, rfl, rfl⟩ := hI
    refine Go.Ev.Reach.seqC (o1 := A0 x) (Go.Ev.Reach.segR (SC_ok r) TOk.nil (tm := .nil) (L := 1) (L' := 1) (d := 1) hF hro h0 [(0, Z)] (fun p hp => by simp only [List.mem_cons, List.not_mem_nil, or_false] at hp; subst hp; rfl) ?_) ?_
    · have hn := hpB r b off m cap x
      rw [lt] at hn
      by_cases c : x < m
      · rw [decide_eq_true c] at hn
        exact (hn _ _ _ _).trans (qq_ok ⟨c, rfl, rfl, rfl⟩)
      · rw [decide_eq_false c] at hn
        obtain rfl : x = m := by omega
        exact (hn _ _ _ _).trans (qq_ok ⟨hax, rfl, rfl, rfl⟩)
    rintro vs ms os ⟨hxm, rfl, rfl, rfl⟩
    refine Go.Ev.Reach.seqC (o1 := A1 x) (Go.Ev.Reach.blockC ?_) ?_
    · refine Go.Ev.Reach.seqC (o1 := ⟨lvPb, [], fun vs ms os => vs = vPb b off m cap (x : Nat) ((0 : Nat) : Int) ∧ ms = [] ∧ os = []⟩) (Go.Ev.Reach.segR (SC_ok r) TOk.nil (tm := .nil) (L := 1) (L' := 1) (d := 1) hF hro h0 [] (fun p hp => nomatch hp) ((hpC r b off m cap x _ _ _ _).trans (qq_ok ⟨rfl, rfl, rfl⟩))) ?_
      rintro vs ms os ⟨rfl, rfl, rfl⟩
      refine Go.Ev.Reach.blockC (Go.Ev.Reach.loopC (j := m) (lv := lvPb) (fl := []) (I := fun j vs ms os => ∃ y, y ≤ m ∧ j = m - y ∧ anyN (bpP w q m x) y = false ∧ vs = vPb b off m cap (x : Nat) (y : Nat) ∧ ms = [] ∧ os = []) (fun j vs ms os hI => ?_) ⟨0, by omega, rfl, rfl, rfl, rfl, rfl⟩)
      obtain ⟨y, hy, rfl, hby, rfl, rfl, rfl⟩ := hI
      refine Go.Ev.Reach.seqC (o1 := ⟨lvPb, [], fun vs ms os => y < m ∧ vs = vPb b off m cap (x : Nat) (y : Nat) ∧ ms = [] ∧ os = []⟩) (Go.Ev.Reach.segR (SC_ok r) TOk.nil (tm := .nil) (L := 1) (L' := 1) (d := 1) hF hro h0 [(2, A1 x)] (fun p hp => by simp only [List.mem_cons, List.not_mem_nil, or_false] at hp; subst hp; rfl) ?_) ?_
      · have hn := hpD r b off m cap x y
        rw [lt] at hn
        by_cases c : y < m
        · rw [decide_eq_true c] at hn
          exact (hn _ _ _ _).trans (qq_ok ⟨c, rfl, rfl, rfl⟩)
        · rw [decide_eq_false c] at hn
          obtain rfl : y = m := by omega
          exact (hn _ _ _ _).trans (qq_ok ⟨hby, rfl, rfl, rfl⟩)
      rintro vs ms os ⟨hym, rfl, rfl, rfl⟩
      refine Go.Ev.Reach.seqC (o1 := B1 x y) (Go.Ev.Reach.blockC ?_) ?_
      · refine Go.Ev.Reach.seqC (o1 := ⟨lvPc, [], fun vs ms os => vs = vPc b off m cap (x : Nat) (y : Nat) ((0 : Nat) : Int) ∧ ms = [] ∧ os = []⟩) (Go.Ev.Reach.segR (SC_ok r) TOk.nil (tm := .nil) (L := 1) (L' := 1) (d := 1) hF hro h0 [] (fun p hp => nomatch hp) ((hpE r b off m cap x y _ _ _ _).trans (qq_ok ⟨rfl, rfl, rfl⟩))) ?_
        rintro vs ms os ⟨rfl, rfl, rfl⟩
        refine Go.Ev.Reach.blockC (Go.Ev.Reach.loopC (j := m) (lv := lvPc) (fl := []) (I := fun j vs ms os => ∃ z, z ≤ m ∧ j = m - z ∧ anyN (cpP w q m x y) z = false ∧ vs = vPc b off m cap (x : Nat) (y : Nat) (z : Nat) ∧ ms = [] ∧ os = []) (fun j vs ms os hI => ?_) ⟨0, by omega, rfl, rfl, rfl, rfl, rfl⟩)
        obtain ⟨z, hz, rfl, hcz, rfl, rfl, rfl⟩ := hI
        refine Go.Ev.Reach.seqC (o1 := ⟨lvPc, [], fun vs ms os => z < m ∧ btN (w x) y = true ∧ vs = vPc b off m cap (x : Nat) (y : Nat) (z : Nat) ∧ ms = [] ∧ os = []⟩) (Go.Ev.Reach.segR (SC_ok r) TOk.nil (tm := .nil) (L := 1) (L' := 1) (d := 1) hF hro h0 [(4, B1 x y)] (fun p hp => by simp only [List.mem_cons, List.not_mem_nil, or_false] at hp; subst hp; rfl) ?_) ?_
        · have hn := hpF r b off m cap x y z
          simp only [lt, p0, n0, bl x hxm, rr x hxm, ii, oo, Int.toNat_natCast, bitT (show y ≤ 16 by omega), Bool.not_false, cond_true] at hn
          by_cases c : z < m
          · simp only [decide_eq_true c, cond_true] at hn
            cases hb : btN (w x) y with
            | true =>
              simp only [hb, cond_true] at hn
              exact (hn _ _ _ _).trans (qq_ok ⟨c, rfl, rfl, rfl, rfl⟩)
            | false =>
              simp only [hb, cond_false] at hn
              exact (hn _ _ _ _).trans (qq_ok ⟨by unfold bpP; rw [hb]; rfl, rfl, rfl, rfl⟩)
          · simp only [decide_eq_false c, cond_false] at hn
            obtain rfl : z = m := by omega
            exact (hn _ _ _ _).trans (qq_ok ⟨by unfold bpP; rw [hcz, Bool.and_false], rfl, rfl, rfl⟩)
        rintro vs ms os ⟨hzm, hxy, rfl, rfl, rfl⟩
        refine Go.Ev.Reach.seqC (o1 := C1 x y z) (Go.Ev.Reach.blockC ?_) ?_
        · refine Go.Ev.Reach.seqC (o1 := ⟨lvPd, [], fun vs ms os => vs = vPd b off m cap (x : Nat) (y : Nat) (z : Nat) ((0 : Nat) : Int) ∧ ms = [] ∧ os = []⟩) (Go.Ev.Reach.segR (SC_ok r) TOk.nil (tm := .nil) (L := 1) (L' := 1) (d := 1) hF hro h0 [] (fun p hp => nomatch hp) ((hpG r b off m cap x y z _ _ _ _).trans (qq_ok ⟨rfl, rfl, rfl⟩))) ?_
          rintro vs ms os ⟨rfl, rfl, rfl⟩
          refine Go.Ev.Reach.blockC (Go.Ev.Reach.loopC (j := m) (lv := lvPd) (fl := []) (I := fun j vs ms os => ∃ t, t ≤ m ∧ j = m - t ∧ anyN (q x y z) t = false ∧ vs = vPd b off m cap (x : Nat) (y : Nat) (z : Nat) (t : Nat) ∧ ms = [] ∧ os = []) (fun j vs ms os hI => ?_) ⟨0, by omega, rfl, rfl, rfl, rfl, rfl⟩)
          obtain ⟨t, htm, rfl, hdt, rfl, rfl, rfl⟩ := hI
          refine Go.Ev.Reach.segR (SC_ok r) ht (tm := .nil) (L := 1) (L' := 1) (d := 1) hF hro h0 [(6, C1 x y z)] (fun p hp => by simp only [List.mem_cons, List.not_mem_nil, or_false] at hp; subst hp; rfl) ?_
          have hn := hpH r b off m cap x y z t qi
          simp only [lt, p0, n0, bl y hym, rr y hym, ii, oo, Int.toNat_natCast, bitT (show z ≤ 16 by omega), Bool.not_false, cond_true, sm, hqi, iInc (show t < 1000000 by omega)] at hn
          by_cases c : t < m
          · simp only [decide_eq_true c, cond_true] at hn
            cases hb : btN (w y) z with
            | true =>
              simp only [hb, cond_true] at hn
              cases hqq : q x y z t with
              | true =>
                simp only [hqq, cond_true] at hn
                have t1 : cpP w q m x y z = true := by unfold cpP; rw [hb, Bool.true_and]; exact any_true hqq m c
                have t2 : bpP w q m x y = true := by unfold bpP; rw [hxy, Bool.true_and]; exact any_true t1 m hzm
                have t3 : apP w q m x = true := any_true (P := bpP w q m x) t2 m hym
                have hT : hpP w q m = true := any_true t3 m hxm
                exact (hn _ _ _).trans (qq_ok ⟨by rw [hT], rfl, rfl⟩)
              | false =>
                simp only [hqq, cond_false] at hn
                exact (hn _ _ _).trans (qq_ok ⟨m - (t + 1), by omega, t + 1, c, rfl, by rw [anyN, hdt, hqq]; rfl, rfl, rfl, rfl⟩)
            | false =>
              simp only [hb, cond_false] at hn
              exact (hn _ _ _).trans (qq_ok ⟨by unfold cpP; rw [hb]; rfl, rfl, rfl, rfl⟩)
          · simp only [decide_eq_false c, cond_false] at hn
            obtain rfl : t = m := by omega
            exact (hn _ _ _).trans (qq_ok ⟨by unfold cpP; rw [hdt, Bool.and_false], rfl, rfl, rfl⟩)
        · rintro vs ms os ⟨hP, rfl, rfl, rfl⟩
          have hn := hpI r b off m cap x y z
          rw [iInc (by omega)] at hn
          exact Go.Ev.Reach.segR (SC_ok r) TOk.nil (tm := .nil) (L := 1) (L' := 1) (d := 1) hF hro h0 [] (fun p hp => nomatch hp) ((hn _ _ _ _).trans (qq_ok ⟨m - (z + 1), by omega, z + 1, hzm, rfl, by rw [anyN, hcz, hP]; rfl, rfl, rfl, rfl⟩))
      · rintro vs ms os ⟨hP, rfl, rfl, rfl⟩
        have hn := hpJ r b off m cap x y
        rw [iInc (by omega)] at hn
        exact Go.Ev.Reach.segR (SC_ok r) TOk.nil (tm := .nil) (L := 1) (L' := 1) (d := 1) hF hro h0 [] (fun p hp => nomatch hp) ((hn _ _ _ _).trans (qq_ok ⟨m - (y + 1), by omega, y + 1, hym, rfl, by rw [anyN, hby, hP]; rfl, rfl, rfl, rfl⟩))
    · rintro vs ms os ⟨hP, rfl, rfl, rfl⟩
      have hn := hpK r b off m cap x
      rw [iInc (by omega)] at hn
      exact Go.Ev.Reach.segR (SC_ok r) TOk.nil (tm := .nil) (L := 1) (L' := 1) (d := 1) hF hro h0 [] (fun p hp => nomatch hp) ((hn _ _ _ _).trans (qq_ok ⟨m - (x + 1), by omega, x + 1, hxm, rfl, by rw [anyN, hax, hP]; rfl, rfl, rfl, rfl⟩))
  · rintro vs ms os ⟨hP, rfl, rfl, rfl⟩
    exact Go.Ev.Reach.segR (SC_ok r) TOk.nil (tm := .nil) (L := 1) (L' := 1) (d := 1) hF hro h0 [] (fun p hp => nomatch hp) ((hpL r _ _ _ _).trans (qq_ok ⟨by rw [hP], rfl, rfl⟩))
  · exact (hpA r b off m cap _ _ _ _).trans (qq_ok ⟨rfl, rfl, rfl⟩)

end Go.Proofs

/- The search for a path: what the call answers. -/
namespace Go.Num
open Go.Proofs

def qI (w : Nat → Nat) (E : List (Nat × Nat)) (i : Nat) : Option T4 := qE w (E.getD i (0, 0)).1 (E.getD i (0, 0)).2
def paN (w : Nat → Nat) (E : List (Nat × Nat)) : Option T4 := fnd (qI w E) E.length

end Go.Num
namespace Go.Proofs
open Go Go.Ev Go.Num
set_option linter.unusedVariables false
set_option linter.unusedSimpArgs false
set_option maxRecDepth 100000

def vPt : Option T4 → Value
  | none => .tuple ⟨[.agg ⟨[I 0, I 0, I 0, I 0]⟩, .bool false]⟩
  | some t => .tuple ⟨[.agg ⟨[I (t.1 : Nat), I (t.2.1 : Nat), I (t.2.2.1 : Nat), I (t.2.2.2 : Nat)]⟩, .bool true]⟩
def oPe : Option T4 → OO
  | none => [o4 0 0 0 0 0, oB false 1]
  | some t => [o4 (t.1 : Nat) (t.2.1 : Nat) (t.2.2.1 : Nat) (t.2.2.2 : Nat) 0, oB true 1]
theorem finPa (r : Mem) (o : Option T4) : ∃ A', finish (SC r) 422238234885103 [.cell 2 45, .cell 3 4] (St.of [2, 3] [some (P0 0), some (P0 1)] [] (oPe o)) = .ret (vPt o) A' := by
  cases o with
  | none => exact ⟨mkA (oPe none), by kernel_rfl⟩
  | some t => exact ⟨mkA (oPe (some t)), by kernel_rfl⟩
theorem eOwn_ok (r : Mem) {g : List Value} (hg : gnd (.agg ⟨g⟩) = true) {p : Nat × Nat} {l : List (Nat × Nat)} (h : SOk (SC r) 25 [.agg ⟨g⟩] emptyA fun v A => v = vL (p :: l) ∧ A = mkA (oL (p :: l))) : EOk (SC r) 25 (eOwn [.agg ⟨g⟩] (l.length + 1) (pcE (p :: l))) := fun args A hgd F hF k γ W args' hw hR ha => by
  refine ⟨fun _ => ?_, fun h => nomatch h⟩
  have hs := @of_decide_eq_true _ (Classical.propDecidable _) hgd
  subst hs
  have hgm : GrM Tryz.prog r 25 [.agg ⟨g⟩] (vL (p :: l)) (rowA (pcE (p :: l)) 51 2) := GrM.ofS (C := SC r) rfl rfl h
  have hof : ofV 0 (vL (p :: l)) = true := by simp [vL, ofV, of1, gnd]
  exact hgm.ends (γ := γ) (A := A) hof (pcE_gnd _) hF hw (hR.noG noG fun _ => rfl) (ha.of_ros (by
    show roVs [.agg ⟨g⟩] = true
    simp only [roVs, roV, hg, Bool.or_true, Bool.true_or, Bool.and_self])) ha

theorem path_row (r : Mem) (hm : ∀ b j u, tabM b j = some u → r b j = some u) {n : Nat} (hn : n ≤ 16) {w : Nat → Nat} (hw : ∀ i, w i < 65536) {p : Nat × Nat} {l : List (Nat × Nat)} (hE : alE w n n = p :: l) :
    GrT Tryz.prog r 35 [.agg ⟨gC (n : Nat) fun i => (w i : Nat)⟩] (vPt (paN w (p :: l))) := by
  have sm : ∀ l : List Value, m_same l l = true := same_rfl
  have hgv : gnd (vPt (paN w (p :: l))) = true := by cases paN w (p :: l) <;> rfl
  have he := edges_ok' r hn hw
  rw [hE] at he
  have ht : TOk (SC r) (tPa (gC (n : Nat) fun i => (w i : Nat)) (l.length + 1) (pcE (p :: l))) := TOk.cons TOk.nil (eOwn_ok r rfl he)
  have hmem : ∀ i, i < l.length + 1 → ((p :: l).getD i (0, 0)).1 < 16 ∧ ((p :: l).getD i (0, 0)).2 < 16 := fun i hi => by
    have hin : (p :: l).getD i (0, 0) ∈ alE w n n := by
      rw [hE, List.getD_eq_getElem?_getD, List.getElem?_eq_getElem (show i < (p :: l).length from hi)]
      exact List.getElem_mem _
    have := alE_mem w n n _ hin
    omega
  have hg : m_nns (gC (n : Nat) fun i => (w i : Nat)) = true := rfl
  have hd : m_nns (pcE (p :: l)) = true := pcE_nn _
  have hgr := gC_get (n : Nat) fun i => (w i : Nat)
  have hk : (p :: l).length = l.length + 1 := rfl
  have hlen : l.length + 1 ≤ 300 := by
    have h1 := alE_len w n n
    have h3 : n * n ≤ 16 * 16 := Nat.mul_le_mul hn hn
    rw [hE] at h1
    rw [← hk]
    omega
  have hdr : ∀ i, i < l.length + 1 → (pcE (p :: l))[Nat.add 0 (Nat.mul i 2)]? = some (I (((p :: l).getD i (0, 0)).1 : Nat)) ∧ (pcE (p :: l))[Nat.succ (Nat.add 0 (Nat.mul i 2))]? = some (I (((p :: l).getD i (0, 0)).2 : Nat)) := fun i hi => by
    constructor
    · rw [show Nat.add 0 (Nat.mul i 2) = 2 * i by simp [Nat.mul_comm], pcE_get _ _ (by rw [hk]; omega), ← zE_a]
      rfl
    · rw [show Nat.succ (Nat.add 0 (Nat.mul i 2)) = 2 * i + 1 by simp [Nat.mul_comm], pcE_get _ _ (by rw [hk]; omega), ← zE_b]
      rfl
  clear he
  generalize hdd : pcE (p :: l) = d at *
  generalize hgg : (gC (n : Nat) fun i => (w i : Nat)) = g at *
  generalize hkk : l.length + 1 = k at *
  have hpa : paN w (p :: l) = fnd (qI w (p :: l)) k := by unfold paN; rw [hk]
  generalize hqd : qI w (p :: l) = q at hpa
  rw [hpa] at hgv ⊢
  refine GrT.ofS (C := SC r) rfl rfl hgv (callO (SC_ok r) (by kernel_rfl) ((bodySC r _).trans Pa_eq) (nt := 64) (by kernel_rfl) (rs := [.cell 2 45, .cell 3 4]) (by kernel_rfl) 422238234885103 rfl
    ⟨[2, 3], [.t, .t], fun vs ms os => vs = [some (P0 0), some (P0 1)] ∧ ms = [] ∧ os = oPe (fnd q k)⟩ ?_ fun γ W F k' hwr hF hro h0 => ?_)
  · rintro vs ms os ⟨rfl, rfl, rfl⟩
    obtain ⟨A', h⟩ := finPa r (fnd q k)
    exact ⟨_, A', h, rfl⟩
  have h0 : ∀ i, 0 ≤ i → γ i = none := h0
  let Z : Outs := ⟨[2, 3], [.t, .t], fun vs ms os => vs = [some (P0 0), some (P0 1)] ∧ ms = [] ∧ os = oPe (fnd q k)⟩
  have lt : ∀ i : Nat, decide ((i : Int) < Int.ofNat k) = decide (i < k) := fun i => by rw [Bool.eq_iff_iff, decide_eq_true_eq, decide_eq_true_eq]; exact Int.ofNat_lt
  have p0 : ∀ k : Nat, decide (0 ≤ (k : Int)) = true := fun k => decide_eq_true (by omega)
  have n0 : ∀ k : Nat, decide ((k : Int) < 0) = false := fun k => decide_eq_false (by omega)
  have bl : ∀ x m, x < m → Nat.blt x m = true := fun x m h => Nat.ble_eq_true_of_le h
  have ii : ∀ x, isI IntKind.u64 (U x) = true := fun _ => rfl
  have oo : ∀ x, ofI (U x) = x := fun _ => rfl
  have ii' : ∀ x, isI IntKind.i64 (I x) = true := fun _ => rfl
  have oo' : ∀ x, ofI (I x) = x := fun _ => rfl
  refine Go.Ev.Reach.seq (Go.Ev.Reach.mono (Go.Ev.Reach.segP (ro := none) (kn := run (SC r) 422238234885103 64 1 (.seq Pa_l Pa_1) (lvlT (SC r) (tPa g k d) .nil 1 2) none ((⟨lv0, fl0, fun vs ms os => vs = v0 k 0 ∧ ms = [] ∧ os = o0 g d 0 0 0 0 false⟩ : Outs).ask 0) (Outs.ats 0 []) (Outs.no.ask 0)) (kx := Outs.ats 0 []) (kr := Outs.no.ask 0) (SC_ok r) ht (tm := .nil) (L := 1) (L' := 1) (d := 2) hF hro ?_) fun ex st hq => ?_)
  · have hn := paA r (n : Nat) (fun i => (w i : Nat)) k d
    rw [hgg] at hn
    simp only [sm, hg, hd, Bool.and_self, cond_true] at hn
    have hm := hn (fun vs ms os => qq (vs = v0 k 0 ∧ ms = [] ∧ os = o0 g d 0 0 0 0 false)) (Outs.ats 0 []) (Outs.no.ask 0)
    rw [run_seq] at hm
    exact hm.trans (qq_ok ⟨rfl, rfl, rfl⟩)
  have hq' := hq
  cases ex with
  | normal =>
    refine Go.Ev.Reach.scopeC (Go.Ev.Reach.after3R (SC_ok r) ht (tm := .nil) (L := 1) (L' := 1) (d := 2) hF hro h0 (.step .base) (o2 := Z) [] (fun p hp => nomatch hp) ?_ ?_ hq)
    · rintro vs ms os ⟨rfl, rfl, rfl⟩
      refine Go.Ev.Reach.blockC (Go.Ev.Reach.loopC (j := k) (lv := lv0) (fl := fl0) (I := fun j vs ms os => ∃ i : Nat, i ≤ k ∧ j = k - i ∧ fnd q i = none ∧ vs = v0 k (i : Nat) ∧ ms = [] ∧ os = o0 g d 0 0 0 0 false) (fun j vs ms os hI => ?_) ⟨0, by omega, rfl, rfl, rfl, rfl, rfl⟩)
      obtain ⟨i, hi, rfl, hnone, rfl, rfl, rfl⟩ := hI
      refine Go.Ev.Reach.afterR (SC_ok r) TOk.nil (tm := .nil) (L := 1) (L' := 1) (d := 2) hF hro h0 (.step .base) (o1 := ⟨lv0, fl0, fun vs ms os => i < k ∧ vs = v0 k (i : Nat) ∧ ms = [] ∧ os = o0 g d 0 0 0 0 false⟩) [(0, Z)] (fun p hp => by simp only [List.mem_cons, List.not_mem_nil, or_false] at hp; subst hp; rfl) ?_ ?_
      · rintro vs ms os ⟨hik, rfl, rfl, rfl⟩
        obtain ⟨hb, hc⟩ := hmem i hik
        obtain ⟨d1, d2⟩ := hdr i hik
        have hqi : q i = qE w ((p :: l).getD i (0, 0)).1 ((p :: l).getD i (0, 0)).2 := by rw [← hqd]; rfl
        generalize ((p :: l).getD i (0, 0)).1 = b at *
        generalize ((p :: l).getD i (0, 0)).2 = c at *
        refine Go.Ev.Reach.seqC (o1 := ⟨lv0, fl0, fun vs ms os => q i = none ∧ vs = v0 k (i : Nat) ∧ ms = [] ∧ os = o0 g d 0 0 0 0 false⟩) (Go.Ev.Reach.blockC (Go.Ev.Reach.afterR (SC_ok r) TOk.nil (tm := .nil) (L := 1) (L' := 1) (d := 3) hF hro h0 (.step (.step .base)) (o1 := ⟨lv1, fl1, fun vs ms os => vs = v1 k (i : Nat) ∧ ms = [] ∧ os = o1 g d 0 0 0 0 false (b : Nat) (c : Nat) (sdN w b c : Nat)⟩) [] (fun p hp => nomatch hp) ?_ ?_)) ?_
        · rintro vs ms os ⟨rfl, rfl, rfl⟩
          have hl : ((mkA (o1 g d 0 0 0 0 false (b : Nat) (c : Nat) (sdN w b c : Nat))).new .defd).next = 8 := by kernel_rfl
          refine Go.Ev.Reach.blockC (Go.Ev.Reach.rangeC (SC_ok r) hF hro h0 (d := 7) (marks := [7]) (A1 := (mkA (o1 g d 0 0 0 0 false (b : Nat) (c : Nat) (sdN w b c : Nat))).new .defd) (g := 53) (first := []) (captured := [P0 6]) (S := fun v A' => ∃ os, A' = mkA os ∧ os = e9 g d k (i : Nat) (b : Nat) (c : Nat) (sdN w b c : Nat) (qE w b c))
            [(0, Z)] (fun p hp => by simp only [List.mem_cons, List.not_mem_nil, or_false] at hp; subst hp; rfl) (by kernel_rfl) (by kernel_rfl) (by kernel_rfl) ?_ ?_)
          · have hE' : ((mkA (o1 g d 0 0 0 0 false (b : Nat) (c : Nat) (sdN w b c : Nat))).new .defd).new (.loop .ready none 422238234885103 ⟨[], bT lv1 (v1 k (i : Nat)) .nil⟩ 64 #[34] k_p1 k_p2 7) = mkA (z9 g d k (i : Nat) (b : Nat) (c : Nat) (sdN w b c : Nat) .ready) := by kernel_rfl
            show SOk _ _ _ (((mkA (o1 g d 0 0 0 0 false (b : Nat) (c : Nat) (sdN w b c : Nat))).new .defd).new (.loop .ready none 422238234885103 ⟨[], bT lv1 (v1 k (i : Nat)) .nil⟩ 64 #[34] k_p1 k_p2 7)) _
            rw [hE', hl]
            have hnx : (mkA (z9 g d k (i : Nat) (b : Nat) (c : Nat) (sdN w b c : Nat) .ready)).next = 9 := by kernel_rfl
            refine each_iter r hm (l := 8) (p := 6) (fl := fl9) (s := sdN w b c) (sd_lt hw b c) (J := fun v os => fnd (qA w b c) v = none ∧ os = z9 g d k (i : Nat) (b : Nat) (c : Nat) (sdN w b c : Nat) .ready) (E := fun os => os = e9 g d k (i : Nat) (b : Nat) (c : Nat) (sdN w b c : Nat) (qE w b c)) (os0 := z9 g d k (i : Nat) (b : Nat) (c : Nat) (sdN w b c : Nat) .ready)
              ⟨52, 6, 0, by kernel_rfl⟩ ?_ ?_ ?_ ⟨rfl, rfl⟩ (by kernel_rfl)
            · rintro v os hv hbv ⟨h1, h2⟩
              exact ⟨by rw [fnd, h1]; exact if_neg fun h => (Bool.noConfusion (hbv.symm.trans h)), h2⟩
            · rintro v os hv hbv ⟨h1, rfl⟩
              rw [hnx]
              exact y8 hm hg hd hw hgr k (i : Nat) _ hv hb hc hbv h1
            · rintro os ⟨h1, rfl⟩
              rw [show qE w b c = none from h1]
              rfl
          · rintro v A' ⟨os, rfl, rfl⟩
            rw [hl, ← hqi]
            cases hqq : q i with
            | none =>
              have hn := paT1 r g d k (i : Nat) (b : Nat) (c : Nat) (sdN w b c : Nat)
              simp only [hg, hd, Bool.and_self, cond_true] at hn
              exact (hn _ _ _).trans (qq_ok ⟨rfl, rfl, rfl, rfl⟩)
            | some t =>
              have hn := paU1 r g d k (i : Nat) (b : Nat) (c : Nat) (sdN w b c : Nat) (t.1 : Nat) (t.2.1 : Nat) (t.2.2.1 : Nat) (t.2.2.2 : Nat)
              have hf : fnd q k = some t := fnd_some hnone hqq k hik
              exact (hn _ _ _).trans (qq_ok ⟨rfl, rfl, by rw [hf]; rfl⟩)
        · have hn := paC r g d k (i : Nat)
          have u1 := uAn (show w b < 18446744073709551616 by have := hw b; omega) (show w c < 18446744073709551616 by have := hw c; omega)
          have h1 : anN (w b) (w c) < 65536 := an_lt (k := 16) (hw b)
          have h2 : 2 ^ c < 65536 := Nat.pow_lt_pow_right (n := 16) (by decide) hc
          have u2 := uAn (show anN (w b) (w c) < 18446744073709551616 by omega) (show 2 ^ c < 18446744073709551616 by omega)
          simp only [p0, n0, bl i k hik, bl b 16 hb, bl c 16 hc, d1, d2, hgr b hb, hgr c hc, ii, oo, ii', oo', ei, Int.toNat_natCast, shl1 hc, u1, u2, n1, nU, hg, hd, Bool.not_false, Bool.and_self, cond_true] at hn
          exact (hn _ _ _).trans (qq_ok ⟨rfl, rfl, rfl⟩)
        · rintro vs ms os ⟨hqn, rfl, rfl, rfl⟩
          have hn := paH r g d k (i : Nat)
          rw [iInc (by omega)] at hn
          simp only [hg, hd, Bool.and_self, cond_true] at hn
          exact Go.Ev.Reach.segR (SC_ok r) TOk.nil (tm := .nil) (L := 1) (L' := 1) (d := 1) hF hro h0 [] (fun p hp => nomatch hp) ((hn _ _ _ _).trans (qq_ok ⟨k - (i + 1), by omega, i + 1, hik, rfl, by rw [fnd, hnone]; exact hqn, rfl, rfl, rfl⟩))
      · have hn := paB r g d k (i : Nat)
        simp only [lt, hg, hd, Bool.and_self, cond_true] at hn
        by_cases c : i < k
        · simp only [decide_eq_true c, cond_true] at hn
          exact (hn _ _ _ _).trans (qq_ok ⟨c, rfl, rfl, rfl⟩)
        · simp only [decide_eq_false c, cond_false] at hn
          obtain rfl : i = k := by omega
          exact (hn _ _ _ _).trans (qq_ok ⟨rfl, rfl, by rw [hnone]; rfl⟩)
    · rintro vs ms os ⟨rfl, rfl, rfl⟩
      cases fnd q k with
      | none =>
        have hn := paY r 0 0 0 0 false
        simp only [ea4, ebv, cond_true, cond_false] at hn
        exact Go.Ev.Reach.segR (SC_ok r) TOk.nil (tm := .nil) (L := 1) (L' := 1) (d := 1) hF hro h0 [] (fun p hp => nomatch hp) ((hn _ _ _ _).trans (qq_ok ⟨rfl, rfl, rfl⟩))
      | some t =>
        have hn := paY r (t.1 : Nat) (t.2.1 : Nat) (t.2.2.1 : Nat) (t.2.2.2 : Nat) true
        simp only [ea4, ebv, cond_true, cond_false] at hn
        exact Go.Ev.Reach.segR (SC_ok r) TOk.nil (tm := .nil) (L := 1) (L' := 1) (d := 1) hF hro h0 [] (fun p hp => nomatch hp) ((hn _ _ _ _).trans (qq_ok ⟨rfl, rfl, rfl⟩))
  | exit i => exact Post.can h0 [] (fun p hp => nomatch hp) hq
  | ret => exact (Outs.no_use (C := SC r) (m := 0) (n := 0) (W0 := W) h0 hq).elim
  | _ => exact hq.elim

end Go.Proofs

/- Paths of four: the search finds one just if the reference has one, and what it finds is one. -/
set_option linter.unusedVariables false
set_option linter.unusedSimpArgs false
namespace Go.Num
open Go.Proofs

theorem rwE_has (w : Nat → Nat) (i c : Nat) : ∀ j, (i, c) ∈ rwE w i j ↔ i < c ∧ c < j ∧ btN (w i) c = true
  | 0 => by simp [rwE]
  | j + 1 => by
    rw [rwE, List.mem_append, rwE_has w i c j]
    constructor
    · rintro (⟨h1, h2, h3⟩ | h)
      · exact ⟨h1, by omega, h3⟩
      · split at h
        · rename_i hc
          simp only [List.mem_singleton, Prod.mk.injEq, true_and] at h
          subst h
          exact ⟨hc.1, by omega, hc.2⟩
        · cases h
    · rintro ⟨h1, h2, h3⟩
      by_cases e : c = j
      · subst e
        exact .inr (by rw [if_pos ⟨h1, h3⟩]; simp)
      · exact .inl ⟨h1, by omega, h3⟩
theorem alE_has (w : Nat → Nat) (m b c : Nat) : ∀ i, (b, c) ∈ alE w m i ↔ b < i ∧ b < c ∧ c < m ∧ btN (w b) c = true
  | 0 => by simp [alE]
  | i + 1 => by
    rw [alE, List.mem_append, alE_has w m b c i]
    constructor
    · rintro (⟨h1, h2⟩ | h)
      · exact ⟨by omega, h2⟩
      · have hb := (rwE_mem w i m _ h).1
        simp only at hb
        subst hb
        have := (rwE_has w b c m).1 h
        exact ⟨by omega, this⟩
    · rintro ⟨h1, h2⟩
      by_cases e : b = i
      · subst e
        exact .inr ((rwE_has w b c m).2 h2)
      · exact .inl ⟨by omega, h2⟩

/-- No vertex is its own neighbour. -/
theorem nb_irr {M m : Nat} (hmM : m ≤ M) (z : Nat → Int) : ∀ k, (∀ i, i < k → 0 ≤ ea z i ∧ ea z i < eb z i ∧ eb z i < m) → ∀ i, ((nbN M z k).getD i 0).testBit i = false
  | 0, _, i => by
    rw [nbN, List.getD_eq_getElem?_getD, List.getElem?_replicate]
    split <;> simp
  | k + 1, h, i => by
    obtain ⟨b1, b2, b3⟩ := h k (by omega)
    have ih := nb_irr hmM z k (fun i hi => h i (by omega)) i
    have hl : (nbN M z k).length = M := nbN_len M z k
    have hb := jn_bit (ws := nbN M z k) (a := (ea z k).toNat) (b := (eb z k).toNat) (by omega) (by omega)
    rw [nbN, hb, ih, Bool.false_or, Bool.or_eq_false_iff, decide_eq_false_iff_not, decide_eq_false_iff_not]
    omega

theorem sd_bit (w : Nat → Nat) (b c a : Nat) : (sdN w b c).testBit a = ((w b).testBit a && !(w c).testBit a && !decide (a = c)) := by
  unfold sdN
  rw [an_bit, an_bit, Nat.testBit_two_pow]
  congr 2
  exact decide_eq_decide.2 eq_comm

theorem pa_use {w : Nat → Nat} {m : Nat} (hw : Nbs w m) (hirr : ∀ i, (w i).testBit i = false) {t : T4} (h : paN w (alE w m m) = some t) : t.1 < m ∧ t.2.1 < m ∧ t.2.2.1 < m ∧ t.2.2.2 < m ∧ ipN w t.1 t.2.1 t.2.2.1 t.2.2.2 = true := by
  obtain ⟨i, hi, h1⟩ := fnd_use h
  have hin : (alE w m m).getD i (0, 0) ∈ alE w m m := by
    rw [List.getD_eq_getElem?_getD, List.getElem?_eq_getElem hi]
    exact List.getElem_mem _
  unfold qI at h1
  generalize (alE w m m).getD i (0, 0) = e at *
  obtain ⟨b, c⟩ := e
  simp only at h1
  obtain ⟨_, hbc, hcm, hbt⟩ := (alE_has w m b c m).1 hin
  obtain ⟨a, ha, h2⟩ := fnd_use h1
  unfold qA at h2
  split at h2
  · rename_i hsa
    obtain ⟨d, hd, h3⟩ := fnd_use h2
    unfold qD at h3
    split at h3
    · rename_i hsd
      cases h3
      obtain ⟨hsd, hnad⟩ := hsd
      rw [sd_bit] at hsa hsd
      simp only [Bool.and_eq_true, Bool.not_eq_true', decide_eq_false_iff_not] at hsa hsd
      obtain ⟨⟨q1, q2⟩, q3⟩ := hsa
      obtain ⟨⟨p1, p2⟩, p3⟩ := hsd
      have la := (hw.low _ _ q1).2
      have ld := (hw.low _ _ p1).2
      rw [bt_bit] at hbt hnad
      have e1 : a ≠ b := fun e => by subst e; rw [hirr] at q1; exact nomatch q1
      have e2 : d ≠ c := fun e => by subst e; rw [hirr] at p1; exact nomatch p1
      have e3 : a ≠ d := fun e => by subst e; rw [q1] at p2; exact nomatch p2
      have f1 : (w a).testBit c = false := by
        cases hh : (w a).testBit c with
        | false => rfl
        | true => have := hw.sym _ _ hh; rw [q2] at this; exact nomatch this
      refine ⟨la, by show b < m; omega, hcm, ld, ?_⟩
      unfold ipN
      simp only [bt_bit, hw.sym _ _ q1, f1, hnad, hbt, p2, p1, Bool.and_true, Bool.not_false, Bool.true_and, Bool.and_eq_true, Bool.not_eq_true', beq_eq_false_iff_ne]
      exact ⟨e1, q3, e3, by omega, fun e => p3 e.symm, fun e => e2 e.symm⟩
    · cases h3
  · cases h2

theorem pa_some {w : Nat → Nat} {m : Nat} (hm : m ≤ 16) (hw : Nbs w m) {x y z t : Nat} (hx : x < m) (hy : y < m) (hz : z < m) (ht : t < m) (hyz : y < z) (h : ipN w x y z t = true) : paN w (alE w m m) ≠ none := fun hn => by
  unfold ipN at h
  simp only [bt_bit, Bool.and_eq_true, Bool.not_eq_true', beq_eq_false_iff_ne] at h
  obtain ⟨h1, h2, h3, h4, h5, h6, h7, h8, h9, h10, h11, h12⟩ := h
  have hin := (alE_has w m y z m).2 ⟨hy, hyz, hz, by rw [bt_bit]; exact h8⟩
  obtain ⟨i, hi, he⟩ := List.getElem_of_mem hin
  have g1 := fnd_none hn i hi
  unfold qI at g1
  rw [List.getD_eq_getElem?_getD, List.getElem?_eq_getElem hi, Option.getD_some, he] at g1
  have g2 := fnd_none g1 x (by omega)
  have f1 : (w z).testBit x = false := by
    cases hh : (w z).testBit x with
    | false => rfl
    | true => have := hw.sym _ _ hh; rw [h4] at this; exact nomatch this
  unfold qA at g2
  rw [if_pos (by rw [sd_bit, hw.sym _ _ h2, f1]; simp; exact h3)] at g2
  have g3 := fnd_none g2 t (by omega)
  unfold qD at g3
  rw [if_pos ⟨by rw [sd_bit, h12, h10]; simp; exact fun e => h9 e.symm, by rw [bt_bit]; exact h6⟩] at g3
  cases g3
theorem ip_rev {w : Nat → Nat} {m : Nat} (hw : Nbs w m) (x y z t : Nat) (h : ipN w x y z t = true) : ipN w t z y x = true := by
  have sy : ∀ i j, (w i).testBit j = (w j).testBit i := fun i j => by
    rw [Bool.eq_iff_iff]
    exact ⟨hw.sym i j, hw.sym j i⟩
  unfold ipN at h ⊢
  simp only [bt_bit, Bool.and_eq_true, Bool.not_eq_true', beq_eq_false_iff_ne] at h ⊢
  obtain ⟨h1, h2, h3, h4, h5, h6, h7, h8, h9, h10, h11, h12⟩ := h
  exact ⟨Ne.symm h11, by rw [sy]; exact h12, Ne.symm h9, by rw [sy]; exact h10, Ne.symm h5, by rw [sy]; exact h6, Ne.symm h7, by rw [sy]; exact h8, Ne.symm h3, by rw [sy]; exact h4, Ne.symm h1, by rw [sy]; exact h2⟩
theorem ip_congr {w w' : Nat → Nat} {m : Nat} (hww : ∀ i, i < m → w i = w' i) {x y z : Nat} (hx : x < m) (hy : y < m) (hz : z < m) (t : Nat) : ipN w x y z t = ipN w' x y z t := by
  unfold ipN
  rw [hww x hx, hww y hy, hww z hz]

/-- **One is found just if the reference has one.** -/
theorem pa_has {w w' : Nat → Nat} {m : Nat} (hm : m ≤ 16) (hw : Nbs w m) (hirr : ∀ i, (w i).testBit i = false) (hww : ∀ i, i < m → w i = w' i) {q : Nat → Nat → Nat → Nat → Bool} (hq : ∀ x y z t, x < m → y < m → z < m → t < m → q x y z t = ipN w' x y z t) : hpP w' q m = (paN w (alE w m m)).isSome := by
  rw [Bool.eq_iff_iff]
  constructor
  · intro h
    obtain ⟨x, hx, h⟩ := any_use h
    obtain ⟨y, hy, h⟩ := any_use h
    unfold bpP at h
    rw [Bool.and_eq_true] at h
    obtain ⟨z, hz, h⟩ := any_use h.2
    unfold cpP at h
    rw [Bool.and_eq_true] at h
    obtain ⟨t, ht, h⟩ := any_use h.2
    rw [hq x y z t hx hy hz ht, ← ip_congr hww hx hy hz] at h
    have hne : paN w (alE w m m) ≠ none := by
      by_cases c : y < z
      · exact pa_some hm hw hx hy hz ht c h
      · have h' := ip_rev hw x y z t h
        have hyz : y ≠ z := by
          unfold ipN at h
          simp only [Bool.and_eq_true, Bool.not_eq_true', beq_eq_false_iff_ne] at h
          exact h.2.2.2.2.2.2.1
        exact pa_some hm hw ht hz hy hx (by omega) h'
    cases hp : paN w (alE w m m) with
    | none => exact absurd hp hne
    | some t => rfl
  · intro h
    obtain ⟨t, ht⟩ := Option.isSome_iff_exists.1 h
    obtain ⟨h1, h2, h3, h4, h5⟩ := pa_use hw hirr ht
    rw [ip_congr hww h1 h2 h3] at h5
    have h6 := h5
    unfold ipN at h6
    simp only [Bool.and_eq_true, Bool.not_eq_true', beq_eq_false_iff_ne] at h6
    have t0 : q t.1 t.2.1 t.2.2.1 t.2.2.2 = true := by rw [hq _ _ _ _ h1 h2 h3 h4]; exact h5
    have t1 : cpP w' q m t.1 t.2.1 t.2.2.1 = true := by unfold cpP; rw [h6.2.2.2.2.2.2.2.1, Bool.true_and]; exact any_true t0 m h4
    have t2 : bpP w' q m t.1 t.2.1 = true := by unfold bpP; rw [h6.2.1, Bool.true_and]; exact any_true t1 m h3
    have t3 : apP w' q m t.1 = true := any_true (P := bpP w' q m t.1) t2 m h2
    exact any_true t3 m h1

end Go.Num

/- A row of pairs of the caller's, as memory. -/
namespace Go.Proofs
open Go Go.Ev Go.Num
set_option linter.unusedVariables false
set_option linter.unusedSimpArgs false
set_option maxRecDepth 100000

/-- A row of pairs of the caller's. -/
noncomputable def m_okL2 (c : List Value) (k len : Nat) : Bool := @decide (len ≤ 1000000 ∧ ∀ j, j < 2 * len → ∃ z : Int, c[k + j]? = some (I z)) (Classical.propDecidable _)
def zAt2 (c : List Value) (j : Nat) : Int := match c[j]? with
  | some (.int _ z) => z
  | _ => 0
theorem memW_tab {r : Mem} (hm : ∀ b j u, tabM b j = some u → r b j = some u) {γ : Gam} {W : World} (hR : Ro r γ W) : ∀ b j u, tabM b j = some u → memW W b j = some u := fun b j u h => by
  have hg : gnd u = true := by
    unfold tabM at h
    split at h
    · unfold memL u8s at h
      rw [List.getElem?_map] at h
      cases h1 : tab64[j]? with
      | none => rw [h1] at h; cases h
      | some x => rw [h1] at h; cases h; rfl
    · split at h
      · unfold memL u8s at h
        rw [List.getElem?_map] at h
        cases h1 : tab32[j]? with
        | none => rw [h1] at h; cases h
        | some x => rw [h1] at h; cases h; rfl
      · cases h
  obtain ⟨_, cc, e, fr, v', h1, h2, h3⟩ := hR b j u (hm b j u h)
  have := (h3 γ).eq_of_gnd hg
  subst this
  unfold memW
  rw [h1]
  simp only [h2, Option.bind_some]
  exact mark_gnd hg

/-- A row of pairs of the caller's, as memory that is read; more arguments behind it. -/
theorem own_mem {r : Mem} {γ : Gam} {A : AW} {W : World} (hw : WRel γ A W) (hR : Ro r γ W) {n : Int} {i k len cap : Nat} {c l : List Value} {e f z : Nat} (hget : A.heap.get i = some (.cells c e f z)) (hok : m_okL2 c k len = true) (hcap : Nat.beq cap unkE = false) (hl : gnds l = true)
    {args' : Array Value} (ha : VsRel γ (.int .i64 n :: .slice (some ⟨i, k, none⟩) len cap :: l) args'.toList) :
    ∃ b k', VsRel noG (I n :: RS2 b k' len 0 :: l) args'.toList ∧ rowAt (memW W) b k' (2 * len) (fun j => zAt2 c (k + j)) ∧ len ≤ 1000000 := by
  obtain ⟨h1, h2⟩ := @of_decide_eq_true _ (Classical.propDecidable _) hok
  obtain ⟨la⟩ := args'
  cases ha with
  | cons hn hrest =>
  cases hn
  cases hrest with
  | cons hv hrest =>
  obtain ⟨b, k', c', rfl, hrd⟩ := rd_world hw hR hv hcap
  refine ⟨b, k', .cons (.int _ _) (.cons (.sliceRo _ _ _ _ _ _ (by decide) (Nat.zero_le _)) ?_), fun j hj => ?_, h1⟩
  · rw [hrest.eq_of_gnds hl]
    exact VsRel.of_gnds noG l hl
  · obtain ⟨z, hz⟩ := h2 j hj
    have e1 : zAt2 c (k + j) = z := by unfold zAt2; rw [hz]
    show memW W b (k' + j) = some (I (zAt2 c (k + j)))
    rw [e1]
    refine hrd j _ ?_ rfl
    simp only [AW.rd, AW.cell, hget]
    exact hz

theorem natFK2 {i j : Nat} (h : i ≠ j) : Nat.beq i j = false := by
  cases e : Nat.beq i j with
  | false => rfl
  | true => exact absurd (Nat.eq_of_beq_eq_true e) h

abbrev Tab (r : Mem) : Prop := ∀ b j u, tabM b j = some u → r b j = some u


end Go.Proofs

/- Entries that laws over small graphs share: tame, Of. -/
namespace Go.Proofs
open Go Go.Ev Go.Num
set_option linter.unusedVariables false
set_option linter.unusedSimpArgs false
set_option maxRecDepth 100000

noncomputable def eOf1 (m len : Nat) (c g : List Value) : Ent := ⟨fun args A => match args with
    | [.int .i64 n, .slice (some ⟨i, k, none⟩) l cap] => match A.heap.get i with
      | some (.cells c' _ _ _) => m_same [.int .i64 n, .slice (some ⟨0, k, none⟩) l cap, .agg ⟨c'⟩] [.int .i64 m, .slice (some ⟨0, 0, none⟩) len unk, .agg ⟨c⟩]
      | _ => false
    | _ => false, fun _ _ => true, fun _ A => .slice (some ⟨A.next, 0, none⟩) m m, fun _ A => A.new (.cells g 3 A.next 1), fun _ _ => undef, fun _ A => A⟩
noncomputable def eOf0 (m : Nat) (g : List Value) : Ent := ⟨fun args _ => m_same args [I (m : Nat), .slice none 0 0], fun _ _ => true, fun _ A => .slice (some ⟨A.next, 0, none⟩) m m, fun _ A => A.new (.cells g 3 A.next 1), fun _ _ => undef, fun _ A => A⟩
noncomputable def eTm1 (a0 : List Value) (m len : Nat) (c : List Value) : Ent := ⟨fun args _ => m_same args a0, fun _ _ => true, fun _ A => .tuple ⟨[I (m : Nat), .slice (some ⟨A.next, 0, none⟩) len unk]⟩, fun _ A => A.new (.cells c 51 A.next 2), fun _ _ => undef, fun _ A => A⟩
theorem zAt2_E (E : List (Nat × Nat)) {j : Nat} (h : j < 2 * E.length) : zAt2 (pcE E) (0 + j) = zE E j := by
  unfold zAt2
  rw [Nat.zero_add, pcE_get E j h]
theorem okL2_E (E : List (Nat × Nat)) (h : E.length ≤ 1000000) : m_okL2 (pcE E) 0 E.length = true := @decide_eq_true _ (Classical.propDecidable _) ⟨h, fun j hj => ⟨_, by rw [Nat.zero_add]; exact pcE_get E j hj⟩⟩
theorem rowE {r : Mem} {b k : Nat} {E : List (Nat × Nat)} (h : rowAt r b k (2 * E.length) (fun j => zAt2 (pcE E) (0 + j))) : rowAt r b k (2 * E.length) (zE E) := fun j hj => by
  have := h j hj
  simp only at this
  rw [this, zAt2_E E hj]
/-- The words' row of the caller's, as memory. -/
theorem own_ws {r : Mem} {γ : Gam} {A : AW} {W : World} (hw : WRel γ A W) (hR : Ro r γ W) {i m : Nat} (hm : m ≤ 16) {ws : List Nat} (hlw : ws.length = m) {e f z : Nat} (hget : A.heap.get i = some (.cells (m_ws ws) e f z)) {l : List Value} (hl : gnds l = true) {args' : Array Value} (ha : VsRel γ (.slice (some ⟨i, 0, none⟩) m m :: l) args'.toList) :
    ∃ b k', VsRel noG (RS b k' m 0 :: l) args'.toList ∧ ∀ k, k < m → memW W b (k' + k) = some (I (ws.getD k 0 : Nat)) := by
  obtain ⟨la⟩ := args'
  cases ha with
  | cons hv hrest =>
  obtain ⟨b, k', c', rfl, hrd⟩ := rd_world hw hR hv (natFK2 (by unfold unkE; omega))
  refine ⟨b, k', .cons (.sliceRo _ _ _ _ _ _ (by decide) (Nat.zero_le _)) ?_, fun j hj => ?_⟩
  · rw [hrest.eq_of_gnds hl]
    exact VsRel.of_gnds noG l hl
  · refine hrd j _ ?_ rfl
    simp only [AW.rd, AW.cell, hget]
    have := ws_get (ws := ws) (k := j) (by omega)
    rw [Nat.mul_eq, Nat.mul_one, Nat.add_eq] at this
    exact this

theorem ofV_row {m : Nat} (h : m ≤ 16) : ofV 0 (.slice (some ⟨0, 0, none⟩) m m) = true := by simp [ofV, of1]
theorem eOf1_ok (r : Mem) {m : Nat} (h1 : 1 ≤ m) (hm16 : m ≤ 16) {E : List (Nat × Nat)} (hE : okAll (m : Int) (zE E) E.length = true) (hl : E.length ≤ 1000000) : EOk (SC r) 6 (eOf1 m E.length (pcE E) (m_ws (nbN m (zE E) E.length))) := fun args A hgd F hF k γ W args' hw hR ha => by
  refine ⟨fun hcc => ?_, fun h => nomatch h⟩
  clear hcc
  dsimp only [eOf1] at hgd ⊢
  split at hgd
  · rename_i n i k0 l cap
    split at hgd
    · rename_i c' e f z hget
      have hs := @of_decide_eq_true _ (Classical.propDecidable _) hgd
      simp only [List.cons.injEq, Value.int.injEq, Value.slice.injEq, Option.some.injEq, Addr.mk.injEq, Value.agg.injEq, Array.mk.injEq, and_true, true_and] at hs
      obtain ⟨rfl, ⟨rfl, rfl, rfl⟩, rfl⟩ := hs
      obtain ⟨b, k', p1, p2, p3⟩ := own_mem hw hR hget (okL2_E E hl) rfl rfl ha
      have h := of_ok (memW W) m h1 (by omega) b k' E.length 0 _ (rowE p2) p3 hE
      exact h.ends (γ := γ) (A := A) (ofV_row (by omega)) (ws_gnd _) hF hw (memW_ro W) p1 ha
    · cases hgd
  · cases hgd

theorem oN1 : (lvlT (SC fun _ _ => none) (fun _ => none) .nil 20 3).call 6 [I 1, .slice none 0 0] emptyA finM = .ret (.slice (some ⟨0, 0, none⟩) 1 1) (rowA (m_ws (List.replicate 1 0)) 3 1) := by kernel_rfl
theorem oN2 : (lvlT (SC fun _ _ => none) (fun _ => none) .nil 20 3).call 6 [I 2, .slice none 0 0] emptyA finM = .ret (.slice (some ⟨0, 0, none⟩) 2 2) (rowA (m_ws (List.replicate 2 0)) 3 1) := by kernel_rfl
theorem oN3 : (lvlT (SC fun _ _ => none) (fun _ => none) .nil 20 3).call 6 [I 3, .slice none 0 0] emptyA finM = .ret (.slice (some ⟨0, 0, none⟩) 3 3) (rowA (m_ws (List.replicate 3 0)) 3 1) := by kernel_rfl
theorem oN4 : (lvlT (SC fun _ _ => none) (fun _ => none) .nil 20 3).call 6 [I 4, .slice none 0 0] emptyA finM = .ret (.slice (some ⟨0, 0, none⟩) 4 4) (rowA (m_ws (List.replicate 4 0)) 3 1) := by kernel_rfl
theorem oN5 : (lvlT (SC fun _ _ => none) (fun _ => none) .nil 20 3).call 6 [I 5, .slice none 0 0] emptyA finM = .ret (.slice (some ⟨0, 0, none⟩) 5 5) (rowA (m_ws (List.replicate 5 0)) 3 1) := by kernel_rfl
theorem oN6 : (lvlT (SC fun _ _ => none) (fun _ => none) .nil 20 3).call 6 [I 6, .slice none 0 0] emptyA finM = .ret (.slice (some ⟨0, 0, none⟩) 6 6) (rowA (m_ws (List.replicate 6 0)) 3 1) := by kernel_rfl
theorem oN7 : (lvlT (SC fun _ _ => none) (fun _ => none) .nil 20 3).call 6 [I 7, .slice none 0 0] emptyA finM = .ret (.slice (some ⟨0, 0, none⟩) 7 7) (rowA (m_ws (List.replicate 7 0)) 3 1) := by kernel_rfl
theorem oN8 : (lvlT (SC fun _ _ => none) (fun _ => none) .nil 20 3).call 6 [I 8, .slice none 0 0] emptyA finM = .ret (.slice (some ⟨0, 0, none⟩) 8 8) (rowA (m_ws (List.replicate 8 0)) 3 1) := by kernel_rfl
theorem oN9 : (lvlT (SC fun _ _ => none) (fun _ => none) .nil 20 3).call 6 [I 9, .slice none 0 0] emptyA finM = .ret (.slice (some ⟨0, 0, none⟩) 9 9) (rowA (m_ws (List.replicate 9 0)) 3 1) := by kernel_rfl
theorem oN10 : (lvlT (SC fun _ _ => none) (fun _ => none) .nil 20 3).call 6 [I 10, .slice none 0 0] emptyA finM = .ret (.slice (some ⟨0, 0, none⟩) 10 10) (rowA (m_ws (List.replicate 10 0)) 3 1) := by kernel_rfl
theorem oN11 : (lvlT (SC fun _ _ => none) (fun _ => none) .nil 20 3).call 6 [I 11, .slice none 0 0] emptyA finM = .ret (.slice (some ⟨0, 0, none⟩) 11 11) (rowA (m_ws (List.replicate 11 0)) 3 1) := by kernel_rfl
theorem oN12 : (lvlT (SC fun _ _ => none) (fun _ => none) .nil 20 3).call 6 [I 12, .slice none 0 0] emptyA finM = .ret (.slice (some ⟨0, 0, none⟩) 12 12) (rowA (m_ws (List.replicate 12 0)) 3 1) := by kernel_rfl
theorem oN13 : (lvlT (SC fun _ _ => none) (fun _ => none) .nil 20 3).call 6 [I 13, .slice none 0 0] emptyA finM = .ret (.slice (some ⟨0, 0, none⟩) 13 13) (rowA (m_ws (List.replicate 13 0)) 3 1) := by kernel_rfl
theorem oN14 : (lvlT (SC fun _ _ => none) (fun _ => none) .nil 20 3).call 6 [I 14, .slice none 0 0] emptyA finM = .ret (.slice (some ⟨0, 0, none⟩) 14 14) (rowA (m_ws (List.replicate 14 0)) 3 1) := by kernel_rfl
theorem oN15 : (lvlT (SC fun _ _ => none) (fun _ => none) .nil 20 3).call 6 [I 15, .slice none 0 0] emptyA finM = .ret (.slice (some ⟨0, 0, none⟩) 15 15) (rowA (m_ws (List.replicate 15 0)) 3 1) := by kernel_rfl
theorem oN16 : (lvlT (SC fun _ _ => none) (fun _ => none) .nil 20 3).call 6 [I 16, .slice none 0 0] emptyA finM = .ret (.slice (some ⟨0, 0, none⟩) 16 16) (rowA (m_ws (List.replicate 16 0)) 3 1) := by kernel_rfl
theorem ofN_ok {m : Nat} (h1 : 1 ≤ m) (h2 : m ≤ 16) : GrM Tryz.prog (fun _ _ => none) 6 [I (m : Nat), .slice none 0 0] (.slice (some ⟨0, 0, none⟩) m m) (rowA (m_ws (nbN m (zE []) 0)) 3 1) := by
  have : m = 1 ∨ m = 2 ∨ m = 3 ∨ m = 4 ∨ m = 5 ∨ m = 6 ∨ m = 7 ∨ m = 8 ∨ m = 9 ∨ m = 10 ∨ m = 11 ∨ m = 12 ∨ m = 13 ∨ m = 14 ∨ m = 15 ∨ m = 16 := by omega
  rcases this with rfl | rfl | rfl | rfl | rfl | rfl | rfl | rfl | rfl | rfl | rfl | rfl | rfl | rfl | rfl | rfl
  · exact GrM.of (SC_ok fun _ _ => none) TOk.nil .nil ⟨20, 3, oN1⟩
  · exact GrM.of (SC_ok fun _ _ => none) TOk.nil .nil ⟨20, 3, oN2⟩
  · exact GrM.of (SC_ok fun _ _ => none) TOk.nil .nil ⟨20, 3, oN3⟩
  · exact GrM.of (SC_ok fun _ _ => none) TOk.nil .nil ⟨20, 3, oN4⟩
  · exact GrM.of (SC_ok fun _ _ => none) TOk.nil .nil ⟨20, 3, oN5⟩
  · exact GrM.of (SC_ok fun _ _ => none) TOk.nil .nil ⟨20, 3, oN6⟩
  · exact GrM.of (SC_ok fun _ _ => none) TOk.nil .nil ⟨20, 3, oN7⟩
  · exact GrM.of (SC_ok fun _ _ => none) TOk.nil .nil ⟨20, 3, oN8⟩
  · exact GrM.of (SC_ok fun _ _ => none) TOk.nil .nil ⟨20, 3, oN9⟩
  · exact GrM.of (SC_ok fun _ _ => none) TOk.nil .nil ⟨20, 3, oN10⟩
  · exact GrM.of (SC_ok fun _ _ => none) TOk.nil .nil ⟨20, 3, oN11⟩
  · exact GrM.of (SC_ok fun _ _ => none) TOk.nil .nil ⟨20, 3, oN12⟩
  · exact GrM.of (SC_ok fun _ _ => none) TOk.nil .nil ⟨20, 3, oN13⟩
  · exact GrM.of (SC_ok fun _ _ => none) TOk.nil .nil ⟨20, 3, oN14⟩
  · exact GrM.of (SC_ok fun _ _ => none) TOk.nil .nil ⟨20, 3, oN15⟩
  · exact GrM.of (SC_ok fun _ _ => none) TOk.nil .nil ⟨20, 3, oN16⟩
theorem eOf0_ok (r : Mem) {m : Nat} (h1 : 1 ≤ m) (hm16 : m ≤ 16) : EOk (SC r) 6 (eOf0 m (m_ws (nbN m (zE []) 0))) := fun args A hgd F hF k γ W args' hw hR ha => by
  refine ⟨fun hcc => ?_, fun h => nomatch h⟩
  have hs := @of_decide_eq_true _ (Classical.propDecidable _) hgd
  subst hs
  have := (ofN_ok h1 hm16).ends (args := [I (m : Nat), .slice none 0 0]) (γ := γ) (A := A) (ofV_row (by omega)) (ws_gnd _) hF hw (fun b j u h => nomatch h) (k := k) (args' := args') ?_ ha
  · exact this
  · rw [ha.eq_of_gnds rfl]
    exact VsRel.of_gnds noG _ rfl
theorem eTm1_ok (r : Mem) {a0 : List Value} (hro : roVs a0 = true) {m : Nat} {p : Nat × Nat} {l : List (Nat × Nat)} (h : SOk (SC r) 5 a0 emptyA fun v A => v = vTa m (p :: l) ∧ A = mkA (oL (p :: l))) : EOk (SC r) 5 (eTm1 a0 m (l.length + 1) (pcE (p :: l))) := fun args A hgd F hF k γ W args' hw hR ha => by
  refine ⟨fun hcc => ?_, fun h => nomatch h⟩
  have hs := @of_decide_eq_true _ (Classical.propDecidable _) hgd
  subst hs
  have hg : GrM Tryz.prog r 5 args (vTa m (p :: l)) (rowA (pcE (p :: l)) 51 2) := GrM.ofS (C := SC r) rfl rfl h
  have hof : ofV 0 (vTa m (p :: l)) = true := by simp [vTa, vL, ofV, of1, gnd]
  exact hg.ends (γ := γ) (A := A) hof (pcE_gnd _) hF hw (hR.noG noG fun _ => rfl) (ha.of_ros hro) ha
theorem tm0_ok (r : Mem) {a0 : List Value} {m : Nat} (h : SOk (SC r) 5 a0 emptyA fun v A => v = vTa m [] ∧ A = mkA (oL [])) : GrT Tryz.prog r 5 a0 (.tuple ⟨[I (m : Nat), .slice none 0 0]⟩) :=
  GrT.ofS (C := SC r) rfl rfl rfl fun F hF k γ W args' hw hR ha => (h F hF k γ W args' hw hR ha).mono fun e W' ⟨u, B, ⟨h, _⟩, he⟩ => ⟨u, B, h, he⟩

theorem gE_len (n most : Int) (len : Nat) (z : Nat → Int) (h1 : 1 ≤ most) (h2 : most ≤ 16) : (gE n most len z).length ≤ 1000000 := by
  have hg := (gM_ok n h1 h2).2.2
  unfold gE
  have := alE_len (fun k => (tmN (gM n most) z (min 60 len)).getD k 0) (gM n most) (gM n most)
  have : gM n most * gM n most ≤ 16 * 16 := Nat.mul_le_mul hg hg
  omega


end Go.Proofs

/- The law of paths, run. -/
namespace Go.Proofs
open Go Go.Ev Go.Num
set_option linter.unusedVariables false
set_option linter.unusedSimpArgs false
set_option maxRecDepth 100000

noncomputable abbrev m_sm (l : List Value) : Bool := m_same l l
noncomputable def tPt (n : Int) (sl : Value) (w : Nat → Int) (a0 a1 a2 a3 : Int) (ok : Bool) : Tbl := tcons 23 (entV [I n, sl] (.tuple ⟨[.agg ⟨gC n w⟩, I 0]⟩)) (tcons 35 (entV [.agg ⟨gC n w⟩] (.tuple ⟨[.agg ⟨[I a0, I a1, I a2, I a3]⟩, .bool ok]⟩)) fun _ => none)
abbrev vPp (a0 a1 a2 a3 : Int) (ok : Bool) : Value := .tuple ⟨[.agg ⟨[I a0, I a1, I a2, I a3]⟩, .bool ok, I 0]⟩
noncomputable def ePa1 (m : Int) (len : Nat) (c : List Value) (v : Value) : Ent := ent
  (fun args A => match args with
    | [.int .i64 n, .slice (some ⟨i, k, none⟩) l cap] => match A.heap.get i with
      | some (.cells c' _ _ _) => m_same [.int .i64 n, .slice (some ⟨0, k, none⟩) l cap, .agg ⟨c'⟩] [.int .i64 m, .slice (some ⟨0, 0, none⟩) len unk, .agg ⟨c⟩]
      | _ => false
    | _ => false)
  (fun _ _ => v)
noncomputable def eHq (m : Nat) (g : List Value) (h : Bool) : Ent := ent
  (fun args A => match args with
    | [.slice (some ⟨i, k, none⟩) l cap] => match A.heap.get i with
      | some (.cells c' _ _ _) => m_same [.slice (some ⟨0, k, none⟩) l cap, .agg ⟨c'⟩] [.slice (some ⟨0, 0, none⟩) m m, .agg ⟨g⟩]
      | _ => false
    | _ => false)
  (fun _ _ => .bool h)
noncomputable def eIq (m : Nat) (g : List Value) (a0 a1 a2 a3 : Int) (ip : Bool) : Ent := ent
  (fun args A => match args with
    | [.slice (some ⟨i, k, none⟩) l cap, .agg ⟨[.int .i64 x0, .int .i64 x1, .int .i64 x2, .int .i64 x3]⟩] => match A.heap.get i with
      | some (.cells c' _ _ _) => m_same [.slice (some ⟨0, k, none⟩) l cap, .agg ⟨c'⟩, .agg ⟨[.int .i64 x0, .int .i64 x1, .int .i64 x2, .int .i64 x3]⟩] [.slice (some ⟨0, 0, none⟩) m m, .agg ⟨g⟩, .agg ⟨[I a0, I a1, I a2, I a3]⟩]
      | _ => false
    | _ => false)
  (fun _ _ => .bool ip)
noncomputable def tL1 (a0 : List Value) (m len : Nat) (c g : List Value) (x0 x1 x2 x3 : Int) (ok h ip : Bool) : Tbl := tcons 17 (e0 (.bool true)) (tcons 5 (eTm1 a0 m len c) (tcons 6 (eOf1 m len c g) (tcons 20 (ePa1 (m : Nat) len c (vPp x0 x1 x2 x3 ok)) (tcons 21 (eHq m g h) (tcons 22 (eIq m g x0 x1 x2 x3 ip) fun _ => none)))))
noncomputable def tL0 (a0 : List Value) (m : Nat) (g : List Value) (x0 x1 x2 x3 : Int) (ok h ip : Bool) : Tbl := tcons 17 (e0 (.bool true)) (tcons 5 (entV a0 (.tuple ⟨[I (m : Nat), .slice none 0 0]⟩)) (tcons 6 (eOf0 m g) (tcons 20 (entV [I (m : Nat), .slice none 0 0] (vPp x0 x1 x2 x3 ok)) (tcons 21 (eHq m g h) (tcons 22 (eIq m g x0 x1 x2 x3 ip) fun _ => none)))))


theorem rdN (r : Mem) (n : Int) : (lvlT (SC r) (fun _ => none) .nil 1 3).call 23 [I n, .slice none 0 0] emptyA fin =
    bif decide (n < 1) then CR.ret (Value.tuple (Array.mk [Value.agg (Array.mk [I (Int.ofNat 0), U (Int.ofNat 0), U (Int.ofNat 0), U (Int.ofNat 0), U (Int.ofNat 0), U (Int.ofNat 0), U (Int.ofNat 0), U (Int.ofNat 0), U (Int.ofNat 0), U (Int.ofNat 0), U (Int.ofNat 0), U (Int.ofNat 0), U (Int.ofNat 0), U (Int.ofNat 0), U (Int.ofNat 0), U (Int.ofNat 0), U (Int.ofNat 0)]), I (Int.ofNat 1)])) (AW.mk 0 Tr.nil Tr.nil) else bif decide (n > 16) then CR.ret (Value.tuple (Array.mk [Value.agg (Array.mk [I (Int.ofNat 0), U (Int.ofNat 0), U (Int.ofNat 0), U (Int.ofNat 0), U (Int.ofNat 0), U (Int.ofNat 0), U (Int.ofNat 0), U (Int.ofNat 0), U (Int.ofNat 0), U (Int.ofNat 0), U (Int.ofNat 0), U (Int.ofNat 0), U (Int.ofNat 0), U (Int.ofNat 0), U (Int.ofNat 0), U (Int.ofNat 0), U (Int.ofNat 0)]), I (Int.ofNat 1)])) (AW.mk 0 Tr.nil Tr.nil) else CR.ret (Value.tuple (Array.mk [Value.agg (Array.mk [I n, U (Int.ofNat 0), U (Int.ofNat 0), U (Int.ofNat 0), U (Int.ofNat 0), U (Int.ofNat 0), U (Int.ofNat 0), U (Int.ofNat 0), U (Int.ofNat 0), U (Int.ofNat 0), U (Int.ofNat 0), U (Int.ofNat 0), U (Int.ofNat 0), U (Int.ofNat 0), U (Int.ofNat 0), U (Int.ofNat 0), U (Int.ofNat 0)]), I (Int.ofNat 0)])) (AW.mk 0 Tr.nil Tr.nil) := by kernel_rfl

theorem ptAR (r : Mem) (n : Int) (b off len0 cap : Nat) (w : Nat → Int) (a0 a1 a2 a3 : Int) (ok : Bool) : (lvlT (SC r) (tPt n (RS2 b off len0 cap) w a0 a1 a2 a3 ok) .nil 1 2).call 20 [I n, (RS2 b off len0 cap)] emptyA fin =
    bif m_sm [I n, Value.slice (some (Addr.mk b off (some 0))) len0 cap] then bif m_sm [Value.agg (Array.mk (gC n w))] then bif ok then CR.ret (Value.tuple (Array.mk [Value.agg (Array.mk [I a0, I a1, I a2, I a3]), Value.bool true, I (Int.ofNat 0)])) (AW.mk 0 Tr.nil Tr.nil) else CR.ret (Value.tuple (Array.mk [Value.agg (Array.mk [I a0, I a1, I a2, I a3]), Value.bool false, I (Int.ofNat 0)])) (AW.mk 0 Tr.nil Tr.nil) else CR.fail 420 else CR.fail 420 := by kernel_rfl

theorem ptAN (r : Mem) (n : Int) (w : Nat → Int) (a0 a1 a2 a3 : Int) (ok : Bool) : (lvlT (SC r) (tPt n (.slice none 0 0) w a0 a1 a2 a3 ok) .nil 1 2).call 20 [I n, (.slice none 0 0)] emptyA fin =
    bif m_sm [I n, Value.slice none 0 0] then bif m_sm [Value.agg (Array.mk (gC n w))] then bif ok then CR.ret (Value.tuple (Array.mk [Value.agg (Array.mk [I a0, I a1, I a2, I a3]), Value.bool true, I (Int.ofNat 0)])) (AW.mk 0 Tr.nil Tr.nil) else CR.ret (Value.tuple (Array.mk [Value.agg (Array.mk [I a0, I a1, I a2, I a3]), Value.bool false, I (Int.ofNat 0)])) (AW.mk 0 Tr.nil Tr.nil) else CR.fail 420 else CR.fail 420 := by kernel_rfl

theorem pp1R (r : Mem) (n : Int) (b off len0 cap : Nat) (m len : Nat) (c g : List Value) (x0 x1 x2 x3 : Int) (ok h ip : Bool) : (lvlT (SC r) (tL1 [I n, (RS2 b off len0 cap), I 16] m len c g x0 x1 x2 x3 ok h ip) .nil 5 1).call 4 [I n, (RS2 b off len0 cap)] emptyA fin =
    bif m_sm [I n, Value.slice (some (Addr.mk b off (some 0))) len0 cap, I (Int.ofNat 16)] then bif m_sm [I (Int.ofNat m), Value.slice (some (Addr.mk 0 0 none)) len 9223372036854775808, Value.agg (Array.mk c)] then bif m_sm [I (Int.ofNat m), Value.slice (some (Addr.mk 0 0 none)) len 9223372036854775808, Value.agg (Array.mk c)] then bif ok then bif m_sm [Value.slice (some (Addr.mk 0 0 none)) m m, Value.agg (Array.mk g)] then bif h then bif m_sm [Value.slice (some (Addr.mk 0 0 none)) m m, Value.agg (Array.mk g), Value.agg (Array.mk [I x0, I x1, I x2, I x3])] then bif ip then rB true else rB false else CR.fail 420 else rB false else CR.fail 420 else bif m_sm [Value.slice (some (Addr.mk 0 0 none)) m m, Value.agg (Array.mk g)] then bif h then rB false else bif x0 == Int.ofNat 0 && (x1 == Int.ofNat 0 && (x2 == Int.ofNat 0 && (x3 == Int.ofNat 0 && true))) then rB true else rB false else CR.fail 420 else CR.fail 420 else CR.fail 420 else CR.fail 420 := by kernel_rfl

theorem pp1N (r : Mem) (n : Int) (m len : Nat) (c g : List Value) (x0 x1 x2 x3 : Int) (ok h ip : Bool) : (lvlT (SC r) (tL1 [I n, (.slice none 0 0), I 16] m len c g x0 x1 x2 x3 ok h ip) .nil 5 1).call 4 [I n, (.slice none 0 0)] emptyA fin =
    bif m_sm [I n, Value.slice none 0 0, I (Int.ofNat 16)] then bif m_sm [I (Int.ofNat m), Value.slice (some (Addr.mk 0 0 none)) len 9223372036854775808, Value.agg (Array.mk c)] then bif m_sm [I (Int.ofNat m), Value.slice (some (Addr.mk 0 0 none)) len 9223372036854775808, Value.agg (Array.mk c)] then bif ok then bif m_sm [Value.slice (some (Addr.mk 0 0 none)) m m, Value.agg (Array.mk g)] then bif h then bif m_sm [Value.slice (some (Addr.mk 0 0 none)) m m, Value.agg (Array.mk g), Value.agg (Array.mk [I x0, I x1, I x2, I x3])] then bif ip then rB true else rB false else CR.fail 420 else rB false else CR.fail 420 else bif m_sm [Value.slice (some (Addr.mk 0 0 none)) m m, Value.agg (Array.mk g)] then bif h then rB false else bif x0 == Int.ofNat 0 && (x1 == Int.ofNat 0 && (x2 == Int.ofNat 0 && (x3 == Int.ofNat 0 && true))) then rB true else rB false else CR.fail 420 else CR.fail 420 else CR.fail 420 else CR.fail 420 := by kernel_rfl

theorem pp0R (r : Mem) (n : Int) (b off len0 cap : Nat) (m : Nat) (g : List Value) (x0 x1 x2 x3 : Int) (ok h ip : Bool) : (lvlT (SC r) (tL0 [I n, (RS2 b off len0 cap), I 16] m g x0 x1 x2 x3 ok h ip) .nil 5 1).call 4 [I n, (RS2 b off len0 cap)] emptyA fin =
    bif m_sm [I n, Value.slice (some (Addr.mk b off (some 0))) len0 cap, I (Int.ofNat 16)] then bif m_sm [I (Int.ofNat m), Value.slice none 0 0] then bif m_sm [I (Int.ofNat m), Value.slice none 0 0] then bif ok then bif m_sm [Value.slice (some (Addr.mk 0 0 none)) m m, Value.agg (Array.mk g)] then bif h then bif m_sm [Value.slice (some (Addr.mk 0 0 none)) m m, Value.agg (Array.mk g), Value.agg (Array.mk [I x0, I x1, I x2, I x3])] then bif ip then rB true else rB false else CR.fail 420 else rB false else CR.fail 420 else bif m_sm [Value.slice (some (Addr.mk 0 0 none)) m m, Value.agg (Array.mk g)] then bif h then rB false else bif x0 == Int.ofNat 0 && (x1 == Int.ofNat 0 && (x2 == Int.ofNat 0 && (x3 == Int.ofNat 0 && true))) then rB true else rB false else CR.fail 420 else CR.fail 420 else CR.fail 420 else CR.fail 420 := by kernel_rfl

theorem pp0N (r : Mem) (n : Int) (m : Nat) (g : List Value) (x0 x1 x2 x3 : Int) (ok h ip : Bool) : (lvlT (SC r) (tL0 [I n, (.slice none 0 0), I 16] m g x0 x1 x2 x3 ok h ip) .nil 5 1).call 4 [I n, (.slice none 0 0)] emptyA fin =
    bif m_sm [I n, Value.slice none 0 0, I (Int.ofNat 16)] then bif m_sm [I (Int.ofNat m), Value.slice none 0 0] then bif m_sm [I (Int.ofNat m), Value.slice none 0 0] then bif ok then bif m_sm [Value.slice (some (Addr.mk 0 0 none)) m m, Value.agg (Array.mk g)] then bif h then bif m_sm [Value.slice (some (Addr.mk 0 0 none)) m m, Value.agg (Array.mk g), Value.agg (Array.mk [I x0, I x1, I x2, I x3])] then bif ip then rB true else rB false else CR.fail 420 else rB false else CR.fail 420 else bif m_sm [Value.slice (some (Addr.mk 0 0 none)) m m, Value.agg (Array.mk g)] then bif h then rB false else bif x0 == Int.ofNat 0 && (x1 == Int.ofNat 0 && (x2 == Int.ofNat 0 && (x3 == Int.ofNat 0 && true))) then rB true else rB false else CR.fail 420 else CR.fail 420 else CR.fail 420 else CR.fail 420 := by kernel_rfl

end Go.Proofs

/- maps.Keys and slices.AppendSeq over it, run: keys of kind u16. -/
namespace Go.Proofs.VK
open Go Go.Ev Go.Proofs
set_option maxRecDepth 100000
set_option linter.unusedVariables false
set_option linter.unusedSimpArgs false

def rfAs : Code → Code | .rangeFunc _ _ a _ => a | c => c
def rfBd : Code → Code | .rangeFunc _ _ _ b => b | c => c
noncomputable def cKs : Code := bodyOf S0 112
noncomputable def cAq : Code := bodyOf S0 113
noncomputable def cCo : Code := bodyOf S0 100

/-- The keys' walk. -/
abbrev seqV : Value := .func (.func 112) ⟨[]⟩ ⟨[.pointer (some ⟨0, 0, none⟩)]⟩
def AK0 (e z clock : Nat) (es : List MapEntry) : AW := ⟨2, .node (.node .nil (some (.map es clock)) .nil) (some (.cells [.map (some 1)] e 0 z)) .nil, .nil⟩

noncomputable def k_aqA : Code := rfAs (ic (rc (lc (rc cAq))))
noncomputable def k_aqB : Code := rfBd (ic (rc (lc (rc cAq))))
def TQ : Tr Value := .node (.node .nil (some seqV) .nil) (some (.slice none 0 0)) (.node (.node .nil (some (.slice none 0 0)) .nil) (some (.pointer (some ⟨2, 0, none⟩))) .nil)
noncomputable def AKg (e z clock : Nat) (es : List MapEntry) (n : Nat) (sv : Value) (s5 s6 : Tr AObj) : AW :=
  ⟨n, .node (.node (.node .nil (some .defd) .nil) (some (.map es clock)) s5) (some (.cells [.map (some 1)] e 0 z)) (.node (.node .nil (some (.loop .ready none 183 ⟨[(6, seqV)], TQ⟩ 13 ⟨[7]⟩ k_aqA k_aqB 3)) .nil) (some (.cells [sv] 67 2 0)) s6), .nil⟩
def miT (clock : Nat) (seen : List Nat) : Tr AObj := .node .nil (some (.miter 1 clock seen clock)) .nil
def rwT (i : Nat) (l : List Value) : Tr AObj := .node .nil (some (.cells l 52 i 1)) .nil
def yK : List Value := [.func (.yield 4) ⟨[]⟩ ⟨[]⟩, .pointer (some ⟨0, 0, none⟩)]

def TK : Tr Value := .node (.node .nil (some (.pointer (some ⟨0, 0, none⟩))) (.node .nil (some (.pointer (some ⟨5, 0, none⟩))) .nil)) (some (.func (.yield 4) ⟨[]⟩ ⟨[]⟩)) .nil
def TKz (z : Int) : Tr Value := .node (.node (.node .nil (some (.int .u64 z)) .nil) (some (.pointer (some ⟨0, 0, none⟩))) (.node .nil (some (.pointer (some ⟨5, 0, none⟩))) .nil)) (some (.func (.yield 4) ⟨[]⟩ ⟨[]⟩)) .nil

theorem kyA (r : Mem) (L : Nat) (fs : FnsC) (e z clock : Nat) (es : List MapEntry) (kn : KS) (kx : Nat → KS) (kr : KS) (ms : List Nat) : run (SC r) 183 13 L (.seq (lc cAq) (lc (lc (rc cAq)))) fs none kn kx kr (sc0 183 [.slice none 0 0, seqV]) (tr0 183 [.slice none 0 0, seqV]) ms (AK0 e z clock es) =
    kn [(6, Value.func (Fn.func 112) (Array.mk []) (Array.mk [Value.pointer (some (Addr.mk 0 0 none))]))] (Tr.node (Tr.node Tr.nil (some (Value.func (Fn.func 112) (Array.mk []) (Array.mk [Value.pointer (some (Addr.mk 0 0 none))]))) Tr.nil) (some (Value.slice none 0 0)) (Tr.node (Tr.node Tr.nil (some (Value.slice none 0 0)) Tr.nil) (some (Value.pointer (some (Addr.mk 2 0 none)))) Tr.nil)) ms (AW.mk 3 (Tr.node (Tr.node Tr.nil (some (AObj.map es clock)) Tr.nil) (some (AObj.cells [Value.map (some 1)] e 0 z)) (Tr.node Tr.nil (some (AObj.cells [Value.slice none 0 0] 67 2 0)) Tr.nil)) Tr.nil) := by kernel_rfl

theorem kyB (r : Mem) (L : Nat) (fs : FnsC) (e z clock : Nat) (es : List MapEntry) (kn : KS) (kx : Nat → KS) (kr : KS) (ms : List Nat) : run (SC r) 43 14 L (lc cKs) fs none kn kx kr (sc0 43 yK) (tr0 43 yK) ms (AKg e z clock es 5 (.slice none 0 0) .nil .nil) =
    kn [(4, Value.map (some 1))] (Tr.node (Tr.node Tr.nil (some (Value.pointer (some (Addr.mk 0 0 none)))) (Tr.node Tr.nil (some (Value.pointer (some (Addr.mk 5 0 none)))) Tr.nil)) (some (Value.func (Fn.yield 4) (Array.mk []) (Array.mk []))) Tr.nil) ms (AW.mk 6 (Tr.node (Tr.node (Tr.node Tr.nil (some AObj.defd) Tr.nil) (some (AObj.map es clock)) (Tr.node Tr.nil (some (AObj.miter 1 clock [] clock)) Tr.nil)) (some (AObj.cells [Value.map (some 1)] e 0 z)) (Tr.node (Tr.node Tr.nil (some (AObj.loop LoopState.ready none 183 (En.mk [(6, Value.func (Fn.func 112) (Array.mk []) (Array.mk [Value.pointer (some (Addr.mk 0 0 none))]))] (Tr.node (Tr.node Tr.nil (some (Value.func (Fn.func 112) (Array.mk []) (Array.mk [Value.pointer (some (Addr.mk 0 0 none))]))) Tr.nil) (some (Value.slice none 0 0)) (Tr.node (Tr.node Tr.nil (some (Value.slice none 0 0)) Tr.nil) (some (Value.pointer (some (Addr.mk 2 0 none)))) Tr.nil))) 13 (Array.mk [7]) (Code.region 2 #[Oper.mk (some 5) (Op.assign (Operand.tmp 7)) 52 "iter.go:51" #[] none] false) (Code.block 1 (Code.region 3 #[Oper.mk (some 8) (Op.load 67 (Operand.tmp 2)) 67 "iter.go:52" #[] none, Oper.mk (some 9) (Op.move (Operand.tmp 5)) 52 "iter.go:52" #[] none, Oper.mk (some 10) (Op.buildSlice 67 1 #[(0, Operand.tmp 9)]) 67 "iter.go:52" #[Edge.mk 1 Ground.data] none, Oper.mk (some 11) (Op.call (Call.mk (Callee.builtin Builtin.append) #[Operand.tmp 8, Operand.tmp 10] #[67, 67])) 67 "iter.go:52" #[Edge.mk 0 Ground.data, Edge.mk 2 Ground.data] none, Oper.mk none (Op.store 67 (Operand.tmp 2) (Operand.tmp 11)) 0 "iter.go:52" #[Edge.mk 3 Ground.data, Edge.mk 3 Ground.chain, Edge.mk 0 Ground.phase, Edge.mk 1 Ground.phase, Edge.mk 2 Ground.phase, Edge.mk 3 Ground.phase] none] false)) 3)) Tr.nil) (some (AObj.cells [Value.slice none 0 0] 67 2 0)) Tr.nil)) Tr.nil) := by kernel_rfl

theorem kyC (r : Mem) (L : Nat) (fs : FnsC) (s : List (Nat × Value)) (b : Tr Value) (q : Bool) (kn : KS) (kx : Nat → KS) (kr : KS) (ms : List Nat) (A : AW) : run (SC r) 43 14 L (lc (rc (ic (ic (rc cKs))))) fs none kn kx kr ((7, .bool q) :: s) b ms A =
    bif q then kn ((7, Value.bool q) :: s) b ms A else kx 0 ((7, Value.bool q) :: s) b ms A := by kernel_rfl

theorem kyP (r : Mem) (fs : FnsC) (kn : KS) (ms : List Nat) (A : AW) : preK (SC r) 43 14 (lc (ic (ic (rc cKs)))) 0 fs kn [] TK ms A =
    kn [] (Tr.node (Tr.node Tr.nil (some (Value.pointer (some (Addr.mk 0 0 none)))) (Tr.node Tr.nil (some (Value.pointer (some (Addr.mk 5 0 none)))) Tr.nil)) (some (Value.func (Fn.yield 4) (Array.mk []) (Array.mk []))) Tr.nil) ms A := by kernel_rfl

theorem kyN (r : Mem) (fs : FnsC) (x : Int) (vb : Bool) (kn : KS) (ms : List Nat) (A : AW) : tailK (SC r) 43 14 (lc (ic (ic (rc cKs)))) 0 fs kn (.tuple ⟨[.bool true, .int .u64 x, .bool vb]⟩) [] TK ms A =
    kn [(7, Value.bool true), (6, Value.tuple (Array.mk [Value.bool true, Value.int IntKind.u64 x, Value.bool vb]))] (Tr.node (Tr.node Tr.nil (some (Value.pointer (some (Addr.mk 0 0 none)))) (Tr.node Tr.nil (some (Value.pointer (some (Addr.mk 5 0 none)))) Tr.nil)) (some (Value.func (Fn.yield 4) (Array.mk []) (Array.mk []))) Tr.nil) ms A := by kernel_rfl

theorem kyM (r : Mem) (fs : FnsC) (kn : KS) (ms : List Nat) (A : AW) : tailK (SC r) 43 14 (lc (ic (ic (rc cKs)))) 0 fs kn (.tuple ⟨[.bool false]⟩) [] TK ms A =
    kn [(7, Value.bool false), (6, Value.tuple (Array.mk [Value.bool false]))] (Tr.node (Tr.node Tr.nil (some (Value.pointer (some (Addr.mk 0 0 none)))) (Tr.node Tr.nil (some (Value.pointer (some (Addr.mk 5 0 none)))) Tr.nil)) (some (Value.func (Fn.yield 4) (Array.mk []) (Array.mk []))) Tr.nil) ms A := by kernel_rfl

theorem kyQ (r : Mem) (fs : FnsC) (kn : KS) (ms : List Nat) (A : AW) : preK (SC r) 43 14 (lc (ic (rc (rc (ic (ic (rc cKs))))))) 0 fs kn [] TK ms A =
    kn [] (Tr.node (Tr.node Tr.nil (some (Value.pointer (some (Addr.mk 0 0 none)))) (Tr.node Tr.nil (some (Value.pointer (some (Addr.mk 5 0 none)))) Tr.nil)) (some (Value.func (Fn.yield 4) (Array.mk []) (Array.mk []))) Tr.nil) ms A := by kernel_rfl

theorem kyE (r : Mem) (fs : FnsC) (x : Int) (vb : Bool) (kn : KS) (ms : List Nat) (A : AW) : tailK (SC r) 43 14 (lc (ic (rc (rc (ic (ic (rc cKs))))))) 0 fs kn (.tuple ⟨[.int .u64 x, .bool vb]⟩) [] TK ms A =
    kn [(9, Value.int IntKind.u64 x), (8, Value.tuple (Array.mk [Value.int IntKind.u64 x, Value.bool vb]))] (Tr.node (Tr.node (Tr.node Tr.nil (some (Value.int IntKind.u64 x)) Tr.nil) (some (Value.pointer (some (Addr.mk 0 0 none)))) (Tr.node Tr.nil (some (Value.pointer (some (Addr.mk 5 0 none)))) Tr.nil)) (some (Value.func (Fn.yield 4) (Array.mk []) (Array.mk []))) Tr.nil) ms A := by kernel_rfl

theorem kyY (r : Mem) (L : Nat) (tm : Tr Nat) (e z clock : Nat) (es : List MapEntry) (seen : List Nat) (x : Int) (s : List (Nat × Value)) (kn : KS) (kx : Nat → KS) (kr : KS) (ms : List Nat) : run (SC r) 43 14 L (rc (ic (rc (rc (ic (ic (rc cKs))))))) (lvlT (SC r) (fun _ => none) tm L 1) none kn kx kr s (TKz x) ms (AKg e z clock es 6 (.slice none 0 0) (miT clock seen) .nil) =
    kn [(13, Value.bool false), (12, Value.bool true), (11, Value.int IntKind.u64 x), (10, Value.func (Fn.yield 4) (Array.mk []) (Array.mk []))] (Tr.node (Tr.node (Tr.node Tr.nil (some (Value.int IntKind.u64 x)) Tr.nil) (some (Value.pointer (some (Addr.mk 0 0 none)))) (Tr.node Tr.nil (some (Value.pointer (some (Addr.mk 5 0 none)))) Tr.nil)) (some (Value.func (Fn.yield 4) (Array.mk []) (Array.mk []))) Tr.nil) ms (AW.mk 8 (Tr.node (Tr.node (Tr.node (Tr.node Tr.nil (some (AObj.cells [Value.int IntKind.u64 x] 52 7 1)) Tr.nil) (some AObj.defd) Tr.nil) (some (AObj.map es clock)) (Tr.node Tr.nil (some (AObj.miter 1 clock seen clock)) Tr.nil)) (some (AObj.cells [Value.map (some 1)] e 0 z)) (Tr.node (Tr.node Tr.nil (some (AObj.loop LoopState.ready none 183 (En.mk [(6, Value.func (Fn.func 112) (Array.mk []) (Array.mk [Value.pointer (some (Addr.mk 0 0 none))]))] (Tr.node (Tr.node Tr.nil (some (Value.func (Fn.func 112) (Array.mk []) (Array.mk [Value.pointer (some (Addr.mk 0 0 none))]))) Tr.nil) (some (Value.slice none 0 0)) (Tr.node (Tr.node Tr.nil (some (Value.slice none 0 0)) Tr.nil) (some (Value.pointer (some (Addr.mk 2 0 none)))) Tr.nil))) 13 (Array.mk [7]) (Code.region 2 #[Oper.mk (some 5) (Op.assign (Operand.tmp 7)) 52 "iter.go:51" #[] none] false) (Code.block 1 (Code.region 3 #[Oper.mk (some 8) (Op.load 67 (Operand.tmp 2)) 67 "iter.go:52" #[] none, Oper.mk (some 9) (Op.move (Operand.tmp 5)) 52 "iter.go:52" #[] none, Oper.mk (some 10) (Op.buildSlice 67 1 #[(0, Operand.tmp 9)]) 67 "iter.go:52" #[Edge.mk 1 Ground.data] none, Oper.mk (some 11) (Op.call (Call.mk (Callee.builtin Builtin.append) #[Operand.tmp 8, Operand.tmp 10] #[67, 67])) 67 "iter.go:52" #[Edge.mk 0 Ground.data, Edge.mk 2 Ground.data] none, Oper.mk none (Op.store 67 (Operand.tmp 2) (Operand.tmp 11)) 0 "iter.go:52" #[Edge.mk 3 Ground.data, Edge.mk 3 Ground.chain, Edge.mk 0 Ground.phase, Edge.mk 1 Ground.phase, Edge.mk 2 Ground.phase, Edge.mk 3 Ground.phase] none] false)) 3)) Tr.nil) (some (AObj.cells [Value.slice (some (Addr.mk 7 0 none)) 1 9223372036854775808] 67 2 0)) (Tr.node Tr.nil (some (AObj.cells [Value.int IntKind.u64 x] 52 6 1)) Tr.nil))) Tr.nil) := by kernel_rfl

theorem kyZ (r : Mem) (L : Nat) (tm : Tr Nat) (e z clock : Nat) (es : List MapEntry) (seen : List Nat) (x : Int) (l : List Value) (n : Nat) (s : List (Nat × Value)) (kn : KS) (kx : Nat → KS) (kr : KS) (ms : List Nat) : run (SC r) 43 14 L (rc (ic (rc (rc (ic (ic (rc cKs))))))) (lvlT (SC r) (fun _ => none) tm L 1) none kn kx kr s (TKz x) ms (AKg e z clock es 7 (.slice (some ⟨6, 0, none⟩) n unk) (miT clock seen) (rwT 6 l)) =
    bif Nat.ble (Nat.add n 1) 1000000 then Option.casesOn (takeAt l 0 (Nat.mul n 1)) (CR.fail 439) fun val => kn [(13, Value.bool false), (12, Value.bool true), (11, Value.int IntKind.u64 x), (10, Value.func (Fn.yield 4) (Array.mk []) (Array.mk []))] (Tr.node (Tr.node (Tr.node Tr.nil (some (Value.int IntKind.u64 x)) Tr.nil) (some (Value.pointer (some (Addr.mk 0 0 none)))) (Tr.node Tr.nil (some (Value.pointer (some (Addr.mk 5 0 none)))) Tr.nil)) (some (Value.func (Fn.yield 4) (Array.mk []) (Array.mk []))) Tr.nil) ms (AW.mk 9 (Tr.node (Tr.node (Tr.node (Tr.node Tr.nil (some (AObj.cells [Value.int IntKind.u64 x] 52 7 1)) Tr.nil) (some AObj.defd) Tr.nil) (some (AObj.map es clock)) (Tr.node Tr.nil (some (AObj.miter 1 clock seen clock)) Tr.nil)) (some (AObj.cells [Value.map (some 1)] e 0 z)) (Tr.node (Tr.node (Tr.node Tr.nil (some (AObj.cells (val ++ [Value.int IntKind.u64 x]) 52 6 1)) Tr.nil) (some (AObj.loop LoopState.ready none 183 (En.mk [(6, Value.func (Fn.func 112) (Array.mk []) (Array.mk [Value.pointer (some (Addr.mk 0 0 none))]))] (Tr.node (Tr.node Tr.nil (some (Value.func (Fn.func 112) (Array.mk []) (Array.mk [Value.pointer (some (Addr.mk 0 0 none))]))) Tr.nil) (some (Value.slice none 0 0)) (Tr.node (Tr.node Tr.nil (some (Value.slice none 0 0)) Tr.nil) (some (Value.pointer (some (Addr.mk 2 0 none)))) Tr.nil))) 13 (Array.mk [7]) (Code.region 2 #[Oper.mk (some 5) (Op.assign (Operand.tmp 7)) 52 "iter.go:51" #[] none] false) (Code.block 1 (Code.region 3 #[Oper.mk (some 8) (Op.load 67 (Operand.tmp 2)) 67 "iter.go:52" #[] none, Oper.mk (some 9) (Op.move (Operand.tmp 5)) 52 "iter.go:52" #[] none, Oper.mk (some 10) (Op.buildSlice 67 1 #[(0, Operand.tmp 9)]) 67 "iter.go:52" #[Edge.mk 1 Ground.data] none, Oper.mk (some 11) (Op.call (Call.mk (Callee.builtin Builtin.append) #[Operand.tmp 8, Operand.tmp 10] #[67, 67])) 67 "iter.go:52" #[Edge.mk 0 Ground.data, Edge.mk 2 Ground.data] none, Oper.mk none (Op.store 67 (Operand.tmp 2) (Operand.tmp 11)) 0 "iter.go:52" #[Edge.mk 3 Ground.data, Edge.mk 3 Ground.chain, Edge.mk 0 Ground.phase, Edge.mk 1 Ground.phase, Edge.mk 2 Ground.phase, Edge.mk 3 Ground.phase] none] false)) 3)) Tr.nil) (some (AObj.cells [Value.slice (some (Addr.mk 8 0 none)) (Nat.add n 1) 9223372036854775808] 67 2 0)) (Tr.node Tr.nil none Tr.nil))) (Tr.node Tr.nil none (Tr.node Tr.nil none (Tr.node Tr.nil (some [8]) Tr.nil)))) else CR.fail 420 := by kernel_rfl

end Go.Proofs.VK

/- maps.Keys over slices.AppendSeq: the walk, each key once, in any order. -/
namespace Go.Proofs.VK
open Go Go.Ev Go.Proofs
set_option maxRecDepth 100000
set_option linter.unusedVariables false
set_option linter.unusedSimpArgs false

abbrev K16 : Type := {x : Int // 0 ≤ x ∧ x < 65536}
abbrev KT : Type := K16 × Bool × Nat
def mkE (t : KT) : MapEntry := ⟨.int .u64 t.1.1, .bool t.2.1, t.2.2⟩
def rowK (l : List KT) : List Value := l.map fun t => .int .u64 t.1.1
def bornK (l : List KT) : List Nat := l.map fun t => t.2.2
theorem rowK_len (l : List KT) : (rowK l).length = l.length := by simp [rowK]
theorem rowK_gnd (l : List KT) : ∀ v ∈ rowK l, gnd v = true := fun v hv => by
  obtain ⟨t, _, rfl⟩ := List.mem_map.1 hv
  rfl
theorem takeAt_fullK (l : List Value) (n : Nat) (h : l.length = n) : takeAt l 0 n = some l := takeAt_all l n 0 l h fun j _ => by rw [Nat.zero_add]
theorem natFK {i j : Nat} (h : i ≠ j) : Nat.beq i j = false := by
  cases e : Nat.beq i j with
  | false => rfl
  | true => exact absurd (Nat.eq_of_beq_eq_true e) h

/-- The keys of a map that is not walked but by this: each born before the walk, at its own time. -/
structure KOk (q : List KT) (clock : Nat) : Prop where
  born : ∀ t ∈ q, t.2.2 < clock
  nodup : (bornK q).Nodup
  few : q.length < 1000000

theorem left_mem {q : List KT} {seen : List Nat} {e : MapEntry} (h : e ∈ nextLeft (q.map mkE) seen) : ∃ t ∈ q, e = mkE t ∧ t.2.2 ∉ seen := by
  unfold nextLeft at h
  obtain ⟨h1, h2⟩ := List.mem_filter.1 h
  obtain ⟨t, ht, rfl⟩ := List.mem_map.1 h1
  refine ⟨t, ht, rfl, fun hm => ?_⟩
  simp [mkE, hm] at h2

theorem left_nil {q : List KT} {seen : List Nat} (h : nextLeft (q.map mkE) seen = []) : ∀ t ∈ q, t.2.2 ∈ seen := fun t ht => by
  unfold nextLeft at h
  have := List.filter_eq_nil_iff.1 h (mkE t) (List.mem_map_of_mem ht)
  simpa [mkE] using this

theorem left_done {q vis rest : List KT} {clock : Nat} (hq : KOk q clock) (hp : (vis ++ rest).Perm q) (h : nextLeft (q.map mkE) (bornK vis) = []) : rest = [] := by
  cases rest with
  | nil => rfl
  | cons t l =>
    exfalso
    have h1 := left_nil h t (hp.mem_iff.1 (by simp))
    have h2 : (bornK (vis ++ t :: l)).Nodup := (hp.map _).nodup_iff.2 hq.nodup
    unfold bornK at h1 h2
    rw [List.map_append, List.nodup_append] at h2
    exact h2.2.2 _ h1 t.2.2 (by simp) rfl

theorem left_more {q vis rest : List KT} {clock : Nat} (hq : KOk q clock) (hp : (vis ++ rest).Perm q) {e : MapEntry} (h : e ∈ nextLeft (q.map mkE) (bornK vis)) : ∃ t rest', e = mkE t ∧ rest'.length < rest.length ∧ ((vis ++ [t]) ++ rest').Perm q := by
  obtain ⟨t, ht, rfl, hn⟩ := left_mem h
  have hm : t ∈ rest := by
    rcases List.mem_append.1 (hp.mem_iff.2 ht) with h1 | h1
    · exact absurd (List.mem_map_of_mem (f := fun t : KT => t.2.2) h1) hn
    · exact h1
  obtain ⟨a, b, rfl⟩ := List.append_of_mem hm
  refine ⟨t, a ++ b, rfl, by simp, List.Perm.trans ?_ hp⟩
  rw [List.append_assoc]
  refine List.Perm.append_left vis ?_
  simpa using List.perm_middle.symm

theorem same_ok {q : List KT} {clock : Nat} (hq : KOk q clock) (seen : List Nat) : nextSame (q.map mkE) clock seen clock = true := by
  unfold nextSame
  simp only [Bool.and_eq_true, Bool.not_eq_true', List.all_eq_true, decide_eq_true_eq]
  refine ⟨?_, fun e he => ?_⟩
  · cases q with
    | nil => simp
    | cons t l =>
      have := hq.born t (by simp)
      have h2 : (List.map mkE (t :: l)).all (fun e => decide (clock ≤ e.born)) = false := by
        simp [mkE]
        intro h
        omega
      rw [h2]
      simp
  · obtain ⟨t, ht, rfl, _⟩ := left_mem he
    exact hq.born t ht

theorem find_ok {q : List KT} {clock : Nat} (hq : KOk q clock) {t : KT} (ht : t ∈ q) : (q.map mkE).find? (fun e => Nat.beq e.born t.2.2) = some (mkE t) := by
  have key : ∀ (l : List KT), (bornK l).Nodup → t ∈ l → (l.map mkE).find? (fun e => Nat.beq e.born t.2.2) = some (mkE t) := by
    intro l
    induction l with
    | nil => intro _ h; cases h
    | cons x l ih =>
      intro hn hm
      rw [List.map_cons, List.find?_cons]
      unfold bornK at hn
      rw [List.map_cons, List.nodup_cons] at hn
      rcases List.mem_cons.1 hm with rfl | hm
      · rw [show Nat.beq (mkE t).born t.2.2 = true from Nat.beq_refl _]
      · have hne : x.2.2 ≠ t.2.2 := fun h => hn.1 (by rw [h]; exact List.mem_map_of_mem (f := fun t : KT => t.2.2) hm)
        rw [show Nat.beq (mkE x).born t.2.2 = false from natFK hne]
        exact ih hn.2 hm
  exact key q hq.nodup ht

section
variable {r : Mem} {γ0 : Gam} {W0 : World} {e z clock : Nat} {q : List KT}

/-- The world at the walk's head, and behind it. -/
noncomputable def AKv (e z clock : Nat) (q : List KT) : List KT → AW
  | [] => AKg e z clock (q.map mkE) 6 (.slice none 0 0) (miT clock []) .nil
  | t :: l => AKg e z clock (q.map mkE) 7 (.slice (some ⟨6, 0, none⟩) (t :: l).length unk) (miT clock (bornK (t :: l))) (rwT 6 (rowK (t :: l)))
noncomputable def AKf (e z clock : Nat) (q : List KT) : List KT → AW
  | [] => AKg e z clock (q.map mkE) 5 (.slice none 0 0) .nil .nil
  | t :: l => AKg e z clock (q.map mkE) 6 (.slice (some ⟨5, 0, none⟩) (t :: l).length unk) (rwT 5 (rowK (t :: l))) .nil
/-- The same, at the entry. -/
noncomputable def AKn (e z clock : Nat) (q : List KT) (seen : List Nat) : List KT → AW
  | [] => AKg e z clock (q.map mkE) 6 (.slice none 0 0) (miT clock seen) .nil
  | t :: l => AKg e z clock (q.map mkE) 7 (.slice (some ⟨6, 0, none⟩) (t :: l).length unk) (miT clock seen) (rwT 6 (rowK (t :: l)))


theorem ksG (q : List KT) : ∀ x ∈ q.map mkE, gnd x.key = true ∧ gnd x.val = true := fun x hx => by
  obtain ⟨t, _, rfl⟩ := List.mem_map.1 hx
  exact ⟨rfl, rfl⟩

theorem ren_start (h0 : ∀ i, 5 ≤ i → γ0 i = none) (s : List (Nat × Value)) : Ren (SC r) 43 14 γ0 W0 ⟨⟨s, TK⟩, [], AKv e z clock q []⟩ ⟨⟨[], TK⟩, [], AKv e z clock q []⟩ := by
  refine Ren.of (fun i => i) 5 rfl h0 (Nat.le_of_ble_eq_true rfl) (fun i hi => rfl) ?_ rfl ?_ trivial
  · simp only [Tr.All, TK]
    repeat' (first | exact trivial | apply And.intro)
    all_goals exact ⟨_, rfl, rfl⟩
  · simp only [Tr.All, AKv, AKg, miT]
    repeat' (first | exact trivial | apply And.intro)
    all_goals first | rfl | exact .head _ | exact ⟨_, rfl, .defd⟩ | exact ⟨_, rfl, .map (ksG q)⟩ | exact ⟨_, rfl, .miter rfl rfl⟩ | exact ⟨_, rfl, .cells rfl⟩ | exact ⟨_, rfl, .plain (by skip)⟩ | skip
    refine ⟨_, rfl, .same ?_ ?_ rfl rfl⟩
    · simp only [Tr.All, TQ]
      repeat' (first | exact trivial | apply And.intro)
      all_goals rfl
    · simp only [scrFix]
      repeat' (first | exact trivial | apply And.intro)
      all_goals rfl

/-- The states at the walk's head. -/
def KeySt (e z clock : Nat) (q : List KT) (j : Nat) (st : St) : Prop := ∃ vis rest, rest.length = j ∧ (vis ++ rest).Perm q ∧ st = ⟨⟨[], TK⟩, [], AKv e z clock q vis⟩

/-- What the walk leaves. -/
def KeyQ (r : Mem) (γ0 : Gam) (W0 : World) (e z clock : Nat) (q : List KT) : Exit → St → Prop
  | .exit id, st => id = 0 ∧ ∃ vis, vis.Perm q ∧ ∃ st1, Ren (SC r) 43 14 γ0 W0 st st1 ∧ st1 = ⟨⟨[], .nil⟩, [], AKf e z clock q vis⟩
  | _, _ => False

theorem ren_out (h0 : ∀ i, 5 ≤ i → γ0 i = none) (s : List (Nat × Value)) (vis : List KT) : Ren (SC r) 43 14 γ0 W0 ⟨⟨s, TK⟩, [], AKv e z clock q vis⟩ ⟨⟨[], .nil⟩, [], AKf e z clock q vis⟩ := by
  cases vis with
  | nil =>
    refine Ren.of (fun i => i) 5 rfl h0 (Nat.le_of_ble_eq_true rfl) (fun i hi => rfl) ?_ rfl ?_ trivial
    · simp only [Tr.All, TK]
      repeat' (first | exact trivial | apply And.intro)
      all_goals exact ⟨_, rfl, rfl⟩
    · simp only [Tr.All, AKv, AKf, AKg, miT]
      repeat' (first | exact trivial | apply And.intro)
      all_goals first | rfl | exact .head _ | exact ⟨_, rfl, .defd⟩ | exact ⟨_, rfl, .map (ksG q)⟩ | exact ⟨_, rfl, .miter rfl rfl⟩ | exact ⟨_, rfl, .cells rfl⟩ | exact ⟨_, rfl, .plain (by skip)⟩ | skip
      refine ⟨_, rfl, .same ?_ ?_ rfl rfl⟩
      · simp only [Tr.All, TQ]
        repeat' (first | exact trivial | apply And.intro)
        all_goals rfl
      · simp only [scrFix]
        repeat' (first | exact trivial | apply And.intro)
        all_goals rfl
  | cons t l =>
    refine Ren.of (fun i => bif Nat.beq i 5 then 6 else i) 5 rfl h0 (Nat.le_of_ble_eq_true rfl) (fun i hi => by have : Nat.beq i 5 = false := natFK (by omega); rw [this]; rfl) ?_ rfl ?_ trivial
    · simp only [Tr.All, TK]
      repeat' (first | exact trivial | apply And.intro)
      all_goals exact ⟨_, rfl, rfl⟩
    · simp only [Tr.All, AKv, AKf, AKg, miT, rwT]
      repeat' (first | exact trivial | apply And.intro)
      all_goals first | rfl | exact .head _ | exact ⟨_, rfl, .defd⟩ | exact ⟨_, rfl, .map (ksG q)⟩ | exact ⟨_, rfl, .miter rfl rfl⟩ | exact ⟨_, rfl, .cells rfl⟩ | exact ⟨_, rfl, .plain (by exact rowK_gnd (t :: l))⟩ | skip
      refine ⟨_, rfl, .same ?_ ?_ rfl rfl⟩
      · simp only [Tr.All, TQ]
        repeat' (first | exact trivial | apply And.intro)
        all_goals rfl
      · simp only [scrFix]
        repeat' (first | exact trivial | apply And.intro)
        all_goals rfl

theorem put_seen {vis : List KT} {seen : List Nat} : ({ AKv e z clock q vis with heap := (AKv e z clock q vis).heap.put 5 (some (.miter 1 clock seen clock)) } : AW) = AKn e z clock q seen vis := by
  cases vis <;> rfl

theorem key_body (hq : KOk q clock) (h0 : ∀ i, 5 ≤ i → γ0 i = none) {F : Fence} {k : Nat} (hF : Wide F) (hro : F.round = none) {j : Nat} {st : St} (hs : KeySt e z clock q j st) :
    Go.Ev.Reach (SC r) 43 14 F k γ0 W0 (ic (ic (rc cKs))) st fun ex st' => match ex with
      | .normal => ∃ j', j' < j ∧ ∃ st1, Ren (SC r) 43 14 γ0 W0 st' st1 ∧ KeySt e z clock q j' st1
      | ex => KeyQ r γ0 W0 e z clock q ex st' := by
  obtain ⟨vis, rest, rfl, hp, rfl⟩ := hs
  rw [show ic (ic (rc cKs)) = Code.seq (lc (ic (ic (rc cKs)))) (.seq (lc (rc (ic (ic (rc cKs))))) (.block 1 (ic (rc (rc (ic (ic (rc cKs)))))))) from by kernel_rfl]
  have hi : (AKv e z clock q vis).heap.get 5 = some (.miter 1 clock (bornK vis) clock) := by cases vis <;> rfl
  have hm : (AKv e z clock q vis).heap.get 1 = some (.map (q.map mkE) clock) := by cases vis <;> rfl
  refine Go.Ev.Reach.seq (Go.Ev.Reach.nextP (SC_ok r) hF TOk.nil (tm := .nil) (L := 0) (d := 0) 0 (s1 := []) (b1 := TK) (ms1 := []) (A1 := AKv e z clock q vis) ?_ (by kernel_rfl) hi hm (same_ok hq _) fun v A' hv => ?_)
  · rw [kyP]
    exact qn_ok rfl
  rcases hv with ⟨hnil, rfl, rfl⟩ | ⟨x, hx, rfl, rfl⟩
  · rw [kyM]
    refine qn_ok (Go.Ev.Reach.seq (Go.Ev.Reach.seg (SC_ok r) TOk.nil (tm := .nil) (L := 1) (L' := 1) (d := 1) hF hro ?_))
    rw [kyC]
    simp only [cond_false]
    have := left_done hq hp hnil
    subst this
    rw [List.append_nil] at hp
    exact qn_ok ⟨rfl, vis, hp, _, ren_out h0 _ vis, rfl⟩
  · obtain ⟨t, rest', rfl, hlt, hp'⟩ := left_more hq hp hx
    rw [show (mkE t).key = .int .u64 t.1.1 from rfl, show (mkE t).val = .bool t.2.1 from rfl, show (mkE t).born = t.2.2 from rfl, kyN, put_seen]
    refine qn_ok (Go.Ev.Reach.seq (Go.Ev.Reach.seg (SC_ok r) TOk.nil (tm := .nil) (L := 1) (L' := 1) (d := 1) hF hro ?_))
    rw [kyC]
    simp only [cond_true]
    have ht : t ∈ q := hp'.mem_iff.1 (by simp)
    have hi : (AKn e z clock q (bornK vis ++ [t.2.2]) vis).heap.get 5 = some (.miter 1 clock (bornK vis ++ [t.2.2]) clock) := by cases vis <;> rfl
    have hm : (AKn e z clock q (bornK vis ++ [t.2.2]) vis).heap.get 1 = some (.map (q.map mkE) clock) := by cases vis <;> rfl
    refine qn_ok (Go.Ev.Reach.block ?_)
    rw [show ic (rc (rc (ic (ic (rc cKs))))) = Code.seq (lc (ic (rc (rc (ic (ic (rc cKs))))))) (rc (ic (rc (rc (ic (ic (rc cKs))))))) from by kernel_rfl]
    refine Go.Ev.Reach.seq (Go.Ev.Reach.entryP (SC_ok r) hF TOk.nil (tm := .nil) (L := 0) (d := 0) 0 (s1 := []) (b1 := TK) (ms1 := []) (A1 := AKn e z clock q (bornK vis ++ [t.2.2]) vis) (i := 5) ?_ (by kernel_rfl) hi hm (by simp) (find_ok hq ht) ?_)
    · exact (kyQ ..).trans (qn_ok rfl)
    rw [show (mkE t).key = .int .u64 t.1.1 from rfl, show (mkE t).val = .bool t.2.1 from rfl, kyE]
    refine qn_ok (Go.Ev.Reach.seg (SC_ok r) TOk.nil (tm := .nil) (L := 1) (L' := 1) (d := 1) hF hro ?_)
    cases vis with
    | nil =>
      refine (kyY ..).trans (qn_ok ⟨rest'.length, hlt, _, ?_, [t], rest', rfl, hp', rfl⟩)
      show Ren _ _ _ _ _ _ ⟨⟨[], TK⟩, [], AKg e z clock (q.map mkE) 7 (.slice (some ⟨6, 0, none⟩) 1 unk) (miT clock [t.2.2]) (rwT 6 [.int .u64 t.1.1])⟩
      refine Ren.of (fun i => bif Nat.beq i 6 then 7 else i) 5 rfl h0 (Nat.le_of_ble_eq_true rfl) (fun i hi => by have : Nat.beq i 6 = false := natFK (by omega); rw [this]; rfl) ?_ rfl ?_ trivial
      · simp only [Tr.All, TK]
        repeat' (first | exact trivial | apply And.intro)
        all_goals exact ⟨_, rfl, rfl⟩
      · simp only [Tr.All, AKg, miT, rwT]
        repeat' (first | exact trivial | apply And.intro)
        all_goals first | rfl | exact .head _ | exact ⟨_, rfl, .defd⟩ | exact ⟨_, rfl, .map (ksG q)⟩ | exact ⟨_, rfl, .miter rfl rfl⟩ | exact ⟨_, rfl, .cells rfl⟩ | exact ⟨_, rfl, .plain (by intro v hv; rw [List.mem_singleton.1 hv]; rfl)⟩ | skip
        refine ⟨_, rfl, .same ?_ ?_ rfl rfl⟩
        · simp only [Tr.All, TQ]
          repeat' (first | exact trivial | apply And.intro)
          all_goals rfl
        · simp only [scrFix]
          repeat' (first | exact trivial | apply And.intro)
          all_goals rfl
    | cons t0 l =>
      have hlen : (t0 :: l).length + 1 ≤ q.length := by
        have := hp'.length_eq
        simp only [List.length_append, List.length_cons, List.length_nil] at this ⊢
        omega
      have hfew := hq.few
      have g1 : Nat.ble (Nat.add (t0 :: l).length 1) 1000000 = true := Nat.ble_eq_true_of_le (by simp only [Nat.add_eq]; omega)
      have g2 : takeAt (rowK (t0 :: l)) 0 (Nat.mul (t0 :: l).length 1) = some (rowK (t0 :: l)) := takeAt_fullK _ _ (by rw [rowK_len]; simp)
      refine (kyZ ..).trans ?_
      rw [g1, g2]
      simp only [cond_true]
      refine qn_ok ⟨rest'.length, hlt, _, ?_, (t0 :: l) ++ [t], rest', rfl, hp', rfl⟩
      show Ren _ _ _ _ _ _ ⟨⟨[], TK⟩, [], AKg e z clock (q.map mkE) 7 (.slice (some ⟨6, 0, none⟩) ((t0 :: l) ++ [t]).length unk) (miT clock (bornK ((t0 :: l) ++ [t]))) (rwT 6 (rowK ((t0 :: l) ++ [t])))⟩
      have e1 : ((t0 :: l) ++ [t]).length = Nat.add (t0 :: l).length 1 := by simp
      have e2 : bornK ((t0 :: l) ++ [t]) = bornK (t0 :: l) ++ [t.2.2] := by simp [bornK]
      have e3 : rowK ((t0 :: l) ++ [t]) = rowK (t0 :: l) ++ [.int .u64 t.1.1] := by simp [rowK]
      rw [e1, e2, e3]
      refine Ren.of (fun i => bif Nat.beq i 6 then 8 else i) 5 rfl h0 (Nat.le_of_ble_eq_true rfl) (fun i hi => by have : Nat.beq i 6 = false := natFK (by omega); rw [this]; rfl) ?_ rfl ?_ trivial
      · simp only [Tr.All, TK]
        repeat' (first | exact trivial | apply And.intro)
        all_goals exact ⟨_, rfl, rfl⟩
      · simp only [Tr.All, AKg, miT, rwT]
        repeat' (first | exact trivial | apply And.intro)
        all_goals first | rfl | exact .head _ | exact ⟨_, rfl, .defd⟩ | exact ⟨_, rfl, .map (ksG q)⟩ | exact ⟨_, rfl, .miter rfl rfl⟩ | exact ⟨_, rfl, .cells rfl⟩ | exact ⟨_, rfl, .plain (by exact e3 ▸ rowK_gnd ((t0 :: l) ++ [t]))⟩ | skip
        refine ⟨_, rfl, .same ?_ ?_ rfl rfl⟩
        · simp only [Tr.All, TQ]
          repeat' (first | exact trivial | apply And.intro)
          all_goals rfl
        · simp only [scrFix]
          repeat' (first | exact trivial | apply And.intro)
          all_goals rfl

/-- The walk over the keys, called by the loop that collects them. -/
theorem keys_S (hq : KOk q clock) : SOk (SC r) 112 yK (AKg e z clock (q.map mkE) 5 (.slice none 0 0) .nil .nil) fun v A' => v = .tuple ⟨[]⟩ ∧ ∃ vis, vis.Perm q ∧ A' = AKf e z clock q vis := by
  obtain ⟨fn, h1, h2, h3, h4⟩ := fn_of (C := SC r) (f := 112) (by kernel_rfl)
  have hn : fn.ntmps = 14 := h3.trans (by kernel_rfl)
  have hr : fn.results.toList = [] := h4.trans (by kernel_rfl)
  rw [bodySC] at h2
  refine call_reachS (SC_ok r) h1 h2 43 (by rw [hn]; rfl) fun γ W F k hw hF hro => ?_
  rw [hn, hr]
  have h0 : ∀ i, 5 ≤ i → γ i = none := hw.fresh
  show Go.Ev.Reach (SC r) 43 14 F k γ W cKs _ _
  rw [show cKs = Code.seq (lc cKs) (.block 0 (.loop (ic (ic (rc cKs))))) from by kernel_rfl]
  refine Go.Ev.Reach.seq (Go.Ev.Reach.seg (SC_ok r) TOk.nil (tm := .nil) (L := 1) (L' := 1) (d := 1) hF hro ((kyB ..).trans (qn_ok ?_)))
  refine Go.Ev.Reach.pre (ren_start h0 _) ?_
  refine Go.Ev.Reach.block ?_
  refine Go.Ev.Reach.loop (I := fun j st => ∃ st1, Ren (SC r) 43 14 γ W st st1 ∧ KeySt e z clock q j st1) (fun j st ⟨st1, hr, hs⟩ => Go.Ev.Reach.pre hr (Go.Ev.Reach.mono (key_body hq h0 hF hro hs) fun ex st' h => ?_)) ⟨_, Ren.refl _, [], q, rfl, by simp, rfl⟩
  cases ex with
  | normal => exact h
  | exit id =>
    obtain ⟨rfl, vis, hv, st2, hr2, rfl⟩ := h
    exact ⟨.inl rfl, _, _, _, hr2, rfl, rfl, vis, hv, rfl⟩
  | _ => exact h.elim

end

end Go.Proofs.VK

/- slices.AppendSeq and Collect over maps.Keys: one row, the keys in any order. -/
namespace Go.Proofs.VK
open Go Go.Ev Go.Proofs
set_option maxRecDepth 100000
set_option linter.unusedVariables false
set_option linter.unusedSimpArgs false

def TQ0 : Tr Value := .node (.node .nil (some seqV) .nil) (some (.slice none 0 0)) .nil
/-- Behind it: the row. -/
def AR (e z clock : Nat) (es : List MapEntry) (l : List Value) : AW := ⟨4, .node (.node (.node .nil none .nil) (some (.map es clock)) .nil) (some (.cells [.map (some 1)] e 0 z)) (.node .nil (some (.cells l 52 2 1)) .nil), .nil⟩
noncomputable def AR3 (e z clock : Nat) (es : List MapEntry) (l : List Value) : AW := ⟨4, .node (.node (.node .nil (some .defd) .nil) (some (.map es clock)) .nil) (some (.cells [.map (some 1)] e 0 z)) (.node .nil (some (.cells l 52 2 1)) .nil), .nil⟩
noncomputable def AKh (e z clock : Nat) (es : List MapEntry) (n : Nat) (sv : Value) (s5 : Tr AObj) : AW :=
  ⟨n, .node (.node (.node .nil (some .defd) .nil) (some (.map es clock)) s5) (some (.cells [.map (some 1)] e 0 z)) (.node (.node .nil (some (.loop .exhausted none 183 ⟨[(6, seqV)], TQ⟩ 13 ⟨[7]⟩ k_aqA k_aqB 3)) .nil) (some (.cells [sv] 67 2 0)) .nil), .nil⟩
def TQ4 (sv : Value) : Tr Value := .node .nil none (.node (.node .nil (some sv) .nil) none .nil)

def TC0 (v : Value) : Tr Value := .node .nil (some seqV) (.node .nil (some v) .nil)

theorem kcA (r : Mem) (L : Nat) (fs : FnsC) (e z clock : Nat) (es : List MapEntry) (kn : KS) (kx : Nat → KS) (kr : KS) (ms : List Nat) : run (SC r) 183 13 L (lc cAq) fs none kn kx kr (sc0 183 [.slice none 0 0, seqV]) (tr0 183 [.slice none 0 0, seqV]) ms (AK0 e z clock es) =
    kn [] (Tr.node (Tr.node Tr.nil (some (Value.func (Fn.func 112) (Array.mk []) (Array.mk [Value.pointer (some (Addr.mk 0 0 none))]))) Tr.nil) (some (Value.slice none 0 0)) (Tr.node (Tr.node Tr.nil (some (Value.slice none 0 0)) Tr.nil) (some (Value.pointer (some (Addr.mk 2 0 none)))) Tr.nil)) ms (AW.mk 3 (Tr.node (Tr.node Tr.nil (some (AObj.map es clock)) Tr.nil) (some (AObj.cells [Value.map (some 1)] e 0 z)) (Tr.node Tr.nil (some (AObj.cells [Value.slice none 0 0] 67 2 0)) Tr.nil)) Tr.nil) := by kernel_rfl

theorem kcB (r : Mem) (L : Nat) (fs : FnsC) (s : List (Nat × Value)) (kn : KS) (kx : Nat → KS) (kr : KS) (ms : List Nat) (A : AW) : run (SC r) 183 13 L (lc (lc (rc cAq))) fs none kn kx kr s TQ ms A =
    kn [(6, Value.func (Fn.func 112) (Array.mk []) (Array.mk [Value.pointer (some (Addr.mk 0 0 none))]))] (Tr.node (Tr.node Tr.nil (some (Value.func (Fn.func 112) (Array.mk []) (Array.mk [Value.pointer (some (Addr.mk 0 0 none))]))) Tr.nil) (some (Value.slice none 0 0)) (Tr.node (Tr.node Tr.nil (some (Value.slice none 0 0)) Tr.nil) (some (Value.pointer (some (Addr.mk 2 0 none)))) Tr.nil)) ms A := by kernel_rfl

theorem kcC (r : Mem) (L : Nat) (fs : FnsC) (e z clock : Nat) (es : List MapEntry) (n : Nat) (l : List Value) (kn : KS) (kx : Nat → KS) (kr : KS) : run (SC r) 183 13 L (rc (rc cAq)) fs none kn kx kr [(6, seqV)] TQ [3] (AKh e z clock es 6 (.slice (some ⟨5, 0, none⟩) n unk) (rwT 5 l)) =
    kr [(12, Value.slice (some (Addr.mk 5 0 none)) n 9223372036854775808)] (Tr.node (Tr.node Tr.nil (some (Value.func (Fn.func 112) (Array.mk []) (Array.mk [Value.pointer (some (Addr.mk 0 0 none))]))) Tr.nil) (some (Value.slice none 0 0)) (Tr.node (Tr.node Tr.nil (some (Value.slice (some (Addr.mk 5 0 none)) n 9223372036854775808)) Tr.nil) (some (Value.pointer (some (Addr.mk 2 0 none)))) Tr.nil)) [3] (AW.mk 6 (Tr.node (Tr.node (Tr.node Tr.nil (some AObj.defd) Tr.nil) (some (AObj.map es clock)) (Tr.node Tr.nil (some (AObj.cells l 52 5 1)) Tr.nil)) (some (AObj.cells [Value.map (some 1)] e 0 z)) (Tr.node (Tr.node Tr.nil (some (AObj.loop LoopState.exhausted none 183 (En.mk [(6, Value.func (Fn.func 112) (Array.mk []) (Array.mk [Value.pointer (some (Addr.mk 0 0 none))]))] (Tr.node (Tr.node Tr.nil (some (Value.func (Fn.func 112) (Array.mk []) (Array.mk [Value.pointer (some (Addr.mk 0 0 none))]))) Tr.nil) (some (Value.slice none 0 0)) (Tr.node (Tr.node Tr.nil (some (Value.slice none 0 0)) Tr.nil) (some (Value.pointer (some (Addr.mk 2 0 none)))) Tr.nil))) 13 (Array.mk [7]) (Code.region 2 #[Oper.mk (some 5) (Op.assign (Operand.tmp 7)) 52 "iter.go:51" #[] none] false) (Code.block 1 (Code.region 3 #[Oper.mk (some 8) (Op.load 67 (Operand.tmp 2)) 67 "iter.go:52" #[] none, Oper.mk (some 9) (Op.move (Operand.tmp 5)) 52 "iter.go:52" #[] none, Oper.mk (some 10) (Op.buildSlice 67 1 #[(0, Operand.tmp 9)]) 67 "iter.go:52" #[Edge.mk 1 Ground.data] none, Oper.mk (some 11) (Op.call (Call.mk (Callee.builtin Builtin.append) #[Operand.tmp 8, Operand.tmp 10] #[67, 67])) 67 "iter.go:52" #[Edge.mk 0 Ground.data, Edge.mk 2 Ground.data] none, Oper.mk none (Op.store 67 (Operand.tmp 2) (Operand.tmp 11)) 0 "iter.go:52" #[Edge.mk 3 Ground.data, Edge.mk 3 Ground.chain, Edge.mk 0 Ground.phase, Edge.mk 1 Ground.phase, Edge.mk 2 Ground.phase, Edge.mk 3 Ground.phase] none] false)) 3)) Tr.nil) (some (AObj.cells [Value.slice (some (Addr.mk 5 0 none)) n 9223372036854775808] 67 2 0)) Tr.nil)) Tr.nil) := by kernel_rfl

theorem kcF (r : Mem) (e z clock : Nat) (es : List MapEntry) (n : Nat) (l : List Value) (k : KV) : finK (SC r) 183 (resOf (SC r) 113) k [] (TQ4 (.slice (some ⟨2, 0, none⟩) n unk)) [3] (AR3 e z clock es l) =
    k (Value.slice (some (Addr.mk 2 0 none)) n 9223372036854775808) (AW.mk 4 (Tr.node (Tr.node (Tr.node Tr.nil none Tr.nil) (some (AObj.map es clock)) Tr.nil) (some (AObj.cells [Value.map (some 1)] e 0 z)) (Tr.node Tr.nil (some (AObj.cells l 52 2 1)) Tr.nil)) Tr.nil) := by kernel_rfl

theorem kcG (r : Mem) (L : Nat) (fs : FnsC) (kn : KS) (kx : Nat → KS) (kr : KS) (ms : List Nat) (A : AW) : run (SC r) 5 5 L (lc cCo) fs none kn kx kr (sc0 5 [seqV]) (tr0 5 [seqV]) ms A =
    kn [] (Tr.node Tr.nil (some (Value.func (Fn.func 112) (Array.mk []) (Array.mk [Value.pointer (some (Addr.mk 0 0 none))]))) (Tr.node Tr.nil (some (Value.slice none 0 0)) Tr.nil)) ms A := by kernel_rfl

theorem kcH (r : Mem) (fs : FnsC) (kn : KS) (ms : List Nat) (A : AW) : preK (SC r) 5 5 (lc (rc cCo)) 1 fs kn [] (TC0 (.slice none 0 0)) ms A =
    kn [(3, Value.func (Fn.func 112) (Array.mk []) (Array.mk [Value.pointer (some (Addr.mk 0 0 none))]))] (Tr.node Tr.nil (some (Value.func (Fn.func 112) (Array.mk []) (Array.mk [Value.pointer (some (Addr.mk 0 0 none))]))) (Tr.node Tr.nil (some (Value.slice none 0 0)) Tr.nil)) ms A := by kernel_rfl

theorem kcI (r : Mem) (fs : FnsC) (n : Nat) (kn : KS) (ms : List Nat) (A : AW) : tailK (SC r) 5 5 (lc (rc cCo)) 1 fs kn (.slice (some ⟨2, 0, none⟩) n unk) [(3, seqV)] (TC0 (.slice none 0 0)) ms A =
    kn [(4, Value.slice (some (Addr.mk 2 0 none)) n 9223372036854775808), (3, Value.func (Fn.func 112) (Array.mk []) (Array.mk [Value.pointer (some (Addr.mk 0 0 none))]))] (Tr.node Tr.nil (some (Value.func (Fn.func 112) (Array.mk []) (Array.mk [Value.pointer (some (Addr.mk 0 0 none))]))) (Tr.node Tr.nil (some (Value.slice (some (Addr.mk 2 0 none)) n 9223372036854775808)) Tr.nil)) ms A := by kernel_rfl

theorem kcK (r : Mem) (L : Nat) (fs : FnsC) (s : List (Nat × Value)) (n : Nat) (kn : KS) (kx : Nat → KS) (kr : KS) (ms : List Nat) (A : AW) : run (SC r) 5 5 L (rc (rc cCo)) fs none kn kx kr s (TC0 (.slice (some ⟨2, 0, none⟩) n unk)) ms A =
    kr s (Tr.node Tr.nil (some (Value.func (Fn.func 112) (Array.mk []) (Array.mk [Value.pointer (some (Addr.mk 0 0 none))]))) (Tr.node Tr.nil (some (Value.slice (some (Addr.mk 2 0 none)) n 9223372036854775808)) Tr.nil)) ms A := by kernel_rfl

theorem kcL (r : Mem) (s : List (Nat × Value)) (n : Nat) (k : KV) (A : AW) : finK (SC r) 5 (resOf (SC r) 100) k s (TC0 (.slice (some ⟨2, 0, none⟩) n unk)) [] A =
    k (Value.slice (some (Addr.mk 2 0 none)) n 9223372036854775808) A := by kernel_rfl

theorem kcJ (r : Mem) (A : AW) : callAt (SC r) 5 (lc (rc cCo)) 1 ⟨[(3, seqV)], TC0 (.slice none 0 0)⟩ A = some (113, [.slice none 0 0, seqV], A) := by kernel_rfl

section
variable {r : Mem} {γ0 : Gam} {W0 : World} {e z clock : Nat} {q : List KT}


/-- slices.AppendSeq, of a nil slice: the row of the keys. -/
theorem append_S (hq : KOk q clock) (hne : q ≠ []) : SOk (SC r) 113 [.slice none 0 0, seqV] (AK0 e z clock (q.map mkE)) fun v A' => ∃ vis, vis.Perm q ∧ v = .slice (some ⟨2, 0, none⟩) vis.length unk ∧ A' = AR e z clock (q.map mkE) (rowK vis) := by
  obtain ⟨fn, h1, h2, h3, h4⟩ := fn_of (C := SC r) (f := 113) (by kernel_rfl)
  have hn : fn.ntmps = 13 := h3.trans (by kernel_rfl)
  rw [bodySC] at h2
  refine call_reachS (SC_ok r) h1 h2 183 (by rw [hn]; rfl) fun γ W F k hw hF hro => ?_
  rw [hn, h4]
  have h0 : ∀ i, 2 ≤ i → γ i = none := hw.fresh
  show Go.Ev.Reach (SC r) 183 13 F k γ W cAq _ _
  obtain ⟨fo, ps, hrf⟩ : ∃ fo ps, cAq = Code.seq (lc cAq) (.seq (.seq (lc (lc (rc cAq))) (.block 0 (.rangeFunc fo ps k_aqA k_aqB))) (rc (rc cAq))) ∧ ps = ⟨[7]⟩ ∧ fo = .tmp 6 := ⟨.tmp 6, ⟨[7]⟩, by kernel_rfl, rfl, rfl⟩
  obtain ⟨hrf, rfl, rfl⟩ := hrf
  rw [hrf]
  refine Go.Ev.Reach.seq (Go.Ev.Reach.seg (SC_ok r) TOk.nil (tm := .nil) (L := 1) (L' := 1) (d := 1) hF hro ((kcA ..).trans (qn_ok ?_)))
  refine Go.Ev.Reach.seq (Go.Ev.Reach.seq (Go.Ev.Reach.seg (SC_ok r) TOk.nil (tm := .nil) (L := 1) (L' := 1) (d := 1) hF hro ((kcB r 1 _ [] _ _ _ [] _).trans (qn_ok ?_))))
  have eA : (((⟨3, .node (.node .nil (some (.map (q.map mkE) clock)) .nil) (some (.cells [.map (some 1)] e 0 z)) (.node .nil (some (.cells [.slice none 0 0] 67 2 0)) .nil), .nil⟩ : AW).new .defd).new (.loop .ready none 183 ⟨[(6, seqV)], TQ⟩ 13 ⟨[7]⟩ k_aqA k_aqB 3)) = AKg e z clock (q.map mkE) 5 (.slice none 0 0) .nil .nil := by kernel_rfl
  have hkey := keys_S (r := r) (e := e) (z := z) hq
  rw [← eA] at hkey
  refine Go.Ev.Reach.block (Go.Ev.Reach.rangeS (SC_ok r) hF hro (g := 112) (first := []) (captured := [.pointer (some ⟨0, 0, none⟩)]) rfl (by kernel_rfl) hkey fun v A' ⟨_, vis, hv, hA⟩ => ?_)
  subst hA
  cases vis with
  | nil => exact absurd hv.nil_eq.symm hne
  | cons t l =>
    refine ⟨⟨⟨[(6, seqV)], TQ⟩, [3], AKh e z clock (q.map mkE) 6 (.slice (some ⟨5, 0, none⟩) (t :: l).length unk) (rwT 5 (rowK (t :: l)))⟩, by kernel_rfl, ?_⟩
    refine Go.Ev.Reach.seg (SC_ok r) TOk.nil (tm := .nil) (L := 1) (L' := 1) (d := 1) hF hro ((kcC ..).trans (qn_ok ⟨.inr rfl, ⟨⟨[], TQ4 (.slice (some ⟨2, 0, none⟩) (t :: l).length unk)⟩, [3], AR3 e z clock (q.map mkE) (rowK (t :: l))⟩, _, _, ?_, ?_, t :: l, hv, rfl, rfl⟩))
    ·
      refine Ren.of (fun i => bif Nat.beq i 2 then 5 else i) 2 rfl h0 (Nat.le_of_ble_eq_true rfl) (fun i hi => by have : Nat.beq i 2 = false := natFK (by omega); rw [this]; rfl) ?_ rfl ?_ trivial
      · simp only [Tr.All, TQ4]
        repeat' (first | exact trivial | apply And.intro)
        all_goals exact ⟨_, rfl, rfl⟩
      · simp only [Tr.All, AR3]
        repeat' (first | exact trivial | apply And.intro)
        all_goals first | rfl | exact .head _ | exact ⟨_, rfl, .defd⟩ | exact ⟨_, rfl, .map (ksG q)⟩ | exact ⟨_, rfl, .cells rfl⟩ | exact ⟨_, rfl, .plain (by exact rowK_gnd (t :: l))⟩
    · rw [← finK_finish]
      exact kcF ..

/-- slices.Collect: the same. -/
theorem collect_S (hq : KOk q clock) (hne : q ≠ []) : SOk (SC r) 100 [seqV] (AK0 e z clock (q.map mkE)) fun v A' => ∃ vis, vis.Perm q ∧ v = .slice (some ⟨2, 0, none⟩) vis.length unk ∧ A' = AR e z clock (q.map mkE) (rowK vis) := by
  obtain ⟨fn, h1, h2, h3, h4⟩ := fn_of (C := SC r) (f := 100) (by kernel_rfl)
  have hn : fn.ntmps = 5 := h3.trans (by kernel_rfl)
  rw [bodySC] at h2
  refine call_reachS (SC_ok r) h1 h2 5 (by rw [hn]; rfl) fun γ W F k hw hF hro => ?_
  rw [hn, h4]
  show Go.Ev.Reach (SC r) 5 5 F k γ W cCo _ _
  rw [show cCo = Code.seq (lc cCo) (.seq (lc (rc cCo)) (rc (rc cCo))) from by kernel_rfl]
  refine Go.Ev.Reach.seq (Go.Ev.Reach.seg (SC_ok r) TOk.nil (tm := .nil) (L := 1) (L' := 1) (d := 1) hF hro ((kcG ..).trans (qn_ok ?_)))
  refine Go.Ev.Reach.seq (Go.Ev.Reach.callP (SC_ok r) hF TOk.nil (tm := .nil) (L := 0) (d := 0) 1 ((kcH ..).trans (qn_ok rfl)) (kcJ ..) (append_S (e := e) (z := z) hq hne) fun v A' ⟨vis, hv, h1, h2⟩ => ?_)
  subst h1 h2
  refine (kcI ..).trans (qn_ok (Go.Ev.Reach.seg (SC_ok r) TOk.nil (tm := .nil) (L := 1) (L' := 1) (d := 1) hF hro ((kcK ..).trans (qn_ok ⟨.inr rfl, _, _, _, Ren.refl _, ?_, vis, hv, rfl, rfl⟩))))
  rw [← finK_finish]
  exact kcL ..

end

end Go.Proofs.VK

/- The insertion sort of a row of at most twelve, run. -/
namespace Go.Proofs
open Go Go.Ev
set_option linter.unusedVariables false
set_option linter.unusedSimpArgs false
set_option maxRecDepth 100000

noncomputable def cIn : Code := bodyOf S0 117
abbrev slW (n : Nat) : Value := .slice (some ⟨2, 0, none⟩) n unk
noncomputable def yIn : Code := ic (lc (rc (ic (ic (rc cIn)))))
noncomputable def bIn : Code := ic (ic (rc yIn))
def wj (j : Int) : Tr Value := .node (.node .nil (some (I j)) .nil) none .nil
def TIn (n : Nat) (i : Int) (w : Tr Value) : Tr Value := .node (.node w (some (I 0)) .nil) (some (slW n)) (.node .nil (some (I n)) (.node .nil (some (I i)) .nil))
def m_less (x y : Int) : Bool := decide (x < y)
def eLess : Ent := ent (fun args _ => match args with | [.int .u64 _, .int .u64 _] => true | _ => false) (fun args _ => match args with | [.int .u64 x, .int .u64 y] => .bool (m_less x y) | _ => undef)
def tLess : Tbl := tcons 123 eLess fun _ => none

theorem inL (r : Mem) (x y : Int) : (lvlT (SC r) (fun _ => none) .nil 2 2).call 123 [.int .u64 x, .int .u64 y] emptyA fin =
    bif x != x then bif y != y then bif decide (x < y) then CR.ret (Value.bool true) (AW.mk 0 Tr.nil Tr.nil) else CR.ret (Value.bool false) (AW.mk 0 Tr.nil Tr.nil) else CR.ret (Value.bool true) (AW.mk 0 Tr.nil Tr.nil) else bif decide (x < y) then CR.ret (Value.bool true) (AW.mk 0 Tr.nil Tr.nil) else CR.ret (Value.bool false) (AW.mk 0 Tr.nil Tr.nil) := by kernel_rfl

theorem inA (r : Mem) (L : Nat) (fs : FnsC) (n : Nat) (A : AW) (kn : KS) (kx : Nat → KS) (kr : KS) (ms : List Nat) : run (SC r) 199 49 L (lc cIn) fs none kn kx kr (sc0 199 [slW n, I 0, I n]) (tr0 199 [slW n, I 0, I n]) ms A =
    kn [(9, Value.int IntKind.i64 (Int.ofNat 1)), (8, Value.int IntKind.i64 (Int.ofNat 0))] (Tr.node (Tr.node Tr.nil (some (Value.int IntKind.i64 (Int.ofNat 0))) Tr.nil) (some (Value.slice (some (Addr.mk 2 0 none)) n 9223372036854775808)) (Tr.node Tr.nil (some (Value.int IntKind.i64 (Int.ofNat n))) (Tr.node Tr.nil (some (Value.int IntKind.i64 (Int.ofNat 1))) Tr.nil))) ms A := by kernel_rfl

theorem inB (r : Mem) (L : Nat) (fs : FnsC) (n : Nat) (i : Int) (w : Tr Value) (A : AW) (s : List (Nat × Value)) (kn : KS) (kx : Nat → KS) (kr : KS) (ms : List Nat) : run (SC r) 199 49 L (lc (ic (ic (rc cIn)))) fs none kn kx kr s (TIn n i w) ms A =
    bif decide (i < Int.ofNat n) then kn [(12, Value.bool true), (11, Value.int IntKind.i64 (Int.ofNat n)), (10, Value.int IntKind.i64 i)] (Tr.node (Tr.node w (some (Value.int IntKind.i64 (Int.ofNat 0))) Tr.nil) (some (Value.slice (some (Addr.mk 2 0 none)) n 9223372036854775808)) (Tr.node Tr.nil (some (Value.int IntKind.i64 (Int.ofNat n))) (Tr.node Tr.nil (some (Value.int IntKind.i64 i)) Tr.nil))) ms A else kx 0 [(12, Value.bool false), (11, Value.int IntKind.i64 (Int.ofNat n)), (10, Value.int IntKind.i64 i)] (Tr.node (Tr.node w (some (Value.int IntKind.i64 (Int.ofNat 0))) Tr.nil) (some (Value.slice (some (Addr.mk 2 0 none)) n 9223372036854775808)) (Tr.node Tr.nil (some (Value.int IntKind.i64 (Int.ofNat n))) (Tr.node Tr.nil (some (Value.int IntKind.i64 i)) Tr.nil))) ms A := by kernel_rfl

theorem inC (r : Mem) (L : Nat) (fs : FnsC) (n : Nat) (i : Int) (A : AW) (s : List (Nat × Value)) (kn : KS) (kx : Nat → KS) (kr : KS) (ms : List Nat) : run (SC r) 199 49 L (lc (ic (lc (rc (ic (ic (rc cIn))))))) fs none kn kx kr s (TIn n i .nil) ms A =
    kn [(15, Value.int IntKind.i64 i)] (Tr.node (Tr.node (Tr.node (Tr.node Tr.nil (some (Value.int IntKind.i64 i)) Tr.nil) none Tr.nil) (some (Value.int IntKind.i64 (Int.ofNat 0))) Tr.nil) (some (Value.slice (some (Addr.mk 2 0 none)) n 9223372036854775808)) (Tr.node Tr.nil (some (Value.int IntKind.i64 (Int.ofNat n))) (Tr.node Tr.nil (some (Value.int IntKind.i64 i)) Tr.nil))) ms A := by kernel_rfl

theorem inC2 (r : Mem) (L : Nat) (fs : FnsC) (n : Nat) (i j : Int) (A : AW) (s : List (Nat × Value)) (kn : KS) (kx : Nat → KS) (kr : KS) (ms : List Nat) : run (SC r) 199 49 L (lc (ic (lc (rc (ic (ic (rc cIn))))))) fs none kn kx kr s (TIn n i (wj j)) ms A =
    kn [(15, Value.int IntKind.i64 i)] (Tr.node (Tr.node (Tr.node (Tr.node Tr.nil (some (Value.int IntKind.i64 i)) Tr.nil) none Tr.nil) (some (Value.int IntKind.i64 (Int.ofNat 0))) Tr.nil) (some (Value.slice (some (Addr.mk 2 0 none)) n 9223372036854775808)) (Tr.node Tr.nil (some (Value.int IntKind.i64 (Int.ofNat n))) (Tr.node Tr.nil (some (Value.int IntKind.i64 i)) Tr.nil))) ms A := by kernel_rfl

theorem inD (r : Mem) (L : Nat) (tm : Tr Nat) (n : Nat) (i j : Int) (e z clock : Nat) (es : List MapEntry) (l : List Value) (s : List (Nat × Value)) (kn : KS) (kx : Nat → KS) (kr : KS) (ms : List Nat) : run (SC r) 199 49 L bIn (lvlT (SC r) tLess tm L 0) none kn kx kr s (TIn n i (wj j)) ms (VK.AR e z clock es l) =
    bif decide (j > 0) then bif decide (0 ≤ j) then bif Nat.blt (Int.toNat j) n then Option.casesOn l[Nat.add 0 (Nat.mul (Int.toNat j) 1)]? (CR.fail 423) fun val => bif isI IntKind.u64 val then bif decide (0 ≤ IntKind.wrap IntKind.i64 (j - Int.ofNat 1)) then bif Nat.blt (Int.toNat (IntKind.wrap IntKind.i64 (j - Int.ofNat 1))) n then Option.casesOn l[Nat.add 0 (Nat.mul (Int.toNat (IntKind.wrap IntKind.i64 (j - Int.ofNat 1))) 1)]? (CR.fail 423) fun val_1 => bif isI IntKind.u64 val_1 then bif m_less (ofI val) (ofI val_1) then Option.casesOn l[Nat.add 0 (Nat.mul (Int.toNat (IntKind.wrap IntKind.i64 (j - Int.ofNat 1))) 1)]? (CR.fail 423) fun val_2 => bif isI IntKind.u64 val_2 then bif m_eqv (Value.int IntKind.u64 (ofI val_2)) (Value.int IntKind.u64 (ofI val_1)) then Option.casesOn l[Nat.add 0 (Nat.mul (Int.toNat j) 1)]? (CR.fail 423) fun val_3 => bif isI IntKind.u64 val_3 then bif m_eqv (Value.int IntKind.u64 (ofI val_3)) (Value.int IntKind.u64 (ofI val)) then bif decide (0 ≤ IntKind.wrap IntKind.i64 (j - Int.ofNat 1)) then bif Nat.blt (Int.toNat (IntKind.wrap IntKind.i64 (j - Int.ofNat 1))) n then Option.casesOn l[Nat.add 0 (Nat.mul (Int.toNat (IntKind.wrap IntKind.i64 (j - Int.ofNat 1))) 1)]? (CR.fail 423) fun val => bif isI IntKind.u64 val then bif decide (0 ≤ j) then bif Nat.blt (Int.toNat j) n then Option.casesOn l[Nat.add 0 (Nat.mul (Int.toNat j) 1)]? (CR.fail 423) fun val_4 => bif isI IntKind.u64 val_4 then bif decide (0 ≤ j) then bif Nat.blt (Int.toNat j) n then bif Nat.blt (Nat.add 0 (Nat.mul (Int.toNat j) 1)) (List.length l) then bif decide (0 ≤ IntKind.wrap IntKind.i64 (j - Int.ofNat 1)) then bif Nat.blt (Int.toNat (IntKind.wrap IntKind.i64 (j - Int.ofNat 1))) n then bif Nat.blt (Nat.add 0 (Nat.mul (Int.toNat (IntKind.wrap IntKind.i64 (j - Int.ofNat 1))) 1)) (List.length (List.set l (Nat.add 0 (Nat.mul (Int.toNat j) 1)) (Value.int IntKind.u64 (ofI val)))) then Option.casesOn l[Nat.add 0 (Nat.mul (Int.toNat j) 1)]? (CR.fail 423) fun val_5 => bif isI IntKind.u64 val_5 then bif m_eqv (Value.int IntKind.u64 (ofI val_5)) (Value.int IntKind.u64 (ofI val_4)) then Option.casesOn l[Nat.add 0 (Nat.mul (Int.toNat (IntKind.wrap IntKind.i64 (j - Int.ofNat 1))) 1)]? (CR.fail 423) fun val_6 => bif isI IntKind.u64 val_6 then bif m_eqv (Value.int IntKind.u64 (ofI val_6)) (Value.int IntKind.u64 (ofI val)) then kn [(32, Value.int IntKind.i64 (IntKind.wrap IntKind.i64 (j - Int.ofNat 1))), (31, Value.int IntKind.i64 j)] (Tr.node (Tr.node (Tr.node (Tr.node Tr.nil (some (Value.int IntKind.i64 (IntKind.wrap IntKind.i64 (j - Int.ofNat 1)))) Tr.nil) none Tr.nil) (some (Value.int IntKind.i64 (Int.ofNat 0))) Tr.nil) (some (Value.slice (some (Addr.mk 2 0 none)) n 9223372036854775808)) (Tr.node Tr.nil (some (Value.int IntKind.i64 (Int.ofNat n))) (Tr.node Tr.nil (some (Value.int IntKind.i64 i)) Tr.nil))) ms (AW.mk 4 (Tr.node (Tr.node (Tr.node Tr.nil none Tr.nil) (some (AObj.map es clock)) Tr.nil) (some (AObj.cells [Value.map (some 1)] e 0 z)) (Tr.node Tr.nil (some (AObj.cells (List.set (List.set l (Nat.add 0 (Nat.mul (Int.toNat j) 1)) (Value.int IntKind.u64 (ofI val))) (Nat.add 0 (Nat.mul (Int.toNat (IntKind.wrap IntKind.i64 (j - Int.ofNat 1))) 1)) (Value.int IntKind.u64 (ofI val_4))) 52 2 1)) Tr.nil)) Tr.nil) else CR.fail 420 else CR.fail 420 else CR.fail 420 else CR.fail 420 else CR.fail 420 else CR.fail 420 else CR.fail 420 else CR.fail 420 else CR.fail 420 else CR.fail 420 else CR.fail 420 else CR.fail 420 else CR.fail 420 else CR.fail 420 else CR.fail 420 else CR.fail 420 else CR.fail 420 else CR.fail 420 else CR.fail 420 else CR.fail 420 else Option.casesOn l[Nat.add 0 (Nat.mul (Int.toNat (IntKind.wrap IntKind.i64 (j - Int.ofNat 1))) 1)]? (CR.fail 423) fun val_2 => bif isI IntKind.u64 val_2 then bif m_eqv (Value.int IntKind.u64 (ofI val_2)) (Value.int IntKind.u64 (ofI val_1)) then Option.casesOn l[Nat.add 0 (Nat.mul (Int.toNat j) 1)]? (CR.fail 423) fun val_3 => bif isI IntKind.u64 val_3 then bif m_eqv (Value.int IntKind.u64 (ofI val_3)) (Value.int IntKind.u64 (ofI val)) then kx 2 [(30, Value.bool false), (29, Value.bool false), (28, Value.int IntKind.u64 (ofI val_1)), (27, Value.pointer (some (Addr.mk 2 (Nat.add 0 (Nat.mul (Int.toNat (IntKind.wrap IntKind.i64 (j - Int.ofNat 1))) 1)) none))), (26, Value.int IntKind.i64 (IntKind.wrap IntKind.i64 (j - Int.ofNat 1))), (25, Value.int IntKind.i64 j), (24, Value.slice (some (Addr.mk 2 0 none)) n 9223372036854775808), (23, Value.int IntKind.u64 (ofI val)), (22, Value.pointer (some (Addr.mk 2 (Nat.add 0 (Nat.mul (Int.toNat j) 1)) none))), (21, Value.int IntKind.i64 j), (20, Value.slice (some (Addr.mk 2 0 none)) n 9223372036854775808), (19, Value.bool true), (18, Value.bool true), (17, Value.int IntKind.i64 (Int.ofNat 0)), (16, Value.int IntKind.i64 j)] (Tr.node (Tr.node (Tr.node (Tr.node Tr.nil (some (Value.int IntKind.i64 j)) Tr.nil) none Tr.nil) (some (Value.int IntKind.i64 (Int.ofNat 0))) Tr.nil) (some (Value.slice (some (Addr.mk 2 0 none)) n 9223372036854775808)) (Tr.node Tr.nil (some (Value.int IntKind.i64 (Int.ofNat n))) (Tr.node Tr.nil (some (Value.int IntKind.i64 i)) Tr.nil))) ms (AW.mk 4 (Tr.node (Tr.node (Tr.node Tr.nil none Tr.nil) (some (AObj.map es clock)) Tr.nil) (some (AObj.cells [Value.map (some 1)] e 0 z)) (Tr.node Tr.nil (some (AObj.cells l 52 2 1)) Tr.nil)) Tr.nil) else CR.fail 420 else CR.fail 420 else CR.fail 420 else CR.fail 420 else CR.fail 420 else CR.fail 420 else CR.fail 420 else CR.fail 420 else CR.fail 420 else CR.fail 420 else kx 2 [(30, Value.bool false), (29, Value.tuple (Array.mk [])), (28, Value.tuple (Array.mk [])), (27, Value.tuple (Array.mk [])), (26, Value.tuple (Array.mk [])), (25, Value.tuple (Array.mk [])), (24, Value.tuple (Array.mk [])), (23, Value.tuple (Array.mk [])), (22, Value.tuple (Array.mk [])), (21, Value.tuple (Array.mk [])), (20, Value.tuple (Array.mk [])), (19, Value.bool false), (18, Value.bool false), (17, Value.int IntKind.i64 (Int.ofNat 0)), (16, Value.int IntKind.i64 j)] (Tr.node (Tr.node (Tr.node (Tr.node Tr.nil (some (Value.int IntKind.i64 j)) Tr.nil) none Tr.nil) (some (Value.int IntKind.i64 (Int.ofNat 0))) Tr.nil) (some (Value.slice (some (Addr.mk 2 0 none)) n 9223372036854775808)) (Tr.node Tr.nil (some (Value.int IntKind.i64 (Int.ofNat n))) (Tr.node Tr.nil (some (Value.int IntKind.i64 i)) Tr.nil))) ms (AW.mk 4 (Tr.node (Tr.node (Tr.node Tr.nil none Tr.nil) (some (AObj.map es clock)) Tr.nil) (some (AObj.cells [Value.map (some 1)] e 0 z)) (Tr.node Tr.nil (some (AObj.cells l 52 2 1)) Tr.nil)) Tr.nil) := by kernel_rfl

theorem inE (r : Mem) (L : Nat) (fs : FnsC) (n : Nat) (i j : Int) (A : AW) (s : List (Nat × Value)) (kn : KS) (kx : Nat → KS) (kr : KS) (ms : List Nat) : run (SC r) 199 49 L (rc (rc (ic (ic (rc cIn))))) fs none kn kx kr s (TIn n i (wj j)) ms A =
    kn [(14, Value.int IntKind.i64 (IntKind.wrap IntKind.i64 (i + Int.ofNat 1))), (13, Value.int IntKind.i64 i)] (Tr.node (Tr.node (Tr.node (Tr.node Tr.nil (some (Value.int IntKind.i64 j)) Tr.nil) none Tr.nil) (some (Value.int IntKind.i64 (Int.ofNat 0))) Tr.nil) (some (Value.slice (some (Addr.mk 2 0 none)) n 9223372036854775808)) (Tr.node Tr.nil (some (Value.int IntKind.i64 (Int.ofNat n))) (Tr.node Tr.nil (some (Value.int IntKind.i64 (IntKind.wrap IntKind.i64 (i + Int.ofNat 1)))) Tr.nil))) ms A := by kernel_rfl

theorem inF (r : Mem) (n : Nat) (i : Int) (s : List (Nat × Value)) (w : Tr Value) (k : KV) (A : AW) : finK (SC r) 199 (resOf (SC r) 117) k s (TIn n i w) [] A =
    k (Value.tuple (Array.mk [])) A := by kernel_rfl

end Go.Proofs

/- The insertion sort of a row of at most twelve: what it leaves. -/
namespace Go.Proofs
open Go Go.Ev
set_option linter.unusedVariables false
set_option linter.unusedSimpArgs false
set_option maxRecDepth 100000

abbrev Uv (z : Int) : Value := .int .u64 z
def rowU (l : List Int) : List Value := l.map Uv
theorem rowU_len (l : List Int) : (rowU l).length = l.length := by simp [rowU]

theorem less_calls (r : Mem) (x y : Int) : GrT Tryz.prog r 123 [.int .u64 x, .int .u64 y] (.bool (m_less x y)) := by
  refine GrT.of (SC_ok r) TOk.nil .nil rfl ⟨2, 2, (inL r x y).trans ?_⟩
  simp only [neF (show x = x from rfl), neF (show y = y from rfl), cond_false, m_less]
  cases decide (x < y) <;> rfl
theorem eLess_ok (r : Mem) : EOk (SC r) 123 eLess := EOk.ent fun args A hg => by
  split at hg
  · exact (less_calls r _ _).ro rfl A
  · cases hg
theorem tLess_ok (r : Mem) : TOk (SC r) tLess := TOk.nil.cons (eLess_ok r)

def Srt (l : List Int) : Prop := l.Pairwise (· ≤ ·)

theorem set_swap (A : List Int) (x y : Int) (T : List Int) : List.set (List.set (rowU (A ++ y :: x :: T)) (A.length + 1) (Uv y)) A.length (Uv x) = rowU (A ++ x :: y :: T) := by
  simp only [rowU, List.map_append, List.map_cons]
  have e : A.length = (A.map Uv).length := by simp
  rw [e]
  generalize A.map Uv = a
  generalize T.map Uv = t
  rw [List.set_append_right _ _ (by omega), List.set_append_right _ _ (by omega)]
  simp
theorem get_x (A : List Int) (x y : Int) (T : List Int) : (rowU (A ++ y :: x :: T))[A.length + 1]? = some (Uv x) := by
  simp only [rowU, List.map_append, List.map_cons]
  rw [List.getElem?_append_right (by simp)]
  simp
theorem get_y (A : List Int) (x y : Int) (T : List Int) : (rowU (A ++ y :: x :: T))[A.length]? = some (Uv y) := by
  simp only [rowU, List.map_append, List.map_cons]
  rw [List.getElem?_append_right (by simp)]
  simp

theorem srt_stop {A B : List Int} {x : Int} (h : Srt (A ++ B)) (hb : ∀ b ∈ B, x ≤ b) (ha : ∀ a ∈ A, a ≤ x) : Srt (A ++ x :: B) := by
  unfold Srt at *
  rw [List.pairwise_append] at h ⊢
  refine ⟨h.1, List.pairwise_cons.2 ⟨hb, h.2.1⟩, fun a ha' b hb' => ?_⟩
  rcases List.mem_cons.1 hb' with rfl | hb'
  · exact ha a ha'
  · exact h.2.2 a ha' b hb'

section
variable {r : Mem} {γ0 : Gam} {W0 : World} {e z clock n : Nat} {es : List MapEntry} {zs : List Int}

/-- The states at the inner loop's head. -/
def InJ (e z clock n : Nat) (es : List MapEntry) (zs R : List Int) (i : Nat) (j : Nat) (st : St) : Prop :=
  ∃ s A x B, A.length = j ∧ A.length + B.length = i ∧ Srt (A ++ B) ∧ (∀ b ∈ B, x ≤ b) ∧ (A ++ x :: (B ++ R)).Perm zs ∧ st = ⟨⟨s, TIn n i (wj j)⟩, [], VK.AR e z clock es (rowU (A ++ x :: (B ++ R)))⟩
def InQ (e z clock n : Nat) (es : List MapEntry) (zs R : List Int) (i : Nat) : Exit → St → Prop
  | .exit id, st => id = 2 ∧ ∃ s j S, S.length = i + 1 ∧ Srt S ∧ (S ++ R).Perm zs ∧ st = ⟨⟨s, TIn n i (wj j)⟩, [], VK.AR e z clock es (rowU (S ++ R))⟩
  | _, _ => False

theorem in_body (hn : zs.length = n) (h12 : n ≤ 1000000) {R : List Int} {i : Nat} {F : Fence} {k : Nat} (hF : Wide F) (hro : F.round = none) {j : Nat} {st : St} (hs : InJ e z clock n es zs R i j st) :
    Go.Ev.Reach (SC r) 199 49 F k γ0 W0 bIn st fun ex st' => match ex with
      | .normal => ∃ j', j' < j ∧ InJ e z clock n es zs R i j' st'
      | ex => InQ e z clock n es zs R i ex st' := by
  obtain ⟨s, A, x, B, rfl, hi, hsrt, hB, hp, rfl⟩ := hs
  refine Go.Ev.Reach.seg (SC_ok r) (tLess_ok r) (tm := .nil) (L := 1) (L' := 1) (d := 0) hF hro ?_
  rw [inD]
  rcases List.eq_nil_or_concat A with rfl | ⟨A', y, hA⟩
  · have h0 : ¬ ((([] : List Int).length : Nat) : Int) > 0 := by simp
    simp only [h0, decide_false, cond_false]
    exact qn_ok ⟨rfl, _, _, x :: B, by simp at hi ⊢; omega, srt_stop (A := []) hsrt hB (by simp), by simpa using hp, rfl⟩
  · rw [List.concat_eq_append] at hA
    subst hA
    have hl : (A' ++ [y] ++ x :: (B ++ R)).length = n := by rw [hp.length_eq, hn]
    simp only [List.length_append, List.length_cons, List.length_nil] at hl hi
    have hlen : (A' ++ [y]).length = A'.length + 1 := by simp
    rw [show (A' ++ [y]) ++ x :: (B ++ R) = A' ++ y :: x :: (B ++ R) by simp] at hp ⊢
    rw [hlen]
    have g1 : ((A'.length + 1 : Nat) : Int) > 0 := by omega
    have g2 : (0 : Int) ≤ ((A'.length + 1 : Nat) : Int) := by omega
    have g3 : Nat.blt (A'.length + 1) n = true := Nat.ble_eq_true_of_le (by omega)
    have g4 : IntKind.wrap IntKind.i64 (((A'.length + 1 : Nat) : Int) - Int.ofNat 1) = ((A'.length : Nat) : Int) := by
      rw [wrI (by simp; omega)]
      simp
    have g5 : (0 : Int) ≤ ((A'.length : Nat) : Int) := by omega
    have g6 : Nat.blt A'.length n = true := Nat.ble_eq_true_of_le (by omega)
    have g7 : Nat.blt (A'.length + 1) (rowU (A' ++ y :: x :: (B ++ R))).length = true := Nat.ble_eq_true_of_le (by rw [rowU_len]; simp; omega)
    have g8 : Nat.blt A'.length (rowU (A' ++ y :: x :: (B ++ R))).length = true := Nat.ble_eq_true_of_le (by rw [rowU_len]; simp)
    have eqv : ∀ a : Int, m_eqv (Value.int IntKind.u64 a) (Value.int IntKind.u64 a) = true := fun a => by simp [m_eqv, veq]
    simp only [dT g1, dT g2, g3, g4, dT g5, g6, g7, g8, cond_true, Int.toNat_natCast, Nat.add_eq, Nat.mul_eq, Nat.mul_one, Nat.zero_add, get_x, get_y, isI, ofI, decide_true, List.length_set, set_swap, eqv]
    by_cases c : x < y
    · rw [show m_less x y = true from dT c, cond_true]
      refine qn_ok ⟨A'.length, by omega, _, A', x, y :: B, rfl, by simp only [List.length_cons]; omega, ?_, fun b hb => ?_, ?_, rfl⟩
      · rw [show A' ++ y :: B = A' ++ [y] ++ B by simp]; exact hsrt
      · rcases List.mem_cons.1 hb with rfl | hb
        · omega
        · exact hB b hb
      · exact (List.Perm.append_left A' (List.Perm.swap ..)).trans hp
    · rw [show m_less x y = false from dF c, cond_false]
      have e3 : A' ++ y :: x :: (B ++ R) = A' ++ [y] ++ x :: B ++ R := by simp
      rw [e3] at hp ⊢
      refine qn_ok ⟨rfl, _, ((A'.length + 1 : Nat) : Int), A' ++ [y] ++ x :: B, by simp only [List.length_append, List.length_cons, List.length_nil]; omega, srt_stop hsrt hB fun a ha => ?_, hp, rfl⟩
      rcases List.mem_append.1 ha with ha | ha
      · have h1 := (List.pairwise_append.1 (List.pairwise_append.1 hsrt).1).2.2 a ha y (by simp)
        omega
      · rw [List.mem_singleton.1 ha]; omega

theorem Srt.one (x : Int) : Srt [x] := List.pairwise_singleton ..

/-- The states at the outer loop's head. -/
def InI (e z clock n : Nat) (es : List MapEntry) (zs : List Int) (j : Nat) (st : St) : Prop :=
  ∃ s w S R, (w = .nil ∨ ∃ j, w = wj j) ∧ R.length = j ∧ 1 ≤ S.length ∧ Srt S ∧ (S ++ R).Perm zs ∧ st = ⟨⟨s, TIn n S.length w⟩, [], VK.AR e z clock es (rowU (S ++ R))⟩

theorem in_outer (hn : zs.length = n) (h12 : n ≤ 1000000) {F : Fence} {k : Nat} (hF : Wide F) (hro : F.round = none) {j : Nat} {st : St} (hs : InI e z clock n es zs j st) :
    Go.Ev.Reach (SC r) 199 49 F k γ0 W0 (ic (ic (rc cIn))) st fun ex st' => match ex with
      | .normal => ∃ j', j' < j ∧ InI e z clock n es zs j' st'
      | .exit id => id = 0 ∧ ∃ s w S, Srt S ∧ S.Perm zs ∧ st' = ⟨⟨s, TIn n n w⟩, [], VK.AR e z clock es (rowU S)⟩
      | _ => False := by
  obtain ⟨s, w, S, R, hw, rfl, h1, hsrt, hp, rfl⟩ := hs
  have hlen : S.length + R.length = n := by rw [← hn, ← hp.length_eq, List.length_append]
  rw [show ic (ic (rc cIn)) = Code.seq (lc (ic (ic (rc cIn)))) (.seq (.block 1 (.seq (lc yIn) (.block 2 (.loop bIn)))) (rc (rc (ic (ic (rc cIn)))))) from by kernel_rfl]
  refine Go.Ev.Reach.seq (Go.Ev.Reach.seg (SC_ok r) TOk.nil (tm := .nil) (L := 1) (L' := 1) (d := 1) hF hro ?_)
  rw [inB]
  cases R with
  | nil =>
    have hn0 : S.length = n := by simpa using hlen
    have c : ¬ ((S.length : Nat) : Int) < Int.ofNat n := by rw [hn0]; simp
    rw [dF c, cond_false]
    rw [List.append_nil] at hp ⊢
    rw [hn0]
    exact qn_ok ⟨rfl, _, w, S, hsrt, hp, rfl⟩
  | cons x R =>
    simp only [List.length_cons] at hlen
    have c : ((S.length : Nat) : Int) < Int.ofNat n := by simp; omega
    rw [dT c, cond_true]
    have inner : ∀ s, Go.Ev.Reach (SC r) 199 49 F k γ0 W0 (.block 2 (.loop bIn)) ⟨⟨s, TIn n S.length (wj S.length)⟩, [], VK.AR e z clock es (rowU (S ++ x :: R))⟩ fun ex st' => ex = .normal ∧ ∃ s j S', S'.length = S.length + 1 ∧ Srt S' ∧ (S' ++ R).Perm zs ∧ st' = ⟨⟨s, TIn n S.length (wj j)⟩, [], VK.AR e z clock es (rowU (S' ++ R))⟩ := fun s => by
      refine Go.Ev.Reach.block (Go.Ev.Reach.loop (I := InJ e z clock n es zs R S.length) (fun j st h => Go.Ev.Reach.mono (in_body hn h12 hF hro h) fun ex st' h => ?_) (j := S.length) ⟨s, S, x, [], rfl, by simp, by simpa using hsrt, by simp, by simpa using hp, rfl⟩)
      cases ex with
      | normal => exact h
      | exit id =>
        obtain ⟨rfl, s, j, S', q⟩ := h
        exact ⟨rfl, s, j, S', q⟩
      | _ => exact h.elim
    have go : ∀ s, Go.Ev.Reach (SC r) 199 49 F k γ0 W0 (.block 2 (.loop bIn)) ⟨⟨s, TIn n S.length (wj S.length)⟩, [], VK.AR e z clock es (rowU (S ++ x :: R))⟩ fun ex st' => ex = .normal ∧ Go.Ev.Reach (SC r) 199 49 F k γ0 W0 (rc (rc (ic (ic (rc cIn))))) st' fun ex st' => match ex with
      | .normal => ∃ j', j' < (x :: R).length ∧ InI e z clock n es zs j' st'
      | .exit id => id = 0 ∧ ∃ s w S, Srt S ∧ S.Perm zs ∧ st' = ⟨⟨s, TIn n n w⟩, [], VK.AR e z clock es (rowU S)⟩
      | _ => False := fun s => Go.Ev.Reach.mono (inner s) fun ex st' ⟨hex, s, j, S', h1', h2, h3, hst⟩ => by
        refine ⟨hex, ?_⟩
        subst hst
        refine Go.Ev.Reach.seg (SC_ok r) TOk.nil (tm := .nil) (L := 1) (L' := 1) (d := 1) hF hro ?_
        rw [inE]
        have g : IntKind.wrap IntKind.i64 (((S.length : Nat) : Int) + Int.ofNat 1) = ((S'.length : Nat) : Int) := by rw [wrI (by simp; omega), h1']; simp
        rw [g]
        exact qn_ok ⟨R.length, by simp, _, wj j, S', R, .inr ⟨j, rfl⟩, rfl, by omega, h2, h3, rfl⟩
    refine qn_ok (Go.Ev.Reach.seq (Go.Ev.Reach.block (Go.Ev.Reach.seq ?_)))
    rcases hw with rfl | ⟨j, rfl⟩
    · refine Go.Ev.Reach.seg (SC_ok r) TOk.nil (tm := .nil) (L := 1) (L' := 1) (d := 1) hF hro ?_
      rw [show lc yIn = lc (ic (lc (rc (ic (ic (rc cIn)))))) from rfl]
      refine (inC ..).trans (qn_ok (Go.Ev.Reach.mono (go _) fun ex st' ⟨hex, h⟩ => ?_))
      subst hex
      exact h
    · refine Go.Ev.Reach.seg (SC_ok r) TOk.nil (tm := .nil) (L := 1) (L' := 1) (d := 1) hF hro ?_
      rw [show lc yIn = lc (ic (lc (rc (ic (ic (rc cIn)))))) from rfl]
      refine (inC2 ..).trans (qn_ok (Go.Ev.Reach.mono (go _) fun ex st' ⟨hex, h⟩ => ?_))
      subst hex
      exact h

theorem srt_one {S T : List Int} (h1 : Srt S) (h2 : Srt T) (hp : S.Perm T) : S = T := hp.eq_of_pairwise (fun a b _ _ => Int.le_antisymm) h1 h2

/-- The call: the row in order. -/
theorem insertion_S (hn : zs.length = n) (h12 : n ≤ 1000000) (h1 : 1 ≤ n) {T : List Int} (hT : Srt T) (hp : T.Perm zs) :
    SOk (SC r) 117 [slW n, I 0, I n] (VK.AR e z clock es (rowU zs)) fun v A' => v = .tuple ⟨[]⟩ ∧ A' = VK.AR e z clock es (rowU T) := by
  obtain ⟨fn, h1', h2, h3, h4⟩ := fn_of (C := SC r) (f := 117) (by kernel_rfl)
  have hn' : fn.ntmps = 49 := h3.trans (by kernel_rfl)
  rw [bodySC] at h2
  refine call_reachS (SC_ok r) h1' h2 199 (by rw [hn']; rfl) fun γ W F k hw hF hro => ?_
  rw [hn', h4]
  show Go.Ev.Reach (SC r) 199 49 F k γ W cIn _ _
  rw [show cIn = Code.seq (lc cIn) (.block 0 (.loop (ic (ic (rc cIn))))) from by kernel_rfl]
  refine Go.Ev.Reach.seq (Go.Ev.Reach.seg (SC_ok r) TOk.nil (tm := .nil) (L := 1) (L' := 1) (d := 1) hF hro ((inA ..).trans (qn_ok ?_)))
  cases hz : zs with
  | nil => rw [hz] at hn; simp at hn; omega
  | cons x R =>
    refine Go.Ev.Reach.block (Go.Ev.Reach.loop (I := InI e z clock n es zs) (fun j st h => Go.Ev.Reach.mono (in_outer hn h12 hF hro h) fun ex st' h => ?_) (j := R.length) ⟨_, .nil, [x], R, .inl rfl, rfl, by simp, Srt.one x, by rw [hz]; exact .refl _, rfl⟩)
    cases ex with
    | normal => exact h
    | exit id =>
      obtain ⟨rfl, s, w, S, q1, q2, rfl⟩ := h
      refine ⟨.inl rfl, _, _, _, Ren.refl _, ?_, rfl, rfl⟩
      rw [← finK_finish, srt_one hT q1 (hp.trans q2.symm)]
      exact inF ..
    | _ => exact h.elim

end

end Go.Proofs

/- maps.Keys and slices.AppendSeq over it, run: keys of kind u16. -/
namespace Go.Proofs.VV
open Go Go.Ev Go.Proofs
set_option maxRecDepth 100000
set_option linter.unusedVariables false
set_option linter.unusedSimpArgs false

def rfAs : Code → Code | .rangeFunc _ _ a _ => a | c => c
def rfBd : Code → Code | .rangeFunc _ _ _ b => b | c => c
noncomputable def cKs : Code := bodyOf S0 102
noncomputable def cAq : Code := bodyOf S0 113
noncomputable def cCo : Code := bodyOf S0 100

/-- The keys' walk. -/
abbrev seqV : Value := .func (.func 102) ⟨[]⟩ ⟨[.pointer (some ⟨0, 0, none⟩)]⟩
def AK0 (e z clock : Nat) (es : List MapEntry) : AW := ⟨2, .node (.node .nil (some (.map es clock)) .nil) (some (.cells [.map (some 1)] e 0 z)) .nil, .nil⟩

noncomputable def k_aqA : Code := rfAs (ic (rc (lc (rc cAq))))
noncomputable def k_aqB : Code := rfBd (ic (rc (lc (rc cAq))))
def TQ : Tr Value := .node (.node .nil (some seqV) .nil) (some (.slice none 0 0)) (.node (.node .nil (some (.slice none 0 0)) .nil) (some (.pointer (some ⟨2, 0, none⟩))) .nil)
noncomputable def AKg (e z clock : Nat) (es : List MapEntry) (n : Nat) (sv : Value) (s5 s6 : Tr AObj) : AW :=
  ⟨n, .node (.node (.node .nil (some .defd) .nil) (some (.map es clock)) s5) (some (.cells [.map (some 1)] e 0 z)) (.node (.node .nil (some (.loop .ready none 183 ⟨[(6, seqV)], TQ⟩ 13 ⟨[7]⟩ k_aqA k_aqB 3)) .nil) (some (.cells [sv] 67 2 0)) s6), .nil⟩
def miT (clock : Nat) (seen : List Nat) : Tr AObj := .node .nil (some (.miter 1 clock seen clock)) .nil
def rwT (i : Nat) (l : List Value) : Tr AObj := .node .nil (some (.cells l 52 i 1)) .nil
def yK : List Value := [.func (.yield 4) ⟨[]⟩ ⟨[]⟩, .pointer (some ⟨0, 0, none⟩)]

def TK : Tr Value := .node (.node .nil (some (.pointer (some ⟨0, 0, none⟩))) .nil) (some (.func (.yield 4) ⟨[]⟩ ⟨[]⟩)) (.node .nil none (.node .nil (some (.pointer (some ⟨5, 0, none⟩))) .nil))
def TKz (z : Int) : Tr Value := .node (.node .nil (some (.pointer (some ⟨0, 0, none⟩))) .nil) (some (.func (.yield 4) ⟨[]⟩ ⟨[]⟩)) (.node (.node .nil (some (.int .u64 z)) .nil) none (.node .nil (some (.pointer (some ⟨5, 0, none⟩))) .nil))

theorem kyA (r : Mem) (L : Nat) (fs : FnsC) (e z clock : Nat) (es : List MapEntry) (kn : KS) (kx : Nat → KS) (kr : KS) (ms : List Nat) : run (SC r) 183 13 L (.seq (lc cAq) (lc (lc (rc cAq)))) fs none kn kx kr (sc0 183 [.slice none 0 0, seqV]) (tr0 183 [.slice none 0 0, seqV]) ms (AK0 e z clock es) =
    kn [(6, Value.func (Fn.func 102) (Array.mk []) (Array.mk [Value.pointer (some (Addr.mk 0 0 none))]))] (Tr.node (Tr.node Tr.nil (some (Value.func (Fn.func 102) (Array.mk []) (Array.mk [Value.pointer (some (Addr.mk 0 0 none))]))) Tr.nil) (some (Value.slice none 0 0)) (Tr.node (Tr.node Tr.nil (some (Value.slice none 0 0)) Tr.nil) (some (Value.pointer (some (Addr.mk 2 0 none)))) Tr.nil)) ms (AW.mk 3 (Tr.node (Tr.node Tr.nil (some (AObj.map es clock)) Tr.nil) (some (AObj.cells [Value.map (some 1)] e 0 z)) (Tr.node Tr.nil (some (AObj.cells [Value.slice none 0 0] 67 2 0)) Tr.nil)) Tr.nil) := by kernel_rfl

theorem kyB (r : Mem) (L : Nat) (fs : FnsC) (e z clock : Nat) (es : List MapEntry) (kn : KS) (kx : Nat → KS) (kr : KS) (ms : List Nat) : run (SC r) 83 15 L (lc cKs) fs none kn kx kr (sc0 83 yK) (tr0 83 yK) ms (AKg e z clock es 5 (.slice none 0 0) .nil .nil) =
    kn [(5, Value.map (some 1))] (Tr.node (Tr.node Tr.nil (some (Value.pointer (some (Addr.mk 0 0 none)))) Tr.nil) (some (Value.func (Fn.yield 4) (Array.mk []) (Array.mk []))) (Tr.node Tr.nil none (Tr.node Tr.nil (some (Value.pointer (some (Addr.mk 5 0 none)))) Tr.nil))) ms (AW.mk 6 (Tr.node (Tr.node (Tr.node Tr.nil (some AObj.defd) Tr.nil) (some (AObj.map es clock)) (Tr.node Tr.nil (some (AObj.miter 1 clock [] clock)) Tr.nil)) (some (AObj.cells [Value.map (some 1)] e 0 z)) (Tr.node (Tr.node Tr.nil (some (AObj.loop LoopState.ready none 183 (En.mk [(6, Value.func (Fn.func 102) (Array.mk []) (Array.mk [Value.pointer (some (Addr.mk 0 0 none))]))] (Tr.node (Tr.node Tr.nil (some (Value.func (Fn.func 102) (Array.mk []) (Array.mk [Value.pointer (some (Addr.mk 0 0 none))]))) Tr.nil) (some (Value.slice none 0 0)) (Tr.node (Tr.node Tr.nil (some (Value.slice none 0 0)) Tr.nil) (some (Value.pointer (some (Addr.mk 2 0 none)))) Tr.nil))) 13 (Array.mk [7]) (Code.region 2 #[Oper.mk (some 5) (Op.assign (Operand.tmp 7)) 52 "iter.go:51" #[] none] false) (Code.block 1 (Code.region 3 #[Oper.mk (some 8) (Op.load 67 (Operand.tmp 2)) 67 "iter.go:52" #[] none, Oper.mk (some 9) (Op.move (Operand.tmp 5)) 52 "iter.go:52" #[] none, Oper.mk (some 10) (Op.buildSlice 67 1 #[(0, Operand.tmp 9)]) 67 "iter.go:52" #[Edge.mk 1 Ground.data] none, Oper.mk (some 11) (Op.call (Call.mk (Callee.builtin Builtin.append) #[Operand.tmp 8, Operand.tmp 10] #[67, 67])) 67 "iter.go:52" #[Edge.mk 0 Ground.data, Edge.mk 2 Ground.data] none, Oper.mk none (Op.store 67 (Operand.tmp 2) (Operand.tmp 11)) 0 "iter.go:52" #[Edge.mk 3 Ground.data, Edge.mk 3 Ground.chain, Edge.mk 0 Ground.phase, Edge.mk 1 Ground.phase, Edge.mk 2 Ground.phase, Edge.mk 3 Ground.phase] none] false)) 3)) Tr.nil) (some (AObj.cells [Value.slice none 0 0] 67 2 0)) Tr.nil)) Tr.nil) := by kernel_rfl

theorem kyC (r : Mem) (L : Nat) (fs : FnsC) (s : List (Nat × Value)) (b : Tr Value) (q : Bool) (kn : KS) (kx : Nat → KS) (kr : KS) (ms : List Nat) (A : AW) : run (SC r) 83 15 L (lc (rc (ic (ic (rc cKs))))) fs none kn kx kr ((8, .bool q) :: s) b ms A =
    bif q then kn ((8, Value.bool q) :: s) b ms A else kx 0 ((8, Value.bool q) :: s) b ms A := by kernel_rfl

theorem kyP (r : Mem) (fs : FnsC) (kn : KS) (ms : List Nat) (A : AW) : preK (SC r) 83 15 (lc (ic (ic (rc cKs)))) 0 fs kn [] TK ms A =
    kn [] (Tr.node (Tr.node Tr.nil (some (Value.pointer (some (Addr.mk 0 0 none)))) Tr.nil) (some (Value.func (Fn.yield 4) (Array.mk []) (Array.mk []))) (Tr.node Tr.nil none (Tr.node Tr.nil (some (Value.pointer (some (Addr.mk 5 0 none)))) Tr.nil))) ms A := by kernel_rfl

theorem kyN (r : Mem) (fs : FnsC) (x : Int) (vb : Int) (kn : KS) (ms : List Nat) (A : AW) : tailK (SC r) 83 15 (lc (ic (ic (rc cKs)))) 0 fs kn (.tuple ⟨[.bool true, .int .u64 vb, .int .u64 x]⟩) [] TK ms A =
    kn [(8, Value.bool true), (7, Value.tuple (Array.mk [Value.bool true, Value.int IntKind.u64 vb, Value.int IntKind.u64 x]))] (Tr.node (Tr.node Tr.nil (some (Value.pointer (some (Addr.mk 0 0 none)))) Tr.nil) (some (Value.func (Fn.yield 4) (Array.mk []) (Array.mk []))) (Tr.node Tr.nil none (Tr.node Tr.nil (some (Value.pointer (some (Addr.mk 5 0 none)))) Tr.nil))) ms A := by kernel_rfl

theorem kyM (r : Mem) (fs : FnsC) (kn : KS) (ms : List Nat) (A : AW) : tailK (SC r) 83 15 (lc (ic (ic (rc cKs)))) 0 fs kn (.tuple ⟨[.bool false]⟩) [] TK ms A =
    kn [(8, Value.bool false), (7, Value.tuple (Array.mk [Value.bool false]))] (Tr.node (Tr.node Tr.nil (some (Value.pointer (some (Addr.mk 0 0 none)))) Tr.nil) (some (Value.func (Fn.yield 4) (Array.mk []) (Array.mk []))) (Tr.node Tr.nil none (Tr.node Tr.nil (some (Value.pointer (some (Addr.mk 5 0 none)))) Tr.nil))) ms A := by kernel_rfl

theorem kyQ (r : Mem) (fs : FnsC) (kn : KS) (ms : List Nat) (A : AW) : preK (SC r) 83 15 (lc (ic (rc (rc (ic (ic (rc cKs))))))) 0 fs kn [] TK ms A =
    kn [] (Tr.node (Tr.node Tr.nil (some (Value.pointer (some (Addr.mk 0 0 none)))) Tr.nil) (some (Value.func (Fn.yield 4) (Array.mk []) (Array.mk []))) (Tr.node Tr.nil none (Tr.node Tr.nil (some (Value.pointer (some (Addr.mk 5 0 none)))) Tr.nil))) ms A := by kernel_rfl

theorem kyE (r : Mem) (fs : FnsC) (x : Int) (vb : Int) (kn : KS) (ms : List Nat) (A : AW) : tailK (SC r) 83 15 (lc (ic (rc (rc (ic (ic (rc cKs))))))) 0 fs kn (.tuple ⟨[.int .u64 vb, .int .u64 x]⟩) [] TK ms A =
    kn [(10, Value.int IntKind.u64 x), (9, Value.tuple (Array.mk [Value.int IntKind.u64 vb, Value.int IntKind.u64 x]))] (Tr.node (Tr.node Tr.nil (some (Value.pointer (some (Addr.mk 0 0 none)))) Tr.nil) (some (Value.func (Fn.yield 4) (Array.mk []) (Array.mk []))) (Tr.node (Tr.node Tr.nil (some (Value.int IntKind.u64 x)) Tr.nil) none (Tr.node Tr.nil (some (Value.pointer (some (Addr.mk 5 0 none)))) Tr.nil))) ms A := by kernel_rfl

theorem kyY (r : Mem) (L : Nat) (tm : Tr Nat) (e z clock : Nat) (es : List MapEntry) (seen : List Nat) (x : Int) (s : List (Nat × Value)) (kn : KS) (kx : Nat → KS) (kr : KS) (ms : List Nat) : run (SC r) 83 15 L (rc (ic (rc (rc (ic (ic (rc cKs))))))) (lvlT (SC r) (fun _ => none) tm L 1) none kn kx kr s (TKz x) ms (AKg e z clock es 6 (.slice none 0 0) (miT clock seen) .nil) =
    kn [(14, Value.bool false), (13, Value.bool true), (12, Value.int IntKind.u64 x), (11, Value.func (Fn.yield 4) (Array.mk []) (Array.mk []))] (Tr.node (Tr.node Tr.nil (some (Value.pointer (some (Addr.mk 0 0 none)))) Tr.nil) (some (Value.func (Fn.yield 4) (Array.mk []) (Array.mk []))) (Tr.node (Tr.node Tr.nil (some (Value.int IntKind.u64 x)) Tr.nil) none (Tr.node Tr.nil (some (Value.pointer (some (Addr.mk 5 0 none)))) Tr.nil))) ms (AW.mk 8 (Tr.node (Tr.node (Tr.node (Tr.node Tr.nil (some (AObj.cells [Value.int IntKind.u64 x] 52 7 1)) Tr.nil) (some AObj.defd) Tr.nil) (some (AObj.map es clock)) (Tr.node Tr.nil (some (AObj.miter 1 clock seen clock)) Tr.nil)) (some (AObj.cells [Value.map (some 1)] e 0 z)) (Tr.node (Tr.node Tr.nil (some (AObj.loop LoopState.ready none 183 (En.mk [(6, Value.func (Fn.func 102) (Array.mk []) (Array.mk [Value.pointer (some (Addr.mk 0 0 none))]))] (Tr.node (Tr.node Tr.nil (some (Value.func (Fn.func 102) (Array.mk []) (Array.mk [Value.pointer (some (Addr.mk 0 0 none))]))) Tr.nil) (some (Value.slice none 0 0)) (Tr.node (Tr.node Tr.nil (some (Value.slice none 0 0)) Tr.nil) (some (Value.pointer (some (Addr.mk 2 0 none)))) Tr.nil))) 13 (Array.mk [7]) (Code.region 2 #[Oper.mk (some 5) (Op.assign (Operand.tmp 7)) 52 "iter.go:51" #[] none] false) (Code.block 1 (Code.region 3 #[Oper.mk (some 8) (Op.load 67 (Operand.tmp 2)) 67 "iter.go:52" #[] none, Oper.mk (some 9) (Op.move (Operand.tmp 5)) 52 "iter.go:52" #[] none, Oper.mk (some 10) (Op.buildSlice 67 1 #[(0, Operand.tmp 9)]) 67 "iter.go:52" #[Edge.mk 1 Ground.data] none, Oper.mk (some 11) (Op.call (Call.mk (Callee.builtin Builtin.append) #[Operand.tmp 8, Operand.tmp 10] #[67, 67])) 67 "iter.go:52" #[Edge.mk 0 Ground.data, Edge.mk 2 Ground.data] none, Oper.mk none (Op.store 67 (Operand.tmp 2) (Operand.tmp 11)) 0 "iter.go:52" #[Edge.mk 3 Ground.data, Edge.mk 3 Ground.chain, Edge.mk 0 Ground.phase, Edge.mk 1 Ground.phase, Edge.mk 2 Ground.phase, Edge.mk 3 Ground.phase] none] false)) 3)) Tr.nil) (some (AObj.cells [Value.slice (some (Addr.mk 7 0 none)) 1 9223372036854775808] 67 2 0)) (Tr.node Tr.nil (some (AObj.cells [Value.int IntKind.u64 x] 52 6 1)) Tr.nil))) Tr.nil) := by kernel_rfl

theorem kyZ (r : Mem) (L : Nat) (tm : Tr Nat) (e z clock : Nat) (es : List MapEntry) (seen : List Nat) (x : Int) (l : List Value) (n : Nat) (s : List (Nat × Value)) (kn : KS) (kx : Nat → KS) (kr : KS) (ms : List Nat) : run (SC r) 83 15 L (rc (ic (rc (rc (ic (ic (rc cKs))))))) (lvlT (SC r) (fun _ => none) tm L 1) none kn kx kr s (TKz x) ms (AKg e z clock es 7 (.slice (some ⟨6, 0, none⟩) n unk) (miT clock seen) (rwT 6 l)) =
    bif Nat.ble (Nat.add n 1) 1000000 then Option.casesOn (takeAt l 0 (Nat.mul n 1)) (CR.fail 439) fun val => kn [(14, Value.bool false), (13, Value.bool true), (12, Value.int IntKind.u64 x), (11, Value.func (Fn.yield 4) (Array.mk []) (Array.mk []))] (Tr.node (Tr.node Tr.nil (some (Value.pointer (some (Addr.mk 0 0 none)))) Tr.nil) (some (Value.func (Fn.yield 4) (Array.mk []) (Array.mk []))) (Tr.node (Tr.node Tr.nil (some (Value.int IntKind.u64 x)) Tr.nil) none (Tr.node Tr.nil (some (Value.pointer (some (Addr.mk 5 0 none)))) Tr.nil))) ms (AW.mk 9 (Tr.node (Tr.node (Tr.node (Tr.node Tr.nil (some (AObj.cells [Value.int IntKind.u64 x] 52 7 1)) Tr.nil) (some AObj.defd) Tr.nil) (some (AObj.map es clock)) (Tr.node Tr.nil (some (AObj.miter 1 clock seen clock)) Tr.nil)) (some (AObj.cells [Value.map (some 1)] e 0 z)) (Tr.node (Tr.node (Tr.node Tr.nil (some (AObj.cells (val ++ [Value.int IntKind.u64 x]) 52 6 1)) Tr.nil) (some (AObj.loop LoopState.ready none 183 (En.mk [(6, Value.func (Fn.func 102) (Array.mk []) (Array.mk [Value.pointer (some (Addr.mk 0 0 none))]))] (Tr.node (Tr.node Tr.nil (some (Value.func (Fn.func 102) (Array.mk []) (Array.mk [Value.pointer (some (Addr.mk 0 0 none))]))) Tr.nil) (some (Value.slice none 0 0)) (Tr.node (Tr.node Tr.nil (some (Value.slice none 0 0)) Tr.nil) (some (Value.pointer (some (Addr.mk 2 0 none)))) Tr.nil))) 13 (Array.mk [7]) (Code.region 2 #[Oper.mk (some 5) (Op.assign (Operand.tmp 7)) 52 "iter.go:51" #[] none] false) (Code.block 1 (Code.region 3 #[Oper.mk (some 8) (Op.load 67 (Operand.tmp 2)) 67 "iter.go:52" #[] none, Oper.mk (some 9) (Op.move (Operand.tmp 5)) 52 "iter.go:52" #[] none, Oper.mk (some 10) (Op.buildSlice 67 1 #[(0, Operand.tmp 9)]) 67 "iter.go:52" #[Edge.mk 1 Ground.data] none, Oper.mk (some 11) (Op.call (Call.mk (Callee.builtin Builtin.append) #[Operand.tmp 8, Operand.tmp 10] #[67, 67])) 67 "iter.go:52" #[Edge.mk 0 Ground.data, Edge.mk 2 Ground.data] none, Oper.mk none (Op.store 67 (Operand.tmp 2) (Operand.tmp 11)) 0 "iter.go:52" #[Edge.mk 3 Ground.data, Edge.mk 3 Ground.chain, Edge.mk 0 Ground.phase, Edge.mk 1 Ground.phase, Edge.mk 2 Ground.phase, Edge.mk 3 Ground.phase] none] false)) 3)) Tr.nil) (some (AObj.cells [Value.slice (some (Addr.mk 8 0 none)) (Nat.add n 1) 9223372036854775808] 67 2 0)) (Tr.node Tr.nil none Tr.nil))) (Tr.node Tr.nil none (Tr.node Tr.nil none (Tr.node Tr.nil (some [8]) Tr.nil)))) else CR.fail 420 := by kernel_rfl

end Go.Proofs.VV

/- maps.Keys over slices.AppendSeq: the walk, each key once, in any order. -/
namespace Go.Proofs.VV
open Go Go.Ev Go.Proofs
set_option maxRecDepth 100000
set_option linter.unusedVariables false
set_option linter.unusedSimpArgs false

abbrev K16 : Type := {x : Int // 0 ≤ x ∧ x < 65536}
abbrev KT : Type := K16 × Int × Nat
def mkE (t : KT) : MapEntry := ⟨.int .u64 t.2.1, .int .u64 t.1.1, t.2.2⟩
def rowK (l : List KT) : List Value := l.map fun t => .int .u64 t.1.1
def bornK (l : List KT) : List Nat := l.map fun t => t.2.2
theorem rowK_len (l : List KT) : (rowK l).length = l.length := by simp [rowK]
theorem rowK_gnd (l : List KT) : ∀ v ∈ rowK l, gnd v = true := fun v hv => by
  obtain ⟨t, _, rfl⟩ := List.mem_map.1 hv
  rfl
theorem takeAt_fullK (l : List Value) (n : Nat) (h : l.length = n) : takeAt l 0 n = some l := takeAt_all l n 0 l h fun j _ => by rw [Nat.zero_add]
theorem natFK {i j : Nat} (h : i ≠ j) : Nat.beq i j = false := by
  cases e : Nat.beq i j with
  | false => rfl
  | true => exact absurd (Nat.eq_of_beq_eq_true e) h

/-- The keys of a map that is not walked but by this: each born before the walk, at its own time. -/
structure KOk (q : List KT) (clock : Nat) : Prop where
  born : ∀ t ∈ q, t.2.2 < clock
  nodup : (bornK q).Nodup
  few : q.length < 1000000

theorem left_mem {q : List KT} {seen : List Nat} {e : MapEntry} (h : e ∈ nextLeft (q.map mkE) seen) : ∃ t ∈ q, e = mkE t ∧ t.2.2 ∉ seen := by
  unfold nextLeft at h
  obtain ⟨h1, h2⟩ := List.mem_filter.1 h
  obtain ⟨t, ht, rfl⟩ := List.mem_map.1 h1
  refine ⟨t, ht, rfl, fun hm => ?_⟩
  simp [mkE, hm] at h2

theorem left_nil {q : List KT} {seen : List Nat} (h : nextLeft (q.map mkE) seen = []) : ∀ t ∈ q, t.2.2 ∈ seen := fun t ht => by
  unfold nextLeft at h
  have := List.filter_eq_nil_iff.1 h (mkE t) (List.mem_map_of_mem ht)
  simpa [mkE] using this

theorem left_done {q vis rest : List KT} {clock : Nat} (hq : KOk q clock) (hp : (vis ++ rest).Perm q) (h : nextLeft (q.map mkE) (bornK vis) = []) : rest = [] := by
  cases rest with
  | nil => rfl
  | cons t l =>
    exfalso
    have h1 := left_nil h t (hp.mem_iff.1 (by simp))
    have h2 : (bornK (vis ++ t :: l)).Nodup := (hp.map _).nodup_iff.2 hq.nodup
    unfold bornK at h1 h2
    rw [List.map_append, List.nodup_append] at h2
    exact h2.2.2 _ h1 t.2.2 (by simp) rfl

theorem left_more {q vis rest : List KT} {clock : Nat} (hq : KOk q clock) (hp : (vis ++ rest).Perm q) {e : MapEntry} (h : e ∈ nextLeft (q.map mkE) (bornK vis)) : ∃ t rest', e = mkE t ∧ rest'.length < rest.length ∧ ((vis ++ [t]) ++ rest').Perm q := by
  obtain ⟨t, ht, rfl, hn⟩ := left_mem h
  have hm : t ∈ rest := by
    rcases List.mem_append.1 (hp.mem_iff.2 ht) with h1 | h1
    · exact absurd (List.mem_map_of_mem (f := fun t : KT => t.2.2) h1) hn
    · exact h1
  obtain ⟨a, b, rfl⟩ := List.append_of_mem hm
  refine ⟨t, a ++ b, rfl, by simp, List.Perm.trans ?_ hp⟩
  rw [List.append_assoc]
  refine List.Perm.append_left vis ?_
  simpa using List.perm_middle.symm

theorem same_ok {q : List KT} {clock : Nat} (hq : KOk q clock) (seen : List Nat) : nextSame (q.map mkE) clock seen clock = true := by
  unfold nextSame
  simp only [Bool.and_eq_true, Bool.not_eq_true', List.all_eq_true, decide_eq_true_eq]
  refine ⟨?_, fun e he => ?_⟩
  · cases q with
    | nil => simp
    | cons t l =>
      have := hq.born t (by simp)
      have h2 : (List.map mkE (t :: l)).all (fun e => decide (clock ≤ e.born)) = false := by
        simp [mkE]
        intro h
        omega
      rw [h2]
      simp
  · obtain ⟨t, ht, rfl, _⟩ := left_mem he
    exact hq.born t ht

theorem find_ok {q : List KT} {clock : Nat} (hq : KOk q clock) {t : KT} (ht : t ∈ q) : (q.map mkE).find? (fun e => Nat.beq e.born t.2.2) = some (mkE t) := by
  have key : ∀ (l : List KT), (bornK l).Nodup → t ∈ l → (l.map mkE).find? (fun e => Nat.beq e.born t.2.2) = some (mkE t) := by
    intro l
    induction l with
    | nil => intro _ h; cases h
    | cons x l ih =>
      intro hn hm
      rw [List.map_cons, List.find?_cons]
      unfold bornK at hn
      rw [List.map_cons, List.nodup_cons] at hn
      rcases List.mem_cons.1 hm with rfl | hm
      · rw [show Nat.beq (mkE t).born t.2.2 = true from Nat.beq_refl _]
      · have hne : x.2.2 ≠ t.2.2 := fun h => hn.1 (by rw [h]; exact List.mem_map_of_mem (f := fun t : KT => t.2.2) hm)
        rw [show Nat.beq (mkE x).born t.2.2 = false from natFK hne]
        exact ih hn.2 hm
  exact key q hq.nodup ht

section
variable {r : Mem} {γ0 : Gam} {W0 : World} {e z clock : Nat} {q : List KT}

/-- The world at the walk's head, and behind it. -/
noncomputable def AKv (e z clock : Nat) (q : List KT) : List KT → AW
  | [] => AKg e z clock (q.map mkE) 6 (.slice none 0 0) (miT clock []) .nil
  | t :: l => AKg e z clock (q.map mkE) 7 (.slice (some ⟨6, 0, none⟩) (t :: l).length unk) (miT clock (bornK (t :: l))) (rwT 6 (rowK (t :: l)))
noncomputable def AKf (e z clock : Nat) (q : List KT) : List KT → AW
  | [] => AKg e z clock (q.map mkE) 5 (.slice none 0 0) .nil .nil
  | t :: l => AKg e z clock (q.map mkE) 6 (.slice (some ⟨5, 0, none⟩) (t :: l).length unk) (rwT 5 (rowK (t :: l))) .nil
/-- The same, at the entry. -/
noncomputable def AKn (e z clock : Nat) (q : List KT) (seen : List Nat) : List KT → AW
  | [] => AKg e z clock (q.map mkE) 6 (.slice none 0 0) (miT clock seen) .nil
  | t :: l => AKg e z clock (q.map mkE) 7 (.slice (some ⟨6, 0, none⟩) (t :: l).length unk) (miT clock seen) (rwT 6 (rowK (t :: l)))


theorem ksG (q : List KT) : ∀ x ∈ q.map mkE, gnd x.key = true ∧ gnd x.val = true := fun x hx => by
  obtain ⟨t, _, rfl⟩ := List.mem_map.1 hx
  exact ⟨rfl, rfl⟩

theorem ren_start (h0 : ∀ i, 5 ≤ i → γ0 i = none) (s : List (Nat × Value)) : Ren (SC r) 83 15 γ0 W0 ⟨⟨s, TK⟩, [], AKv e z clock q []⟩ ⟨⟨[], TK⟩, [], AKv e z clock q []⟩ := by
  refine Ren.of (fun i => i) 5 rfl h0 (Nat.le_of_ble_eq_true rfl) (fun i hi => rfl) ?_ rfl ?_ trivial
  · simp only [Tr.All, TK]
    repeat' (first | exact trivial | apply And.intro)
    all_goals exact ⟨_, rfl, rfl⟩
  · simp only [Tr.All, AKv, AKg, miT]
    repeat' (first | exact trivial | apply And.intro)
    all_goals first | rfl | exact .head _ | exact ⟨_, rfl, .defd⟩ | exact ⟨_, rfl, .map (ksG q)⟩ | exact ⟨_, rfl, .miter rfl rfl⟩ | exact ⟨_, rfl, .cells rfl⟩ | exact ⟨_, rfl, .plain (by skip)⟩ | skip
    refine ⟨_, rfl, .same ?_ ?_ rfl rfl⟩
    · simp only [Tr.All, TQ]
      repeat' (first | exact trivial | apply And.intro)
      all_goals rfl
    · simp only [scrFix]
      repeat' (first | exact trivial | apply And.intro)
      all_goals rfl

/-- The states at the walk's head. -/
def KeySt (e z clock : Nat) (q : List KT) (j : Nat) (st : St) : Prop := ∃ vis rest, rest.length = j ∧ (vis ++ rest).Perm q ∧ st = ⟨⟨[], TK⟩, [], AKv e z clock q vis⟩

/-- What the walk leaves. -/
def KeyQ (r : Mem) (γ0 : Gam) (W0 : World) (e z clock : Nat) (q : List KT) : Exit → St → Prop
  | .exit id, st => id = 0 ∧ ∃ vis, vis.Perm q ∧ ∃ st1, Ren (SC r) 83 15 γ0 W0 st st1 ∧ st1 = ⟨⟨[], .nil⟩, [], AKf e z clock q vis⟩
  | _, _ => False

theorem ren_out (h0 : ∀ i, 5 ≤ i → γ0 i = none) (s : List (Nat × Value)) (vis : List KT) : Ren (SC r) 83 15 γ0 W0 ⟨⟨s, TK⟩, [], AKv e z clock q vis⟩ ⟨⟨[], .nil⟩, [], AKf e z clock q vis⟩ := by
  cases vis with
  | nil =>
    refine Ren.of (fun i => i) 5 rfl h0 (Nat.le_of_ble_eq_true rfl) (fun i hi => rfl) ?_ rfl ?_ trivial
    · simp only [Tr.All, TK]
      repeat' (first | exact trivial | apply And.intro)
      all_goals exact ⟨_, rfl, rfl⟩
    · simp only [Tr.All, AKv, AKf, AKg, miT]
      repeat' (first | exact trivial | apply And.intro)
      all_goals first | rfl | exact .head _ | exact ⟨_, rfl, .defd⟩ | exact ⟨_, rfl, .map (ksG q)⟩ | exact ⟨_, rfl, .miter rfl rfl⟩ | exact ⟨_, rfl, .cells rfl⟩ | exact ⟨_, rfl, .plain (by skip)⟩ | skip
      refine ⟨_, rfl, .same ?_ ?_ rfl rfl⟩
      · simp only [Tr.All, TQ]
        repeat' (first | exact trivial | apply And.intro)
        all_goals rfl
      · simp only [scrFix]
        repeat' (first | exact trivial | apply And.intro)
        all_goals rfl
  | cons t l =>
    refine Ren.of (fun i => bif Nat.beq i 5 then 6 else i) 5 rfl h0 (Nat.le_of_ble_eq_true rfl) (fun i hi => by have : Nat.beq i 5 = false := natFK (by omega); rw [this]; rfl) ?_ rfl ?_ trivial
    · simp only [Tr.All, TK]
      repeat' (first | exact trivial | apply And.intro)
      all_goals exact ⟨_, rfl, rfl⟩
    · simp only [Tr.All, AKv, AKf, AKg, miT, rwT]
      repeat' (first | exact trivial | apply And.intro)
      all_goals first | rfl | exact .head _ | exact ⟨_, rfl, .defd⟩ | exact ⟨_, rfl, .map (ksG q)⟩ | exact ⟨_, rfl, .miter rfl rfl⟩ | exact ⟨_, rfl, .cells rfl⟩ | exact ⟨_, rfl, .plain (by exact rowK_gnd (t :: l))⟩ | skip
      refine ⟨_, rfl, .same ?_ ?_ rfl rfl⟩
      · simp only [Tr.All, TQ]
        repeat' (first | exact trivial | apply And.intro)
        all_goals rfl
      · simp only [scrFix]
        repeat' (first | exact trivial | apply And.intro)
        all_goals rfl

theorem put_seen {vis : List KT} {seen : List Nat} : ({ AKv e z clock q vis with heap := (AKv e z clock q vis).heap.put 5 (some (.miter 1 clock seen clock)) } : AW) = AKn e z clock q seen vis := by
  cases vis <;> rfl

theorem key_body (hq : KOk q clock) (h0 : ∀ i, 5 ≤ i → γ0 i = none) {F : Fence} {k : Nat} (hF : Wide F) (hro : F.round = none) {j : Nat} {st : St} (hs : KeySt e z clock q j st) :
    Go.Ev.Reach (SC r) 83 15 F k γ0 W0 (ic (ic (rc cKs))) st fun ex st' => match ex with
      | .normal => ∃ j', j' < j ∧ ∃ st1, Ren (SC r) 83 15 γ0 W0 st' st1 ∧ KeySt e z clock q j' st1
      | ex => KeyQ r γ0 W0 e z clock q ex st' := by
  obtain ⟨vis, rest, rfl, hp, rfl⟩ := hs
  rw [show ic (ic (rc cKs)) = Code.seq (lc (ic (ic (rc cKs)))) (.seq (lc (rc (ic (ic (rc cKs))))) (.block 1 (ic (rc (rc (ic (ic (rc cKs)))))))) from by kernel_rfl]
  have hi : (AKv e z clock q vis).heap.get 5 = some (.miter 1 clock (bornK vis) clock) := by cases vis <;> rfl
  have hm : (AKv e z clock q vis).heap.get 1 = some (.map (q.map mkE) clock) := by cases vis <;> rfl
  refine Go.Ev.Reach.seq (Go.Ev.Reach.nextP (SC_ok r) hF TOk.nil (tm := .nil) (L := 0) (d := 0) 0 (s1 := []) (b1 := TK) (ms1 := []) (A1 := AKv e z clock q vis) ?_ (by kernel_rfl) hi hm (same_ok hq _) fun v A' hv => ?_)
  · rw [kyP]
    exact qn_ok rfl
  rcases hv with ⟨hnil, rfl, rfl⟩ | ⟨x, hx, rfl, rfl⟩
  · rw [kyM]
    refine qn_ok (Go.Ev.Reach.seq (Go.Ev.Reach.seg (SC_ok r) TOk.nil (tm := .nil) (L := 1) (L' := 1) (d := 1) hF hro ?_))
    rw [kyC]
    simp only [cond_false]
    have := left_done hq hp hnil
    subst this
    rw [List.append_nil] at hp
    exact qn_ok ⟨rfl, vis, hp, _, ren_out h0 _ vis, rfl⟩
  · obtain ⟨t, rest', rfl, hlt, hp'⟩ := left_more hq hp hx
    rw [show (mkE t).key = .int .u64 t.2.1 from rfl, show (mkE t).val = .int .u64 t.1.1 from rfl, show (mkE t).born = t.2.2 from rfl, kyN, put_seen]
    refine qn_ok (Go.Ev.Reach.seq (Go.Ev.Reach.seg (SC_ok r) TOk.nil (tm := .nil) (L := 1) (L' := 1) (d := 1) hF hro ?_))
    rw [kyC]
    simp only [cond_true]
    have ht : t ∈ q := hp'.mem_iff.1 (by simp)
    have hi : (AKn e z clock q (bornK vis ++ [t.2.2]) vis).heap.get 5 = some (.miter 1 clock (bornK vis ++ [t.2.2]) clock) := by cases vis <;> rfl
    have hm : (AKn e z clock q (bornK vis ++ [t.2.2]) vis).heap.get 1 = some (.map (q.map mkE) clock) := by cases vis <;> rfl
    refine qn_ok (Go.Ev.Reach.block ?_)
    rw [show ic (rc (rc (ic (ic (rc cKs))))) = Code.seq (lc (ic (rc (rc (ic (ic (rc cKs))))))) (rc (ic (rc (rc (ic (ic (rc cKs))))))) from by kernel_rfl]
    refine Go.Ev.Reach.seq (Go.Ev.Reach.entryP (SC_ok r) hF TOk.nil (tm := .nil) (L := 0) (d := 0) 0 (s1 := []) (b1 := TK) (ms1 := []) (A1 := AKn e z clock q (bornK vis ++ [t.2.2]) vis) (i := 5) ?_ (by kernel_rfl) hi hm (by simp) (find_ok hq ht) ?_)
    · exact (kyQ ..).trans (qn_ok rfl)
    rw [show (mkE t).key = .int .u64 t.2.1 from rfl, show (mkE t).val = .int .u64 t.1.1 from rfl, kyE]
    refine qn_ok (Go.Ev.Reach.seg (SC_ok r) TOk.nil (tm := .nil) (L := 1) (L' := 1) (d := 1) hF hro ?_)
    cases vis with
    | nil =>
      refine (kyY ..).trans (qn_ok ⟨rest'.length, hlt, _, ?_, [t], rest', rfl, hp', rfl⟩)
      show Ren _ _ _ _ _ _ ⟨⟨[], TK⟩, [], AKg e z clock (q.map mkE) 7 (.slice (some ⟨6, 0, none⟩) 1 unk) (miT clock [t.2.2]) (rwT 6 [.int .u64 t.1.1])⟩
      refine Ren.of (fun i => bif Nat.beq i 6 then 7 else i) 5 rfl h0 (Nat.le_of_ble_eq_true rfl) (fun i hi => by have : Nat.beq i 6 = false := natFK (by omega); rw [this]; rfl) ?_ rfl ?_ trivial
      · simp only [Tr.All, TK]
        repeat' (first | exact trivial | apply And.intro)
        all_goals exact ⟨_, rfl, rfl⟩
      · simp only [Tr.All, AKg, miT, rwT]
        repeat' (first | exact trivial | apply And.intro)
        all_goals first | rfl | exact .head _ | exact ⟨_, rfl, .defd⟩ | exact ⟨_, rfl, .map (ksG q)⟩ | exact ⟨_, rfl, .miter rfl rfl⟩ | exact ⟨_, rfl, .cells rfl⟩ | exact ⟨_, rfl, .plain (by intro v hv; rw [List.mem_singleton.1 hv]; rfl)⟩ | skip
        refine ⟨_, rfl, .same ?_ ?_ rfl rfl⟩
        · simp only [Tr.All, TQ]
          repeat' (first | exact trivial | apply And.intro)
          all_goals rfl
        · simp only [scrFix]
          repeat' (first | exact trivial | apply And.intro)
          all_goals rfl
    | cons t0 l =>
      have hlen : (t0 :: l).length + 1 ≤ q.length := by
        have := hp'.length_eq
        simp only [List.length_append, List.length_cons, List.length_nil] at this ⊢
        omega
      have hfew := hq.few
      have g1 : Nat.ble (Nat.add (t0 :: l).length 1) 1000000 = true := Nat.ble_eq_true_of_le (by simp only [Nat.add_eq]; omega)
      have g2 : takeAt (rowK (t0 :: l)) 0 (Nat.mul (t0 :: l).length 1) = some (rowK (t0 :: l)) := takeAt_fullK _ _ (by rw [rowK_len]; simp)
      refine (kyZ ..).trans ?_
      rw [g1, g2]
      simp only [cond_true]
      refine qn_ok ⟨rest'.length, hlt, _, ?_, (t0 :: l) ++ [t], rest', rfl, hp', rfl⟩
      show Ren _ _ _ _ _ _ ⟨⟨[], TK⟩, [], AKg e z clock (q.map mkE) 7 (.slice (some ⟨6, 0, none⟩) ((t0 :: l) ++ [t]).length unk) (miT clock (bornK ((t0 :: l) ++ [t]))) (rwT 6 (rowK ((t0 :: l) ++ [t])))⟩
      have e1 : ((t0 :: l) ++ [t]).length = Nat.add (t0 :: l).length 1 := by simp
      have e2 : bornK ((t0 :: l) ++ [t]) = bornK (t0 :: l) ++ [t.2.2] := by simp [bornK]
      have e3 : rowK ((t0 :: l) ++ [t]) = rowK (t0 :: l) ++ [.int .u64 t.1.1] := by simp [rowK]
      rw [e1, e2, e3]
      refine Ren.of (fun i => bif Nat.beq i 6 then 8 else i) 5 rfl h0 (Nat.le_of_ble_eq_true rfl) (fun i hi => by have : Nat.beq i 6 = false := natFK (by omega); rw [this]; rfl) ?_ rfl ?_ trivial
      · simp only [Tr.All, TK]
        repeat' (first | exact trivial | apply And.intro)
        all_goals exact ⟨_, rfl, rfl⟩
      · simp only [Tr.All, AKg, miT, rwT]
        repeat' (first | exact trivial | apply And.intro)
        all_goals first | rfl | exact .head _ | exact ⟨_, rfl, .defd⟩ | exact ⟨_, rfl, .map (ksG q)⟩ | exact ⟨_, rfl, .miter rfl rfl⟩ | exact ⟨_, rfl, .cells rfl⟩ | exact ⟨_, rfl, .plain (by exact e3 ▸ rowK_gnd ((t0 :: l) ++ [t]))⟩ | skip
        refine ⟨_, rfl, .same ?_ ?_ rfl rfl⟩
        · simp only [Tr.All, TQ]
          repeat' (first | exact trivial | apply And.intro)
          all_goals rfl
        · simp only [scrFix]
          repeat' (first | exact trivial | apply And.intro)
          all_goals rfl

/-- The walk over the keys, called by the loop that collects them. -/
theorem keys_S (hq : KOk q clock) : SOk (SC r) 102 yK (AKg e z clock (q.map mkE) 5 (.slice none 0 0) .nil .nil) fun v A' => v = .tuple ⟨[]⟩ ∧ ∃ vis, vis.Perm q ∧ A' = AKf e z clock q vis := by
  obtain ⟨fn, h1, h2, h3, h4⟩ := fn_of (C := SC r) (f := 102) (by kernel_rfl)
  have hn : fn.ntmps = 15 := h3.trans (by kernel_rfl)
  have hr : fn.results.toList = [] := h4.trans (by kernel_rfl)
  rw [bodySC] at h2
  refine call_reachS (SC_ok r) h1 h2 83 (by rw [hn]; rfl) fun γ W F k hw hF hro => ?_
  rw [hn, hr]
  have h0 : ∀ i, 5 ≤ i → γ i = none := hw.fresh
  show Go.Ev.Reach (SC r) 83 15 F k γ W cKs _ _
  rw [show cKs = Code.seq (lc cKs) (.block 0 (.loop (ic (ic (rc cKs))))) from by kernel_rfl]
  refine Go.Ev.Reach.seq (Go.Ev.Reach.seg (SC_ok r) TOk.nil (tm := .nil) (L := 1) (L' := 1) (d := 1) hF hro ((kyB ..).trans (qn_ok ?_)))
  refine Go.Ev.Reach.pre (ren_start h0 _) ?_
  refine Go.Ev.Reach.block ?_
  refine Go.Ev.Reach.loop (I := fun j st => ∃ st1, Ren (SC r) 83 15 γ W st st1 ∧ KeySt e z clock q j st1) (fun j st ⟨st1, hr, hs⟩ => Go.Ev.Reach.pre hr (Go.Ev.Reach.mono (key_body hq h0 hF hro hs) fun ex st' h => ?_)) ⟨_, Ren.refl _, [], q, rfl, by simp, rfl⟩
  cases ex with
  | normal => exact h
  | exit id =>
    obtain ⟨rfl, vis, hv, st2, hr2, rfl⟩ := h
    exact ⟨.inl rfl, _, _, _, hr2, rfl, rfl, vis, hv, rfl⟩
  | _ => exact h.elim

end

end Go.Proofs.VV

