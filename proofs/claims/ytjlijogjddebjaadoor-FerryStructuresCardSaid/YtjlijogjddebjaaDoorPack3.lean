/- What the claim is proved with, part 3: the evaluator and the contracts of the calls. -/
import Derived.Test.YtjlijogjddebjaaDoorPack2
import Derived.Test.YtjlijogjddebjaaDoorPack1
/- The search for a structure, run. -/
namespace Go.Proofs
open Go Go.Ev Go.Num
set_option linter.unusedVariables false
set_option linter.unusedSimpArgs false
set_option maxRecDepth 100000

noncomputable def cSt : Code := bodyOf S0 32
def scB : Code → Code
  | .scope c => c
  | c => c
noncomputable def St_0 : Code := (lc cSt)
noncomputable def xSt : Code := scB (rc cSt)
noncomputable def St_1 : Code := lc xSt
noncomputable def St_2 : Code := lc (rc xSt)
noncomputable def St_3 : Code := lc (rc (rc xSt))
noncomputable def St_4 : Code := lc (rc (rc (rc xSt)))
noncomputable def St_5 : Code := lc (lc (rc (rc (rc (rc xSt)))))
noncomputable def St_r : Code := ic (rc (lc (rc (rc (rc (rc xSt))))))
noncomputable def St_6 : Code := rc (rc (rc (rc (rc xSt))))
noncomputable def k_s1 : Code := rgA St_r
noncomputable def k_s2 : Code := rgB St_r
theorem St_eq : cSt = .seq St_0 (.scope (.seq St_1 (.seq St_2 (.seq St_3 (.seq St_4 (.seq (.seq St_5 (.block 0 (.rangeFunc (.tmp 17) #[18] k_s1 k_s2))) St_6)))))) := by kernel_rfl
noncomputable def St_b : Code := ic k_s2
noncomputable def Sb_1 : Code := lc St_b
noncomputable def Sb_2 : Code := lc (rc St_b)
noncomputable def Sb_3 : Code := lc (rc (rc St_b))
noncomputable def Sb_r : Code := ic (rc (rc (rc St_b)))
noncomputable def k_s3 : Code := rgA Sb_r
noncomputable def k_s4 : Code := rgB Sb_r
theorem Sb_eq : k_s2 = .block 1 (.seq Sb_1 (.seq Sb_2 (.seq Sb_3 (.block 2 (.rangeFunc (.tmp 35) #[36] k_s3 k_s4))))) := by kernel_rfl
noncomputable def Sc_b : Code := ic k_s4
noncomputable def Sc_1 : Code := lc Sc_b
noncomputable def Sc_r : Code := ic (rc Sc_b)
noncomputable def k_s5 : Code := rgA Sc_r
noncomputable def k_s6 : Code := rgB Sc_r
theorem Sc_eq : k_s4 = .block 3 (.seq Sc_1 (.block 4 (.rangeFunc (.tmp 39) #[40] k_s5 k_s6))) := by kernel_rfl
noncomputable def cQh : Code := bodyOf S0 54
noncomputable def Qh_0 : Code := (lc cQh)
noncomputable def Qh_1 : Code := (lc (rc cQh))
noncomputable def Qh_r : Code := (ic (rc (rc cQh)))
noncomputable def k_q1 : Code := rgA Qh_r
noncomputable def k_q2 : Code := rgB Qh_r
theorem Qh_eq : cQh = (.seq Qh_0 (.seq Qh_1 (.block 0 (.rangeFunc (.tmp 6) #[7] k_q1 k_q2)))) := by kernel_rfl
noncomputable def Qb_1 : Code := lc (ic k_q2)
noncomputable def Qb_2 : Code := rc (ic k_q2)
theorem Qb_eq : k_q2 = .block 1 (.seq Qb_1 Qb_2) := by kernel_rfl

def pW (w : Nat → Int) : List Value := [U (w 0), U (w 1), U (w 2), U (w 3), U (w 4), U (w 5), U (w 6), U (w 7), U (w 8), U (w 9)]
noncomputable def tSu (n : Int) (w : Nat → Int) (q : Int → Bool) (fo : Int → Int) : Tbl := tcons 36 (ePW (I n :: pW w) fun s => U (fo s)) (tIs n (pW w) q)
def oP (n : Int) (w : Nat → Int) (i : Nat) : Option AObj := some (.cells (I n :: pW w) 54 i 0)
def oG (x : Int) (i : Nat) : Option AObj := some (.cells [U x] 51 i 0)
def o5 (f0 f1 f2 f3 f4 : Int) (i : Nat) : Option AObj := some (.cells [I f0, I f1, I f2, I f3, I f4] 43 i 0)
def lvS : List Nat := [2, 3, 4, 6, 7, 8, 17]
def flS : List Fl := [.t, .t, .t, .t, .t, .t, .t, .t]
def vS : OV := [some (P0 0), some (P0 1), some (P0 2), some (P0 3), some (P0 4), some (P0 5), some (.func (.func 49) ⟨[]⟩ ⟨[P0 6]⟩)]
def oS (n : Int) (w : Nat → Int) (seats A f0 f1 f2 f3 f4 : Int) (b : Bool) : OO := [oP n w 0, some (.cells [I seats] 3 1 0), o5 0 0 0 0 0 2, some (.cells [.func (.func 53) ⟨[]⟩ ⟨[P0 7]⟩] 84 3 0), o5 f0 f1 f2 f3 f4 4, some (.cells [.bool b] 4 5 0), oG A 6, some (.cells [.func (.func 36) ⟨[.agg ⟨I n :: pW w⟩]⟩ ⟨[]⟩] 69 7 0)]
noncomputable def r1 (st : LoopState) (pend : Option Code) : AObj := .loop st pend 1752347058175 ⟨[], bT lvS vS .nil⟩ 52 #[18] k_s1 k_s2 8
noncomputable def oS10 (n : Int) (w : Nat → Int) (seats A f0 f1 f2 f3 f4 : Int) (b : Bool) (st : LoopState) (pend : Option Code) : OO := oS n w seats A f0 f1 f2 f3 f4 b ++ [some .defd, some (r1 st pend)]
def fl10 : List Fl := flS ++ [.t, .l lvS]
def lvB : List Nat := [2, 3, 6, 7, 8, 9]
def lv2 : List Nat := [2, 6, 7, 8, 9, 10, 35]
abbrev fQh (i j : Nat) : Value := .func (.func 54) ⟨[]⟩ ⟨[P0 i, P0 j]⟩
abbrev fGo (i : Nat) : Value := .func (.func 49) ⟨[]⟩ ⟨[P0 i]⟩
def v2 : OV := [some (P0 0), some (P0 3), some (P0 4), some (P0 5), some (P0 10), some (P0 11), some (fQh 12 13)]
noncomputable def r2 (st : LoopState) (pend : Option Code) : AObj := .loop st pend 1752347058175 ⟨[], bT lv2 v2 .nil⟩ 52 #[36] k_s3 k_s4 8
noncomputable def o15 (n : Int) (w : Nat → Int) (seats A x y f0 f1 f2 f3 f4 : Int) (b : Bool) (st : LoopState) (pend : Option Code) : OO := oS10 n w seats A f0 f1 f2 f3 f4 b .busy none ++ [oG x 10, oG y 11, oG y 12, oP n w 13, some (r2 st pend)]
def fl15 : List Fl := fl10 ++ [.t, .t, .t, .t, .l lv2]
def oY (l i : Nat) : Option AObj := some (.cells [fY l] 58 i 0)
def lvq : List Nat := [2, 3, 6]
def vq (i j k : Nat) : OV := [some (P0 i), some (P0 j), some (fGo k)]
noncomputable def rq (i j k d : Nat) (st : LoopState) (pend : Option Code) : AObj := .loop st pend 223 ⟨[], bT lvq (vq i j k) .nil⟩ 21 #[7] k_q1 k_q2 d
noncomputable def o19 (n : Int) (w : Nat → Int) (seats A x y f0 f1 f2 f3 f4 : Int) (b : Bool) (st : LoopState) (pend : Option Code) (st' : LoopState) (pend' : Option Code) : OO := o15 n w seats A x y f0 f1 f2 f3 f4 b st pend ++ [oY 14 15, oG y 16, some .defd, some (rq 13 15 16 17 st' pend')]
def fl19 : List Fl := fl15 ++ [.t, .t, .t, .l lvq]
def lvC : List Nat := [2, 6, 7, 8, 9, 10, 11]
def lv3 : List Nat := [6, 7, 8, 9, 11, 39]
def v3 : OV := [some (P0 3), some (P0 4), some (P0 5), some (P0 10), some (P0 19), some (fQh 20 21)]
noncomputable def r3 (st : LoopState) (pend : Option Code) : AObj := .loop st pend 1752347058175 ⟨[], bT lv3 v3 .nil⟩ 52 #[40] k_s5 k_s6 8
noncomputable def o23 (n : Int) (w : Nat → Int) (seats A x y y1 f0 f1 f2 f3 f4 : Int) (b : Bool) (st : LoopState) (pend : Option Code) : OO := o19 n w seats A x y f0 f1 f2 f3 f4 b .busy none .busy none ++ [oG y1 19, oG y 20, oP n w 21, some (r3 st pend)]
def fl23 : List Fl := fl19 ++ [.t, .t, .t, .l lv3]
noncomputable def o27 (n : Int) (w : Nat → Int) (seats A x y y1 f0 f1 f2 f3 f4 : Int) (b : Bool) (st : LoopState) (pend : Option Code) (st' : LoopState) (pend' : Option Code) : OO := o23 n w seats A x y y1 f0 f1 f2 f3 f4 b st pend ++ [oY 22 23, oG y 24, some .defd, some (rq 21 23 24 25 st' pend')]
def fl27 : List Fl := fl23 ++ [.t, .t, .t, .l lvq]
noncomputable def endA (i : Nat) (o : AObj) (A : AW) : AW := { A with heap := A.heap.put i (some o) }

theorem suA (r : Mem) (n : Int) (w : Nat → Int) (seats A : Int) (q : Int → Bool) (fo : Int → Int) (K : OV → List Nat → OO → CR) (kx : Nat → KS) (kr : KS) : run (SC r) 1752347058175 52 1 (.seq St_0 (.seq St_1 (.seq St_2 (.seq St_3 (.seq St_4 St_5))))) (lvlT (SC r) (tSu n w q fo) .nil 1 3) none (rbK 0 lvS flS K) kx kr (sc0 1752347058175 [.agg ⟨I n :: pW w⟩, I seats]) (tr0 1752347058175 [.agg ⟨I n :: pW w⟩, I seats]) [] emptyA =
    bif m_same [Value.agg (Array.mk (I n :: pW w))] [Value.agg (Array.mk (I n :: pW w))] then K [some (P0 0), some (P0 1), some (P0 2), some (P0 3), some (P0 4), some (P0 5), some (Value.func (Fn.func 49) (Array.mk []) (Array.mk [P0 6]))] [] [some (AObj.cells (I n :: pW w) 54 0 0), some (AObj.cells [I seats] 3 1 0), some (AObj.cells [I (Int.ofNat 0), I (Int.ofNat 0), I (Int.ofNat 0), I (Int.ofNat 0), I (Int.ofNat 0)] 43 2 0), some (AObj.cells [Value.func (Fn.func 53) (Array.mk []) (Array.mk [P0 7])] 84 3 0), some (AObj.cells [I (Int.ofNat 0), I (Int.ofNat 0), I (Int.ofNat 0), I (Int.ofNat 0), I (Int.ofNat 0)] 43 4 0), some (AObj.cells [Value.bool false] 4 5 0), some (AObj.cells [U (m_all n)] 51 6 0), some (AObj.cells [Value.func (Fn.func 36) (Array.mk [Value.agg (Array.mk (I n :: pW w))]) (Array.mk [])] 69 7 0)] else CR.fail 420 := by kernel_rfl

theorem suB (r : Mem) (n : Int) (w : Nat → Int) (seats A : Int) (x : Int) (fs : FnsC) (K : OV → List Nat → OO → CR) (kx : Nat → KS) (kr : KS) : run (SC r) 1752347058175 52 1 k_s1 fs (some 9) (begK 9 (rbK 10 lvB fl10 K)) kx kr [] (bT (lvS ++ [18]) (vS ++ [some (U x)]) .nil) [] (mkA (oS10 n w seats A 0 0 0 0 0 false .ready none)) =
    K [some (P0 0), some (P0 1), some (P0 3), some (P0 4), some (P0 5), some (P0 10)] [] [some (AObj.cells (I n :: pW w) 54 0 0), some (AObj.cells [I seats] 3 1 0), some (AObj.cells [I (Int.ofNat 0), I (Int.ofNat 0), I (Int.ofNat 0), I (Int.ofNat 0), I (Int.ofNat 0)] 43 2 0), some (AObj.cells [Value.func (Fn.func 53) (Array.mk []) (Array.mk [P0 7])] 84 3 0), some (AObj.cells [I (Int.ofNat 0), I (Int.ofNat 0), I (Int.ofNat 0), I (Int.ofNat 0), I (Int.ofNat 0)] 43 4 0), some (AObj.cells [Value.bool false] 4 5 0), some (AObj.cells [U A] 51 6 0), some (AObj.cells [Value.func (Fn.func 36) (Array.mk [Value.agg (Array.mk (I n :: pW w))]) (Array.mk [])] 69 7 0), some AObj.defd, some (r1 LoopState.busy none), some (AObj.cells [U x] 51 10 0)] := by kernel_rfl

theorem suC (r : Mem) (n : Int) (w : Nat → Int) (seats A : Int) (x : Int) (q : Int → Bool) (fo : Int → Int) (K : OV → List Nat → OO → CR) (KX : Nat → OV → List Nat → OO → CR) (kr : KS) : run (SC r) 1752347058175 52 1 (.seq Sb_1 (.seq Sb_2 Sb_3)) (lvlT (SC r) (tSu n w q fo) .nil 1 3) (some 9) (rbK 10 [2, 6, 7, 8, 9, 10, 35] (fl10 ++ [.t, .t, .t, .t]) K) (fun i => rbK 10 [] fl10 (KX i)) kr [] (bT lvB [some (P0 0), some (P0 1), some (P0 3), some (P0 4), some (P0 5), some (P0 10)] .nil) [] (mkA (oS10 n w seats A 0 0 0 0 0 false .busy none ++ [oG x 10])) =
    bif m_same [Value.agg (Array.mk (I n :: pW w))] [Value.agg (Array.mk (I n :: pW w))] then bif m_eqv (U x) (U x) then bif m_eqv (U x) (U x) then bif m_eqv (U x) (U x) then bif m_eqv (Value.agg (Array.mk (I n :: pW w))) (Value.agg (Array.mk (I n :: pW w))) then bif m_popG (ibits BinOp.andNot IntKind.u64 (m_all n) x) then bif decide (m_pop (ibits BinOp.andNot IntKind.u64 (m_all n) x) > seats) then bif m_eqv (I seats) (I seats) then bif m_eqv (I seats) (I seats) then bif m_eqv (U (ibits BinOp.andNot IntKind.u64 (m_all n) x)) (U (ibits BinOp.andNot IntKind.u64 (m_all n) x)) then KX 1 [] [] [some (AObj.cells (I n :: pW w) 54 0 0), some (AObj.cells [I seats] 3 1 0), some (AObj.cells [I (Int.ofNat 0), I (Int.ofNat 0), I (Int.ofNat 0), I (Int.ofNat 0), I (Int.ofNat 0)] 43 2 0), some (AObj.cells [Value.func (Fn.func 53) (Array.mk []) (Array.mk [P0 7])] 84 3 0), some (AObj.cells [I (Int.ofNat 0), I (Int.ofNat 0), I (Int.ofNat 0), I (Int.ofNat 0), I (Int.ofNat 0)] 43 4 0), some (AObj.cells [Value.bool false] 4 5 0), some (AObj.cells [U A] 51 6 0), some (AObj.cells [Value.func (Fn.func 36) (Array.mk [Value.agg (Array.mk (I n :: pW w))]) (Array.mk [])] 69 7 0), some AObj.defd, some (r1 LoopState.busy none)] else CR.fail 420 else CR.fail 420 else CR.fail 420 else bif m_same (I n :: pW w) (I n :: pW w) && m_w10 x then bif q x then bif m_eqv (U x) (U x) then bif m_eqv (Value.agg (Array.mk (I n :: pW w))) (Value.agg (Array.mk (I n :: pW w))) then bif m_eqv (I seats) (I seats) then bif m_eqv (I seats) (I seats) then bif m_eqv (U (ibits BinOp.andNot IntKind.u64 (m_all n) x)) (U (ibits BinOp.andNot IntKind.u64 (m_all n) x)) then K [some (P0 0), some (P0 3), some (P0 4), some (P0 5), some (P0 10), some (P0 11), some (Value.func (Fn.func 54) (Array.mk []) (Array.mk [P0 12, P0 13]))] [] [some (AObj.cells (I n :: pW w) 54 0 0), some (AObj.cells [I seats] 3 1 0), some (AObj.cells [I (Int.ofNat 0), I (Int.ofNat 0), I (Int.ofNat 0), I (Int.ofNat 0), I (Int.ofNat 0)] 43 2 0), some (AObj.cells [Value.func (Fn.func 53) (Array.mk []) (Array.mk [P0 7])] 84 3 0), some (AObj.cells [I (Int.ofNat 0), I (Int.ofNat 0), I (Int.ofNat 0), I (Int.ofNat 0), I (Int.ofNat 0)] 43 4 0), some (AObj.cells [Value.bool false] 4 5 0), some (AObj.cells [U A] 51 6 0), some (AObj.cells [Value.func (Fn.func 36) (Array.mk [Value.agg (Array.mk (I n :: pW w))]) (Array.mk [])] 69 7 0), some AObj.defd, some (r1 LoopState.busy none), some (AObj.cells [U x] 51 10 0), some (AObj.cells [U (ibits BinOp.andNot IntKind.u64 (m_all n) x)] 51 11 0), some (AObj.cells [U (ibits BinOp.andNot IntKind.u64 (m_all n) x)] 51 12 0), some (AObj.cells (I n :: pW w) 54 13 0)] else CR.fail 420 else CR.fail 420 else CR.fail 420 else CR.fail 420 else CR.fail 420 else bif m_eqv (U x) (U x) then bif m_eqv (Value.agg (Array.mk (I n :: pW w))) (Value.agg (Array.mk (I n :: pW w))) then bif m_eqv (I seats) (I seats) then bif m_eqv (I seats) (I seats) then bif m_eqv (U (ibits BinOp.andNot IntKind.u64 (m_all n) x)) (U (ibits BinOp.andNot IntKind.u64 (m_all n) x)) then KX 1 [] [] [some (AObj.cells (I n :: pW w) 54 0 0), some (AObj.cells [I seats] 3 1 0), some (AObj.cells [I (Int.ofNat 0), I (Int.ofNat 0), I (Int.ofNat 0), I (Int.ofNat 0), I (Int.ofNat 0)] 43 2 0), some (AObj.cells [Value.func (Fn.func 53) (Array.mk []) (Array.mk [P0 7])] 84 3 0), some (AObj.cells [I (Int.ofNat 0), I (Int.ofNat 0), I (Int.ofNat 0), I (Int.ofNat 0), I (Int.ofNat 0)] 43 4 0), some (AObj.cells [Value.bool false] 4 5 0), some (AObj.cells [U A] 51 6 0), some (AObj.cells [Value.func (Fn.func 36) (Array.mk [Value.agg (Array.mk (I n :: pW w))]) (Array.mk [])] 69 7 0), some AObj.defd, some (r1 LoopState.busy none)] else CR.fail 420 else CR.fail 420 else CR.fail 420 else CR.fail 420 else CR.fail 420 else CR.fail 420 else CR.fail 420 else CR.fail 420 else CR.fail 420 else CR.fail 420 else CR.fail 420 else CR.fail 420 := by kernel_rfl

theorem sq2A (r : Mem) (n : Int) (w : Nat → Int) (seats A : Int) (x y : Int) (K : OV → List Nat → OO → CR) (kx : Nat → KS) (kr : KS) : run (SC r) 223 21 1 (.seq Qh_0 Qh_1) (lvlT (SC r) (fun _ => none) .nil 1 3) none (rbK 15 lvq (fl15 ++ [.t, .t]) K) kx kr (sc0 223 [fY 14, P0 12, P0 13]) (tr0 223 [fY 14, P0 12, P0 13]) [] (mkA (o15 n w seats A x y 0 0 0 0 0 false .ready none)) =
    K [some (P0 13), some (P0 15), some (Value.func (Fn.func 49) (Array.mk []) (Array.mk [P0 16]))] [] [some (AObj.cells (I n :: pW w) 54 0 0), some (AObj.cells [I seats] 3 1 0), some (AObj.cells [I (Int.ofNat 0), I (Int.ofNat 0), I (Int.ofNat 0), I (Int.ofNat 0), I (Int.ofNat 0)] 43 2 0), some (AObj.cells [Value.func (Fn.func 53) (Array.mk []) (Array.mk [P0 7])] 84 3 0), some (AObj.cells [I (Int.ofNat 0), I (Int.ofNat 0), I (Int.ofNat 0), I (Int.ofNat 0), I (Int.ofNat 0)] 43 4 0), some (AObj.cells [Value.bool false] 4 5 0), some (AObj.cells [U A] 51 6 0), some (AObj.cells [Value.func (Fn.func 36) (Array.mk [Value.agg (Array.mk (I n :: pW w))]) (Array.mk [])] 69 7 0), some AObj.defd, some (r1 LoopState.busy none), some (AObj.cells [U x] 51 10 0), some (AObj.cells [U y] 51 11 0), some (AObj.cells [U y] 51 12 0), some (AObj.cells (I n :: pW w) 54 13 0), some (r2 LoopState.ready none), some (AObj.cells [Value.func (Fn.yield 14) (Array.mk []) (Array.mk [])] 58 15 0), some (AObj.cells [U y] 51 16 0)] := by kernel_rfl

theorem sq2B (r : Mem) (n : Int) (w : Nat → Int) (seats A : Int) (x y : Int) (t : Int) (fs : FnsC) (K : OV → List Nat → OO → CR) (kx : Nat → KS) (kr : KS) : run (SC r) 223 21 1 k_q1 fs (some 18) (begK 18 (rbK 19 [2, 3, 4] fl19 K)) kx kr [] (bT (lvq ++ [7]) ((vq 13 15 16) ++ [some (U t)]) .nil) [] (mkA (o19 n w seats A x y 0 0 0 0 0 false .ready none .ready none)) =
    K [some (P0 13), some (P0 15), some (U t)] [] [some (AObj.cells (I n :: pW w) 54 0 0), some (AObj.cells [I seats] 3 1 0), some (AObj.cells [I (Int.ofNat 0), I (Int.ofNat 0), I (Int.ofNat 0), I (Int.ofNat 0), I (Int.ofNat 0)] 43 2 0), some (AObj.cells [Value.func (Fn.func 53) (Array.mk []) (Array.mk [P0 7])] 84 3 0), some (AObj.cells [I (Int.ofNat 0), I (Int.ofNat 0), I (Int.ofNat 0), I (Int.ofNat 0), I (Int.ofNat 0)] 43 4 0), some (AObj.cells [Value.bool false] 4 5 0), some (AObj.cells [U A] 51 6 0), some (AObj.cells [Value.func (Fn.func 36) (Array.mk [Value.agg (Array.mk (I n :: pW w))]) (Array.mk [])] 69 7 0), some AObj.defd, some (r1 LoopState.busy none), some (AObj.cells [U x] 51 10 0), some (AObj.cells [U y] 51 11 0), some (AObj.cells [U y] 51 12 0), some (AObj.cells (I n :: pW w) 54 13 0), some (r2 LoopState.ready none), some (AObj.cells [Value.func (Fn.yield 14) (Array.mk []) (Array.mk [])] 58 15 0), some (AObj.cells [U y] 51 16 0), some AObj.defd, some (rq 13 15 16 17 LoopState.busy none)] := by kernel_rfl

theorem sq2C (r : Mem) (n : Int) (w : Nat → Int) (seats A : Int) (x y : Int) (t : Int) (q : Int → Bool) (fo : Int → Int) (K : OV → List Nat → OO → CR) (kx : Nat → KS) (KR : OV → List Nat → OO → CR) : run (SC r) 223 21 1 (.seq Qb_1 Qb_2) (lvlT (SC r) (tSu n w q fo) .nil 1 0) (some 18) (rbK 19 [] fl19 K) kx (rbK 19 [] fl19 KR) [] (bT [2, 3, 4] [some (P0 13), some (P0 15), some (U t)] .nil) [] (mkA (o19 n w seats A x y 0 0 0 0 0 false .ready none .busy none)) =
    bif t != Int.ofNat 0 then bif m_same (I n :: pW w) (I n :: pW w) && m_w10 t then bif q t then CR.fail 401 else K [] [] [some (AObj.cells (I n :: pW w) 54 0 0), some (AObj.cells [I seats] 3 1 0), some (AObj.cells [I (Int.ofNat 0), I (Int.ofNat 0), I (Int.ofNat 0), I (Int.ofNat 0), I (Int.ofNat 0)] 43 2 0), some (AObj.cells [Value.func (Fn.func 53) (Array.mk []) (Array.mk [P0 7])] 84 3 0), some (AObj.cells [I (Int.ofNat 0), I (Int.ofNat 0), I (Int.ofNat 0), I (Int.ofNat 0), I (Int.ofNat 0)] 43 4 0), some (AObj.cells [Value.bool false] 4 5 0), some (AObj.cells [U A] 51 6 0), some (AObj.cells [Value.func (Fn.func 36) (Array.mk [Value.agg (Array.mk (I n :: pW w))]) (Array.mk [])] 69 7 0), some AObj.defd, some (r1 LoopState.busy none), some (AObj.cells [U x] 51 10 0), some (AObj.cells [U y] 51 11 0), some (AObj.cells [U y] 51 12 0), some (AObj.cells (I n :: pW w) 54 13 0), some (r2 LoopState.ready none), some (AObj.cells [Value.func (Fn.yield 14) (Array.mk []) (Array.mk [])] 58 15 0), some (AObj.cells [U y] 51 16 0), some AObj.defd, some (rq 13 15 16 17 LoopState.busy none)] else CR.fail 420 else K [] [] [some (AObj.cells (I n :: pW w) 54 0 0), some (AObj.cells [I seats] 3 1 0), some (AObj.cells [I (Int.ofNat 0), I (Int.ofNat 0), I (Int.ofNat 0), I (Int.ofNat 0), I (Int.ofNat 0)] 43 2 0), some (AObj.cells [Value.func (Fn.func 53) (Array.mk []) (Array.mk [P0 7])] 84 3 0), some (AObj.cells [I (Int.ofNat 0), I (Int.ofNat 0), I (Int.ofNat 0), I (Int.ofNat 0), I (Int.ofNat 0)] 43 4 0), some (AObj.cells [Value.bool false] 4 5 0), some (AObj.cells [U A] 51 6 0), some (AObj.cells [Value.func (Fn.func 36) (Array.mk [Value.agg (Array.mk (I n :: pW w))]) (Array.mk [])] 69 7 0), some AObj.defd, some (r1 LoopState.busy none), some (AObj.cells [U x] 51 10 0), some (AObj.cells [U y] 51 11 0), some (AObj.cells [U y] 51 12 0), some (AObj.cells (I n :: pW w) 54 13 0), some (r2 LoopState.ready none), some (AObj.cells [Value.func (Fn.yield 14) (Array.mk []) (Array.mk [])] 58 15 0), some (AObj.cells [U y] 51 16 0), some AObj.defd, some (rq 13 15 16 17 LoopState.busy none)] := by kernel_rfl

theorem sq2D (r : Mem) (n : Int) (w : Nat → Int) (seats A : Int) (x y : Int) (t : Int) (q : Int → Bool) (fo : Int → Int) (K : KS) : preK (SC r) 223 21 Qb_1 10 (lvlT (SC r) (tSu n w q fo) .nil 1 1) K [] (bT [2, 3, 4] [some (P0 13), some (P0 15), some (U t)] .nil) [] (mkA (o19 n w seats A x y 0 0 0 0 0 false .ready none .busy none)) =
    bif t != Int.ofNat 0 then bif m_same (I n :: pW w) (I n :: pW w) && m_w10 t then bif q t then K [(17, U t), (16, Value.func (Fn.yield 14) (Array.mk []) (Array.mk [])), (15, Value.bool true), (14, Value.bool true), (13, Value.bool true), (12, U t), (11, Value.agg (Array.mk (I n :: pW w))), (10, Value.bool true), (9, Value.bool true), (8, U t)] (Tr.node (Tr.node (Tr.node Tr.nil (some (P0 15)) Tr.nil) none Tr.nil) none (Tr.node (Tr.node Tr.nil (some (U t)) Tr.nil) (some (P0 13)) Tr.nil)) [] (AW.mk 19 (Tr.node (Tr.node (Tr.node (Tr.node (Tr.node Tr.nil (some (AObj.cells [Value.func (Fn.yield 14) (Array.mk []) (Array.mk [])] 58 15 0)) Tr.nil) (some (AObj.cells [Value.func (Fn.func 36) (Array.mk [Value.agg (Array.mk (I n :: pW w))]) (Array.mk [])] 69 7 0)) Tr.nil) (some (AObj.cells [Value.func (Fn.func 53) (Array.mk []) (Array.mk [P0 7])] 84 3 0)) (Tr.node Tr.nil (some (AObj.cells [U y] 51 11 0)) Tr.nil)) (some (AObj.cells [I seats] 3 1 0)) (Tr.node (Tr.node (Tr.node Tr.nil (some AObj.defd) Tr.nil) (some (r1 LoopState.busy none)) Tr.nil) (some (AObj.cells [Value.bool false] 4 5 0)) (Tr.node Tr.nil (some (AObj.cells (I n :: pW w) 54 13 0)) Tr.nil))) (some (AObj.cells (I n :: pW w) 54 0 0)) (Tr.node (Tr.node (Tr.node (Tr.node Tr.nil (some (AObj.cells [U y] 51 16 0)) Tr.nil) (some AObj.defd) Tr.nil) (some (AObj.cells [I (Int.ofNat 0), I (Int.ofNat 0), I (Int.ofNat 0), I (Int.ofNat 0), I (Int.ofNat 0)] 43 4 0)) (Tr.node Tr.nil (some (AObj.cells [U y] 51 12 0)) Tr.nil)) (some (AObj.cells [I (Int.ofNat 0), I (Int.ofNat 0), I (Int.ofNat 0), I (Int.ofNat 0), I (Int.ofNat 0)] 43 2 0)) (Tr.node (Tr.node (Tr.node Tr.nil (some (rq 13 15 16 17 LoopState.busy none)) Tr.nil) (some (AObj.cells [U x] 51 10 0)) Tr.nil) (some (AObj.cells [U A] 51 6 0)) (Tr.node Tr.nil (some (r2 LoopState.ready none)) Tr.nil)))) Tr.nil) else K [(17, Value.tuple (Array.mk [])), (16, Value.tuple (Array.mk [])), (15, Value.bool false), (14, Value.bool false), (13, Value.bool false), (12, U t), (11, Value.agg (Array.mk (I n :: pW w))), (10, Value.bool true), (9, Value.bool true), (8, U t)] (Tr.node (Tr.node (Tr.node Tr.nil (some (P0 15)) Tr.nil) none Tr.nil) none (Tr.node (Tr.node Tr.nil (some (U t)) Tr.nil) (some (P0 13)) Tr.nil)) [] (AW.mk 19 (Tr.node (Tr.node (Tr.node (Tr.node (Tr.node Tr.nil (some (AObj.cells [Value.func (Fn.yield 14) (Array.mk []) (Array.mk [])] 58 15 0)) Tr.nil) (some (AObj.cells [Value.func (Fn.func 36) (Array.mk [Value.agg (Array.mk (I n :: pW w))]) (Array.mk [])] 69 7 0)) Tr.nil) (some (AObj.cells [Value.func (Fn.func 53) (Array.mk []) (Array.mk [P0 7])] 84 3 0)) (Tr.node Tr.nil (some (AObj.cells [U y] 51 11 0)) Tr.nil)) (some (AObj.cells [I seats] 3 1 0)) (Tr.node (Tr.node (Tr.node Tr.nil (some AObj.defd) Tr.nil) (some (r1 LoopState.busy none)) Tr.nil) (some (AObj.cells [Value.bool false] 4 5 0)) (Tr.node Tr.nil (some (AObj.cells (I n :: pW w) 54 13 0)) Tr.nil))) (some (AObj.cells (I n :: pW w) 54 0 0)) (Tr.node (Tr.node (Tr.node (Tr.node Tr.nil (some (AObj.cells [U y] 51 16 0)) Tr.nil) (some AObj.defd) Tr.nil) (some (AObj.cells [I (Int.ofNat 0), I (Int.ofNat 0), I (Int.ofNat 0), I (Int.ofNat 0), I (Int.ofNat 0)] 43 4 0)) (Tr.node Tr.nil (some (AObj.cells [U y] 51 12 0)) Tr.nil)) (some (AObj.cells [I (Int.ofNat 0), I (Int.ofNat 0), I (Int.ofNat 0), I (Int.ofNat 0), I (Int.ofNat 0)] 43 2 0)) (Tr.node (Tr.node (Tr.node Tr.nil (some (rq 13 15 16 17 LoopState.busy none)) Tr.nil) (some (AObj.cells [U x] 51 10 0)) Tr.nil) (some (AObj.cells [U A] 51 6 0)) (Tr.node Tr.nil (some (r2 LoopState.ready none)) Tr.nil)))) Tr.nil) else CR.fail 420 else K [(17, Value.tuple (Array.mk [])), (16, Value.tuple (Array.mk [])), (15, Value.bool false), (14, Value.bool false), (13, Value.tuple (Array.mk [])), (12, Value.tuple (Array.mk [])), (11, Value.tuple (Array.mk [])), (10, Value.bool false), (9, Value.bool false), (8, U t)] (Tr.node (Tr.node (Tr.node Tr.nil (some (P0 15)) Tr.nil) none Tr.nil) none (Tr.node (Tr.node Tr.nil (some (U t)) Tr.nil) (some (P0 13)) Tr.nil)) [] (AW.mk 19 (Tr.node (Tr.node (Tr.node (Tr.node (Tr.node Tr.nil (some (AObj.cells [Value.func (Fn.yield 14) (Array.mk []) (Array.mk [])] 58 15 0)) Tr.nil) (some (AObj.cells [Value.func (Fn.func 36) (Array.mk [Value.agg (Array.mk (I n :: pW w))]) (Array.mk [])] 69 7 0)) Tr.nil) (some (AObj.cells [Value.func (Fn.func 53) (Array.mk []) (Array.mk [P0 7])] 84 3 0)) (Tr.node Tr.nil (some (AObj.cells [U y] 51 11 0)) Tr.nil)) (some (AObj.cells [I seats] 3 1 0)) (Tr.node (Tr.node (Tr.node Tr.nil (some AObj.defd) Tr.nil) (some (r1 LoopState.busy none)) Tr.nil) (some (AObj.cells [Value.bool false] 4 5 0)) (Tr.node Tr.nil (some (AObj.cells (I n :: pW w) 54 13 0)) Tr.nil))) (some (AObj.cells (I n :: pW w) 54 0 0)) (Tr.node (Tr.node (Tr.node (Tr.node Tr.nil (some (AObj.cells [U y] 51 16 0)) Tr.nil) (some AObj.defd) Tr.nil) (some (AObj.cells [I (Int.ofNat 0), I (Int.ofNat 0), I (Int.ofNat 0), I (Int.ofNat 0), I (Int.ofNat 0)] 43 4 0)) (Tr.node Tr.nil (some (AObj.cells [U y] 51 12 0)) Tr.nil)) (some (AObj.cells [I (Int.ofNat 0), I (Int.ofNat 0), I (Int.ofNat 0), I (Int.ofNat 0), I (Int.ofNat 0)] 43 2 0)) (Tr.node (Tr.node (Tr.node Tr.nil (some (rq 13 15 16 17 LoopState.busy none)) Tr.nil) (some (AObj.cells [U x] 51 10 0)) Tr.nil) (some (AObj.cells [U A] 51 6 0)) (Tr.node Tr.nil (some (r2 LoopState.ready none)) Tr.nil)))) Tr.nil) := by kernel_rfl

theorem sq2T (r : Mem) (n : Int) (w : Nat → Int) (seats A : Int) (x y : Int) (K : OV → List Nat → OO → CR) (kx : Nat → KS) (kr : KS) : tailRK 18 ⟨[], bT lvq (vq 13 15 16) .nil⟩ [17] (rbK 15 [] fl15 K) kx kr (mkA (o19 n w seats A x y 0 0 0 0 0 false .ready none .ready none)) =
    K [] [] [some (AObj.cells (I n :: pW w) 54 0 0), some (AObj.cells [I seats] 3 1 0), some (AObj.cells [I (Int.ofNat 0), I (Int.ofNat 0), I (Int.ofNat 0), I (Int.ofNat 0), I (Int.ofNat 0)] 43 2 0), some (AObj.cells [Value.func (Fn.func 53) (Array.mk []) (Array.mk [P0 7])] 84 3 0), some (AObj.cells [I (Int.ofNat 0), I (Int.ofNat 0), I (Int.ofNat 0), I (Int.ofNat 0), I (Int.ofNat 0)] 43 4 0), some (AObj.cells [Value.bool false] 4 5 0), some (AObj.cells [U A] 51 6 0), some (AObj.cells [Value.func (Fn.func 36) (Array.mk [Value.agg (Array.mk (I n :: pW w))]) (Array.mk [])] 69 7 0), some AObj.defd, some (r1 LoopState.busy none), some (AObj.cells [U x] 51 10 0), some (AObj.cells [U y] 51 11 0), some (AObj.cells [U y] 51 12 0), some (AObj.cells (I n :: pW w) 54 13 0), some (r2 LoopState.ready none)] := by kernel_rfl

theorem sq2U (r : Mem) (n : Int) (w : Nat → Int) (seats A : Int) (x y : Int) (f0 f1 f2 f3 f4 : Int) (k : KS) (kx : Nat → KS) (KR : OV → List Nat → OO → CR) : tailRK 18 ⟨[], bT lvq (vq 13 15 16) .nil⟩ [17] k kx (rbK 15 [] fl15 KR) (mkA (o19 n w seats A x y f0 f1 f2 f3 f4 true .done (some (.exit 0)) .done (some .ret))) =
    KR [] [] [some (AObj.cells (I n :: pW w) 54 0 0), some (AObj.cells [I seats] 3 1 0), some (AObj.cells [I (Int.ofNat 0), I (Int.ofNat 0), I (Int.ofNat 0), I (Int.ofNat 0), I (Int.ofNat 0)] 43 2 0), some (AObj.cells [Value.func (Fn.func 53) (Array.mk []) (Array.mk [P0 7])] 84 3 0), some (AObj.cells [I f0, I f1, I f2, I f3, I f4] 43 4 0), some (AObj.cells [Value.bool true] 4 5 0), some (AObj.cells [U A] 51 6 0), some (AObj.cells [Value.func (Fn.func 36) (Array.mk [Value.agg (Array.mk (I n :: pW w))]) (Array.mk [])] 69 7 0), some AObj.defd, some (r1 LoopState.busy none), some (AObj.cells [U x] 51 10 0), some (AObj.cells [U y] 51 11 0), some (AObj.cells [U y] 51 12 0), some (AObj.cells (I n :: pW w) 54 13 0), some (r2 LoopState.done (some (Code.exit 0)))] := by kernel_rfl

theorem sq3A (r : Mem) (n : Int) (w : Nat → Int) (seats A : Int) (x y y1 : Int) (K : OV → List Nat → OO → CR) (kx : Nat → KS) (kr : KS) : run (SC r) 223 21 1 (.seq Qh_0 Qh_1) (lvlT (SC r) (fun _ => none) .nil 1 3) none (rbK 23 lvq (fl23 ++ [.t, .t]) K) kx kr (sc0 223 [fY 22, P0 20, P0 21]) (tr0 223 [fY 22, P0 20, P0 21]) [] (mkA (o23 n w seats A x y y1 0 0 0 0 0 false .ready none)) =
    K [some (P0 21), some (P0 23), some (Value.func (Fn.func 49) (Array.mk []) (Array.mk [P0 24]))] [] [some (AObj.cells (I n :: pW w) 54 0 0), some (AObj.cells [I seats] 3 1 0), some (AObj.cells [I (Int.ofNat 0), I (Int.ofNat 0), I (Int.ofNat 0), I (Int.ofNat 0), I (Int.ofNat 0)] 43 2 0), some (AObj.cells [Value.func (Fn.func 53) (Array.mk []) (Array.mk [P0 7])] 84 3 0), some (AObj.cells [I (Int.ofNat 0), I (Int.ofNat 0), I (Int.ofNat 0), I (Int.ofNat 0), I (Int.ofNat 0)] 43 4 0), some (AObj.cells [Value.bool false] 4 5 0), some (AObj.cells [U A] 51 6 0), some (AObj.cells [Value.func (Fn.func 36) (Array.mk [Value.agg (Array.mk (I n :: pW w))]) (Array.mk [])] 69 7 0), some AObj.defd, some (r1 LoopState.busy none), some (AObj.cells [U x] 51 10 0), some (AObj.cells [U y] 51 11 0), some (AObj.cells [U y] 51 12 0), some (AObj.cells (I n :: pW w) 54 13 0), some (r2 LoopState.busy none), some (AObj.cells [Value.func (Fn.yield 14) (Array.mk []) (Array.mk [])] 58 15 0), some (AObj.cells [U y] 51 16 0), some AObj.defd, some (rq 13 15 16 17 LoopState.busy none), some (AObj.cells [U y1] 51 19 0), some (AObj.cells [U y] 51 20 0), some (AObj.cells (I n :: pW w) 54 21 0), some (r3 LoopState.ready none), some (AObj.cells [Value.func (Fn.yield 22) (Array.mk []) (Array.mk [])] 58 23 0), some (AObj.cells [U y] 51 24 0)] := by kernel_rfl

theorem sq3B (r : Mem) (n : Int) (w : Nat → Int) (seats A : Int) (x y y1 : Int) (t : Int) (fs : FnsC) (K : OV → List Nat → OO → CR) (kx : Nat → KS) (kr : KS) : run (SC r) 223 21 1 k_q1 fs (some 26) (begK 26 (rbK 27 [2, 3, 4] fl27 K)) kx kr [] (bT (lvq ++ [7]) ((vq 21 23 24) ++ [some (U t)]) .nil) [] (mkA (o27 n w seats A x y y1 0 0 0 0 0 false .ready none .ready none)) =
    K [some (P0 21), some (P0 23), some (U t)] [] [some (AObj.cells (I n :: pW w) 54 0 0), some (AObj.cells [I seats] 3 1 0), some (AObj.cells [I (Int.ofNat 0), I (Int.ofNat 0), I (Int.ofNat 0), I (Int.ofNat 0), I (Int.ofNat 0)] 43 2 0), some (AObj.cells [Value.func (Fn.func 53) (Array.mk []) (Array.mk [P0 7])] 84 3 0), some (AObj.cells [I (Int.ofNat 0), I (Int.ofNat 0), I (Int.ofNat 0), I (Int.ofNat 0), I (Int.ofNat 0)] 43 4 0), some (AObj.cells [Value.bool false] 4 5 0), some (AObj.cells [U A] 51 6 0), some (AObj.cells [Value.func (Fn.func 36) (Array.mk [Value.agg (Array.mk (I n :: pW w))]) (Array.mk [])] 69 7 0), some AObj.defd, some (r1 LoopState.busy none), some (AObj.cells [U x] 51 10 0), some (AObj.cells [U y] 51 11 0), some (AObj.cells [U y] 51 12 0), some (AObj.cells (I n :: pW w) 54 13 0), some (r2 LoopState.busy none), some (AObj.cells [Value.func (Fn.yield 14) (Array.mk []) (Array.mk [])] 58 15 0), some (AObj.cells [U y] 51 16 0), some AObj.defd, some (rq 13 15 16 17 LoopState.busy none), some (AObj.cells [U y1] 51 19 0), some (AObj.cells [U y] 51 20 0), some (AObj.cells (I n :: pW w) 54 21 0), some (r3 LoopState.ready none), some (AObj.cells [Value.func (Fn.yield 22) (Array.mk []) (Array.mk [])] 58 23 0), some (AObj.cells [U y] 51 24 0), some AObj.defd, some (rq 21 23 24 25 LoopState.busy none)] := by kernel_rfl

theorem sq3C (r : Mem) (n : Int) (w : Nat → Int) (seats A : Int) (x y y1 : Int) (t : Int) (q : Int → Bool) (fo : Int → Int) (K : OV → List Nat → OO → CR) (kx : Nat → KS) (KR : OV → List Nat → OO → CR) : run (SC r) 223 21 1 (.seq Qb_1 Qb_2) (lvlT (SC r) (tSu n w q fo) .nil 1 5) (some 26) (rbK 27 [] fl27 K) kx (rbK 27 [] fl27 KR) [] (bT [2, 3, 4] [some (P0 21), some (P0 23), some (U t)] .nil) [] (mkA (o27 n w seats A x y y1 0 0 0 0 0 false .ready none .busy none)) =
    bif t != Int.ofNat 0 then bif m_same (I n :: pW w) (I n :: pW w) && m_w10 t then bif q t then bif m_same (I n :: pW w) (I n :: pW w) && m_w10 y1 then bif m_same (I n :: pW w) (I n :: pW w) && m_w10 t then bif m_popG y1 then bif m_popG t then bif m_popG (ibits BinOp.andNot IntKind.u64 (ibits BinOp.andNot IntKind.u64 x (ibits BinOp.andNot IntKind.u64 x (fo y1))) (ibits BinOp.andNot IntKind.u64 (ibits BinOp.andNot IntKind.u64 x (ibits BinOp.andNot IntKind.u64 x (fo y1))) (fo t))) then bif decide (IntKind.wrap IntKind.i64 (m_pop y1 + m_pop t) < m_pop (ibits BinOp.andNot IntKind.u64 (ibits BinOp.andNot IntKind.u64 x (ibits BinOp.andNot IntKind.u64 x (fo y1))) (ibits BinOp.andNot IntKind.u64 (ibits BinOp.andNot IntKind.u64 x (ibits BinOp.andNot IntKind.u64 x (fo y1))) (fo t)))) then K [] [] [some (AObj.cells (I n :: pW w) 54 0 0), some (AObj.cells [I seats] 3 1 0), some (AObj.cells [I (Int.ofNat 0), I (Int.ofNat 0), I (Int.ofNat 0), I (Int.ofNat 0), I (Int.ofNat 0)] 43 2 0), some (AObj.cells [Value.func (Fn.func 53) (Array.mk []) (Array.mk [P0 7])] 84 3 0), some (AObj.cells [I (Int.ofNat 0), I (Int.ofNat 0), I (Int.ofNat 0), I (Int.ofNat 0), I (Int.ofNat 0)] 43 4 0), some (AObj.cells [Value.bool false] 4 5 0), some (AObj.cells [U A] 51 6 0), some (AObj.cells [Value.func (Fn.func 36) (Array.mk [Value.agg (Array.mk (I n :: pW w))]) (Array.mk [])] 69 7 0), some AObj.defd, some (r1 LoopState.busy none), some (AObj.cells [U x] 51 10 0), some (AObj.cells [U y] 51 11 0), some (AObj.cells [U y] 51 12 0), some (AObj.cells (I n :: pW w) 54 13 0), some (r2 LoopState.busy none), some (AObj.cells [Value.func (Fn.yield 14) (Array.mk []) (Array.mk [])] 58 15 0), some (AObj.cells [U y] 51 16 0), some AObj.defd, some (rq 13 15 16 17 LoopState.busy none), some (AObj.cells [U y1] 51 19 0), some (AObj.cells [U y] 51 20 0), some (AObj.cells (I n :: pW w) 54 21 0), some (r3 LoopState.ready none), some (AObj.cells [Value.func (Fn.yield 22) (Array.mk []) (Array.mk [])] 58 23 0), some (AObj.cells [U y] 51 24 0), some AObj.defd, some (rq 21 23 24 25 LoopState.busy none)] else KR [] [] [some (AObj.cells (I n :: pW w) 54 0 0), some (AObj.cells [I seats] 3 1 0), some (AObj.cells [I (Int.ofNat 0), I (Int.ofNat 0), I (Int.ofNat 0), I (Int.ofNat 0), I (Int.ofNat 0)] 43 2 0), some (AObj.cells [Value.func (Fn.func 53) (Array.mk []) (Array.mk [P0 7])] 84 3 0), some (AObj.cells [I (IntKind.wrap IntKind.i64 (ibits BinOp.andNot IntKind.u64 x (fo y1))), I (IntKind.wrap IntKind.i64 (ibits BinOp.andNot IntKind.u64 (ibits BinOp.andNot IntKind.u64 x (ibits BinOp.andNot IntKind.u64 x (fo y1))) (fo t))), I (IntKind.wrap IntKind.i64 (ibits BinOp.andNot IntKind.u64 (ibits BinOp.andNot IntKind.u64 x (ibits BinOp.andNot IntKind.u64 x (fo y1))) (ibits BinOp.andNot IntKind.u64 (ibits BinOp.andNot IntKind.u64 x (ibits BinOp.andNot IntKind.u64 x (fo y1))) (fo t)))), I (IntKind.wrap IntKind.i64 y1), I (IntKind.wrap IntKind.i64 t)] 43 4 0), some (AObj.cells [Value.bool true] 4 5 0), some (AObj.cells [U A] 51 6 0), some (AObj.cells [Value.func (Fn.func 36) (Array.mk [Value.agg (Array.mk (I n :: pW w))]) (Array.mk [])] 69 7 0), some AObj.defd, some (r1 LoopState.busy none), some (AObj.cells [U x] 51 10 0), some (AObj.cells [U y] 51 11 0), some (AObj.cells [U y] 51 12 0), some (AObj.cells (I n :: pW w) 54 13 0), some (r2 LoopState.busy none), some (AObj.cells [Value.func (Fn.yield 14) (Array.mk []) (Array.mk [])] 58 15 0), some (AObj.cells [U y] 51 16 0), some AObj.defd, some (rq 13 15 16 17 LoopState.busy none), some (AObj.cells [U y1] 51 19 0), some (AObj.cells [U y] 51 20 0), some (AObj.cells (I n :: pW w) 54 21 0), some (r3 LoopState.done (some (Code.exit 0))), some (AObj.cells [Value.func (Fn.yield 22) (Array.mk []) (Array.mk [])] 58 23 0), some (AObj.cells [U y] 51 24 0), some AObj.defd, some (rq 21 23 24 25 LoopState.busy none)] else CR.fail 420 else CR.fail 420 else CR.fail 420 else CR.fail 420 else CR.fail 420 else K [] [] [some (AObj.cells (I n :: pW w) 54 0 0), some (AObj.cells [I seats] 3 1 0), some (AObj.cells [I (Int.ofNat 0), I (Int.ofNat 0), I (Int.ofNat 0), I (Int.ofNat 0), I (Int.ofNat 0)] 43 2 0), some (AObj.cells [Value.func (Fn.func 53) (Array.mk []) (Array.mk [P0 7])] 84 3 0), some (AObj.cells [I (Int.ofNat 0), I (Int.ofNat 0), I (Int.ofNat 0), I (Int.ofNat 0), I (Int.ofNat 0)] 43 4 0), some (AObj.cells [Value.bool false] 4 5 0), some (AObj.cells [U A] 51 6 0), some (AObj.cells [Value.func (Fn.func 36) (Array.mk [Value.agg (Array.mk (I n :: pW w))]) (Array.mk [])] 69 7 0), some AObj.defd, some (r1 LoopState.busy none), some (AObj.cells [U x] 51 10 0), some (AObj.cells [U y] 51 11 0), some (AObj.cells [U y] 51 12 0), some (AObj.cells (I n :: pW w) 54 13 0), some (r2 LoopState.busy none), some (AObj.cells [Value.func (Fn.yield 14) (Array.mk []) (Array.mk [])] 58 15 0), some (AObj.cells [U y] 51 16 0), some AObj.defd, some (rq 13 15 16 17 LoopState.busy none), some (AObj.cells [U y1] 51 19 0), some (AObj.cells [U y] 51 20 0), some (AObj.cells (I n :: pW w) 54 21 0), some (r3 LoopState.ready none), some (AObj.cells [Value.func (Fn.yield 22) (Array.mk []) (Array.mk [])] 58 23 0), some (AObj.cells [U y] 51 24 0), some AObj.defd, some (rq 21 23 24 25 LoopState.busy none)] else CR.fail 420 else K [] [] [some (AObj.cells (I n :: pW w) 54 0 0), some (AObj.cells [I seats] 3 1 0), some (AObj.cells [I (Int.ofNat 0), I (Int.ofNat 0), I (Int.ofNat 0), I (Int.ofNat 0), I (Int.ofNat 0)] 43 2 0), some (AObj.cells [Value.func (Fn.func 53) (Array.mk []) (Array.mk [P0 7])] 84 3 0), some (AObj.cells [I (Int.ofNat 0), I (Int.ofNat 0), I (Int.ofNat 0), I (Int.ofNat 0), I (Int.ofNat 0)] 43 4 0), some (AObj.cells [Value.bool false] 4 5 0), some (AObj.cells [U A] 51 6 0), some (AObj.cells [Value.func (Fn.func 36) (Array.mk [Value.agg (Array.mk (I n :: pW w))]) (Array.mk [])] 69 7 0), some AObj.defd, some (r1 LoopState.busy none), some (AObj.cells [U x] 51 10 0), some (AObj.cells [U y] 51 11 0), some (AObj.cells [U y] 51 12 0), some (AObj.cells (I n :: pW w) 54 13 0), some (r2 LoopState.busy none), some (AObj.cells [Value.func (Fn.yield 14) (Array.mk []) (Array.mk [])] 58 15 0), some (AObj.cells [U y] 51 16 0), some AObj.defd, some (rq 13 15 16 17 LoopState.busy none), some (AObj.cells [U y1] 51 19 0), some (AObj.cells [U y] 51 20 0), some (AObj.cells (I n :: pW w) 54 21 0), some (r3 LoopState.ready none), some (AObj.cells [Value.func (Fn.yield 22) (Array.mk []) (Array.mk [])] 58 23 0), some (AObj.cells [U y] 51 24 0), some AObj.defd, some (rq 21 23 24 25 LoopState.busy none)] := by kernel_rfl

theorem sq3T (r : Mem) (n : Int) (w : Nat → Int) (seats A : Int) (x y y1 : Int) (K : OV → List Nat → OO → CR) (kx : Nat → KS) (kr : KS) : tailRK 26 ⟨[], bT lvq (vq 21 23 24) .nil⟩ [25] (rbK 23 [] fl23 K) kx kr (mkA (o27 n w seats A x y y1 0 0 0 0 0 false .ready none .ready none)) =
    K [] [] [some (AObj.cells (I n :: pW w) 54 0 0), some (AObj.cells [I seats] 3 1 0), some (AObj.cells [I (Int.ofNat 0), I (Int.ofNat 0), I (Int.ofNat 0), I (Int.ofNat 0), I (Int.ofNat 0)] 43 2 0), some (AObj.cells [Value.func (Fn.func 53) (Array.mk []) (Array.mk [P0 7])] 84 3 0), some (AObj.cells [I (Int.ofNat 0), I (Int.ofNat 0), I (Int.ofNat 0), I (Int.ofNat 0), I (Int.ofNat 0)] 43 4 0), some (AObj.cells [Value.bool false] 4 5 0), some (AObj.cells [U A] 51 6 0), some (AObj.cells [Value.func (Fn.func 36) (Array.mk [Value.agg (Array.mk (I n :: pW w))]) (Array.mk [])] 69 7 0), some AObj.defd, some (r1 LoopState.busy none), some (AObj.cells [U x] 51 10 0), some (AObj.cells [U y] 51 11 0), some (AObj.cells [U y] 51 12 0), some (AObj.cells (I n :: pW w) 54 13 0), some (r2 LoopState.busy none), some (AObj.cells [Value.func (Fn.yield 14) (Array.mk []) (Array.mk [])] 58 15 0), some (AObj.cells [U y] 51 16 0), some AObj.defd, some (rq 13 15 16 17 LoopState.busy none), some (AObj.cells [U y1] 51 19 0), some (AObj.cells [U y] 51 20 0), some (AObj.cells (I n :: pW w) 54 21 0), some (r3 LoopState.ready none)] := by kernel_rfl

theorem sq3U (r : Mem) (n : Int) (w : Nat → Int) (seats A : Int) (x y y1 : Int) (f0 f1 f2 f3 f4 : Int) (k : KS) (kx : Nat → KS) (KR : OV → List Nat → OO → CR) : tailRK 26 ⟨[], bT lvq (vq 21 23 24) .nil⟩ [25] k kx (rbK 23 [] fl23 KR) (mkA (o27 n w seats A x y y1 f0 f1 f2 f3 f4 true .done (some (.exit 0)) .done (some .ret))) =
    KR [] [] [some (AObj.cells (I n :: pW w) 54 0 0), some (AObj.cells [I seats] 3 1 0), some (AObj.cells [I (Int.ofNat 0), I (Int.ofNat 0), I (Int.ofNat 0), I (Int.ofNat 0), I (Int.ofNat 0)] 43 2 0), some (AObj.cells [Value.func (Fn.func 53) (Array.mk []) (Array.mk [P0 7])] 84 3 0), some (AObj.cells [I f0, I f1, I f2, I f3, I f4] 43 4 0), some (AObj.cells [Value.bool true] 4 5 0), some (AObj.cells [U A] 51 6 0), some (AObj.cells [Value.func (Fn.func 36) (Array.mk [Value.agg (Array.mk (I n :: pW w))]) (Array.mk [])] 69 7 0), some AObj.defd, some (r1 LoopState.busy none), some (AObj.cells [U x] 51 10 0), some (AObj.cells [U y] 51 11 0), some (AObj.cells [U y] 51 12 0), some (AObj.cells (I n :: pW w) 54 13 0), some (r2 LoopState.busy none), some (AObj.cells [Value.func (Fn.yield 14) (Array.mk []) (Array.mk [])] 58 15 0), some (AObj.cells [U y] 51 16 0), some AObj.defd, some (rq 13 15 16 17 LoopState.busy none), some (AObj.cells [U y1] 51 19 0), some (AObj.cells [U y] 51 20 0), some (AObj.cells (I n :: pW w) 54 21 0), some (r3 LoopState.done (some (Code.exit 0)))] := by kernel_rfl

theorem suD (r : Mem) (n : Int) (w : Nat → Int) (seats A : Int) (x y : Int) (y1 : Int) (fs : FnsC) (K : OV → List Nat → OO → CR) (kx : Nat → KS) (kr : KS) : run (SC r) 1752347058175 52 1 k_s3 fs (some 14) (begK 14 (rbK 19 lvC (fl19 ++ [.t]) K)) kx kr [] (bT (lv2 ++ [36]) (v2 ++ [some (U y1)]) .nil) [] (mkA (o19 n w seats A x y 0 0 0 0 0 false .ready none .busy none)) =
    K [some (P0 0), some (P0 3), some (P0 4), some (P0 5), some (P0 10), some (P0 11), some (P0 19)] [] [some (AObj.cells (I n :: pW w) 54 0 0), some (AObj.cells [I seats] 3 1 0), some (AObj.cells [I (Int.ofNat 0), I (Int.ofNat 0), I (Int.ofNat 0), I (Int.ofNat 0), I (Int.ofNat 0)] 43 2 0), some (AObj.cells [Value.func (Fn.func 53) (Array.mk []) (Array.mk [P0 7])] 84 3 0), some (AObj.cells [I (Int.ofNat 0), I (Int.ofNat 0), I (Int.ofNat 0), I (Int.ofNat 0), I (Int.ofNat 0)] 43 4 0), some (AObj.cells [Value.bool false] 4 5 0), some (AObj.cells [U A] 51 6 0), some (AObj.cells [Value.func (Fn.func 36) (Array.mk [Value.agg (Array.mk (I n :: pW w))]) (Array.mk [])] 69 7 0), some AObj.defd, some (r1 LoopState.busy none), some (AObj.cells [U x] 51 10 0), some (AObj.cells [U y] 51 11 0), some (AObj.cells [U y] 51 12 0), some (AObj.cells (I n :: pW w) 54 13 0), some (r2 LoopState.busy none), some (AObj.cells [Value.func (Fn.yield 14) (Array.mk []) (Array.mk [])] 58 15 0), some (AObj.cells [U y] 51 16 0), some AObj.defd, some (rq 13 15 16 17 LoopState.busy none), some (AObj.cells [U y1] 51 19 0)] := by kernel_rfl

theorem suE (r : Mem) (n : Int) (w : Nat → Int) (seats A : Int) (x y : Int) (y1 : Int) (K : OV → List Nat → OO → CR) (kx : Nat → KS) (kr : KS) : run (SC r) 1752347058175 52 1 Sc_1 (lvlT (SC r) (fun _ => none) .nil 1 3) (some 14) (rbK 19 lv3 (fl19 ++ [.t, .t, .t]) K) kx kr [] (bT lvC [some (P0 0), some (P0 3), some (P0 4), some (P0 5), some (P0 10), some (P0 11), some (P0 19)] .nil) [] (mkA (o19 n w seats A x y 0 0 0 0 0 false .busy none .busy none ++ [oG y1 19])) =
    K [some (P0 3), some (P0 4), some (P0 5), some (P0 10), some (P0 19), some (Value.func (Fn.func 54) (Array.mk []) (Array.mk [P0 20, P0 21]))] [] [some (AObj.cells (I n :: pW w) 54 0 0), some (AObj.cells [I seats] 3 1 0), some (AObj.cells [I (Int.ofNat 0), I (Int.ofNat 0), I (Int.ofNat 0), I (Int.ofNat 0), I (Int.ofNat 0)] 43 2 0), some (AObj.cells [Value.func (Fn.func 53) (Array.mk []) (Array.mk [P0 7])] 84 3 0), some (AObj.cells [I (Int.ofNat 0), I (Int.ofNat 0), I (Int.ofNat 0), I (Int.ofNat 0), I (Int.ofNat 0)] 43 4 0), some (AObj.cells [Value.bool false] 4 5 0), some (AObj.cells [U A] 51 6 0), some (AObj.cells [Value.func (Fn.func 36) (Array.mk [Value.agg (Array.mk (I n :: pW w))]) (Array.mk [])] 69 7 0), some AObj.defd, some (r1 LoopState.busy none), some (AObj.cells [U x] 51 10 0), some (AObj.cells [U y] 51 11 0), some (AObj.cells [U y] 51 12 0), some (AObj.cells (I n :: pW w) 54 13 0), some (r2 LoopState.busy none), some (AObj.cells [Value.func (Fn.yield 14) (Array.mk []) (Array.mk [])] 58 15 0), some (AObj.cells [U y] 51 16 0), some AObj.defd, some (rq 13 15 16 17 LoopState.busy none), some (AObj.cells [U y1] 51 19 0), some (AObj.cells [U y] 51 20 0), some (AObj.cells (I n :: pW w) 54 21 0)] := by kernel_rfl

theorem su3T (r : Mem) (n : Int) (w : Nat → Int) (seats A : Int) (x y y1 : Int) (K : OV → List Nat → OO → CR) (kx : Nat → KS) (kr : KS) : tailRK 22 ⟨[], bT lv3 v3 .nil⟩ [] (rbK 19 [] fl19 K) kx kr (mkA (o23 n w seats A x y y1 0 0 0 0 0 false .ready none)) =
    K [] [] [some (AObj.cells (I n :: pW w) 54 0 0), some (AObj.cells [I seats] 3 1 0), some (AObj.cells [I (Int.ofNat 0), I (Int.ofNat 0), I (Int.ofNat 0), I (Int.ofNat 0), I (Int.ofNat 0)] 43 2 0), some (AObj.cells [Value.func (Fn.func 53) (Array.mk []) (Array.mk [P0 7])] 84 3 0), some (AObj.cells [I (Int.ofNat 0), I (Int.ofNat 0), I (Int.ofNat 0), I (Int.ofNat 0), I (Int.ofNat 0)] 43 4 0), some (AObj.cells [Value.bool false] 4 5 0), some (AObj.cells [U A] 51 6 0), some (AObj.cells [Value.func (Fn.func 36) (Array.mk [Value.agg (Array.mk (I n :: pW w))]) (Array.mk [])] 69 7 0), some AObj.defd, some (r1 LoopState.busy none), some (AObj.cells [U x] 51 10 0), some (AObj.cells [U y] 51 11 0), some (AObj.cells [U y] 51 12 0), some (AObj.cells (I n :: pW w) 54 13 0), some (r2 LoopState.busy none), some (AObj.cells [Value.func (Fn.yield 14) (Array.mk []) (Array.mk [])] 58 15 0), some (AObj.cells [U y] 51 16 0), some AObj.defd, some (rq 13 15 16 17 LoopState.busy none)] := by kernel_rfl

theorem su3U (r : Mem) (n : Int) (w : Nat → Int) (seats A : Int) (x y y1 : Int) (f0 f1 f2 f3 f4 : Int) (k : KS) (KX : Nat → OV → List Nat → OO → CR) (kr : KS) : tailRK 22 ⟨[], bT lv3 v3 .nil⟩ [] k (fun i => rbK 19 [] fl19 (KX i)) kr (mkA (o23 n w seats A x y y1 f0 f1 f2 f3 f4 true .done (some (.exit 0)))) =
    KX 0 [] [] [some (AObj.cells (I n :: pW w) 54 0 0), some (AObj.cells [I seats] 3 1 0), some (AObj.cells [I (Int.ofNat 0), I (Int.ofNat 0), I (Int.ofNat 0), I (Int.ofNat 0), I (Int.ofNat 0)] 43 2 0), some (AObj.cells [Value.func (Fn.func 53) (Array.mk []) (Array.mk [P0 7])] 84 3 0), some (AObj.cells [I f0, I f1, I f2, I f3, I f4] 43 4 0), some (AObj.cells [Value.bool true] 4 5 0), some (AObj.cells [U A] 51 6 0), some (AObj.cells [Value.func (Fn.func 36) (Array.mk [Value.agg (Array.mk (I n :: pW w))]) (Array.mk [])] 69 7 0), some AObj.defd, some (r1 LoopState.busy none), some (AObj.cells [U x] 51 10 0), some (AObj.cells [U y] 51 11 0), some (AObj.cells [U y] 51 12 0), some (AObj.cells (I n :: pW w) 54 13 0), some (r2 LoopState.busy none), some (AObj.cells [Value.func (Fn.yield 14) (Array.mk []) (Array.mk [])] 58 15 0), some (AObj.cells [U y] 51 16 0), some AObj.defd, some (rq 13 15 16 17 LoopState.busy none)] := by kernel_rfl

theorem su2T (r : Mem) (n : Int) (w : Nat → Int) (seats A : Int) (x y : Int) (K : OV → List Nat → OO → CR) (kx : Nat → KS) (kr : KS) : tailRK 14 ⟨[], bT lv2 v2 .nil⟩ [] (rbK 10 [] fl10 K) kx kr (mkA (o15 n w seats A x y 0 0 0 0 0 false .ready none)) =
    K [] [] [some (AObj.cells (I n :: pW w) 54 0 0), some (AObj.cells [I seats] 3 1 0), some (AObj.cells [I (Int.ofNat 0), I (Int.ofNat 0), I (Int.ofNat 0), I (Int.ofNat 0), I (Int.ofNat 0)] 43 2 0), some (AObj.cells [Value.func (Fn.func 53) (Array.mk []) (Array.mk [P0 7])] 84 3 0), some (AObj.cells [I (Int.ofNat 0), I (Int.ofNat 0), I (Int.ofNat 0), I (Int.ofNat 0), I (Int.ofNat 0)] 43 4 0), some (AObj.cells [Value.bool false] 4 5 0), some (AObj.cells [U A] 51 6 0), some (AObj.cells [Value.func (Fn.func 36) (Array.mk [Value.agg (Array.mk (I n :: pW w))]) (Array.mk [])] 69 7 0), some AObj.defd, some (r1 LoopState.busy none)] := by kernel_rfl

theorem su2U (r : Mem) (n : Int) (w : Nat → Int) (seats A : Int) (x y : Int) (f0 f1 f2 f3 f4 : Int) (k : KS) (KX : Nat → OV → List Nat → OO → CR) (kr : KS) : tailRK 14 ⟨[], bT lv2 v2 .nil⟩ [] k (fun i => rbK 10 [] fl10 (KX i)) kr (mkA (o15 n w seats A x y f0 f1 f2 f3 f4 true .done (some (.exit 0)))) =
    KX 0 [] [] [some (AObj.cells (I n :: pW w) 54 0 0), some (AObj.cells [I seats] 3 1 0), some (AObj.cells [I (Int.ofNat 0), I (Int.ofNat 0), I (Int.ofNat 0), I (Int.ofNat 0), I (Int.ofNat 0)] 43 2 0), some (AObj.cells [Value.func (Fn.func 53) (Array.mk []) (Array.mk [P0 7])] 84 3 0), some (AObj.cells [I f0, I f1, I f2, I f3, I f4] 43 4 0), some (AObj.cells [Value.bool true] 4 5 0), some (AObj.cells [U A] 51 6 0), some (AObj.cells [Value.func (Fn.func 36) (Array.mk [Value.agg (Array.mk (I n :: pW w))]) (Array.mk [])] 69 7 0), some AObj.defd, some (r1 LoopState.busy none)] := by kernel_rfl

theorem su1T (r : Mem) (n : Int) (w : Nat → Int) (seats A : Int) (K : OV → List Nat → OO → CR) (kx : Nat → KS) (kr : KS) : tailRK 9 ⟨[], bT lvS vS .nil⟩ [8] (rbK 0 [4, 7, 8] [.t, .t, .t] K) kx kr (mkA (oS10 n w seats A 0 0 0 0 0 false .ready none)) =
    K [some (P0 0), some (P0 1), some (P0 2)] [] [some (AObj.cells [I (Int.ofNat 0), I (Int.ofNat 0), I (Int.ofNat 0), I (Int.ofNat 0), I (Int.ofNat 0)] 43 0 0), some (AObj.cells [I (Int.ofNat 0), I (Int.ofNat 0), I (Int.ofNat 0), I (Int.ofNat 0), I (Int.ofNat 0)] 43 1 0), some (AObj.cells [Value.bool false] 4 2 0)] := by kernel_rfl

theorem su1U (r : Mem) (n : Int) (w : Nat → Int) (seats A : Int) (f0 f1 f2 f3 f4 : Int) (k : KS) (KX : Nat → OV → List Nat → OO → CR) (kr : KS) : tailRK 9 ⟨[], bT lvS vS .nil⟩ [8] k (fun i => rbK 0 [4, 7, 8] [.t, .t, .t] (KX i)) kr (mkA (oS10 n w seats A f0 f1 f2 f3 f4 true .done (some (.exit 0)))) =
    KX 0 [some (P0 0), some (P0 1), some (P0 2)] [] [some (AObj.cells [I (Int.ofNat 0), I (Int.ofNat 0), I (Int.ofNat 0), I (Int.ofNat 0), I (Int.ofNat 0)] 43 0 0), some (AObj.cells [I f0, I f1, I f2, I f3, I f4] 43 1 0), some (AObj.cells [Value.bool true] 4 2 0)] := by kernel_rfl

theorem suZ (r : Mem) (f0 f1 f2 f3 f4 : Int) (b : Bool) (fs : FnsC) (K KR : OV → List Nat → OO → CR) (kx : Nat → KS) : run (SC r) 1752347058175 52 1 St_6 fs none (rbK 0 [4, 5] [.t] K) kx (rbK 0 [4, 5] [.t] KR) [] (bT [4, 7, 8] [some (P0 0), some (P0 1), some (P0 2)] .nil) [] (mkA [o5 0 0 0 0 0 0, o5 f0 f1 f2 f3 f4 1, some (.cells [.bool b] 4 2 0)]) =
    bif b then bif m_eqv (Value.bool b) (Value.bool b) then bif m_eqv (Value.bool b) (Value.bool b) then bif m_eqv (Value.agg (Array.mk [I f0, I f1, I f2, I f3, I f4])) (Value.agg (Array.mk [I f0, I f1, I f2, I f3, I f4])) then KR [some (P0 0), some (Value.bool true)] [] [some (AObj.cells [I f0, I f1, I f2, I f3, I f4] 43 0 0)] else CR.fail 420 else CR.fail 420 else CR.fail 420 else bif m_eqv (Value.bool b) (Value.bool b) then bif m_eqv (Value.bool b) (Value.bool b) then bif m_eqv (Value.agg (Array.mk [I f0, I f1, I f2, I f3, I f4])) (Value.agg (Array.mk [I f0, I f1, I f2, I f3, I f4])) then KR [some (P0 0), some (Value.bool false)] [] [some (AObj.cells [I f0, I f1, I f2, I f3, I f4] 43 0 0)] else CR.fail 420 else CR.fail 420 else CR.fail 420 := by kernel_rfl

theorem sq2E (r : Mem) (n : Int) (w : Nat → Int) (seats A : Int) (x y : Int) (t : Int) : yieldAt (SC r) 223 Qb_1 10 ⟨[(17, U t), (16, fY 14), (15, .bool true), (14, .bool true), (13, .bool true), (12, U t), (11, .agg ⟨I n :: pW w⟩), (10, .bool true), (9, .bool true), (8, U t)], (bT [2, 3, 4] [some (P0 13), some (P0 15), some (U t)] .nil)⟩ (mkA (o19 n w seats A x y 0 0 0 0 0 false .ready none .busy none)) = some (14, [U t], mkA (o19 n w seats A x y 0 0 0 0 0 false .ready none .busy none)) := by kernel_rfl

theorem sq2F (r : Mem) (n : Int) (w : Nat → Int) (seats A : Int) (x y : Int) (t : Int) (q : Int → Bool) (fo : Int → Int) (K : OV → List Nat → OO → CR) (kx : Nat → KS) (KR : OV → List Nat → OO → CR) : tailK (SC r) 223 21 Qb_1 10 (lvlT (SC r) (tSu n w q fo) .nil 1 1) (run (SC r) 223 21 1 Qb_2 (lvlT (SC r) (tSu n w q fo) .nil 1 1) (some 18) (rbK 19 [] fl19 K) kx (rbK 19 [] fl19 KR)) (.bool true) [(17, U t), (16, fY 14), (15, .bool true), (14, .bool true), (13, .bool true), (12, U t), (11, .agg ⟨I n :: pW w⟩), (10, .bool true), (9, .bool true), (8, U t)] (bT [2, 3, 4] [some (P0 13), some (P0 15), some (U t)] .nil) [] (endA 14 (r2 .ready none) (mkA (o19 n w seats A x y 0 0 0 0 0 false .busy none .busy none))) =
    K [] [] [some (AObj.cells (I n :: pW w) 54 0 0), some (AObj.cells [I seats] 3 1 0), some (AObj.cells [I (Int.ofNat 0), I (Int.ofNat 0), I (Int.ofNat 0), I (Int.ofNat 0), I (Int.ofNat 0)] 43 2 0), some (AObj.cells [Value.func (Fn.func 53) (Array.mk []) (Array.mk [P0 7])] 84 3 0), some (AObj.cells [I (Int.ofNat 0), I (Int.ofNat 0), I (Int.ofNat 0), I (Int.ofNat 0), I (Int.ofNat 0)] 43 4 0), some (AObj.cells [Value.bool false] 4 5 0), some (AObj.cells [U A] 51 6 0), some (AObj.cells [Value.func (Fn.func 36) (Array.mk [Value.agg (Array.mk (I n :: pW w))]) (Array.mk [])] 69 7 0), some AObj.defd, some (r1 LoopState.busy none), some (AObj.cells [U x] 51 10 0), some (AObj.cells [U y] 51 11 0), some (AObj.cells [U y] 51 12 0), some (AObj.cells (I n :: pW w) 54 13 0), some (r2 LoopState.ready none), some (AObj.cells [Value.func (Fn.yield 14) (Array.mk []) (Array.mk [])] 58 15 0), some (AObj.cells [U y] 51 16 0), some AObj.defd, some (rq 13 15 16 17 LoopState.busy none)] := by kernel_rfl

theorem sq2G (r : Mem) (n : Int) (w : Nat → Int) (seats A : Int) (x y : Int) (t : Int) (f0 f1 f2 f3 f4 : Int) (q : Int → Bool) (fo : Int → Int) (K : OV → List Nat → OO → CR) (kx : Nat → KS) (KR : OV → List Nat → OO → CR) : tailK (SC r) 223 21 Qb_1 10 (lvlT (SC r) (tSu n w q fo) .nil 1 1) (run (SC r) 223 21 1 Qb_2 (lvlT (SC r) (tSu n w q fo) .nil 1 1) (some 18) (rbK 19 [] fl19 K) kx (rbK 19 [] fl19 KR)) (.bool false) [(17, U t), (16, fY 14), (15, .bool true), (14, .bool true), (13, .bool true), (12, U t), (11, .agg ⟨I n :: pW w⟩), (10, .bool true), (9, .bool true), (8, U t)] (bT [2, 3, 4] [some (P0 13), some (P0 15), some (U t)] .nil) [] (endA 14 (r2 .done (some (.exit 0))) (mkA (o19 n w seats A x y f0 f1 f2 f3 f4 true .busy none .busy none))) =
    KR [] [] [some (AObj.cells (I n :: pW w) 54 0 0), some (AObj.cells [I seats] 3 1 0), some (AObj.cells [I (Int.ofNat 0), I (Int.ofNat 0), I (Int.ofNat 0), I (Int.ofNat 0), I (Int.ofNat 0)] 43 2 0), some (AObj.cells [Value.func (Fn.func 53) (Array.mk []) (Array.mk [P0 7])] 84 3 0), some (AObj.cells [I f0, I f1, I f2, I f3, I f4] 43 4 0), some (AObj.cells [Value.bool true] 4 5 0), some (AObj.cells [U A] 51 6 0), some (AObj.cells [Value.func (Fn.func 36) (Array.mk [Value.agg (Array.mk (I n :: pW w))]) (Array.mk [])] 69 7 0), some AObj.defd, some (r1 LoopState.busy none), some (AObj.cells [U x] 51 10 0), some (AObj.cells [U y] 51 11 0), some (AObj.cells [U y] 51 12 0), some (AObj.cells (I n :: pW w) 54 13 0), some (r2 LoopState.done (some (Code.exit 0))), some (AObj.cells [Value.func (Fn.yield 14) (Array.mk []) (Array.mk [])] 58 15 0), some (AObj.cells [U y] 51 16 0), some AObj.defd, some (rq 13 15 16 17 LoopState.busy none)] := by kernel_rfl

end Go.Proofs

/- The search for a structure: what it finds, in numbers. -/
set_option linter.unusedVariables false
set_option linter.unusedSimpArgs false
namespace Go.Num
open Go.Proofs

/-- The first answer. -/
def fnd {α : Type} (P : Nat → Option α) : Nat → Option α
  | 0 => none
  | k + 1 => match fnd P k with
    | some a => some a
    | none => P k

theorem fnd_some {α : Type} {P : Nat → Option α} {t : Nat} {a : α} (h : fnd P t = none) (ha : P t = some a) : ∀ m, t < m → fnd P m = some a
  | 0, hm => by omega
  | m + 1, hm => by
    rw [fnd]
    by_cases c : t = m
    · subst c; rw [h]; exact ha
    · rw [fnd_some h ha m (by omega)]
theorem fnd_skip {α : Type} {P : Nat → Option α} {t : Nat} (h : fnd P t = none) : ∀ m, t ≤ m → (∀ k, t ≤ k → k < m → P k = none) → fnd P m = none
  | 0, hm, _ => by obtain rfl : t = 0 := by omega
                   exact h
  | m + 1, hm, hk => by
    by_cases c : t = m + 1
    · subst c; exact h
    · rw [fnd, fnd_skip h m (by omega) fun k h1 h2 => hk k h1 (by omega)]
      exact hk m (by omega) (by omega)
theorem fnd_use {α : Type} {P : Nat → Option α} {a : α} : ∀ {m : Nat}, fnd P m = some a → ∃ k, k < m ∧ P k = some a
  | 0, h => nomatch h
  | m + 1, h => by
    rw [fnd] at h
    split at h
    · rename_i b hb
      cases h
      obtain ⟨k, h1, h2⟩ := fnd_use hb
      exact ⟨k, by omega, h2⟩
    · exact ⟨m, by omega, h⟩
theorem fnd_none {α : Type} {P : Nat → Option α} : ∀ {m : Nat}, fnd P m = none → ∀ k, k < m → P k = none
  | 0, _, k, hk => by omega
  | m + 1, h, k, hk => by
    rw [fnd] at h
    split at h
    · cases h
    · rename_i hb
      by_cases c : k = m
      · subst c; exact h
      · exact fnd_none hb k (by omega)
/-- Behind a round: to the next number within y. -/
theorem fnd_next {α : Type} {P : Nat → Option α} {y t : Nat} (hy : y < 18446744073709551616) (hts : t &&& y = t) (hP : ∀ k, ¬ k &&& y = k → P k = none) (h : fnd P t = none) (ht : P t = none) : (t = y → fnd P (y + 1) = none) ∧ (t ≠ y → fnd P (nxN y t) = none) := by
  constructor
  · intro e
    subst e
    exact fnd_skip h _ (by omega) fun k h1 h2 => by rw [show k = t by omega]; exact ht
  · intro e
    refine fnd_skip h _ (Nat.le_of_lt (nx_gt hy hts e)) fun k h1 h2 => ?_
    by_cases c : k = t
    · rw [c]; exact ht
    · refine hP k fun hk => ?_
      have := nx_min hy hts e hk (by omega)
      omega

def x1N (fo : Nat → Nat) (x y1 : Nat) : Nat := anN x (fo y1)
def x2N (fo : Nat → Nat) (x y1 y2 : Nat) : Nat := anN (anN x (x1N fo x y1)) (fo y2)
def x3N (fo : Nat → Nat) (x y1 y2 : Nat) : Nat := anN (anN x (x1N fo x y1)) (x2N fo x y1 y2)
abbrev T3 : Type := Nat × Nat × Nat
def p2N (q : Nat → Bool) (fo : Nat → Nat) (x y y1 k : Nat) : Option T3 := if k &&& y = k ∧ k ≠ 0 ∧ q k = true ∧ ¬ popN 16 y1 + popN 16 k < popN 16 (x3N fo x y1 k) then some (x, y1, k) else none
def p1N (q : Nat → Bool) (fo : Nat → Nat) (x y k : Nat) : Option T3 := if k &&& y = k ∧ k ≠ 0 ∧ q k = true then fnd (p2N q fo x y k) (y + 1) else none
def p0N (q : Nat → Bool) (fo : Nat → Nat) (A : Nat) (seats : Int) (x : Nat) : Option T3 := if ¬ ((popN 16 (anN A x) : Nat) : Int) > seats ∧ q x = true then fnd (p1N q fo x (anN A x)) (anN A x + 1) else none
def suN (q : Nat → Bool) (fo : Nat → Nat) (A : Nat) (seats : Int) : Option T3 := fnd (p0N q fo A seats) (A + 1)
theorem p2_out {q : Nat → Bool} {fo : Nat → Nat} {x y y1 k : Nat} (h : ¬ k &&& y = k) : p2N q fo x y y1 k = none := if_neg fun c => h c.1
theorem p1_out {q : Nat → Bool} {fo : Nat → Nat} {x y k : Nat} (h : ¬ k &&& y = k) : p1N q fo x y k = none := if_neg fun c => h c.1

end Go.Num

/- Structures: what the calls answer. -/
namespace Go.Proofs
open Go Go.Ev Go.Num
set_option linter.unusedVariables false
set_option linter.unusedSimpArgs false
set_option maxRecDepth 100000

theorem z0 (n : Nat) : (((n : Nat) : Int) == Int.ofNat 0) = (n == 0) := by rw [Bool.eq_iff_iff]; simp
theorem z1 (n : Nat) : (((n : Nat) : Int) != Int.ofNat 0) = !(n == 0) := by rw [bne, z0]
theorem i64_small {x : Int} {X : Nat} (h1 : -9223372036854775808 ≤ x) (h2 : x < 9223372036854775808) (h : IntKind.wrap .u64 x = (X : Nat)) (hX : X < 1024) : x = X := by rw [wrU] at h; omega
def rng (x : Int) : Prop := -9223372036854775808 ≤ x ∧ x < 9223372036854775808
theorem wrX (x : Int) : ∃ X : Nat, IntKind.wrap .u64 x = (X : Nat) ∧ X < 18446744073709551616 := ⟨(x % 18446744073709551616).toNat, by rw [wrU]; omega, by omega⟩
theorem pop_small (s : Nat) : popN 16 s ≤ 16 := popN_le 16 s

theorem isstr_ok (r : Mem) (hm : ∀ b j u, tabM b j = some u → r b j = some u) (m : Nat) (hm10 : m ≤ 10) (ws : List Nat) (hl : ws.length = 10) (hw : ∀ w ∈ ws, w < 65536) (seats x0 x1 x2 x3 x4 : Int) (r0 : rng x0) (r1 : rng x1) (r2 : rng x2) (r3 : rng x3) (r4 : rng x4) :
    GrT Tryd.prog r 33 [.agg ⟨pgC (m : Nat) ws⟩, I seats, .agg ⟨[I x0, I x1, I x2, I x3, I x4]⟩] (.bool (stI (2 ^ m - 1) (fun s => quN (fun i => ws.getD i 0) s 10) seats x0 x1 x2 x3 x4)) := by
  have hA : 2 ^ m ≤ 1024 := Nat.pow_le_pow_right (n := 2) (by decide) hm10
  have hpos := Nat.two_pow_pos m
  have h64 : (18446744073709551616 : Nat) = 2 ^ 64 := by decide
  have hq : EOk (SC r) 26 (ePW (pgC (m : Nat) ws) fun s => .bool (quN (fun i => ws.getD i 0) s.toNat 10)) := ePW_ok r (pgC_gnd _ ws) fun s hs => by
    have := isq_ok r hm (m : Nat) ws hl hw s hs
    rw [Int.toNat_natCast]
    exact this
  have ha := fall_ok r m (by omega) ws hl
  generalize (fun (i : Nat) => ws.getD i 0) = w at hq ⊢
  obtain ⟨a0, a1, a2, a3, a4, a5, a6, a7, a8, a9, _, hp⟩ := pgC10 (m : Nat) hl
  rw [hp] at hq ha ⊢
  refine GrT.of (SC_ok r) (show TOk (SC r) (tIs (m : Nat) [U a0, U a1, U a2, U a3, U a4, U a5, U a6, U a7, U a8, U a9] fun s => quN w s.toNat 10) from TOk.cons (TOk.cons (TOk.cons TOk.nil (entV_ok ha rfl)) (eU1_ok fun a h => fsz_ok r a h)) hq) .nil rfl ⟨1, 3, ?_⟩
  have hn := isA r (m : Nat) seats a0 a1 a2 a3 a4 a5 a6 a7 a8 a9 (fun s => quN w s.toNat 10) x0 x1 x2 x3 x4
  rw [hn]
  clear hn hq ha hp
  have sm : ∀ l : List Value, m_same l l = true := same_rfl
  obtain ⟨X0, e0, l0⟩ := wrX x0
  obtain ⟨X1, e1, l1⟩ := wrX x1
  obtain ⟨X2, e2, l2⟩ := wrX x2
  obtain ⟨X3, e3, l3⟩ := wrX x3
  obtain ⟨X4, e4, l4⟩ := wrX x4
  have eA := all_eq (m := m) (by omega)
  have lA : 2 ^ m - 1 < 18446744073709551616 := by omega
  have l01 : X0 ||| X1 < 18446744073709551616 := by rw [h64] at *; exact Nat.or_lt_two_pow l0 l1
  have l012 : X0 ||| X1 ||| X2 < 18446744073709551616 := by rw [h64] at *; exact Nat.or_lt_two_pow l01 l2
  have ly : anN (2 ^ m - 1) (X0 ||| X1 ||| X2) < 18446744073709551616 := by
    have := an_lt (b := X0 ||| X1 ||| X2) (all_lt m)
    omega
  have wp : IntKind.wrap IntKind.i64 (((popN 16 X3 : Nat) : Int) + ((popN 16 X4 : Nat) : Int)) = ((popN 16 X3 + popN 16 X4 : Nat) : Int) := by
    have := pop_small X3
    have := pop_small X4
    rw [wrI (by omega)]
    omega
  have mp : ∀ x : Nat, m_pop ((x : Nat) : Int) = ((popN 16 x : Nat) : Int) := fun x => by unfold m_pop; rw [Int.toNat_natCast]
  have dg : ∀ a b : Nat, decide (((a : Nat) : Int) ≥ ((b : Nat) : Int)) = decide (b ≤ a) := fun a b => by rw [Bool.eq_iff_iff]; simp
  simp only [sm, Bool.true_and, cond_true, e0, e1, e2, e3, e4, eA, (uO l0 l1).1, (uO l01 l2).1, (uO l012 lA).2.2, (uO lA l012).2.2, (uO l3 ly).2.2, (uO l4 ly).2.2, z0, (uO l0 l1).2.1, (uO l0 l2).2.1, (uO l1 l2).2.1, (uO l0 l3).1, (uO l1 l4).1, Int.toNat_natCast, wp, mp, dg]
  by_cases hc : (anN (X0 ||| X1 ||| X2) (2 ^ m - 1) == 0) = true ∧ (anN X3 (anN (2 ^ m - 1) (X0 ||| X1 ||| X2)) == 0) = true ∧ (anN X4 (anN (2 ^ m - 1) (X0 ||| X1 ||| X2)) == 0) = true
  · obtain ⟨c0, c3, c4⟩ := hc
    have b012 : X0 ||| X1 ||| X2 < 2 ^ m := an_all.mp (by simpa using c0)
    have b3 : X3 < 2 ^ m := an_in (by simpa using c3)
    have b4 : X4 < 2 ^ m := an_in (by simpa using c4)
    have b0 : X0 < 2 ^ m := Nat.lt_of_le_of_lt (Nat.le_trans Nat.left_le_or Nat.left_le_or) b012
    have b1 : X1 < 2 ^ m := Nat.lt_of_le_of_lt (Nat.le_trans Nat.right_le_or Nat.left_le_or) b012
    have b2 : X2 < 2 ^ m := Nat.lt_of_le_of_lt Nat.right_le_or b012
    have b03 : X0 ||| X3 < 2 ^ m := Nat.or_lt_two_pow b0 b3
    have b14 : X1 ||| X4 < 2 ^ m := Nat.or_lt_two_pow b1 b4
    have by' := an_lt (b := X0 ||| X1 ||| X2) (all_lt m)
    obtain rfl := i64_small r0.1 r0.2 e0 (by omega)
    obtain rfl := i64_small r1.1 r1.2 e1 (by omega)
    obtain rfl := i64_small r2.1 r2.2 e2 (by omega)
    obtain rfl := i64_small r3.1 r3.2 e3 (by omega)
    obtain rfl := i64_small r4.1 r4.2 e4 (by omega)
    have g : ∀ x : Nat, x < 2 ^ m → m_w10 ((x : Nat) : Int) = true := fun x h => decide_eq_true ⟨by omega, by omega⟩
    have gp : ∀ x : Nat, x < 2 ^ m → m_popG ((x : Nat) : Int) = true := fun x h => decide_eq_true ⟨by omega, by omega⟩
    have gi : ∀ x : Nat, x < 2 ^ m → inA (2 ^ m - 1) ((x : Nat) : Int) = true := fun x h => by
      unfold inA
      rw [Bool.and_eq_true, decide_eq_true_eq, decide_eq_true_eq]
      omega
    unfold stI stN
    simp only [gi X0 b0, gi X1 b1, gi X2 b2, gi X3 b3, gi X4 b4, Int.toNat_natCast, g _ b012, g _ b03, g _ b14, gp _ by', gp _ b2, gp _ b3, gp _ b4, c0, c3, c4, cond_true, Bool.true_and, Bool.and_true]
    clear e0 e1 e2 e3 e4
    generalize (X3 == 0) = v1
    generalize (X4 == 0) = v2
    generalize (X0 &&& X1 == 0) = v3
    generalize (X0 &&& X2 == 0) = v4
    generalize (X1 &&& X2 == 0) = v5
    generalize quN w (X0 ||| X1 ||| X2) 10 = v6
    generalize quN w (X0 ||| X3) 10 = v7
    generalize quN w (X1 ||| X4) 10 = v8
    generalize decide (((popN 16 (anN (2 ^ m - 1) (X0 ||| X1 ||| X2)) : Nat) : Int) ≤ seats) = v9
    generalize decide (popN 16 X2 ≤ popN 16 X3 + popN 16 X4) = v10
    cases v1 <;> cases v2 <;> cases v3 <;> cases v4 <;> cases v5 <;> cases v6 <;> cases v7 <;> cases v8 <;> cases v9 <;> cases v10 <;> rfl
  · have hF : stI (2 ^ m - 1) (fun s => quN w s 10) seats x0 x1 x2 x3 x4 = false := by
      cases hs : stI (2 ^ m - 1) (fun s => quN w s 10) seats x0 x1 x2 x3 x4 with
      | false => rfl
      | true =>
        exfalso
        unfold stI stN inA at hs
        simp only [Bool.and_eq_true, decide_eq_true_eq] at hs
        have k0 : x0.toNat = X0 := by rw [wrU] at e0; omega
        have k1 : x1.toNat = X1 := by rw [wrU] at e1; omega
        have k2 : x2.toNat = X2 := by rw [wrU] at e2; omega
        have k3 : x3.toNat = X3 := by rw [wrU] at e3; omega
        have k4 : x4.toNat = X4 := by rw [wrU] at e4; omega
        rw [k0, k1, k2, k3, k4] at hs
        refine hc ⟨?_, ?_, ?_⟩
        · have : X0 ||| X1 ||| X2 < 2 ^ m := Nat.or_lt_two_pow (Nat.or_lt_two_pow (show X0 < 2 ^ m by omega) (show X1 < 2 ^ m by omega)) (show X2 < 2 ^ m by omega)
          simpa using an_all.mpr this
        · simp_all
        · simp_all
    rw [hF]
    generalize (anN (X0 ||| X1 ||| X2) (2 ^ m - 1) == 0) = c0 at hc
    generalize (anN X3 (anN (2 ^ m - 1) (X0 ||| X1 ||| X2)) == 0) = c3 at hc
    generalize (anN X4 (anN (2 ^ m - 1) (X0 ||| X1 ||| X2)) == 0) = c4 at hc
    cases c0 with
    | false => rfl
    | true =>
      cases c3 with
      | false => rfl
      | true =>
        cases c4 with
        | false => rfl
        | true => exact absurd ⟨rfl, rfl, rfl⟩ hc


theorem eRQ_ok (r : Mem) {b off len cap : Nat} {q : Int → Bool} (h : ∀ s : Nat, s < 1024 → GrT Tryd.prog r 11 [RS b off len cap, I (s : Nat)] (.bool (q (s : Nat)))) : EOk (SC r) 11 (eRQ (RS b off len cap) q) := EOk.ent fun args A hg => by
  split at hg
  · rename_i v s
    simp only [Bool.and_eq_true] at hg
    have h1 := @of_decide_eq_true _ (Classical.propDecidable _) hg.1
    have h2 := of_decide_eq_true hg.2
    cases h1
    have := h s.toNat (by omega)
    rw [show ((s.toNat : Nat) : Int) = s by omega] at this
    exact this.ro rfl A
  · cases hg
theorem rsz_ok (r : Mem) (a : Int) (h : m_popG a = true) : GrT Tryd.prog r 28 [I a] (I (m_pop a)) := by
  have h' := of_decide_eq_true h
  have := size_ok r a.toNat (by omega)
  rw [show ((a.toNat : Nat) : Int) = a by omega] at this
  exact this

theorem rstr_ok (r : Mem) (b off m cap : Nat) (hm10 : m ≤ 10) (w : Nat → Nat) (hr : ∀ k, k < m → r b (off + k) = some (I (w k : Nat))) (hw : ∀ k, k < m → w k < 65536) (seats x0 x1 x2 x3 x4 : Int) :
    GrT Tryd.prog r 21 [RS b off m cap, I seats, .agg ⟨[I x0, I x1, I x2, I x3, I x4]⟩] (.bool (stI (2 ^ m - 1) (fun s => quN w s m) seats x0 x1 x2 x3 x4)) := by
  have hA : 2 ^ m ≤ 1024 := Nat.pow_le_pow_right (n := 2) (by decide) hm10
  have hpos := Nat.two_pow_pos m
  have hq : EOk (SC r) 11 (eRQ (RS b off m cap) fun s => quN w s.toNat m) := eRQ_ok r fun s hs => by
    have := rquiet_ok r b off m cap w hr hw (by omega) s (by omega)
    rw [Int.toNat_natCast]
    exact this
  have ha := rall_ok r b off m cap (by omega)
  refine GrT.of (SC_ok r) (show TOk (SC r) (tRs (RS b off m cap) (m : Nat) fun s => quN w s.toNat m) from TOk.cons (TOk.cons (TOk.cons TOk.nil (entV_ok ha rfl)) (eI1_ok fun a h => rsz_ok r a h)) hq) .nil rfl ⟨7, 2, ?_⟩
  rw [rsA]
  clear hq ha
  have sm : ∀ l : List Value, m_same l l = true := same_rfl
  have eA := all_eq (m := m) (by omega)
  simp only [sm, Bool.true_and, cond_true, eA]
  by_cases c : x0 < 0
  · simp only [dT c, cond_true]
    rw [show stI (2 ^ m - 1) (fun s => quN w s m) seats x0 x1 x2 x3 x4 = false from by unfold stI; rw [show inA (2 ^ m - 1) x0 = false from by unfold inA; rw [dF (show ¬ 0 ≤ x0 by omega)]; rfl]; simp]
    rfl
  by_cases c' : x0 > ((2 ^ m - 1 : Nat) : Int)
  · simp only [dF c, cond_false, dT c', cond_true]
    rw [show stI (2 ^ m - 1) (fun s => quN w s m) seats x0 x1 x2 x3 x4 = false from by unfold stI; rw [show inA (2 ^ m - 1) x0 = false from by unfold inA; rw [dF (show ¬ x0 ≤ ((2 ^ m - 1 : Nat) : Int) by omega)]; simp]; simp]
    rfl
  simp only [dF c, cond_false, dF c']
  by_cases c : x1 < 0
  · simp only [dT c, cond_true]
    rw [show stI (2 ^ m - 1) (fun s => quN w s m) seats x0 x1 x2 x3 x4 = false from by unfold stI; rw [show inA (2 ^ m - 1) x1 = false from by unfold inA; rw [dF (show ¬ 0 ≤ x1 by omega)]; rfl]; simp]
    rfl
  by_cases c' : x1 > ((2 ^ m - 1 : Nat) : Int)
  · simp only [dF c, cond_false, dT c', cond_true]
    rw [show stI (2 ^ m - 1) (fun s => quN w s m) seats x0 x1 x2 x3 x4 = false from by unfold stI; rw [show inA (2 ^ m - 1) x1 = false from by unfold inA; rw [dF (show ¬ x1 ≤ ((2 ^ m - 1 : Nat) : Int) by omega)]; simp]; simp]
    rfl
  simp only [dF c, cond_false, dF c']
  by_cases c : x2 < 0
  · simp only [dT c, cond_true]
    rw [show stI (2 ^ m - 1) (fun s => quN w s m) seats x0 x1 x2 x3 x4 = false from by unfold stI; rw [show inA (2 ^ m - 1) x2 = false from by unfold inA; rw [dF (show ¬ 0 ≤ x2 by omega)]; rfl]; simp]
    rfl
  by_cases c' : x2 > ((2 ^ m - 1 : Nat) : Int)
  · simp only [dF c, cond_false, dT c', cond_true]
    rw [show stI (2 ^ m - 1) (fun s => quN w s m) seats x0 x1 x2 x3 x4 = false from by unfold stI; rw [show inA (2 ^ m - 1) x2 = false from by unfold inA; rw [dF (show ¬ x2 ≤ ((2 ^ m - 1 : Nat) : Int) by omega)]; simp]; simp]
    rfl
  simp only [dF c, cond_false, dF c']
  by_cases c : x3 < 0
  · simp only [dT c, cond_true]
    rw [show stI (2 ^ m - 1) (fun s => quN w s m) seats x0 x1 x2 x3 x4 = false from by unfold stI; rw [show inA (2 ^ m - 1) x3 = false from by unfold inA; rw [dF (show ¬ 0 ≤ x3 by omega)]; rfl]; simp]
    rfl
  by_cases c' : x3 > ((2 ^ m - 1 : Nat) : Int)
  · simp only [dF c, cond_false, dT c', cond_true]
    rw [show stI (2 ^ m - 1) (fun s => quN w s m) seats x0 x1 x2 x3 x4 = false from by unfold stI; rw [show inA (2 ^ m - 1) x3 = false from by unfold inA; rw [dF (show ¬ x3 ≤ ((2 ^ m - 1 : Nat) : Int) by omega)]; simp]; simp]
    rfl
  simp only [dF c, cond_false, dF c']
  by_cases c : x4 < 0
  · simp only [dT c, cond_true]
    rw [show stI (2 ^ m - 1) (fun s => quN w s m) seats x0 x1 x2 x3 x4 = false from by unfold stI; rw [show inA (2 ^ m - 1) x4 = false from by unfold inA; rw [dF (show ¬ 0 ≤ x4 by omega)]; rfl]; simp]
    rfl
  by_cases c' : x4 > ((2 ^ m - 1 : Nat) : Int)
  · simp only [dF c, cond_false, dT c', cond_true]
    rw [show stI (2 ^ m - 1) (fun s => quN w s m) seats x0 x1 x2 x3 x4 = false from by unfold stI; rw [show inA (2 ^ m - 1) x4 = false from by unfold inA; rw [dF (show ¬ x4 ≤ ((2 ^ m - 1 : Nat) : Int) by omega)]; simp]; simp]
    rfl
  simp only [dF c, cond_false, dF c']
  obtain ⟨X0, rfl⟩ : ∃ X : Nat, x0 = X := ⟨x0.toNat, by omega⟩
  obtain ⟨X1, rfl⟩ : ∃ X : Nat, x1 = X := ⟨x1.toNat, by omega⟩
  obtain ⟨X2, rfl⟩ : ∃ X : Nat, x2 = X := ⟨x2.toNat, by omega⟩
  obtain ⟨X3, rfl⟩ : ∃ X : Nat, x3 = X := ⟨x3.toNat, by omega⟩
  obtain ⟨X4, rfl⟩ : ∃ X : Nat, x4 = X := ⟨x4.toNat, by omega⟩
  have b0 : X0 < 2 ^ m := by omega
  have b1 : X1 < 2 ^ m := by omega
  have b2 : X2 < 2 ^ m := by omega
  have b3 : X3 < 2 ^ m := by omega
  have b4 : X4 < 2 ^ m := by omega
  have b01 : X0 ||| X1 < 2 ^ m := Nat.or_lt_two_pow b0 b1
  have b012 : X0 ||| X1 ||| X2 < 2 ^ m := Nat.or_lt_two_pow b01 b2
  have b34 : X3 ||| X4 < 2 ^ m := Nat.or_lt_two_pow b3 b4
  have b03 : X0 ||| X3 < 2 ^ m := Nat.or_lt_two_pow b0 b3
  have b14 : X1 ||| X4 < 2 ^ m := Nat.or_lt_two_pow b1 b4
  have by' := an_lt (b := X0 ||| X1 ||| X2) (all_lt m)
  have g : ∀ x : Nat, x < 2 ^ m → m_w10 ((x : Nat) : Int) = true := fun x h => decide_eq_true ⟨by omega, by omega⟩
  have gp : ∀ x : Nat, x < 2 ^ m → m_popG ((x : Nat) : Int) = true := fun x h => decide_eq_true ⟨by omega, by omega⟩
  have gi : ∀ x : Nat, x < 2 ^ m → inA (2 ^ m - 1) ((x : Nat) : Int) = true := fun x h => by
    unfold inA
    rw [Bool.and_eq_true, decide_eq_true_eq, decide_eq_true_eq]
    omega
  have i6 : ∀ x : Nat, x < 2 ^ m → x < 65536 := fun x h => by omega
  have lA : 2 ^ m - 1 < 65536 := by omega
  have wp : IntKind.wrap IntKind.i64 (((popN 16 X3 : Nat) : Int) + ((popN 16 X4 : Nat) : Int)) = ((popN 16 X3 + popN 16 X4 : Nat) : Int) := by
    have := pop_small X3
    have := pop_small X4
    rw [wrI (by omega)]
    omega
  have mp : ∀ x : Nat, m_pop ((x : Nat) : Int) = ((popN 16 x : Nat) : Int) := fun x => by unfold m_pop; rw [Int.toNat_natCast]
  have dg : ∀ a b : Nat, decide (((a : Nat) : Int) ≥ ((b : Nat) : Int)) = decide (b ≤ a) := fun a b => by rw [Bool.eq_iff_iff]; simp
  have ds : ∀ a : Int, decide (a > seats) = !decide (a ≤ seats) := fun a => by rw [Bool.eq_iff_iff]; simp
  have c34 : (anN (X3 ||| X4) (anN (2 ^ m - 1) (X0 ||| X1 ||| X2)) == 0) = ((anN X3 (anN (2 ^ m - 1) (X0 ||| X1 ||| X2)) == 0) && (anN X4 (anN (2 ^ m - 1) (X0 ||| X1 ||| X2)) == 0)) := by
    rw [Bool.eq_iff_iff]
    simp only [beq_iff_eq, Bool.and_eq_true]
    exact an_or
  unfold stI stN
  simp only [gi X0 b0, gi X1 b1, gi X2 b2, gi X3 b3, gi X4 b4, Int.toNat_natCast, (iO (i6 _ b0) (i6 _ b1)).1, (iO (i6 _ b01) (i6 _ b2)).1, (iO (i6 _ b0) (i6 _ b1)).2.1, (iO (i6 _ b0) (i6 _ b2)).2.1, (iO (i6 _ b1) (i6 _ b2)).2.1, (iO lA (i6 _ b012)).2.2, (iO (i6 _ b3) (i6 _ b4)).1, (iO (i6 _ b34) (i6 _ by')).2.2, (iO (i6 _ b0) (i6 _ b3)).1, (iO (i6 _ b1) (i6 _ b4)).1, z0, z1, g _ b012, g _ b03, g _ b14, gp _ by', gp _ b2, gp _ b3, gp _ b4, mp, wp, dg, ds, eqv_rfl, c34, cond_true, Bool.true_and, Bool.and_true]
  generalize (X3 == 0) = v1
  generalize (X4 == 0) = v2
  generalize (X0 &&& X1 == 0) = v3
  generalize (X0 &&& X2 == 0) = v4
  generalize (X1 &&& X2 == 0) = v5
  generalize quN w (X0 ||| X1 ||| X2) m = v6
  generalize quN w (X0 ||| X3) m = v7
  generalize quN w (X1 ||| X4) m = v8
  generalize decide (((popN 16 (anN (2 ^ m - 1) (X0 ||| X1 ||| X2)) : Nat) : Int) ≤ seats) = v9
  generalize decide (popN 16 X2 ≤ popN 16 X3 + popN 16 X4) = v10
  generalize (anN X3 (anN (2 ^ m - 1) (X0 ||| X1 ||| X2)) == 0) = v11
  generalize (anN X4 (anN (2 ^ m - 1) (X0 ||| X1 ||| X2)) == 0) = v12
  clear c34 dg ds mp wp
  cases v3
  · rfl
  cases v4
  · rfl
  cases v5
  · rfl
  cases v6
  · rfl
  cases v9
  · rfl
  cases v1
  · cases v2
    · cases v11
      · cases v7 <;> rfl
      · cases v12
        · cases v7 <;> rfl
        · cases v7
          · rfl
          · cases v8
            · rfl
            · cases v10 <;> rfl
    · rfl
  · rfl

end Go.Proofs

/- The search for a structure: the innermost rounds. -/
namespace Go.Proofs
open Go Go.Ev Go.Num
set_option linter.unusedVariables false
set_option linter.unusedSimpArgs false
set_option maxRecDepth 100000

noncomputable abbrev tSN (n : Int) (w : Nat → Int) (q : Nat → Bool) (fo : Nat → Nat) : Tbl := tSu n w (fun s => q s.toNat) fun s => (fo s.toNat : Nat)
noncomputable def z27 (n : Int) (w : Nat → Int) (seats A x y y1 : Int) : OO := o27 n w seats A x y y1 0 0 0 0 0 false .ready none .ready none
noncomputable def e27 (n : Int) (w : Nat → Int) (seats A x y y1 : Int) (fo : Nat → Nat) : Option T3 → OO
  | none => z27 n w seats A x y y1
  | some (a, b, c) => o27 n w seats A x y y1 (x1N fo a b : Nat) (x2N fo a b c : Nat) (x3N fo a b c : Nat) (b : Nat) (c : Nat) true .done (some (.exit 0)) .done (some .ret)

theorem cn27z (n : Int) (w : Nat → Int) (seats A x y y1 : Int) : Cn (mkA (z27 n w seats A x y y1)).next fl27 (mkA (z27 n w seats A x y y1)) (z27 n w seats A x y y1) := ⟨by kernel_rfl, by kernel_rfl⟩
theorem cn27s (n : Int) (w : Nat → Int) (seats A x y y1 f0 f1 f2 f3 f4 : Int) : Cn (mkA (z27 n w seats A x y y1)).next fl27 (mkA (o27 n w seats A x y y1 f0 f1 f2 f3 f4 true .done (some (.exit 0)) .done (some .ret))) (o27 n w seats A x y y1 f0 f1 f2 f3 f4 true .done (some (.exit 0)) .done (some .ret)) := ⟨by kernel_rfl, by kernel_rfl⟩
theorem end27z (n : Int) (w : Nat → Int) (seats A x y y1 : Int) : endR 26 none (St.of [] [] [] (o27 n w seats A x y y1 0 0 0 0 0 false .ready none .busy none)) = .ret (.bool true) (mkA (z27 n w seats A x y y1)) := by kernel_rfl
theorem end27s (n : Int) (w : Nat → Int) (seats A x y y1 f0 f1 f2 f3 f4 : Int) : endR 26 (some .ret) (St.of [] [] [] (o27 n w seats A x y y1 f0 f1 f2 f3 f4 true .done (some (.exit 0)) .busy none)) = .ret (.bool false) (mkA (o27 n w seats A x y y1 f0 f1 f2 f3 f4 true .done (some (.exit 0)) .done (some .ret))) := by kernel_rfl

theorem uAn {a b : Nat} (ha : a < 65536) (hb : b < 65536) : ibits .andNot .u64 ((a : Nat) : Int) ((b : Nat) : Int) = ((anN a b : Nat) : Int) := (uO (by omega) (by omega)).2.2
theorem an16 {a b : Nat} (ha : a < 65536) : anN a b < 65536 := an_lt (k := 16) ha

theorem y26 {r : Mem} {n : Int} {w : Nat → Int} {q : Nat → Bool} {fo : Nat → Nat} (ht : TOk (SC r) (tSN n w q fo)) (hfo : ∀ s, fo s < 65536) (seats A : Int) {x y y1 t : Nat} (hx : x < 1024) (hy : y < 1024) (hy1 : y1 < 1024) (hts : t &&& y = t) (hI : fnd (p2N q fo x y y1) t = none) :
    YOk (SC r) 26 [U (t : Nat)] (mkA (z27 n w seats A x y y1)) fun v A' => (∃ e f z, A'.heap.get 24 = some (.cells [U (y : Nat)] e f z)) ∧ ∃ os', Cn (mkA (z27 n w seats A x y y1)).next fl27 A' os' ∧
      ((v = .bool true ∧ (t = y → os' = e27 n w seats A x y y1 fo (fnd (p2N q fo x y y1) (y + 1))) ∧ (t ≠ y → fnd (p2N q fo x y y1) (nxN y t) = none ∧ os' = z27 n w seats A x y y1)) ∨ (v = .bool false ∧ os' = e27 n w seats A x y y1 fo (fnd (p2N q fo x y y1) (y + 1)))) := by
  have hle : t ≤ y := by rw [← hts]; exact Nat.and_le_right
  have hnx : (mkA (z27 n w seats A x y y1)).next = 27 := by kernel_rfl
  refine YOk.of (SC_ok r) (i := 26) (st := .ready) (pend := none) (m := 223) (n := 21) (en := ⟨[], bT lvq (vq 21 23 24) .nil⟩) (params := #[7]) (assign := k_q1) (body := k_q2) (d := 25) (by kernel_rfl) (s0 := []) (b0 := bT (lvq ++ [7]) (vq 21 23 24 ++ [some (U (t : Nat))]) .nil) (by kernel_rfl) ht (tm := .nil) (L := 1) (L' := 1) (d' := 5)
    ⟨[2, 3, 4], fl27, fun vs ms os => vs = [some (P0 21), some (P0 23), some (U (t : Nat))] ∧ ms = [] ∧ os = o27 n w seats A x y y1 0 0 0 0 0 false .ready none .busy none⟩
    ⟨[], fl27, fun vs ms os => p2N q fo x y y1 t = none ∧ vs = [] ∧ ms = [] ∧ os = o27 n w seats A x y y1 0 0 0 0 0 false .ready none .busy none⟩
    (fun _ => Outs.no)
    ⟨[], fl27, fun vs ms os => p2N q fo x y y1 t = some (x, y1, t) ∧ vs = [] ∧ ms = [] ∧ os = o27 n w seats A x y y1 (x1N fo x y1 : Nat) (x2N fo x y1 t : Nat) (x3N fo x y1 t : Nat) (y1 : Nat) (t : Nat) true .done (some (.exit 0)) .busy none⟩ ?_ ?_ ?_ ?_ ?_
  · rw [hnx]
    exact (sq3B r n w seats A x y y1 t _ _ _ _).trans (qq_ok ⟨rfl, rfl, rfl⟩)
  · rintro F k γ W hF hro h0 vs ms os ⟨rfl, rfl, rfl⟩
    rw [hnx] at h0
    rw [Qb_eq]
    refine Go.Ev.Reach.blockC (Go.Ev.Reach.segR (SC_ok r) ht (tm := .nil) (L := 1) (L' := 1) (d := 5) hF hro h0 [] (fun p hp => nomatch hp) ?_)
    have hn := sq3C r n w seats A x y y1 t (fun s => q s.toNat) fun s => (fo s.toNat : Nat)
    have sm : ∀ l : List Value, m_same l l = true := same_rfl
    have w10 : ∀ a : Nat, a < 1024 → m_w10 ((a : Nat) : Int) = true := fun a h => decide_eq_true ⟨by omega, by omega⟩
    have pG : ∀ a : Nat, a < 65536 → m_popG ((a : Nat) : Int) = true := fun a h => decide_eq_true ⟨by omega, by omega⟩
    have mp : ∀ x : Nat, m_pop ((x : Nat) : Int) = ((popN 16 x : Nat) : Int) := fun x => by unfold m_pop; rw [Int.toNat_natCast]
    have d1 := uAn (show x < 65536 by omega) (hfo y1)
    have b1 : x1N fo x y1 < 65536 := an16 (by omega)
    have d2 := uAn (show x < 65536 by omega) b1
    have b2 : anN x (x1N fo x y1) < 65536 := an16 (by omega)
    have d3 := uAn b2 (hfo t)
    have b3 : x2N fo x y1 t < 65536 := an16 b2
    have d4 := uAn b2 b3
    have b4 : x3N fo x y1 t < 65536 := an16 b2
    have wp : IntKind.wrap IntKind.i64 (((popN 16 y1 : Nat) : Int) + ((popN 16 t : Nat) : Int)) = ((popN 16 y1 + popN 16 t : Nat) : Int) := by
      have := pop_small y1
      have := pop_small t
      rw [wrI (by omega)]
      omega
    have iw : ∀ a : Nat, a < 65536 → IntKind.wrap IntKind.i64 ((a : Nat) : Int) = ((a : Nat) : Int) := fun a h => wrI (by omega)
    have dl : ∀ a b : Nat, decide (((a : Nat) : Int) < ((b : Nat) : Int)) = decide (a < b) := fun a b => by rw [Bool.eq_iff_iff]; simp
    change ibits .andNot .u64 _ _ = ((x1N fo x y1 : Nat) : Int) at d1
    change ibits .andNot .u64 _ _ = ((x2N fo x y1 t : Nat) : Int) at d3
    change ibits .andNot .u64 _ _ = ((x3N fo x y1 t : Nat) : Int) at d4
    simp only [sm, w10 t (by omega), w10 y1 hy1, pG y1 (by omega), pG t (by omega), Int.toNat_natCast, d1, d2, d3, d4, pG _ b4, mp, wp, iw _ b1, iw _ b3, iw _ b4, iw y1 (by omega), iw t (by omega), dl, Bool.true_and, cond_true] at hn
    by_cases c0 : t = 0
    · have e : (((t : Nat) : Int) != Int.ofNat 0) = false := by simp [c0]
      simp only [e, cond_false] at hn
      exact (hn _ _ _).trans (qq_ok ⟨if_neg fun c => c.2.1 c0, rfl, rfl, rfl⟩)
    · have e : (((t : Nat) : Int) != Int.ofNat 0) = true := by simp; omega
      simp only [e, cond_true] at hn
      cases hq : q t with
      | false =>
        simp only [hq, cond_false] at hn
        exact (hn _ _ _).trans (qq_ok ⟨if_neg fun c => (by rw [hq] at c; exact nomatch c.2.2.1), rfl, rfl, rfl⟩)
      | true =>
        simp only [hq, cond_true] at hn
        by_cases c : popN 16 y1 + popN 16 t < popN 16 (x3N fo x y1 t)
        · simp only [decide_eq_true c, cond_true] at hn
          exact (hn _ _ _).trans (qq_ok ⟨if_neg fun h => h.2.2.2 c, rfl, rfl, rfl⟩)
        · simp only [decide_eq_false c, cond_false] at hn
          exact (hn _ _ _).trans (qq_ok ⟨if_pos ⟨hts, c0, hq, c⟩, rfl, rfl, rfl⟩)
  · rintro vs ms os ⟨hP, rfl, rfl, rfl⟩
    obtain ⟨h1, h2⟩ := fnd_next (by omega) hts (fun k hk => p2_out hk) hI hP
    exact ⟨_, _, end27z n w seats A x y y1, ⟨51, 24, 0, by kernel_rfl⟩, _, cn27z n w seats A x y y1, .inl ⟨rfl, fun e => by rw [h1 e]; rfl, fun e => ⟨h2 e, rfl⟩⟩⟩
  · rintro id vs ms os hf
    exact hf.elim
  · rintro vs ms os ⟨hP, rfl, rfl, rfl⟩
    refine ⟨_, _, end27s n w seats A x y y1 _ _ _ _ _, ⟨51, 24, 0, by kernel_rfl⟩, _, cn27s n w seats A x y y1 _ _ _ _ _, .inr ⟨rfl, ?_⟩⟩
    rw [fnd_some hI hP (y + 1) (by omega)]
    rfl

end Go.Proofs

/- The search for a structure: the walks over quiet groups, the rounds of the first one. -/
namespace Go.Proofs
open Go Go.Ev Go.Num
set_option linter.unusedVariables false
set_option linter.unusedSimpArgs false
set_option maxRecDepth 100000

noncomputable def z23 (n : Int) (w : Nat → Int) (seats A x y y1 : Int) : OO := o23 n w seats A x y y1 0 0 0 0 0 false .ready none
noncomputable def e23 (n : Int) (w : Nat → Int) (seats A x y y1 : Int) (fo : Nat → Nat) : Option T3 → OO
  | none => z23 n w seats A x y y1
  | some (a, b, c) => o23 n w seats A x y y1 (x1N fo a b : Nat) (x2N fo a b c : Nat) (x3N fo a b c : Nat) (b : Nat) (c : Nat) true .done (some (.exit 0))

theorem fin0 (r : Mem) (os : OO) : finish (SC r) 223 [] (St.of [] [] [] os) = .ret (.tuple ⟨[]⟩) (mkA os) := rfl

theorem quiet3 {r : Mem} {n : Int} {w : Nat → Int} {q : Nat → Bool} {fo : Nat → Nat} (ht : TOk (SC r) (tSN n w q fo)) (hfo : ∀ s, fo s < 65536) (seats A : Int) {x y y1 : Nat} (hx : x < 1024) (hy : y < 1024) (hy1 : y1 < 1024) :
    SOk (SC r) 54 [fY 22, P0 20, P0 21] (mkA (z23 n w seats A x y y1)) fun v A' => A' = mkA (e23 n w seats A x y y1 fo (fnd (p2N q fo x y y1) (y + 1))) := by
  have hnx : (mkA (z23 n w seats A x y y1)).next = 23 := by kernel_rfl
  refine callO (SC_ok r) (by kernel_rfl) ((bodySC r _).trans Qh_eq) (nt := 21) (by kernel_rfl) (rs := []) (by kernel_rfl) 223 rfl ⟨[], fl23, fun vs ms os => vs = [] ∧ ms = [] ∧ os = e23 n w seats A x y y1 fo (fnd (p2N q fo x y y1) (y + 1))⟩ ?_ fun γ W F k hw hF hro h0 => ?_
  · rintro vs ms os ⟨rfl, rfl, rfl⟩
    exact ⟨_, _, fin0 r _, rfl⟩
  · rw [hnx] at h0
    refine Go.Ev.Reach.afterR (SC_ok r) TOk.nil (tm := .nil) (L := 1) (L' := 1) (d := 3) hF hro h0 (.step .base) (o1 := ⟨lvq, fl23 ++ [.t, .t], fun vs ms os => vs = vq 21 23 24 ∧ ms = [] ∧ os = z23 n w seats A x y y1 ++ [oY 22 23, oG y 24]⟩) [] (fun p hp => nomatch hp) ?_ ((sq3A r n w seats A x y y1 _ _ _).trans (qq_ok ⟨rfl, rfl, rfl⟩))
    rintro vs ms os ⟨rfl, rfl, rfl⟩
    refine Go.Ev.Reach.blockC (Go.Ev.Reach.rangeC (SC_ok r) hF hro h0 (d := 25) (marks := [25]) (A1 := (mkA (z23 n w seats A x y y1 ++ [oY 22 23, oG y 24])).new .defd) (g := 49) (first := []) (captured := [P0 24]) (S := fun v A' => ∃ os, A' = mkA os ∧ os = e27 n w seats A x y y1 fo (fnd (p2N q fo x y y1) (y + 1))) [] (fun p hp => nomatch hp) (by kernel_rfl) (by kernel_rfl) (by kernel_rfl) ?_ ?_)
    · have hA : ((mkA (z23 n w seats A x y y1 ++ [oY 22 23, oG y 24])).new .defd).new (.loop .ready none 223 ⟨[], bT lvq (vq 21 23 24) .nil⟩ 21 #[7] k_q1 k_q2 25) = mkA (z27 n w seats A x y y1) := by kernel_rfl
      have hl : ((mkA (z23 n w seats A x y y1 ++ [oY 22 23, oG y 24])).new .defd).next = 26 := by kernel_rfl
      rw [hA, hl]
      exact groups_iter r (l := 26) (p := 24) (fl := fl27) (s := y) (by omega) (I := fun t os => fnd (p2N q fo x y y1) t = none ∧ os = z27 n w seats A x y y1) (E := fun os => os = e27 n w seats A x y y1 fo (fnd (p2N q fo x y y1) (y + 1))) (os0 := z27 n w seats A x y y1)
        (fun t os hts ⟨hI, ho⟩ => by subst ho; exact y26 ht hfo seats A hx hy hy1 hts hI) ⟨rfl, rfl⟩ (by kernel_rfl) (by kernel_rfl)
    · rintro v A' ⟨os, rfl, rfl⟩
      have hl : ((mkA (z23 n w seats A x y y1 ++ [oY 22 23, oG y 24])).new .defd).next = 26 := by kernel_rfl
      rw [hl]
      cases fnd (p2N q fo x y y1) (y + 1) with
      | none => exact (sq3T r n w seats A x y y1 _ _ _).trans (qq_ok ⟨rfl, rfl, rfl⟩)
      | some t => exact (sq3U r n w seats A x y y1 _ _ _ _ _ _ _ _).trans (qq_ok ⟨rfl, rfl, rfl⟩)

/-! ### the rounds of the first walk over quiet groups -/
noncomputable def z19 (n : Int) (w : Nat → Int) (seats A x y : Int) (st : LoopState) (st' : LoopState) : OO := o19 n w seats A x y 0 0 0 0 0 false st none st' none
noncomputable def s19 (n : Int) (w : Nat → Int) (seats A x y : Int) (fo : Nat → Nat) (st : LoopState) (pend : Option Code) (st' : LoopState) (pend' : Option Code) : T3 → OO
  | (a, b, c) => o19 n w seats A x y (x1N fo a b : Nat) (x2N fo a b c : Nat) (x3N fo a b c : Nat) (b : Nat) (c : Nat) true st pend st' pend'
theorem end14z (n : Int) (w : Nat → Int) (seats A x y : Int) : endR 14 none (St.of [] [] [] (z19 n w seats A x y .busy .busy)) = .ret (.bool true) (endA 14 (r2 .ready none) (mkA (z19 n w seats A x y .busy .busy))) := by kernel_rfl
theorem end14s (n : Int) (w : Nat → Int) (seats A x y f0 f1 f2 f3 f4 : Int) : endR 14 (some (.exit 0)) (St.of [] [] [] (o19 n w seats A x y f0 f1 f2 f3 f4 true .busy none .busy none)) = .ret (.bool false) (endA 14 (r2 .done (some (.exit 0))) (mkA (o19 n w seats A x y f0 f1 f2 f3 f4 true .busy none .busy none))) := by kernel_rfl

/-- What a round comes to. -/
def S14 (n : Int) (w : Nat → Int) (seats A x y : Int) (fo : Nat → Nat) : Option T3 → Value → AW → Prop
  | none => fun v A' => v = .bool true ∧ A' = endA 14 (r2 .ready none) (mkA (z19 n w seats A x y .busy .busy))
  | some t => fun v A' => v = .bool false ∧ A' = endA 14 (r2 .done (some (.exit 0))) (mkA (s19 n w seats A x y fo .busy none .busy none t))

theorem y14 {r : Mem} {n : Int} {w : Nat → Int} {q : Nat → Bool} {fo : Nat → Nat} (ht : TOk (SC r) (tSN n w q fo)) (hfo : ∀ s, fo s < 65536) (seats A : Int) {x y y1 : Nat} (hx : x < 1024) (hy : y < 1024) (hy1 : y1 < 1024) :
    YOk (SC r) 14 [U (y1 : Nat)] (mkA (z19 n w seats A x y .ready .busy)) (S14 n w seats A x y fo (fnd (p2N q fo x y y1) (y + 1))) := by
  have hnx : (mkA (z19 n w seats A x y .ready .busy)).next = 19 := by kernel_rfl
  refine YOk.of (SC_ok r) (i := 14) (st := .ready) (pend := none) (m := 1752347058175) (n := 52) (en := ⟨[], bT lv2 v2 .nil⟩) (params := #[36]) (assign := k_s3) (body := k_s4) (d := 8) (by kernel_rfl) (s0 := []) (b0 := bT (lv2 ++ [36]) (v2 ++ [some (U (y1 : Nat))]) .nil) (by kernel_rfl) TOk.nil (tm := .nil) (L := 1) (L' := 1) (d' := 3)
    ⟨lvC, fl19 ++ [.t], fun vs ms os => vs = [some (P0 0), some (P0 3), some (P0 4), some (P0 5), some (P0 10), some (P0 11), some (P0 19)] ∧ ms = [] ∧ os = z19 n w seats A x y .busy .busy ++ [oG y1 19]⟩
    ⟨[], fl19, fun vs ms os => fnd (p2N q fo x y y1) (y + 1) = none ∧ vs = [] ∧ ms = [] ∧ os = z19 n w seats A x y .busy .busy⟩
    (fun i => if i = 0 then ⟨[], fl19, fun vs ms os => ∃ t, fnd (p2N q fo x y y1) (y + 1) = some t ∧ vs = [] ∧ ms = [] ∧ os = s19 n w seats A x y fo .busy none .busy none t⟩ else Outs.no) Outs.no ?_ ?_ ?_ ?_ ?_
  · rw [hnx]
    exact (suD r n w seats A x y y1 _ _ _ _).trans (qq_ok ⟨rfl, rfl, rfl⟩)
  · rintro F k γ W hF hro h0 vs ms os ⟨rfl, rfl, rfl⟩
    rw [hnx] at h0
    rw [Sc_eq]
    refine Go.Ev.Reach.blockC (Go.Ev.Reach.afterR (SC_ok r) TOk.nil (tm := .nil) (L := 1) (L' := 1) (d := 3) hF hro h0 .base (o1 := ⟨lv3, fl19 ++ [.t, .t, .t], fun vs ms os => vs = v3 ∧ ms = [] ∧ os = z19 n w seats A x y .busy .busy ++ [oG y1 19, oG y 20, oP n w 21]⟩) [] (fun p hp => nomatch hp) ?_ ((suE r n w seats A x y y1 _ _ _).trans (qq_ok ⟨rfl, rfl, rfl⟩)))
    rintro vs ms os ⟨rfl, rfl, rfl⟩
    refine Go.Ev.Reach.blockC (Go.Ev.Reach.rangeC (SC_ok r) hF hro h0 (d := 8) (marks := []) (A1 := mkA (z19 n w seats A x y .busy .busy ++ [oG y1 19, oG y 20, oP n w 21])) (g := 54) (first := []) (captured := [P0 20, P0 21]) (S := fun v A' => A' = mkA (e23 n w seats A x y y1 fo (fnd (p2N q fo x y y1) (y + 1))))
      [(0, ⟨[], fl19, fun vs ms os => ∃ t, fnd (p2N q fo x y y1) (y + 1) = some t ∧ vs = [] ∧ ms = [] ∧ os = s19 n w seats A x y fo .busy none .busy none t⟩)] (fun p hp => by simp only [List.mem_cons, List.not_mem_nil, or_false] at hp; subst hp; rfl) (by kernel_rfl) (by kernel_rfl) (by kernel_rfl) ?_ ?_)
    · have hA : (mkA (z19 n w seats A x y .busy .busy ++ [oG y1 19, oG y 20, oP n w 21])).new (.loop .ready none 1752347058175 ⟨[], bT lv3 v3 .nil⟩ 52 #[40] k_s5 k_s6 8) = mkA (z23 n w seats A x y y1) := by kernel_rfl
      have hl : (mkA (z19 n w seats A x y .busy .busy ++ [oG y1 19, oG y 20, oP n w 21])).next = 22 := by kernel_rfl
      rw [hA, hl]
      exact quiet3 ht hfo seats A hx hy hy1
    · rintro v A' rfl
      have hl : (mkA (z19 n w seats A x y .busy .busy ++ [oG y1 19, oG y 20, oP n w 21])).next = 22 := by kernel_rfl
      rw [hl]
      generalize fnd (p2N q fo x y y1) (y + 1) = o
      cases o with
      | none => exact (su3T r n w seats A x y y1 _ _ _).trans (qq_ok ⟨rfl, rfl, rfl, rfl⟩)
      | some t => exact (su3U r n w seats A x y y1 _ _ _ _ _ _ _ _).trans (qq_ok ⟨t, rfl, rfl, rfl, rfl⟩)
  · rintro vs ms os ⟨hP, rfl, rfl, rfl⟩
    rw [hP]
    exact ⟨_, _, end14z n w seats A x y, rfl, rfl⟩
  · intro id vs ms os hq
    by_cases c : id = 0
    · subst c
      obtain ⟨t, hP, rfl, rfl, rfl⟩ := hq
      rw [hP]
      exact ⟨_, _, end14s n w seats A x y _ _ _ _ _, rfl, rfl⟩
    · simp only [if_neg c] at hq
      exact hq.elim
  · rintro vs ms os hf
    exact hf.elim

end Go.Proofs

