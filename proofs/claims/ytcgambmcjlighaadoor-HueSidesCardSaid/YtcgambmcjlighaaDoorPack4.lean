/- What the claim is proved with, part 4: the evaluator and the contracts of the calls. -/
import Derived.Test.YtcgambmcjlighaaDoorPack3
import Derived.Test.YtcgambmcjlighaaDoorPack2
import Derived.Test.YtcgambmcjlighaaDoorPack1
set_option linter.unusedVariables false
set_option linter.unusedSimpArgs false
set_option maxRecDepth 100000
namespace Go.Proofs
open Go Go.Ev Go.Num
noncomputable def cZI : Code := bodyOf S0 37
noncomputable def ZI_0 : Code := (lc cZI)
noncomputable def ZI_1 : Code := (lc (lc (rc cZI)))
noncomputable def ZI_2 : Code := (ic (ic (rc (lc (rc cZI)))))
noncomputable def ZI_3 : Code := (rc (rc cZI))
theorem ZI_eq : cZI = (.seq ZI_0 (.seq (.seq ZI_1 (.block 0 (.loop ZI_2))) ZI_3)) := by kernel_rfl
noncomputable def cZP : Code := bodyOf S0 25
noncomputable def ZP_0 : Code := (lc cZP)
noncomputable def ZP_1 : Code := (lc (lc (rc cZP)))
noncomputable def ZP_2 : Code := (lc (ic (ic (rc (lc (rc cZP))))))
noncomputable def ZP_3 : Code := (lc (rc (ic (ic (rc (lc (rc cZP)))))))
noncomputable def ZP_4 : Code := (lc (ic (lc (rc (rc (ic (ic (rc (lc (rc cZP))))))))))
noncomputable def ZP_5 : Code := (lc (rc (ic (lc (rc (rc (ic (ic (rc (lc (rc cZP)))))))))))
noncomputable def ZP_6 : Code := (ic (ic (rc (rc (ic (lc (rc (rc (ic (ic (rc (lc (rc cZP)))))))))))))
noncomputable def ZP_7 : Code := (rc (rc (rc (ic (ic (rc (lc (rc cZP))))))))
noncomputable def ZP_8 : Code := (rc (rc cZP))
theorem ZP_eq : cZP = (.seq ZP_0 (.seq (.seq ZP_1 (.block 0 (.loop (.seq ZP_2 (.seq ZP_3 (.seq (.block 1 (.seq ZP_4 (.seq ZP_5 (.block 2 (.loop ZP_6))))) ZP_7)))))) ZP_8)) := by kernel_rfl
noncomputable def cZH : Code := bodyOf S0 9
noncomputable def ZH_0 : Code := (lc cZH)
noncomputable def ZH_1 : Code := (lc (lc (rc cZH)))
noncomputable def ZH_2 : Code := (ic (ic (rc (lc (rc cZH)))))
noncomputable def ZH_3 : Code := (rc (rc cZH))
theorem ZH_eq : cZH = (.seq ZH_0 (.seq (.seq ZH_1 (.block 0 (.loop ZH_2))) ZH_3)) := by kernel_rfl
noncomputable def cZQ : Code := bodyOf S0 10
noncomputable def ZQ_0 : Code := (lc cZQ)
noncomputable def ZQ_1 : Code := (lc (lc (rc cZQ)))
noncomputable def ZQ_2 : Code := (lc (ic (ic (rc (lc (rc cZQ))))))
noncomputable def ZQ_3 : Code := (lc (ic (lc (rc (ic (ic (rc (lc (rc cZQ)))))))))
noncomputable def ZQ_4 : Code := (ic (ic (rc (ic (lc (rc (ic (ic (rc (lc (rc cZQ)))))))))))
noncomputable def ZQ_5 : Code := (rc (rc (ic (ic (rc (lc (rc cZQ)))))))
noncomputable def ZQ_6 : Code := (rc (rc cZQ))
theorem ZQ_eq : cZQ = (.seq ZQ_0 (.seq (.seq ZQ_1 (.block 0 (.loop (.seq ZQ_2 (.seq (.block 1 (.seq ZQ_3 (.block 2 (.loop ZQ_4)))) ZQ_5))))) ZQ_6)) := by kernel_rfl
abbrev fNg : Value := .func (.func 23) ⟨[]⟩ ⟨[]⟩
abbrev vE0 : Value := .slice (some ⟨0, 0, none⟩) 0 unkE
def lvZI : List Nat := [0, 1, 7, 8]
def vZI (b off n cap : Nat) (k : Int) : OV := [some (RS b off n cap), some fNg, some (I (n : Nat)), some (I k)]
noncomputable def tZI (h : Value) (x : Int) : Tbl := tcons 37 (entV [h, fNg] (I x)) fun _ => none
def lvZP : List Nat := [1, 2, 10, 11, 12]
def vZP (b3 off3 n3 cap3 b off n cap : Nat) (i : Int) : OV := [some (RS b3 off3 n3 cap3), some (P0 0), some (RS2 b off n cap), some (I (n : Nat)), some (I i)]
def lvZV : List Nat := [1, 2, 5, 6, 10, 11, 12, 20, 21, 22]
def vZV (b3 off3 n3 cap3 b off n cap : Nat) (i : Int) (a : Nat) (k : Int) : OV := [some (RS b3 off3 n3 cap3), some (P0 0), some (I i), some (P0 1), some (RS2 b off n cap), some (I (n : Nat)), some (I i), some (RS2 b off a cap), some (I (a : Nat)), some (I k)]
def oGr (c : List Value) (i : Nat) : Option AObj := some (.cells c 59 i 0)
def oEd (x y : Int) (i : Nat) : Option AObj := some (.cells [I x, I y] 80 i 0)
def lvZQ : List Nat := [0, 1, 5]
def vZQ (b off n cap b3 off3 n3 cap3 : Nat) (i : Int) : OV := [some (RS2 b off n cap), some (RS b3 off3 n3 cap3), some (I i)]
def lvZW : List Nat := [0, 1, 5, 6]
def vZW (b off n cap b3 off3 n3 cap3 : Nat) (i k : Int) : OV := vZQ b off n cap b3 off3 n3 cap3 i ++ [some (I k)]
theorem ziA (r : Mem) (b off n cap : Nat) (fs : FnsC) (K : OV → List Nat → OO → CR) (kx : Nat → KS) (kr : KS) : run (SC r) 435 19 1 (.seq ZI_0 ZI_1) fs none (rbK 0 lvZI [] K) kx kr (sc0 435 [RS b off n cap, fNg]) (tr0 435 [RS b off n cap, fNg]) [] emptyA =
    K [some (.slice (some ⟨b, off, some 0⟩) n cap), some (.func (Fn.func 23) ⟨[]⟩ ⟨[]⟩), some (I (Int.ofNat n)), some (I (Int.ofNat 0))] [] [] := by kernel_rfl
theorem ziB (r : Mem) (b off n cap : Nat) (k : Int) (K : OV → List Nat → OO → CR) (KX : Nat → OV → List Nat → OO → CR) (KR : OV → List Nat → OO → CR) : run (SC r) 435 19 1 ZI_2 (lvlT (SC r) (fun _ => none) .nil 1 3) none (rbK 0 lvZI [] K) (fun i => rbK 0 [] [] (KX i)) (rbK 0 [4] [] KR) [] (bT lvZI (vZI b off n cap k) .nil) [] (mkA []) =
    bif decide (k < Int.ofNat n) then bif decide (0 ≤ k) then bif Nat.blt (Int.toNat k) n then Option.casesOn (r b (Nat.add off (Nat.mul (Int.toNat k) 1))) (.fail 423) fun val => bif isI IntKind.i64 val then bif decide (ofI val < 0) then KR [some (I k)] [] [] else K [some (.slice (some ⟨b, off, some 0⟩) n cap), some (.func (Fn.func 23) ⟨[]⟩ ⟨[]⟩), some (I (Int.ofNat n)), some (I (IntKind.wrap .i64 (k + Int.ofNat 1)))] [] [] else .fail 420 else .fail 420 else .fail 420 else KX 0 [] [] [] := by kernel_rfl
theorem ziC (r : Mem) (fs : FnsC) (K : OV → List Nat → OO → CR) (kx : Nat → KS) (KR : OV → List Nat → OO → CR) : run (SC r) 435 19 1 ZI_3 fs none (rbK 0 [4] [] K) kx (rbK 0 [4] [] KR) [] (bT [] [] .nil) [] (mkA []) =
    KR [some (I (Int.negSucc 0))] [] [] := by kernel_rfl
theorem zcR (r : Mem) (b off n cap : Nat) (x : Int) : (lvlT (SC r) (tZI (RS b off n cap) x) .nil 1 3).call 24 [RS b off n cap, fNg] emptyA fin =
    bif m_same [.slice (some ⟨b, off, some 0⟩) n cap, .func (Fn.func 23) ⟨[]⟩ ⟨[]⟩] [.slice (some ⟨b, off, some 0⟩) n cap, .func (Fn.func 23) ⟨[]⟩ ⟨[]⟩] then bif decide (x ≥ 0) then .ret (.bool true) (AW.mk 0 .nil .nil) else .ret (.bool false) (AW.mk 0 .nil .nil) else .fail 420 := by kernel_rfl
theorem zpA (r : Mem) (n : Int) (w : Nat → Int) (b off len cap b3 off3 n3 cap3 : Nat) (fs : FnsC) (K : OV → List Nat → OO → CR) (kx : Nat → KS) (kr : KS) : run (SC r) 7347703 43 1 (.seq ZP_0 ZP_1) fs none (rbK 0 lvZP [.g, .g] K) kx kr (sc0 7347703 [.agg ⟨hG n w (RS2 b off len cap)⟩, RS b3 off3 n3 cap3]) (tr0 7347703 [.agg ⟨hG n w (RS2 b off len cap)⟩, RS b3 off3 n3 cap3]) [] emptyA =
    K [some (.slice (some ⟨b3, off3, some 0⟩) n3 cap3), some (.pointer (some ⟨0, 0, none⟩)), some (.slice (some ⟨b, off, some 0⟩) len cap), some (I (Int.ofNat len)), some (I (Int.ofNat 0))] [] [some (.cells (hG n w (.slice (some ⟨b, off, some 0⟩) len cap)) 59 0 0)] := by kernel_rfl
theorem zpB (r : Mem) (g : List Value) (b off len cap b3 off3 n3 cap3 : Nat) (i : Int) (fs : FnsC) (K : OV → List Nat → OO → CR) (KX : Nat → OV → List Nat → OO → CR) (kr : KS) : run (SC r) 7347703 43 1 (.seq ZP_2 ZP_3) fs none (rbK 0 lvZP [.g, .g] K) (fun j => rbK 0 [] [] (KX j)) kr [] (bT lvZP (vZP b3 off3 n3 cap3 b off len cap i) .nil) [] (mkA [oGr g 0]) =
    bif decide (i < Int.ofNat len) then bif m_nns g && true then K [some (.slice (some ⟨b3, off3, some 0⟩) n3 cap3), some (.pointer (some ⟨0, 0, none⟩)), some (.slice (some ⟨b, off, some 0⟩) len cap), some (I (Int.ofNat len)), some (I i)] [] [some (.cells g 59 0 0)] else .fail 420 else KX 0 [] [] [] := by kernel_rfl
theorem zpC (r : Mem) (n : Int) (w : Nat → Int) (b off len cap b3 off3 n3 cap3 : Nat) (i : Int) (fs : FnsC) (K : OV → List Nat → OO → CR) (kx : Nat → KS) (kr : KS) : run (SC r) 7347703 43 1 (.seq ZP_4 ZP_5) fs none (rbK 0 lvZV [.g, .g] K) kx kr [] (bT lvZP (vZP b3 off3 n3 cap3 b off len cap i) .nil) [] (mkA [oGr (hG n w (RS2 b off len cap)) 0]) =
    bif decide (0 ≤ i) then bif Nat.blt (Int.toNat i) len then Option.casesOn (r b (Nat.add off (Nat.mul (Int.toNat i) 2))) (.fail 423) fun val => bif isI IntKind.i64 val then Option.casesOn (r b (Nat.succ (Nat.add off (Nat.mul (Int.toNat i) 2)))) (.fail 423) fun val_1 => bif isI IntKind.i64 val_1 then bif decide (0 ≤ i) then bif Nat.beq cap 9223372036854775809 then .fail 435 else bif Nat.ble (Int.toNat i) cap then bif Nat.beq (Int.toNat i) 0 then K [some (.slice (some ⟨b3, off3, some 0⟩) n3 cap3), some (.pointer (some ⟨0, 0, none⟩)), some (I i), some (.pointer (some ⟨1, 0, none⟩)), some (.slice (some ⟨b, off, some 0⟩) len cap), some (I (Int.ofNat len)), some (I i), some (.slice (some ⟨0, 0, none⟩) 0 9223372036854775809), some (I (Int.ofNat 0)), some (I (Int.ofNat 0))] [] [some (.cells (hG n w (.slice (some ⟨b, off, some 0⟩) len cap)) 59 0 0), some (.cells [I (ofI val), I (ofI val_1)] 80 1 0)] else K [some (.slice (some ⟨b3, off3, some 0⟩) n3 cap3), some (.pointer (some ⟨0, 0, none⟩)), some (I i), some (.pointer (some ⟨1, 0, none⟩)), some (.slice (some ⟨b, off, some 0⟩) len cap), some (I (Int.ofNat len)), some (I i), some (.slice (some ⟨b, (Nat.add off 0), some 0⟩) (Nat.sub (Int.toNat i) 0) (Nat.sub cap 0)), some (I (Int.ofNat (Nat.sub (Int.toNat i) 0))), some (I (Int.ofNat 0))] [] [some (.cells (hG n w (.slice (some ⟨b, off, some 0⟩) len cap)) 59 0 0), some (.cells [I (ofI val), I (ofI val_1)] 80 1 0)] else .fail 420 else .fail 420 else .fail 420 else .fail 420 else .fail 420 else .fail 420 := by kernel_rfl
theorem zpD (r : Mem) (g : List Value) (b off len cap b3 off3 n3 cap3 : Nat) (i : Int) (a : Nat) (k x y : Int) (K : OV → List Nat → OO → CR) (KX : Nat → OV → List Nat → OO → CR) (KR : OV → List Nat → OO → CR) : run (SC r) 7347703 43 1 ZP_6 (lvlT (SC r) (fun _ => none) .nil 1 4) none (rbK 0 lvZV [.g, .g] K) (fun j => rbK 0 lvZP [.g, .g] (KX j)) (rbK 0 [4] [] KR) [] (bT lvZV (vZV b3 off3 n3 cap3 b off len cap i a k) .nil) [] (mkA [oGr g 0, oEd x y 1]) =
    bif decide (k < Int.ofNat a) then bif decide (0 ≤ k) then bif Nat.blt (Int.toNat k) a then Option.casesOn (r b (Nat.add off (Nat.mul (Int.toNat k) 2))) (.fail 423) fun val => bif isI IntKind.i64 val then Option.casesOn (r b (Nat.succ (Nat.add off (Nat.mul (Int.toNat k) 2)))) (.fail 423) fun val_1 => bif isI IntKind.i64 val_1 then bif !(x == ofI val && (y == ofI val_1 && true)) then bif x == ofI val then bif decide (0 ≤ i) then bif Nat.blt (Int.toNat i) n3 then Option.casesOn (r b3 (Nat.add off3 (Nat.mul (Int.toNat i) 1))) (.fail 423) fun val_2 => bif isI IntKind.i64 val_2 then bif decide (0 ≤ k) then bif Nat.blt (Int.toNat k) n3 then Option.casesOn (r b3 (Nat.add off3 (Nat.mul (Int.toNat k) 1))) (.fail 423) fun val_3 => bif isI IntKind.i64 val_3 then bif ofI val_2 == ofI val_3 then Option.casesOn (r b3 (Nat.add off3 (Nat.mul (Int.toNat k) 1))) (.fail 423) fun val_4 => bif isI IntKind.i64 val_4 then bif m_eqv (I (ofI val_4)) (I (ofI val_3)) then Option.casesOn (r b3 (Nat.add off3 (Nat.mul (Int.toNat i) 1))) (.fail 423) fun val_5 => bif isI IntKind.i64 val_5 then bif m_eqv (I (ofI val_5)) (I (ofI val_2)) then bif m_eqv (.agg ⟨[I (ofI val), I (ofI val_1)]⟩) (.agg ⟨[I (ofI val), I (ofI val_1)]⟩) then bif m_eqv (.agg ⟨[I x, I y]⟩) (.agg ⟨[I x, I y]⟩) then KR [some (.bool false)] [] [] else .fail 420 else .fail 420 else .fail 420 else .fail 420 else .fail 420 else .fail 420 else Option.casesOn (r b3 (Nat.add off3 (Nat.mul (Int.toNat k) 1))) (.fail 423) fun val_4 => bif isI IntKind.i64 val_4 then bif m_eqv (I (ofI val_4)) (I (ofI val_3)) then Option.casesOn (r b3 (Nat.add off3 (Nat.mul (Int.toNat i) 1))) (.fail 423) fun val_5 => bif isI IntKind.i64 val_5 then bif m_eqv (I (ofI val_5)) (I (ofI val_2)) then bif m_eqv (.agg ⟨[I (ofI val), I (ofI val_1)]⟩) (.agg ⟨[I (ofI val), I (ofI val_1)]⟩) then bif m_eqv (.agg ⟨[I x, I y]⟩) (.agg ⟨[I x, I y]⟩) then bif m_nns g && (m_nns [I x, I y] && true) then K [some (.slice (some ⟨b3, off3, some 0⟩) n3 cap3), some (.pointer (some ⟨0, 0, none⟩)), some (I i), some (.pointer (some ⟨1, 0, none⟩)), some (.slice (some ⟨b, off, some 0⟩) len cap), some (I (Int.ofNat len)), some (I i), some (.slice (some ⟨b, off, some 0⟩) a cap), some (I (Int.ofNat a)), some (I (IntKind.wrap .i64 (k + Int.ofNat 1)))] [] [some (.cells g 59 0 0), some (.cells [I x, I y] 80 1 0)] else .fail 420 else .fail 420 else .fail 420 else .fail 420 else .fail 420 else .fail 420 else .fail 420 else .fail 420 else .fail 420 else .fail 420 else .fail 420 else .fail 420 else .fail 420 else bif y == ofI val then bif decide (0 ≤ i) then bif Nat.blt (Int.toNat i) n3 then Option.casesOn (r b3 (Nat.add off3 (Nat.mul (Int.toNat i) 1))) (.fail 423) fun val_2 => bif isI IntKind.i64 val_2 then bif decide (0 ≤ k) then bif Nat.blt (Int.toNat k) n3 then Option.casesOn (r b3 (Nat.add off3 (Nat.mul (Int.toNat k) 1))) (.fail 423) fun val_3 => bif isI IntKind.i64 val_3 then bif ofI val_2 == ofI val_3 then Option.casesOn (r b3 (Nat.add off3 (Nat.mul (Int.toNat k) 1))) (.fail 423) fun val_4 => bif isI IntKind.i64 val_4 then bif m_eqv (I (ofI val_4)) (I (ofI val_3)) then Option.casesOn (r b3 (Nat.add off3 (Nat.mul (Int.toNat i) 1))) (.fail 423) fun val_5 => bif isI IntKind.i64 val_5 then bif m_eqv (I (ofI val_5)) (I (ofI val_2)) then bif m_eqv (.agg ⟨[I (ofI val), I (ofI val_1)]⟩) (.agg ⟨[I (ofI val), I (ofI val_1)]⟩) then bif m_eqv (.agg ⟨[I x, I y]⟩) (.agg ⟨[I x, I y]⟩) then KR [some (.bool false)] [] [] else .fail 420 else .fail 420 else .fail 420 else .fail 420 else .fail 420 else .fail 420 else Option.casesOn (r b3 (Nat.add off3 (Nat.mul (Int.toNat k) 1))) (.fail 423) fun val_4 => bif isI IntKind.i64 val_4 then bif m_eqv (I (ofI val_4)) (I (ofI val_3)) then Option.casesOn (r b3 (Nat.add off3 (Nat.mul (Int.toNat i) 1))) (.fail 423) fun val_5 => bif isI IntKind.i64 val_5 then bif m_eqv (I (ofI val_5)) (I (ofI val_2)) then bif m_eqv (.agg ⟨[I (ofI val), I (ofI val_1)]⟩) (.agg ⟨[I (ofI val), I (ofI val_1)]⟩) then bif m_eqv (.agg ⟨[I x, I y]⟩) (.agg ⟨[I x, I y]⟩) then bif m_nns g && (m_nns [I x, I y] && true) then K [some (.slice (some ⟨b3, off3, some 0⟩) n3 cap3), some (.pointer (some ⟨0, 0, none⟩)), some (I i), some (.pointer (some ⟨1, 0, none⟩)), some (.slice (some ⟨b, off, some 0⟩) len cap), some (I (Int.ofNat len)), some (I i), some (.slice (some ⟨b, off, some 0⟩) a cap), some (I (Int.ofNat a)), some (I (IntKind.wrap .i64 (k + Int.ofNat 1)))] [] [some (.cells g 59 0 0), some (.cells [I x, I y] 80 1 0)] else .fail 420 else .fail 420 else .fail 420 else .fail 420 else .fail 420 else .fail 420 else .fail 420 else .fail 420 else .fail 420 else .fail 420 else .fail 420 else .fail 420 else .fail 420 else bif x == ofI val_1 then bif decide (0 ≤ i) then bif Nat.blt (Int.toNat i) n3 then Option.casesOn (r b3 (Nat.add off3 (Nat.mul (Int.toNat i) 1))) (.fail 423) fun val_2 => bif isI IntKind.i64 val_2 then bif decide (0 ≤ k) then bif Nat.blt (Int.toNat k) n3 then Option.casesOn (r b3 (Nat.add off3 (Nat.mul (Int.toNat k) 1))) (.fail 423) fun val_3 => bif isI IntKind.i64 val_3 then bif ofI val_2 == ofI val_3 then Option.casesOn (r b3 (Nat.add off3 (Nat.mul (Int.toNat k) 1))) (.fail 423) fun val_4 => bif isI IntKind.i64 val_4 then bif m_eqv (I (ofI val_4)) (I (ofI val_3)) then Option.casesOn (r b3 (Nat.add off3 (Nat.mul (Int.toNat i) 1))) (.fail 423) fun val_5 => bif isI IntKind.i64 val_5 then bif m_eqv (I (ofI val_5)) (I (ofI val_2)) then bif m_eqv (.agg ⟨[I (ofI val), I (ofI val_1)]⟩) (.agg ⟨[I (ofI val), I (ofI val_1)]⟩) then bif m_eqv (.agg ⟨[I x, I y]⟩) (.agg ⟨[I x, I y]⟩) then KR [some (.bool false)] [] [] else .fail 420 else .fail 420 else .fail 420 else .fail 420 else .fail 420 else .fail 420 else Option.casesOn (r b3 (Nat.add off3 (Nat.mul (Int.toNat k) 1))) (.fail 423) fun val_4 => bif isI IntKind.i64 val_4 then bif m_eqv (I (ofI val_4)) (I (ofI val_3)) then Option.casesOn (r b3 (Nat.add off3 (Nat.mul (Int.toNat i) 1))) (.fail 423) fun val_5 => bif isI IntKind.i64 val_5 then bif m_eqv (I (ofI val_5)) (I (ofI val_2)) then bif m_eqv (.agg ⟨[I (ofI val), I (ofI val_1)]⟩) (.agg ⟨[I (ofI val), I (ofI val_1)]⟩) then bif m_eqv (.agg ⟨[I x, I y]⟩) (.agg ⟨[I x, I y]⟩) then bif m_nns g && (m_nns [I x, I y] && true) then K [some (.slice (some ⟨b3, off3, some 0⟩) n3 cap3), some (.pointer (some ⟨0, 0, none⟩)), some (I i), some (.pointer (some ⟨1, 0, none⟩)), some (.slice (some ⟨b, off, some 0⟩) len cap), some (I (Int.ofNat len)), some (I i), some (.slice (some ⟨b, off, some 0⟩) a cap), some (I (Int.ofNat a)), some (I (IntKind.wrap .i64 (k + Int.ofNat 1)))] [] [some (.cells g 59 0 0), some (.cells [I x, I y] 80 1 0)] else .fail 420 else .fail 420 else .fail 420 else .fail 420 else .fail 420 else .fail 420 else .fail 420 else .fail 420 else .fail 420 else .fail 420 else .fail 420 else .fail 420 else .fail 420 else bif y == ofI val_1 then bif decide (0 ≤ i) then bif Nat.blt (Int.toNat i) n3 then Option.casesOn (r b3 (Nat.add off3 (Nat.mul (Int.toNat i) 1))) (.fail 423) fun val_2 => bif isI IntKind.i64 val_2 then bif decide (0 ≤ k) then bif Nat.blt (Int.toNat k) n3 then Option.casesOn (r b3 (Nat.add off3 (Nat.mul (Int.toNat k) 1))) (.fail 423) fun val_3 => bif isI IntKind.i64 val_3 then bif ofI val_2 == ofI val_3 then Option.casesOn (r b3 (Nat.add off3 (Nat.mul (Int.toNat k) 1))) (.fail 423) fun val_4 => bif isI IntKind.i64 val_4 then bif m_eqv (I (ofI val_4)) (I (ofI val_3)) then Option.casesOn (r b3 (Nat.add off3 (Nat.mul (Int.toNat i) 1))) (.fail 423) fun val_5 => bif isI IntKind.i64 val_5 then bif m_eqv (I (ofI val_5)) (I (ofI val_2)) then bif m_eqv (.agg ⟨[I (ofI val), I (ofI val_1)]⟩) (.agg ⟨[I (ofI val), I (ofI val_1)]⟩) then bif m_eqv (.agg ⟨[I x, I y]⟩) (.agg ⟨[I x, I y]⟩) then KR [some (.bool false)] [] [] else .fail 420 else .fail 420 else .fail 420 else .fail 420 else .fail 420 else .fail 420 else Option.casesOn (r b3 (Nat.add off3 (Nat.mul (Int.toNat k) 1))) (.fail 423) fun val_4 => bif isI IntKind.i64 val_4 then bif m_eqv (I (ofI val_4)) (I (ofI val_3)) then Option.casesOn (r b3 (Nat.add off3 (Nat.mul (Int.toNat i) 1))) (.fail 423) fun val_5 => bif isI IntKind.i64 val_5 then bif m_eqv (I (ofI val_5)) (I (ofI val_2)) then bif m_eqv (.agg ⟨[I (ofI val), I (ofI val_1)]⟩) (.agg ⟨[I (ofI val), I (ofI val_1)]⟩) then bif m_eqv (.agg ⟨[I x, I y]⟩) (.agg ⟨[I x, I y]⟩) then bif m_nns g && (m_nns [I x, I y] && true) then K [some (.slice (some ⟨b3, off3, some 0⟩) n3 cap3), some (.pointer (some ⟨0, 0, none⟩)), some (I i), some (.pointer (some ⟨1, 0, none⟩)), some (.slice (some ⟨b, off, some 0⟩) len cap), some (I (Int.ofNat len)), some (I i), some (.slice (some ⟨b, off, some 0⟩) a cap), some (I (Int.ofNat a)), some (I (IntKind.wrap .i64 (k + Int.ofNat 1)))] [] [some (.cells g 59 0 0), some (.cells [I x, I y] 80 1 0)] else .fail 420 else .fail 420 else .fail 420 else .fail 420 else .fail 420 else .fail 420 else .fail 420 else .fail 420 else .fail 420 else .fail 420 else .fail 420 else .fail 420 else .fail 420 else bif m_eqv (.agg ⟨[I (ofI val), I (ofI val_1)]⟩) (.agg ⟨[I (ofI val), I (ofI val_1)]⟩) then bif m_eqv (.agg ⟨[I x, I y]⟩) (.agg ⟨[I x, I y]⟩) then bif m_nns g && (m_nns [I x, I y] && true) then K [some (.slice (some ⟨b3, off3, some 0⟩) n3 cap3), some (.pointer (some ⟨0, 0, none⟩)), some (I i), some (.pointer (some ⟨1, 0, none⟩)), some (.slice (some ⟨b, off, some 0⟩) len cap), some (I (Int.ofNat len)), some (I i), some (.slice (some ⟨b, off, some 0⟩) a cap), some (I (Int.ofNat a)), some (I (IntKind.wrap .i64 (k + Int.ofNat 1)))] [] [some (.cells g 59 0 0), some (.cells [I x, I y] 80 1 0)] else .fail 420 else .fail 420 else .fail 420 else bif m_eqv (.agg ⟨[I (ofI val), I (ofI val_1)]⟩) (.agg ⟨[I (ofI val), I (ofI val_1)]⟩) then bif m_eqv (.agg ⟨[I x, I y]⟩) (.agg ⟨[I x, I y]⟩) then bif m_nns g && (m_nns [I x, I y] && true) then K [some (.slice (some ⟨b3, off3, some 0⟩) n3 cap3), some (.pointer (some ⟨0, 0, none⟩)), some (I i), some (.pointer (some ⟨1, 0, none⟩)), some (.slice (some ⟨b, off, some 0⟩) len cap), some (I (Int.ofNat len)), some (I i), some (.slice (some ⟨b, off, some 0⟩) a cap), some (I (Int.ofNat a)), some (I (IntKind.wrap .i64 (k + Int.ofNat 1)))] [] [some (.cells g 59 0 0), some (.cells [I x, I y] 80 1 0)] else .fail 420 else .fail 420 else .fail 420 else .fail 420 else .fail 420 else .fail 420 else .fail 420 else bif m_nns g && true then KX 2 [some (.slice (some ⟨b3, off3, some 0⟩) n3 cap3), some (.pointer (some ⟨0, 0, none⟩)), some (.slice (some ⟨b, off, some 0⟩) len cap), some (I (Int.ofNat len)), some (I i)] [] [some (.cells g 59 0 0)] else .fail 420 := by kernel_rfl
theorem zpE (r : Mem) (g : List Value) (b off len cap b3 off3 n3 cap3 : Nat) (i : Int) (fs : FnsC) (K : OV → List Nat → OO → CR) (kx : Nat → KS) (kr : KS) : run (SC r) 7347703 43 1 ZP_7 fs none (rbK 0 lvZP [.g, .g] K) kx kr [] (bT lvZP (vZP b3 off3 n3 cap3 b off len cap i) .nil) [] (mkA [oGr g 0]) =
    bif m_nns g && true then K [some (.slice (some ⟨b3, off3, some 0⟩) n3 cap3), some (.pointer (some ⟨0, 0, none⟩)), some (.slice (some ⟨b, off, some 0⟩) len cap), some (I (Int.ofNat len)), some (I (IntKind.wrap .i64 (i + Int.ofNat 1)))] [] [some (.cells g 59 0 0)] else .fail 420 := by kernel_rfl
theorem zpF (r : Mem) (fs : FnsC) (K KR : OV → List Nat → OO → CR) (kx : Nat → KS) : run (SC r) 7347703 43 1 ZP_8 fs none (rbK 0 [4] [] K) kx (rbK 0 [4] [] KR) [] (bT [] [] .nil) [] (mkA []) =
    KR [some (.bool true)] [] [] := by kernel_rfl
theorem zhAR (r : Mem) (b off len cap b3 off3 n3 cap3 : Nat) (fs : FnsC) (K : OV → List Nat → OO → CR) (kx : Nat → KS) (kr : KS) : run (SC r) 51 22 1 (.seq ZH_0 ZH_1) fs none (rbK 0 [0, 1, 5] [] K) kx kr (sc0 51 [(RS2 b off len cap), RS b3 off3 n3 cap3]) (tr0 51 [(RS2 b off len cap), RS b3 off3 n3 cap3]) [] emptyA =
    K [some (.slice (some ⟨b, off, some 0⟩) len cap), some (.slice (some ⟨b3, off3, some 0⟩) n3 cap3), some (I (Int.ofNat 0))] [] [] := by kernel_rfl
theorem zhBR (r : Mem) (b off len cap b3 off3 n3 cap3 : Nat) (i : Int) (fs : FnsC) (K : OV → List Nat → OO → CR) (KX : Nat → OV → List Nat → OO → CR) (KR : OV → List Nat → OO → CR) : run (SC r) 51 22 1 ZH_2 fs none (rbK 0 [0, 1, 5] [] K) (fun j => rbK 0 [0, 1] [] (KX j)) (rbK 0 [4] [] KR) [] (bT [0, 1, 5] [some (RS2 b off len cap), some (RS b3 off3 n3 cap3), some (I i)] .nil) [] (mkA []) =
    bif decide (i < Int.ofNat n3) then bif decide (0 ≤ i) then bif Nat.blt (Int.toNat i) n3 then Option.casesOn (r b3 (Nat.add off3 (Nat.mul (Int.toNat i) 1))) (.fail 423) fun val => bif isI IntKind.i64 val then bif decide (ofI val < 0) then KR [some (.bool false)] [] [] else K [some (.slice (some ⟨b, off, some 0⟩) len cap), some (.slice (some ⟨b3, off3, some 0⟩) n3 cap3), some (I (IntKind.wrap .i64 (i + Int.ofNat 1)))] [] [] else .fail 420 else .fail 420 else .fail 420 else KX 0 [some (.slice (some ⟨b, off, some 0⟩) len cap), some (.slice (some ⟨b3, off3, some 0⟩) n3 cap3)] [] [] := by kernel_rfl
theorem zhCR (r : Mem) (b off len cap b3 off3 n3 cap3 : Nat) (fs : FnsC) (K : OV → List Nat → OO → CR) (kx : Nat → KS) (KR : OV → List Nat → OO → CR) : run (SC r) 51 22 1 ZH_3 fs none (rbK 0 [4] [] K) kx (rbK 0 [4] [] KR) [] (bT [0, 1] [some (RS2 b off len cap), some (RS b3 off3 n3 cap3)] .nil) [] (mkA []) =
    bif Int.ofNat n3 == Int.ofNat len then KR [some (.bool true)] [] [] else KR [some (.bool false)] [] [] := by kernel_rfl
theorem zhNR (r : Mem) (b off len cap : Nat) : (lvlT (SC r) (fun _ => none) .nil 1 3).call 9 [(RS2 b off len cap), .slice none 0 0] emptyA fin =
    bif Int.ofNat 0 == Int.ofNat len then .ret (.bool true) (AW.mk 0 .nil .nil) else .ret (.bool false) (AW.mk 0 .nil .nil) := by kernel_rfl
theorem zhAN (r : Mem) (b3 off3 n3 cap3 : Nat) (fs : FnsC) (K : OV → List Nat → OO → CR) (kx : Nat → KS) (kr : KS) : run (SC r) 51 22 1 (.seq ZH_0 ZH_1) fs none (rbK 0 [0, 1, 5] [] K) kx kr (sc0 51 [(.slice none 0 0), RS b3 off3 n3 cap3]) (tr0 51 [(.slice none 0 0), RS b3 off3 n3 cap3]) [] emptyA =
    K [some (.slice none 0 0), some (.slice (some ⟨b3, off3, some 0⟩) n3 cap3), some (I (Int.ofNat 0))] [] [] := by kernel_rfl
theorem zhBN (r : Mem) (b3 off3 n3 cap3 : Nat) (i : Int) (fs : FnsC) (K : OV → List Nat → OO → CR) (KX : Nat → OV → List Nat → OO → CR) (KR : OV → List Nat → OO → CR) : run (SC r) 51 22 1 ZH_2 fs none (rbK 0 [0, 1, 5] [] K) (fun j => rbK 0 [0, 1] [] (KX j)) (rbK 0 [4] [] KR) [] (bT [0, 1, 5] [some (.slice none 0 0), some (RS b3 off3 n3 cap3), some (I i)] .nil) [] (mkA []) =
    bif decide (i < Int.ofNat n3) then bif decide (0 ≤ i) then bif Nat.blt (Int.toNat i) n3 then Option.casesOn (r b3 (Nat.add off3 (Nat.mul (Int.toNat i) 1))) (.fail 423) fun val => bif isI IntKind.i64 val then bif decide (ofI val < 0) then KR [some (.bool false)] [] [] else K [some (.slice none 0 0), some (.slice (some ⟨b3, off3, some 0⟩) n3 cap3), some (I (IntKind.wrap .i64 (i + Int.ofNat 1)))] [] [] else .fail 420 else .fail 420 else .fail 420 else KX 0 [some (.slice none 0 0), some (.slice (some ⟨b3, off3, some 0⟩) n3 cap3)] [] [] := by kernel_rfl
theorem zhCN (r : Mem) (b3 off3 n3 cap3 : Nat) (fs : FnsC) (K : OV → List Nat → OO → CR) (kx : Nat → KS) (KR : OV → List Nat → OO → CR) : run (SC r) 51 22 1 ZH_3 fs none (rbK 0 [4] [] K) kx (rbK 0 [4] [] KR) [] (bT [0, 1] [some (.slice none 0 0), some (RS b3 off3 n3 cap3)] .nil) [] (mkA []) =
    bif Int.ofNat n3 == Int.ofNat 0 then KR [some (.bool true)] [] [] else KR [some (.bool false)] [] [] := by kernel_rfl
theorem zhNN (r : Mem) : (lvlT (SC r) (fun _ => none) .nil 1 3).call 9 [(.slice none 0 0), .slice none 0 0] emptyA fin =
    .ret (.bool true) (AW.mk 0 .nil .nil) := by kernel_rfl
theorem zqA (r : Mem) (b off len cap b3 off3 n3 cap3 : Nat) (fs : FnsC) (K : OV → List Nat → OO → CR) (kx : Nat → KS) (kr : KS) : run (SC r) 115 38 1 (.seq ZQ_0 ZQ_1) fs none (rbK 0 lvZQ [] K) kx kr (sc0 115 [RS2 b off len cap, RS b3 off3 n3 cap3]) (tr0 115 [RS2 b off len cap, RS b3 off3 n3 cap3]) [] emptyA =
    K [some (.slice (some ⟨b, off, some 0⟩) len cap), some (.slice (some ⟨b3, off3, some 0⟩) n3 cap3), some (I (Int.ofNat 0))] [] [] := by kernel_rfl
theorem zqB (r : Mem) (b off len cap b3 off3 n3 cap3 : Nat) (i : Int) (fs : FnsC) (K : OV → List Nat → OO → CR) (KX : Nat → OV → List Nat → OO → CR) (kr : KS) : run (SC r) 115 38 1 ZQ_2 fs none (rbK 0 lvZQ [] K) (fun j => rbK 0 [] [] (KX j)) kr [] (bT lvZQ (vZQ b off len cap b3 off3 n3 cap3 i) .nil) [] (mkA []) =
    bif decide (i < Int.ofNat len) then K [some (.slice (some ⟨b, off, some 0⟩) len cap), some (.slice (some ⟨b3, off3, some 0⟩) n3 cap3), some (I i)] [] [] else KX 0 [] [] [] := by kernel_rfl
theorem zqC (r : Mem) (b off len cap b3 off3 n3 cap3 : Nat) (i : Int) (fs : FnsC) (K : OV → List Nat → OO → CR) (kx : Nat → KS) (kr : KS) : run (SC r) 115 38 1 ZQ_3 fs none (rbK 0 lvZW [] K) kx kr [] (bT lvZQ (vZQ b off len cap b3 off3 n3 cap3 i) .nil) [] (mkA []) =
    K [some (.slice (some ⟨b, off, some 0⟩) len cap), some (.slice (some ⟨b3, off3, some 0⟩) n3 cap3), some (I i), some (I (Int.ofNat 0))] [] [] := by kernel_rfl
theorem zqD (r : Mem) (b off len cap b3 off3 n3 cap3 : Nat) (i k : Int) (K : OV → List Nat → OO → CR) (KX : Nat → OV → List Nat → OO → CR) (KR : OV → List Nat → OO → CR) : run (SC r) 115 38 1 ZQ_4 (lvlT (SC r) (fun _ => none) .nil 1 4) none (rbK 0 lvZW [] K) (fun j => rbK 0 lvZQ [] (KX j)) (rbK 0 [4] [] KR) [] (bT lvZW (vZW b off len cap b3 off3 n3 cap3 i k) .nil) [] (mkA []) =
    bif decide (k < i) then bif decide (0 ≤ i) then bif Nat.blt (Int.toNat i) n3 then Option.casesOn (r b3 (Nat.add off3 (Nat.mul (Int.toNat i) 1))) (.fail 423) fun val => bif isI IntKind.i64 val then bif decide (0 ≤ k) then bif Nat.blt (Int.toNat k) n3 then Option.casesOn (r b3 (Nat.add off3 (Nat.mul (Int.toNat k) 1))) (.fail 423) fun val_1 => bif isI IntKind.i64 val_1 then bif ofI val == ofI val_1 then bif decide (0 ≤ i) then bif Nat.blt (Int.toNat i) len then Option.casesOn (r b (Nat.add off (Nat.mul (Int.toNat i) 2))) (.fail 423) fun val_2 => bif isI IntKind.i64 val_2 then Option.casesOn (r b (Nat.succ (Nat.add off (Nat.mul (Int.toNat i) 2)))) (.fail 423) fun val_3 => bif isI IntKind.i64 val_3 then bif decide (0 ≤ k) then bif Nat.blt (Int.toNat k) len then Option.casesOn (r b (Nat.add off (Nat.mul (Int.toNat k) 2))) (.fail 423) fun val_4 => bif isI IntKind.i64 val_4 then Option.casesOn (r b (Nat.succ (Nat.add off (Nat.mul (Int.toNat k) 2)))) (.fail 423) fun val_5 => bif isI IntKind.i64 val_5 then bif ofI val_2 == ofI val_4 then Option.casesOn (r b (Nat.add off (Nat.mul (Int.toNat k) 2))) (.fail 423) fun val_6 => bif isI IntKind.i64 val_6 then Option.casesOn (r b (Nat.succ (Nat.add off (Nat.mul (Int.toNat k) 2)))) (.fail 423) fun val_7 => bif isI IntKind.i64 val_7 then bif m_eqv (.agg ⟨[I (ofI val_6), I (ofI val_7)]⟩) (.agg ⟨[I (ofI val_4), I (ofI val_5)]⟩) then Option.casesOn (r b (Nat.add off (Nat.mul (Int.toNat i) 2))) (.fail 423) fun val_8 => bif isI IntKind.i64 val_8 then Option.casesOn (r b (Nat.succ (Nat.add off (Nat.mul (Int.toNat i) 2)))) (.fail 423) fun val_9 => bif isI IntKind.i64 val_9 then bif m_eqv (.agg ⟨[I (ofI val_8), I (ofI val_9)]⟩) (.agg ⟨[I (ofI val_2), I (ofI val_3)]⟩) then Option.casesOn (r b3 (Nat.add off3 (Nat.mul (Int.toNat k) 1))) (.fail 423) fun val_10 => bif isI IntKind.i64 val_10 then bif m_eqv (I (ofI val_10)) (I (ofI val_1)) then Option.casesOn (r b3 (Nat.add off3 (Nat.mul (Int.toNat i) 1))) (.fail 423) fun val_11 => bif isI IntKind.i64 val_11 then bif m_eqv (I (ofI val_11)) (I (ofI val)) then KR [some (.bool false)] [] [] else .fail 420 else .fail 420 else .fail 420 else .fail 420 else .fail 420 else .fail 420 else .fail 420 else .fail 420 else .fail 420 else .fail 420 else bif ofI val_2 == ofI val_5 then Option.casesOn (r b (Nat.add off (Nat.mul (Int.toNat k) 2))) (.fail 423) fun val_6 => bif isI IntKind.i64 val_6 then Option.casesOn (r b (Nat.succ (Nat.add off (Nat.mul (Int.toNat k) 2)))) (.fail 423) fun val_7 => bif isI IntKind.i64 val_7 then bif m_eqv (.agg ⟨[I (ofI val_6), I (ofI val_7)]⟩) (.agg ⟨[I (ofI val_4), I (ofI val_5)]⟩) then Option.casesOn (r b (Nat.add off (Nat.mul (Int.toNat i) 2))) (.fail 423) fun val_8 => bif isI IntKind.i64 val_8 then Option.casesOn (r b (Nat.succ (Nat.add off (Nat.mul (Int.toNat i) 2)))) (.fail 423) fun val_9 => bif isI IntKind.i64 val_9 then bif m_eqv (.agg ⟨[I (ofI val_8), I (ofI val_9)]⟩) (.agg ⟨[I (ofI val_2), I (ofI val_3)]⟩) then Option.casesOn (r b3 (Nat.add off3 (Nat.mul (Int.toNat k) 1))) (.fail 423) fun val_10 => bif isI IntKind.i64 val_10 then bif m_eqv (I (ofI val_10)) (I (ofI val_1)) then Option.casesOn (r b3 (Nat.add off3 (Nat.mul (Int.toNat i) 1))) (.fail 423) fun val_11 => bif isI IntKind.i64 val_11 then bif m_eqv (I (ofI val_11)) (I (ofI val)) then KR [some (.bool false)] [] [] else .fail 420 else .fail 420 else .fail 420 else .fail 420 else .fail 420 else .fail 420 else .fail 420 else .fail 420 else .fail 420 else .fail 420 else bif ofI val_3 == ofI val_4 then Option.casesOn (r b (Nat.add off (Nat.mul (Int.toNat k) 2))) (.fail 423) fun val_6 => bif isI IntKind.i64 val_6 then Option.casesOn (r b (Nat.succ (Nat.add off (Nat.mul (Int.toNat k) 2)))) (.fail 423) fun val_7 => bif isI IntKind.i64 val_7 then bif m_eqv (.agg ⟨[I (ofI val_6), I (ofI val_7)]⟩) (.agg ⟨[I (ofI val_4), I (ofI val_5)]⟩) then Option.casesOn (r b (Nat.add off (Nat.mul (Int.toNat i) 2))) (.fail 423) fun val_8 => bif isI IntKind.i64 val_8 then Option.casesOn (r b (Nat.succ (Nat.add off (Nat.mul (Int.toNat i) 2)))) (.fail 423) fun val_9 => bif isI IntKind.i64 val_9 then bif m_eqv (.agg ⟨[I (ofI val_8), I (ofI val_9)]⟩) (.agg ⟨[I (ofI val_2), I (ofI val_3)]⟩) then Option.casesOn (r b3 (Nat.add off3 (Nat.mul (Int.toNat k) 1))) (.fail 423) fun val_10 => bif isI IntKind.i64 val_10 then bif m_eqv (I (ofI val_10)) (I (ofI val_1)) then Option.casesOn (r b3 (Nat.add off3 (Nat.mul (Int.toNat i) 1))) (.fail 423) fun val_11 => bif isI IntKind.i64 val_11 then bif m_eqv (I (ofI val_11)) (I (ofI val)) then KR [some (.bool false)] [] [] else .fail 420 else .fail 420 else .fail 420 else .fail 420 else .fail 420 else .fail 420 else .fail 420 else .fail 420 else .fail 420 else .fail 420 else bif ofI val_3 == ofI val_5 then Option.casesOn (r b (Nat.add off (Nat.mul (Int.toNat k) 2))) (.fail 423) fun val_6 => bif isI IntKind.i64 val_6 then Option.casesOn (r b (Nat.succ (Nat.add off (Nat.mul (Int.toNat k) 2)))) (.fail 423) fun val_7 => bif isI IntKind.i64 val_7 then bif m_eqv (.agg ⟨[I (ofI val_6), I (ofI val_7)]⟩) (.agg ⟨[I (ofI val_4), I (ofI val_5)]⟩) then Option.casesOn (r b (Nat.add off (Nat.mul (Int.toNat i) 2))) (.fail 423) fun val_8 => bif isI IntKind.i64 val_8 then Option.casesOn (r b (Nat.succ (Nat.add off (Nat.mul (Int.toNat i) 2)))) (.fail 423) fun val_9 => bif isI IntKind.i64 val_9 then bif m_eqv (.agg ⟨[I (ofI val_8), I (ofI val_9)]⟩) (.agg ⟨[I (ofI val_2), I (ofI val_3)]⟩) then Option.casesOn (r b3 (Nat.add off3 (Nat.mul (Int.toNat k) 1))) (.fail 423) fun val_10 => bif isI IntKind.i64 val_10 then bif m_eqv (I (ofI val_10)) (I (ofI val_1)) then Option.casesOn (r b3 (Nat.add off3 (Nat.mul (Int.toNat i) 1))) (.fail 423) fun val_11 => bif isI IntKind.i64 val_11 then bif m_eqv (I (ofI val_11)) (I (ofI val)) then KR [some (.bool false)] [] [] else .fail 420 else .fail 420 else .fail 420 else .fail 420 else .fail 420 else .fail 420 else .fail 420 else .fail 420 else .fail 420 else .fail 420 else Option.casesOn (r b (Nat.add off (Nat.mul (Int.toNat k) 2))) (.fail 423) fun val_6 => bif isI IntKind.i64 val_6 then Option.casesOn (r b (Nat.succ (Nat.add off (Nat.mul (Int.toNat k) 2)))) (.fail 423) fun val_7 => bif isI IntKind.i64 val_7 then bif m_eqv (.agg ⟨[I (ofI val_6), I (ofI val_7)]⟩) (.agg ⟨[I (ofI val_4), I (ofI val_5)]⟩) then Option.casesOn (r b (Nat.add off (Nat.mul (Int.toNat i) 2))) (.fail 423) fun val_8 => bif isI IntKind.i64 val_8 then Option.casesOn (r b (Nat.succ (Nat.add off (Nat.mul (Int.toNat i) 2)))) (.fail 423) fun val_9 => bif isI IntKind.i64 val_9 then bif m_eqv (.agg ⟨[I (ofI val_8), I (ofI val_9)]⟩) (.agg ⟨[I (ofI val_2), I (ofI val_3)]⟩) then Option.casesOn (r b3 (Nat.add off3 (Nat.mul (Int.toNat k) 1))) (.fail 423) fun val_10 => bif isI IntKind.i64 val_10 then bif m_eqv (I (ofI val_10)) (I (ofI val_1)) then Option.casesOn (r b3 (Nat.add off3 (Nat.mul (Int.toNat i) 1))) (.fail 423) fun val_11 => bif isI IntKind.i64 val_11 then bif m_eqv (I (ofI val_11)) (I (ofI val)) then K [some (.slice (some ⟨b, off, some 0⟩) len cap), some (.slice (some ⟨b3, off3, some 0⟩) n3 cap3), some (I i), some (I (IntKind.wrap .i64 (k + Int.ofNat 1)))] [] [] else .fail 420 else .fail 420 else .fail 420 else .fail 420 else .fail 420 else .fail 420 else .fail 420 else .fail 420 else .fail 420 else .fail 420 else .fail 420 else .fail 420 else .fail 420 else .fail 420 else .fail 420 else .fail 420 else .fail 420 else .fail 420 else K [some (.slice (some ⟨b, off, some 0⟩) len cap), some (.slice (some ⟨b3, off3, some 0⟩) n3 cap3), some (I i), some (I (IntKind.wrap .i64 (k + Int.ofNat 1)))] [] [] else .fail 420 else .fail 420 else .fail 420 else .fail 420 else .fail 420 else .fail 420 else KX 2 [some (.slice (some ⟨b, off, some 0⟩) len cap), some (.slice (some ⟨b3, off3, some 0⟩) n3 cap3), some (I i)] [] [] := by kernel_rfl
theorem zqE (r : Mem) (b off len cap b3 off3 n3 cap3 : Nat) (i : Int) (fs : FnsC) (K : OV → List Nat → OO → CR) (kx : Nat → KS) (kr : KS) : run (SC r) 115 38 1 ZQ_5 fs none (rbK 0 lvZQ [] K) kx kr [] (bT lvZQ (vZQ b off len cap b3 off3 n3 cap3 i) .nil) [] (mkA []) =
    K [some (.slice (some ⟨b, off, some 0⟩) len cap), some (.slice (some ⟨b3, off3, some 0⟩) n3 cap3), some (I (IntKind.wrap .i64 (i + Int.ofNat 1)))] [] [] := by kernel_rfl
theorem zqF (r : Mem) (fs : FnsC) (K KR : OV → List Nat → OO → CR) (kx : Nat → KS) : run (SC r) 115 38 1 ZQ_6 fs none (rbK 0 [4] [] K) kx (rbK 0 [4] [] KR) [] (bT [] [] .nil) [] (mkA []) =
    KR [some (.bool true)] [] [] := by kernel_rfl
theorem zqN (r : Mem) (b3 off3 n3 cap3 : Nat) : (lvlT (SC r) (fun _ => none) .nil 1 3).call 10 [.slice none 0 0, RS b3 off3 n3 cap3] emptyA fin =
    .ret (.bool true) (AW.mk 0 .nil .nil) := by kernel_rfl
theorem zqM (r : Mem) : (lvlT (SC r) (fun _ => none) .nil 1 3).call 10 [.slice none 0 0, .slice none 0 0] emptyA fin =
    .ret (.bool true) (AW.mk 0 .nil .nil) := by kernel_rfl
theorem zqO (r : Mem) (b off cap : Nat) : (lvlT (SC r) (fun _ => none) .nil 1 3).call 10 [RS2 b off 0 cap, .slice none 0 0] emptyA fin =
    .ret (.bool true) (AW.mk 0 .nil .nil) := by kernel_rfl
theorem zpD0 (r : Mem) (g : List Value) (b off len cap b3 off3 n3 cap3 : Nat) (x y : Int) (fs : FnsC) (K : OV → List Nat → OO → CR) (KX : Nat → OV → List Nat → OO → CR) (KR : OV → List Nat → OO → CR) : run (SC r) 7347703 43 1 ZP_6 fs none (rbK 0 lvZV [.g, .g] K) (fun j => rbK 0 lvZP [.g, .g] (KX j)) (rbK 0 [4] [] KR) [] (bT lvZV [some (RS b3 off3 n3 cap3), some (P0 0), some (I 0), some (P0 1), some (RS2 b off len cap), some (I (len : Nat)), some (I 0), some vE0, some (I 0), some (I 0)] .nil) [] (mkA [oGr g 0, oEd x y 1]) =
    bif m_nns g && true then KX 2 [some (.slice (some ⟨b3, off3, some 0⟩) n3 cap3), some (.pointer (some ⟨0, 0, none⟩)), some (.slice (some ⟨b, off, some 0⟩) len cap), some (I (Int.ofNat len)), some (I (Int.ofNat 0))] [] [some (.cells g 59 0 0)] else .fail 420 := by kernel_rfl
end Go.Proofs
namespace Go.Proofs
open Go Go.Ev Go.Num
def ngQ (hs : List Int) (k : Nat) : Bool := decide (hs.getD k 0 < 0)
def ngF (hs : List Int) : Option Nat := ff (ngQ hs) hs.length
def ngI (hs : List Int) : Int := match ngF hs with
 | none => -1
 | some k => (k : Nat)
def huB (n : Nat) (hs : List Int) : Bool := !(ngF hs).isSome && (hs.length == n)
def meE (E : List (Nat × Nat)) (i k : Nat) : Bool := (((E.getD i (0, 0)).1 : Int) == ((E.getD k (0, 0)).1 : Int)) || ((((E.getD i (0, 0)).1 : Int) == ((E.getD k (0, 0)).2 : Int)) || ((((E.getD i (0, 0)).2 : Int) == ((E.getD k (0, 0)).1 : Int)) || (((E.getD i (0, 0)).2 : Int) == ((E.getD k (0, 0)).2 : Int))))
def ppQ (E : List (Nat × Nat)) (hs : List Int) (i k : Nat) : Bool := (hs.getD i 0 == hs.getD k 0) && meE E i k
def ppR (E : List (Nat × Nat)) (hs : List Int) (i : Nat) : Bool := (ff (ppQ E hs i) i).isSome
def ppB (E : List (Nat × Nat)) (hs : List Int) : Bool := !(ff (ppR E hs) E.length).isSome
theorem ppR_no {E : List (Nat × Nat)} {hs : List Int} {i : Nat} (h : ∀ k, k < i → ppQ E hs i k = false) : ppR E hs i = false := by unfold ppR; rw [ff_none h]; rfl
theorem ppR_yes {E : List (Nat × Nat)} {hs : List Int} {i k : Nat} (h : ∀ j, j < k → ppQ E hs i j = false) (hk : ppQ E hs i k = true) (hi : k < i) : ppR E hs i = true := by unfold ppR; rw [ff_some h hk hi]; rfl
theorem ppB_yes {E : List (Nat × Nat)} {hs : List Int} (h : ∀ i, i < E.length → ppR E hs i = false) : ppB E hs = true := by unfold ppB; rw [ff_none h]; rfl
theorem ppB_no {E : List (Nat × Nat)} {hs : List Int} {i : Nat} (h : ∀ j, j < i → ppR E hs j = false) (hi : i < E.length) (hr : ppR E hs i = true) : ppB E hs = false := by unfold ppB; rw [ff_some h hr hi]; rfl
theorem E_srt {m : Nat} {E : List (Nat × Nat)} (hE : okAll (m : Int) (zE E) E.length = true) {i : Nat} (hi : i + 1 < E.length) : (E.getD i (0, 0)).1 < (E.getD (i + 1) (0, 0)).1 ∨ ((E.getD i (0, 0)).1 = (E.getD (i + 1) (0, 0)).1 ∧ (E.getD i (0, 0)).2 < (E.getD (i + 1) (0, 0)).2) := by
 have h := okFrom_at E.length 0 hE (i + 1) (by omega) (by omega)
 simp only [okAt, Bool.and_eq_true, Bool.or_eq_true, decide_eq_true_eq, Nat.add_sub_cancel, ea_E, eb_E] at h
 rcases h.2 with (h | h) | h
 ·simp at h
 ·exact .inl (by omega)
 ·exact .inr ⟨by omega, by omega⟩
theorem E_lt {m : Nat} {E : List (Nat × Nat)} (hE : okAll (m : Int) (zE E) E.length = true) (k : Nat) : ∀ i, k < i → i < E.length → (E.getD k (0, 0)).1 < (E.getD i (0, 0)).1 ∨ ((E.getD k (0, 0)).1 = (E.getD i (0, 0)).1 ∧ (E.getD k (0, 0)).2 < (E.getD i (0, 0)).2)
 | 0, h, _ => absurd h (by omega)
 | i + 1, h, hi => by
  have h1 := E_srt hE hi
  by_cases c : k = i
  ·subst c; exact h1
  ·have h2 := E_lt hE k i (by omega) (by omega)
   omega
theorem E_ne {m : Nat} {E : List (Nat × Nat)} (hE : okAll (m : Int) (zE E) E.length = true) {k i : Nat} (h : k < i) (hi : i < E.length) : ((((E.getD i (0, 0)).1 : Int) == ((E.getD k (0, 0)).1 : Int)) && ((((E.getD i (0, 0)).2 : Int) == ((E.getD k (0, 0)).2 : Int)) && true)) = false := by
 have h1 := E_lt hE k i h hi
 rw [Bool.and_true]
 cases c : (((E.getD i (0, 0)).1 : Int) == ((E.getD k (0, 0)).1 : Int)) with
 | false => rfl
 | true =>
  have c := eq_of_beq c
  rw [Bool.true_and]
  exact beq_eq_false_iff_ne.2 (by omega)
section
variable (r : Mem) {b3 off3 cap3 : Nat} {hs : List Int} (hh : ∀ k, k < hs.length → r b3 (off3 + k) = some (I (hs.getD k 0))) (hl : hs.length < 1000000)
include hh
theorem h_at {k : Nat} (hk : k < hs.length) : r b3 (Nat.add off3 (Nat.mul k 1)) = some (I (hs.getD k 0)) := by rw [Nat.mul_eq, Nat.mul_one]; exact hh k hk
include hl
theorem zi_ok : GrT Tryd.prog r 37 [RS b3 off3 hs.length cap3, fNg] (I (ngI hs)) := by
 refine GrT.ofS (C := SC r) rfl rfl rfl (callL (SC_ok r) (by kernel_rfl) ((bodySC r _).trans ZI_eq) (nt := 19) (by kernel_rfl) (rs := [.tmp 4]) (by kernel_rfl) 435 rfl (.step .base) TOk.nil (tm := .nil) (L := 1) (d := 1) lvZI []
  (fun j vs ms os => ∃ k, k ≤ hs.length ∧ j = hs.length - k ∧ (∀ i, i < k → ngQ hs i = false) ∧ vs = vZI b3 off3 hs.length cap3 (k : Nat) ∧ ms = [] ∧ os = [])
  ⟨[], [], fun vs ms os => ngI hs = -1 ∧ vs = [] ∧ ms = [] ∧ os = []⟩
  ⟨[4], [], fun vs ms os => vs = [some (I (ngI hs))] ∧ ms = [] ∧ os = []⟩ ?_ ?_ ?_ ?_)
 ·exact (ziA r b3 off3 hs.length cap3 _ _ _ _).trans (qq_ok ⟨hs.length, 0, Nat.zero_le _, rfl, fun i h => absurd h (by omega), rfl, rfl, rfl⟩)
 ·rintro j vs ms os ⟨k, hk, rfl, hq, rfl, rfl, rfl⟩
  refine ⟨_, TOk.nil, .nil, 1, 1, 3, ?_⟩
  have hn := ziB r b3 off3 hs.length cap3 (k : Nat)
  by_cases c : k < hs.length
  ·have e1 := h_at r hh c
   simp only [dT (show (k : Int) < Int.ofNat hs.length by simp; omega), dT (show 0 ≤ (k : Int) by omega), Int.toNat_natCast, show Nat.blt k hs.length = true from Nat.ble_eq_true_of_le c, e1, show ∀ x, isI IntKind.i64 (I x) = true from fun _ => rfl, show ∀ x, ofI (I x) = x from fun _ => rfl, inc1 (show k < 1000000 by omega), cond_true] at hn
   cases hb : ngQ hs k with
   | true =>
    rw [show decide (hs.getD k 0 < 0) = true from hb] at hn
    simp only [cond_true] at hn
    have : ngF hs = some k := ff_some hq hb c
    exact (hn _ _ _).trans (qq_ok ⟨by unfold ngI; rw [this], rfl, rfl⟩)
   | false =>
    rw [show decide (hs.getD k 0 < 0) = false from hb] at hn
    simp only [cond_false] at hn
    exact (hn _ _ _).trans (qq_ok ⟨hs.length - (k + 1), by omega, k + 1, c, rfl, fun i hi => by
     by_cases e : i = k
     ·rw [e]; exact hb
     ·exact hq i (by omega), rfl, rfl, rfl⟩)
  ·obtain rfl : k = hs.length := by omega
   simp only [dF (show ¬ (hs.length : Int) < Int.ofNat hs.length by simp), cond_false] at hn
   have : ngF hs = none := ff_none hq
   exact (hn _ _ _).trans (qq_ok ⟨by unfold ngI; rw [this], rfl, rfl, rfl⟩)
 ·rintro vs ms os ⟨hx, rfl, rfl, rfl⟩
  exact ⟨_, TOk.nil, .nil, 1, 1, 1, (ziC r _ _ _ _).trans (qq_ok ⟨by rw [hx]; rfl, rfl, rfl⟩)⟩
 ·rintro vs ms os ⟨rfl, rfl, rfl⟩
  exact ⟨_, mkA [], by kernel_rfl, rfl⟩
theorem zc_ok : GrT Tryd.prog r 24 [RS b3 off3 hs.length cap3, fNg] (.bool (ngF hs).isSome) :=
 GrT.of (SC_ok r) (show TOk (SC r) (tZI (RS b3 off3 hs.length cap3) (ngI hs)) from TOk.cons TOk.nil (entV_ok (zi_ok r hh hl) rfl)) .nil rfl ⟨1, 3, by
  rw [zcR, show ∀ l : List Value, m_same l l = true from same_rfl, cond_true]
  unfold ngI
  cases ngF hs with
  | none => rfl
  | some k =>
   show (bif decide (((k : Nat) : Int) ≥ 0) then _ else _) = _
   rw [dT (by omega)]
   rfl⟩
theorem zhR_ok {len : Nat} {b off cap : Nat} : GrT Tryd.prog r 9 [RS2 b off len cap, RS b3 off3 hs.length cap3] (.bool (huB len hs)) := by
 refine GrT.ofS (C := SC r) rfl rfl rfl (callO (SC_ok r) (by kernel_rfl) ((bodySC r _).trans ZH_eq) (nt := 22) (by kernel_rfl) (rs := [.tmp 4]) (by kernel_rfl) 51 rfl
  ⟨[4], [], fun vs ms os => vs = [some (.bool (huB len hs))] ∧ ms = [] ∧ os = []⟩ ?_ fun γ W F kk hwr hF hro h0' => ?_)
 ·rintro vs ms os ⟨rfl, rfl, rfl⟩
  exact ⟨_, mkA [], by kernel_rfl, rfl⟩
 have h0' : ∀ i, 0 ≤ i → γ i = none := h0'
 let Z : Outs := ⟨[0, 1], [], fun vs ms os => ngF hs = none ∧ vs = [some (RS2 b off len cap), some (RS b3 off3 hs.length cap3)] ∧ ms = [] ∧ os = []⟩
 refine Go.Ev.Reach.after3R (SC_ok r) TOk.nil (tm := .nil) (L := 1) (L' := 1) (d := 2) hF hro h0' (.step .base)
  (o1 := ⟨[0, 1, 5], [], fun vs ms os => vs = [some (RS2 b off len cap), some (RS b3 off3 hs.length cap3), some (I (0 : Nat))] ∧ ms = [] ∧ os = []⟩) (o2 := Z) [] (fun p hp => nomatch hp) ?_ ?_ ?_
 ·rintro vs ms os ⟨rfl, rfl, rfl⟩
  refine Go.Ev.Reach.blockC (Go.Ev.Reach.loopC (j := hs.length) (lv := [0, 1, 5]) (fl := []) (I := fun j vs ms os => ∃ k : Nat, k ≤ hs.length ∧ j = hs.length - k ∧ (∀ t, t < k → ngQ hs t = false) ∧ vs = [some (RS2 b off len cap), some (RS b3 off3 hs.length cap3), some (I (k : Nat))] ∧ ms = [] ∧ os = []) (fun j vs ms os hI => ?_) ⟨0, Nat.zero_le _, rfl, fun t h => absurd h (by omega), rfl, rfl, rfl⟩)
  obtain ⟨k, hk, rfl, hq, rfl, rfl, rfl⟩ := hI
  refine Go.Ev.Reach.segR (SC_ok r) TOk.nil (tm := .nil) (L := 1) (L' := 1) (d := 1) hF hro h0' [(0, Z)] (fun p hp => by simp only [List.mem_cons, List.not_mem_nil, or_false] at hp; subst hp; rfl) ?_
  have hn := zhBR r b off len cap b3 off3 hs.length cap3 (k : Nat)
  by_cases c : k < hs.length
  ·have e1 := h_at r hh c
   simp only [dT (show (k : Int) < Int.ofNat hs.length by simp; omega), dT (show 0 ≤ (k : Int) by omega), Int.toNat_natCast, show Nat.blt k hs.length = true from Nat.ble_eq_true_of_le c, e1, show ∀ x, isI IntKind.i64 (I x) = true from fun _ => rfl, show ∀ x, ofI (I x) = x from fun _ => rfl, inc1 (show k < 1000000 by omega), cond_true] at hn
   cases hb : ngQ hs k with
   | true =>
    rw [show decide (hs.getD k 0 < 0) = true from hb] at hn
    simp only [cond_true] at hn
    have : ngF hs = some k := ff_some hq hb c
    exact (hn _ _ _ _).trans (qq_ok ⟨by unfold huB; rw [this]; rfl, rfl, rfl⟩)
   | false =>
    rw [show decide (hs.getD k 0 < 0) = false from hb] at hn
    simp only [cond_false] at hn
    exact (hn _ _ _ _).trans (qq_ok ⟨hs.length - (k + 1), by omega, k + 1, c, rfl, fun i hi => by
     by_cases e : i = k
     ·rw [e]; exact hb
     ·exact hq i (by omega), rfl, rfl, rfl⟩)
  ·obtain rfl : k = hs.length := by omega
   simp only [dF (show ¬ (hs.length : Int) < Int.ofNat hs.length by simp), cond_false] at hn
   exact (hn _ _ _ _).trans (qq_ok ⟨ff_none hq, rfl, rfl, rfl⟩)
 ·rintro vs ms os ⟨hx, rfl, rfl, rfl⟩
  have hn := zhCR r b off len cap b3 off3 hs.length cap3
  have e : (Int.ofNat hs.length == Int.ofNat len) = (hs.length == len) := by
   rw [Bool.eq_iff_iff, beq_iff_eq, beq_iff_eq]
   exact Int.ofNat_inj
  refine Go.Ev.Reach.segR (SC_ok r) TOk.nil (tm := .nil) (L := 1) (L' := 1) (d := 1) hF hro h0' [] (fun p hp => nomatch hp) ?_
  try rw [show (Int.ofNat 0) = Int.ofNat len by rw [h0]] at hn
  rw [e] at hn
  cases hb : (hs.length == len) with
  | true =>
   rw [hb] at hn
   simp only [cond_true] at hn
   exact (hn _ _ _ _).trans (qq_ok ⟨by unfold huB; rw [hx, hb]; rfl, rfl, rfl⟩)
  | false =>
   rw [hb] at hn
   simp only [cond_false] at hn
   exact (hn _ _ _ _).trans (qq_ok ⟨by unfold huB; rw [hx, hb]; rfl, rfl, rfl⟩)
 ·exact (zhAR r b off len cap b3 off3 hs.length cap3 _ _ _ _).trans (qq_ok ⟨rfl, rfl, rfl⟩)
theorem zhN_ok {len : Nat} (h0 : len = 0) : GrT Tryd.prog r 9 [.slice none 0 0, RS b3 off3 hs.length cap3] (.bool (huB len hs)) := by
 refine GrT.ofS (C := SC r) rfl rfl rfl (callO (SC_ok r) (by kernel_rfl) ((bodySC r _).trans ZH_eq) (nt := 22) (by kernel_rfl) (rs := [.tmp 4]) (by kernel_rfl) 51 rfl
  ⟨[4], [], fun vs ms os => vs = [some (.bool (huB len hs))] ∧ ms = [] ∧ os = []⟩ ?_ fun γ W F kk hwr hF hro h0' => ?_)
 ·rintro vs ms os ⟨rfl, rfl, rfl⟩
  exact ⟨_, mkA [], by kernel_rfl, rfl⟩
 have h0' : ∀ i, 0 ≤ i → γ i = none := h0'
 let Z : Outs := ⟨[0, 1], [], fun vs ms os => ngF hs = none ∧ vs = [some (.slice none 0 0), some (RS b3 off3 hs.length cap3)] ∧ ms = [] ∧ os = []⟩
 refine Go.Ev.Reach.after3R (SC_ok r) TOk.nil (tm := .nil) (L := 1) (L' := 1) (d := 2) hF hro h0' (.step .base)
  (o1 := ⟨[0, 1, 5], [], fun vs ms os => vs = [some (.slice none 0 0), some (RS b3 off3 hs.length cap3), some (I (0 : Nat))] ∧ ms = [] ∧ os = []⟩) (o2 := Z) [] (fun p hp => nomatch hp) ?_ ?_ ?_
 ·rintro vs ms os ⟨rfl, rfl, rfl⟩
  refine Go.Ev.Reach.blockC (Go.Ev.Reach.loopC (j := hs.length) (lv := [0, 1, 5]) (fl := []) (I := fun j vs ms os => ∃ k : Nat, k ≤ hs.length ∧ j = hs.length - k ∧ (∀ t, t < k → ngQ hs t = false) ∧ vs = [some (.slice none 0 0), some (RS b3 off3 hs.length cap3), some (I (k : Nat))] ∧ ms = [] ∧ os = []) (fun j vs ms os hI => ?_) ⟨0, Nat.zero_le _, rfl, fun t h => absurd h (by omega), rfl, rfl, rfl⟩)
  obtain ⟨k, hk, rfl, hq, rfl, rfl, rfl⟩ := hI
  refine Go.Ev.Reach.segR (SC_ok r) TOk.nil (tm := .nil) (L := 1) (L' := 1) (d := 1) hF hro h0' [(0, Z)] (fun p hp => by simp only [List.mem_cons, List.not_mem_nil, or_false] at hp; subst hp; rfl) ?_
  have hn := zhBN r b3 off3 hs.length cap3 (k : Nat)
  by_cases c : k < hs.length
  ·have e1 := h_at r hh c
   simp only [dT (show (k : Int) < Int.ofNat hs.length by simp; omega), dT (show 0 ≤ (k : Int) by omega), Int.toNat_natCast, show Nat.blt k hs.length = true from Nat.ble_eq_true_of_le c, e1, show ∀ x, isI IntKind.i64 (I x) = true from fun _ => rfl, show ∀ x, ofI (I x) = x from fun _ => rfl, inc1 (show k < 1000000 by omega), cond_true] at hn
   cases hb : ngQ hs k with
   | true =>
    rw [show decide (hs.getD k 0 < 0) = true from hb] at hn
    simp only [cond_true] at hn
    have : ngF hs = some k := ff_some hq hb c
    exact (hn _ _ _ _).trans (qq_ok ⟨by unfold huB; rw [this]; rfl, rfl, rfl⟩)
   | false =>
    rw [show decide (hs.getD k 0 < 0) = false from hb] at hn
    simp only [cond_false] at hn
    exact (hn _ _ _ _).trans (qq_ok ⟨hs.length - (k + 1), by omega, k + 1, c, rfl, fun i hi => by
     by_cases e : i = k
     ·rw [e]; exact hb
     ·exact hq i (by omega), rfl, rfl, rfl⟩)
  ·obtain rfl : k = hs.length := by omega
   simp only [dF (show ¬ (hs.length : Int) < Int.ofNat hs.length by simp), cond_false] at hn
   exact (hn _ _ _ _).trans (qq_ok ⟨ff_none hq, rfl, rfl, rfl⟩)
 ·rintro vs ms os ⟨hx, rfl, rfl, rfl⟩
  have hn := zhCN r b3 off3 hs.length cap3
  have e : (Int.ofNat hs.length == Int.ofNat len) = (hs.length == len) := by
   rw [Bool.eq_iff_iff, beq_iff_eq, beq_iff_eq]
   exact Int.ofNat_inj
  refine Go.Ev.Reach.segR (SC_ok r) TOk.nil (tm := .nil) (L := 1) (L' := 1) (d := 1) hF hro h0' [] (fun p hp => nomatch hp) ?_
  try rw [show (Int.ofNat 0) = Int.ofNat len by rw [h0]] at hn
  rw [e] at hn
  cases hb : (hs.length == len) with
  | true =>
   rw [hb] at hn
   simp only [cond_true] at hn
   exact (hn _ _ _ _).trans (qq_ok ⟨by unfold huB; rw [hx, hb]; rfl, rfl, rfl⟩)
  | false =>
   rw [hb] at hn
   simp only [cond_false] at hn
   exact (hn _ _ _ _).trans (qq_ok ⟨by unfold huB; rw [hx, hb]; rfl, rfl, rfl⟩)
 ·exact (zhAN r b3 off3 hs.length cap3 _ _ _ _).trans (qq_ok ⟨rfl, rfl, rfl⟩)
end
section
variable (r : Mem) {m : Nat} (hm16 : m ≤ 16) {E : List (Nat × Nat)} (hE : okAll (m : Int) (zE E) E.length = true) {b off cap : Nat} (hz : rowAt r b off (2 * E.length) (zE E)) {b3 off3 cap3 : Nat} {hs : List Int} (hh : ∀ k, k < hs.length → r b3 (off3 + k) = some (I (hs.getD k 0))) (hl : hs.length = E.length) (hL : E.length < 1000000)
include hm16 hE hz hh hl hL
theorem zp_ok (w : Nat → Int) (hc : E.length ≤ cap ∧ cap < 2000000) : GrT Tryd.prog r 25 [.agg ⟨hG (m : Nat) w (RS2 b off E.length cap)⟩, RS b3 off3 hs.length cap3] (.bool (ppB E hs)) := by
 have _ := hm16
 refine GrT.ofS (C := SC r) rfl rfl rfl (callO (SC_ok r) (by kernel_rfl) ((bodySC r _).trans ZP_eq) (nt := 43) (by kernel_rfl) (rs := [.tmp 4]) (by kernel_rfl) 7347703 rfl
  ⟨[4], [], fun vs ms os => vs = [some (.bool (ppB E hs))] ∧ ms = [] ∧ os = []⟩ ?_ fun γ W F kk hwr hF hro h0' => ?_)
 ·rintro vs ms os ⟨rfl, rfl, rfl⟩
  exact ⟨_, mkA [], by kernel_rfl, rfl⟩
 have h0' : ∀ i, 0 ≤ i → γ i = none := h0'
 have hg := hG_nn (m : Nat) w (e := RS2 b off E.length cap) (.inr ⟨_, _, _, _, rfl⟩)
 let g := hG (m : Nat) w (RS2 b off E.length cap)
 let Z : Outs := ⟨[], [], fun vs ms os => ppB E hs = true ∧ vs = [] ∧ ms = [] ∧ os = []⟩
 refine Go.Ev.Reach.after3R (SC_ok r) TOk.nil (tm := .nil) (L := 1) (L' := 1) (d := 2) hF hro h0' (.step .base)
  (o1 := ⟨lvZP, [.g, .g], fun vs ms os => vs = vZP b3 off3 hs.length cap3 b off E.length cap (0 : Nat) ∧ ms = [] ∧ os = [oGr g 0]⟩) (o2 := Z) [] (fun p hp => nomatch hp) ?_ ?_ ?_
 ·rintro vs ms os ⟨rfl, rfl, rfl⟩
  refine Go.Ev.Reach.blockC (Go.Ev.Reach.loopC (j := E.length) (lv := lvZP) (fl := [.g, .g]) (I := fun j vs ms os => ∃ i : Nat, i ≤ E.length ∧ j = E.length - i ∧ (∀ t, t < i → ppR E hs t = false) ∧ vs = vZP b3 off3 hs.length cap3 b off E.length cap (i : Nat) ∧ ms = [] ∧ os = [oGr g 0]) (fun j vs ms os hI => ?_) ⟨0, Nat.zero_le _, rfl, fun t h => absurd h (by omega), rfl, rfl, rfl⟩)
  obtain ⟨i, hi, rfl, hq, rfl, rfl, rfl⟩ := hI
  let O2 : Outs := ⟨lvZP, [.g, .g], fun vs ms os => i < E.length ∧ ppR E hs i = false ∧ vs = vZP b3 off3 hs.length cap3 b off E.length cap (i : Nat) ∧ ms = [] ∧ os = [oGr g 0]⟩
  refine Go.Ev.Reach.after3R (SC_ok r) TOk.nil (tm := .nil) (L := 1) (L' := 1) (d := 1) hF hro h0' (.step .flat)
   (o1 := ⟨lvZP, [.g, .g], fun vs ms os => i < E.length ∧ vs = vZP b3 off3 hs.length cap3 b off E.length cap (i : Nat) ∧ ms = [] ∧ os = [oGr g 0]⟩) (o2 := O2) [(0, Z)] (fun p hp => by simp only [List.mem_cons, List.not_mem_nil, or_false] at hp; subst hp; rfl) ?_ ?_ ?_
  ·rintro vs ms os ⟨hie, rfl, rfl, rfl⟩
   obtain ⟨l1, l2⟩ := E_mem (r := r) hz hie
   refine Go.Ev.Reach.blockC (Go.Ev.Reach.afterR (SC_ok r) TOk.nil (tm := .nil) (L := 1) (L' := 1) (d := 1) hF hro h0' (.step .base)
    (o1 := ⟨lvZV, [.g, .g], fun vs ms os => ((i = 0 ∧ vs = [some (RS b3 off3 hs.length cap3), some (P0 0), some (I 0), some (P0 1), some (RS2 b off E.length cap), some (I (E.length : Nat)), some (I 0), some vE0, some (I 0), some (I 0)]) ∨ (i ≠ 0 ∧ vs = vZV b3 off3 hs.length cap3 b off E.length cap (i : Nat) i (0 : Nat))) ∧ ms = [] ∧ os = [oGr g 0, oEd ((E.getD i (0, 0)).1 : Nat) ((E.getD i (0, 0)).2 : Nat) 1]⟩) [] (fun p hp => nomatch hp) ?_ ?_)
   ·rintro vs ms os ⟨hsh, rfl, rfl⟩
    refine Go.Ev.Reach.blockC (Go.Ev.Reach.loopC (j := i) (lv := lvZV) (fl := [.g, .g]) (I := fun j vs ms os => ∃ k : Nat, k ≤ i ∧ j = i - k ∧ (∀ t, t < k → ppQ E hs i t = false) ∧ ((i = 0 ∧ vs = [some (RS b3 off3 hs.length cap3), some (P0 0), some (I 0), some (P0 1), some (RS2 b off E.length cap), some (I (E.length : Nat)), some (I 0), some vE0, some (I 0), some (I 0)]) ∨ (i ≠ 0 ∧ vs = vZV b3 off3 hs.length cap3 b off E.length cap (i : Nat) i (k : Nat))) ∧ ms = [] ∧ os = [oGr g 0, oEd ((E.getD i (0, 0)).1 : Nat) ((E.getD i (0, 0)).2 : Nat) 1]) (fun j vs ms os hI => ?_) ⟨0, Nat.zero_le _, rfl, fun t h => absurd h (by omega), hsh, rfl, rfl⟩)
    obtain ⟨k, hk, rfl, hqk, hsh, rfl, rfl⟩ := hI
    refine Go.Ev.Reach.segR (SC_ok r) TOk.nil (tm := .nil) (L := 1) (L' := 1) (d := 4) hF hro h0' [(2, O2)] (fun p hp => by simp only [List.mem_cons, List.not_mem_nil, or_false] at hp; subst hp; rfl) ?_
    rcases hsh with ⟨rfl, rfl⟩ | ⟨hi0, rfl⟩
    ·have hn := zpD0 r g b off E.length cap b3 off3 hs.length cap3 ((E.getD 0 (0, 0)).1 : Nat) ((E.getD 0 (0, 0)).2 : Nat)
     simp only [show m_nns g = true from hg, Bool.and_self, cond_true] at hn
     exact (hn _ _ _ _).trans (qq_ok ⟨hie, ppR_no fun k h => absurd h (by omega), rfl, rfl, rfl⟩)
    ·have hn := zpD r g b off E.length cap b3 off3 hs.length cap3 (i : Nat) i (k : Nat) ((E.getD i (0, 0)).1 : Nat) ((E.getD i (0, 0)).2 : Nat)
     by_cases c : k < i
     ·obtain ⟨k1, k2⟩ := E_mem (r := r) hz (show k < E.length by omega)
      have e1 := h_at r hh (show i < hs.length by omega)
      have e2 := h_at r hh (show k < hs.length by omega)
      have hne := E_ne hE c hie
      simp only [dT (show (k : Int) < Int.ofNat i by simp; omega), dT (show 0 ≤ (k : Int) by omega), dT (show 0 ≤ (i : Int) by omega), Int.toNat_natCast, show Nat.blt k i = true from Nat.ble_eq_true_of_le c, show Nat.blt i hs.length = true from Nat.ble_eq_true_of_le (by omega), show Nat.blt k hs.length = true from Nat.ble_eq_true_of_le (by omega), k1, k2, e1, e2, hne, show ∀ x, isI IntKind.i64 (I x) = true from fun _ => rfl, show ∀ x, ofI (I x) = x from fun _ => rfl, show ∀ x, m_eqv (I x) (I x) = true from fun x => by simp [m_eqv, veq], show ∀ x y, m_eqv (.agg ⟨[I x, I y]⟩) (.agg ⟨[I x, I y]⟩) = true from fun x y => by simp [m_eqv, veq, veqs], show m_nns g = true from hg, inc1 (show k < 1000000 by omega), Bool.and_self, Bool.not_false, cond_true] at hn
      have yes : ppQ E hs i k = true → ppB E hs = false := fun h => ppB_no hq hie (ppR_yes hqk h c)
      have no : ppQ E hs i k = false → ∀ t, t < k + 1 → ppQ E hs i t = false := fun h t ht => by
       by_cases e : t = k
       ·rw [e]; exact h
       ·exact hqk t (by omega)
      unfold ppQ meE at yes no
      clear hne
      generalize (((E.getD i (0, 0)).1 : Int) == ((E.getD k (0, 0)).1 : Int)) = p1 at hn yes no
      generalize (((E.getD i (0, 0)).1 : Int) == ((E.getD k (0, 0)).2 : Int)) = p2 at hn yes no
      generalize (((E.getD i (0, 0)).2 : Int) == ((E.getD k (0, 0)).1 : Int)) = p3 at hn yes no
      generalize (((E.getD i (0, 0)).2 : Int) == ((E.getD k (0, 0)).2 : Int)) = p4 at hn yes no
      generalize (hs.getD i 0 == hs.getD k 0) = q at hn yes no
      cases q <;> cases p1 <;> cases p2 <;> cases p3 <;> cases p4 <;> simp only [cond_true, cond_false] at hn <;> first | exact (hn _ _ _).trans (qq_ok ⟨by rw [yes rfl], rfl, rfl⟩) | exact (hn _ _ _).trans (qq_ok ⟨i - (k + 1), by omega, k + 1, c, rfl, no rfl, .inr ⟨hi0, rfl⟩, rfl, rfl⟩)
     ·obtain rfl : k = i := by omega
      simp only [dF (show ¬ (k : Int) < Int.ofNat k by simp), show m_nns g = true from hg, Bool.and_self, cond_true, cond_false] at hn
      exact (hn _ _ _).trans (qq_ok ⟨hie, ppR_no hqk, rfl, rfl, rfl⟩)
   ·have hn := zpC r (m : Nat) w b off E.length cap b3 off3 hs.length cap3 (i : Nat)
    simp only [dT (show 0 ≤ (i : Int) by omega), Int.toNat_natCast, show Nat.blt i E.length = true from Nat.ble_eq_true_of_le hie, l1, l2, show ∀ x, isI IntKind.i64 (I x) = true from fun _ => rfl, show ∀ x, ofI (I x) = x from fun _ => rfl, natFK2 (show cap ≠ 9223372036854775809 by omega), Nat.ble_eq_true_of_le (show i ≤ cap by omega), cond_true, cond_false] at hn
    by_cases c : i = 0
    ·subst c
     simp only [show Nat.beq 0 0 = true from rfl, cond_true] at hn
     exact (hn _ _ _ _).trans (qq_ok ⟨.inl ⟨rfl, rfl⟩, rfl, rfl⟩)
    ·simp only [natFK2 c, cond_false] at hn
     exact (hn _ _ _ _).trans (qq_ok ⟨.inr ⟨c, rfl⟩, rfl, rfl⟩)
  ·rintro vs ms os ⟨hie, hno, rfl, rfl, rfl⟩
   have hn := zpE r g b off E.length cap b3 off3 hs.length cap3 (i : Nat)
   simp only [show m_nns g = true from hg, inc1 (show i < 1000000 by omega), Bool.and_self, cond_true] at hn
   exact Go.Ev.Reach.segR (SC_ok r) TOk.nil (tm := .nil) (L := 1) (L' := 1) (d := 1) hF hro h0' [] (fun p hp => nomatch hp) ((hn _ _ _ _).trans (qq_ok ⟨E.length - (i + 1), by omega, i + 1, hie, rfl, fun t ht => by
    by_cases e : t = i
    ·rw [e]; exact hno
    ·exact hq t (by omega), rfl, rfl, rfl⟩))
  ·have hn := zpB r g b off E.length cap b3 off3 hs.length cap3 (i : Nat)
   by_cases c : i < E.length
   ·simp only [dT (show (i : Int) < Int.ofNat E.length by simp; omega), show m_nns g = true from hg, Bool.and_self, cond_true] at hn
    exact (hn _ _ _ _).trans (qq_ok ⟨c, rfl, rfl, rfl⟩)
   ·obtain rfl : i = E.length := by omega
    simp only [dF (show ¬ (E.length : Int) < Int.ofNat E.length by simp), cond_false] at hn
    exact (hn _ _ _ _).trans (qq_ok ⟨ppB_yes hq, rfl, rfl, rfl⟩)
 ·rintro vs ms os ⟨hp, rfl, rfl, rfl⟩
  exact Go.Ev.Reach.segR (SC_ok r) TOk.nil (tm := .nil) (L := 1) (L' := 1) (d := 1) hF hro h0' [] (fun p hp => nomatch hp) ((zpF r _ _ _ _).trans (qq_ok ⟨by rw [hp], rfl, rfl⟩))
 ·exact (zpA r (m : Nat) w b off E.length cap b3 off3 hs.length cap3 _ _ _ _).trans (qq_ok ⟨rfl, rfl, rfl⟩)
theorem zq_ok : GrT Tryd.prog r 10 [RS2 b off E.length cap, RS b3 off3 hs.length cap3] (.bool (ppB E hs)) := by
 have _ := hm16
 have _ := hE
 refine GrT.ofS (C := SC r) rfl rfl rfl (callO (SC_ok r) (by kernel_rfl) ((bodySC r _).trans ZQ_eq) (nt := 38) (by kernel_rfl) (rs := [.tmp 4]) (by kernel_rfl) 115 rfl
  ⟨[4], [], fun vs ms os => vs = [some (.bool (ppB E hs))] ∧ ms = [] ∧ os = []⟩ ?_ fun γ W F kk hwr hF hro h0' => ?_)
 ·rintro vs ms os ⟨rfl, rfl, rfl⟩
  exact ⟨_, mkA [], by kernel_rfl, rfl⟩
 have h0' : ∀ i, 0 ≤ i → γ i = none := h0'
 let Z : Outs := ⟨[], [], fun vs ms os => ppB E hs = true ∧ vs = [] ∧ ms = [] ∧ os = []⟩
 refine Go.Ev.Reach.after3R (SC_ok r) TOk.nil (tm := .nil) (L := 1) (L' := 1) (d := 2) hF hro h0' (.step .base)
  (o1 := ⟨lvZQ, [], fun vs ms os => vs = vZQ b off E.length cap b3 off3 hs.length cap3 (0 : Nat) ∧ ms = [] ∧ os = []⟩) (o2 := Z) [] (fun p hp => nomatch hp) ?_ ?_ ?_
 ·rintro vs ms os ⟨rfl, rfl, rfl⟩
  refine Go.Ev.Reach.blockC (Go.Ev.Reach.loopC (j := E.length) (lv := lvZQ) (fl := []) (I := fun j vs ms os => ∃ i : Nat, i ≤ E.length ∧ j = E.length - i ∧ (∀ t, t < i → ppR E hs t = false) ∧ vs = vZQ b off E.length cap b3 off3 hs.length cap3 (i : Nat) ∧ ms = [] ∧ os = []) (fun j vs ms os hI => ?_) ⟨0, Nat.zero_le _, rfl, fun t h => absurd h (by omega), rfl, rfl, rfl⟩)
  obtain ⟨i, hi, rfl, hq, rfl, rfl, rfl⟩ := hI
  let O2 : Outs := ⟨lvZQ, [], fun vs ms os => i < E.length ∧ ppR E hs i = false ∧ vs = vZQ b off E.length cap b3 off3 hs.length cap3 (i : Nat) ∧ ms = [] ∧ os = []⟩
  refine Go.Ev.Reach.after3R (SC_ok r) TOk.nil (tm := .nil) (L := 1) (L' := 1) (d := 1) hF hro h0' .flat
   (o1 := ⟨lvZQ, [], fun vs ms os => i < E.length ∧ vs = vZQ b off E.length cap b3 off3 hs.length cap3 (i : Nat) ∧ ms = [] ∧ os = []⟩) (o2 := O2) [(0, Z)] (fun p hp => by simp only [List.mem_cons, List.not_mem_nil, or_false] at hp; subst hp; rfl) ?_ ?_ ?_
  ·rintro vs ms os ⟨hie, rfl, rfl, rfl⟩
   obtain ⟨l1, l2⟩ := E_mem (r := r) hz hie
   refine Go.Ev.Reach.blockC (Go.Ev.Reach.afterR (SC_ok r) TOk.nil (tm := .nil) (L := 1) (L' := 1) (d := 1) hF hro h0' .base
    (o1 := ⟨lvZW, [], fun vs ms os => vs = vZW b off E.length cap b3 off3 hs.length cap3 (i : Nat) (0 : Nat) ∧ ms = [] ∧ os = []⟩) [] (fun p hp => nomatch hp) ?_ ?_)
   ·rintro vs ms os ⟨rfl, rfl, rfl⟩
    refine Go.Ev.Reach.blockC (Go.Ev.Reach.loopC (j := i) (lv := lvZW) (fl := []) (I := fun j vs ms os => ∃ k : Nat, k ≤ i ∧ j = i - k ∧ (∀ t, t < k → ppQ E hs i t = false) ∧ vs = vZW b off E.length cap b3 off3 hs.length cap3 (i : Nat) (k : Nat) ∧ ms = [] ∧ os = []) (fun j vs ms os hI => ?_) ⟨0, Nat.zero_le _, rfl, fun t h => absurd h (by omega), rfl, rfl, rfl⟩)
    obtain ⟨k, hk, rfl, hqk, rfl, rfl, rfl⟩ := hI
    refine Go.Ev.Reach.segR (SC_ok r) TOk.nil (tm := .nil) (L := 1) (L' := 1) (d := 4) hF hro h0' [(2, O2)] (fun p hp => by simp only [List.mem_cons, List.not_mem_nil, or_false] at hp; subst hp; rfl) ?_
    have hn := zqD r b off E.length cap b3 off3 hs.length cap3 (i : Nat) (k : Nat)
    by_cases c : k < i
    ·obtain ⟨k1, k2⟩ := E_mem (r := r) hz (show k < E.length by omega)
     have e1 := h_at r hh (show i < hs.length by omega)
     have e2 := h_at r hh (show k < hs.length by omega)
     simp only [dT (show (k : Int) < (i : Int) by omega), dT (show 0 ≤ (k : Int) by omega), dT (show 0 ≤ (i : Int) by omega), Int.toNat_natCast, show Nat.blt i hs.length = true from Nat.ble_eq_true_of_le (by omega), show Nat.blt k hs.length = true from Nat.ble_eq_true_of_le (by omega), show Nat.blt i E.length = true from Nat.ble_eq_true_of_le (by omega), show Nat.blt k E.length = true from Nat.ble_eq_true_of_le (by omega), k1, k2, l1, l2, e1, e2, show ∀ x, isI IntKind.i64 (I x) = true from fun _ => rfl, show ∀ x, ofI (I x) = x from fun _ => rfl, show ∀ x, m_eqv (I x) (I x) = true from fun x => by simp [m_eqv, veq], show ∀ x y, m_eqv (.agg ⟨[I x, I y]⟩) (.agg ⟨[I x, I y]⟩) = true from fun x y => by simp [m_eqv, veq, veqs], inc1 (show k < 1000000 by omega), Bool.and_self, cond_true] at hn
     have yes : ppQ E hs i k = true → ppB E hs = false := fun h => ppB_no hq hie (ppR_yes hqk h c)
     have no : ppQ E hs i k = false → ∀ t, t < k + 1 → ppQ E hs i t = false := fun h t ht => by
      by_cases e : t = k
      ·rw [e]; exact h
      ·exact hqk t (by omega)
     unfold ppQ meE at yes no
     generalize (((E.getD i (0, 0)).1 : Int) == ((E.getD k (0, 0)).1 : Int)) = p1 at hn yes no
     generalize (((E.getD i (0, 0)).1 : Int) == ((E.getD k (0, 0)).2 : Int)) = p2 at hn yes no
     generalize (((E.getD i (0, 0)).2 : Int) == ((E.getD k (0, 0)).1 : Int)) = p3 at hn yes no
     generalize (((E.getD i (0, 0)).2 : Int) == ((E.getD k (0, 0)).2 : Int)) = p4 at hn yes no
     generalize (hs.getD i 0 == hs.getD k 0) = q at hn yes no
     cases q <;> cases p1 <;> cases p2 <;> cases p3 <;> cases p4 <;> simp only [cond_true, cond_false] at hn <;> first | exact (hn _ _ _).trans (qq_ok ⟨by rw [yes rfl], rfl, rfl⟩) | exact (hn _ _ _).trans (qq_ok ⟨i - (k + 1), by omega, k + 1, c, rfl, no rfl, rfl, rfl, rfl⟩)
    ·obtain rfl : k = i := by omega
     simp only [dF (show ¬ (k : Int) < (k : Int) by omega), cond_false] at hn
     exact (hn _ _ _).trans (qq_ok ⟨hie, ppR_no hqk, rfl, rfl, rfl⟩)
   ·exact (zqC r b off E.length cap b3 off3 hs.length cap3 (i : Nat) _ _ _ _).trans (qq_ok ⟨rfl, rfl, rfl⟩)
  ·rintro vs ms os ⟨hie, hno, rfl, rfl, rfl⟩
   have hn := zqE r b off E.length cap b3 off3 hs.length cap3 (i : Nat)
   simp only [inc1 (show i < 1000000 by omega)] at hn
   exact Go.Ev.Reach.segR (SC_ok r) TOk.nil (tm := .nil) (L := 1) (L' := 1) (d := 1) hF hro h0' [] (fun p hp => nomatch hp) ((hn _ _ _ _).trans (qq_ok ⟨E.length - (i + 1), by omega, i + 1, hie, rfl, fun t ht => by
    by_cases e : t = i
    ·rw [e]; exact hno
    ·exact hq t (by omega), rfl, rfl, rfl⟩))
  ·have hn := zqB r b off E.length cap b3 off3 hs.length cap3 (i : Nat)
   by_cases c : i < E.length
   ·simp only [dT (show (i : Int) < Int.ofNat E.length by simp; omega), cond_true] at hn
    exact (hn _ _ _ _).trans (qq_ok ⟨c, rfl, rfl, rfl⟩)
   ·obtain rfl : i = E.length := by omega
    simp only [dF (show ¬ (E.length : Int) < Int.ofNat E.length by simp), cond_false] at hn
    exact (hn _ _ _ _).trans (qq_ok ⟨ppB_yes hq, rfl, rfl, rfl⟩)
 ·rintro vs ms os ⟨hp, rfl, rfl, rfl⟩
  exact Go.Ev.Reach.segR (SC_ok r) TOk.nil (tm := .nil) (L := 1) (L' := 1) (d := 1) hF hro h0' [] (fun p hp => nomatch hp) ((zqF r _ _ _ _).trans (qq_ok ⟨by rw [hp], rfl, rfl⟩))
 ·exact (zqA r b off E.length cap b3 off3 hs.length cap3 _ _ _ _).trans (qq_ok ⟨rfl, rfl, rfl⟩)
end
end Go.Proofs
namespace Go.Proofs
open Go Go.Ev Go.Num
noncomputable def eHp (g : List Value) (x : Option (List Value)) (h : Value) (v : Bool) : Ent := ent (fun args A => bif m_same args [.agg ⟨g⟩, h] then rowIs x A else false) (fun _ _ => .bool v)
noncomputable def tPp (g : List Value) (x : Option (List Value)) (h : Value) (c v : Bool) (T : Tbl) : Tbl := tcons 25 (eHp g x h v) (tcons 24 (entV [h, fNg] (.bool c)) T)
theorem pi1m (r : Mem) (n : Int) (b off cap : Nat) (w : Nat → Int) : (lvlT (SC r) (tHo1 n b off cap w) .nil 1 6).call 8 [I n, RS2 b off 0 cap, .slice none 0 0] emptyA fin =
    bif m_at [I n, .slice (some ⟨b, off, some 0⟩) 0 cap] [I n, .slice (some ⟨b, off, some 0⟩) 0 cap] (AW.mk 0 .nil .nil) (AW.mk 0 .nil .nil) then .ret (.tuple ⟨[.bool true, I (Int.ofNat 0)]⟩) (AW.mk 0 .nil .nil) else .fail 420 := by kernel_rfl
theorem pi1e (r : Mem) (n : Int) (b off cap : Nat) (w : Nat → Int) (b3 off3 cap3 : Nat) : (lvlT (SC r) (tHo1 n b off cap w) .nil 1 6).call 8 [I n, RS2 b off 0 cap, RS b3 off3 0 cap3] emptyA fin =
    bif m_at [I n, .slice (some ⟨b, off, some 0⟩) 0 cap] [I n, .slice (some ⟨b, off, some 0⟩) 0 cap] (AW.mk 0 .nil .nil) (AW.mk 0 .nil .nil) then .ret (.tuple ⟨[.bool true, I (Int.ofNat 0)]⟩) (AW.mk 0 .nil .nil) else .fail 420 := by kernel_rfl
theorem pi1r (r : Mem) (n : Int) (b off cap : Nat) (w : Nat → Int) (b3 off3 n3 cap3 : Nat) : (lvlT (SC r) (tHo1 n b off cap w) .nil 1 2).call 8 [I n, RS2 b off 0 cap, RS b3 off3 (n3 + 1) cap3] emptyA fin =
    bif m_at [I n, .slice (some ⟨b, off, some 0⟩) 0 cap] [I n, .slice (some ⟨b, off, some 0⟩) 0 cap] (AW.mk 0 .nil .nil) (AW.mk 0 .nil .nil) then .ret (.tuple ⟨[.bool false, I (Int.ofNat 70)]⟩) (AW.mk 0 .nil .nil) else .fail 420 := by kernel_rfl
theorem piNm (r : Mem) (n : Int) (w : Nat → Int) : (lvlT (SC r) (tHoN n w) .nil 1 6).call 8 [I n, .slice none 0 0, .slice none 0 0] emptyA fin =
    bif m_same [I n, .slice none 0 0] [I n, .slice none 0 0] then .ret (.tuple ⟨[.bool true, I (Int.ofNat 0)]⟩) (AW.mk 0 .nil .nil) else .fail 420 := by kernel_rfl
theorem piNe (r : Mem) (n : Int) (w : Nat → Int) (b3 off3 cap3 : Nat) : (lvlT (SC r) (tHoN n w) .nil 1 6).call 8 [I n, .slice none 0 0, RS b3 off3 0 cap3] emptyA fin =
    bif m_same [I n, .slice none 0 0] [I n, .slice none 0 0] then .ret (.tuple ⟨[.bool true, I (Int.ofNat 0)]⟩) (AW.mk 0 .nil .nil) else .fail 420 := by kernel_rfl
theorem piNr (r : Mem) (n : Int) (w : Nat → Int) (b3 off3 n3 cap3 : Nat) : (lvlT (SC r) (tHoN n w) .nil 1 2).call 8 [I n, .slice none 0 0, RS b3 off3 (n3 + 1) cap3] emptyA fin =
    bif m_same [I n, .slice none 0 0] [I n, .slice none 0 0] then .ret (.tuple ⟨[.bool false, I (Int.ofNat 70)]⟩) (AW.mk 0 .nil .nil) else .fail 420 := by kernel_rfl
theorem pi2m (r : Mem) (n : Int) (b off cap k : Nat) (w : Nat → Int) (c : List Value) : (lvlT (SC r) (tHo2 n b off cap k w c) .nil 1 2).call 8 [I n, RS2 b off (k + 1) cap, .slice none 0 0] emptyA fin =
    bif m_at [I n, .slice (some ⟨b, off, some 0⟩) (k + 1) cap] [I n, .slice (some ⟨b, off, some 0⟩) (k + 1) cap] (AW.mk 0 .nil .nil) (AW.mk 0 .nil .nil) then .ret (.tuple ⟨[.bool false, I (Int.ofNat 70)]⟩) (AW.mk 0 .nil .nil) else .fail 420 := by kernel_rfl
theorem pi2r (r : Mem) (n : Int) (b off cap k : Nat) (w : Nat → Int) (c : List Value) (b3 off3 n3 cap3 : Nat) (ng v : Bool) : (lvlT (SC r) (tPp (eG n w k) (some c) (RS b3 off3 n3 cap3) ng v (tHo2 n b off cap k w c)) .nil 1 2).call 8 [I n, RS2 b off (k + 1) cap, RS b3 off3 n3 cap3] emptyA fin =
    bif m_at [I n, .slice (some ⟨b, off, some 0⟩) (k + 1) cap] [I n, .slice (some ⟨b, off, some 0⟩) (k + 1) cap] (AW.mk 0 .nil .nil) (AW.mk 0 .nil .nil) then bif Int.ofNat n3 != Int.ofNat (k + 1) then .ret (.tuple ⟨[.bool false, I (Int.ofNat 70)]⟩) (AW.mk 0 .nil .nil) else bif m_same [.slice (some ⟨b3, off3, some 0⟩) n3 cap3, .func (Fn.func 23) ⟨[]⟩ ⟨[]⟩] [.slice (some ⟨b3, off3, some 0⟩) n3 cap3, .func (Fn.func 23) ⟨[]⟩ ⟨[]⟩] then bif ng then .ret (.tuple ⟨[.bool false, I (Int.ofNat 70)]⟩) (AW.mk 0 .nil .nil) else bif bif m_same [.agg ⟨(hG n w (.slice (some ⟨1, 0, none⟩) (k + 1) unk))⟩, .slice (some ⟨b3, off3, some 0⟩) n3 cap3] [.agg ⟨(hG n w (.slice (some ⟨1, 0, none⟩) (k + 1) unk))⟩, .slice (some ⟨b3, off3, some 0⟩) n3 cap3] then m_same c c else false then bif v then .ret (.tuple ⟨[.bool true, I (Int.ofNat 0)]⟩) (AW.mk 0 .nil .nil) else .ret (.tuple ⟨[.bool false, I (Int.ofNat 0)]⟩) (AW.mk 0 .nil .nil) else .fail 420 else .fail 420 else .fail 420 := by kernel_rfl
theorem pi2x (r : Mem) (n : Int) (b off cap k : Nat) (w : Nat → Int) (c : List Value) (b3 off3 n3 cap3 : Nat) : (lvlT (SC r) (tHo2 n b off cap k w c) .nil 1 1).call 8 [I n, RS2 b off (k + 1) cap, RS b3 off3 n3 cap3] emptyA fin =
    bif m_at [I n, .slice (some ⟨b, off, some 0⟩) (k + 1) cap] [I n, .slice (some ⟨b, off, some 0⟩) (k + 1) cap] (AW.mk 0 .nil .nil) (AW.mk 0 .nil .nil) then bif Int.ofNat n3 != Int.ofNat (k + 1) then .ret (.tuple ⟨[.bool false, I (Int.ofNat 70)]⟩) (AW.mk 0 .nil .nil) else .fail 400 else .fail 420 := by kernel_rfl
end Go.Proofs
namespace Go.Proofs
open Go Go.Ev Go.Num
theorem memW_r {r : Mem} {γ : Gam} {W : World} (hR : Ro r γ W) {b j : Nat} {u : Value} (h : r b j = some u) (hg : gnd u = true) : memW W b j = some u := by
 obtain ⟨_, cc, e, fr, v', h1, h2, h3⟩ := hR b j u h
 have := (h3 γ).eq_of_gnd hg
 subst this
 unfold memW
 rw [h1]
 simp only [h2, Option.bind_some]
 exact mark_gnd hg
theorem rs_noG {γ : Gam} {b off n cap : Nat} {v' : Value} (h : VRel γ (RS b off n cap) v') : VRel noG (RS b off n cap) v' := by
 cases h with
 | sliceRo b k s l c c' h hc => exact .sliceRo _ _ _ _ _ _ h hc
 | sliceE a a' c' => exact .sliceE _ _ _
theorem hG_ed2 {r : Mem} {γ : Gam} {A : AW} {W : World} (hwr : WRel γ A W) (hR : Ro r γ W) {n : Int} {w : Nat → Int} {E : List (Nat × Nat)} {k : Nat} (hk : E.length = k + 1) (hL : E.length < 1000000) (hrow : rowIs (some (m_ed (zE E) (k + 1))) A = true) {v' : Value} (h : VRel γ (.agg ⟨hG n w (.slice (some ⟨1, 0, none⟩) (k + 1) unk)⟩) v') : ∃ b off, rowAt (memW W) b off (2 * E.length) (zE E) ∧ VRel noG (.agg ⟨hG n w (RS2 b off E.length E.length)⟩) v' := by
 cases h with
 | agg h =>
 rename_i c'
 obtain ⟨lc⟩ := c'
 rw [hG_zs] at h
 cases h with
 | cons ha hb =>
 cases ha
 obtain ⟨ve, h5, h6⟩ := hg_split _ _ hb
 suffices hs : ∃ b off, rowAt (memW W) b off (2 * E.length) (zE E) ∧ VRel noG (RS2 b off E.length E.length) ve by
  obtain ⟨b, off, p1, p2⟩ := hs
  exact ⟨b, off, p1, .agg (by rw [hG_zs]; exact .cons (.int _ _) (h6 _ p2))⟩
 unfold rowIs at hrow
 dsimp only at hrow
 split at hrow
 ·rename_i c' ty fm sz hget
  have hs := @of_decide_eq_true _ (Classical.propDecidable _) hrow
  subst hs
  obtain ⟨b, k', c', rfl, hrd⟩ := rd_world hwr hR h5 (by decide)
  have hc : k + 1 ≤ c' := by
   cases h5 with
   | slice k l c c' hg hc =>
    rcases hc with ⟨_, h⟩ | ⟨_, h, _⟩
    ·exact absurd rfl h
    ·exact h
  refine ⟨b, k', fun j hj => ?_, by rw [hk]; exact .sliceRo _ _ _ _ _ _ (by unfold unk; omega) hc⟩
  refine hrd j _ ?_ rfl
  simp only [AW.rd, AW.cell, hget]
  rw [Nat.add_eq, Nat.zero_add]
  unfold m_ed
  rw [List.getElem?_map, List.getElem?_range (by omega)]
  rfl
 ·cases hrow
def EsR (r : Mem) (E : List (Nat × Nat)) (sl : Value) : Prop := (sl = .slice none 0 0 ∧ E = []) ∨ ∃ b off cap, sl = RS2 b off E.length cap ∧ rowAt r b off (2 * E.length) (zE E)
def HsR (r : Mem) (hs : List Int) (h : Value) : Prop := (h = .slice none 0 0 ∧ hs = []) ∨ ∃ b off cap, h = RS b off hs.length cap ∧ hs.length < 1000000 ∧ ∀ k, k < hs.length → r b (off + k) = some (I (hs.getD k 0))
def ppV (E : List (Nat × Nat)) (hs : List Int) : Value := .tuple ⟨[.bool (bif huB E.length hs then ppB E hs else false), I (bif huB E.length hs then 0 else 70)]⟩
theorem hu_len {n : Nat} {hs : List Int} (h : hs.length ≠ n) : huB n hs = false := by
 unfold huB
 rw [show (hs.length == n) = false from beq_eq_false_iff_ne.2 h, Bool.and_false]
section
variable (r : Mem) (hm : Tab r) {m : Nat} (h1 : 1 ≤ m) (hm16 : m ≤ 16) {E : List (Nat × Nat)} (hE : okAll (m : Int) (zE E) E.length = true) (hL : E.length < 1000000)
include hm16 hE hL
theorem eHp_ok {k : Nat} (hk : E.length = k + 1) {b3 off3 cap3 : Nat} {hs : List Int} (hh : ∀ k, k < hs.length → r b3 (off3 + k) = some (I (hs.getD k 0))) (hl : hs.length = E.length) (w : Nat → Int) : EOk (SC r) 25 (eHp (hG (m : Nat) w (.slice (some ⟨1, 0, none⟩) (k + 1) unk)) (some (m_ed (zE E) (k + 1))) (RS b3 off3 hs.length cap3) (ppB E hs)) := EOk.ent fun args A hg => by
 have hsm : m_same args [.agg ⟨hG (m : Nat) w (.slice (some ⟨1, 0, none⟩) (k + 1) unk)⟩, RS b3 off3 hs.length cap3] = true := by
  cases h : m_same args [.agg ⟨hG (m : Nat) w (.slice (some ⟨1, 0, none⟩) (k + 1) unk)⟩, RS b3 off3 hs.length cap3] with
  | true => rfl
  | false => rw [h] at hg; exact nomatch hg
 rw [hsm, cond_true] at hg
 have hsm := @of_decide_eq_true _ (Classical.propDecidable _) hsm
 subst hsm
 refine POk.of rfl fun γ W args' hwr hR ha => ?_
 obtain ⟨la⟩ := args'
 cases ha with
 | cons hv hrest =>
 cases hrest with
 | cons hv2 hrest =>
 cases hrest
 obtain ⟨b, off, p1, p2⟩ := hG_ed2 hwr hR hk hL hg hv
 refine ⟨memW W, _, memW_ro W, .cons p2 (.cons (rs_noG hv2) .nil), zp_ok (memW W) hm16 hE p1 (fun k hk => memW_r hR (hh k hk) rfl) hl hL w ⟨Nat.le_refl _, by omega⟩⟩
include hm h1
theorem ppr_ok {sl h : Value} {hs : List Int} (hsl : EsR r E sl) (hh : HsR r hs h) : GrT Tryd.prog r 8 [I (m : Nat), sl, h] (ppV E hs) := by
 have sm : ∀ l : List Value, m_same l l = true := same_rfl
 have at' : ∀ (l : List Value) (A : AW), m_at l l A A = true := at_rfl
 have hw := nbz_wS hm16 hE
 rcases hsl with ⟨rfl, rfl⟩ | ⟨b, off, cap, rfl, hz⟩
 ·have hr := hreadN r h1 hm16
  have ht : TOk (SC r) (tHoN (m : Nat) (wG (wS []))) := TOk.cons TOk.nil (entV_ok hr rfl)
  rcases hh with ⟨rfl, rfl⟩ | ⟨b3, off3, cap3, rfl, hl2, hh⟩
  ·refine GrT.of (SC_ok r) ht .nil rfl ⟨1, 6, ?_⟩
   rw [piNm]
   simp only [sm, cond_true]
   rfl
  ·rcases hn3 : hs.length with _ | n3
   ·have h0 : hs = [] := List.length_eq_zero_iff.1 hn3
    refine GrT.of (SC_ok r) ht .nil rfl ⟨1, 6, ?_⟩
    rw [piNe, h0]
    simp only [sm, cond_true]
    rfl
   ·refine GrT.of (SC_ok r) ht .nil rfl ⟨1, 2, ?_⟩
    have e := hu_len (n := ([] : List (Nat × Nat)).length) (hs := hs) (by rw [hn3]; simp)
    unfold ppV
    rw [e, piNr]
    simp only [sm, cond_true]
    rfl
 ·have hr := hread_ok r hm (m : Nat) b off E.length cap (zE E) hz hL (ck_ok h1 hm16 hE)
  rcases hlen : E.length with _ | k
  ·have hE0 : E = [] := List.length_eq_zero_iff.1 hlen
   rw [hlen] at hr hw
   simp only [vRd, aRd, m_hG _ (nbz_len (zE E) 0), hw] at hr
   have ht : TOk (SC r) (tHo1 (m : Nat) b off cap (wG (wS E))) := TOk.cons TOk.nil (entAt_ok hr.one)
   rcases hh with ⟨rfl, rfl⟩ | ⟨b3, off3, cap3, rfl, hl2, hh⟩
   ·refine GrT.of (SC_ok r) ht .nil rfl ⟨1, 6, ?_⟩
    rw [pi1m]
    simp only [at', cond_true]
    rw [hE0]
    rfl
   ·rcases hn3 : hs.length with _ | n3
    ·have h0 : hs = [] := List.length_eq_zero_iff.1 hn3
     refine GrT.of (SC_ok r) ht .nil rfl ⟨1, 6, ?_⟩
     rw [pi1e]
     simp only [at', cond_true]
     rw [h0, hE0]
     rfl
    ·refine GrT.of (SC_ok r) ht .nil rfl ⟨1, 2, ?_⟩
     have e := hu_len (n := E.length) (hs := hs) (by omega)
     unfold ppV
     rw [e, pi1r]
     simp only [at', cond_true]
     rfl
  ·rw [hlen] at hr hw
   simp only [vRd, aRd, m_hG _ (nbz_len (zE E) (k + 1)), hw] at hr
   have ht : TOk (SC r) (tHo2 (m : Nat) b off cap k (wG (wS E)) (m_ed (zE E) (k + 1))) := TOk.cons TOk.nil (entAt_ok hr.one)
   rcases hh with ⟨rfl, rfl⟩ | ⟨b3, off3, cap3, rfl, hl2, hh⟩
   ·refine GrT.of (SC_ok r) ht .nil rfl ⟨1, 2, ?_⟩
    have e := hu_len (n := E.length) (hs := []) (by simp; omega)
    unfold ppV
    rw [e, pi2m]
    simp only [at', cond_true]
    rfl
   ·have ne : (Int.ofNat hs.length != Int.ofNat (k + 1)) = (hs.length != E.length) := by
     rw [hlen]
     by_cases c : hs.length = k + 1
     ·rw [c]; simp
     ·rw [bne_iff_ne.2 c]; exact bne_iff_ne.2 fun h => c (Int.ofNat_inj.1 h)
    by_cases hl : hs.length = E.length
    ·refine GrT.of (SC_ok r) (show TOk (SC r) (tPp (eG (m : Nat) (wG (wS E)) k) (some (m_ed (zE E) (k + 1))) (RS b3 off3 hs.length cap3) (ngF hs).isSome (ppB E hs) (tHo2 (m : Nat) b off cap k (wG (wS E)) (m_ed (zE E) (k + 1)))) from TOk.cons (TOk.cons ht (entNs_ok rfl (zc_ok r hh hl2))) (eHp_ok r hm16 hE hL hlen hh hl (wG (wS E)))) .nil rfl ⟨1, 2, ?_⟩
     rw [pi2r]
     have e2 : (hs.length != E.length) = false := by rw [hl]; simp
     have e3 : (hs.length == E.length) = true := by rw [hl]; simp
     simp only [ne, e2, at', sm, cond_true, cond_false]
     unfold ppV huB
     rw [e3]
     cases (ngF hs).isSome <;> cases ppB E hs <;> rfl
    ·refine GrT.of (SC_ok r) ht .nil rfl ⟨1, 1, ?_⟩
     rw [pi2x]
     simp only [ne, bne_iff_ne.2 hl, at', cond_true]
     unfold ppV
     rw [hu_len hl]
     rfl
omit hm h1 hE in
theorem phu_ok {sl h : Value} {hs : List Int} (hsl : EsR r E sl) (hh : HsR r hs h) : GrT Tryd.prog r 9 [sl, h] (.bool (huB E.length hs)) := by
 have _ := hm16
 rcases hsl with ⟨rfl, rfl⟩ | ⟨b, off, cap, rfl, hz⟩
 ·rcases hh with ⟨rfl, rfl⟩ | ⟨b3, off3, cap3, rfl, hl2, hh⟩
  ·exact GrT.of (SC_ok r) TOk.nil .nil rfl ⟨1, 3, zhNN r⟩
  ·exact zhN_ok r hh hl2 rfl
 ·rcases hh with ⟨rfl, rfl⟩ | ⟨b3, off3, cap3, rfl, hl2, hh⟩
  ·refine GrT.of (SC_ok r) TOk.nil .nil rfl ⟨1, 3, ?_⟩
   rw [zhNR]
   have e : (Int.ofNat 0 == Int.ofNat E.length) = huB E.length [] := by
    show _ = (0 == E.length)
    rw [Bool.eq_iff_iff, beq_iff_eq, beq_iff_eq]
    exact Int.ofNat_inj
   rw [e]
   cases huB E.length [] <;> rfl
  ·exact zhR_ok r hh hl2
omit hm h1 in
theorem prp_ok {sl h : Value} {hs : List Int} (hsl : EsR r E sl) (hh : HsR r hs h) (hu : huB E.length hs = true) : GrT Tryd.prog r 10 [sl, h] (.bool (ppB E hs)) := by
 have hl : hs.length = E.length := by
  rcases Nat.decEq hs.length E.length with c | c
  ·rw [hu_len c] at hu; exact nomatch hu
  ·exact c
 rcases hsl with ⟨rfl, rfl⟩ | ⟨b, off, cap, rfl, hz⟩
 ·rcases hh with ⟨rfl, rfl⟩ | ⟨b3, off3, cap3, rfl, hl2, hh⟩
  ·exact GrT.of (SC_ok r) TOk.nil .nil rfl ⟨1, 3, zqM r⟩
  ·exact GrT.of (SC_ok r) TOk.nil .nil rfl ⟨1, 3, zqN r _ _ _ _⟩
 ·rcases hh with ⟨rfl, rfl⟩ | ⟨b3, off3, cap3, rfl, hl2, hh⟩
  ·have hE0 : E = [] := List.length_eq_zero_iff.1 hl.symm
   subst hE0
   exact GrT.of (SC_ok r) TOk.nil .nil rfl ⟨1, 3, zqO r _ _ _⟩
  ·exact zq_ok r hm16 hE hz hh hl hL
end
end Go.Proofs
namespace Go.Proofs
open Go Go.Ev Go.Num
abbrev HE := Option (Nat × List Value)
noncomputable def gH (x : HE) (h : Value) (A : AW) : Bool := match h with
 | .slice (some ⟨i, k, none⟩) l cap => match x with
  | some (len, c) => match A.heap.get i with
   | some (.cells c' _ _ _) => m_same [.slice (some ⟨0, k, none⟩) l cap, .agg ⟨c'⟩] [.slice (some ⟨0, 0, none⟩) len unk, .agg ⟨c⟩]
   | _ => false
  | none => false
 | .slice none 0 0 => match x with
  | none => true
  | some _ => false
 | _ => false
noncomputable def eJp (m : Nat) (x : XE) (y : HE) (v : Bool) (e : Int) : Ent := ent (fun args A => match args with | [a, b, h] => bif gX m x [a, b] A then gH y h A else false | _ => false) (fun _ _ => .tuple ⟨[.bool v, I e]⟩)
noncomputable def eJh (m : Nat) (x : XE) (y : HE) (v : Bool) : Ent := ent (fun args A => match args with | [b, h] => bif gX m x [I (m : Nat), b] A then gH y h A else false | _ => false) (fun _ _ => .bool v)
noncomputable def tJr (m : Nat) (x : XE) (y : HE) (v : Bool) (e : Int) (hu pp : Bool) : Tbl := tcons 8 (eJp m x y v e) (tcons 9 (eJh m x y hu) (tcons 10 (eJh m x y pp) fun _ => none))
noncomputable def tJx (m : Nat) (x : XE) (y : HE) (v : Bool) (e : Int) : Tbl := tcons 8 (eJp m x y v e) (tcons 9 (eJh m x y false) fun _ => none)
noncomputable def eLi0 (a0 : List Value) : Ent := entV a0 (.slice none 0 0)
noncomputable def eLi1 (a0 : List Value) (len : Nat) (c : List Value) : Ent := ⟨fun args _ => m_same args a0, fun _ _ => true, fun _ A => .slice (some ⟨A.next, 0, none⟩) len unk, fun _ A => A.new (.cells c 3 A.next 1), fun _ _ => undef, fun _ A => A⟩
noncomputable def tJ1 (a0 : List Value) (m len : Nat) (e g : List Value) (t : Tbl) : Tbl := tcons 5 (eTm1 a0 m len e) (tcons 6 (eOf1 m len e g) t)
noncomputable def tJ0 (a0 : List Value) (m : Nat) (g : List Value) (t : Tbl) : Tbl := tcons 5 (entV a0 (.tuple ⟨[I (m : Nat), .slice none 0 0]⟩)) (tcons 6 (eOf0 m g) t)
noncomputable def tJz0 (a0 : List Value) : Tbl := tcons 7 (eLi0 a0) fun _ => none
noncomputable def tJz1 (a0 : List Value) (len : Nat) (c : List Value) : Tbl := tcons 7 (eLi1 a0 len c) fun _ => none
noncomputable def cLv : Code := bodyOf S0 3
noncomputable def Lv_0 : Code := (lc cLv)
noncomputable def Lv_1 : Code := (lc (rc cLv))
noncomputable def Lv_2 : Code := (lc (rc (rc cLv)))
noncomputable def Lv_3 : Code := (lc (rc (rc (rc cLv))))
noncomputable def Lv_4 : Code := (lc (lc (rc (rc (rc (rc cLv))))))
noncomputable def Lv_5 : Code := (lc (ic (ic (rc (lc (rc (rc (rc (rc cLv)))))))))
noncomputable def Lv_6 : Code := (lc (ic (lc (rc (ic (ic (rc (lc (rc (rc (rc (rc cLv))))))))))))
noncomputable def Lv_7 : Code := (lc (rc (ic (lc (rc (ic (ic (rc (lc (rc (rc (rc (rc cLv)))))))))))))
noncomputable def Lv_8 : Code := (lc (rc (rc (ic (lc (rc (ic (ic (rc (lc (rc (rc (rc (rc cLv))))))))))))))
noncomputable def Lv_9 : Code := (lc (lc (rc (rc (rc (ic (lc (rc (ic (ic (rc (lc (rc (rc (rc (rc cLv))))))))))))))))
noncomputable def Lv_10 : Code := (ic (ic (rc (lc (rc (rc (rc (ic (lc (rc (ic (ic (rc (lc (rc (rc (rc (rc cLv))))))))))))))))))
noncomputable def Lv_11 : Code := (ic (ic (rc (rc (rc (rc (ic (lc (rc (ic (ic (rc (lc (rc (rc (rc (rc cLv)))))))))))))))))
noncomputable def Lv_12 : Code := (rc (rc (ic (ic (rc (lc (rc (rc (rc (rc cLv))))))))))
noncomputable def Lv_13 : Code := (rc (rc (rc (rc (rc cLv)))))
theorem Lv_eq : cLv = (.seq Lv_0 (.seq Lv_1 (.seq Lv_2 (.seq Lv_3 (.seq (.seq Lv_4 (.block 0 (.loop (.seq Lv_5 (.seq (.block 1 (.seq Lv_6 (.seq Lv_7 (.seq Lv_8 (.seq (.seq Lv_9 (.block 2 (.loop Lv_10))) (.block 4 (.loop Lv_11))))))) Lv_12))))) Lv_13))))) := by kernel_rfl
def lvJs : List Nat := [0, 7, 8, 9, 10]
def lvJt : List Nat := [0, 7, 8, 9, 10, 13]
abbrev xJ1 (len : Nat) : Value := .slice (some ⟨0, 0, none⟩) len unk
abbrev xJ0 : Value := .slice none 0 0
def vJ1n (m len : Nat) (k : Int) : OV := [some (I (m : Nat)), some (xJ1 len), some (.slice (some ⟨1, 0, none⟩) m m), some (.slice none 0 0), some (I k)]
def vJ1r (m len L : Nat) (k : Int) : OV := [some (I (m : Nat)), some (xJ1 len), some (.slice (some ⟨1, 0, none⟩) m m), some (.slice (some ⟨2, 0, none⟩) L unk), some (I k)]
def vJ0n (m : Nat) (k : Int) : OV := [some (I (m : Nat)), some xJ0, some (.slice (some ⟨0, 0, none⟩) m m), some (.slice none 0 0), some (I k)]
def vJ0r (m L : Nat) (k : Int) : OV := [some (I (m : Nat)), some xJ0, some (.slice (some ⟨0, 0, none⟩) m m), some (.slice (some ⟨1, 0, none⟩) L unk), some (I k)]
def oJ1n (e g : List Value) : OO := [some (.cells e 52 0 2), some (.cells g 3 1 1)]
def oJ1r (e g c : List Value) : OO := [some (.cells e 52 0 2), some (.cells g 3 1 1), some (.cells c 3 2 1)]
def oJ0n (g : List Value) : OO := [some (.cells g 3 0 1)]
def oJ0r (g c : List Value) : OO := [some (.cells g 3 0 1), some (.cells c 3 1 1)]
def vJz1 (m len : Nat) : OV := [some (I (m : Nat)), some (xJ1 len), some (.slice (some ⟨1, 0, none⟩) m m)]
def vJz0 (m : Nat) : OV := [some (I (m : Nat)), some xJ0, some (.slice (some ⟨0, 0, none⟩) m m)]
theorem jA1nRR (r : Mem) (n : Int) (b off len0 cap : Nat) (b3 off3 n3 cap3 : Nat) (m : Nat) (g : List Value) (len : Nat) (e : List Value) (K : OV → List Nat → OO → CR) (kx : Nat → KS) (kr : KS) : run (SC r) 4194247 154 1 (.seq Lv_0 (.seq Lv_1 (.seq Lv_2 (.seq Lv_3 Lv_4)))) (lvlT (SC r) (tJ1 [I n, (RS2 b off len0 cap), I 16] m len e g (tJz0 [(RS b3 off3 n3 cap3), I 125])) .nil 1 1) none (rbK 0 lvJs [] K) kx kr (sc0 4194247 [I n, (RS2 b off len0 cap), (RS b3 off3 n3 cap3)]) (tr0 4194247 [I n, (RS2 b off len0 cap), (RS b3 off3 n3 cap3)]) [] emptyA =
    bif m_sm [I n, .slice (some ⟨b, off, some 0⟩) len0 cap, I (Int.ofNat 16)] then bif m_sm [I (Int.ofNat m), .slice (some ⟨0, 0, none⟩) len unk, .agg ⟨e⟩] then bif m_sm [.slice (some ⟨b3, off3, some 0⟩) n3 cap3, I (Int.ofNat 125)] then bif m_nns e && (m_nns g && true) then K (vJz1 m len ++ [some (.slice none 0 0), some (I (Int.ofNat 0))]) [] (oJ1n e g) else .fail 420 else .fail 420 else .fail 420 else .fail 420 := by kernel_rfl
theorem jA1nRN (r : Mem) (n : Int) (b off len0 cap : Nat) (m : Nat) (g : List Value) (len : Nat) (e : List Value) (K : OV → List Nat → OO → CR) (kx : Nat → KS) (kr : KS) : run (SC r) 4194247 154 1 (.seq Lv_0 (.seq Lv_1 (.seq Lv_2 (.seq Lv_3 Lv_4)))) (lvlT (SC r) (tJ1 [I n, (RS2 b off len0 cap), I 16] m len e g (tJz0 [(.slice none 0 0), I 125])) .nil 1 1) none (rbK 0 lvJs [] K) kx kr (sc0 4194247 [I n, (RS2 b off len0 cap), (.slice none 0 0)]) (tr0 4194247 [I n, (RS2 b off len0 cap), (.slice none 0 0)]) [] emptyA =
    bif m_sm [I n, .slice (some ⟨b, off, some 0⟩) len0 cap, I (Int.ofNat 16)] then bif m_sm [I (Int.ofNat m), .slice (some ⟨0, 0, none⟩) len unk, .agg ⟨e⟩] then bif Decidable.rec (fun h => (fun x => false) h) (fun h => (fun x => true) h) (Classical.propDecidable ([.slice none 0 0, I 125] = [.slice none 0 0, I 125])) then bif m_nns e && (m_nns g && true) then K (vJz1 m len ++ [some (.slice none 0 0), some (I (Int.ofNat 0))]) [] (oJ1n e g) else .fail 420 else .fail 420 else .fail 420 else .fail 420 := by kernel_rfl
theorem jA1nNR (r : Mem) (n : Int) (b3 off3 n3 cap3 : Nat) (m : Nat) (g : List Value) (len : Nat) (e : List Value) (K : OV → List Nat → OO → CR) (kx : Nat → KS) (kr : KS) : run (SC r) 4194247 154 1 (.seq Lv_0 (.seq Lv_1 (.seq Lv_2 (.seq Lv_3 Lv_4)))) (lvlT (SC r) (tJ1 [I n, (.slice none 0 0), I 16] m len e g (tJz0 [(RS b3 off3 n3 cap3), I 125])) .nil 1 1) none (rbK 0 lvJs [] K) kx kr (sc0 4194247 [I n, (.slice none 0 0), (RS b3 off3 n3 cap3)]) (tr0 4194247 [I n, (.slice none 0 0), (RS b3 off3 n3 cap3)]) [] emptyA =
    bif m_sm [I n, .slice none 0 0, I (Int.ofNat 16)] then bif m_sm [I (Int.ofNat m), .slice (some ⟨0, 0, none⟩) len unk, .agg ⟨e⟩] then bif m_sm [.slice (some ⟨b3, off3, some 0⟩) n3 cap3, I (Int.ofNat 125)] then bif m_nns e && (m_nns g && true) then K (vJz1 m len ++ [some (.slice none 0 0), some (I (Int.ofNat 0))]) [] (oJ1n e g) else .fail 420 else .fail 420 else .fail 420 else .fail 420 := by kernel_rfl
theorem jA1nNN (r : Mem) (n : Int) (m : Nat) (g : List Value) (len : Nat) (e : List Value) (K : OV → List Nat → OO → CR) (kx : Nat → KS) (kr : KS) : run (SC r) 4194247 154 1 (.seq Lv_0 (.seq Lv_1 (.seq Lv_2 (.seq Lv_3 Lv_4)))) (lvlT (SC r) (tJ1 [I n, (.slice none 0 0), I 16] m len e g (tJz0 [(.slice none 0 0), I 125])) .nil 1 1) none (rbK 0 lvJs [] K) kx kr (sc0 4194247 [I n, (.slice none 0 0), (.slice none 0 0)]) (tr0 4194247 [I n, (.slice none 0 0), (.slice none 0 0)]) [] emptyA =
    bif m_sm [I n, .slice none 0 0, I (Int.ofNat 16)] then bif m_sm [I (Int.ofNat m), .slice (some ⟨0, 0, none⟩) len unk, .agg ⟨e⟩] then bif Decidable.rec (fun h => (fun x => false) h) (fun h => (fun x => true) h) (Classical.propDecidable ([.slice none 0 0, I 125] = [.slice none 0 0, I 125])) then bif m_nns e && (m_nns g && true) then K (vJz1 m len ++ [some (.slice none 0 0), some (I (Int.ofNat 0))]) [] (oJ1n e g) else .fail 420 else .fail 420 else .fail 420 else .fail 420 := by kernel_rfl
theorem jB1n (r : Mem) (m : Nat) (g : List Value) (len : Nat) (e : List Value) (k : Int) (fs : FnsC) (K : OV → List Nat → OO → CR) (KX : Nat → OV → List Nat → OO → CR) (kr : KS) : run (SC r) 4194247 154 1 Lv_5 fs none (rbK 0 lvJs [] K) (fun j => rbK 0 [0, 7, 8] [] (KX j)) kr [] (bT lvJs (vJ1n m len k) .nil) [] (mkA (oJ1n e g)) =
    bif decide (k < 2) then bif m_nns e && (m_nns g && true) then K (vJz1 m len ++ [some (.slice none 0 0), some (I k)]) [] (oJ1n e g) else .fail 420 else bif m_nns e && (m_nns g && true) then KX 0 [some (I (Int.ofNat m)), some (.slice (some ⟨0, 0, none⟩) len unk), some (.slice (some ⟨1, 0, none⟩) m m)] [] (oJ1n e g) else .fail 420 := by kernel_rfl
theorem jC1n (r : Mem) (m : Nat) (g : List Value) (len : Nat) (e : List Value) (v pp : Bool) (er : Int) (k : Int) (K : OV → List Nat → OO → CR) (kx : Nat → KS) (KR : OV → List Nat → OO → CR) : run (SC r) 4194247 154 1 (.seq Lv_6 (.seq Lv_7 (.seq Lv_8 Lv_9))) (lvlT (SC r) (tJr m (some (len, e)) none v er true pp) .nil 1 1) none (rbK 0 lvJt [] K) kx (rbK 0 [6] [] KR) [] (bT lvJs (vJ1n m len k) .nil) [] (mkA (oJ1n e g)) =
    bif bif m_sm [I (Int.ofNat m), .slice (some ⟨0, 0, none⟩) len unk, .agg ⟨e⟩] then true else false then bif v then bif bif m_sm [I (Int.ofNat m), .slice (some ⟨0, 0, none⟩) len unk, .agg ⟨e⟩] then true else false then bif er != Int.ofNat 0 then KR [some (.bool false)] [] [] else bif bif m_sm [I (Int.ofNat m), .slice (some ⟨0, 0, none⟩) len unk, .agg ⟨e⟩] then true else false then bif pp then bif m_nns e && (m_nns g && true) then K (vJz1 m len ++ [some (.slice none 0 0), some (I k), some (I (Int.ofNat 0))]) [] (oJ1n e g) else .fail 420 else KR [some (.bool false)] [] [] else .fail 420 else .fail 420 else bif bif m_sm [I (Int.ofNat m), .slice (some ⟨0, 0, none⟩) len unk, .agg ⟨e⟩] then true else false then bif er != Int.ofNat 0 then KR [some (.bool false)] [] [] else bif bif m_sm [I (Int.ofNat m), .slice (some ⟨0, 0, none⟩) len unk, .agg ⟨e⟩] then true else false then bif pp then KR [some (.bool false)] [] [] else bif m_nns e && (m_nns g && true) then K (vJz1 m len ++ [some (.slice none 0 0), some (I k), some (I (Int.ofNat 0))]) [] (oJ1n e g) else .fail 420 else .fail 420 else .fail 420 else .fail 420 := by kernel_rfl
theorem jX1n (r : Mem) (m : Nat) (g : List Value) (len : Nat) (e : List Value) (v : Bool) (er : Int) (k : Int) (K : OV → List Nat → OO → CR) (kx : Nat → KS) (KR : OV → List Nat → OO → CR) : run (SC r) 4194247 154 1 (.seq Lv_6 (.seq Lv_7 (.seq Lv_8 Lv_9))) (lvlT (SC r) (tJx m (some (len, e)) none v er) .nil 1 1) none (rbK 0 lvJt [] K) kx (rbK 0 [6] [] KR) [] (bT lvJs (vJ1n m len k) .nil) [] (mkA (oJ1n e g)) =
    bif bif m_sm [I (Int.ofNat m), .slice (some ⟨0, 0, none⟩) len unk, .agg ⟨e⟩] then true else false then bif v then bif bif m_sm [I (Int.ofNat m), .slice (some ⟨0, 0, none⟩) len unk, .agg ⟨e⟩] then true else false then bif er != Int.ofNat 70 then KR [some (.bool false)] [] [] else KR [some (.bool false)] [] [] else .fail 420 else bif bif m_sm [I (Int.ofNat m), .slice (some ⟨0, 0, none⟩) len unk, .agg ⟨e⟩] then true else false then bif er != Int.ofNat 70 then KR [some (.bool false)] [] [] else bif m_nns e && (m_nns g && true) then K (vJz1 m len ++ [some (.slice none 0 0), some (I k), some (I (Int.ofNat 0))]) [] (oJ1n e g) else .fail 420 else .fail 420 else .fail 420 := by kernel_rfl
theorem jD1n (r : Mem) (m : Nat) (g : List Value) (len : Nat) (e : List Value) (k : Int) (fs : FnsC) (K : OV → List Nat → OO → CR) (KX : Nat → OV → List Nat → OO → CR) (kr : KS) : run (SC r) 4194247 154 1 Lv_10 fs none (rbK 0 lvJt [] K) (fun j => rbK 0 lvJs [] (KX j)) kr [] (bT lvJt ((vJ1n m len k) ++ [some (I 0)]) .nil) [] (mkA (oJ1n e g)) =
    bif m_nns e && (m_nns g && true) then KX 2 (vJz1 m len ++ [some (.slice none 0 0), some (I k)]) [] (oJ1n e g) else .fail 420 := by kernel_rfl
theorem jE1n (r : Mem) (m : Nat) (g : List Value) (len : Nat) (e : List Value) (k : Int) (fs : FnsC) (K : OV → List Nat → OO → CR) (KX : Nat → OV → List Nat → OO → CR) (kr : KS) : run (SC r) 4194247 154 1 Lv_11 fs none (rbK 0 lvJs [] K) (fun j => rbK 0 lvJs [] (KX j)) kr [] (bT lvJs (vJ1n m len k) .nil) [] (mkA (oJ1n e g)) =
    bif decide (0 < Int.ofNat len) then bif m_nns e && (m_nns g && (m_nns [I (Int.ofNat 20)] && true)) then K (vJz1 m len ++ [some (.slice (some ⟨2, 0, none⟩) 1 unk), some (I k)]) [] [some (.cells e 52 0 2), some (.cells g 3 1 1), some (.cells [I (Int.ofNat 20)] 3 2 1)] else .fail 420 else bif m_nns e && (m_nns g && true) then KX 4 (vJz1 m len ++ [some (.slice none 0 0), some (I k)]) [] (oJ1n e g) else .fail 420 := by kernel_rfl
theorem jF1n (r : Mem) (m : Nat) (g : List Value) (len : Nat) (e : List Value) (k : Int) (fs : FnsC) (K : OV → List Nat → OO → CR) (kx : Nat → KS) (kr : KS) : run (SC r) 4194247 154 1 Lv_12 fs none (rbK 0 lvJs [] K) kx kr [] (bT lvJs (vJ1n m len k) .nil) [] (mkA (oJ1n e g)) =
    bif m_nns e && (m_nns g && true) then K (vJz1 m len ++ [some (.slice none 0 0), some (I (IntKind.wrap .i64 (k + Int.ofNat 1)))]) [] (oJ1n e g) else .fail 420 := by kernel_rfl
theorem jA1rRR (r : Mem) (n : Int) (b off len0 cap : Nat) (b3 off3 n3 cap3 : Nat) (m : Nat) (g : List Value) (len : Nat) (e : List Value) (L : Nat) (c : List Value) (K : OV → List Nat → OO → CR) (kx : Nat → KS) (kr : KS) : run (SC r) 4194247 154 1 (.seq Lv_0 (.seq Lv_1 (.seq Lv_2 (.seq Lv_3 Lv_4)))) (lvlT (SC r) (tJ1 [I n, (RS2 b off len0 cap), I 16] m len e g (tJz1 [(RS b3 off3 n3 cap3), I 125] L c)) .nil 1 1) none (rbK 0 lvJs [] K) kx kr (sc0 4194247 [I n, (RS2 b off len0 cap), (RS b3 off3 n3 cap3)]) (tr0 4194247 [I n, (RS2 b off len0 cap), (RS b3 off3 n3 cap3)]) [] emptyA =
    bif m_sm [I n, .slice (some ⟨b, off, some 0⟩) len0 cap, I (Int.ofNat 16)] then bif m_sm [I (Int.ofNat m), .slice (some ⟨0, 0, none⟩) len unk, .agg ⟨e⟩] then bif m_sm [.slice (some ⟨b3, off3, some 0⟩) n3 cap3, I (Int.ofNat 125)] then bif m_nns e && (m_nns g && (m_nns c && true)) then K (vJz1 m len ++ [some (.slice (some ⟨2, 0, none⟩) L unk), some (I (Int.ofNat 0))]) [] (oJ1r e g c) else .fail 420 else .fail 420 else .fail 420 else .fail 420 := by kernel_rfl
theorem jA1rNR (r : Mem) (n : Int) (b3 off3 n3 cap3 : Nat) (m : Nat) (g : List Value) (len : Nat) (e : List Value) (L : Nat) (c : List Value) (K : OV → List Nat → OO → CR) (kx : Nat → KS) (kr : KS) : run (SC r) 4194247 154 1 (.seq Lv_0 (.seq Lv_1 (.seq Lv_2 (.seq Lv_3 Lv_4)))) (lvlT (SC r) (tJ1 [I n, (.slice none 0 0), I 16] m len e g (tJz1 [(RS b3 off3 n3 cap3), I 125] L c)) .nil 1 1) none (rbK 0 lvJs [] K) kx kr (sc0 4194247 [I n, (.slice none 0 0), (RS b3 off3 n3 cap3)]) (tr0 4194247 [I n, (.slice none 0 0), (RS b3 off3 n3 cap3)]) [] emptyA =
    bif m_sm [I n, .slice none 0 0, I (Int.ofNat 16)] then bif m_sm [I (Int.ofNat m), .slice (some ⟨0, 0, none⟩) len unk, .agg ⟨e⟩] then bif m_sm [.slice (some ⟨b3, off3, some 0⟩) n3 cap3, I (Int.ofNat 125)] then bif m_nns e && (m_nns g && (m_nns c && true)) then K (vJz1 m len ++ [some (.slice (some ⟨2, 0, none⟩) L unk), some (I (Int.ofNat 0))]) [] (oJ1r e g c) else .fail 420 else .fail 420 else .fail 420 else .fail 420 := by kernel_rfl
theorem jB1r (r : Mem) (m : Nat) (g : List Value) (len : Nat) (e : List Value) (L : Nat) (c : List Value) (k : Int) (fs : FnsC) (K : OV → List Nat → OO → CR) (KX : Nat → OV → List Nat → OO → CR) (kr : KS) : run (SC r) 4194247 154 1 Lv_5 fs none (rbK 0 lvJs [] K) (fun j => rbK 0 [0, 7, 8] [] (KX j)) kr [] (bT lvJs (vJ1r m len L k) .nil) [] (mkA (oJ1r e g c)) =
    bif decide (k < 2) then bif m_nns e && (m_nns g && (m_nns c && true)) then K (vJz1 m len ++ [some (.slice (some ⟨2, 0, none⟩) L unk), some (I k)]) [] (oJ1r e g c) else .fail 420 else bif m_nns e && (m_nns g && true) then KX 0 [some (I (Int.ofNat m)), some (.slice (some ⟨0, 0, none⟩) len unk), some (.slice (some ⟨1, 0, none⟩) m m)] [] (oJ1n e g) else .fail 420 := by kernel_rfl
theorem jC1r (r : Mem) (m : Nat) (g : List Value) (len : Nat) (e : List Value) (L : Nat) (c : List Value) (v pp : Bool) (er : Int) (k : Int) (K : OV → List Nat → OO → CR) (kx : Nat → KS) (KR : OV → List Nat → OO → CR) : run (SC r) 4194247 154 1 (.seq Lv_6 (.seq Lv_7 (.seq Lv_8 Lv_9))) (lvlT (SC r) (tJr m (some (len, e)) (some (L, c)) v er true pp) .nil 1 1) none (rbK 0 lvJt [] K) kx (rbK 0 [6] [] KR) [] (bT lvJs (vJ1r m len L k) .nil) [] (mkA (oJ1r e g c)) =
    bif bif m_sm [I (Int.ofNat m), .slice (some ⟨0, 0, none⟩) len unk, .agg ⟨e⟩] then m_sm [.slice (some ⟨0, 0, none⟩) L unk, .agg ⟨c⟩] else false then bif v then bif bif m_sm [I (Int.ofNat m), .slice (some ⟨0, 0, none⟩) len unk, .agg ⟨e⟩] then m_sm [.slice (some ⟨0, 0, none⟩) L unk, .agg ⟨c⟩] else false then bif er != Int.ofNat 0 then KR [some (.bool false)] [] [] else bif bif m_sm [I (Int.ofNat m), .slice (some ⟨0, 0, none⟩) len unk, .agg ⟨e⟩] then m_sm [.slice (some ⟨0, 0, none⟩) L unk, .agg ⟨c⟩] else false then bif pp then bif decide (0 ≤ bif decide (Int.ofNat len < Int.ofNat L) then Int.ofNat len else Int.ofNat L) then bif Nat.ble (Int.toNat (bif decide (Int.ofNat len < Int.ofNat L) then Int.ofNat len else Int.ofNat L)) L then bif m_nns e && (m_nns g && (m_nns c && true)) then K (vJz1 m len ++ [some (.slice (some ⟨2, 0, none⟩) (Int.toNat (bif decide (Int.ofNat len < Int.ofNat L) then Int.ofNat len else Int.ofNat L)) unk), some (I k), some (I (Int.ofNat 0))]) [] (oJ1r e g c) else .fail 420 else .fail 420 else .fail 420 else KR [some (.bool false)] [] [] else .fail 420 else .fail 420 else bif bif m_sm [I (Int.ofNat m), .slice (some ⟨0, 0, none⟩) len unk, .agg ⟨e⟩] then m_sm [.slice (some ⟨0, 0, none⟩) L unk, .agg ⟨c⟩] else false then bif er != Int.ofNat 0 then KR [some (.bool false)] [] [] else bif bif m_sm [I (Int.ofNat m), .slice (some ⟨0, 0, none⟩) len unk, .agg ⟨e⟩] then m_sm [.slice (some ⟨0, 0, none⟩) L unk, .agg ⟨c⟩] else false then bif pp then KR [some (.bool false)] [] [] else bif decide (0 ≤ bif decide (Int.ofNat len < Int.ofNat L) then Int.ofNat len else Int.ofNat L) then bif Nat.ble (Int.toNat (bif decide (Int.ofNat len < Int.ofNat L) then Int.ofNat len else Int.ofNat L)) L then bif m_nns e && (m_nns g && (m_nns c && true)) then K (vJz1 m len ++ [some (.slice (some ⟨2, 0, none⟩) (Int.toNat (bif decide (Int.ofNat len < Int.ofNat L) then Int.ofNat len else Int.ofNat L)) unk), some (I k), some (I (Int.ofNat 0))]) [] (oJ1r e g c) else .fail 420 else .fail 420 else .fail 420 else .fail 420 else .fail 420 else .fail 420 := by kernel_rfl
theorem jX1r (r : Mem) (m : Nat) (g : List Value) (len : Nat) (e : List Value) (L : Nat) (c : List Value) (v : Bool) (er : Int) (k : Int) (K : OV → List Nat → OO → CR) (kx : Nat → KS) (KR : OV → List Nat → OO → CR) : run (SC r) 4194247 154 1 (.seq Lv_6 (.seq Lv_7 (.seq Lv_8 Lv_9))) (lvlT (SC r) (tJx m (some (len, e)) (some (L, c)) v er) .nil 1 1) none (rbK 0 lvJt [] K) kx (rbK 0 [6] [] KR) [] (bT lvJs (vJ1r m len L k) .nil) [] (mkA (oJ1r e g c)) =
    bif bif m_sm [I (Int.ofNat m), .slice (some ⟨0, 0, none⟩) len unk, .agg ⟨e⟩] then m_sm [.slice (some ⟨0, 0, none⟩) L unk, .agg ⟨c⟩] else false then bif v then bif bif m_sm [I (Int.ofNat m), .slice (some ⟨0, 0, none⟩) len unk, .agg ⟨e⟩] then m_sm [.slice (some ⟨0, 0, none⟩) L unk, .agg ⟨c⟩] else false then bif er != Int.ofNat 70 then KR [some (.bool false)] [] [] else KR [some (.bool false)] [] [] else .fail 420 else bif bif m_sm [I (Int.ofNat m), .slice (some ⟨0, 0, none⟩) len unk, .agg ⟨e⟩] then m_sm [.slice (some ⟨0, 0, none⟩) L unk, .agg ⟨c⟩] else false then bif er != Int.ofNat 70 then KR [some (.bool false)] [] [] else bif decide (0 ≤ bif decide (Int.ofNat len < Int.ofNat L) then Int.ofNat len else Int.ofNat L) then bif Nat.ble (Int.toNat (bif decide (Int.ofNat len < Int.ofNat L) then Int.ofNat len else Int.ofNat L)) L then bif m_nns e && (m_nns g && (m_nns c && true)) then K (vJz1 m len ++ [some (.slice (some ⟨2, 0, none⟩) (Int.toNat (bif decide (Int.ofNat len < Int.ofNat L) then Int.ofNat len else Int.ofNat L)) unk), some (I k), some (I (Int.ofNat 0))]) [] (oJ1r e g c) else .fail 420 else .fail 420 else .fail 420 else .fail 420 else .fail 420 := by kernel_rfl
theorem jD1r (r : Mem) (m : Nat) (g : List Value) (len : Nat) (e : List Value) (L : Nat) (c : List Value) (k i : Int) (fs : FnsC) (K : OV → List Nat → OO → CR) (KX : Nat → OV → List Nat → OO → CR) (kr : KS) : run (SC r) 4194247 154 1 Lv_10 fs none (rbK 0 lvJt [] K) (fun j => rbK 0 lvJs [] (KX j)) kr [] (bT lvJt ((vJ1r m len L k) ++ [some (I i)]) .nil) [] (mkA (oJ1r e g c)) =
    bif decide (i < Int.ofNat L) then bif decide (0 ≤ i) then bif Nat.blt (Int.toNat i) L then Option.casesOn c[Nat.add 0 (Nat.mul (Int.toNat i) 1)]? (.fail 423) fun val => bif isI IntKind.i64 val then bif decide (0 ≤ i) then bif Nat.blt (Int.toNat i) L then bif Nat.blt (Nat.add 0 (Nat.mul (Int.toNat i) 1)) (List.length c) then bif m_nns e && (m_nns g && (m_nns (List.set c (Nat.add 0 (Nat.mul (Int.toNat i) 1)) (I (IntKind.wrap .i64 (Int.tmod (IntKind.wrap .u64 (ofI val)) (Int.ofNat 20))))) && true)) then K (vJz1 m len ++ [some (.slice (some ⟨2, 0, none⟩) L unk), some (I k), some (I (IntKind.wrap .i64 (i + Int.ofNat 1)))]) [] [some (.cells e 52 0 2), some (.cells g 3 1 1), some (.cells (List.set c (Nat.add 0 (Nat.mul (Int.toNat i) 1)) (I (IntKind.wrap .i64 (Int.tmod (IntKind.wrap .u64 (ofI val)) (Int.ofNat 20))))) 3 2 1)] else .fail 420 else .fail 420 else .fail 420 else .fail 420 else .fail 420 else .fail 420 else .fail 420 else bif m_nns e && (m_nns g && (m_nns c && true)) then KX 2 (vJz1 m len ++ [some (.slice (some ⟨2, 0, none⟩) L unk), some (I k)]) [] (oJ1r e g c) else .fail 420 := by kernel_rfl
theorem jE1r (r : Mem) (m : Nat) (g : List Value) (len : Nat) (e : List Value) (L : Nat) (c : List Value) (k : Int) (fs : FnsC) (K : OV → List Nat → OO → CR) (KX : Nat → OV → List Nat → OO → CR) (kr : KS) : run (SC r) 4194247 154 1 Lv_11 fs none (rbK 0 lvJs [] K) (fun j => rbK 0 lvJs [] (KX j)) kr [] (bT lvJs (vJ1r m len L k) .nil) [] (mkA (oJ1r e g c)) =
    bif decide (Int.ofNat L < Int.ofNat len) then bif Nat.ble (Nat.add L 1) 1000000 then Option.casesOn (takeAt c 0 (Nat.mul L 1)) (.fail 439) fun val => bif m_nns e && (m_nns g && (m_nns (val ++ [I (IntKind.wrap .i64 (Int.ofNat L + Int.ofNat 20))]) && true)) then K (vJz1 m len ++ [some (.slice (some ⟨2, 0, none⟩) (Nat.add L 1) unk), some (I k)]) [] [some (.cells e 52 0 2), some (.cells g 3 1 1), some (.cells (val ++ [I (IntKind.wrap .i64 (Int.ofNat L + Int.ofNat 20))]) 3 2 1)] else .fail 420 else .fail 420 else bif m_nns e && (m_nns g && (m_nns c && true)) then KX 4 (vJz1 m len ++ [some (.slice (some ⟨2, 0, none⟩) L unk), some (I k)]) [] (oJ1r e g c) else .fail 420 := by kernel_rfl
theorem jF1r (r : Mem) (m : Nat) (g : List Value) (len : Nat) (e : List Value) (L : Nat) (c : List Value) (k : Int) (fs : FnsC) (K : OV → List Nat → OO → CR) (kx : Nat → KS) (kr : KS) : run (SC r) 4194247 154 1 Lv_12 fs none (rbK 0 lvJs [] K) kx kr [] (bT lvJs (vJ1r m len L k) .nil) [] (mkA (oJ1r e g c)) =
    bif m_nns e && (m_nns g && (m_nns c && true)) then K (vJz1 m len ++ [some (.slice (some ⟨2, 0, none⟩) L unk), some (I (IntKind.wrap .i64 (k + Int.ofNat 1)))]) [] (oJ1r e g c) else .fail 420 := by kernel_rfl
theorem jA0nRR (r : Mem) (n : Int) (b off len0 cap : Nat) (b3 off3 n3 cap3 : Nat) (m : Nat) (g : List Value) (K : OV → List Nat → OO → CR) (kx : Nat → KS) (kr : KS) : run (SC r) 4194247 154 1 (.seq Lv_0 (.seq Lv_1 (.seq Lv_2 (.seq Lv_3 Lv_4)))) (lvlT (SC r) (tJ0 [I n, (RS2 b off len0 cap), I 16] m g (tJz0 [(RS b3 off3 n3 cap3), I 125])) .nil 1 1) none (rbK 0 lvJs [] K) kx kr (sc0 4194247 [I n, (RS2 b off len0 cap), (RS b3 off3 n3 cap3)]) (tr0 4194247 [I n, (RS2 b off len0 cap), (RS b3 off3 n3 cap3)]) [] emptyA =
    bif m_sm [I n, .slice (some ⟨b, off, some 0⟩) len0 cap, I (Int.ofNat 16)] then bif m_sm [I (Int.ofNat m), .slice none 0 0] then bif m_sm [.slice (some ⟨b3, off3, some 0⟩) n3 cap3, I (Int.ofNat 125)] then bif m_nns g && true then K (vJz0 m ++ [some (.slice none 0 0), some (I (Int.ofNat 0))]) [] (oJ0n g) else .fail 420 else .fail 420 else .fail 420 else .fail 420 := by kernel_rfl
theorem jA0nRN (r : Mem) (n : Int) (b off len0 cap : Nat) (m : Nat) (g : List Value) (K : OV → List Nat → OO → CR) (kx : Nat → KS) (kr : KS) : run (SC r) 4194247 154 1 (.seq Lv_0 (.seq Lv_1 (.seq Lv_2 (.seq Lv_3 Lv_4)))) (lvlT (SC r) (tJ0 [I n, (RS2 b off len0 cap), I 16] m g (tJz0 [(.slice none 0 0), I 125])) .nil 1 1) none (rbK 0 lvJs [] K) kx kr (sc0 4194247 [I n, (RS2 b off len0 cap), (.slice none 0 0)]) (tr0 4194247 [I n, (RS2 b off len0 cap), (.slice none 0 0)]) [] emptyA =
    bif m_sm [I n, .slice (some ⟨b, off, some 0⟩) len0 cap, I (Int.ofNat 16)] then bif m_sm [I (Int.ofNat m), .slice none 0 0] then bif Decidable.rec (fun h => (fun x => false) h) (fun h => (fun x => true) h) (Classical.propDecidable ([.slice none 0 0, I 125] = [.slice none 0 0, I 125])) then bif m_nns g && true then K (vJz0 m ++ [some (.slice none 0 0), some (I (Int.ofNat 0))]) [] (oJ0n g) else .fail 420 else .fail 420 else .fail 420 else .fail 420 := by kernel_rfl
theorem jA0nNR (r : Mem) (n : Int) (b3 off3 n3 cap3 : Nat) (m : Nat) (g : List Value) (K : OV → List Nat → OO → CR) (kx : Nat → KS) (kr : KS) : run (SC r) 4194247 154 1 (.seq Lv_0 (.seq Lv_1 (.seq Lv_2 (.seq Lv_3 Lv_4)))) (lvlT (SC r) (tJ0 [I n, (.slice none 0 0), I 16] m g (tJz0 [(RS b3 off3 n3 cap3), I 125])) .nil 1 1) none (rbK 0 lvJs [] K) kx kr (sc0 4194247 [I n, (.slice none 0 0), (RS b3 off3 n3 cap3)]) (tr0 4194247 [I n, (.slice none 0 0), (RS b3 off3 n3 cap3)]) [] emptyA =
    bif m_sm [I n, .slice none 0 0, I (Int.ofNat 16)] then bif m_sm [I (Int.ofNat m), .slice none 0 0] then bif m_sm [.slice (some ⟨b3, off3, some 0⟩) n3 cap3, I (Int.ofNat 125)] then bif m_nns g && true then K (vJz0 m ++ [some (.slice none 0 0), some (I (Int.ofNat 0))]) [] (oJ0n g) else .fail 420 else .fail 420 else .fail 420 else .fail 420 := by kernel_rfl
theorem jA0nNN (r : Mem) (n : Int) (m : Nat) (g : List Value) (K : OV → List Nat → OO → CR) (kx : Nat → KS) (kr : KS) : run (SC r) 4194247 154 1 (.seq Lv_0 (.seq Lv_1 (.seq Lv_2 (.seq Lv_3 Lv_4)))) (lvlT (SC r) (tJ0 [I n, (.slice none 0 0), I 16] m g (tJz0 [(.slice none 0 0), I 125])) .nil 1 1) none (rbK 0 lvJs [] K) kx kr (sc0 4194247 [I n, (.slice none 0 0), (.slice none 0 0)]) (tr0 4194247 [I n, (.slice none 0 0), (.slice none 0 0)]) [] emptyA =
    bif m_sm [I n, .slice none 0 0, I (Int.ofNat 16)] then bif m_sm [I (Int.ofNat m), .slice none 0 0] then bif Decidable.rec (fun h => (fun x => false) h) (fun h => (fun x => true) h) (Classical.propDecidable ([.slice none 0 0, I 125] = [.slice none 0 0, I 125])) then bif m_nns g && true then K (vJz0 m ++ [some (.slice none 0 0), some (I (Int.ofNat 0))]) [] (oJ0n g) else .fail 420 else .fail 420 else .fail 420 else .fail 420 := by kernel_rfl
theorem jB0n (r : Mem) (m : Nat) (g : List Value) (k : Int) (fs : FnsC) (K : OV → List Nat → OO → CR) (KX : Nat → OV → List Nat → OO → CR) (kr : KS) : run (SC r) 4194247 154 1 Lv_5 fs none (rbK 0 lvJs [] K) (fun j => rbK 0 [0, 7, 8] [] (KX j)) kr [] (bT lvJs (vJ0n m k) .nil) [] (mkA (oJ0n g)) =
    bif decide (k < 2) then bif m_nns g && true then K (vJz0 m ++ [some (.slice none 0 0), some (I k)]) [] (oJ0n g) else .fail 420 else bif m_nns g && true then KX 0 [some (I (Int.ofNat m)), some (.slice none 0 0), some (.slice (some ⟨0, 0, none⟩) m m)] [] (oJ0n g) else .fail 420 := by kernel_rfl
theorem jC0n (r : Mem) (m : Nat) (g : List Value) (v pp : Bool) (er : Int) (k : Int) (K : OV → List Nat → OO → CR) (kx : Nat → KS) (KR : OV → List Nat → OO → CR) : run (SC r) 4194247 154 1 (.seq Lv_6 (.seq Lv_7 (.seq Lv_8 Lv_9))) (lvlT (SC r) (tJr m none none v er true pp) .nil 1 1) none (rbK 0 lvJt [] K) kx (rbK 0 [6] [] KR) [] (bT lvJs (vJ0n m k) .nil) [] (mkA (oJ0n g)) =
    bif bif m_sm [I (Int.ofNat m)] then true else false then bif v then bif bif m_sm [I (Int.ofNat m)] then true else false then bif er != Int.ofNat 0 then KR [some (.bool false)] [] [] else bif bif m_sm [I (Int.ofNat m)] then true else false then bif pp then bif m_nns g && true then K (vJz0 m ++ [some (.slice none 0 0), some (I k), some (I (Int.ofNat 0))]) [] (oJ0n g) else .fail 420 else KR [some (.bool false)] [] [] else .fail 420 else .fail 420 else bif bif m_sm [I (Int.ofNat m)] then true else false then bif er != Int.ofNat 0 then KR [some (.bool false)] [] [] else bif bif m_sm [I (Int.ofNat m)] then true else false then bif pp then KR [some (.bool false)] [] [] else bif m_nns g && true then K (vJz0 m ++ [some (.slice none 0 0), some (I k), some (I (Int.ofNat 0))]) [] (oJ0n g) else .fail 420 else .fail 420 else .fail 420 else .fail 420 := by kernel_rfl
theorem jX0n (r : Mem) (m : Nat) (g : List Value) (v : Bool) (er : Int) (k : Int) (K : OV → List Nat → OO → CR) (kx : Nat → KS) (KR : OV → List Nat → OO → CR) : run (SC r) 4194247 154 1 (.seq Lv_6 (.seq Lv_7 (.seq Lv_8 Lv_9))) (lvlT (SC r) (tJx m none none v er) .nil 1 1) none (rbK 0 lvJt [] K) kx (rbK 0 [6] [] KR) [] (bT lvJs (vJ0n m k) .nil) [] (mkA (oJ0n g)) =
    bif bif m_sm [I (Int.ofNat m)] then true else false then bif v then bif bif m_sm [I (Int.ofNat m)] then true else false then bif er != Int.ofNat 70 then KR [some (.bool false)] [] [] else KR [some (.bool false)] [] [] else .fail 420 else bif bif m_sm [I (Int.ofNat m)] then true else false then bif er != Int.ofNat 70 then KR [some (.bool false)] [] [] else bif m_nns g && true then K (vJz0 m ++ [some (.slice none 0 0), some (I k), some (I (Int.ofNat 0))]) [] (oJ0n g) else .fail 420 else .fail 420 else .fail 420 := by kernel_rfl
theorem jD0n (r : Mem) (m : Nat) (g : List Value) (k : Int) (fs : FnsC) (K : OV → List Nat → OO → CR) (KX : Nat → OV → List Nat → OO → CR) (kr : KS) : run (SC r) 4194247 154 1 Lv_10 fs none (rbK 0 lvJt [] K) (fun j => rbK 0 lvJs [] (KX j)) kr [] (bT lvJt ((vJ0n m k) ++ [some (I 0)]) .nil) [] (mkA (oJ0n g)) =
    bif m_nns g && true then KX 2 (vJz0 m ++ [some (.slice none 0 0), some (I k)]) [] (oJ0n g) else .fail 420 := by kernel_rfl
theorem jE0n (r : Mem) (m : Nat) (g : List Value) (k : Int) (fs : FnsC) (K : OV → List Nat → OO → CR) (KX : Nat → OV → List Nat → OO → CR) (kr : KS) : run (SC r) 4194247 154 1 Lv_11 fs none (rbK 0 lvJs [] K) (fun j => rbK 0 lvJs [] (KX j)) kr [] (bT lvJs (vJ0n m k) .nil) [] (mkA (oJ0n g)) =
    bif m_nns g && true then KX 4 (vJz0 m ++ [some (.slice none 0 0), some (I k)]) [] (oJ0n g) else .fail 420 := by kernel_rfl
theorem jF0n (r : Mem) (m : Nat) (g : List Value) (k : Int) (fs : FnsC) (K : OV → List Nat → OO → CR) (kx : Nat → KS) (kr : KS) : run (SC r) 4194247 154 1 Lv_12 fs none (rbK 0 lvJs [] K) kx kr [] (bT lvJs (vJ0n m k) .nil) [] (mkA (oJ0n g)) =
    bif m_nns g && true then K (vJz0 m ++ [some (.slice none 0 0), some (I (IntKind.wrap .i64 (k + Int.ofNat 1)))]) [] (oJ0n g) else .fail 420 := by kernel_rfl
theorem jA0rRR (r : Mem) (n : Int) (b off len0 cap : Nat) (b3 off3 n3 cap3 : Nat) (m : Nat) (g : List Value) (L : Nat) (c : List Value) (K : OV → List Nat → OO → CR) (kx : Nat → KS) (kr : KS) : run (SC r) 4194247 154 1 (.seq Lv_0 (.seq Lv_1 (.seq Lv_2 (.seq Lv_3 Lv_4)))) (lvlT (SC r) (tJ0 [I n, (RS2 b off len0 cap), I 16] m g (tJz1 [(RS b3 off3 n3 cap3), I 125] L c)) .nil 1 1) none (rbK 0 lvJs [] K) kx kr (sc0 4194247 [I n, (RS2 b off len0 cap), (RS b3 off3 n3 cap3)]) (tr0 4194247 [I n, (RS2 b off len0 cap), (RS b3 off3 n3 cap3)]) [] emptyA =
    bif m_sm [I n, .slice (some ⟨b, off, some 0⟩) len0 cap, I (Int.ofNat 16)] then bif m_sm [I (Int.ofNat m), .slice none 0 0] then bif m_sm [.slice (some ⟨b3, off3, some 0⟩) n3 cap3, I (Int.ofNat 125)] then bif m_nns g && (m_nns c && true) then K (vJz0 m ++ [some (.slice (some ⟨1, 0, none⟩) L unk), some (I (Int.ofNat 0))]) [] (oJ0r g c) else .fail 420 else .fail 420 else .fail 420 else .fail 420 := by kernel_rfl
theorem jA0rNR (r : Mem) (n : Int) (b3 off3 n3 cap3 : Nat) (m : Nat) (g : List Value) (L : Nat) (c : List Value) (K : OV → List Nat → OO → CR) (kx : Nat → KS) (kr : KS) : run (SC r) 4194247 154 1 (.seq Lv_0 (.seq Lv_1 (.seq Lv_2 (.seq Lv_3 Lv_4)))) (lvlT (SC r) (tJ0 [I n, (.slice none 0 0), I 16] m g (tJz1 [(RS b3 off3 n3 cap3), I 125] L c)) .nil 1 1) none (rbK 0 lvJs [] K) kx kr (sc0 4194247 [I n, (.slice none 0 0), (RS b3 off3 n3 cap3)]) (tr0 4194247 [I n, (.slice none 0 0), (RS b3 off3 n3 cap3)]) [] emptyA =
    bif m_sm [I n, .slice none 0 0, I (Int.ofNat 16)] then bif m_sm [I (Int.ofNat m), .slice none 0 0] then bif m_sm [.slice (some ⟨b3, off3, some 0⟩) n3 cap3, I (Int.ofNat 125)] then bif m_nns g && (m_nns c && true) then K (vJz0 m ++ [some (.slice (some ⟨1, 0, none⟩) L unk), some (I (Int.ofNat 0))]) [] (oJ0r g c) else .fail 420 else .fail 420 else .fail 420 else .fail 420 := by kernel_rfl
theorem jB0r (r : Mem) (m : Nat) (g : List Value) (L : Nat) (c : List Value) (k : Int) (fs : FnsC) (K : OV → List Nat → OO → CR) (KX : Nat → OV → List Nat → OO → CR) (kr : KS) : run (SC r) 4194247 154 1 Lv_5 fs none (rbK 0 lvJs [] K) (fun j => rbK 0 [0, 7, 8] [] (KX j)) kr [] (bT lvJs (vJ0r m L k) .nil) [] (mkA (oJ0r g c)) =
    bif decide (k < 2) then bif m_nns g && (m_nns c && true) then K (vJz0 m ++ [some (.slice (some ⟨1, 0, none⟩) L unk), some (I k)]) [] (oJ0r g c) else .fail 420 else bif m_nns g && true then KX 0 [some (I (Int.ofNat m)), some (.slice none 0 0), some (.slice (some ⟨0, 0, none⟩) m m)] [] (oJ0n g) else .fail 420 := by kernel_rfl
theorem jC0r (r : Mem) (m : Nat) (g : List Value) (L : Nat) (c : List Value) (v pp : Bool) (er : Int) (k : Int) (K : OV → List Nat → OO → CR) (kx : Nat → KS) (KR : OV → List Nat → OO → CR) : run (SC r) 4194247 154 1 (.seq Lv_6 (.seq Lv_7 (.seq Lv_8 Lv_9))) (lvlT (SC r) (tJr m none (some (L, c)) v er true pp) .nil 1 1) none (rbK 0 lvJt [] K) kx (rbK 0 [6] [] KR) [] (bT lvJs (vJ0r m L k) .nil) [] (mkA (oJ0r g c)) =
    bif bif m_sm [I (Int.ofNat m)] then m_sm [.slice (some ⟨0, 0, none⟩) L unk, .agg ⟨c⟩] else false then bif v then bif bif m_sm [I (Int.ofNat m)] then m_sm [.slice (some ⟨0, 0, none⟩) L unk, .agg ⟨c⟩] else false then bif er != Int.ofNat 0 then KR [some (.bool false)] [] [] else bif bif m_sm [I (Int.ofNat m)] then m_sm [.slice (some ⟨0, 0, none⟩) L unk, .agg ⟨c⟩] else false then bif pp then bif decide (0 ≤ bif decide (0 < Int.ofNat L) then Int.ofNat 0 else Int.ofNat L) then bif Nat.ble (Int.toNat (bif decide (0 < Int.ofNat L) then Int.ofNat 0 else Int.ofNat L)) L then bif m_nns g && (m_nns c && true) then K (vJz0 m ++ [some (.slice (some ⟨1, 0, none⟩) (Int.toNat (bif decide (0 < Int.ofNat L) then Int.ofNat 0 else Int.ofNat L)) unk), some (I k), some (I (Int.ofNat 0))]) [] (oJ0r g c) else .fail 420 else .fail 420 else .fail 420 else KR [some (.bool false)] [] [] else .fail 420 else .fail 420 else bif bif m_sm [I (Int.ofNat m)] then m_sm [.slice (some ⟨0, 0, none⟩) L unk, .agg ⟨c⟩] else false then bif er != Int.ofNat 0 then KR [some (.bool false)] [] [] else bif bif m_sm [I (Int.ofNat m)] then m_sm [.slice (some ⟨0, 0, none⟩) L unk, .agg ⟨c⟩] else false then bif pp then KR [some (.bool false)] [] [] else bif decide (0 ≤ bif decide (0 < Int.ofNat L) then Int.ofNat 0 else Int.ofNat L) then bif Nat.ble (Int.toNat (bif decide (0 < Int.ofNat L) then Int.ofNat 0 else Int.ofNat L)) L then bif m_nns g && (m_nns c && true) then K (vJz0 m ++ [some (.slice (some ⟨1, 0, none⟩) (Int.toNat (bif decide (0 < Int.ofNat L) then Int.ofNat 0 else Int.ofNat L)) unk), some (I k), some (I (Int.ofNat 0))]) [] (oJ0r g c) else .fail 420 else .fail 420 else .fail 420 else .fail 420 else .fail 420 else .fail 420 := by kernel_rfl
theorem jX0r (r : Mem) (m : Nat) (g : List Value) (L : Nat) (c : List Value) (v : Bool) (er : Int) (k : Int) (K : OV → List Nat → OO → CR) (kx : Nat → KS) (KR : OV → List Nat → OO → CR) : run (SC r) 4194247 154 1 (.seq Lv_6 (.seq Lv_7 (.seq Lv_8 Lv_9))) (lvlT (SC r) (tJx m none (some (L, c)) v er) .nil 1 1) none (rbK 0 lvJt [] K) kx (rbK 0 [6] [] KR) [] (bT lvJs (vJ0r m L k) .nil) [] (mkA (oJ0r g c)) =
    bif bif m_sm [I (Int.ofNat m)] then m_sm [.slice (some ⟨0, 0, none⟩) L unk, .agg ⟨c⟩] else false then bif v then bif bif m_sm [I (Int.ofNat m)] then m_sm [.slice (some ⟨0, 0, none⟩) L unk, .agg ⟨c⟩] else false then bif er != Int.ofNat 70 then KR [some (.bool false)] [] [] else KR [some (.bool false)] [] [] else .fail 420 else bif bif m_sm [I (Int.ofNat m)] then m_sm [.slice (some ⟨0, 0, none⟩) L unk, .agg ⟨c⟩] else false then bif er != Int.ofNat 70 then KR [some (.bool false)] [] [] else bif decide (0 ≤ bif decide (0 < Int.ofNat L) then Int.ofNat 0 else Int.ofNat L) then bif Nat.ble (Int.toNat (bif decide (0 < Int.ofNat L) then Int.ofNat 0 else Int.ofNat L)) L then bif m_nns g && (m_nns c && true) then K (vJz0 m ++ [some (.slice (some ⟨1, 0, none⟩) (Int.toNat (bif decide (0 < Int.ofNat L) then Int.ofNat 0 else Int.ofNat L)) unk), some (I k), some (I (Int.ofNat 0))]) [] (oJ0r g c) else .fail 420 else .fail 420 else .fail 420 else .fail 420 else .fail 420 := by kernel_rfl
theorem jD0r (r : Mem) (m : Nat) (g : List Value) (L : Nat) (c : List Value) (k i : Int) (fs : FnsC) (K : OV → List Nat → OO → CR) (KX : Nat → OV → List Nat → OO → CR) (kr : KS) : run (SC r) 4194247 154 1 Lv_10 fs none (rbK 0 lvJt [] K) (fun j => rbK 0 lvJs [] (KX j)) kr [] (bT lvJt ((vJ0r m L k) ++ [some (I i)]) .nil) [] (mkA (oJ0r g c)) =
    bif decide (i < Int.ofNat L) then bif decide (0 ≤ i) then bif Nat.blt (Int.toNat i) L then Option.casesOn c[Nat.add 0 (Nat.mul (Int.toNat i) 1)]? (.fail 423) fun val => bif isI IntKind.i64 val then bif decide (0 ≤ i) then bif Nat.blt (Int.toNat i) L then bif Nat.blt (Nat.add 0 (Nat.mul (Int.toNat i) 1)) (List.length c) then bif m_nns g && (m_nns (List.set c (Nat.add 0 (Nat.mul (Int.toNat i) 1)) (I (IntKind.wrap .i64 (Int.tmod (IntKind.wrap .u64 (ofI val)) (Int.ofNat 20))))) && true) then K (vJz0 m ++ [some (.slice (some ⟨1, 0, none⟩) L unk), some (I k), some (I (IntKind.wrap .i64 (i + Int.ofNat 1)))]) [] [some (.cells g 3 0 1), some (.cells (List.set c (Nat.add 0 (Nat.mul (Int.toNat i) 1)) (I (IntKind.wrap .i64 (Int.tmod (IntKind.wrap .u64 (ofI val)) (Int.ofNat 20))))) 3 1 1)] else .fail 420 else .fail 420 else .fail 420 else .fail 420 else .fail 420 else .fail 420 else .fail 420 else bif m_nns g && (m_nns c && true) then KX 2 (vJz0 m ++ [some (.slice (some ⟨1, 0, none⟩) L unk), some (I k)]) [] (oJ0r g c) else .fail 420 := by kernel_rfl
theorem jE0r (r : Mem) (m : Nat) (g : List Value) (L : Nat) (c : List Value) (k : Int) (fs : FnsC) (K : OV → List Nat → OO → CR) (KX : Nat → OV → List Nat → OO → CR) (kr : KS) : run (SC r) 4194247 154 1 Lv_11 fs none (rbK 0 lvJs [] K) (fun j => rbK 0 lvJs [] (KX j)) kr [] (bT lvJs (vJ0r m L k) .nil) [] (mkA (oJ0r g c)) =
    bif m_nns g && (m_nns c && true) then KX 4 (vJz0 m ++ [some (.slice (some ⟨1, 0, none⟩) L unk), some (I k)]) [] (oJ0r g c) else .fail 420 := by kernel_rfl
theorem jF0r (r : Mem) (m : Nat) (g : List Value) (L : Nat) (c : List Value) (k : Int) (fs : FnsC) (K : OV → List Nat → OO → CR) (kx : Nat → KS) (kr : KS) : run (SC r) 4194247 154 1 Lv_12 fs none (rbK 0 lvJs [] K) kx kr [] (bT lvJs (vJ0r m L k) .nil) [] (mkA (oJ0r g c)) =
    bif m_nns g && (m_nns c && true) then K (vJz0 m ++ [some (.slice (some ⟨1, 0, none⟩) L unk), some (I (IntKind.wrap .i64 (k + Int.ofNat 1)))]) [] (oJ0r g c) else .fail 420 := by kernel_rfl
end Go.Proofs
namespace Go.Proofs
open Go Go.Ev Go.Num
noncomputable def eJv (m : Nat) (x : XE) (v : Value) : Ent := ent (gX m x) (fun _ _ => v)
noncomputable def eJg (m : Nat) (g : List Value) (v : Value) : Ent := ent (gG m g) (fun _ _ => v)
noncomputable def eJo (m : Nat) (x : XE) (n : Nat) (d : List Value) : Ent := ⟨gX m x, fun _ _ => true, fun _ A => .tuple ⟨[.slice (some ⟨A.next, 0, none⟩) n unk, .bool true, I 0]⟩, fun _ A => A.new (.cells d 3 A.next 1), fun _ _ => undef, fun _ A => A⟩
noncomputable def eJq (m : Nat) (g : List Value) (n : Nat) (d : List Value) : Ent := ent (fun args A => match args with
  | [.slice (some ⟨i, a, none⟩) l p, .slice (some ⟨j, b, none⟩) l' p'] => match A.heap.get i, A.heap.get j with
   | some (.cells ci _ _ _), some (.cells cj _ _ _) => m_same [.slice (some ⟨0, a, none⟩) l p, .agg ⟨ci⟩, .slice (some ⟨0, b, none⟩) l' p', .agg ⟨cj⟩] [.slice (some ⟨0, 0, none⟩) m m, .agg ⟨g⟩, .slice (some ⟨0, 0, none⟩) n unk, .agg ⟨d⟩]
   | _, _ => false
  | _ => false) (fun _ _ => .bool true)
noncomputable def tJa : Tbl := tcons 15 (e0 (.bool true)) fun _ => none
noncomputable def tJt (m : Nat) (x : XE) (g : List Value) (y : Int) : Tbl := tcons 11 (eJv m x (.tuple ⟨[I y, .bool true, I 0]⟩)) (tcons 12 (eJv m x (.tuple ⟨[.slice none 0 0, .bool false, I 0]⟩)) (tcons 13 (eJg m g (.tuple ⟨[I y, .bool true]⟩)) tJa))
noncomputable def tJd (m : Nat) (x : XE) (g : List Value) (n : Nat) (d : List Value) : Tbl := tcons 11 (eJv m x (.tuple ⟨[I 0, .bool false, I 0]⟩)) (tcons 12 (eJo m x n d) (tcons 13 (eJg m g (.tuple ⟨[I 0, .bool false]⟩)) (tcons 14 (eJq m g n d) tJa)))
theorem jlR (r : Mem) (b off n cap : Nat) (K : Value → AW → CR) : (lvlT (SC r) (fun _ => none) .nil 1 2).call 7 [RS b off n cap, I 125] emptyA K =
    bif decide (0 ≤ bif decide (125 < Int.ofNat n) then Int.ofNat 125 else Int.ofNat n) then bif Nat.beq cap 9223372036854775809 then .fail 435 else bif Nat.ble (Int.toNat (bif decide (125 < Int.ofNat n) then Int.ofNat 125 else Int.ofNat n)) cap then bif Nat.beq (Int.toNat (bif decide (125 < Int.ofNat n) then Int.ofNat 125 else Int.ofNat n)) 0 then K (.slice none 0 0) (AW.mk 0 .nil .nil) else bif Nat.ble (Nat.add 0 (Nat.sub (Int.toNat (bif decide (125 < Int.ofNat n) then Int.ofNat 125 else Int.ofNat n)) 0)) 1000000 then Option.casesOn (match Nat.beq (Nat.sub cap 0) unkE with | true => none | false => takeF (Cfg.ro (SC r) b) (Nat.add off (Nat.mul 0 (TypeInfo.size Tryd.t3))) (Nat.mul (Nat.sub (Int.toNat (bif decide (125 < Int.ofNat n) then 125 else Int.ofNat n)) 0) (TypeInfo.size Tryd.t3))) (.fail 443) fun val => bif Nat.beq (List.length val) (Nat.mul (Nat.sub (Int.toNat (bif decide (125 < Int.ofNat n) then Int.ofNat 125 else Int.ofNat n)) 0) 1) then bif Nat.beq (Nat.sub (Int.toNat (bif decide (125 < Int.ofNat n) then Int.ofNat 125 else Int.ofNat n)) 0) 0 then K (.slice none 0 0) (AW.mk 0 .nil .nil) else K (.slice (some ⟨0, 0, none⟩) (Nat.sub (Int.toNat (bif decide (125 < Int.ofNat n) then Int.ofNat 125 else Int.ofNat n)) 0) unk) (AW.mk 1 (.node .nil (some (.cells val 3 0 1)) .nil) .nil) else .fail 420 else .fail 420 else .fail 420 else .fail 420 := by kernel_rfl
theorem jlN (r : Mem) : (lvlT (SC r) (fun _ => none) .nil 1 2).call 7 [.slice none 0 0, I 125] emptyA fin =
    .ret (.slice none 0 0) (AW.mk 0 .nil .nil) := by kernel_rfl
theorem jG1two (r : Mem) (m : Nat) (g : List Value) (len : Nat) (e : List Value) (y : Int) (K : OV → List Nat → OO → CR) (kx : Nat → KS) (KR : OV → List Nat → OO → CR) : run (SC r) 4194247 154 1 Lv_13 (lvlT (SC r) (tJt m (some (len, e)) g y) .nil 1 1) none (rbK 0 [6] [] K) kx (rbK 0 [6] [] KR) [] (bT [0, 7, 8] (vJz1 m len) .nil) [] (mkA (oJ1n e g)) =
    bif m_sm [I (Int.ofNat m), .slice (some ⟨0, 0, none⟩) len unk, .agg ⟨e⟩] then bif m_sm [I (Int.ofNat m), .slice (some ⟨0, 0, none⟩) len unk, .agg ⟨e⟩] then bif m_sm [.slice (some ⟨0, 0, none⟩) m m, .agg ⟨g⟩] then bif y != y then KR [some (.bool false)] [] [] else KR [some (.bool true)] [] [] else .fail 420 else .fail 420 else .fail 420 := by kernel_rfl
theorem jG0two (r : Mem) (m : Nat) (g : List Value) (y : Int) (K : OV → List Nat → OO → CR) (kx : Nat → KS) (KR : OV → List Nat → OO → CR) : run (SC r) 4194247 154 1 Lv_13 (lvlT (SC r) (tJt m none g y) .nil 1 1) none (rbK 0 [6] [] K) kx (rbK 0 [6] [] KR) [] (bT [0, 7, 8] (vJz0 m) .nil) [] (mkA (oJ0n g)) =
    bif m_sm [I (Int.ofNat m)] then bif m_sm [I (Int.ofNat m)] then bif m_sm [.slice (some ⟨0, 0, none⟩) m m, .agg ⟨g⟩] then bif y != y then KR [some (.bool false)] [] [] else KR [some (.bool true)] [] [] else .fail 420 else .fail 420 else .fail 420 := by kernel_rfl
theorem jG1odd (r : Mem) (m : Nat) (g : List Value) (len : Nat) (e : List Value) (n : Nat) (d : List Value) (K : OV → List Nat → OO → CR) (kx : Nat → KS) (KR : OV → List Nat → OO → CR) : run (SC r) 4194247 154 1 Lv_13 (lvlT (SC r) (tJd m (some (len, e)) g n d) .nil 1 1) none (rbK 0 [6] [] K) kx (rbK 0 [6] [] KR) [] (bT [0, 7, 8] (vJz1 m len) .nil) [] (mkA (oJ1n e g)) =
    bif m_sm [I (Int.ofNat m), .slice (some ⟨0, 0, none⟩) len unk, .agg ⟨e⟩] then bif m_sm [I (Int.ofNat m), .slice (some ⟨0, 0, none⟩) len unk, .agg ⟨e⟩] then bif m_sm [.slice (some ⟨0, 0, none⟩) m m, .agg ⟨g⟩] then bif m_sm [.slice (some ⟨0, 0, none⟩) m m, .agg ⟨g⟩, .slice (some ⟨0, 0, none⟩) n unk, .agg ⟨d⟩] then KR [some (.bool true)] [] [] else .fail 420 else .fail 420 else .fail 420 else .fail 420 := by kernel_rfl
end Go.Proofs
namespace Go.Proofs
open Go Go.Ev Go.Num
def isL (hs : List Int) : List Value := hs.map fun z => I z
theorem isL_len (hs : List Int) : (isL hs).length = hs.length := List.length_map ..
theorem isL_get (hs : List Int) {k : Nat} (h : k < hs.length) : (isL hs)[k]? = some (I (hs.getD k 0)) := by
 unfold isL
 rw [List.getElem?_map, List.getD_eq_getElem?_getD, List.getElem?_eq_getElem h]
 rfl
theorem isL_nn (hs : List Int) : m_nns (isL hs) = true := by
 induction hs with
 | nil => rfl
 | cons w l ih => exact ih
theorem isL_gnd (hs : List Int) : gnds (isL hs) = true := by
 induction hs with
 | nil => rfl
 | cons w l ih => exact ih
theorem isL_set (hs : List Int) (k : Nat) (z : Int) : (isL hs).set k (I z) = isL (hs.set k z) := by unfold isL; rw [List.map_set]
theorem isL_app (hs : List Int) (z : Int) : isL hs ++ [I z] = isL (hs ++ [z]) := by unfold isL; rw [List.map_append]; rfl
theorem isL_take (hs : List Int) {n : Nat} (h : n ≤ hs.length) : takeAt (isL hs) 0 n = some (isL (hs.take n)) := by
 exact Go.Ev.takeAt_all _ _ _ _ (by rw [isL_len, List.length_take]; omega) fun j hj => by
  unfold isL
  rw [List.getElem?_map, List.getElem?_map, Nat.zero_add, List.getElem?_take_of_lt (by omega)]
theorem takeF_isL {f : Nat → Option Value} : ∀ (cs : List Int) (k n : Nat), n = cs.length → (∀ i, i < cs.length → f (k + i) = some (I (cs.getD i 0))) → takeF f k n = some (isL cs)
 | [], k, n, hn, _ => by subst hn; rfl
 | z :: cs, k, n, hn, h => by
  subst hn
  have h0 := h 0 (by simp)
  have ih := takeF_isL (f := f) cs (k + 1) cs.length rfl fun i hi => by
   have := h (i + 1) (by simp; omega)
   rw [show k + 1 + i = k + (i + 1) by omega, this]
   rfl
  rw [List.length_cons, takeF, show f k = some (I z) from h0, ih]
  rfl
theorem oc_some {o : Option (List Value)} {c : List Value} (h : o = some c) (a : CR) (F : List Value → CR) : (Option.casesOn o a F : CR) = F c := by rw [h]
theorem finL_0 {A : AW} {m e x : Nat} {d : List Value} (hm : m ≠ 0) (hd : gnds d = true) (h : A.heap.get 0 = some (.cells d e x 1)) : finM (.slice (some ⟨0, 0, none⟩) m unk) A = .ret (.slice (some ⟨0, 0, none⟩) m unk) (rowA d e 1) := by
 have hb : Nat.beq m 0 = false := natFK2 hm
 unfold finM rowOf rowsOf row1
 simp only [hb, Bool.and_false]
 rw [h]
 show guardK (gnds d) _ = _
 rw [hd]
 rfl
theorem min_125 (n : Nat) : (bif decide ((125 : Int) < Int.ofNat n) then Int.ofNat 125 else Int.ofNat n) = ((min n 125 : Nat) : Int) := by
 by_cases c : (125 : Int) < Int.ofNat n
 ·rw [dT c, cond_true, Nat.min_eq_right (by simp at c; omega)]; rfl
 ·rw [dF c, cond_false, Nat.min_eq_left (by simp at c; omega)]; rfl
theorem list_nil (r : Mem) : GrT Tryd.prog r 7 [.slice none 0 0, I 125] (.slice none 0 0) := GrT.of (SC_ok r) TOk.nil .nil rfl ⟨1, 2, jlN r⟩
theorem list_0 (r : Mem) (b off cap : Nat) (hc : cap ≤ maxLen) : GrT Tryd.prog r 7 [RS b off 0 cap, I 125] (.slice none 0 0) := GrT.of (SC_ok r) TOk.nil .nil rfl ⟨1, 2, by
 have hc : cap ≤ 9223372036854775807 := hc
 rw [jlR]
 simp only [min_125, Nat.zero_min, dT (show (0 : Int) ≤ ((0 : Nat) : Int) by omega), natFK2 (show cap ≠ 9223372036854775809 by omega), Int.toNat_natCast, Nat.ble_eq_true_of_le (Nat.zero_le cap), show Nat.beq 0 0 = true from rfl, cond_true, cond_false]
 rfl⟩
theorem list_row (r : Mem) {b off n cap : Nat} (hn : n ≤ cap) (hc : cap ≤ maxLen) (cs : List Int) (hcs : cs.length = min n 125) (h1 : 1 ≤ cs.length) (hr : ∀ i, i < cs.length → r b (off + i) = some (I (cs.getD i 0))) : GrM Tryd.prog r 7 [RS b off n cap, I 125] (.slice (some ⟨0, 0, none⟩) cs.length unk) (rowA (isL cs) 3 1) := GrM.of (SC_ok r) TOk.nil .nil ⟨1, 2, by
 have hc : cap ≤ 9223372036854775807 := hc
 rw [jlR]
 have e' : (bif decide ((125 : Int) < Int.ofNat n) then (125 : Int) else Int.ofNat n) = ((min n 125 : Nat) : Int) := min_125 n
 simp only [min_125, e', ← hcs, dT (show (0 : Int) ≤ ((cs.length : Nat) : Int) by omega), natFK2 (show cap ≠ 9223372036854775809 by omega), Int.toNat_natCast, Nat.ble_eq_true_of_le (show cs.length ≤ cap by omega), natFK2 (show cs.length ≠ 0 by omega), Nat.ble_eq_true_of_le (show Nat.add 0 (Nat.sub cs.length 0) ≤ 1000000 by simp; omega), cond_true, cond_false]
 refine (oc_some (c := isL cs) ?_ _ _).trans ?_
 ·have hb : Nat.beq (Nat.sub cap 0) unkE = false := natFK2 (by unfold unkE; simp; omega)
  rw [hb]
  exact takeF_isL cs _ _ (by show Nat.mul (Nat.sub cs.length 0) 1 = _; simp) fun i hi => by
   have := hr i hi
   rw [← this]
   show r b _ = r b _
   congr 1
 ·have l1 : Nat.beq (isL cs).length (Nat.mul (Nat.sub cs.length 0) 1) = true := by rw [isL_len]; simp
  simp only [l1, natFK2 (show Nat.sub cs.length 0 ≠ 0 by show cs.length ≠ 0; omega), cond_true, cond_false]
  exact finL_0 (x := 0) (m := cs.length) (by omega) (isL_gnd _) (by kernel_rfl)⟩
theorem eLi1_ok (r : Mem) {a0 : List Value} (hro : roVs a0 = true) {cs : List Int} (h : GrM Tryd.prog r 7 a0 (.slice (some ⟨0, 0, none⟩) cs.length unk) (rowA (isL cs) 3 1)) : EOk (SC r) 7 (eLi1 a0 cs.length (isL cs)) := fun args A hgd F hF k γ W args' hw hR ha => by
 refine ⟨fun hcc => ?_, fun h => nomatch h⟩
 have hs := @of_decide_eq_true _ (Classical.propDecidable _) hgd
 subst hs
 have hof : ofV 0 (.slice (some ⟨0, 0, none⟩) cs.length unk) = true := by simp [ofV, of1]
 exact h.ends (γ := γ) (A := A) hof (isL_gnd _) hF hw (hR.noG noG fun _ => rfl) (ha.of_ros hro) ha
def HOk (y : HE) (hs : List Int) : Prop := (y = none ∧ hs = []) ∨ ∃ (L : Nat) (cs : List Int), y = some (L, isL cs) ∧ L ≤ cs.length ∧ cs.length < 1000000 ∧ hs = cs.take L
theorem gH_use {r : Mem} {y : HE} {hs : List Int} (hy : HOk y hs) {h : Value} {A : AW} (hg : gH y h A = true) {γ : Gam} {W : World} (hw : WRel γ A W) (hR : Ro r γ W) {v' : Value} (hv : VRel γ h v') : ∃ h0, VRel noG h0 v' ∧ HsR (memW W) hs h0 := by
 unfold gH at hg
 split at hg
 ·rename_i i k l cap
  split at hg
  ·rename_i len c
   split at hg
   ·rename_i c' e f z hget
    have hs' := @of_decide_eq_true _ (Classical.propDecidable _) hg
    simp only [List.cons.injEq, Value.slice.injEq, Option.some.injEq, Addr.mk.injEq, Value.agg.injEq, Array.mk.injEq, and_true, true_and] at hs'
    obtain ⟨⟨rfl, rfl, rfl⟩, rfl⟩ := hs'
    rcases hy with ⟨h, _⟩ | ⟨L, cs, h, h1, h2, rfl⟩
    ·cases h
    ·simp only [Option.some.injEq, Prod.mk.injEq] at h
     obtain ⟨rfl, rfl⟩ := h
     obtain ⟨b, k', p1, p2⟩ := own_c hw hR (by decide) hget hv
     have hl : (cs.take l).length = l := by rw [List.length_take]; omega
     refine ⟨RS b k' l 0, p1, .inr ⟨b, k', 0, by rw [hl], by omega, fun k hk => ?_⟩⟩
     rw [hl] at hk
     refine p2 k _ ?_ rfl
     rw [isL_get cs (by omega), List.getD_eq_getElem?_getD, List.getD_eq_getElem?_getD, List.getElem?_take_of_lt hk]
   ·cases hg
  ·cases hg
 ·split at hg
  ·rcases hy with ⟨_, rfl⟩ | ⟨L, cs, h, _⟩
   ·cases hv
    exact ⟨.slice none 0 0, .sliceNil, .inl ⟨rfl, rfl⟩⟩
   ·cases h
  ·cases hg
 ·cases hg
theorem bif_and {a b : Bool} (h : (bif a then b else false) = true) : a = true ∧ b = true := by cases a <;> cases b <;> simp_all
section
variable (r : Mem) (hm : Tab r) {m : Nat} (h1 : 1 ≤ m) (hm16 : m ≤ 16) {E : List (Nat × Nat)} (hE : okAll (m : Int) (zE E) E.length = true) (hL : E.length < 1000000) {x : XE} (hx : XOk m E x)
include hm h1 hm16 hE hL hx
theorem eJp_ok {y : HE} {hs : List Int} (hy : HOk y hs) {v : Bool} {e : Int} (hv : ppV E hs = .tuple ⟨[.bool v, I e]⟩) : EOk (SC r) 8 (eJp m x y v e) := EOk.ent fun args A hg => by
 split at hg
 ·rename_i a b h
  obtain ⟨g1, g2⟩ := bif_and hg
  refine POk.of rfl fun γ W args' hw hR ha => ?_
  obtain ⟨la⟩ := args'
  cases ha with
  | cons ha1 hr =>
  cases hr with
  | cons ha2 hr =>
  cases hr with
  | cons ha3 hr =>
  cases hr
  obtain ⟨sl, p1, hsl⟩ := gX_use hm (by omega) hx (l := []) rfl g1 hw hR (args' := ⟨[_, _]⟩) (.cons ha1 (.cons ha2 .nil))
  obtain ⟨h0, q1, q2⟩ := gH_use hy g2 hw hR ha3
  cases p1 with
  | cons p1 pr =>
  cases pr with
  | cons p2 pr =>
  have hsl' : EsR (memW W) E sl := by
   rcases hsl with h | ⟨b0, off, h, hz⟩
   ·exact .inl h
   ·exact .inr ⟨b0, off, 0, h, hz⟩
  have := ppr_ok (memW W) (memW_tab hm hR) h1 hm16 hE hL hsl' q2
  rw [hv] at this
  exact ⟨memW W, _, memW_ro W, .cons p1 (.cons p2 (.cons q1 .nil)), this⟩
 ·cases hg
theorem eJh_ok {f : Nat} {y : HE} {hs : List Int} (hy : HOk y hs) {v : Bool} (hc : ∀ (r' : Mem) (sl h : Value), EsR r' E sl → HsR r' hs h → GrT Tryd.prog r' f [sl, h] (.bool v)) : EOk (SC r) f (eJh m x y v) := EOk.ent fun args A hg => by
 have _ := h1
 have _ := hm16
 have _ := hE
 split at hg
 ·rename_i b h
  obtain ⟨g1, g2⟩ := bif_and hg
  refine POk.of rfl fun γ W args' hw hR ha => ?_
  obtain ⟨la⟩ := args'
  cases ha with
  | cons ha2 hr =>
  cases hr with
  | cons ha3 hr =>
  cases hr
  obtain ⟨sl, p1, hsl⟩ := gX_use hm (by omega) hx (l := []) rfl g1 hw hR (args' := ⟨[_, _]⟩) (.cons (.int _ _) (.cons ha2 .nil))
  obtain ⟨h0, q1, q2⟩ := gH_use hy g2 hw hR ha3
  cases p1 with
  | cons p1 pr =>
  cases pr with
  | cons p2 pr =>
  have hsl' : EsR (memW W) E sl := by
   rcases hsl with h | ⟨b0, off, h, hz⟩
   ·exact .inl h
   ·exact .inr ⟨b0, off, 0, h, hz⟩
  exact ⟨memW W, _, memW_ro W, .cons p2 (.cons q1 .nil), hc _ _ _ hsl' q2⟩
 ·cases hg
theorem tJr_ok {y : HE} {hs : List Int} (hy : HOk y hs) (hu : huB E.length hs = true) : TOk (SC r) (tJr m x y (ppB E hs) 0 true (ppB E hs)) :=
 TOk.cons (TOk.cons (TOk.cons TOk.nil (eJh_ok r hm h1 hm16 hE hL hx hy fun r' sl h p q => prp_ok r' hm16 hE hL p q hu)) (eJh_ok r hm h1 hm16 hE hL hx hy fun r' sl h p q => by have := phu_ok r' hm16 hL p q; rwa [hu] at this)) (eJp_ok r hm h1 hm16 hE hL hx hy (by unfold ppV; rw [hu]; rfl))
theorem tJx_ok {y : HE} {hs : List Int} (hy : HOk y hs) (hu : huB E.length hs = false) : TOk (SC r) (tJx m x y false 70) :=
 TOk.cons (TOk.cons TOk.nil (eJh_ok r hm h1 hm16 hE hL hx hy fun r' sl h p q => by have := phu_ok r' hm16 hL p q; rwa [hu] at this)) (eJp_ok r hm h1 hm16 hE hL hx hy (by unfold ppV; rw [hu]; rfl))
theorem eJv_ok {f : Nat} {v : Value} (hg : gnd v = true) (hN : E = [] → ∀ r', Tab r' → GrT Tryd.prog r' f [I (m : Nat), .slice none 0 0] v) (hR' : ∀ r' b off, Tab r' → rowAt r' b off (2 * E.length) (zE E) → GrT Tryd.prog r' f [I (m : Nat), RS2 b off E.length 0] v) : EOk (SC r) f (eJv m x v) := EOk.ent fun args A hgd => by
 have _ := h1
 have _ := hm16
 have _ := hE
 obtain ⟨a, b, rfl⟩ := gX_two hgd
 refine POk.of hg fun γ W args' hw hR ha => ?_
 obtain ⟨sl, p1, h⟩ := gX_use hm (by omega) hx (l := []) rfl hgd hw hR ha
 refine ⟨memW W, _, memW_ro W, p1, ?_⟩
 rcases h with ⟨rfl, h⟩ | ⟨b0, off, rfl, hz⟩
 ·exact hN h _ (memW_tab hm hR)
 ·exact hR' _ b0 off (memW_tab hm hR) hz
theorem eJo_ok {i : Nat} (hl : lvE E (fD (wS E) m) = some i) (hi : i < E.length) (hd : fD (wS E) m (E.getD i (0, 0)).1 = fD (wS E) m (E.getD i (0, 0)).2) : ∃ R, OddL (wS E) m R ∧ EOk (SC r) 12 (eJo m x R.length (m_ws R)) := by
 let R := ringL (fB (wS E) m) (E.getD i (0, 0)).1 (E.getD i (0, 0)).2
 refine ⟨R, (prdX r hm h1 hm16 hE hL hl hi hd).1, fun args A hgd F hF kk γ W args' hw hR ha => ?_⟩
 have hgd : gX m x args A = true := hgd
 obtain ⟨a, b, rfl⟩ := gX_two hgd
 refine ⟨fun hc => ?_, fun hc => nomatch hc⟩
 obtain ⟨sl, p1, h⟩ := gX_use hm (by omega) hx (l := []) rfl hgd hw hR ha
 have hof : ofV 0 (.tuple ⟨[.slice (some ⟨0, 0, none⟩) R.length unk, .bool true, I 0]⟩) = true := by simp [ofV, of1, gnd]
 rcases h with ⟨_, h⟩ | ⟨b0, off, rfl, hz⟩
 ·rw [h] at hi
  exact absurd hi (by simp)
 ·exact ((prdX (memW W) (memW_tab hm hR) h1 hm16 hE hL hl hi hd).2 b0 off 0 hz).ends (γ := γ) (A := A) hof (ws_gnd _) hF hw (memW_ro W) p1 ha
end
section
variable (r : Mem) {m : Nat} (hm16 : m ≤ 16) {E : List (Nat × Nat)} (hE : okAll (m : Int) (zE E) E.length = true)
include hm16 hE
theorem eJg_ok : EOk (SC r) 13 (eJg m (gR m E) (rsV (sdI (wS E) m m))) := EOk.ent fun args A hgd => by
 obtain ⟨a, rfl⟩ := gG_one hgd
 refine POk.of (by unfold rsV; split <;> rfl) fun γ W args' hw hR ha => ?_
 obtain ⟨b, k', p1, p2⟩ := gG_use hm16 (nbN_len m (zE E) E.length) (l := []) rfl hgd hw hR ha
 exact ⟨memW W, _, memW_ro W, p1, rsides_ok (memW W) b k' m 0 hm16 (wS E) (fun k hk => by rw [wR_eq hm16 hE k hk]; exact p2 k hk) (wS_nbs hm16 hE) (wS_hi hm16 hE)⟩
theorem eJq_ok {R : List Nat} (hO : OddL (wS E) m R) : EOk (SC r) 14 (eJq m (gR m E) R.length (m_ws R)) := EOk.ent fun args A hgd => by
 split at hgd
 ·split at hgd
  ·rename_i i a l p j b l' p' _ _ ci _ _ _ cj _ _ _ hi hj
   have hs' := @of_decide_eq_true _ (Classical.propDecidable _) hgd
   simp only [List.cons.injEq, Value.slice.injEq, Option.some.injEq, Addr.mk.injEq, Value.agg.injEq, Array.mk.injEq, and_true, true_and] at hs'
   obtain ⟨⟨rfl, rfl, rfl⟩, rfl, ⟨rfl, rfl, rfl⟩, rfl⟩ := hs'
   refine POk.of rfl fun γ W args' hw hR ha => ?_
   obtain ⟨b, k, b', k', q1, q2, q3⟩ := own2 hw hR (natFK2 (by unfold unkE; omega)) (by decide) hi hj ha
   refine ⟨memW W, _, memW_ro W, q1, rodd_ok (memW W) b k _ 0 b' k' 0 hm16 (wS E) (fun t ht => ?_) R (fun t ht => ?_) hO⟩
   ·rw [wR_eq hm16 hE t ht]
    exact q2 t _ (by have := ws_get (ws := nbN _ (zE E) E.length) (k := t) (by rw [nbN_len]; exact ht); rwa [show Nat.add 0 (Nat.mul t 1) = t by simp] at this) rfl
   ·exact q3 t _ (by have := ws_get (ws := R) (k := t) ht; rwa [show Nat.add 0 (Nat.mul t 1) = t by simp] at this) rfl
  ·cases hgd
 ·cases hgd
end
end Go.Proofs
namespace Go.Proofs
open Go Go.Ev
theorem awake7 : GrT Tryd.prog tabM 15 [] (.bool true) := GrT.of (CC_ok tabM) TOk.nil .nil rfl ⟨1000, 40, by kernel_rfl⟩
end Go.Proofs
namespace Go.Proofs
open Go Go.Ev Go.Num
theorem minL (len L : Nat) : (bif decide (Int.ofNat len < Int.ofNat L) then Int.ofNat len else Int.ofNat L) = ((min len L : Nat) : Int) := by
 by_cases c : Int.ofNat len < Int.ofNat L
 ·rw [dT c, cond_true, Nat.min_eq_left (by simp at c; omega)]; rfl
 ·rw [dF c, cond_false, Nat.min_eq_right (by simp at c; omega)]; rfl
theorem minL0 (L : Nat) : (bif decide ((0 : Int) < Int.ofNat L) then Int.ofNat 0 else Int.ofNat L) = ((0 : Nat) : Int) := by
 by_cases c : (0 : Int) < Int.ofNat L
 ·rw [dT c, cond_true]; rfl
 ·rw [dF c, cond_false]
  have : L = 0 := by simp at c; omega
  rw [this]; rfl
theorem i2 {k : Nat} (h : k < 1000000) : IntKind.wrap IntKind.i64 (((k : Nat) : Int) + Int.ofNat 1) = ((k + 1 : Nat) : Int) := inc1 h
theorem bne0 (z : Int) : (z != z) = false := by simp
theorem tJa_ok (r : Mem) (hm : Tab r) : TOk (SC r) tJa := TOk.cons TOk.nil (e0_ok (awake7.less hm))
def JS1 (m : Nat) (E : List (Nat × Nat)) (k : Int) (vs : OV) (os : OO) : Prop := (vs = vJ1n m E.length k ∧ os = oJ1n (pcE E) (gR m E)) ∨ ∃ (L : Nat) (cs : List Int), L ≤ cs.length ∧ cs.length < 1000000 ∧ vs = vJ1r m E.length L k ∧ os = oJ1r (pcE E) (gR m E) (isL cs)
def JS0 (m : Nat) (E : List (Nat × Nat)) (k : Int) (vs : OV) (os : OO) : Prop := (vs = vJ0n m k ∧ os = oJ0n (gR m E)) ∨ ∃ (L : Nat) (cs : List Int), L ≤ cs.length ∧ cs.length < 1000000 ∧ vs = vJ0r m L k ∧ os = oJ0r (gR m E) (isL cs)
def JT1 (m : Nat) (E : List (Nat × Nat)) (k : Int) (i j : Nat) (vs : OV) (os : OO) : Prop := (i = 0 ∧ j = 0 ∧ vs = vJ1n m E.length k ++ [some (I 0)] ∧ os = oJ1n (pcE E) (gR m E)) ∨ ∃ (L : Nat) (cs : List Int), i ≤ L ∧ j = L - i ∧ L ≤ cs.length ∧ cs.length < 1000000 ∧ vs = vJ1r m E.length L k ++ [some (I (i : Nat))] ∧ os = oJ1r (pcE E) (gR m E) (isL cs)
def JT0 (m : Nat) (E : List (Nat × Nat)) (k : Int) (i j : Nat) (vs : OV) (os : OO) : Prop := (i = 0 ∧ j = 0 ∧ vs = vJ0n m k ++ [some (I 0)] ∧ os = oJ0n (gR m E)) ∨ ∃ (L : Nat) (cs : List Int), i ≤ L ∧ j = L - i ∧ L ≤ cs.length ∧ cs.length < 1000000 ∧ vs = vJ0r m L k ++ [some (I (i : Nat))] ∧ os = oJ0r (gR m E) (isL cs)
def JU1 (m : Nat) (E : List (Nat × Nat)) (k : Int) (j : Nat) (vs : OV) (os : OO) : Prop := (j = E.length ∧ vs = vJ1n m E.length k ∧ os = oJ1n (pcE E) (gR m E)) ∨ ∃ (L : Nat) (cs : List Int), j = E.length - L ∧ L ≤ cs.length ∧ cs.length < 1000000 ∧ vs = vJ1r m E.length L k ∧ os = oJ1r (pcE E) (gR m E) (isL cs)
def JU0 (m : Nat) (E : List (Nat × Nat)) (k : Int) (j : Nat) (vs : OV) (os : OO) : Prop := JS0 m E k vs os
section
variable (r : Mem) (hm : Tab r) {m : Nat} (h1 : 1 ≤ m) (hm16 : m ≤ 16) {E : List (Nat × Nat)} (hE : okAll (m : Int) (zE E) E.length = true) (hL : E.length < 1000000)
section
variable (hx : XOk m E (some (E.length, pcE E)))
include hm h1 hm16 hE hL hx
theorem jtst1 (k : Nat) {vs : OV} {os : OO} (h : JS1 m E (k : Nat) vs os) (K : OV → List Nat → OO → CR) (kx : Nat → KS) (KR : OV → List Nat → OO → CR) :
  ∃ (t : Tbl) (vs' : OV) (os' : OO) (j : Nat), TOk (SC r) t ∧ JT1 m E (k : Nat) 0 j vs' os' ∧ run (SC r) 4194247 154 1 (.seq Lv_6 (.seq Lv_7 (.seq Lv_8 Lv_9))) (lvlT (SC r) t .nil 1 1) none (rbK 0 lvJt [] K) kx (rbK 0 [6] [] KR) [] (bT lvJs vs .nil) [] (mkA os) = K vs' [] os' := by
 have sm : ∀ l : List Value, m_same l l = true := same_rfl
 rcases h with ⟨rfl, rfl⟩ | ⟨L, cs, hl1, hl2, rfl, rfl⟩
 ·have hy : HOk none [] := .inl ⟨rfl, rfl⟩
  cases hu : huB E.length [] with
  | true =>
   have hn := jC1n r m (gR m E) E.length (pcE E) (ppB E []) (ppB E []) 0 (k : Nat) K kx KR
   refine ⟨_, _, _, 0, tJr_ok r hm h1 hm16 hE hL hx hy hu, .inl ⟨rfl, rfl, rfl, rfl⟩, ?_⟩
   rw [hn]
   simp only [m_sm, sm, show m_nns (pcE E) = true from pcE_nn E, show m_nns (gR m E) = true from ws_nn _, Bool.and_self, cond_true, cond_false, show ((0 : Int) != Int.ofNat 0) = false from rfl]
   cases ppB E [] <;> rfl
  | false =>
   have hn := jX1n r m (gR m E) E.length (pcE E) false 70 (k : Nat) K kx KR
   refine ⟨_, _, _, 0, tJx_ok r hm h1 hm16 hE hL hx hy hu, .inl ⟨rfl, rfl, rfl, rfl⟩, ?_⟩
   rw [hn]
   simp only [m_sm, sm, show m_nns (pcE E) = true from pcE_nn E, show m_nns (gR m E) = true from ws_nn _, Bool.and_self, cond_true, cond_false, show ((70 : Int) != Int.ofNat 70) = false from rfl]
   rfl
 ·have hy : HOk (some (L, isL cs)) (cs.take L) := .inr ⟨L, cs, rfl, hl1, hl2, rfl⟩
  have le : (min E.length L) ≤ L := by omega
  cases hu : huB E.length (cs.take L) with
  | true =>
   have hn := jC1r r m (gR m E) E.length (pcE E) L (isL cs) (ppB E (cs.take L)) (ppB E (cs.take L)) 0 (k : Nat) K kx KR
   refine ⟨_, _, _, (min E.length L), tJr_ok r hm h1 hm16 hE hL hx hy hu, .inr ⟨(min E.length L), cs, Nat.zero_le _, rfl, by omega, hl2, rfl, rfl⟩, ?_⟩
   rw [hn]
   simp only [m_sm, sm, show m_nns (pcE E) = true from pcE_nn E, show m_nns (gR m E) = true from ws_nn _, isL_nn, minL E.length L, Int.toNat_natCast, dT (show (0 : Int) ≤ (((min E.length L) : Nat) : Int) from Int.natCast_nonneg _), Nat.ble_eq_true_of_le le, Bool.and_self, cond_true, cond_false, show ((0 : Int) != Int.ofNat 0) = false from rfl]
   cases ppB E (cs.take L) <;> rfl
  | false =>
   have hn := jX1r r m (gR m E) E.length (pcE E) L (isL cs) false 70 (k : Nat) K kx KR
   refine ⟨_, _, _, (min E.length L), tJx_ok r hm h1 hm16 hE hL hx hy hu, .inr ⟨(min E.length L), cs, Nat.zero_le _, rfl, by omega, hl2, rfl, rfl⟩, ?_⟩
   rw [hn]
   simp only [m_sm, sm, show m_nns (pcE E) = true from pcE_nn E, show m_nns (gR m E) = true from ws_nn _, isL_nn, minL E.length L, Int.toNat_natCast, dT (show (0 : Int) ≤ (((min E.length L) : Nat) : Int) from Int.natCast_nonneg _), Nat.ble_eq_true_of_le le, Bool.and_self, cond_true, cond_false, show ((70 : Int) != Int.ofNat 70) = false from rfl]
   rfl
theorem jend1 (K : OV → List Nat → OO → CR) (kx : Nat → KS) (KR : OV → List Nat → OO → CR) : ∃ t : Tbl, TOk (SC r) t ∧ run (SC r) 4194247 154 1 Lv_13 (lvlT (SC r) t .nil 1 1) none (rbK 0 [6] [] K) kx (rbK 0 [6] [] KR) [] (bT [0, 7, 8] (vJz1 m E.length) .nil) [] (mkA (oJ1n (pcE E) (gR m E))) = KR [some (.bool true)] [] [] := by
 have sm : ∀ l : List Value, m_same l l = true := same_rfl
 have hg := eJg_ok r hm16 hE
 rcases sides_eq hm16 hE with ⟨c1, c2, c3⟩ | ⟨⟨i, c1, c2, c3⟩, c4⟩
 ·have hy : sdY E m = (sdI (wS E) m m).1 := by unfold sdY; rw [c1]; exact c3
  rw [rsV, if_pos c2, ← hy] at hg
  have hb : (!(lvE E (fD (wS E) m)).isSome) = true := by rw [c1]; rfl
  refine ⟨tJt m (some (E.length, pcE E)) (gR m E) (sdY E m : Nat), TOk.cons (TOk.cons (TOk.cons (tJa_ok r hm) hg) (eJv_ok r hm h1 hm16 hE hL hx rfl (fun h0 r' ht => ?_) fun r' b off ht hz => podR r' ht h1 hm16 hE hL c1 b off 0 hz)) (eJv_ok r hm h1 hm16 hE hL hx rfl (fun h0 r' ht => ?_) fun r' b off ht hz => ?_), ?_⟩
  ·subst h0; exact podN r' ht h1 hm16 c1
  ·subst h0
   have := psdN r' ht h1 hm16
   rwa [hb] at this
  ·have := psdR r' ht h1 hm16 hE hL b off 0 hz
   rwa [hb] at this
  ·rw [jG1two]
   simp only [m_sm, sm, bne0, cond_true, cond_false]
 ·have hy : sdY E m = 0 := by unfold sdY; rw [c1]
  rw [rsV, if_neg c4] at hg
  have hb : (!(lvE E (fD (wS E) m)).isSome) = false := by rw [c1]; rfl
  obtain ⟨R, hO, hR⟩ := eJo_ok r hm h1 hm16 hE hL hx c1 c2 c3
  refine ⟨tJd m (some (E.length, pcE E)) (gR m E) R.length (m_ws R), TOk.cons (TOk.cons (TOk.cons (TOk.cons (tJa_ok r hm) (eJq_ok r hm16 hE hO)) hg) hR) (eJv_ok r hm h1 hm16 hE hL hx rfl (fun h0 r' ht => ?_) fun r' b off ht hz => ?_), ?_⟩
  ·subst h0
   exact absurd c2 (by simp)
  ·have := psdR r' ht h1 hm16 hE hL b off 0 hz
   rw [hb, hy] at this
   exact this
  ·rw [jG1odd]
   simp only [m_sm, sm, cond_true, cond_false]
end
section
variable (hx : XOk m E (some (E.length, pcE E)))
include hm h1 hm16 hE hL hx
theorem jrnd1 {γ : Gam} {W : World} {F : Fence} {kk : Nat} (hF : Wide F) (hro : RoRel γ none F.round) (h0' : ∀ i, 0 ≤ i → γ i = none) {ox : Nat → Outs} {orr : Outs} (horr : orr = ⟨[6], [], fun vs ms os => vs = [some (.bool true)] ∧ ms = [] ∧ os = []⟩) (k : Nat) {vs : OV} {os : OO} (h : JS1 m E (k : Nat) vs os) {P : Prop} (hP : P) :
  Go.Ev.Reach (SC r) 4194247 154 F kk γ W (.block 1 (.seq Lv_6 (.seq Lv_7 (.seq Lv_8 (.seq (.seq Lv_9 (.block 2 (.loop Lv_10))) (.block 4 (.loop Lv_11))))))) (St.of lvJs vs [] os) (CanQ (SC r) 4194247 154 γ W ⟨lvJs, [], fun vs ms os => (P ∧ JS1 m E (k : Nat) vs os) ∧ ms = []⟩ ox orr) := by
 subst horr
 refine Go.Ev.Reach.blockC ?_
 have hpre : ∃ t, TOk (SC r) t ∧ run (SC r) 4194247 154 1 (.seq Lv_6 (.seq Lv_7 (.seq Lv_8 Lv_9))) (lvlT (SC r) t .nil 1 1) none (Outs.ask 0 ⟨lvJt, [], fun vs ms os => ms = [] ∧ ∃ j, JT1 m E (k : Nat) 0 j vs os⟩) (Outs.ats 0 []) (Outs.ask 0 ⟨[6], [], fun vs ms os => vs = [some (.bool true)] ∧ ms = [] ∧ os = []⟩) [] (bT lvJs vs .nil) [] (mkA os) = okR := by
  obtain ⟨t, vs', os', j, ht, hj, hr⟩ := jtst1 r hm h1 hm16 hE hL hx k h (fun vs ms os => qq (ms = [] ∧ ∃ j, JT1 m E (k : Nat) 0 j vs os)) (Outs.ats 0 []) (fun vs ms os => qq (vs = [some (.bool true)] ∧ ms = [] ∧ os = []))
  exact ⟨t, ht, hr.trans (qq_ok ⟨rfl, j, hj⟩)⟩
 obtain ⟨t, ht, hpre⟩ := hpre
 refine Go.Ev.Reach.after3R (SC_ok r) ht (tm := .nil) (L := 1) (L' := 1) (d := 1) hF hro h0' (.step (.step (.step .base)))
  (o1 := ⟨lvJt, [], fun vs ms os => ms = [] ∧ ∃ j, JT1 m E (k : Nat) 0 j vs os⟩) (o2 := ⟨lvJs, [], fun vs ms os => ms = [] ∧ ∃ j, JU1 m E (k : Nat) j vs os⟩) [] (fun p hp => nomatch hp) ?_ ?_ hpre
 ·rintro vs ms os ⟨rfl, j, h⟩
  refine Go.Ev.Reach.blockC (Go.Ev.Reach.loopC (j := j) (lv := lvJt) (fl := []) (I := fun j vs ms os => ms = [] ∧ ∃ i, JT1 m E (k : Nat) i j vs os) (fun j vs ms os hI => ?_) ⟨rfl, 0, h⟩)
  obtain ⟨rfl, i, hI⟩ := hI
  refine Go.Ev.Reach.segR (SC_ok r) TOk.nil (tm := .nil) (L := 1) (L' := 1) (d := 1) hF hro h0' [(2, ⟨lvJs, [], fun vs ms os => ms = [] ∧ ∃ j, JU1 m E (k : Nat) j vs os⟩)] (fun p hp => by simp only [List.mem_cons, List.not_mem_nil, or_false] at hp; subst hp; rfl) ?_
  rcases hI with ⟨rfl, rfl, rfl, rfl⟩ | ⟨L, cs, hi, rfl, hl1, hl2, rfl, rfl⟩
  ·have hn := jD1n r m (gR m E) E.length (pcE E) (k : Nat)
   simp only [show m_nns (pcE E) = true from pcE_nn E, show m_nns (gR m E) = true from ws_nn _, Bool.and_self, cond_true] at hn
   exact (hn _ _ _ _).trans (qq_ok ⟨rfl, _, .inl ⟨rfl, rfl, rfl⟩⟩)
  ·have hn := jD1r r m (gR m E) E.length (pcE E) L (isL cs) (k : Nat) (i : Nat)
   by_cases c : i < L
   ·have e1 : (isL cs)[Nat.add 0 (Nat.mul i 1)]? = some (I (cs.getD i 0)) := by rw [show Nat.add 0 (Nat.mul i 1) = i by simp]; exact isL_get cs (by omega)
    have e2 : Nat.blt (Nat.add 0 (Nat.mul i 1)) (isL cs).length = true := Nat.ble_eq_true_of_le (by rw [isL_len]; simp; omega)
    have e3 : ∀ z : Int, (isL cs).set (Nat.add 0 (Nat.mul i 1)) (I z) = isL (cs.set i z) := fun z => by rw [show Nat.add 0 (Nat.mul i 1) = i by simp]; exact isL_set cs i z
    simp only [dT (show (i : Int) < Int.ofNat L by simp; omega), dT (show 0 ≤ (i : Int) by omega), Int.toNat_natCast, show Nat.blt i L = true from Nat.ble_eq_true_of_le c, e1, e2, e3, show ∀ x, isI IntKind.i64 (I x) = true from fun _ => rfl, show ∀ x, ofI (I x) = x from fun _ => rfl, show m_nns (pcE E) = true from pcE_nn E, show m_nns (gR m E) = true from ws_nn _, isL_nn, i2 (show i < 1000000 by omega), Bool.and_self, cond_true] at hn
    exact (hn _ _ _ _).trans (qq_ok ⟨L - (i + 1), by omega, rfl, i + 1, .inr ⟨L, _, c, rfl, by rw [List.length_set]; exact hl1, by rw [List.length_set]; exact hl2, rfl, rfl⟩⟩)
   ·simp only [dF (show ¬ (i : Int) < Int.ofNat L by simp; omega), show m_nns (pcE E) = true from pcE_nn E, show m_nns (gR m E) = true from ws_nn _, isL_nn, Bool.and_self, cond_true, cond_false] at hn
    exact (hn _ _ _ _).trans (qq_ok ⟨rfl, _, .inr ⟨L, cs, rfl, hl1, hl2, rfl, rfl⟩⟩)
 ·rintro vs ms os ⟨rfl, j, h⟩
  refine Go.Ev.Reach.blockC (Go.Ev.Reach.loopC (j := j) (lv := lvJs) (fl := []) (I := fun j vs ms os => ms = [] ∧ JU1 m E (k : Nat) j vs os) (fun j vs ms os hI => ?_) ⟨rfl, h⟩)
  obtain ⟨rfl, hI⟩ := hI
  refine Go.Ev.Reach.segR (SC_ok r) TOk.nil (tm := .nil) (L := 1) (L' := 1) (d := 1) hF hro h0' [(4, ⟨lvJs, [], fun vs ms os => (P ∧ JS1 m E (k : Nat) vs os) ∧ ms = []⟩)] (fun p hp => by simp only [List.mem_cons, List.not_mem_nil, or_false] at hp; subst hp; rfl) ?_
  rcases hI with ⟨rfl, rfl, rfl⟩ | ⟨L, cs, rfl, hl1, hl2, rfl, rfl⟩
  ·have hn := jE1n r m (gR m E) E.length (pcE E) (k : Nat)
   by_cases c : 0 < E.length
   ·simp only [dT (show (0 : Int) < Int.ofNat E.length by rw [Int.ofNat_eq_natCast]; omega), show m_nns (pcE E) = true from pcE_nn E, show m_nns (gR m E) = true from ws_nn _, show m_nns [I (Int.ofNat 20)] = true from rfl, Bool.and_self, cond_true] at hn
    exact (hn _ _ _ _).trans (qq_ok ⟨E.length - 1, by omega, rfl, .inr ⟨1, [20], rfl, Nat.le_refl _, by decide, rfl, rfl⟩⟩)
   ·simp only [dF (show ¬ (0 : Int) < Int.ofNat E.length by rw [Int.ofNat_eq_natCast]; omega), show m_nns (pcE E) = true from pcE_nn E, show m_nns (gR m E) = true from ws_nn _, Bool.and_self, cond_true, cond_false] at hn
    exact (hn _ _ _ _).trans (qq_ok ⟨⟨hP, .inl ⟨rfl, rfl⟩⟩, rfl⟩)
  ·have hn := jE1r r m (gR m E) E.length (pcE E) L (isL cs) (k : Nat)
   by_cases c : L < E.length
   ·have e1 : takeAt (isL cs) 0 (Nat.mul L 1) = some (isL (cs.take L)) := by rw [Nat.mul_eq, Nat.mul_one]; exact isL_take cs hl1
    have hl : (cs.take L).length = L := by rw [List.length_take]; omega
    simp only [dT (show Int.ofNat L < Int.ofNat E.length by simp; omega), Nat.ble_eq_true_of_le (show Nat.add L 1 ≤ 1000000 by simp; omega), e1, isL_app, show m_nns (pcE E) = true from pcE_nn E, show m_nns (gR m E) = true from ws_nn _, isL_nn, Bool.and_self, cond_true] at hn
    exact (hn _ _ _ _).trans (qq_ok ⟨E.length - (L + 1), by omega, rfl, .inr ⟨L + 1, _, rfl, by rw [List.length_append, hl]; exact Nat.le_refl _, by rw [List.length_append, hl]; simp; omega, rfl, rfl⟩⟩)
   ·simp only [dF (show ¬ Int.ofNat L < Int.ofNat E.length by simp; omega), show m_nns (pcE E) = true from pcE_nn E, show m_nns (gR m E) = true from ws_nn _, isL_nn, Bool.and_self, cond_true, cond_false] at hn
    exact (hn _ _ _ _).trans (qq_ok ⟨⟨hP, .inr ⟨L, cs, hl1, hl2, rfl, rfl⟩⟩, rfl⟩)
theorem jlaw1 {t : Tbl} (ht : TOk (SC r) t) (args : List Value) (hle : Nat.ble args.length 154 = true)
  (hpre : ∃ vs os, JS1 m E ((0 : Nat) : Int) vs os ∧ ∀ K kx kr, run (SC r) 4194247 154 1 (.seq Lv_0 (.seq Lv_1 (.seq Lv_2 (.seq Lv_3 Lv_4)))) (lvlT (SC r) t .nil 1 1) none (rbK 0 lvJs [] K) kx kr (sc0 4194247 args) (tr0 4194247 args) [] emptyA = K vs [] os) :
  SOk (SC r) 3 args emptyA fun v _ => v = .bool true := by
 obtain ⟨vs0, os0, hs0, hpre⟩ := hpre
 refine callO (SC_ok r) (by kernel_rfl) ((bodySC r _).trans Lv_eq) (nt := 154) (by kernel_rfl) (rs := [.tmp 6]) (by kernel_rfl) 4194247 hle
  ⟨[6], [], fun vs ms os => vs = [some (.bool true)] ∧ ms = [] ∧ os = []⟩ ?_ fun γ W F kk hwr hF hro h0' => ?_
 ·rintro vs ms os ⟨rfl, rfl, rfl⟩
  exact ⟨_, mkA [], by kernel_rfl, rfl⟩
 have h0' : ∀ i, 0 ≤ i → γ i = none := h0'
 let Z : Outs := ⟨[0, 7, 8], [], fun vs ms os => vs = vJz1 m E.length ∧ ms = [] ∧ os = oJ1n (pcE E) (gR m E)⟩
 refine Go.Ev.Reach.after3R (SC_ok r) ht (tm := .nil) (L := 1) (L' := 1) (d := 1) hF hro h0' (.step (.step (.step (.step .base))))
  (o1 := ⟨lvJs, [], fun vs ms os => vs = vs0 ∧ ms = [] ∧ os = os0⟩) (o2 := Z) [] (fun p hp => nomatch hp) ?_ ?_ ((hpre _ _ _).trans (qq_ok ⟨rfl, rfl, rfl⟩))
 ·rintro vs ms os ⟨rfl, rfl, rfl⟩
  refine Go.Ev.Reach.blockC (Go.Ev.Reach.loopC (j := 2) (lv := lvJs) (fl := []) (I := fun j vs ms os => ∃ k : Nat, k ≤ 2 ∧ j = 2 - k ∧ JS1 m E (k : Nat) vs os ∧ ms = []) (fun j vs ms os hI => ?_) ⟨0, by omega, rfl, hs0, rfl⟩)
  obtain ⟨k, hk, rfl, hS, rfl⟩ := hI
  refine Go.Ev.Reach.after3R (SC_ok r) TOk.nil (tm := .nil) (L := 1) (L' := 1) (d := 1) hF hro h0' .flat
   (o1 := ⟨lvJs, [], fun vs ms os => k < 2 ∧ JS1 m E (k : Nat) vs os ∧ ms = []⟩) (o2 := ⟨lvJs, [], fun vs ms os => (k < 2 ∧ JS1 m E (k : Nat) vs os) ∧ ms = []⟩) [(0, Z)] (fun p hp => by simp only [List.mem_cons, List.not_mem_nil, or_false] at hp; subst hp; rfl) ?_ ?_ ?_
  ·rintro vs ms os ⟨hk2, hS, rfl⟩
   exact jrnd1 r hm h1 hm16 hE hL hx hF hro h0' rfl k hS hk2
  ·rintro vs ms os ⟨⟨hk2, hS⟩, rfl⟩
   refine Go.Ev.Reach.segR (SC_ok r) TOk.nil (tm := .nil) (L := 1) (L' := 1) (d := 1) hF hro h0' [] (fun p hp => nomatch hp) ?_
   rcases hS with ⟨rfl, rfl⟩ | ⟨L, cs, hl1, hl2, rfl, rfl⟩
   ·have hn := jF1n r m (gR m E) E.length (pcE E) (k : Nat)
    simp only [show m_nns (pcE E) = true from pcE_nn E, show m_nns (gR m E) = true from ws_nn _, i2 (show k < 1000000 by omega), Bool.and_self, cond_true] at hn
    exact (hn _ _ _ _).trans (qq_ok ⟨2 - (k + 1), by omega, k + 1, by omega, rfl, .inl ⟨rfl, rfl⟩, rfl⟩)
   ·have hn := jF1r r m (gR m E) E.length (pcE E) L (isL cs) (k : Nat)
    simp only [show m_nns (pcE E) = true from pcE_nn E, show m_nns (gR m E) = true from ws_nn _, isL_nn, i2 (show k < 1000000 by omega), Bool.and_self, cond_true] at hn
    exact (hn _ _ _ _).trans (qq_ok ⟨2 - (k + 1), by omega, k + 1, by omega, rfl, .inr ⟨L, cs, hl1, hl2, rfl, rfl⟩, rfl⟩)
  ·rcases hS with ⟨rfl, rfl⟩ | ⟨L, cs, hl1, hl2, rfl, rfl⟩
   ·have hn := jB1n r m (gR m E) E.length (pcE E) (k : Nat)
    by_cases c : k < 2
    ·simp only [dT (show (k : Int) < 2 by omega), show m_nns (pcE E) = true from pcE_nn E, show m_nns (gR m E) = true from ws_nn _, Bool.and_self, cond_true] at hn
     exact (hn _ _ _ _).trans (qq_ok ⟨c, .inl ⟨rfl, rfl⟩, rfl⟩)
    ·simp only [dF (show ¬ (k : Int) < 2 by omega), show m_nns (pcE E) = true from pcE_nn E, show m_nns (gR m E) = true from ws_nn _, Bool.and_self, cond_true, cond_false] at hn
     exact (hn _ _ _ _).trans (qq_ok ⟨rfl, rfl, rfl⟩)
   ·have hn := jB1r r m (gR m E) E.length (pcE E) L (isL cs) (k : Nat)
    by_cases c : k < 2
    ·simp only [dT (show (k : Int) < 2 by omega), show m_nns (pcE E) = true from pcE_nn E, show m_nns (gR m E) = true from ws_nn _, isL_nn, Bool.and_self, cond_true] at hn
     exact (hn _ _ _ _).trans (qq_ok ⟨c, .inr ⟨L, cs, hl1, hl2, rfl, rfl⟩, rfl⟩)
    ·simp only [dF (show ¬ (k : Int) < 2 by omega), show m_nns (pcE E) = true from pcE_nn E, show m_nns (gR m E) = true from ws_nn _, isL_nn, Bool.and_self, cond_true, cond_false] at hn
     exact (hn _ _ _ _).trans (qq_ok ⟨rfl, rfl, rfl⟩)
 ·rintro vs ms os ⟨rfl, rfl, rfl⟩
  obtain ⟨t, ht, hr⟩ := jend1 r hm h1 hm16 hE hL hx (fun vs ms os => qq (vs = [some (.bool true)] ∧ ms = [] ∧ os = [])) (Outs.ats 0 []) (fun vs ms os => qq (vs = [some (.bool true)] ∧ ms = [] ∧ os = []))
  exact Go.Ev.Reach.segR (SC_ok r) ht (tm := .nil) (L := 1) (L' := 1) (d := 1) hF hro h0' [] (fun p hp => nomatch hp) (hr.trans (qq_ok ⟨rfl, rfl, rfl⟩))
end
section
variable (hx : XOk m E none)
include hm h1 hm16 hE hL hx
theorem jtst0 (k : Nat) {vs : OV} {os : OO} (h : JS0 m E (k : Nat) vs os) (K : OV → List Nat → OO → CR) (kx : Nat → KS) (KR : OV → List Nat → OO → CR) :
  ∃ (t : Tbl) (vs' : OV) (os' : OO) (j : Nat), TOk (SC r) t ∧ JT0 m E (k : Nat) 0 j vs' os' ∧ run (SC r) 4194247 154 1 (.seq Lv_6 (.seq Lv_7 (.seq Lv_8 Lv_9))) (lvlT (SC r) t .nil 1 1) none (rbK 0 lvJt [] K) kx (rbK 0 [6] [] KR) [] (bT lvJs vs .nil) [] (mkA os) = K vs' [] os' := by
 have sm : ∀ l : List Value, m_same l l = true := same_rfl
 rcases h with ⟨rfl, rfl⟩ | ⟨L, cs, hl1, hl2, rfl, rfl⟩
 ·have hy : HOk none [] := .inl ⟨rfl, rfl⟩
  cases hu : huB E.length [] with
  | true =>
   have hn := jC0n r m (gR m E) (ppB E []) (ppB E []) 0 (k : Nat) K kx KR
   refine ⟨_, _, _, 0, tJr_ok r hm h1 hm16 hE hL hx hy hu, .inl ⟨rfl, rfl, rfl, rfl⟩, ?_⟩
   rw [hn]
   simp only [m_sm, sm, show m_nns (gR m E) = true from ws_nn _, Bool.and_self, cond_true, cond_false, show ((0 : Int) != Int.ofNat 0) = false from rfl]
   cases ppB E [] <;> rfl
  | false =>
   have hn := jX0n r m (gR m E) false 70 (k : Nat) K kx KR
   refine ⟨_, _, _, 0, tJx_ok r hm h1 hm16 hE hL hx hy hu, .inl ⟨rfl, rfl, rfl, rfl⟩, ?_⟩
   rw [hn]
   simp only [m_sm, sm, show m_nns (gR m E) = true from ws_nn _, Bool.and_self, cond_true, cond_false, show ((70 : Int) != Int.ofNat 70) = false from rfl]
   rfl
 ·have hy : HOk (some (L, isL cs)) (cs.take L) := .inr ⟨L, cs, rfl, hl1, hl2, rfl⟩
  have le : 0 ≤ L := by omega
  cases hu : huB E.length (cs.take L) with
  | true =>
   have hn := jC0r r m (gR m E) L (isL cs) (ppB E (cs.take L)) (ppB E (cs.take L)) 0 (k : Nat) K kx KR
   refine ⟨_, _, _, 0, tJr_ok r hm h1 hm16 hE hL hx hy hu, .inr ⟨0, cs, Nat.zero_le _, rfl, by omega, hl2, rfl, rfl⟩, ?_⟩
   rw [hn]
   simp only [m_sm, sm, show m_nns (gR m E) = true from ws_nn _, isL_nn, minL0 L, Int.toNat_natCast, dT (show (0 : Int) ≤ ((0 : Nat) : Int) from Int.natCast_nonneg _), Nat.ble_eq_true_of_le le, Bool.and_self, cond_true, cond_false, show ((0 : Int) != Int.ofNat 0) = false from rfl]
   cases ppB E (cs.take L) <;> rfl
  | false =>
   have hn := jX0r r m (gR m E) L (isL cs) false 70 (k : Nat) K kx KR
   refine ⟨_, _, _, 0, tJx_ok r hm h1 hm16 hE hL hx hy hu, .inr ⟨0, cs, Nat.zero_le _, rfl, by omega, hl2, rfl, rfl⟩, ?_⟩
   rw [hn]
   simp only [m_sm, sm, show m_nns (gR m E) = true from ws_nn _, isL_nn, minL0 L, Int.toNat_natCast, dT (show (0 : Int) ≤ ((0 : Nat) : Int) from Int.natCast_nonneg _), Nat.ble_eq_true_of_le le, Bool.and_self, cond_true, cond_false, show ((70 : Int) != Int.ofNat 70) = false from rfl]
   rfl
theorem jend0 (K : OV → List Nat → OO → CR) (kx : Nat → KS) (KR : OV → List Nat → OO → CR) : ∃ t : Tbl, TOk (SC r) t ∧ run (SC r) 4194247 154 1 Lv_13 (lvlT (SC r) t .nil 1 1) none (rbK 0 [6] [] K) kx (rbK 0 [6] [] KR) [] (bT [0, 7, 8] (vJz0 m) .nil) [] (mkA (oJ0n (gR m E))) = KR [some (.bool true)] [] [] := by
 have sm : ∀ l : List Value, m_same l l = true := same_rfl
 have hg := eJg_ok r hm16 hE
 rcases sides_eq hm16 hE with ⟨c1, c2, c3⟩ | ⟨⟨i, c1, c2, c3⟩, c4⟩
 ·have hy : sdY E m = (sdI (wS E) m m).1 := by unfold sdY; rw [c1]; exact c3
  rw [rsV, if_pos c2, ← hy] at hg
  have hb : (!(lvE E (fD (wS E) m)).isSome) = true := by rw [c1]; rfl
  refine ⟨tJt m none (gR m E) (sdY E m : Nat), TOk.cons (TOk.cons (TOk.cons (tJa_ok r hm) hg) (eJv_ok r hm h1 hm16 hE hL hx rfl (fun h0 r' ht => ?_) fun r' b off ht hz => podR r' ht h1 hm16 hE hL c1 b off 0 hz)) (eJv_ok r hm h1 hm16 hE hL hx rfl (fun h0 r' ht => ?_) fun r' b off ht hz => ?_), ?_⟩
  ·subst h0; exact podN r' ht h1 hm16 c1
  ·subst h0
   have := psdN r' ht h1 hm16
   rwa [hb] at this
  ·have := psdR r' ht h1 hm16 hE hL b off 0 hz
   rwa [hb] at this
  ·rw [jG0two]
   simp only [m_sm, sm, bne0, cond_true, cond_false]
 ·rcases hx with ⟨_, h0⟩ | h0
  ·subst h0
   exact absurd c2 (by simp)
  ·cases h0
end
section
variable (hx : XOk m E none)
include hm h1 hm16 hE hL hx
theorem jrnd0 {γ : Gam} {W : World} {F : Fence} {kk : Nat} (hF : Wide F) (hro : RoRel γ none F.round) (h0' : ∀ i, 0 ≤ i → γ i = none) {ox : Nat → Outs} {orr : Outs} (horr : orr = ⟨[6], [], fun vs ms os => vs = [some (.bool true)] ∧ ms = [] ∧ os = []⟩) (k : Nat) {vs : OV} {os : OO} (h : JS0 m E (k : Nat) vs os) {P : Prop} (hP : P) :
  Go.Ev.Reach (SC r) 4194247 154 F kk γ W (.block 1 (.seq Lv_6 (.seq Lv_7 (.seq Lv_8 (.seq (.seq Lv_9 (.block 2 (.loop Lv_10))) (.block 4 (.loop Lv_11))))))) (St.of lvJs vs [] os) (CanQ (SC r) 4194247 154 γ W ⟨lvJs, [], fun vs ms os => (P ∧ JS0 m E (k : Nat) vs os) ∧ ms = []⟩ ox orr) := by
 subst horr
 refine Go.Ev.Reach.blockC ?_
 have hpre : ∃ t, TOk (SC r) t ∧ run (SC r) 4194247 154 1 (.seq Lv_6 (.seq Lv_7 (.seq Lv_8 Lv_9))) (lvlT (SC r) t .nil 1 1) none (Outs.ask 0 ⟨lvJt, [], fun vs ms os => ms = [] ∧ ∃ j, JT0 m E (k : Nat) 0 j vs os⟩) (Outs.ats 0 []) (Outs.ask 0 ⟨[6], [], fun vs ms os => vs = [some (.bool true)] ∧ ms = [] ∧ os = []⟩) [] (bT lvJs vs .nil) [] (mkA os) = okR := by
  obtain ⟨t, vs', os', j, ht, hj, hr⟩ := jtst0 r hm h1 hm16 hE hL hx k h (fun vs ms os => qq (ms = [] ∧ ∃ j, JT0 m E (k : Nat) 0 j vs os)) (Outs.ats 0 []) (fun vs ms os => qq (vs = [some (.bool true)] ∧ ms = [] ∧ os = []))
  exact ⟨t, ht, hr.trans (qq_ok ⟨rfl, j, hj⟩)⟩
 obtain ⟨t, ht, hpre⟩ := hpre
 refine Go.Ev.Reach.after3R (SC_ok r) ht (tm := .nil) (L := 1) (L' := 1) (d := 1) hF hro h0' (.step (.step (.step .base)))
  (o1 := ⟨lvJt, [], fun vs ms os => ms = [] ∧ ∃ j, JT0 m E (k : Nat) 0 j vs os⟩) (o2 := ⟨lvJs, [], fun vs ms os => ms = [] ∧ ∃ j, JU0 m E (k : Nat) j vs os⟩) [] (fun p hp => nomatch hp) ?_ ?_ hpre
 ·rintro vs ms os ⟨rfl, j, h⟩
  refine Go.Ev.Reach.blockC (Go.Ev.Reach.loopC (j := j) (lv := lvJt) (fl := []) (I := fun j vs ms os => ms = [] ∧ ∃ i, JT0 m E (k : Nat) i j vs os) (fun j vs ms os hI => ?_) ⟨rfl, 0, h⟩)
  obtain ⟨rfl, i, hI⟩ := hI
  refine Go.Ev.Reach.segR (SC_ok r) TOk.nil (tm := .nil) (L := 1) (L' := 1) (d := 1) hF hro h0' [(2, ⟨lvJs, [], fun vs ms os => ms = [] ∧ ∃ j, JU0 m E (k : Nat) j vs os⟩)] (fun p hp => by simp only [List.mem_cons, List.not_mem_nil, or_false] at hp; subst hp; rfl) ?_
  rcases hI with ⟨rfl, rfl, rfl, rfl⟩ | ⟨L, cs, hi, rfl, hl1, hl2, rfl, rfl⟩
  ·have hn := jD0n r m (gR m E) (k : Nat)
   simp only [show m_nns (gR m E) = true from ws_nn _, Bool.and_self, cond_true] at hn
   exact (hn _ _ _ _).trans (qq_ok ⟨rfl, 0, .inl ⟨rfl, rfl⟩⟩)
  ·have hn := jD0r r m (gR m E) L (isL cs) (k : Nat) (i : Nat)
   by_cases c : i < L
   ·have e1 : (isL cs)[Nat.add 0 (Nat.mul i 1)]? = some (I (cs.getD i 0)) := by rw [show Nat.add 0 (Nat.mul i 1) = i by simp]; exact isL_get cs (by omega)
    have e2 : Nat.blt (Nat.add 0 (Nat.mul i 1)) (isL cs).length = true := Nat.ble_eq_true_of_le (by rw [isL_len]; simp; omega)
    have e3 : ∀ z : Int, (isL cs).set (Nat.add 0 (Nat.mul i 1)) (I z) = isL (cs.set i z) := fun z => by rw [show Nat.add 0 (Nat.mul i 1) = i by simp]; exact isL_set cs i z
    simp only [dT (show (i : Int) < Int.ofNat L by simp; omega), dT (show 0 ≤ (i : Int) by omega), Int.toNat_natCast, show Nat.blt i L = true from Nat.ble_eq_true_of_le c, e1, e2, e3, show ∀ x, isI IntKind.i64 (I x) = true from fun _ => rfl, show ∀ x, ofI (I x) = x from fun _ => rfl, show m_nns (gR m E) = true from ws_nn _, isL_nn, i2 (show i < 1000000 by omega), Bool.and_self, cond_true] at hn
    exact (hn _ _ _ _).trans (qq_ok ⟨L - (i + 1), by omega, rfl, i + 1, .inr ⟨L, _, c, rfl, by rw [List.length_set]; exact hl1, by rw [List.length_set]; exact hl2, rfl, rfl⟩⟩)
   ·simp only [dF (show ¬ (i : Int) < Int.ofNat L by simp; omega), show m_nns (gR m E) = true from ws_nn _, isL_nn, Bool.and_self, cond_true, cond_false] at hn
    exact (hn _ _ _ _).trans (qq_ok ⟨rfl, 0, .inr ⟨L, cs, hl1, hl2, rfl, rfl⟩⟩)
 ·rintro vs ms os ⟨rfl, j, h⟩
  refine Go.Ev.Reach.blockC (Go.Ev.Reach.loopC (j := j) (lv := lvJs) (fl := []) (I := fun j vs ms os => ms = [] ∧ JU0 m E (k : Nat) j vs os) (fun j vs ms os hI => ?_) ⟨rfl, h⟩)
  obtain ⟨rfl, hI⟩ := hI
  refine Go.Ev.Reach.segR (SC_ok r) TOk.nil (tm := .nil) (L := 1) (L' := 1) (d := 1) hF hro h0' [(4, ⟨lvJs, [], fun vs ms os => (P ∧ JS0 m E (k : Nat) vs os) ∧ ms = []⟩)] (fun p hp => by simp only [List.mem_cons, List.not_mem_nil, or_false] at hp; subst hp; rfl) ?_
  rcases hI with ⟨rfl, rfl⟩ | ⟨L, cs, hl1, hl2, rfl, rfl⟩
  ·have hn := jE0n r m (gR m E) (k : Nat)
   simp only [show m_nns (gR m E) = true from ws_nn _, Bool.and_self, cond_true] at hn
   exact (hn _ _ _ _).trans (qq_ok ⟨⟨hP, .inl ⟨rfl, rfl⟩⟩, rfl⟩)
  ·have hn := jE0r r m (gR m E) L (isL cs) (k : Nat)
   simp only [show m_nns (gR m E) = true from ws_nn _, isL_nn, Bool.and_self, cond_true] at hn
   exact (hn _ _ _ _).trans (qq_ok ⟨⟨hP, .inr ⟨L, cs, hl1, hl2, rfl, rfl⟩⟩, rfl⟩)
theorem jlaw0 {t : Tbl} (ht : TOk (SC r) t) (args : List Value) (hle : Nat.ble args.length 154 = true)
  (hpre : ∃ vs os, JS0 m E ((0 : Nat) : Int) vs os ∧ ∀ K kx kr, run (SC r) 4194247 154 1 (.seq Lv_0 (.seq Lv_1 (.seq Lv_2 (.seq Lv_3 Lv_4)))) (lvlT (SC r) t .nil 1 1) none (rbK 0 lvJs [] K) kx kr (sc0 4194247 args) (tr0 4194247 args) [] emptyA = K vs [] os) :
  SOk (SC r) 3 args emptyA fun v _ => v = .bool true := by
 obtain ⟨vs0, os0, hs0, hpre⟩ := hpre
 refine callO (SC_ok r) (by kernel_rfl) ((bodySC r _).trans Lv_eq) (nt := 154) (by kernel_rfl) (rs := [.tmp 6]) (by kernel_rfl) 4194247 hle
  ⟨[6], [], fun vs ms os => vs = [some (.bool true)] ∧ ms = [] ∧ os = []⟩ ?_ fun γ W F kk hwr hF hro h0' => ?_
 ·rintro vs ms os ⟨rfl, rfl, rfl⟩
  exact ⟨_, mkA [], by kernel_rfl, rfl⟩
 have h0' : ∀ i, 0 ≤ i → γ i = none := h0'
 let Z : Outs := ⟨[0, 7, 8], [], fun vs ms os => vs = vJz0 m ∧ ms = [] ∧ os = oJ0n (gR m E)⟩
 refine Go.Ev.Reach.after3R (SC_ok r) ht (tm := .nil) (L := 1) (L' := 1) (d := 1) hF hro h0' (.step (.step (.step (.step .base))))
  (o1 := ⟨lvJs, [], fun vs ms os => vs = vs0 ∧ ms = [] ∧ os = os0⟩) (o2 := Z) [] (fun p hp => nomatch hp) ?_ ?_ ((hpre _ _ _).trans (qq_ok ⟨rfl, rfl, rfl⟩))
 ·rintro vs ms os ⟨rfl, rfl, rfl⟩
  refine Go.Ev.Reach.blockC (Go.Ev.Reach.loopC (j := 2) (lv := lvJs) (fl := []) (I := fun j vs ms os => ∃ k : Nat, k ≤ 2 ∧ j = 2 - k ∧ JS0 m E (k : Nat) vs os ∧ ms = []) (fun j vs ms os hI => ?_) ⟨0, by omega, rfl, hs0, rfl⟩)
  obtain ⟨k, hk, rfl, hS, rfl⟩ := hI
  refine Go.Ev.Reach.after3R (SC_ok r) TOk.nil (tm := .nil) (L := 1) (L' := 1) (d := 1) hF hro h0' .flat
   (o1 := ⟨lvJs, [], fun vs ms os => k < 2 ∧ JS0 m E (k : Nat) vs os ∧ ms = []⟩) (o2 := ⟨lvJs, [], fun vs ms os => (k < 2 ∧ JS0 m E (k : Nat) vs os) ∧ ms = []⟩) [(0, Z)] (fun p hp => by simp only [List.mem_cons, List.not_mem_nil, or_false] at hp; subst hp; rfl) ?_ ?_ ?_
  ·rintro vs ms os ⟨hk2, hS, rfl⟩
   exact jrnd0 r hm h1 hm16 hE hL hx hF hro h0' rfl k hS hk2
  ·rintro vs ms os ⟨⟨hk2, hS⟩, rfl⟩
   refine Go.Ev.Reach.segR (SC_ok r) TOk.nil (tm := .nil) (L := 1) (L' := 1) (d := 1) hF hro h0' [] (fun p hp => nomatch hp) ?_
   rcases hS with ⟨rfl, rfl⟩ | ⟨L, cs, hl1, hl2, rfl, rfl⟩
   ·have hn := jF0n r m (gR m E) (k : Nat)
    simp only [show m_nns (gR m E) = true from ws_nn _, i2 (show k < 1000000 by omega), Bool.and_self, cond_true] at hn
    exact (hn _ _ _ _).trans (qq_ok ⟨2 - (k + 1), by omega, k + 1, by omega, rfl, .inl ⟨rfl, rfl⟩, rfl⟩)
   ·have hn := jF0r r m (gR m E) L (isL cs) (k : Nat)
    simp only [show m_nns (gR m E) = true from ws_nn _, isL_nn, i2 (show k < 1000000 by omega), Bool.and_self, cond_true] at hn
    exact (hn _ _ _ _).trans (qq_ok ⟨2 - (k + 1), by omega, k + 1, by omega, rfl, .inr ⟨L, cs, hl1, hl2, rfl, rfl⟩, rfl⟩)
  ·rcases hS with ⟨rfl, rfl⟩ | ⟨L, cs, hl1, hl2, rfl, rfl⟩
   ·have hn := jB0n r m (gR m E) (k : Nat)
    by_cases c : k < 2
    ·simp only [dT (show (k : Int) < 2 by omega), show m_nns (gR m E) = true from ws_nn _, Bool.and_self, cond_true] at hn
     exact (hn _ _ _ _).trans (qq_ok ⟨c, .inl ⟨rfl, rfl⟩, rfl⟩)
    ·simp only [dF (show ¬ (k : Int) < 2 by omega), show m_nns (gR m E) = true from ws_nn _, Bool.and_self, cond_true, cond_false] at hn
     exact (hn _ _ _ _).trans (qq_ok ⟨rfl, rfl, rfl⟩)
   ·have hn := jB0r r m (gR m E) L (isL cs) (k : Nat)
    by_cases c : k < 2
    ·simp only [dT (show (k : Int) < 2 by omega), show m_nns (gR m E) = true from ws_nn _, isL_nn, Bool.and_self, cond_true] at hn
     exact (hn _ _ _ _).trans (qq_ok ⟨c, .inr ⟨L, cs, hl1, hl2, rfl, rfl⟩, rfl⟩)
    ·simp only [dF (show ¬ (k : Int) < 2 by omega), show m_nns (gR m E) = true from ws_nn _, isL_nn, Bool.and_self, cond_true, cond_false] at hn
     exact (hn _ _ _ _).trans (qq_ok ⟨rfl, rfl, rfl⟩)
 ·rintro vs ms os ⟨rfl, rfl, rfl⟩
  obtain ⟨t, ht, hr⟩ := jend0 r hm h1 hm16 hE hL hx (fun vs ms os => qq (vs = [some (.bool true)] ∧ ms = [] ∧ os = [])) (Outs.ats 0 []) (fun vs ms os => qq (vs = [some (.bool true)] ∧ ms = [] ∧ os = []))
  exact Go.Ev.Reach.segR (SC_ok r) ht (tm := .nil) (L := 1) (L' := 1) (d := 1) hF hro h0' [] (fun p hp => nomatch hp) (hr.trans (qq_ok ⟨rfl, rfl, rfl⟩))
end
end
end Go.Proofs
namespace Go.Proofs
open Go Go.Ev Go.Num
theorem gE_ltS (n : Int) (len : Nat) (z : Nat → Int) : (gE n 16 len z).length < 1000000 := by
 have hg := (gM_ok n (most := 16) (by decide) (by decide)).2.2
 unfold gE
 have := alE_len (fun k => (tmN (gM n 16) z (min 60 len)).getD k 0) (gM n 16) (gM n 16)
 have : gM n 16 * gM n 16 ≤ 16 * 16 := Nat.mul_le_mul hg hg
 omega
theorem hsidRN (r : Mem) (hm : Tab r) (n : Int) (b off len cap : Nat) (z : Nat → Int) (hz : rowAt r b off (2 * len) z) : GrT Tryd.prog r 3 [I n, RS2 b off len cap, .slice none 0 0] (.bool true) := by
 have ht := tame_row r n 16 (by decide) (by decide) b off len cap z hz
 have sm : ∀ l : List Value, m_same l l = true := same_rfl
 have hg := gM_ok n (most := 16) (by decide) (by decide)
 have hE := gE_ok n 16 len z
 have hL := gE_ltS n len z
 generalize gE n 16 len z = E at ht hE hL
 generalize gM n 16 = m at ht hE hg
 have h1 := hg.1
 have hm16 : m ≤ 16 := by omega
 cases E with
 | nil =>
  have htm : TOk (SC r) (tJ0 [I n, RS2 b off len cap, I 16] m (gR m []) (tJz0 [.slice none 0 0, I 125])) := TOk.cons (TOk.cons (TOk.cons TOk.nil (entV_ok (list_nil r) rfl)) (eOf0_ok r h1 hm16)) (entV_ok (tm0_ok r ht) rfl)
  refine GrT.ofS (C := SC r) rfl rfl rfl (jlaw0 r hm h1 hm16 hE hL (.inl ⟨rfl, rfl⟩) htm [I n, RS2 b off len cap, .slice none 0 0] rfl ⟨_, _, .inl ⟨rfl, rfl⟩, fun K kx kr => ?_⟩)
  refine (jA0nRN r n b off len cap m (gR m []) K kx kr).trans ?_
  show (bif m_sm _ then bif m_sm _ then bif m_same [.slice none 0 0, I 125] [.slice none 0 0, I 125] then _ else _ else _ else _) = _
  simp only [m_sm, sm, show m_nns (gR m []) = true from ws_nn _, isL_nn, Bool.and_self, cond_true]
  rfl
 | cons p l =>
  have htm : TOk (SC r) (tJ1 [I n, RS2 b off len cap, I 16] m (l.length + 1) (pcE (p :: l)) (gR m (p :: l)) (tJz0 [.slice none 0 0, I 125])) := TOk.cons (TOk.cons (TOk.cons TOk.nil (entV_ok (list_nil r) rfl)) (eOf1_ok r h1 hm16 hE (by omega))) (eTm1_ok r rfl ht)
  refine GrT.ofS (C := SC r) rfl rfl rfl (jlaw1 r hm h1 hm16 hE hL (.inr rfl) htm [I n, RS2 b off len cap, .slice none 0 0] rfl ⟨_, _, .inl ⟨rfl, rfl⟩, fun K kx kr => ?_⟩)
  refine (jA1nRN r n b off len cap m (gR m (p :: l)) (l.length + 1) (pcE (p :: l)) K kx kr).trans ?_
  show (bif m_sm _ then bif m_sm _ then bif m_same [.slice none 0 0, I 125] [.slice none 0 0, I 125] then _ else _ else _ else _) = _
  simp only [m_sm, sm, show m_nns (pcE (p :: l)) = true from pcE_nn _, show m_nns (gR m (p :: l)) = true from ws_nn _, isL_nn, Bool.and_self, cond_true]
  rfl
theorem hsidRZ (r : Mem) (hm : Tab r) (n : Int) (b off len cap : Nat) (z : Nat → Int) (hz : rowAt r b off (2 * len) z) (b3 off3 n3 cap3 : Nat) (hl : GrT Tryd.prog r 7 [RS b3 off3 n3 cap3, I 125] (.slice none 0 0)) : GrT Tryd.prog r 3 [I n, RS2 b off len cap, RS b3 off3 n3 cap3] (.bool true) := by
 have ht := tame_row r n 16 (by decide) (by decide) b off len cap z hz
 have sm : ∀ l : List Value, m_same l l = true := same_rfl
 have hg := gM_ok n (most := 16) (by decide) (by decide)
 have hE := gE_ok n 16 len z
 have hL := gE_ltS n len z
 generalize gE n 16 len z = E at ht hE hL
 generalize gM n 16 = m at ht hE hg
 have h1 := hg.1
 have hm16 : m ≤ 16 := by omega
 cases E with
 | nil =>
  have htm : TOk (SC r) (tJ0 [I n, RS2 b off len cap, I 16] m (gR m []) (tJz0 [RS b3 off3 n3 cap3, I 125])) := TOk.cons (TOk.cons (TOk.cons TOk.nil (entV_ok hl rfl)) (eOf0_ok r h1 hm16)) (entV_ok (tm0_ok r ht) rfl)
  refine GrT.ofS (C := SC r) rfl rfl rfl (jlaw0 r hm h1 hm16 hE hL (.inl ⟨rfl, rfl⟩) htm [I n, RS2 b off len cap, RS b3 off3 n3 cap3] rfl ⟨_, _, .inl ⟨rfl, rfl⟩, fun K kx kr => ?_⟩)
  refine (jA0nRR r n b off len cap b3 off3 n3 cap3 m (gR m []) K kx kr).trans ?_
  simp only [m_sm, sm, show m_nns (gR m []) = true from ws_nn _, isL_nn, Bool.and_self, cond_true]
  rfl
 | cons p l =>
  have htm : TOk (SC r) (tJ1 [I n, RS2 b off len cap, I 16] m (l.length + 1) (pcE (p :: l)) (gR m (p :: l)) (tJz0 [RS b3 off3 n3 cap3, I 125])) := TOk.cons (TOk.cons (TOk.cons TOk.nil (entV_ok hl rfl)) (eOf1_ok r h1 hm16 hE (by omega))) (eTm1_ok r rfl ht)
  refine GrT.ofS (C := SC r) rfl rfl rfl (jlaw1 r hm h1 hm16 hE hL (.inr rfl) htm [I n, RS2 b off len cap, RS b3 off3 n3 cap3] rfl ⟨_, _, .inl ⟨rfl, rfl⟩, fun K kx kr => ?_⟩)
  refine (jA1nRR r n b off len cap b3 off3 n3 cap3 m (gR m (p :: l)) (l.length + 1) (pcE (p :: l)) K kx kr).trans ?_
  simp only [m_sm, sm, show m_nns (pcE (p :: l)) = true from pcE_nn _, show m_nns (gR m (p :: l)) = true from ws_nn _, isL_nn, Bool.and_self, cond_true]
  rfl
theorem hsidRR (r : Mem) (hm : Tab r) (n : Int) (b off len cap : Nat) (z : Nat → Int) (hz : rowAt r b off (2 * len) z) (b3 off3 n3 cap3 : Nat) (cs : List Int) (hc : cs.length < 1000000) (hl : GrM Tryd.prog r 7 [RS b3 off3 n3 cap3, I 125] (.slice (some ⟨0, 0, none⟩) cs.length unk) (rowA (isL cs) 3 1)) : GrT Tryd.prog r 3 [I n, RS2 b off len cap, RS b3 off3 n3 cap3] (.bool true) := by
 have ht := tame_row r n 16 (by decide) (by decide) b off len cap z hz
 have sm : ∀ l : List Value, m_same l l = true := same_rfl
 have hg := gM_ok n (most := 16) (by decide) (by decide)
 have hE := gE_ok n 16 len z
 have hL := gE_ltS n len z
 generalize gE n 16 len z = E at ht hE hL
 generalize gM n 16 = m at ht hE hg
 have h1 := hg.1
 have hm16 : m ≤ 16 := by omega
 cases E with
 | nil =>
  have htm : TOk (SC r) (tJ0 [I n, RS2 b off len cap, I 16] m (gR m []) (tJz1 [RS b3 off3 n3 cap3, I 125] cs.length (isL cs))) := TOk.cons (TOk.cons (TOk.cons TOk.nil (eLi1_ok r rfl hl)) (eOf0_ok r h1 hm16)) (entV_ok (tm0_ok r ht) rfl)
  refine GrT.ofS (C := SC r) rfl rfl rfl (jlaw0 r hm h1 hm16 hE hL (.inl ⟨rfl, rfl⟩) htm [I n, RS2 b off len cap, RS b3 off3 n3 cap3] rfl ⟨_, _, .inr ⟨cs.length, cs, Nat.le_refl _, hc, rfl, rfl⟩, fun K kx kr => ?_⟩)
  refine (jA0rRR r n b off len cap b3 off3 n3 cap3 m (gR m []) cs.length (isL cs) K kx kr).trans ?_
  simp only [m_sm, sm, show m_nns (gR m []) = true from ws_nn _, isL_nn, Bool.and_self, cond_true]
  rfl
 | cons p l =>
  have htm : TOk (SC r) (tJ1 [I n, RS2 b off len cap, I 16] m (l.length + 1) (pcE (p :: l)) (gR m (p :: l)) (tJz1 [RS b3 off3 n3 cap3, I 125] cs.length (isL cs))) := TOk.cons (TOk.cons (TOk.cons TOk.nil (eLi1_ok r rfl hl)) (eOf1_ok r h1 hm16 hE (by omega))) (eTm1_ok r rfl ht)
  refine GrT.ofS (C := SC r) rfl rfl rfl (jlaw1 r hm h1 hm16 hE hL (.inr rfl) htm [I n, RS2 b off len cap, RS b3 off3 n3 cap3] rfl ⟨_, _, .inr ⟨cs.length, cs, Nat.le_refl _, hc, rfl, rfl⟩, fun K kx kr => ?_⟩)
  refine (jA1rRR r n b off len cap b3 off3 n3 cap3 m (gR m (p :: l)) (l.length + 1) (pcE (p :: l)) cs.length (isL cs) K kx kr).trans ?_
  simp only [m_sm, sm, show m_nns (pcE (p :: l)) = true from pcE_nn _, show m_nns (gR m (p :: l)) = true from ws_nn _, isL_nn, Bool.and_self, cond_true]
  rfl
theorem hsidNN (r : Mem) (hm : Tab r) (n : Int) : GrT Tryd.prog r 3 [I n, .slice none 0 0, .slice none 0 0] (.bool true) := by
 have ht := tame_nil r n 16 (by decide) (by decide) fun _ => 0
 have sm : ∀ l : List Value, m_same l l = true := same_rfl
 have hg := gM_ok n (most := 16) (by decide) (by decide)
 have hE := gE_ok n 16 0 (fun _ => 0)
 have hL := gE_ltS n 0 (fun _ => 0)
 generalize gE n 16 0 (fun _ => 0) = E at ht hE hL
 generalize gM n 16 = m at ht hE hg
 have h1 := hg.1
 have hm16 : m ≤ 16 := by omega
 cases E with
 | nil =>
  have htm : TOk (SC r) (tJ0 [I n, .slice none 0 0, I 16] m (gR m []) (tJz0 [.slice none 0 0, I 125])) := TOk.cons (TOk.cons (TOk.cons TOk.nil (entV_ok (list_nil r) rfl)) (eOf0_ok r h1 hm16)) (entV_ok (tm0_ok r ht) rfl)
  refine GrT.ofS (C := SC r) rfl rfl rfl (jlaw0 r hm h1 hm16 hE hL (.inl ⟨rfl, rfl⟩) htm [I n, .slice none 0 0, .slice none 0 0] rfl ⟨_, _, .inl ⟨rfl, rfl⟩, fun K kx kr => ?_⟩)
  refine (jA0nNN r n m (gR m []) K kx kr).trans ?_
  show (bif m_sm _ then bif m_sm _ then bif m_same [.slice none 0 0, I 125] [.slice none 0 0, I 125] then _ else _ else _ else _) = _
  simp only [m_sm, sm, show m_nns (gR m []) = true from ws_nn _, isL_nn, Bool.and_self, cond_true]
  rfl
 | cons p l =>
  have htm : TOk (SC r) (tJ1 [I n, .slice none 0 0, I 16] m (l.length + 1) (pcE (p :: l)) (gR m (p :: l)) (tJz0 [.slice none 0 0, I 125])) := TOk.cons (TOk.cons (TOk.cons TOk.nil (entV_ok (list_nil r) rfl)) (eOf1_ok r h1 hm16 hE (by omega))) (eTm1_ok r rfl ht)
  refine GrT.ofS (C := SC r) rfl rfl rfl (jlaw1 r hm h1 hm16 hE hL (.inr rfl) htm [I n, .slice none 0 0, .slice none 0 0] rfl ⟨_, _, .inl ⟨rfl, rfl⟩, fun K kx kr => ?_⟩)
  refine (jA1nNN r n m (gR m (p :: l)) (l.length + 1) (pcE (p :: l)) K kx kr).trans ?_
  show (bif m_sm _ then bif m_sm _ then bif m_same [.slice none 0 0, I 125] [.slice none 0 0, I 125] then _ else _ else _ else _) = _
  simp only [m_sm, sm, show m_nns (pcE (p :: l)) = true from pcE_nn _, show m_nns (gR m (p :: l)) = true from ws_nn _, isL_nn, Bool.and_self, cond_true]
  rfl
theorem hsidNZ (r : Mem) (hm : Tab r) (n : Int) (b3 off3 n3 cap3 : Nat) (hl : GrT Tryd.prog r 7 [RS b3 off3 n3 cap3, I 125] (.slice none 0 0)) : GrT Tryd.prog r 3 [I n, .slice none 0 0, RS b3 off3 n3 cap3] (.bool true) := by
 have ht := tame_nil r n 16 (by decide) (by decide) fun _ => 0
 have sm : ∀ l : List Value, m_same l l = true := same_rfl
 have hg := gM_ok n (most := 16) (by decide) (by decide)
 have hE := gE_ok n 16 0 (fun _ => 0)
 have hL := gE_ltS n 0 (fun _ => 0)
 generalize gE n 16 0 (fun _ => 0) = E at ht hE hL
 generalize gM n 16 = m at ht hE hg
 have h1 := hg.1
 have hm16 : m ≤ 16 := by omega
 cases E with
 | nil =>
  have htm : TOk (SC r) (tJ0 [I n, .slice none 0 0, I 16] m (gR m []) (tJz0 [RS b3 off3 n3 cap3, I 125])) := TOk.cons (TOk.cons (TOk.cons TOk.nil (entV_ok hl rfl)) (eOf0_ok r h1 hm16)) (entV_ok (tm0_ok r ht) rfl)
  refine GrT.ofS (C := SC r) rfl rfl rfl (jlaw0 r hm h1 hm16 hE hL (.inl ⟨rfl, rfl⟩) htm [I n, .slice none 0 0, RS b3 off3 n3 cap3] rfl ⟨_, _, .inl ⟨rfl, rfl⟩, fun K kx kr => ?_⟩)
  refine (jA0nNR r n b3 off3 n3 cap3 m (gR m []) K kx kr).trans ?_
  simp only [m_sm, sm, show m_nns (gR m []) = true from ws_nn _, isL_nn, Bool.and_self, cond_true]
  rfl
 | cons p l =>
  have htm : TOk (SC r) (tJ1 [I n, .slice none 0 0, I 16] m (l.length + 1) (pcE (p :: l)) (gR m (p :: l)) (tJz0 [RS b3 off3 n3 cap3, I 125])) := TOk.cons (TOk.cons (TOk.cons TOk.nil (entV_ok hl rfl)) (eOf1_ok r h1 hm16 hE (by omega))) (eTm1_ok r rfl ht)
  refine GrT.ofS (C := SC r) rfl rfl rfl (jlaw1 r hm h1 hm16 hE hL (.inr rfl) htm [I n, .slice none 0 0, RS b3 off3 n3 cap3] rfl ⟨_, _, .inl ⟨rfl, rfl⟩, fun K kx kr => ?_⟩)
  refine (jA1nNR r n b3 off3 n3 cap3 m (gR m (p :: l)) (l.length + 1) (pcE (p :: l)) K kx kr).trans ?_
  simp only [m_sm, sm, show m_nns (pcE (p :: l)) = true from pcE_nn _, show m_nns (gR m (p :: l)) = true from ws_nn _, isL_nn, Bool.and_self, cond_true]
  rfl
theorem hsidNR (r : Mem) (hm : Tab r) (n : Int) (b3 off3 n3 cap3 : Nat) (cs : List Int) (hc : cs.length < 1000000) (hl : GrM Tryd.prog r 7 [RS b3 off3 n3 cap3, I 125] (.slice (some ⟨0, 0, none⟩) cs.length unk) (rowA (isL cs) 3 1)) : GrT Tryd.prog r 3 [I n, .slice none 0 0, RS b3 off3 n3 cap3] (.bool true) := by
 have ht := tame_nil r n 16 (by decide) (by decide) fun _ => 0
 have sm : ∀ l : List Value, m_same l l = true := same_rfl
 have hg := gM_ok n (most := 16) (by decide) (by decide)
 have hE := gE_ok n 16 0 (fun _ => 0)
 have hL := gE_ltS n 0 (fun _ => 0)
 generalize gE n 16 0 (fun _ => 0) = E at ht hE hL
 generalize gM n 16 = m at ht hE hg
 have h1 := hg.1
 have hm16 : m ≤ 16 := by omega
 cases E with
 | nil =>
  have htm : TOk (SC r) (tJ0 [I n, .slice none 0 0, I 16] m (gR m []) (tJz1 [RS b3 off3 n3 cap3, I 125] cs.length (isL cs))) := TOk.cons (TOk.cons (TOk.cons TOk.nil (eLi1_ok r rfl hl)) (eOf0_ok r h1 hm16)) (entV_ok (tm0_ok r ht) rfl)
  refine GrT.ofS (C := SC r) rfl rfl rfl (jlaw0 r hm h1 hm16 hE hL (.inl ⟨rfl, rfl⟩) htm [I n, .slice none 0 0, RS b3 off3 n3 cap3] rfl ⟨_, _, .inr ⟨cs.length, cs, Nat.le_refl _, hc, rfl, rfl⟩, fun K kx kr => ?_⟩)
  refine (jA0rNR r n b3 off3 n3 cap3 m (gR m []) cs.length (isL cs) K kx kr).trans ?_
  simp only [m_sm, sm, show m_nns (gR m []) = true from ws_nn _, isL_nn, Bool.and_self, cond_true]
  rfl
 | cons p l =>
  have htm : TOk (SC r) (tJ1 [I n, .slice none 0 0, I 16] m (l.length + 1) (pcE (p :: l)) (gR m (p :: l)) (tJz1 [RS b3 off3 n3 cap3, I 125] cs.length (isL cs))) := TOk.cons (TOk.cons (TOk.cons TOk.nil (eLi1_ok r rfl hl)) (eOf1_ok r h1 hm16 hE (by omega))) (eTm1_ok r rfl ht)
  refine GrT.ofS (C := SC r) rfl rfl rfl (jlaw1 r hm h1 hm16 hE hL (.inr rfl) htm [I n, .slice none 0 0, RS b3 off3 n3 cap3] rfl ⟨_, _, .inr ⟨cs.length, cs, Nat.le_refl _, hc, rfl, rfl⟩, fun K kx kr => ?_⟩)
  refine (jA1rNR r n b3 off3 n3 cap3 m (gR m (p :: l)) (l.length + 1) (pcE (p :: l)) cs.length (isL cs) K kx kr).trans ?_
  simp only [m_sm, sm, show m_nns (pcE (p :: l)) = true from pcE_nn _, show m_nns (gR m (p :: l)) = true from ws_nn _, isL_nn, Bool.and_self, cond_true]
  rfl
theorem law_sides (r : Mem) (hm : ∀ b j u, tabM b j = some u → r b j = some u) (u0 u1 u2 : Value) (s0 : ArgInt .i64 u0) (s1 : ArgRowT r 2 (ArgInt .i64) u1) (s2 : ArgRowT r 1 (ArgInt .i64) u2) : GrT Tryd.prog r 3 [u0, u1, u2] (.bool true) := by
 obtain ⟨n, rfl, _⟩ := s0
 have hu : u2 = .slice none 0 0 ∨ ∃ b3 off3 n3 cap3, u2 = RS b3 off3 n3 cap3 ∧ (GrT Tryd.prog r 7 [RS b3 off3 n3 cap3, I 125] (.slice none 0 0) ∨ ∃ cs : List Int, cs.length < 1000000 ∧ GrM Tryd.prog r 7 [RS b3 off3 n3 cap3, I 125] (.slice (some ⟨0, 0, none⟩) cs.length unk) (rowA (isL cs) 3 1)) := by
  cases s2 with
  | nil => exact .inl rfl
  | row b off len cap hl hc h =>
   refine .inr ⟨b, off, len, cap, rfl, ?_⟩
   rcases len with _ | k
   ·exact .inl (list_0 r b off cap hc)
   ·have hlen : ((List.range (min (k + 1) 125)).map fun i => ofI ((r b (off + i)).getD undef)).length = min (k + 1) 125 := by simp
    refine .inr ⟨_, by rw [hlen]; omega, list_row r hl hc ((List.range (min (k + 1) 125)).map fun i => ofI ((r b (off + i)).getD undef)) hlen (by rw [hlen]; omega) fun i hi => ?_⟩
    rw [hlen] at hi
    obtain ⟨u, hu, z, rfl, _⟩ := h i (by omega)
    rw [List.getD_eq_getElem?_getD, List.getElem?_map, List.getElem?_range hi]
    show r b (off + i) = some (I (ofI ((r b (off + i)).getD undef)))
    rw [hu]
    rfl
 cases s1 with
 | nil =>
  rcases hu with rfl | ⟨b3, off3, n3, cap3, rfl, h | ⟨cs, hc, h⟩⟩
  ·exact hsidNN r hm n
  ·exact hsidNZ r hm n b3 off3 n3 cap3 h
  ·exact hsidNR r hm n b3 off3 n3 cap3 cs hc h
 | row b off len cap hl hc h =>
  have hz : rowAt r b off (2 * len) (fun j => ofI ((r b (off + j)).getD undef)) := fun j hj => by
   obtain ⟨u, hu, z, rfl, _⟩ := h j (by omega)
   show r b (off + j) = some (I (ofI ((r b (off + j)).getD undef)))
   rw [hu]
   rfl
  rcases hu with rfl | ⟨b3, off3, n3, cap3, rfl, h | ⟨cs, hc, h⟩⟩
  ·exact hsidRN r hm n b off len cap _ hz
  ·exact hsidRZ r hm n b off len cap _ hz b3 off3 n3 cap3 h
  ·exact hsidRR r hm n b off len cap _ hz b3 off3 n3 cap3 cs hc h
end Go.Proofs
