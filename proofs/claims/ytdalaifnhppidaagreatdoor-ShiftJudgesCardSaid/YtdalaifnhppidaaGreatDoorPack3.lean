/- What the claim is proved with, part 3: the evaluator and the contracts of the calls. -/
import Derived.Test.YtdalaifnhppidaaGreatDoorPack2
import Derived.Test.YtdalaifnhppidaaGreatDoorPack1
import Derived.Test.YtdalaifnhppidaaGreatDoorEvOwn
import Derived.Test.YtdalaifnhppidaaGreatDoorEvSetB
import Derived.Shelf.SlSortCmp.Whole1
set_option linter.unusedVariables false
set_option linter.unusedSimpArgs false
set_option maxRecDepth 100000
namespace Go.Proofs
open Go Go.Ev Go.Num
noncomputable def cJl : Code := bodyOf S0 5
noncomputable def Jl_0 : Code := (lc cJl)
noncomputable def Jl_1 : Code := (lc (rc cJl))
noncomputable def Jl_2 : Code := (lc (rc (rc cJl)))
noncomputable def Jl_3 : Code := (lc (lc (rc (rc (rc cJl)))))
noncomputable def cJa : Code := (ic (ic (rc (lc (rc (rc (rc cJl)))))))
noncomputable def Jl_4 : Code := (lc cJa)
noncomputable def cJb : Code := (ic (lc (rc cJa)))
noncomputable def Jl_5 : Code := (lc cJb)
noncomputable def Jl_6 : Code := (lc (rc cJb))
noncomputable def Jl_7 : Code := (lc (rc (rc cJb)))
noncomputable def cJd : Code := (rc (rc (rc cJb)))
noncomputable def Jl_8 : Code := (lc (lc cJd))
noncomputable def Jl_9 : Code := (ic (ic (rc (lc cJd))))
noncomputable def Jl_10 : Code := (lc (lc (rc cJd)))
noncomputable def Jl_11 : Code := (ic (ic (rc (lc (rc cJd)))))
noncomputable def Jl_12 : Code := (lc (rc (rc cJd)))
noncomputable def Jl_13 : Code := (lc (rc (rc (rc cJd))))
noncomputable def cJc : Code := (rc (rc (rc (rc cJd))))
noncomputable def Jl_14 : Code := (lc (lc cJc))
noncomputable def cJe : Code := (lc (rc (lc cJc)))
noncomputable def Jl_15 : Code := (lc cJe)
noncomputable def Jl_16 : Code := (lc (lc (rc cJe)))
noncomputable def cJf : Code := (ic (ic (rc (lc (rc cJe)))))
noncomputable def Jl_17 : Code := (lc cJf)
noncomputable def cJg : Code := (ic (lc (rc cJf)))
noncomputable def Jl_18 : Code := (lc cJg)
noncomputable def Jl_19 : Code := (lc (lc (rc cJg)))
noncomputable def Jl_20 : Code := (ic (ic (rc (lc (rc cJg)))))
noncomputable def Jl_21 : Code := (rc (rc cJg))
noncomputable def Jl_22 : Code := (rc (rc cJf))
noncomputable def Jl_23 : Code := (rc (rc cJe))
noncomputable def Jl_24 : Code := (rc (rc (lc cJc)))
noncomputable def Jl_25 : Code := (rc cJc)
noncomputable def Jl_26 : Code := (rc (rc cJa))
noncomputable def Jl_27 : Code := (rc (rc (rc (rc cJl))))
theorem Jl_eq : cJl = (.seq Jl_0 (.seq Jl_1 (.seq Jl_2 (.seq (.seq Jl_3 (.block 0 (.loop (.seq Jl_4 (.seq (.block 1 (.seq Jl_5 (.seq Jl_6 (.seq Jl_7 (.seq (.seq Jl_8 (.block 2 (.loop Jl_9))) (.seq (.seq Jl_10 (.block 4 (.loop Jl_11))) (.seq Jl_12 (.seq Jl_13 (.seq (.seq Jl_14 (.cond (.tmp 108) (.seq Jl_15 (.seq (.seq Jl_16 (.block 6 (.loop (.seq Jl_17 (.seq (.block 7 (.seq Jl_18 (.seq (.seq Jl_19 (.block 8 (.loop Jl_20))) Jl_21))) Jl_22))))) Jl_23)) Jl_24)) Jl_25))))))))) Jl_26))))) Jl_27)))) := by kernel_rfl
def mJl : Nat := 2 ^ 0 + 2 ^ 1 + 2 ^ 2 + 2 ^ 4 + 2 ^ 6 + 2 ^ 7 + 2 ^ 8 + 2 ^ 9 + 2 ^ 10 + 2 ^ 11 + 2 ^ 12 + 2 ^ 13 + 2 ^ 14 + 2 ^ 15 + 2 ^ 16 + 2 ^ 108
def oJx (c : List Value) (i : Nat) : Option AObj := some (.cells c 30 i 0)
def oJi (c : List Value) (i : Nat) : Option AObj := some (.cells c 3 i 1)
noncomputable def J9_a : Code := lc Jl_9
noncomputable def J9_b : Code := ic (lc (rc Jl_9))
noncomputable def J9_c : Code := rc (rc Jl_9)
theorem J9_eq : Jl_9 = .seq J9_a (.seq (.block 3 J9_b) J9_c) := by kernel_rfl
noncomputable def m_rg (P : Value) (k : Nat) (c : List Value) (p : Value) (l z : Nat) (ci : List Value) : Bool := @decide (p = P ∧ l = k ∧ z ≠ unkE ∧ ci = c) (Classical.propDecidable _)
noncomputable def m_rv (T : List (List Bool)) (k : Nat) (c : List Value) (w : Int) : Bool := repB T k (fun j => ofI (c.getD j undef)) w
noncomputable def eRw (P : Value) (T : List (List Bool)) (k : Nat) (c : List Value) : Ent := ent (fun args A => match args with
 | [p, .slice (some ⟨j, 0, none⟩) l z, .int .i64 _] => match A.heap.get j with
  | some (.cells ci _ _ _) => m_rg P k c p l z ci
  | _ => false
 | _ => false) fun args _ => match args with
 | [_, _, .int .i64 w] => .bool (m_rv T k c w)
 | _ => undef
noncomputable def tTT (P : Value) (x : Nat → Int) (u v : Bool) : Tbl := tcons 14 (eV [P, x4 x] u) (tcons 13 (eV [P, x4 x] u) (tcons 26 (eV [P, x4 x] v) (tcons 21 (eV [P, x4 x] v) fun _ => none)))
noncomputable def tJ7o (P : Value) (T : List (List Bool)) (x : Nat → Int) (u v : Bool) (k : Nat) (c : List Value) : Tbl := tcons 27 (eRw P T k c) (tcons 22 (eRw P T k c) (tTT P x u v))
noncomputable def tJ7n (P : Value) (T : List (List Bool)) (x : Nat → Int) (u v : Bool) (w : Int) : Tbl := tcons 27 (eV [P, nilT, I w] false) (tcons 22 (eV [P, nilT, I w] false) (tTT P x u v))
noncomputable def tJ23 (P : Value) (T : List (List Bool)) (k : Nat) (c : List Value) : Tbl := tcons 27 (eRw P T k c) (tcons 22 (eRw P T k c) fun _ => none)
noncomputable def tAwJ : Tbl := tcons 15 (e0 (.bool true)) fun _ => none
abbrev pX (b o : Nat) : Value := .pointer (some ⟨b, o, some 0⟩)
abbrev gwJ (i k : Nat) : Value := .slice (some ⟨i, 0, none⟩) k unk
theorem jlAnn (r : Mem) (x : Nat → Int) (fs : FnsC) (K : OV → List Nat → OO → CR) (kx : Nat → KS) (kr : KS) : run (SC r) mJl 162 1 Jl_0 fs none (rbK 0 [0, 2, 4] [] K) kx kr (sc0 mJl [nilT, x4 x, nilT]) (tr0 mJl [nilT, x4 x, nilT]) [] emptyA =
    K [some (.slice none 0 0), some (.slice none 0 0), some (.pointer (some ⟨0, 0, none⟩))] [] [some (.cells [I (x 0), I (x 1), I (x 2), I (x 3)] 30 0 0)] := by kernel_rfl
theorem jlBnn (r : Mem) (bx ox : Nat) (fs : FnsC) (K : KS) : preK (SC r) mJl 162 Jl_1 1 fs K [] (bT [0, 2, 4] [some (nilT), some (nilT), some (pX bx ox)] .nil) [] (mkA []) =
    K [(17, .slice none 0 0)] (.node .nil (some (.slice none 0 0)) (.node (.node .nil (some (pX bx ox)) .nil) (some (.slice none 0 0)) .nil)) [] (AW.mk 0 .nil .nil) := by kernel_rfl
theorem jlAnr (r : Mem) (b2 o2 n2 c2 : Nat) (x : Nat → Int) (fs : FnsC) (K : OV → List Nat → OO → CR) (kx : Nat → KS) (kr : KS) : run (SC r) mJl 162 1 Jl_0 fs none (rbK 0 [0, 2, 4] [] K) kx kr (sc0 mJl [nilT, x4 x, RS b2 o2 n2 c2]) (tr0 mJl [nilT, x4 x, RS b2 o2 n2 c2]) [] emptyA =
    K [some (.slice none 0 0), some (.slice (some ⟨b2, o2, some 0⟩) n2 c2), some (.pointer (some ⟨0, 0, none⟩))] [] [some (.cells [I (x 0), I (x 1), I (x 2), I (x 3)] 30 0 0)] := by kernel_rfl
theorem jlBnr (r : Mem) (b2 o2 n2 c2 : Nat) (bx ox : Nat) (fs : FnsC) (K : KS) : preK (SC r) mJl 162 Jl_1 1 fs K [] (bT [0, 2, 4] [some (nilT), some (RS b2 o2 n2 c2), some (pX bx ox)] .nil) [] (mkA []) =
    K [(17, .slice none 0 0)] (.node .nil (some (.slice none 0 0)) (.node (.node .nil (some (pX bx ox)) .nil) (some (.slice (some ⟨b2, o2, some 0⟩) n2 c2)) .nil)) [] (AW.mk 0 .nil .nil) := by kernel_rfl
theorem jlArn (r : Mem) (b off n cap : Nat) (x : Nat → Int) (fs : FnsC) (K : OV → List Nat → OO → CR) (kx : Nat → KS) (kr : KS) : run (SC r) mJl 162 1 Jl_0 fs none (rbK 0 [0, 2, 4] [] K) kx kr (sc0 mJl [RS b off n cap, x4 x, nilT]) (tr0 mJl [RS b off n cap, x4 x, nilT]) [] emptyA =
    K [some (.slice (some ⟨b, off, some 0⟩) n cap), some (.slice none 0 0), some (.pointer (some ⟨0, 0, none⟩))] [] [some (.cells [I (x 0), I (x 1), I (x 2), I (x 3)] 30 0 0)] := by kernel_rfl
theorem jlBrn (r : Mem) (b off n cap : Nat) (bx ox : Nat) (fs : FnsC) (K : KS) : preK (SC r) mJl 162 Jl_1 1 fs K [] (bT [0, 2, 4] [some (RS b off n cap), some (nilT), some (pX bx ox)] .nil) [] (mkA []) =
    K [(17, .slice (some ⟨b, off, some 0⟩) n cap)] (.node .nil (some (.slice (some ⟨b, off, some 0⟩) n cap)) (.node (.node .nil (some (pX bx ox)) .nil) (some (.slice none 0 0)) .nil)) [] (AW.mk 0 .nil .nil) := by kernel_rfl
theorem jlArr (r : Mem) (b off n cap : Nat) (b2 o2 n2 c2 : Nat) (x : Nat → Int) (fs : FnsC) (K : OV → List Nat → OO → CR) (kx : Nat → KS) (kr : KS) : run (SC r) mJl 162 1 Jl_0 fs none (rbK 0 [0, 2, 4] [] K) kx kr (sc0 mJl [RS b off n cap, x4 x, RS b2 o2 n2 c2]) (tr0 mJl [RS b off n cap, x4 x, RS b2 o2 n2 c2]) [] emptyA =
    K [some (.slice (some ⟨b, off, some 0⟩) n cap), some (.slice (some ⟨b2, o2, some 0⟩) n2 c2), some (.pointer (some ⟨0, 0, none⟩))] [] [some (.cells [I (x 0), I (x 1), I (x 2), I (x 3)] 30 0 0)] := by kernel_rfl
theorem jlBrr (r : Mem) (b off n cap : Nat) (b2 o2 n2 c2 : Nat) (bx ox : Nat) (fs : FnsC) (K : KS) : preK (SC r) mJl 162 Jl_1 1 fs K [] (bT [0, 2, 4] [some (RS b off n cap), some (RS b2 o2 n2 c2), some (pX bx ox)] .nil) [] (mkA []) =
    K [(17, .slice (some ⟨b, off, some 0⟩) n cap)] (.node .nil (some (.slice (some ⟨b, off, some 0⟩) n cap)) (.node (.node .nil (some (pX bx ox)) .nil) (some (.slice (some ⟨b2, o2, some 0⟩) n2 c2)) .nil)) [] (AW.mk 0 .nil .nil) := by kernel_rfl
theorem jlDn (r : Mem) (bx ox bp op m : Nat) (K : OV → List Nat → OO → CR) (kx : Nat → KS) (kr : KS) : run (SC r) mJl 162 1 Jl_2 (lvlT (SC r) (fun _ => none) .nil 2 3) none (rbK 0 [4, 7, 8] [] K) kx kr [] (bT [2, 4, 7] [some (nilT), some (pX bx ox), some (RS bp op m 0)] .nil) [] (mkA []) =
    K [some (pX bx ox), some (RS bp op m 0), some (.slice none 0 0)] [] [] := by kernel_rfl
theorem jlDr (r : Mem) (b2 o2 n2 c2 : Nat) (bx ox bp op m : Nat) (K : OV → List Nat → OO → CR) (kx : Nat → KS) (kr : KS) : run (SC r) mJl 162 1 Jl_2 (lvlT (SC r) (fun _ => none) .nil 2 3) none (rbK 0 [4, 7, 8] [] K) kx kr [] (bT [2, 4, 7] [some (RS b2 o2 n2 c2), some (pX bx ox), some (RS bp op m 0)] .nil) [] (mkA []) =
    bif decide (0 ≤ bif decide (20 < Int.ofNat n2) then Int.ofNat 20 else Int.ofNat n2) then bif Nat.beq c2 9223372036854775809 then .fail 435 else bif Nat.ble (Int.toNat (bif decide (20 < Int.ofNat n2) then Int.ofNat 20 else Int.ofNat n2)) c2 then bif Nat.beq (Int.toNat (bif decide (20 < Int.ofNat n2) then Int.ofNat 20 else Int.ofNat n2)) 0 then K [some (pX bx ox), some (RS bp op m 0), some (.slice none 0 0)] [] [] else bif Nat.ble (Nat.add 0 (Nat.sub (Int.toNat (bif decide (20 < Int.ofNat n2) then Int.ofNat 20 else Int.ofNat n2)) 0)) 1000000 then Option.casesOn (match Nat.beq (Nat.sub c2 0) unkE with | true => none | false => takeF (Mem.get (Cfg.ro (SC r)) b2) (Nat.add o2 (Nat.mul 0 (TypeInfo.size Tryz.t3))) (Nat.mul (Nat.sub (Int.toNat (bif decide (20 < Int.ofNat n2) then 20 else Int.ofNat n2)) 0) (TypeInfo.size Tryz.t3))) (.fail 443) fun val => bif Nat.beq (List.length val) (Nat.mul (Nat.sub (Int.toNat (bif decide (20 < Int.ofNat n2) then Int.ofNat 20 else Int.ofNat n2)) 0) 1) then bif Nat.beq (Nat.sub (Int.toNat (bif decide (20 < Int.ofNat n2) then Int.ofNat 20 else Int.ofNat n2)) 0) 0 then K [some (pX bx ox), some (RS bp op m 0), some (.slice none 0 0)] [] [] else bif m_nns val && true then K [some (pX bx ox), some (RS bp op m 0), some (.slice (some ⟨0, 0, none⟩) (Nat.sub (Int.toNat (bif decide (20 < Int.ofNat n2) then Int.ofNat 20 else Int.ofNat n2)) 0) unk)] [] [some (.cells val 3 0 1)] else .fail 420 else .fail 420 else .fail 420 else .fail 420 else .fail 420 := by kernel_rfl
theorem jlEn (r : Mem) (bx ox bp op m : Nat) (fs : FnsC) (K : OV → List Nat → OO → CR) (kx : Nat → KS) (kr : KS) : run (SC r) mJl 162 1 Jl_3 fs none (rbK 0 [4, 7, 8, 9] [] K) kx kr [] (bT [4, 7, 8] [some (pX bx ox), some (RS bp op m 0), some (nilT)] .nil) [] (mkA []) =
    K [some (pX bx ox), some (RS bp op m 0), some (.slice none 0 0), some (I (Int.ofNat 0))] [] [] := by kernel_rfl
theorem jlFn (r : Mem) (bx ox bp op m : Nat) (q : Nat) (fs : FnsC) (K : OV → List Nat → OO → CR) (KX : Nat → OV → List Nat → OO → CR) (kr : KS) : run (SC r) mJl 162 1 Jl_4 fs none (rbK 0 [4, 7, 8, 9] [] K) (fun j => rbK 0 [] [] (KX j)) kr [] (bT [4, 7, 8, 9] [some (pX bx ox), some (RS bp op m 0), some (nilT), some (I (q : Nat))] .nil) [] (mkA []) =
    bif decide (Int.ofNat q < 2) then K [some (pX bx ox), some (RS bp op m 0), some (.slice none 0 0), some (I (Int.ofNat q))] [] [] else KX 0 [] [] [] := by kernel_rfl
theorem jlGn (r : Mem) (bx ox bp op m : Nat) (q : Nat) (fs : FnsC) (K : OV → List Nat → OO → CR) (kx : Nat → KS) (kr : KS) : run (SC r) mJl 162 1 Jl_5 fs none (rbK 0 [4, 7, 8, 9, 10] [] K) kx kr [] (bT [4, 7, 8, 9] [some (pX bx ox), some (RS bp op m 0), some (nilT), some (I (q : Nat))] .nil) [] (mkA []) =
    K [some (pX bx ox), some (RS bp op m 0), some (.slice none 0 0), some (I (Int.ofNat q)), some (I (Int.ofNat 0))] [] [] := by kernel_rfl
theorem jlHn (r : Mem) (bx ox bp op m : Nat) (q : Nat) (fs : FnsC) (K : OV → List Nat → OO → CR) (kx : Nat → KS) (kr : KS) : run (SC r) mJl 162 1 Jl_6 fs none (rbK 0 [4, 7, 8, 9, 10] [] K) kx kr [] (bT [4, 7, 8, 9, 10] [some (pX bx ox), some (RS bp op m 0), some (nilT), some (I (q : Nat)), some (I 0)] .nil) [] (mkA []) =
    K [some (pX bx ox), some (RS bp op m 0), some (.slice none 0 0), some (I (Int.ofNat q)), some (I (Int.ofNat 0))] [] [] := by kernel_rfl
theorem jlEo (r : Mem) (bx ox bp op m : Nat) (k : Nat) (c : List Value) (fs : FnsC) (K : OV → List Nat → OO → CR) (kx : Nat → KS) (kr : KS) : run (SC r) mJl 162 1 Jl_3 fs none (rbK 0 [4, 7, 8, 9] [.g] K) kx kr [] (bT [4, 7, 8] [some (pX bx ox), some (RS bp op m 0), some (.slice (some ⟨0, 0, none⟩) k unk)] .nil) [] (mkA [oJi c 0]) =
    bif m_nns c && true then K [some (pX bx ox), some (RS bp op m 0), some (gwJ 0 k), some (I (Int.ofNat 0))] [] [some (.cells c 3 0 1)] else .fail 420 := by kernel_rfl
theorem jlFo (r : Mem) (bx ox bp op m : Nat) (k : Nat) (c : List Value) (q : Nat) (fs : FnsC) (K : OV → List Nat → OO → CR) (KX : Nat → OV → List Nat → OO → CR) (kr : KS) : run (SC r) mJl 162 1 Jl_4 fs none (rbK 0 [4, 7, 8, 9] [.g] K) (fun j => rbK 0 [] [] (KX j)) kr [] (bT [4, 7, 8, 9] [some (pX bx ox), some (RS bp op m 0), some (.slice (some ⟨0, 0, none⟩) k unk), some (I (q : Nat))] .nil) [] (mkA [oJi c 0]) =
    bif decide (Int.ofNat q < 2) then bif m_nns c && true then K [some (pX bx ox), some (RS bp op m 0), some (gwJ 0 k), some (I (Int.ofNat q))] [] [some (.cells c 3 0 1)] else .fail 420 else KX 0 [] [] [] := by kernel_rfl
theorem jlGo (r : Mem) (bx ox bp op m : Nat) (k : Nat) (c : List Value) (q : Nat) (fs : FnsC) (K : OV → List Nat → OO → CR) (kx : Nat → KS) (kr : KS) : run (SC r) mJl 162 1 Jl_5 fs none (rbK 0 [4, 7, 8, 9, 10] [.g] K) kx kr [] (bT [4, 7, 8, 9] [some (pX bx ox), some (RS bp op m 0), some (.slice (some ⟨0, 0, none⟩) k unk), some (I (q : Nat))] .nil) [] (mkA [oJi c 0]) =
    bif m_nns c && true then K [some (pX bx ox), some (RS bp op m 0), some (gwJ 0 k), some (I (Int.ofNat q)), some (I (Int.ofNat 0))] [] [some (.cells c 3 0 1)] else .fail 420 := by kernel_rfl
theorem jlHo (r : Mem) (bx ox bp op m : Nat) (k : Nat) (c : List Value) (q : Nat) (fs : FnsC) (K : OV → List Nat → OO → CR) (kx : Nat → KS) (kr : KS) : run (SC r) mJl 162 1 Jl_6 fs none (rbK 0 [4, 7, 8, 9, 10] [.g] K) kx kr [] (bT [4, 7, 8, 9, 10] [some (pX bx ox), some (RS bp op m 0), some (.slice (some ⟨0, 0, none⟩) k unk), some (I (q : Nat)), some (I 0)] .nil) [] (mkA [oJi c 0]) =
    bif decide (Int.ofNat k > 0) then bif decide (0 ≤ IntKind.wrap .i64 (Int.ofNat k - Int.ofNat 1)) then bif Nat.blt (Int.toNat (IntKind.wrap .i64 (Int.ofNat k - Int.ofNat 1))) k then Option.casesOn c[Nat.add 0 (Nat.mul (Int.toNat (IntKind.wrap .i64 (Int.ofNat k - Int.ofNat 1))) 1)]? (.fail 423) fun val => bif isI IntKind.i64 val then bif decide (0 ≤ IntKind.wrap .i64 (Int.ofNat k - Int.ofNat 1)) then bif Nat.ble (Int.toNat (IntKind.wrap .i64 (Int.ofNat k - Int.ofNat 1))) k then bif m_nns c && true then K [some (pX bx ox), some (RS bp op m 0), some (.slice (some ⟨0, 0, none⟩) (Int.toNat (IntKind.wrap .i64 (Int.ofNat k - Int.ofNat 1))) unk), some (I (Int.ofNat q)), some (I (ofI val))] [] [some (.cells c 3 0 1)] else .fail 420 else .fail 420 else .fail 420 else .fail 420 else .fail 420 else .fail 420 else bif m_nns c && true then K [some (pX bx ox), some (RS bp op m 0), some (gwJ 0 k), some (I (Int.ofNat q)), some (I (Int.ofNat 0))] [] [some (.cells c 3 0 1)] else .fail 420 := by kernel_rfl
theorem jlIn (r : Mem) (bx ox bp op m : Nat) (q : Nat) (w : Int) (T : List (List Bool)) (x : Nat → Int) (u v : Bool) (K : OV → List Nat → OO → CR) (kx : Nat → KS) (KR : OV → List Nat → OO → CR) : run (SC r) mJl 162 1 Jl_7 (lvlT (SC r) (tJ7n (RS bp op m 0) T x u v w) .nil 1 1) none (rbK 0 [4, 7, 8, 9, 10] [] K) kx (rbK 0 [6] [] KR) [] (bT [4, 7, 8, 9, 10] [some (pX bx ox), some (RS bp op m 0), some (nilT), some (I (q : Nat)), some (I w)] .nil) [] (mkA []) =
    Option.casesOn (r bx ox) (.fail 423) fun val => bif isI IntKind.i64 val then Option.casesOn (r bx (Nat.succ ox)) (.fail 423) fun val_1 => bif isI IntKind.i64 val_1 then Option.casesOn (r bx (Nat.succ (Nat.succ ox))) (.fail 423) fun val_2 => bif isI IntKind.i64 val_2 then Option.casesOn (r bx (Nat.succ (Nat.succ (Nat.succ ox)))) (.fail 423) fun val_3 => bif isI IntKind.i64 val_3 then bif m_svv [RS bp op m 0, .agg ⟨[I (ofI val), I (ofI val_1), I (ofI val_2), I (ofI val_3)]⟩] [RS bp op m 0, .agg ⟨[I (x 0), I (x 1), I (x 2), I (x 3)]⟩] then bif u then Option.casesOn (r bx ox) (.fail 423) fun val => bif isI IntKind.i64 val then Option.casesOn (r bx (Nat.succ ox)) (.fail 423) fun val_4 => bif isI IntKind.i64 val_4 then Option.casesOn (r bx (Nat.succ (Nat.succ ox))) (.fail 423) fun val_5 => bif isI IntKind.i64 val_5 then Option.casesOn (r bx (Nat.succ (Nat.succ (Nat.succ ox)))) (.fail 423) fun val_6 => bif isI IntKind.i64 val_6 then bif m_svv [RS bp op m 0, .agg ⟨[I (ofI val), I (ofI val_4), I (ofI val_5), I (ofI val_6)]⟩] [RS bp op m 0, .agg ⟨[I (x 0), I (x 1), I (x 2), I (x 3)]⟩] then bif u then Option.casesOn (r bx ox) (.fail 423) fun val => bif isI IntKind.i64 val then Option.casesOn (r bx (Nat.succ ox)) (.fail 423) fun val_7 => bif isI IntKind.i64 val_7 then Option.casesOn (r bx (Nat.succ (Nat.succ ox))) (.fail 423) fun val_8 => bif isI IntKind.i64 val_8 then Option.casesOn (r bx (Nat.succ (Nat.succ (Nat.succ ox)))) (.fail 423) fun val_9 => bif isI IntKind.i64 val_9 then bif m_svv [RS bp op m 0, .agg ⟨[I (ofI val), I (ofI val_7), I (ofI val_8), I (ofI val_9)]⟩] [RS bp op m 0, .agg ⟨[I (x 0), I (x 1), I (x 2), I (x 3)]⟩] then bif v then Option.casesOn (r bx ox) (.fail 423) fun val => bif isI IntKind.i64 val then Option.casesOn (r bx (Nat.succ ox)) (.fail 423) fun val_10 => bif isI IntKind.i64 val_10 then Option.casesOn (r bx (Nat.succ (Nat.succ ox))) (.fail 423) fun val_11 => bif isI IntKind.i64 val_11 then Option.casesOn (r bx (Nat.succ (Nat.succ (Nat.succ ox)))) (.fail 423) fun val_12 => bif isI IntKind.i64 val_12 then bif m_svv [RS bp op m 0, .agg ⟨[I (ofI val), I (ofI val_10), I (ofI val_11), I (ofI val_12)]⟩] [RS bp op m 0, .agg ⟨[I (x 0), I (x 1), I (x 2), I (x 3)]⟩] then bif v then bif m_svv [RS bp op m 0, .slice none 0 0, I w] [RS bp op m 0, .slice none 0 0, I w] then bif m_svv [RS bp op m 0, .slice none 0 0, I w] [RS bp op m 0, .slice none 0 0, I w] then K [some (pX bx ox), some (RS bp op m 0), some (.slice none 0 0), some (I (Int.ofNat q)), some (I w)] [] [] else .fail 420 else .fail 420 else KR [some (.bool false)] [] [] else .fail 420 else .fail 420 else .fail 420 else .fail 420 else .fail 420 else Option.casesOn (r bx ox) (.fail 423) fun val => bif isI IntKind.i64 val then Option.casesOn (r bx (Nat.succ ox)) (.fail 423) fun val_10 => bif isI IntKind.i64 val_10 then Option.casesOn (r bx (Nat.succ (Nat.succ ox))) (.fail 423) fun val_11 => bif isI IntKind.i64 val_11 then Option.casesOn (r bx (Nat.succ (Nat.succ (Nat.succ ox)))) (.fail 423) fun val_12 => bif isI IntKind.i64 val_12 then bif m_svv [RS bp op m 0, .agg ⟨[I (ofI val), I (ofI val_10), I (ofI val_11), I (ofI val_12)]⟩] [RS bp op m 0, .agg ⟨[I (x 0), I (x 1), I (x 2), I (x 3)]⟩] then bif v then KR [some (.bool false)] [] [] else bif m_svv [RS bp op m 0, .slice none 0 0, I w] [RS bp op m 0, .slice none 0 0, I w] then bif m_svv [RS bp op m 0, .slice none 0 0, I w] [RS bp op m 0, .slice none 0 0, I w] then K [some (pX bx ox), some (RS bp op m 0), some (.slice none 0 0), some (I (Int.ofNat q)), some (I w)] [] [] else .fail 420 else .fail 420 else .fail 420 else .fail 420 else .fail 420 else .fail 420 else .fail 420 else .fail 420 else .fail 420 else .fail 420 else .fail 420 else .fail 420 else KR [some (.bool false)] [] [] else .fail 420 else .fail 420 else .fail 420 else .fail 420 else .fail 420 else Option.casesOn (r bx ox) (.fail 423) fun val => bif isI IntKind.i64 val then Option.casesOn (r bx (Nat.succ ox)) (.fail 423) fun val_4 => bif isI IntKind.i64 val_4 then Option.casesOn (r bx (Nat.succ (Nat.succ ox))) (.fail 423) fun val_5 => bif isI IntKind.i64 val_5 then Option.casesOn (r bx (Nat.succ (Nat.succ (Nat.succ ox)))) (.fail 423) fun val_6 => bif isI IntKind.i64 val_6 then bif m_svv [RS bp op m 0, .agg ⟨[I (ofI val), I (ofI val_4), I (ofI val_5), I (ofI val_6)]⟩] [RS bp op m 0, .agg ⟨[I (x 0), I (x 1), I (x 2), I (x 3)]⟩] then bif u then KR [some (.bool false)] [] [] else Option.casesOn (r bx ox) (.fail 423) fun val => bif isI IntKind.i64 val then Option.casesOn (r bx (Nat.succ ox)) (.fail 423) fun val_7 => bif isI IntKind.i64 val_7 then Option.casesOn (r bx (Nat.succ (Nat.succ ox))) (.fail 423) fun val_8 => bif isI IntKind.i64 val_8 then Option.casesOn (r bx (Nat.succ (Nat.succ (Nat.succ ox)))) (.fail 423) fun val_9 => bif isI IntKind.i64 val_9 then bif m_svv [RS bp op m 0, .agg ⟨[I (ofI val), I (ofI val_7), I (ofI val_8), I (ofI val_9)]⟩] [RS bp op m 0, .agg ⟨[I (x 0), I (x 1), I (x 2), I (x 3)]⟩] then bif v then Option.casesOn (r bx ox) (.fail 423) fun val => bif isI IntKind.i64 val then Option.casesOn (r bx (Nat.succ ox)) (.fail 423) fun val_10 => bif isI IntKind.i64 val_10 then Option.casesOn (r bx (Nat.succ (Nat.succ ox))) (.fail 423) fun val_11 => bif isI IntKind.i64 val_11 then Option.casesOn (r bx (Nat.succ (Nat.succ (Nat.succ ox)))) (.fail 423) fun val_12 => bif isI IntKind.i64 val_12 then bif m_svv [RS bp op m 0, .agg ⟨[I (ofI val), I (ofI val_10), I (ofI val_11), I (ofI val_12)]⟩] [RS bp op m 0, .agg ⟨[I (x 0), I (x 1), I (x 2), I (x 3)]⟩] then bif v then bif m_svv [RS bp op m 0, .slice none 0 0, I w] [RS bp op m 0, .slice none 0 0, I w] then bif m_svv [RS bp op m 0, .slice none 0 0, I w] [RS bp op m 0, .slice none 0 0, I w] then K [some (pX bx ox), some (RS bp op m 0), some (.slice none 0 0), some (I (Int.ofNat q)), some (I w)] [] [] else .fail 420 else .fail 420 else KR [some (.bool false)] [] [] else .fail 420 else .fail 420 else .fail 420 else .fail 420 else .fail 420 else Option.casesOn (r bx ox) (.fail 423) fun val => bif isI IntKind.i64 val then Option.casesOn (r bx (Nat.succ ox)) (.fail 423) fun val_10 => bif isI IntKind.i64 val_10 then Option.casesOn (r bx (Nat.succ (Nat.succ ox))) (.fail 423) fun val_11 => bif isI IntKind.i64 val_11 then Option.casesOn (r bx (Nat.succ (Nat.succ (Nat.succ ox)))) (.fail 423) fun val_12 => bif isI IntKind.i64 val_12 then bif m_svv [RS bp op m 0, .agg ⟨[I (ofI val), I (ofI val_10), I (ofI val_11), I (ofI val_12)]⟩] [RS bp op m 0, .agg ⟨[I (x 0), I (x 1), I (x 2), I (x 3)]⟩] then bif v then KR [some (.bool false)] [] [] else bif m_svv [RS bp op m 0, .slice none 0 0, I w] [RS bp op m 0, .slice none 0 0, I w] then bif m_svv [RS bp op m 0, .slice none 0 0, I w] [RS bp op m 0, .slice none 0 0, I w] then K [some (pX bx ox), some (RS bp op m 0), some (.slice none 0 0), some (I (Int.ofNat q)), some (I w)] [] [] else .fail 420 else .fail 420 else .fail 420 else .fail 420 else .fail 420 else .fail 420 else .fail 420 else .fail 420 else .fail 420 else .fail 420 else .fail 420 else .fail 420 else .fail 420 else .fail 420 else .fail 420 else .fail 420 else .fail 420 else .fail 420 else .fail 420 else .fail 420 else .fail 420 else .fail 420 := by kernel_rfl
theorem jlJn (r : Mem) (bx ox bp op m : Nat) (q : Nat) (w : Int) (fs : FnsC) (K : OV → List Nat → OO → CR) (kx : Nat → KS) (kr : KS) : run (SC r) mJl 162 1 Jl_8 fs none (rbK 0 [4, 7, 8, 9, 10, 11] [] K) kx kr [] (bT [4, 7, 8, 9, 10] [some (pX bx ox), some (RS bp op m 0), some (nilT), some (I (q : Nat)), some (I w)] .nil) [] (mkA []) =
    K [some (pX bx ox), some (RS bp op m 0), some (.slice none 0 0), some (I (Int.ofNat q)), some (I w), some (I (Int.ofNat 0))] [] [] := by kernel_rfl
theorem jlKn (r : Mem) (bx ox bp op m : Nat) (q : Nat) (w : Int) (i : Nat) (fs : FnsC) (K : OV → List Nat → OO → CR) (KX : Nat → OV → List Nat → OO → CR) (kr : KS) : run (SC r) mJl 162 1 J9_a fs none (rbK 0 [4, 7, 8, 9, 10, 11] [] K) (fun j => rbK 0 [4, 7, 8, 9, 10] [] (KX j)) kr [] (bT [4, 7, 8, 9, 10, 11] [some (pX bx ox), some (RS bp op m 0), some (nilT), some (I (q : Nat)), some (I w), some (I (i : Nat))] .nil) [] (mkA []) =
    bif decide (Int.ofNat i < 4) then K [some (pX bx ox), some (RS bp op m 0), some (.slice none 0 0), some (I (Int.ofNat q)), some (I w), some (I (Int.ofNat i))] [] [] else KX 2 [some (pX bx ox), some (RS bp op m 0), some (.slice none 0 0), some (I (Int.ofNat q)), some (I w)] [] [] := by kernel_rfl
theorem jlLn (r : Mem) (bx ox bp op m : Nat) (q : Nat) (w : Int) (i : Nat) (fs : FnsC) (K : KS) : preK (SC r) mJl 162 J9_b 11 fs K [] (bT [4, 7, 8, 9, 10, 11] [some (pX bx ox), some (RS bp op m 0), some (nilT), some (I (q : Nat)), some (I w), some (I (i : Nat))] .nil) [] (mkA []) =
    bif Nat.blt (Int.toNat (Int.ofNat i)) 4 then Option.casesOn (r bx (Nat.add ox (Nat.mul (Int.toNat (Int.ofNat i)) 1))) (.fail 423) fun val => bif isI IntKind.i64 val then bif !decide (IntKind.wrap .u64 (Int.ofNat m) = 0) then bif Nat.blt (Int.toNat (Int.ofNat i)) 4 then K [(80, .pointer (some ⟨bx, (Nat.add ox (Nat.mul (Int.toNat (Int.ofNat i)) 1)), some 0⟩)), (79, I (IntKind.wrap .i64 (Int.tmod (IntKind.wrap .u64 (ofI val)) (IntKind.wrap .u64 (Int.ofNat m))))), (78, .int .u64 (Int.tmod (IntKind.wrap .u64 (ofI val)) (IntKind.wrap .u64 (Int.ofNat m)))), (77, .int .u64 (IntKind.wrap .u64 (Int.ofNat m))), (76, I (Int.ofNat m)), (75, RS bp op m 0), (74, .int .u64 (IntKind.wrap .u64 (ofI val))), (73, I (ofI val)), (72, .pointer (some ⟨bx, (Nat.add ox (Nat.mul (Int.toNat (Int.ofNat i)) 1)), some 0⟩)), (71, I (Int.ofNat i)), (70, I (Int.ofNat i))] (.node (.node (.node (.node .nil (some (RS bp op m 0)) .nil) none (.node .nil (some (I (Int.ofNat i))) .nil)) none (.node (.node .nil (some (I (Int.ofNat q))) .nil) none .nil)) none (.node (.node (.node .nil (some (.slice none 0 0)) .nil) (some (pX bx ox)) .nil) none (.node (.node .nil (some (I w)) .nil) none .nil))) [] (AW.mk 0 .nil .nil) else .fail 420 else .fail 420 else .fail 420 else .fail 420 := by kernel_rfl
theorem jlNn (r : Mem) (bx ox bp op m : Nat) (q : Nat) (w : Int) (i : Nat) (fs : FnsC) (K : OV → List Nat → OO → CR) (kx : Nat → KS) (kr : KS) : run (SC r) mJl 162 1 J9_c fs none (rbK 0 [4, 7, 8, 9, 10, 11] [] K) kx kr [] (bT [4, 7, 8, 9, 10, 11] [some (pX bx ox), some (RS bp op m 0), some (nilT), some (I (q : Nat)), some (I w), some (I (i : Nat))] .nil) [] (mkA []) =
    K [some (pX bx ox), some (RS bp op m 0), some (.slice none 0 0), some (I (Int.ofNat q)), some (I w), some (I (IntKind.wrap .i64 (Int.ofNat i + Int.ofNat 1)))] [] [] := by kernel_rfl
theorem jlOn (r : Mem) (bx ox bp op m : Nat) (q : Nat) (w : Int) (fs : FnsC) (K : OV → List Nat → OO → CR) (kx : Nat → KS) (kr : KS) : run (SC r) mJl 162 1 Jl_10 fs none (rbK 0 [4, 7, 8, 9, 10, 12] [] K) kx kr [] (bT [4, 7, 8, 9, 10] [some (pX bx ox), some (RS bp op m 0), some (nilT), some (I (q : Nat)), some (I w)] .nil) [] (mkA []) =
    K [some (pX bx ox), some (RS bp op m 0), some (.slice none 0 0), some (I (Int.ofNat q)), some (I w), some (I (Int.ofNat 0))] [] [] := by kernel_rfl
theorem jlPn (r : Mem) (bx ox bp op m : Nat) (q : Nat) (w : Int) (i : Nat) (fs : FnsC) (K : OV → List Nat → OO → CR) (KX : Nat → OV → List Nat → OO → CR) (kr : KS) : run (SC r) mJl 162 1 Jl_11 fs none (rbK 0 [4, 7, 8, 9, 10, 12] [] K) (fun j => rbK 0 [4, 7, 8, 9, 10] [] (KX j)) kr [] (bT [4, 7, 8, 9, 10, 12] [some (pX bx ox), some (RS bp op m 0), some (nilT), some (I (q : Nat)), some (I w), some (I (i : Nat))] .nil) [] (mkA []) =
    KX 4 [some (pX bx ox), some (RS bp op m 0), some (.slice none 0 0), some (I (Int.ofNat q)), some (I w)] [] [] := by kernel_rfl
theorem jlQn (r : Mem) (bx ox bp op m : Nat) (q : Nat) (w : Int) (fs : FnsC) (K : OV → List Nat → OO → CR) (kx : Nat → KS) (kr : KS) : run (SC r) mJl 162 1 Jl_12 fs none (rbK 0 [4, 7, 8, 9, 10] [] K) kx kr [] (bT [4, 7, 8, 9, 10] [some (pX bx ox), some (RS bp op m 0), some (nilT), some (I (q : Nat)), some (I w)] .nil) [] (mkA []) =
    K [some (pX bx ox), some (RS bp op m 0), some (.slice none 0 0), some (I (Int.ofNat q)), some (I w)] [] [] := by kernel_rfl
theorem jlRn (r : Mem) (bx ox bp op m : Nat) (q : Nat) (w : Int) (fs : FnsC) (K : OV → List Nat → OO → CR) (kx : Nat → KS) (kr : KS) : run (SC r) mJl 162 1 Jl_13 fs none (rbK 0 [4, 7, 8, 9, 10] [] K) kx kr [] (bT [4, 7, 8, 9, 10] [some (pX bx ox), some (RS bp op m 0), some (nilT), some (I (q : Nat)), some (I w)] .nil) [] (mkA []) =
    K [some (pX bx ox), some (RS bp op m 0), some (.slice none 0 0), some (I (Int.ofNat q)), some (I (IntKind.wrap .i64 (Int.tmod (IntKind.wrap .u64 w) (Int.ofNat 10))))] [] [] := by kernel_rfl
theorem jlSn (r : Mem) (bx ox bp op m : Nat) (q : Nat) (w : Int) (fs : FnsC) (K : OV → List Nat → OO → CR) (kx : Nat → KS) (kr : KS) : run (SC r) mJl 162 1 Jl_14 fs none (rbK 0 [4, 7, 8, 9, 10, 108] [] K) kx kr [] (bT [4, 7, 8, 9, 10] [some (pX bx ox), some (RS bp op m 0), some (nilT), some (I (q : Nat)), some (I w)] .nil) [] (mkA []) =
    K [some (pX bx ox), some (RS bp op m 0), some (.slice none 0 0), some (I (Int.ofNat q)), some (I w), some (.bool false)] [] [] := by kernel_rfl
theorem jlSkn (r : Mem) (bx ox bp op m : Nat) (q : Nat) (w : Int) (fs : FnsC) (K : OV → List Nat → OO → CR) (kx : Nat → KS) (kr : KS) : run (SC r) mJl 162 1 Jl_24 fs none (rbK 0 [4, 7, 8, 9, 10] [] K) kx kr [] (bT [4, 7, 8, 9, 10, 108] [some (pX bx ox), some (RS bp op m 0), some (nilT), some (I (q : Nat)), some (I w), some (.bool false)] .nil) [] (mkA []) =
    K [some (pX bx ox), some (RS bp op m 0), some (.slice none 0 0), some (I (Int.ofNat q)), some (I w)] [] [] := by kernel_rfl
theorem jlTn (r : Mem) (bx ox bp op m : Nat) (q : Nat) (w : Int) (fs : FnsC) (K : OV → List Nat → OO → CR) (kx : Nat → KS) (kr : KS) : run (SC r) mJl 162 1 Jl_25 fs none (rbK 0 [4, 7, 8, 9] [.g] K) kx kr [] (bT [4, 7, 8, 9, 10] [some (pX bx ox), some (RS bp op m 0), some (nilT), some (I (q : Nat)), some (I w)] .nil) [] (mkA []) =
    K [some (pX bx ox), some (RS bp op m 0), some (gwJ 0 1), some (I (Int.ofNat q))] [] [some (.cells [I w] 3 0 1)] := by kernel_rfl
theorem jlIo (r : Mem) (bx ox bp op m : Nat) (k : Nat) (c : List Value) (q : Nat) (w : Int) (T : List (List Bool)) (x : Nat → Int) (u v : Bool) (K : OV → List Nat → OO → CR) (kx : Nat → KS) (KR : OV → List Nat → OO → CR) : run (SC r) mJl 162 1 Jl_7 (lvlT (SC r) (tJ7o (RS bp op m 0) T x u v k c) .nil 1 1) none (rbK 0 [4, 7, 8, 9, 10] [.g] K) kx (rbK 0 [6] [] KR) [] (bT [4, 7, 8, 9, 10] [some (pX bx ox), some (RS bp op m 0), some (.slice (some ⟨0, 0, none⟩) k unk), some (I (q : Nat)), some (I w)] .nil) [] (mkA [oJi c 0]) =
    Option.casesOn (r bx ox) (.fail 423) fun val => bif isI IntKind.i64 val then Option.casesOn (r bx (Nat.succ ox)) (.fail 423) fun val_1 => bif isI IntKind.i64 val_1 then Option.casesOn (r bx (Nat.succ (Nat.succ ox))) (.fail 423) fun val_2 => bif isI IntKind.i64 val_2 then Option.casesOn (r bx (Nat.succ (Nat.succ (Nat.succ ox)))) (.fail 423) fun val_3 => bif isI IntKind.i64 val_3 then bif m_svv [RS bp op m 0, .agg ⟨[I (ofI val), I (ofI val_1), I (ofI val_2), I (ofI val_3)]⟩] [RS bp op m 0, .agg ⟨[I (x 0), I (x 1), I (x 2), I (x 3)]⟩] then bif u then Option.casesOn (r bx ox) (.fail 423) fun val => bif isI IntKind.i64 val then Option.casesOn (r bx (Nat.succ ox)) (.fail 423) fun val_4 => bif isI IntKind.i64 val_4 then Option.casesOn (r bx (Nat.succ (Nat.succ ox))) (.fail 423) fun val_5 => bif isI IntKind.i64 val_5 then Option.casesOn (r bx (Nat.succ (Nat.succ (Nat.succ ox)))) (.fail 423) fun val_6 => bif isI IntKind.i64 val_6 then bif m_svv [RS bp op m 0, .agg ⟨[I (ofI val), I (ofI val_4), I (ofI val_5), I (ofI val_6)]⟩] [RS bp op m 0, .agg ⟨[I (x 0), I (x 1), I (x 2), I (x 3)]⟩] then bif u then Option.casesOn (r bx ox) (.fail 423) fun val => bif isI IntKind.i64 val then Option.casesOn (r bx (Nat.succ ox)) (.fail 423) fun val_7 => bif isI IntKind.i64 val_7 then Option.casesOn (r bx (Nat.succ (Nat.succ ox))) (.fail 423) fun val_8 => bif isI IntKind.i64 val_8 then Option.casesOn (r bx (Nat.succ (Nat.succ (Nat.succ ox)))) (.fail 423) fun val_9 => bif isI IntKind.i64 val_9 then bif m_svv [RS bp op m 0, .agg ⟨[I (ofI val), I (ofI val_7), I (ofI val_8), I (ofI val_9)]⟩] [RS bp op m 0, .agg ⟨[I (x 0), I (x 1), I (x 2), I (x 3)]⟩] then bif v then Option.casesOn (r bx ox) (.fail 423) fun val => bif isI IntKind.i64 val then Option.casesOn (r bx (Nat.succ ox)) (.fail 423) fun val_10 => bif isI IntKind.i64 val_10 then Option.casesOn (r bx (Nat.succ (Nat.succ ox))) (.fail 423) fun val_11 => bif isI IntKind.i64 val_11 then Option.casesOn (r bx (Nat.succ (Nat.succ (Nat.succ ox)))) (.fail 423) fun val_12 => bif isI IntKind.i64 val_12 then bif m_svv [RS bp op m 0, .agg ⟨[I (ofI val), I (ofI val_10), I (ofI val_11), I (ofI val_12)]⟩] [RS bp op m 0, .agg ⟨[I (x 0), I (x 1), I (x 2), I (x 3)]⟩] then bif v then bif m_rg (RS bp op m 0) k c (RS bp op m 0) k unk c then bif m_rv T k c w then bif m_rg (RS bp op m 0) k c (RS bp op m 0) k unk c then bif m_rv T k c w then bif m_nns c && true then K [some (pX bx ox), some (RS bp op m 0), some (gwJ 0 k), some (I (Int.ofNat q)), some (I w)] [] [some (.cells c 3 0 1)] else .fail 420 else KR [some (.bool false)] [] [] else .fail 420 else bif m_rg (RS bp op m 0) k c (RS bp op m 0) k unk c then bif m_rv T k c w then KR [some (.bool false)] [] [] else bif m_nns c && true then K [some (pX bx ox), some (RS bp op m 0), some (gwJ 0 k), some (I (Int.ofNat q)), some (I w)] [] [some (.cells c 3 0 1)] else .fail 420 else .fail 420 else .fail 420 else KR [some (.bool false)] [] [] else .fail 420 else .fail 420 else .fail 420 else .fail 420 else .fail 420 else Option.casesOn (r bx ox) (.fail 423) fun val => bif isI IntKind.i64 val then Option.casesOn (r bx (Nat.succ ox)) (.fail 423) fun val_10 => bif isI IntKind.i64 val_10 then Option.casesOn (r bx (Nat.succ (Nat.succ ox))) (.fail 423) fun val_11 => bif isI IntKind.i64 val_11 then Option.casesOn (r bx (Nat.succ (Nat.succ (Nat.succ ox)))) (.fail 423) fun val_12 => bif isI IntKind.i64 val_12 then bif m_svv [RS bp op m 0, .agg ⟨[I (ofI val), I (ofI val_10), I (ofI val_11), I (ofI val_12)]⟩] [RS bp op m 0, .agg ⟨[I (x 0), I (x 1), I (x 2), I (x 3)]⟩] then bif v then KR [some (.bool false)] [] [] else bif m_rg (RS bp op m 0) k c (RS bp op m 0) k unk c then bif m_rv T k c w then bif m_rg (RS bp op m 0) k c (RS bp op m 0) k unk c then bif m_rv T k c w then bif m_nns c && true then K [some (pX bx ox), some (RS bp op m 0), some (gwJ 0 k), some (I (Int.ofNat q)), some (I w)] [] [some (.cells c 3 0 1)] else .fail 420 else KR [some (.bool false)] [] [] else .fail 420 else bif m_rg (RS bp op m 0) k c (RS bp op m 0) k unk c then bif m_rv T k c w then KR [some (.bool false)] [] [] else bif m_nns c && true then K [some (pX bx ox), some (RS bp op m 0), some (gwJ 0 k), some (I (Int.ofNat q)), some (I w)] [] [some (.cells c 3 0 1)] else .fail 420 else .fail 420 else .fail 420 else .fail 420 else .fail 420 else .fail 420 else .fail 420 else .fail 420 else .fail 420 else .fail 420 else .fail 420 else .fail 420 else .fail 420 else KR [some (.bool false)] [] [] else .fail 420 else .fail 420 else .fail 420 else .fail 420 else .fail 420 else Option.casesOn (r bx ox) (.fail 423) fun val => bif isI IntKind.i64 val then Option.casesOn (r bx (Nat.succ ox)) (.fail 423) fun val_4 => bif isI IntKind.i64 val_4 then Option.casesOn (r bx (Nat.succ (Nat.succ ox))) (.fail 423) fun val_5 => bif isI IntKind.i64 val_5 then Option.casesOn (r bx (Nat.succ (Nat.succ (Nat.succ ox)))) (.fail 423) fun val_6 => bif isI IntKind.i64 val_6 then bif m_svv [RS bp op m 0, .agg ⟨[I (ofI val), I (ofI val_4), I (ofI val_5), I (ofI val_6)]⟩] [RS bp op m 0, .agg ⟨[I (x 0), I (x 1), I (x 2), I (x 3)]⟩] then bif u then KR [some (.bool false)] [] [] else Option.casesOn (r bx ox) (.fail 423) fun val => bif isI IntKind.i64 val then Option.casesOn (r bx (Nat.succ ox)) (.fail 423) fun val_7 => bif isI IntKind.i64 val_7 then Option.casesOn (r bx (Nat.succ (Nat.succ ox))) (.fail 423) fun val_8 => bif isI IntKind.i64 val_8 then Option.casesOn (r bx (Nat.succ (Nat.succ (Nat.succ ox)))) (.fail 423) fun val_9 => bif isI IntKind.i64 val_9 then bif m_svv [RS bp op m 0, .agg ⟨[I (ofI val), I (ofI val_7), I (ofI val_8), I (ofI val_9)]⟩] [RS bp op m 0, .agg ⟨[I (x 0), I (x 1), I (x 2), I (x 3)]⟩] then bif v then Option.casesOn (r bx ox) (.fail 423) fun val => bif isI IntKind.i64 val then Option.casesOn (r bx (Nat.succ ox)) (.fail 423) fun val_10 => bif isI IntKind.i64 val_10 then Option.casesOn (r bx (Nat.succ (Nat.succ ox))) (.fail 423) fun val_11 => bif isI IntKind.i64 val_11 then Option.casesOn (r bx (Nat.succ (Nat.succ (Nat.succ ox)))) (.fail 423) fun val_12 => bif isI IntKind.i64 val_12 then bif m_svv [RS bp op m 0, .agg ⟨[I (ofI val), I (ofI val_10), I (ofI val_11), I (ofI val_12)]⟩] [RS bp op m 0, .agg ⟨[I (x 0), I (x 1), I (x 2), I (x 3)]⟩] then bif v then bif m_rg (RS bp op m 0) k c (RS bp op m 0) k unk c then bif m_rv T k c w then bif m_rg (RS bp op m 0) k c (RS bp op m 0) k unk c then bif m_rv T k c w then bif m_nns c && true then K [some (pX bx ox), some (RS bp op m 0), some (gwJ 0 k), some (I (Int.ofNat q)), some (I w)] [] [some (.cells c 3 0 1)] else .fail 420 else KR [some (.bool false)] [] [] else .fail 420 else bif m_rg (RS bp op m 0) k c (RS bp op m 0) k unk c then bif m_rv T k c w then KR [some (.bool false)] [] [] else bif m_nns c && true then K [some (pX bx ox), some (RS bp op m 0), some (gwJ 0 k), some (I (Int.ofNat q)), some (I w)] [] [some (.cells c 3 0 1)] else .fail 420 else .fail 420 else .fail 420 else KR [some (.bool false)] [] [] else .fail 420 else .fail 420 else .fail 420 else .fail 420 else .fail 420 else Option.casesOn (r bx ox) (.fail 423) fun val => bif isI IntKind.i64 val then Option.casesOn (r bx (Nat.succ ox)) (.fail 423) fun val_10 => bif isI IntKind.i64 val_10 then Option.casesOn (r bx (Nat.succ (Nat.succ ox))) (.fail 423) fun val_11 => bif isI IntKind.i64 val_11 then Option.casesOn (r bx (Nat.succ (Nat.succ (Nat.succ ox)))) (.fail 423) fun val_12 => bif isI IntKind.i64 val_12 then bif m_svv [RS bp op m 0, .agg ⟨[I (ofI val), I (ofI val_10), I (ofI val_11), I (ofI val_12)]⟩] [RS bp op m 0, .agg ⟨[I (x 0), I (x 1), I (x 2), I (x 3)]⟩] then bif v then KR [some (.bool false)] [] [] else bif m_rg (RS bp op m 0) k c (RS bp op m 0) k unk c then bif m_rv T k c w then bif m_rg (RS bp op m 0) k c (RS bp op m 0) k unk c then bif m_rv T k c w then bif m_nns c && true then K [some (pX bx ox), some (RS bp op m 0), some (gwJ 0 k), some (I (Int.ofNat q)), some (I w)] [] [some (.cells c 3 0 1)] else .fail 420 else KR [some (.bool false)] [] [] else .fail 420 else bif m_rg (RS bp op m 0) k c (RS bp op m 0) k unk c then bif m_rv T k c w then KR [some (.bool false)] [] [] else bif m_nns c && true then K [some (pX bx ox), some (RS bp op m 0), some (gwJ 0 k), some (I (Int.ofNat q)), some (I w)] [] [some (.cells c 3 0 1)] else .fail 420 else .fail 420 else .fail 420 else .fail 420 else .fail 420 else .fail 420 else .fail 420 else .fail 420 else .fail 420 else .fail 420 else .fail 420 else .fail 420 else .fail 420 else .fail 420 else .fail 420 else .fail 420 else .fail 420 else .fail 420 else .fail 420 else .fail 420 else .fail 420 else .fail 420 else .fail 420 := by kernel_rfl
theorem jlJo (r : Mem) (bx ox bp op m : Nat) (k : Nat) (c : List Value) (q : Nat) (w : Int) (fs : FnsC) (K : OV → List Nat → OO → CR) (kx : Nat → KS) (kr : KS) : run (SC r) mJl 162 1 Jl_8 fs none (rbK 0 [4, 7, 8, 9, 10, 11] [.g] K) kx kr [] (bT [4, 7, 8, 9, 10] [some (pX bx ox), some (RS bp op m 0), some (.slice (some ⟨0, 0, none⟩) k unk), some (I (q : Nat)), some (I w)] .nil) [] (mkA [oJi c 0]) =
    bif m_nns c && true then K [some (pX bx ox), some (RS bp op m 0), some (gwJ 0 k), some (I (Int.ofNat q)), some (I w), some (I (Int.ofNat 0))] [] [some (.cells c 3 0 1)] else .fail 420 := by kernel_rfl
theorem jlKo (r : Mem) (bx ox bp op m : Nat) (k : Nat) (c : List Value) (q : Nat) (w : Int) (i : Nat) (fs : FnsC) (K : OV → List Nat → OO → CR) (KX : Nat → OV → List Nat → OO → CR) (kr : KS) : run (SC r) mJl 162 1 J9_a fs none (rbK 0 [4, 7, 8, 9, 10, 11] [.g] K) (fun j => rbK 0 [4, 7, 8, 9, 10] [.g] (KX j)) kr [] (bT [4, 7, 8, 9, 10, 11] [some (pX bx ox), some (RS bp op m 0), some (.slice (some ⟨0, 0, none⟩) k unk), some (I (q : Nat)), some (I w), some (I (i : Nat))] .nil) [] (mkA [oJi c 0]) =
    bif decide (Int.ofNat i < 4) then bif m_nns c && true then K [some (pX bx ox), some (RS bp op m 0), some (gwJ 0 k), some (I (Int.ofNat q)), some (I w), some (I (Int.ofNat i))] [] [some (.cells c 3 0 1)] else .fail 420 else bif m_nns c && true then KX 2 [some (pX bx ox), some (RS bp op m 0), some (gwJ 0 k), some (I (Int.ofNat q)), some (I w)] [] [some (.cells c 3 0 1)] else .fail 420 := by kernel_rfl
theorem jlLo (r : Mem) (bx ox bp op m : Nat) (k : Nat) (c : List Value) (q : Nat) (w : Int) (i : Nat) (fs : FnsC) (K : KS) : preK (SC r) mJl 162 J9_b 11 fs K [] (bT [4, 7, 8, 9, 10, 11] [some (pX bx ox), some (RS bp op m 0), some (.slice (some ⟨0, 0, none⟩) k unk), some (I (q : Nat)), some (I w), some (I (i : Nat))] .nil) [] (mkA [oJi c 0]) =
    bif Nat.blt (Int.toNat (Int.ofNat i)) 4 then Option.casesOn (r bx (Nat.add ox (Nat.mul (Int.toNat (Int.ofNat i)) 1))) (.fail 423) fun val => bif isI IntKind.i64 val then bif !decide (IntKind.wrap .u64 (Int.ofNat m) = 0) then bif Nat.blt (Int.toNat (Int.ofNat i)) 4 then K [(80, .pointer (some ⟨bx, (Nat.add ox (Nat.mul (Int.toNat (Int.ofNat i)) 1)), some 0⟩)), (79, I (IntKind.wrap .i64 (Int.tmod (IntKind.wrap .u64 (ofI val)) (IntKind.wrap .u64 (Int.ofNat m))))), (78, .int .u64 (Int.tmod (IntKind.wrap .u64 (ofI val)) (IntKind.wrap .u64 (Int.ofNat m)))), (77, .int .u64 (IntKind.wrap .u64 (Int.ofNat m))), (76, I (Int.ofNat m)), (75, RS bp op m 0), (74, .int .u64 (IntKind.wrap .u64 (ofI val))), (73, I (ofI val)), (72, .pointer (some ⟨bx, (Nat.add ox (Nat.mul (Int.toNat (Int.ofNat i)) 1)), some 0⟩)), (71, I (Int.ofNat i)), (70, I (Int.ofNat i))] (.node (.node (.node (.node .nil (some (RS bp op m 0)) .nil) none (.node .nil (some (I (Int.ofNat i))) .nil)) none (.node (.node .nil (some (I (Int.ofNat q))) .nil) none .nil)) none (.node (.node (.node .nil (some (gwJ 0 k)) .nil) (some (pX bx ox)) .nil) none (.node (.node .nil (some (I w)) .nil) none .nil))) [] (AW.mk 1 (.node .nil (some (.cells c 3 0 1)) .nil) .nil) else .fail 420 else .fail 420 else .fail 420 else .fail 420 := by kernel_rfl
theorem jlNo (r : Mem) (bx ox bp op m : Nat) (k : Nat) (c : List Value) (q : Nat) (w : Int) (i : Nat) (fs : FnsC) (K : OV → List Nat → OO → CR) (kx : Nat → KS) (kr : KS) : run (SC r) mJl 162 1 J9_c fs none (rbK 0 [4, 7, 8, 9, 10, 11] [.g] K) kx kr [] (bT [4, 7, 8, 9, 10, 11] [some (pX bx ox), some (RS bp op m 0), some (.slice (some ⟨0, 0, none⟩) k unk), some (I (q : Nat)), some (I w), some (I (i : Nat))] .nil) [] (mkA [oJi c 0]) =
    bif m_nns c && true then K [some (pX bx ox), some (RS bp op m 0), some (gwJ 0 k), some (I (Int.ofNat q)), some (I w), some (I (IntKind.wrap .i64 (Int.ofNat i + Int.ofNat 1)))] [] [some (.cells c 3 0 1)] else .fail 420 := by kernel_rfl
theorem jlOo (r : Mem) (bx ox bp op m : Nat) (k : Nat) (c : List Value) (q : Nat) (w : Int) (fs : FnsC) (K : OV → List Nat → OO → CR) (kx : Nat → KS) (kr : KS) : run (SC r) mJl 162 1 Jl_10 fs none (rbK 0 [4, 7, 8, 9, 10, 12] [.g] K) kx kr [] (bT [4, 7, 8, 9, 10] [some (pX bx ox), some (RS bp op m 0), some (.slice (some ⟨0, 0, none⟩) k unk), some (I (q : Nat)), some (I w)] .nil) [] (mkA [oJi c 0]) =
    bif m_nns c && true then K [some (pX bx ox), some (RS bp op m 0), some (gwJ 0 k), some (I (Int.ofNat q)), some (I w), some (I (Int.ofNat 0))] [] [some (.cells c 3 0 1)] else .fail 420 := by kernel_rfl
theorem jlPo (r : Mem) (bx ox bp op m : Nat) (k : Nat) (c : List Value) (q : Nat) (w : Int) (i : Nat) (fs : FnsC) (K : OV → List Nat → OO → CR) (KX : Nat → OV → List Nat → OO → CR) (kr : KS) : run (SC r) mJl 162 1 Jl_11 fs none (rbK 0 [4, 7, 8, 9, 10, 12] [.g] K) (fun j => rbK 0 [4, 7, 8, 9, 10] [.g] (KX j)) kr [] (bT [4, 7, 8, 9, 10, 12] [some (pX bx ox), some (RS bp op m 0), some (.slice (some ⟨0, 0, none⟩) k unk), some (I (q : Nat)), some (I w), some (I (i : Nat))] .nil) [] (mkA [oJi c 0]) =
    bif decide (Int.ofNat i < Int.ofNat k) then bif Nat.blt (Int.toNat (Int.ofNat i)) k then Option.casesOn c[Nat.add 0 (Nat.mul (Int.toNat (Int.ofNat i)) 1)]? (.fail 423) fun val => bif isI IntKind.i64 val then bif Nat.blt (Int.toNat (Int.ofNat i)) k then bif Nat.blt (Nat.add 0 (Nat.mul (Int.toNat (Int.ofNat i)) 1)) (List.length c) then bif m_nns (List.set c (Nat.add 0 (Nat.mul (Int.toNat (Int.ofNat i)) 1)) (I (IntKind.wrap .i64 (Int.tmod (IntKind.wrap .u64 (ofI val)) (Int.ofNat 30))))) && true then K [some (pX bx ox), some (RS bp op m 0), some (gwJ 0 k), some (I (Int.ofNat q)), some (I w), some (I (IntKind.wrap .i64 (Int.ofNat i + Int.ofNat 1)))] [] [some (.cells (List.set c (Nat.add 0 (Nat.mul (Int.toNat (Int.ofNat i)) 1)) (I (IntKind.wrap .i64 (Int.tmod (IntKind.wrap .u64 (ofI val)) (Int.ofNat 30))))) 3 0 1)] else .fail 420 else .fail 420 else .fail 420 else .fail 420 else .fail 420 else bif m_nns c && true then KX 4 [some (pX bx ox), some (RS bp op m 0), some (gwJ 0 k), some (I (Int.ofNat q)), some (I w)] [] [some (.cells c 3 0 1)] else .fail 420 := by kernel_rfl
theorem jlQo (r : Mem) (bx ox bp op m : Nat) (k : Nat) (c : List Value) (q : Nat) (w : Int) (fs : FnsC) (K : OV → List Nat → OO → CR) (kx : Nat → KS) (kr : KS) : run (SC r) mJl 162 1 Jl_12 fs none (rbK 0 [4, 7, 8, 9, 10] [.g] K) kx kr [] (bT [4, 7, 8, 9, 10] [some (pX bx ox), some (RS bp op m 0), some (.slice (some ⟨0, 0, none⟩) k unk), some (I (q : Nat)), some (I w)] .nil) [] (mkA [oJi c 0]) =
    bif decide (0 ≤ bif decide (12 < Int.ofNat k) then Int.ofNat 12 else Int.ofNat k) then bif Nat.ble (Int.toNat (bif decide (12 < Int.ofNat k) then Int.ofNat 12 else Int.ofNat k)) k then bif m_nns c && true then K [some (pX bx ox), some (RS bp op m 0), some (.slice (some ⟨0, 0, none⟩) (Int.toNat (bif decide (12 < Int.ofNat k) then Int.ofNat 12 else Int.ofNat k)) unk), some (I (Int.ofNat q)), some (I w)] [] [some (.cells c 3 0 1)] else .fail 420 else .fail 420 else .fail 420 := by kernel_rfl
theorem jlRo (r : Mem) (bx ox bp op m : Nat) (k : Nat) (c : List Value) (q : Nat) (w : Int) (fs : FnsC) (K : OV → List Nat → OO → CR) (kx : Nat → KS) (kr : KS) : run (SC r) mJl 162 1 Jl_13 fs none (rbK 0 [4, 7, 8, 9, 10] [.g] K) kx kr [] (bT [4, 7, 8, 9, 10] [some (pX bx ox), some (RS bp op m 0), some (.slice (some ⟨0, 0, none⟩) k unk), some (I (q : Nat)), some (I w)] .nil) [] (mkA [oJi c 0]) =
    bif m_nns c && true then K [some (pX bx ox), some (RS bp op m 0), some (gwJ 0 k), some (I (Int.ofNat q)), some (I (IntKind.wrap .i64 (Int.tmod (IntKind.wrap .u64 w) (Int.ofNat 10))))] [] [some (.cells c 3 0 1)] else .fail 420 := by kernel_rfl
theorem jlSo (r : Mem) (bx ox bp op m : Nat) (k : Nat) (c : List Value) (q : Nat) (w : Int) (fs : FnsC) (K : OV → List Nat → OO → CR) (kx : Nat → KS) (kr : KS) : run (SC r) mJl 162 1 Jl_14 fs none (rbK 0 [4, 7, 8, 9, 10, 108] [.g] K) kx kr [] (bT [4, 7, 8, 9, 10] [some (pX bx ox), some (RS bp op m 0), some (.slice (some ⟨0, 0, none⟩) k unk), some (I (q : Nat)), some (I w)] .nil) [] (mkA [oJi c 0]) =
    bif decide (Int.ofNat k > 0) then bif m_nns c && true then K [some (pX bx ox), some (RS bp op m 0), some (gwJ 0 k), some (I (Int.ofNat q)), some (I w), some (.bool true)] [] [some (.cells c 3 0 1)] else .fail 420 else bif m_nns c && true then K [some (pX bx ox), some (RS bp op m 0), some (gwJ 0 k), some (I (Int.ofNat q)), some (I w), some (.bool false)] [] [some (.cells c 3 0 1)] else .fail 420 := by kernel_rfl
theorem jlSko (r : Mem) (bx ox bp op m : Nat) (k : Nat) (c : List Value) (q : Nat) (w : Int) (fs : FnsC) (K : OV → List Nat → OO → CR) (kx : Nat → KS) (kr : KS) : run (SC r) mJl 162 1 Jl_24 fs none (rbK 0 [4, 7, 8, 9, 10] [.g] K) kx kr [] (bT [4, 7, 8, 9, 10, 108] [some (pX bx ox), some (RS bp op m 0), some (.slice (some ⟨0, 0, none⟩) k unk), some (I (q : Nat)), some (I w), some (.bool false)] .nil) [] (mkA [oJi c 0]) =
    bif m_nns c && true then K [some (pX bx ox), some (RS bp op m 0), some (gwJ 0 k), some (I (Int.ofNat q)), some (I w)] [] [some (.cells c 3 0 1)] else .fail 420 := by kernel_rfl
theorem jlTo (r : Mem) (bx ox bp op m : Nat) (k : Nat) (c : List Value) (q : Nat) (w : Int) (fs : FnsC) (K : OV → List Nat → OO → CR) (kx : Nat → KS) (kr : KS) : run (SC r) mJl 162 1 Jl_25 fs none (rbK 0 [4, 7, 8, 9] [.g] K) kx kr [] (bT [4, 7, 8, 9, 10] [some (pX bx ox), some (RS bp op m 0), some (.slice (some ⟨0, 0, none⟩) k unk), some (I (q : Nat)), some (I w)] .nil) [] (mkA [oJi c 0]) =
    bif Nat.ble (Nat.add k 1) 1000000 then Option.casesOn (takeAt c 0 (Nat.mul k 1)) (.fail 439) fun val => bif m_nns (val ++ [I w]) && true then K [some (pX bx ox), some (RS bp op m 0), some (.slice (some ⟨0, 0, none⟩) (Nat.add k 1) unk), some (I (Int.ofNat q))] [] [some (.cells (val ++ [I w]) 3 0 1)] else .fail 420 else .fail 420 := by kernel_rfl
theorem jlU (r : Mem) (bx ox bp op m : Nat) (k : Nat) (c : List Value) (q : Nat) (fs : FnsC) (K : OV → List Nat → OO → CR) (kx : Nat → KS) (kr : KS) : run (SC r) mJl 162 1 Jl_26 fs none (rbK 0 [4, 7, 8, 9] [.g] K) kx kr [] (bT [4, 7, 8, 9] [some (pX bx ox), some (RS bp op m 0), some (.slice (some ⟨0, 0, none⟩) k unk), some (I (q : Nat))] .nil) [] (mkA [oJi c 0]) =
    bif m_nns c && true then K [some (pX bx ox), some (RS bp op m 0), some (gwJ 0 k), some (I (IntKind.wrap .i64 (Int.ofNat q + Int.ofNat 1)))] [] [some (.cells c 3 0 1)] else .fail 420 := by kernel_rfl
theorem jlV (r : Mem) (kn : KS) (kx : Nat → KS) (KR : OV → List Nat → OO → CR) : run (SC r) mJl 162 1 Jl_27 (lvlT (SC r) tAwJ .nil 1 1) none kn kx (rbK 0 [6] [] KR) [] (bT [] [] .nil) [] (mkA []) =
    KR [some (.bool true)] [] [] := by kernel_rfl
theorem jmA (r : Mem) (bx ox bp op m : Nat) (k : Nat) (c : List Value) (q : Nat) (w : Int) (fs : FnsC) (K : OV → List Nat → OO → CR) (kx : Nat → KS) (kr : KS) : run (SC r) mJl 162 1 Jl_15 fs none (rbK 0 [4, 7, 8, 9, 10, 13] [.g] K) kx kr [] (bT [4, 7, 8, 9, 10, 108] [some (pX bx ox), some (RS bp op m 0), some (.slice (some ⟨0, 0, none⟩) k unk), some (I (q : Nat)), some (I w), some (.bool true)] .nil) [] (mkA [oJi c 0]) =
    bif m_nns c && true then K [some (pX bx ox), some (RS bp op m 0), some (gwJ 0 k), some (I (Int.ofNat q)), some (I w), some (.slice none 0 0)] [] [some (.cells c 3 0 1)] else .fail 420 := by kernel_rfl
theorem jmB (r : Mem) (bx ox bp op m : Nat) (k : Nat) (c : List Value) (q : Nat) (w : Int) (fs : FnsC) (K : OV → List Nat → OO → CR) (kx : Nat → KS) (kr : KS) : run (SC r) mJl 162 1 Jl_16 fs none (rbK 0 [4, 7, 8, 9, 10, 13, 14] [.g] K) kx kr [] (bT [4, 7, 8, 9, 10, 13] [some (pX bx ox), some (RS bp op m 0), some (.slice (some ⟨0, 0, none⟩) k unk), some (I (q : Nat)), some (I w), some (nilT)] .nil) [] (mkA [oJi c 0]) =
    bif m_nns c && true then K [some (pX bx ox), some (RS bp op m 0), some (gwJ 0 k), some (I (Int.ofNat q)), some (I w), some (.slice none 0 0), some (I (Int.ofNat 0))] [] [some (.cells c 3 0 1)] else .fail 420 := by kernel_rfl
theorem jmCn (r : Mem) (bx ox bp op m : Nat) (k : Nat) (c : List Value) (q : Nat) (w : Int) (i : Nat) (fs : FnsC) (K : OV → List Nat → OO → CR) (KX : Nat → OV → List Nat → OO → CR) (kr : KS) : run (SC r) mJl 162 1 Jl_17 fs none (rbK 0 [4, 7, 8, 9, 10, 13, 14] [.g] K) (fun j => rbK 0 [4, 7, 8, 9, 10, 13] [.g] (KX j)) kr [] (bT [4, 7, 8, 9, 10, 13, 14] [some (pX bx ox), some (RS bp op m 0), some (.slice (some ⟨0, 0, none⟩) k unk), some (I (q : Nat)), some (I w), some (nilT), some (I (i : Nat))] .nil) [] (mkA [oJi c 0]) =
    bif decide (Int.ofNat i < Int.ofNat k) then bif m_nns c && true then K [some (pX bx ox), some (RS bp op m 0), some (gwJ 0 k), some (I (Int.ofNat q)), some (I w), some (.slice none 0 0), some (I (Int.ofNat i))] [] [some (.cells c 3 0 1)] else .fail 420 else bif m_nns c && true then KX 6 [some (pX bx ox), some (RS bp op m 0), some (gwJ 0 k), some (I (Int.ofNat q)), some (I w), some (.slice none 0 0)] [] [some (.cells c 3 0 1)] else .fail 420 := by kernel_rfl
theorem jmDn (r : Mem) (bx ox bp op m : Nat) (k : Nat) (c : List Value) (q : Nat) (w : Int) (i : Nat) (fs : FnsC) (K : OV → List Nat → OO → CR) (kx : Nat → KS) (kr : KS) : run (SC r) mJl 162 1 Jl_18 fs none (rbK 0 [4, 7, 8, 9, 10, 13, 14, 15] [.g] K) kx kr [] (bT [4, 7, 8, 9, 10, 13, 14] [some (pX bx ox), some (RS bp op m 0), some (.slice (some ⟨0, 0, none⟩) k unk), some (I (q : Nat)), some (I w), some (nilT), some (I (i : Nat))] .nil) [] (mkA [oJi c 0]) =
    bif m_nns c && true then K [some (pX bx ox), some (RS bp op m 0), some (gwJ 0 k), some (I (Int.ofNat q)), some (I w), some (.slice none 0 0), some (I (Int.ofNat i)), some (.slice none 0 0)] [] [some (.cells c 3 0 1)] else .fail 420 := by kernel_rfl
theorem jmEn (r : Mem) (bx ox bp op m : Nat) (k : Nat) (c : List Value) (q : Nat) (w : Int) (i : Nat) (fs : FnsC) (K : OV → List Nat → OO → CR) (kx : Nat → KS) (kr : KS) : run (SC r) mJl 162 1 Jl_19 fs none (rbK 0 [4, 7, 8, 9, 10, 13, 14, 15, 16] [.g] K) kx kr [] (bT [4, 7, 8, 9, 10, 13, 14, 15] [some (pX bx ox), some (RS bp op m 0), some (.slice (some ⟨0, 0, none⟩) k unk), some (I (q : Nat)), some (I w), some (nilT), some (I (i : Nat)), some (nilT)] .nil) [] (mkA [oJi c 0]) =
    bif m_nns c && true then K [some (pX bx ox), some (RS bp op m 0), some (gwJ 0 k), some (I (Int.ofNat q)), some (I w), some (.slice none 0 0), some (I (Int.ofNat i)), some (.slice none 0 0), some (I (Int.ofNat 0))] [] [some (.cells c 3 0 1)] else .fail 420 := by kernel_rfl
theorem jmFnn (r : Mem) (bx ox bp op m : Nat) (k : Nat) (c : List Value) (q : Nat) (w : Int) (i y : Nat) (fs : FnsC) (K : OV → List Nat → OO → CR) (KX : Nat → OV → List Nat → OO → CR) (kr : KS) : run (SC r) mJl 162 1 Jl_20 fs none (rbK 0 [4, 7, 8, 9, 10, 13, 14, 15, 16] [.g, .g] K) (fun j => rbK 0 [4, 7, 8, 9, 10, 13, 14, 15] [.g] (KX j)) kr [] (bT [4, 7, 8, 9, 10, 13, 14, 15, 16] [some (pX bx ox), some (RS bp op m 0), some (.slice (some ⟨0, 0, none⟩) k unk), some (I (q : Nat)), some (I w), some (nilT), some (I (i : Nat)), some (nilT), some (I (y : Nat))] .nil) [] (mkA [oJi c 0]) =
    bif decide (Int.ofNat y < Int.ofNat k) then bif Nat.blt (Int.toNat (Int.ofNat y)) k then Option.casesOn c[Nat.add 0 (Nat.mul (Int.toNat (Int.ofNat y)) 1)]? (.fail 423) fun val => bif isI IntKind.i64 val then bif Nat.blt (Int.toNat (Int.ofNat i)) k then Option.casesOn c[Nat.add 0 (Nat.mul (Int.toNat (Int.ofNat i)) 1)]? (.fail 423) fun val_1 => bif isI IntKind.i64 val_1 then bif decide (ofI val > IntKind.wrap .i64 (ofI val_1 + w)) then Option.casesOn c[Nat.add 0 (Nat.mul (Int.toNat (Int.ofNat i)) 1)]? (.fail 423) fun val_2 => bif isI IntKind.i64 val_2 then bif m_eqv (I (ofI val_2)) (I (ofI val_1)) then Option.casesOn c[Nat.add 0 (Nat.mul (Int.toNat (Int.ofNat y)) 1)]? (.fail 423) fun val_3 => bif isI IntKind.i64 val_3 then bif m_eqv (I (ofI val_3)) (I (ofI val)) then bif m_nns c && (m_nns [.bool true] && true) then K [some (pX bx ox), some (RS bp op m 0), some (gwJ 0 k), some (I (Int.ofNat q)), some (I w), some (.slice none 0 0), some (I (Int.ofNat i)), some (gwJ 1 1), some (I (IntKind.wrap .i64 (Int.ofNat y + Int.ofNat 1)))] [] [some (.cells c 3 0 1), some (.cells [.bool true] 4 1 1)] else .fail 420 else .fail 420 else .fail 420 else .fail 420 else .fail 420 else Option.casesOn c[Nat.add 0 (Nat.mul (Int.toNat (Int.ofNat i)) 1)]? (.fail 423) fun val_2 => bif isI IntKind.i64 val_2 then bif m_eqv (I (ofI val_2)) (I (ofI val_1)) then Option.casesOn c[Nat.add 0 (Nat.mul (Int.toNat (Int.ofNat y)) 1)]? (.fail 423) fun val_3 => bif isI IntKind.i64 val_3 then bif m_eqv (I (ofI val_3)) (I (ofI val)) then bif m_nns c && (m_nns [.bool false] && true) then K [some (pX bx ox), some (RS bp op m 0), some (gwJ 0 k), some (I (Int.ofNat q)), some (I w), some (.slice none 0 0), some (I (Int.ofNat i)), some (gwJ 1 1), some (I (IntKind.wrap .i64 (Int.ofNat y + Int.ofNat 1)))] [] [some (.cells c 3 0 1), some (.cells [.bool false] 4 1 1)] else .fail 420 else .fail 420 else .fail 420 else .fail 420 else .fail 420 else .fail 420 else .fail 420 else .fail 420 else .fail 420 else bif m_nns c && true then KX 8 [some (pX bx ox), some (RS bp op m 0), some (gwJ 0 k), some (I (Int.ofNat q)), some (I w), some (.slice none 0 0), some (I (Int.ofNat i)), some (.slice none 0 0)] [] [some (.cells c 3 0 1)] else .fail 420 := by kernel_rfl
theorem jmFnd (r : Mem) (bx ox bp op m : Nat) (k : Nat) (c : List Value) (q : Nat) (w : Int) (d : List Value) (i y : Nat) (fs : FnsC) (K : OV → List Nat → OO → CR) (KX : Nat → OV → List Nat → OO → CR) (kr : KS) : run (SC r) mJl 162 1 Jl_20 fs none (rbK 0 [4, 7, 8, 9, 10, 13, 14, 15, 16] [.g, .g] K) (fun j => rbK 0 [4, 7, 8, 9, 10, 13, 14, 15] [.g, .g] (KX j)) kr [] (bT [4, 7, 8, 9, 10, 13, 14, 15, 16] [some (pX bx ox), some (RS bp op m 0), some (.slice (some ⟨0, 0, none⟩) k unk), some (I (q : Nat)), some (I w), some (nilT), some (I (i : Nat)), some (.slice (some ⟨1, 0, none⟩) y unk), some (I (y : Nat))] .nil) [] (mkA [oJi c 0, oBo d 1]) =
    bif decide (Int.ofNat y < Int.ofNat k) then bif Nat.blt (Int.toNat (Int.ofNat y)) k then Option.casesOn c[Nat.add 0 (Nat.mul (Int.toNat (Int.ofNat y)) 1)]? (.fail 423) fun val => bif isI IntKind.i64 val then bif Nat.blt (Int.toNat (Int.ofNat i)) k then Option.casesOn c[Nat.add 0 (Nat.mul (Int.toNat (Int.ofNat i)) 1)]? (.fail 423) fun val_1 => bif isI IntKind.i64 val_1 then bif decide (ofI val > IntKind.wrap .i64 (ofI val_1 + w)) then bif Nat.ble (Nat.add y 1) 1000000 then Option.casesOn (takeAt d 0 (Nat.mul y 1)) (.fail 439) fun val_2 => Option.casesOn c[Nat.add 0 (Nat.mul (Int.toNat (Int.ofNat i)) 1)]? (.fail 423) fun val_3 => bif isI IntKind.i64 val_3 then bif m_eqv (I (ofI val_3)) (I (ofI val_1)) then Option.casesOn c[Nat.add 0 (Nat.mul (Int.toNat (Int.ofNat y)) 1)]? (.fail 423) fun val_4 => bif isI IntKind.i64 val_4 then bif m_eqv (I (ofI val_4)) (I (ofI val)) then bif m_nns c && (m_nns (val_2 ++ [.bool true]) && true) then K [some (pX bx ox), some (RS bp op m 0), some (gwJ 0 k), some (I (Int.ofNat q)), some (I w), some (.slice none 0 0), some (I (Int.ofNat i)), some (.slice (some ⟨1, 0, none⟩) (Nat.add y 1) unk), some (I (IntKind.wrap .i64 (Int.ofNat y + Int.ofNat 1)))] [] [some (.cells c 3 0 1), some (.cells (val_2 ++ [.bool true]) 4 1 1)] else .fail 420 else .fail 420 else .fail 420 else .fail 420 else .fail 420 else .fail 420 else bif Nat.ble (Nat.add y 1) 1000000 then Option.casesOn (takeAt d 0 (Nat.mul y 1)) (.fail 439) fun val_2 => Option.casesOn c[Nat.add 0 (Nat.mul (Int.toNat (Int.ofNat i)) 1)]? (.fail 423) fun val_3 => bif isI IntKind.i64 val_3 then bif m_eqv (I (ofI val_3)) (I (ofI val_1)) then Option.casesOn c[Nat.add 0 (Nat.mul (Int.toNat (Int.ofNat y)) 1)]? (.fail 423) fun val_4 => bif isI IntKind.i64 val_4 then bif m_eqv (I (ofI val_4)) (I (ofI val)) then bif m_nns c && (m_nns (val_2 ++ [.bool false]) && true) then K [some (pX bx ox), some (RS bp op m 0), some (gwJ 0 k), some (I (Int.ofNat q)), some (I w), some (.slice none 0 0), some (I (Int.ofNat i)), some (.slice (some ⟨1, 0, none⟩) (Nat.add y 1) unk), some (I (IntKind.wrap .i64 (Int.ofNat y + Int.ofNat 1)))] [] [some (.cells c 3 0 1), some (.cells (val_2 ++ [.bool false]) 4 1 1)] else .fail 420 else .fail 420 else .fail 420 else .fail 420 else .fail 420 else .fail 420 else .fail 420 else .fail 420 else .fail 420 else .fail 420 else bif m_nns c && (m_nns d && true) then KX 8 [some (pX bx ox), some (RS bp op m 0), some (gwJ 0 k), some (I (Int.ofNat q)), some (I w), some (.slice none 0 0), some (I (Int.ofNat i)), some (gwJ 1 y)] [] [some (.cells c 3 0 1), some (.cells d 4 1 1)] else .fail 420 := by kernel_rfl
theorem jmGn (r : Mem) (bx ox bp op m : Nat) (k : Nat) (c : List Value) (q : Nat) (w : Int) (d : List Value) (i y : Nat) (fs : FnsC) (K : OV → List Nat → OO → CR) (kx : Nat → KS) (kr : KS) : run (SC r) mJl 162 1 Jl_21 fs none (rbK 0 [4, 7, 8, 9, 10, 13, 14] [.g, .t, .g] K) kx kr [] (bT [4, 7, 8, 9, 10, 13, 14, 15] [some (pX bx ox), some (RS bp op m 0), some (.slice (some ⟨0, 0, none⟩) k unk), some (I (q : Nat)), some (I w), some (nilT), some (I (i : Nat)), some (.slice (some ⟨1, 0, none⟩) y unk)] .nil) [] (mkA [oJi c 0, oBo d 1]) =
    bif m_nns c && (true && (m_nns d && true)) then K [some (pX bx ox), some (RS bp op m 0), some (gwJ 0 k), some (I (Int.ofNat q)), some (I w), some (gwJ 1 1), some (I (Int.ofNat i))] [] [some (.cells c 3 0 1), some (.cells [gwJ 2 y] 52 1 1), some (.cells d 4 2 1)] else .fail 420 := by kernel_rfl
theorem jmCe (r : Mem) (bx ox bp op m : Nat) (k : Nat) (c : List Value) (q : Nat) (w : Int) (h : Nat) (e : List Value) (i : Nat) (fs : FnsC) (K : OV → List Nat → OO → CR) (KX : Nat → OV → List Nat → OO → CR) (kr : KS) : run (SC r) mJl 162 1 Jl_17 fs none (rbK 0 [4, 7, 8, 9, 10, 13, 14] [.g, .g] K) (fun j => rbK 0 [4, 7, 8, 9, 10, 13] [.g, .g] (KX j)) kr [] (bT [4, 7, 8, 9, 10, 13, 14] [some (pX bx ox), some (RS bp op m 0), some (.slice (some ⟨0, 0, none⟩) k unk), some (I (q : Nat)), some (I w), some (.slice (some ⟨1, 0, none⟩) h unk), some (I (i : Nat))] .nil) [] (mkA [oJi c 0, oTb e 1]) =
    bif decide (Int.ofNat i < Int.ofNat k) then bif m_nns c && (m_nns e && true) then K [some (pX bx ox), some (RS bp op m 0), some (gwJ 0 k), some (I (Int.ofNat q)), some (I w), some (gwJ 1 h), some (I (Int.ofNat i))] [] [some (.cells c 3 0 1), some (.cells e 52 1 1)] else .fail 420 else bif m_nns c && (m_nns e && true) then KX 6 [some (pX bx ox), some (RS bp op m 0), some (gwJ 0 k), some (I (Int.ofNat q)), some (I w), some (gwJ 1 h)] [] [some (.cells c 3 0 1), some (.cells e 52 1 1)] else .fail 420 := by kernel_rfl
theorem jmDe (r : Mem) (bx ox bp op m : Nat) (k : Nat) (c : List Value) (q : Nat) (w : Int) (h : Nat) (e : List Value) (i : Nat) (fs : FnsC) (K : OV → List Nat → OO → CR) (kx : Nat → KS) (kr : KS) : run (SC r) mJl 162 1 Jl_18 fs none (rbK 0 [4, 7, 8, 9, 10, 13, 14, 15] [.g, .g] K) kx kr [] (bT [4, 7, 8, 9, 10, 13, 14] [some (pX bx ox), some (RS bp op m 0), some (.slice (some ⟨0, 0, none⟩) k unk), some (I (q : Nat)), some (I w), some (.slice (some ⟨1, 0, none⟩) h unk), some (I (i : Nat))] .nil) [] (mkA [oJi c 0, oTb e 1]) =
    bif m_nns c && (m_nns e && true) then K [some (pX bx ox), some (RS bp op m 0), some (gwJ 0 k), some (I (Int.ofNat q)), some (I w), some (gwJ 1 h), some (I (Int.ofNat i)), some (.slice none 0 0)] [] [some (.cells c 3 0 1), some (.cells e 52 1 1)] else .fail 420 := by kernel_rfl
theorem jmEe (r : Mem) (bx ox bp op m : Nat) (k : Nat) (c : List Value) (q : Nat) (w : Int) (h : Nat) (e : List Value) (i : Nat) (fs : FnsC) (K : OV → List Nat → OO → CR) (kx : Nat → KS) (kr : KS) : run (SC r) mJl 162 1 Jl_19 fs none (rbK 0 [4, 7, 8, 9, 10, 13, 14, 15, 16] [.g, .g] K) kx kr [] (bT [4, 7, 8, 9, 10, 13, 14, 15] [some (pX bx ox), some (RS bp op m 0), some (.slice (some ⟨0, 0, none⟩) k unk), some (I (q : Nat)), some (I w), some (.slice (some ⟨1, 0, none⟩) h unk), some (I (i : Nat)), some (nilT)] .nil) [] (mkA [oJi c 0, oTb e 1]) =
    bif m_nns c && (m_nns e && true) then K [some (pX bx ox), some (RS bp op m 0), some (gwJ 0 k), some (I (Int.ofNat q)), some (I w), some (gwJ 1 h), some (I (Int.ofNat i)), some (.slice none 0 0), some (I (Int.ofNat 0))] [] [some (.cells c 3 0 1), some (.cells e 52 1 1)] else .fail 420 := by kernel_rfl
theorem jmFen (r : Mem) (bx ox bp op m : Nat) (k : Nat) (c : List Value) (q : Nat) (w : Int) (h : Nat) (e : List Value) (i y : Nat) (fs : FnsC) (K : OV → List Nat → OO → CR) (KX : Nat → OV → List Nat → OO → CR) (kr : KS) : run (SC r) mJl 162 1 Jl_20 fs none (rbK 0 [4, 7, 8, 9, 10, 13, 14, 15, 16] [.g, .g, .g] K) (fun j => rbK 0 [4, 7, 8, 9, 10, 13, 14, 15] [.g, .g] (KX j)) kr [] (bT [4, 7, 8, 9, 10, 13, 14, 15, 16] [some (pX bx ox), some (RS bp op m 0), some (.slice (some ⟨0, 0, none⟩) k unk), some (I (q : Nat)), some (I w), some (.slice (some ⟨1, 0, none⟩) h unk), some (I (i : Nat)), some (nilT), some (I (y : Nat))] .nil) [] (mkA [oJi c 0, oTb e 1]) =
    bif decide (Int.ofNat y < Int.ofNat k) then bif Nat.blt (Int.toNat (Int.ofNat y)) k then Option.casesOn c[Nat.add 0 (Nat.mul (Int.toNat (Int.ofNat y)) 1)]? (.fail 423) fun val => bif isI IntKind.i64 val then bif Nat.blt (Int.toNat (Int.ofNat i)) k then Option.casesOn c[Nat.add 0 (Nat.mul (Int.toNat (Int.ofNat i)) 1)]? (.fail 423) fun val_1 => bif isI IntKind.i64 val_1 then bif decide (ofI val > IntKind.wrap .i64 (ofI val_1 + w)) then Option.casesOn c[Nat.add 0 (Nat.mul (Int.toNat (Int.ofNat i)) 1)]? (.fail 423) fun val_2 => bif isI IntKind.i64 val_2 then bif m_eqv (I (ofI val_2)) (I (ofI val_1)) then Option.casesOn c[Nat.add 0 (Nat.mul (Int.toNat (Int.ofNat y)) 1)]? (.fail 423) fun val_3 => bif isI IntKind.i64 val_3 then bif m_eqv (I (ofI val_3)) (I (ofI val)) then bif m_nns c && (m_nns e && (m_nns [.bool true] && true)) then K [some (pX bx ox), some (RS bp op m 0), some (gwJ 0 k), some (I (Int.ofNat q)), some (I w), some (gwJ 1 h), some (I (Int.ofNat i)), some (gwJ 2 1), some (I (IntKind.wrap .i64 (Int.ofNat y + Int.ofNat 1)))] [] [some (.cells c 3 0 1), some (.cells e 52 1 1), some (.cells [.bool true] 4 2 1)] else .fail 420 else .fail 420 else .fail 420 else .fail 420 else .fail 420 else Option.casesOn c[Nat.add 0 (Nat.mul (Int.toNat (Int.ofNat i)) 1)]? (.fail 423) fun val_2 => bif isI IntKind.i64 val_2 then bif m_eqv (I (ofI val_2)) (I (ofI val_1)) then Option.casesOn c[Nat.add 0 (Nat.mul (Int.toNat (Int.ofNat y)) 1)]? (.fail 423) fun val_3 => bif isI IntKind.i64 val_3 then bif m_eqv (I (ofI val_3)) (I (ofI val)) then bif m_nns c && (m_nns e && (m_nns [.bool false] && true)) then K [some (pX bx ox), some (RS bp op m 0), some (gwJ 0 k), some (I (Int.ofNat q)), some (I w), some (gwJ 1 h), some (I (Int.ofNat i)), some (gwJ 2 1), some (I (IntKind.wrap .i64 (Int.ofNat y + Int.ofNat 1)))] [] [some (.cells c 3 0 1), some (.cells e 52 1 1), some (.cells [.bool false] 4 2 1)] else .fail 420 else .fail 420 else .fail 420 else .fail 420 else .fail 420 else .fail 420 else .fail 420 else .fail 420 else .fail 420 else bif m_nns c && (m_nns e && true) then KX 8 [some (pX bx ox), some (RS bp op m 0), some (gwJ 0 k), some (I (Int.ofNat q)), some (I w), some (gwJ 1 h), some (I (Int.ofNat i)), some (.slice none 0 0)] [] [some (.cells c 3 0 1), some (.cells e 52 1 1)] else .fail 420 := by kernel_rfl
theorem jmFed (r : Mem) (bx ox bp op m : Nat) (k : Nat) (c : List Value) (q : Nat) (w : Int) (h : Nat) (e : List Value) (d : List Value) (i y : Nat) (fs : FnsC) (K : OV → List Nat → OO → CR) (KX : Nat → OV → List Nat → OO → CR) (kr : KS) : run (SC r) mJl 162 1 Jl_20 fs none (rbK 0 [4, 7, 8, 9, 10, 13, 14, 15, 16] [.g, .g, .g] K) (fun j => rbK 0 [4, 7, 8, 9, 10, 13, 14, 15] [.g, .g, .g] (KX j)) kr [] (bT [4, 7, 8, 9, 10, 13, 14, 15, 16] [some (pX bx ox), some (RS bp op m 0), some (.slice (some ⟨0, 0, none⟩) k unk), some (I (q : Nat)), some (I w), some (.slice (some ⟨1, 0, none⟩) h unk), some (I (i : Nat)), some (.slice (some ⟨2, 0, none⟩) y unk), some (I (y : Nat))] .nil) [] (mkA [oJi c 0, oTb e 1, oBo d 2]) =
    bif decide (Int.ofNat y < Int.ofNat k) then bif Nat.blt (Int.toNat (Int.ofNat y)) k then Option.casesOn c[Nat.add 0 (Nat.mul (Int.toNat (Int.ofNat y)) 1)]? (.fail 423) fun val => bif isI IntKind.i64 val then bif Nat.blt (Int.toNat (Int.ofNat i)) k then Option.casesOn c[Nat.add 0 (Nat.mul (Int.toNat (Int.ofNat i)) 1)]? (.fail 423) fun val_1 => bif isI IntKind.i64 val_1 then bif decide (ofI val > IntKind.wrap .i64 (ofI val_1 + w)) then bif Nat.ble (Nat.add y 1) 1000000 then Option.casesOn (takeAt d 0 (Nat.mul y 1)) (.fail 439) fun val_2 => Option.casesOn c[Nat.add 0 (Nat.mul (Int.toNat (Int.ofNat i)) 1)]? (.fail 423) fun val_3 => bif isI IntKind.i64 val_3 then bif m_eqv (I (ofI val_3)) (I (ofI val_1)) then Option.casesOn c[Nat.add 0 (Nat.mul (Int.toNat (Int.ofNat y)) 1)]? (.fail 423) fun val_4 => bif isI IntKind.i64 val_4 then bif m_eqv (I (ofI val_4)) (I (ofI val)) then bif m_nns c && (m_nns e && (m_nns (val_2 ++ [.bool true]) && true)) then K [some (pX bx ox), some (RS bp op m 0), some (gwJ 0 k), some (I (Int.ofNat q)), some (I w), some (gwJ 1 h), some (I (Int.ofNat i)), some (.slice (some ⟨2, 0, none⟩) (Nat.add y 1) unk), some (I (IntKind.wrap .i64 (Int.ofNat y + Int.ofNat 1)))] [] [some (.cells c 3 0 1), some (.cells e 52 1 1), some (.cells (val_2 ++ [.bool true]) 4 2 1)] else .fail 420 else .fail 420 else .fail 420 else .fail 420 else .fail 420 else .fail 420 else bif Nat.ble (Nat.add y 1) 1000000 then Option.casesOn (takeAt d 0 (Nat.mul y 1)) (.fail 439) fun val_2 => Option.casesOn c[Nat.add 0 (Nat.mul (Int.toNat (Int.ofNat i)) 1)]? (.fail 423) fun val_3 => bif isI IntKind.i64 val_3 then bif m_eqv (I (ofI val_3)) (I (ofI val_1)) then Option.casesOn c[Nat.add 0 (Nat.mul (Int.toNat (Int.ofNat y)) 1)]? (.fail 423) fun val_4 => bif isI IntKind.i64 val_4 then bif m_eqv (I (ofI val_4)) (I (ofI val)) then bif m_nns c && (m_nns e && (m_nns (val_2 ++ [.bool false]) && true)) then K [some (pX bx ox), some (RS bp op m 0), some (gwJ 0 k), some (I (Int.ofNat q)), some (I w), some (gwJ 1 h), some (I (Int.ofNat i)), some (.slice (some ⟨2, 0, none⟩) (Nat.add y 1) unk), some (I (IntKind.wrap .i64 (Int.ofNat y + Int.ofNat 1)))] [] [some (.cells c 3 0 1), some (.cells e 52 1 1), some (.cells (val_2 ++ [.bool false]) 4 2 1)] else .fail 420 else .fail 420 else .fail 420 else .fail 420 else .fail 420 else .fail 420 else .fail 420 else .fail 420 else .fail 420 else .fail 420 else bif m_nns c && (m_nns e && (m_nns d && true)) then KX 8 [some (pX bx ox), some (RS bp op m 0), some (gwJ 0 k), some (I (Int.ofNat q)), some (I w), some (gwJ 1 h), some (I (Int.ofNat i)), some (gwJ 2 y)] [] [some (.cells c 3 0 1), some (.cells e 52 1 1), some (.cells d 4 2 1)] else .fail 420 := by kernel_rfl
theorem jmGe (r : Mem) (bx ox bp op m : Nat) (k : Nat) (c : List Value) (q : Nat) (w : Int) (h : Nat) (e : List Value) (d : List Value) (i y : Nat) (fs : FnsC) (K : OV → List Nat → OO → CR) (kx : Nat → KS) (kr : KS) : run (SC r) mJl 162 1 Jl_21 fs none (rbK 0 [4, 7, 8, 9, 10, 13, 14] [.g, .q [2], .g] K) kx kr [] (bT [4, 7, 8, 9, 10, 13, 14, 15] [some (pX bx ox), some (RS bp op m 0), some (.slice (some ⟨0, 0, none⟩) k unk), some (I (q : Nat)), some (I w), some (.slice (some ⟨1, 0, none⟩) h unk), some (I (i : Nat)), some (.slice (some ⟨2, 0, none⟩) y unk)] .nil) [] (mkA [oJi c 0, oTb e 1, oBo d 2]) =
    bif Nat.ble (Nat.add h 1) 1000000 then Option.casesOn (takeAt e 0 (Nat.mul h 1)) (.fail 439) fun val => bif m_nns c && (m_nopo (m_mvq [0, 4, 2] (val ++ [gwJ 2 y])) && (m_nns d && true)) then K [some (pX bx ox), some (RS bp op m 0), some (gwJ 0 k), some (I (Int.ofNat q)), some (I w), some (.slice (some ⟨1, 0, none⟩) (Nat.add h 1) unk), some (I (Int.ofNat i))] [] [some (.cells c 3 0 1), some (.cells (m_mvq [0, 4, 2] (val ++ [gwJ 2 y])) 52 1 1), some (.cells d 4 2 1)] else .fail 420 else .fail 420 := by kernel_rfl
theorem jmH (r : Mem) (bx ox bp op m : Nat) (k : Nat) (c : List Value) (q : Nat) (w : Int) (h : Nat) (e : List Value) (i : Nat) (fs : FnsC) (K : OV → List Nat → OO → CR) (kx : Nat → KS) (kr : KS) : run (SC r) mJl 162 1 Jl_22 fs none (rbK 0 [4, 7, 8, 9, 10, 13, 14] [.g, .g] K) kx kr [] (bT [4, 7, 8, 9, 10, 13, 14] [some (pX bx ox), some (RS bp op m 0), some (.slice (some ⟨0, 0, none⟩) k unk), some (I (q : Nat)), some (I w), some (.slice (some ⟨1, 0, none⟩) h unk), some (I (i : Nat))] .nil) [] (mkA [oJi c 0, oTb e 1]) =
    bif m_nns c && (m_nns e && true) then K [some (pX bx ox), some (RS bp op m 0), some (gwJ 0 k), some (I (Int.ofNat q)), some (I w), some (gwJ 1 h), some (I (IntKind.wrap .i64 (Int.ofNat i + Int.ofNat 1)))] [] [some (.cells c 3 0 1), some (.cells e 52 1 1)] else .fail 420 := by kernel_rfl
theorem jmI (r : Mem) (bx ox bp op m : Nat) (k : Nat) (c : List Value) (q : Nat) (w : Int) (bq oq : Nat) (T : List (List Bool)) (K : OV → List Nat → OO → CR) (kx : Nat → KS) (KR : OV → List Nat → OO → CR) : run (SC r) mJl 162 1 Jl_23 (lvlT (SC r) (tJ23 (RS bq oq k 0) T k c) .nil 1 1) none (rbK 0 [4, 7, 8, 9, 10] [.g] K) kx (rbK 0 [6] [] KR) [] (bT [4, 7, 8, 9, 10, 13] [some (pX bx ox), some (RS bp op m 0), some (.slice (some ⟨0, 0, none⟩) k unk), some (I (q : Nat)), some (I w), some (RS bq oq k 0)] .nil) [] (mkA [oJi c 0]) =
    bif m_rg (.slice (some ⟨bq, oq, some 0⟩) k 0) k c (.slice (some ⟨bq, oq, some 0⟩) k 0) k unk c then bif m_rv T k c w then bif m_rg (.slice (some ⟨bq, oq, some 0⟩) k 0) k c (.slice (some ⟨bq, oq, some 0⟩) k 0) k unk c then bif m_rv T k c (IntKind.wrap .i64 (w + Int.ofNat 1)) then bif m_rg (.slice (some ⟨bq, oq, some 0⟩) k 0) k c (.slice (some ⟨bq, oq, some 0⟩) k 0) k unk c then bif m_rv T k c (IntKind.wrap .i64 (w + Int.ofNat 1)) then bif m_nns c && true then K [some (pX bx ox), some (RS bp op m 0), some (gwJ 0 k), some (I (Int.ofNat q)), some (I w)] [] [some (.cells c 3 0 1)] else .fail 420 else KR [some (.bool false)] [] [] else .fail 420 else bif m_rg (.slice (some ⟨bq, oq, some 0⟩) k 0) k c (.slice (some ⟨bq, oq, some 0⟩) k 0) k unk c then bif m_rv T k c (IntKind.wrap .i64 (w + Int.ofNat 1)) then KR [some (.bool false)] [] [] else bif m_nns c && true then K [some (pX bx ox), some (RS bp op m 0), some (gwJ 0 k), some (I (Int.ofNat q)), some (I w)] [] [some (.cells c 3 0 1)] else .fail 420 else .fail 420 else .fail 420 else KR [some (.bool false)] [] [] else .fail 420 := by kernel_rfl
end Go.Proofs
namespace Go.Proofs
open Go Go.Ev Go.Num
def pM (z : Nat → Int) (w : Int) (i j : Nat) : Bool := decide (z j > z i + w)
theorem pM_ck {z : Nat → Int} {w : Int} {n : Nat} (h1 : 1 ≤ n) (hn : n ≤ 12) (hw : 0 ≤ w) : ckO (tbM (pM z w) n) = true := by
 unfold ckO
 have hl := tbM_len (pM z w) n
 rw [hl, decide_eq_true ⟨h1, hn⟩, Bool.true_and, Bool.and_eq_true]
 constructor
 ·have hlen : ∀ m, m ≤ n → lenO (tbM (pM z w) n) m = true := fun m => by
   induction m with
   | zero => exact fun _ => rfl
   | succ m ih =>
    intro hm
    rw [lenO, ih (by omega), tbM_rl (show m < n by omega), hl]
    simp
  exact lenI_all.2 ⟨hlen n (Nat.le_refl _), fun i hi => by
   rw [tbM_at hi hi]
   unfold pM
   exact dF (by omega)⟩
 ·refine trI_all.2 fun i hi => trJ_all.2 fun k hk => trK_all.2 fun m hm => ?_
  rw [hl] at hk hm
  unfold badO
  rw [tbM_at hi hk, tbM_at hk hm, tbM_at hi hm]
  unfold pM
  by_cases q1 : z k > z i + w
  ·by_cases q2 : z m > z k + w
   ·rw [dT q1, dT q2, dT (show z m > z i + w by omega)]; rfl
   ·rw [dT q1, dF q2]; rfl
  ·rw [dF q1]; rfl
theorem wrUJ {v : Int} (h : 0 ≤ v ∧ v < 1000) : IntKind.wrap .u64 v = v := by
 have : IntKind.wrap .u64 v = v % 18446744073709551616 := by simp [IntKind.wrap, IntKind.bits, IntKind.signed]
 rw [this]; omega
theorem pM_rep {z : Nat → Int} {w : Int} {k : Nat} (hz : ∀ i, i < k → 0 ≤ z i ∧ z i < 30) (hw : 0 ≤ w ∧ w < 20) : RepP (tbM (pM z w) k) k z w := by
 refine ⟨(tbM_len _ _).symm, hw.1, fun x y hx hy => ?_⟩
 rw [tbM_at hx hy]
 unfold pM m_far
 have h1 := hz x hx
 have h2 := hz y hy
 rw [wrUJ (v := z y) (by omega), wrUJ (v := z x) (by omega), wrUJ (v := w) (by omega)]
 by_cases c : z y > z x
 ·rw [wrUJ (v := z y - z x) (by omega), dT c, Bool.true_and, decide_eq_decide]
  omega
 ·rw [dF c, Bool.false_and, dF (by omega)]
theorem tab_gJ {b j : Nat} {u : Value} (h : tabM b j = some u) : gnd u = true := by
 have hu : ∀ (l : List Nat) (j : Nat), memL (u8s l) j = some u → gnd u = true := fun l j h => by
  unfold memL u8s at h
  rw [List.getElem?_map] at h
  cases hl : l[j]? with
  | none => rw [hl] at h; cases h
  | some n => rw [hl] at h; cases h; rfl
 unfold tabM at h
 dsimp only at h
 split at h
 ·exact hu _ _ h
 ·cases h
theorem memW_tabJ {r : Mem} (hm : ∀ b j u, tabM b j = some u → r b j = some u) {γ : Gam} {W : World} (hR : Ro r γ W) : ∀ b j u, tabM b j = some u → memW W b j = some u := fun b j u h => by
 obtain ⟨_, cc, e, fr, u', hb, hu, hrel⟩ := hR.rd _ _ _ (hm _ _ _ h)
 have hg := tab_gJ h
 have e1 := (hrel γ).eq_of_gnd hg
 subst e1
 simp only [memW, hb, hu]
 exact mark_gnd hg
theorem memW_tabMJ {r : Mem} {γ : Gam} {W : World} (hR : Ro r γ W) {b o : Nat} {T : List (List Bool)} (hrl : ∀ (i : Nat) (l : List Bool), T[i]? = some l → l ≠ []) (h : TabM r b o T) : TabM (memW W) b o T := fun i l hl => by
 obtain ⟨v, h1, h2⟩ := h i l hl
 obtain ⟨_, cc, e, fr, v', hb, hk, hrel⟩ := hR.rd _ _ _ h1
 obtain ⟨u, h3, h4⟩ := memW_row hR h2 (hrel γ)
 exact ⟨u, by simp only [memW, hb, hk]; exact h3, h4⟩
noncomputable def tRpN (p : Value) (m : Nat) (w a : Nat → Nat) (wd : Int) : Tbl := tcons 31 (eRd p m w a) fun _ => none
theorem jyR (r : Mem) (b off n cap : Nat) (wd : Int) : (lvlT (SC r) (fun _ => none) .nil 2 3).call 22 [RS b off n cap, nilT, I wd] emptyA fin =
    bif Int.ofNat 0 != Int.ofNat n then .ret (.bool false) (AW.mk 0 .nil .nil) else bif decide (wd < 0) then .ret (.bool false) (AW.mk 0 .nil .nil) else bif decide (0 < Int.ofNat n) then bif decide (0 < Int.ofNat n) then bif Nat.blt 0 n then Option.casesOn (r b (Nat.add off 0)) (.fail 423) fun val => bif isNilS val then .fail 31 else bif isRoS val then bif Nat.blt 0 (lnOf val) then Option.casesOn (r (blkOf val) (Nat.add (offOf val) 0)) (.fail 423) fun val => bif isB val then bif ofB val then .fail 31 else .fail 31 else .fail 420 else .fail 420 else bif isES val then .fail 420 else bif isOwnS val then bif Nat.blt 0 (lnOf val) then .fail 423 else .fail 420 else .fail 424 else .fail 420 else bif decide (1 < Int.ofNat n) then bif decide (0 < Int.ofNat n) then bif Nat.blt 1 n then Option.casesOn (r b (Nat.add off 1)) (.fail 423) fun val => bif isNilS val then .fail 31 else bif isRoS val then bif Nat.blt 0 (lnOf val) then Option.casesOn (r (blkOf val) (Nat.add (offOf val) 0)) (.fail 423) fun val => bif isB val then bif ofB val then .fail 31 else .fail 31 else .fail 420 else .fail 420 else bif isES val then .fail 420 else bif isOwnS val then bif Nat.blt 0 (lnOf val) then .fail 423 else .fail 420 else .fail 424 else .fail 420 else .fail 230 else .ret (.bool true) (AW.mk 0 .nil .nil) else .ret (.bool true) (AW.mk 0 .nil .nil) := by kernel_rfl
theorem jyS (r : Mem) (b off n cap m : Nat) (w a : Nat → Nat) (wd : Int) : (lvlT (SC r) (tRpN (RS b off n cap) m w a wd) .nil 2 3).call 27 [RS b off n cap, nilT, I wd] emptyA fin =
    bif m_svv [.slice (some ⟨b, off, some 0⟩) n cap] [.slice (some ⟨b, off, some 0⟩) n cap] then bif Int.ofNat 0 != Int.ofNat m then .ret (.bool false) (AW.mk 0 .nil .nil) else bif decide (wd < 0) then .ret (.bool false) (AW.mk 0 .nil .nil) else .ret (.bool true) (AW.mk 0 .nil .nil) else .fail 420 := by kernel_rfl
section
variable {r : Mem} {bp op m k : Nat} {T : List (List Bool)} {c : List Value} {z : Nat → Int}
theorem eRw_ok {f : Nat} (hf : ∀ (r : Mem) (b' o' : Nat) (w : Int), (∀ b j u, tabM b j = some u → r b j = some u) → TabM r bp op T → rowAt r b' o' k z → GrT Tryz.prog r f [RS bp op m 0, RS b' o' k 0, I w] (.bool (repB T k z w))) (hmt : ∀ b j u, tabM b j = some u → r b j = some u) (hM : TabM r bp op T) (hrl : ∀ (i : Nat) (l : List Bool), T[i]? = some l → l ≠ []) (hc : ∀ j, j < k → c[j]? = some (I (z j))) : EOk (SC r) f (eRw (RS bp op m 0) T k c) := EOk.ent fun args A hgd => by
 have hrv : ∀ w, m_rv T k c w = repB T k z w := fun w => by
  unfold m_rv
  have e : ∀ j, j < k → ofI (c.getD j undef) = z j := fun j hj => by
   rw [List.getD_eq_getElem?_getD, hc j hj]; rfl
  have this : RepP T k (fun j => ofI (c.getD j undef)) w ↔ RepP T k z w := by
   constructor
   ·rintro ⟨a1, a2, a3⟩
    refine ⟨a1, a2, fun x y hx hy => ?_⟩
    have h3 : gT T x y = m_far (ofI (c.getD x undef)) (ofI (c.getD y undef)) w := a3 x y hx hy
    rwa [e x hx, e y hy] at h3
   ·rintro ⟨a1, a2, a3⟩
    exact ⟨a1, a2, fun x y hx hy => by
     have := a3 x y hx hy
     show gT T x y = m_far (ofI (c.getD x undef)) (ofI (c.getD y undef)) w
     rw [e x hx, e y hy]; exact this⟩
  by_cases q : RepP T k z w
  ·rw [rep_t q]; exact rep_t (this.2 q)
  ·rw [rep_f q]; exact rep_f fun h => q (this.1 h)
 split at hgd
 ·rename_i p j l zc w
  split at hgd
  ·rename_i ci e1 f1 z1 hget
   obtain ⟨rfl, rfl, hcap, rfl⟩ := @of_decide_eq_true _ (Classical.propDecidable _) hgd
   refine POk.of rfl fun γ W args' hw hR ha => ?_
   obtain ⟨la⟩ := args'
   cases ha with
   | cons hv hrest =>
   cases hrest with
   | cons hv2 hrest =>
   obtain ⟨b', k', q1, q2⟩ := own_row hw hR (natFx hcap) hget hv2
   refine ⟨memW W, [RS bp op m 0, RS b' k' l 0, I w], memW_ro W, .cons (VRel.of_nn hv rfl) (.cons q1 (hrest.of_ros rfl)), ?_⟩
   show GrT _ _ _ _ (.bool (m_rv T l ci w))
   rw [hrv]
   exact hf (memW W) b' k' w (memW_tabJ hmt hR) (memW_tabMJ hR hrl hM) fun j hj => q2 j _ (hc j hj) rfl
  ·cases hgd
 ·cases hgd
end
section
variable {r : Mem} {b off n cap : Nat} {T : List (List Bool)} {wd : Int}
theorem rr_nil (h1 : 1 ≤ n) : GrT Tryz.prog r 22 [RS b off n cap, nilT, I wd] (.bool false) := by
 refine GrT.of (SC_ok r) TOk.nil .nil rfl ⟨2, 3, ?_⟩
 have hn' := jyR r b off n cap wd
 have q1 : (Int.ofNat 0 != Int.ofNat n) = true := neT (by simp; omega)
 simp only [q1, cond_true] at hn'
 exact hn'.trans rfl
theorem ck_ne (hc : ckO T = true) : ∀ (i : Nat) (l : List Bool), T[i]? = some l → l ≠ [] := fun i l hl => by
 have hi : i < T.length := (List.getElem?_eq_some_iff.1 hl).1
 have h := (ck_row hc hi).1
 rw [List.getD_eq_getElem?_getD, hl] at h
 intro e
 rw [e] at h
 simp at h
 omega
theorem eRd_ok (hmt : ∀ b j u, tabM b j = some u → r b j = some u) (hM : TabM r b off T) (hc : ckO T = true) : EOk (SC r) 31 (eRd (RS b off T.length cap) T.length (wB T T.length 0) (wA T T.length 0)) := EOk.ent fun args A hgd => by
 have hs := @of_decide_eq_true _ (Classical.propDecidable _) hgd
 subst hs
 have h := ro_ok (cap := cap) hmt hM rfl (by have := (ck_len hc).2; omega)
 unfold roC at h
 rw [hc, if_pos rfl, if_pos rfl] at h
 exact h.ro rfl A
theorem sr_nil (hmt : ∀ b j u, tabM b j = some u → r b j = some u) (hM : TabM r b off T) (hn : T.length = n) (hc : ckO T = true) : GrT Tryz.prog r 27 [RS b off n cap, nilT, I wd] (.bool false) := by
 subst hn
 refine GrT.of (SC_ok r) (t := tRpN (RS b off T.length cap) T.length (wB T T.length 0) (wA T T.length 0) wd) (TOk.nil.cons (eRd_ok hmt hM hc)) .nil rfl ⟨2, 3, ?_⟩
 have hn' := jyS r b off T.length cap T.length (wB T T.length 0) (wA T T.length 0) wd
 have q1 : (Int.ofNat 0 != Int.ofNat T.length) = true := neT (by have := (ck_len hc).1; simp; omega)
 simp only [svv_rfl, q1, cond_true] at hn'
 exact hn'.trans rfl
end
section
variable {r : Mem} {bp op m k : Nat} {T : List (List Bool)} {c : List Value} {z : Nat → Int} (hmt : ∀ b j u, tabM b j = some u → r b j = some u) (hM : TabM r bp op T) (hTl : T.length = m) (hck : ckO T = true)
include hmt hM hTl hck
theorem tTT_ok (x : Nat → Int) : TOk (SC r) (tTT (RS bp op m 0) x (twB T x) (thB T x)) := (((TOk.nil.cons (eV_ok rfl (rf_th hM hTl hck x))).cons (eV_ok rfl (sh_th hmt hM hTl hck x))).cons (eV_ok rfl (rf_tw hM hTl hck x))).cons (eV_ok rfl (sh_tw hmt hM hTl hck x))
theorem tJ7n_ok (x : Nat → Int) (w : Int) : TOk (SC r) (tJ7n (RS bp op m 0) T x (twB T x) (thB T x) w) := ((tTT_ok hmt hM hTl hck x).cons (eV_ok rfl (rr_nil (by have := (ck_len hck).1; omega)))).cons (eV_ok rfl (sr_nil hmt hM hTl hck))
theorem eRr_ok (hc : ∀ j, j < k → c[j]? = some (I (z j))) : EOk (SC r) 22 (eRw (RS bp op m 0) T k c) := eRw_ok (z := z) (fun r b' o' w h1 h2 h3 => rr_ok h2 hTl hck h3) hmt hM (ck_ne hck) hc
theorem eRs_ok (hc : ∀ j, j < k → c[j]? = some (I (z j))) : EOk (SC r) 27 (eRw (RS bp op m 0) T k c) := eRw_ok (z := z) (fun r b' o' w h1 h2 h3 => sr_ok h1 h2 hTl hck h3) hmt hM (ck_ne hck) hc
theorem tJ7o_ok (hc : ∀ j, j < k → c[j]? = some (I (z j))) (x : Nat → Int) : TOk (SC r) (tJ7o (RS bp op m 0) T x (twB T x) (thB T x) k c) := ((tTT_ok hmt hM hTl hck x).cons (eRr_ok hmt hM hTl hck hc)).cons (eRs_ok hmt hM hTl hck hc)
theorem tJ23_ok (hc : ∀ j, j < k → c[j]? = some (I (z j))) : TOk (SC r) (tJ23 (RS bp op m 0) T k c) := (TOk.nil.cons (eRr_ok hmt hM hTl hck hc)).cons (eRs_ok hmt hM hTl hck hc)
end
end Go.Proofs
namespace Go.Proofs
open Go Go.Ev Go.Num
def sJ9 (bx ox bp op m i : Nat) (a b c d e : Int) : List (Nat × Value) := [(80, pX bx (ox + i)), (79, I a), (78, .int .u64 b), (77, .int .u64 c), (76, I (m : Nat)), (75, RS bp op m 0), (74, .int .u64 d), (73, I e), (72, pX bx (ox + i)), (71, I (i : Nat)), (70, I (i : Nat))]
def lJ5 : List Nat := [4, 7, 8, 9, 10]
def lJ6 : List Nat := [4, 7, 8, 9, 10, 11]
def vJ5 (bx ox bp op m : Nat) (a : Value) (q : Nat) (w : Int) : OV := [some (pX bx ox), some (RS bp op m 0), some a, some (I (q : Nat)), some (I w)]
def vJ6 (bx ox bp op m : Nat) (a : Value) (q : Nat) (w : Int) (i : Nat) : OV := [some (pX bx ox), some (RS bp op m 0), some a, some (I (q : Nat)), some (I w), some (I (i : Nat))]
theorem jlMn (r : Mem) (bx ox bp op m : Nat) (q : Nat) (w : Int) (i : Nat) (a b c d e : Int) (fs : FnsC) (K : OV → List Nat → OO → CR) : tailK (SC r) mJl 162 J9_b 11 fs (rbK 0 lJ6 [] K) undef (sJ9 bx ox bp op m i a b c d e) (bT lJ6 (vJ6 bx ox bp op m nilT q w i) .nil) [] (mkA []) =
    K [some (.pointer (some ⟨bx, ox, some 0⟩)), some (.slice (some ⟨bp, op, some 0⟩) m 0), some (.slice none 0 0), some (I (Int.ofNat q)), some (I w), some (I (Int.ofNat i))] [] [] := by kernel_rfl
theorem jlMo (r : Mem) (bx ox bp op m : Nat) (k : Nat) (cc : List Value) (q : Nat) (w : Int) (i : Nat) (a b c d e : Int) (fs : FnsC) (K : OV → List Nat → OO → CR) : tailK (SC r) mJl 162 J9_b 11 fs (rbK 0 lJ6 [.g] K) undef (sJ9 bx ox bp op m i a b c d e) (bT lJ6 (vJ6 bx ox bp op m (gwJ 0 k) q w i) .nil) [] (mkA [oJi cc 0]) =
    bif m_nns cc && true then K [some (.pointer (some ⟨bx, ox, some 0⟩)), some (.slice (some ⟨bp, op, some 0⟩) m 0), some (.slice (some ⟨0, 0, none⟩) k unk), some (I (Int.ofNat q)), some (I w), some (I (Int.ofNat i))] [] [some (.cells cc 3 0 1)] else .fail 420 := by kernel_rfl
structure JI (γ : Gam) (W : World) (r : Mem) (bx ox bp op : Nat) (T : List (List Bool)) : Prop where
 hmt : ∀ b j u, tabM b j = some u → r b j = some u
 htn : ∀ k, tabM bx k = none
 own : r.own bx = true
 may : bx < W.heap.size → ∃ i g, γ i = some g ∧ g.blk = bx
 num : ∃ x : Nat → Int, ∀ i, i < 4 → r bx (ox + i) = some (I (x i))
 tab : TabM r bp op T
theorem JI.le {γ : Gam} {W : World} {r r' : Mem} {bx ox bp op : Nat} {T : List (List Bool)} (h : JI γ W r bx ox bp op T) (hle : Mem.le r r') : JI γ W r' bx ox bp op T := by
 obtain ⟨x, hx⟩ := h.num
 refine ⟨fun b j u e => hle.sub _ _ _ (h.hmt b j u e), h.htn, hle.own _ h.own, h.may, ⟨x, fun i hi => hle.sub _ _ _ (hx i hi)⟩, fun i l hl => ?_⟩
 obtain ⟨v, h1, h2⟩ := h.tab i l hl
 exact ⟨v, hle.sub _ _ _ h1, h2.mono hle⟩
theorem JI.set {γ : Gam} {W : World} {r : Mem} {bx ox bp op : Nat} {T : List (List Bool)} (h : JI γ W r bx ox bp op T) {i : Nat} (hi : i < 4) (v : Int) : JI γ W (r.upd bx (ox + i) (I v)) bx ox bp op T := by
 obtain ⟨x, hx⟩ := h.num
 have keep : ∀ b k u, r b k = some u → u ≠ I (x i) → r.upd bx (ox + i) (I v) b k = some u := fun b k u hu hne => by
  by_cases e : b = bx ∧ k = ox + i
  ·obtain ⟨rfl, rfl⟩ := e
   rw [hx i hi] at hu
   cases hu
   exact absurd rfl hne
  ·rw [Mem.upd_other _ _ (if d : b = bx then .inr fun e2 => e ⟨d, e2⟩ else .inl d)]
   exact hu
 refine ⟨fun b j u e => ?_, h.htn, h.own, h.may, ⟨fun k => if k = i then v else x k, fun k hk => ?_⟩, fun j l hl => ?_⟩
 ·rw [Mem.upd_other _ _ (.inl fun d => by subst d; rw [h.htn] at e; cases e)]
  exact h.hmt b j u e
 ·by_cases e : k = i
  ·subst e
   rw [Mem.upd_same]
   simp
  ·rw [Mem.upd_other _ _ (.inr fun d => e (by omega))]
   simp only [if_neg e]
   exact hx k hk
 ·obtain ⟨u, h1, h2⟩ := h.tab j l hl
  have hne : u ≠ I (x i) := by
   rcases h2 with ⟨_, rfl⟩ | ⟨_, b, o, cap, rfl, _⟩
   ·exact fun e => by cases e
   ·exact fun e => by cases e
  refine ⟨u, keep _ _ _ h1 hne, ?_⟩
  rcases h2 with h2 | ⟨h3, b, o, cap, h4, h5⟩
  ·exact .inl h2
  ·exact .inr ⟨h3, b, o, cap, h4, fun j x' hj => keep _ _ _ (h5 j x' hj) fun e => by cases e⟩
section
variable {r : Mem} {bx ox bp op m q : Nat} {w : Int} {T : List (List Bool)} {F : Fence} {kk : Nat} {γ : Gam} {W : World}
theorem jx_n (hm1 : 1 ≤ m) (hm : m ≤ 14) (hF : Wide F) (hro : RoRel γ none F.round) (h0' : ∀ i, 0 ≤ i → γ i = none) (hJ : JI γ W r bx ox bp op T) {ox2 : Nat → OutsG} {orr : OutsG} :
  ReachG Tryz.prog mJl 162 F kk γ W (.seq Jl_8 (.block 2 (.loop Jl_9))) r (St.of lJ5 (vJ5 bx ox bp op m nilT q w) [] []) (CanG Tryz.prog mJl 162 γ W ⟨lJ5, fun r1 vs ms os => JI γ W r1 bx ox bp op T ∧ vs = vJ5 bx ox bp op m nilT q w ∧ ms = [] ∧ os = []⟩ ox2 orr) := by
 refine ReachG.seqC (o1 := ⟨lJ6, fun r1 vs ms os => r1 = r ∧ vs = vJ6 bx ox bp op m nilT q w 0 ∧ ms = [] ∧ os = []⟩) (ReachG.segR (SC_ok r) TOk.nil (tm := .nil) (L := 1) (L' := 1) (d := 1) (n0 := 0) hF hro h0' [] (on := ⟨lJ6, [], fun vs ms os => vs = vJ6 bx ox bp op m nilT q w 0 ∧ ms = [] ∧ os = []⟩) (ox := fun _ => Outs.no) (orr := Outs.no) (fun p hp => nomatch hp) ?_ (fun vs ms os h => IsG.here ⟨rfl, h⟩) (fun _ _ _ _ h => h.elim) (fun _ _ _ h => h.elim)) fun r1 vs ms os hq => ?_
 ·have hn' := jlJn r bx ox bp op m  q w
  skip
  exact (hn' _ _ _ _).trans (qq_ok ⟨rfl, rfl, rfl⟩)
 obtain ⟨rfl, rfl, rfl, rfl⟩ := hq
 refine ReachG.blockC (ReachG.loopC (j := 4) (lv := lJ6) (I := fun j r2 vs ms os => ∃ i : Nat, i ≤ 4 ∧ j = 4 - i ∧ JI γ W r2 bx ox bp op T ∧ vs = vJ6 bx ox bp op m nilT q w i ∧ ms = [] ∧ os = []) (fun j r2 vs ms os hI => ?_) ⟨0, by omega, rfl, hJ, rfl, rfl, rfl⟩)
 obtain ⟨i, hi, rfl, hJ2, rfl, rfl, rfl⟩ := hI
 rw [J9_eq]
 refine ReachG.seqC (o1 := ⟨lJ6, fun r3 vs ms os => r3 = r2 ∧ i < 4 ∧ vs = vJ6 bx ox bp op m nilT q w i ∧ ms = [] ∧ os = []⟩) (ReachG.segR (SC_ok r2) TOk.nil (tm := .nil) (L := 1) (L' := 1) (d := 1) (n0 := 0) hF hro h0' [(2, ⟨lJ5, [], fun vs ms os => vs = vJ5 bx ox bp op m nilT q w ∧ ms = [] ∧ os = []⟩)] (on := ⟨lJ6, [], fun vs ms os => i < 4 ∧ vs = vJ6 bx ox bp op m nilT q w i ∧ ms = [] ∧ os = []⟩) (ox := fun j => if j = 2 then ⟨lJ5, [], fun vs ms os => vs = vJ5 bx ox bp op m nilT q w ∧ ms = [] ∧ os = []⟩ else Outs.no) (orr := Outs.no) (fun p hp => by simp only [List.mem_cons, List.not_mem_nil, or_false] at hp; subst hp; rfl) ?_ (fun vs ms os h => IsG.here ⟨rfl, h⟩) (fun id vs ms os h => ?_) (fun _ _ _ h => h.elim)) fun r3 vs ms os hq => ?_
 ·have hn' := jlKn r2 bx ox bp op m  q w i
  by_cases c : i < 4
  ·simp only [dT (show Int.ofNat i < 4 by simp; omega), cond_true] at hn'
   exact (hn' _ _ _ _).trans (qq_ok ⟨c, rfl, rfl, rfl⟩)
  ·simp only [dF (show ¬ Int.ofNat i < 4 by simp; omega), cond_false, cond_true] at hn'
   exact (hn' _ _ _ _).trans (qq_ok ⟨rfl, rfl, rfl⟩)
 ·by_cases e : id = 2
  ·subst e
   obtain ⟨rfl, rfl, rfl⟩ := h
   exact IsG.here ⟨hJ2, rfl, rfl, rfl⟩
  ·simp only [if_neg e] at h; exact h.elim
 obtain ⟨rfl, c, rfl, rfl, rfl⟩ := hq
 obtain ⟨x, hx⟩ := hJ2.num
 have b1 : Nat.blt i 4 = true := Nat.ble_eq_true_of_le c
 have wm : IntKind.wrap .u64 (Int.ofNat m) = (m : Int) := wrUJ ⟨by simp, by simp; omega⟩
 refine ReachG.seqC (o1 := ⟨lJ6, fun r4 vs ms os => JI γ W r4 bx ox bp op T ∧ vs = vJ6 bx ox bp op m nilT q w i ∧ ms = [] ∧ os = []⟩) (ReachG.blockC (ReachG.storeC (fl := []) SC_ok hF h0' TOk.nil (tm := .nil) (L := 1) (d := 1) 11 (s1 := sJ9 bx ox bp op m i (IntKind.wrap .i64 (Int.tmod (IntKind.wrap .u64 (x i)) m)) (Int.tmod (IntKind.wrap .u64 (x i)) m) m (IntKind.wrap .u64 (x i)) (x i)) (b1 := bT lJ6 (vJ6 bx ox bp op m nilT q w i) .nil) (ms1 := []) (A1 := mkA []) (bb := bx) (j := ox + i) (v := I (IntKind.wrap .i64 (Int.tmod (IntKind.wrap .u64 (x i)) m))) ?_ (by kernel_rfl) hJ2.own (hx i c) rfl rfl rfl hJ2.may ?_)) fun r4 vs ms os hq => ?_
 ·have hn' := jlLn r3 bx ox bp op m  q w i
  simp only [show ∀ x : Nat, Int.toNat (Int.ofNat x) = x from fun _ => rfl, b1, e0w, hx i c, isI_I, wm, dF (show ¬ (m : Int) = 0 by omega), Bool.not_false, cond_true] at hn'
  exact (hn' _ _).trans (qn_ok rfl)
 ·refine ⟨fun _ => none, TOk.nil, .nil, 1, 1, ?_⟩
  have hn' := jlMn (r3.upd bx (ox + i) (I (IntKind.wrap .i64 (Int.tmod (IntKind.wrap .u64 (x i)) m)))) bx ox bp op m  q w i (IntKind.wrap .i64 (Int.tmod (IntKind.wrap .u64 (x i)) m)) (Int.tmod (IntKind.wrap .u64 (x i)) m) m (IntKind.wrap .u64 (x i)) (x i)
  skip
  exact (hn' _ _).trans (qq_ok ⟨hJ2.set c _, rfl, rfl, rfl⟩)
 obtain ⟨hJ4, rfl, rfl, rfl⟩ := hq
 refine ReachG.segR (SC_ok r4) TOk.nil (tm := .nil) (L := 1) (L' := 1) (d := 1) (n0 := 0) hF hro h0' [] (on := ⟨lJ6, [], fun vs ms os => vs = vJ6 bx ox bp op m nilT q w (i + 1) ∧ ms = [] ∧ os = []⟩) (ox := fun _ => Outs.no) (orr := Outs.no) (fun p hp => nomatch hp) ?_ (fun vs ms os h => IsG.here ⟨4 - (i + 1), by omega, i + 1, c, rfl, hJ4, h⟩) (fun _ _ _ _ h => h.elim) (fun _ _ _ h => h.elim)
 have hn' := jlNn r4 bx ox bp op m  q w i
 simp only [Int.ofNat_eq_natCast] at hn'
 rw [w1w i (by omega)] at hn'
 exact (hn' _ _ _ _).trans (qq_ok ⟨rfl, rfl, rfl⟩)
theorem jx_o (hm1 : 1 ≤ m) (hm : m ≤ 14) {k : Nat} {cc : List Value} (hcc : m_nns cc = true) (hF : Wide F) (hro : RoRel γ none F.round) (h0' : ∀ i, 0 ≤ i → γ i = none) (hJ : JI γ W r bx ox bp op T) {ox2 : Nat → OutsG} {orr : OutsG} :
  ReachG Tryz.prog mJl 162 F kk γ W (.seq Jl_8 (.block 2 (.loop Jl_9))) r (St.of lJ5 (vJ5 bx ox bp op m (gwJ 0 k) q w) [] [oJi cc 0]) (CanG Tryz.prog mJl 162 γ W ⟨lJ5, fun r1 vs ms os => JI γ W r1 bx ox bp op T ∧ vs = vJ5 bx ox bp op m (gwJ 0 k) q w ∧ ms = [] ∧ os = [oJi cc 0]⟩ ox2 orr) := by
 refine ReachG.seqC (o1 := ⟨lJ6, fun r1 vs ms os => r1 = r ∧ vs = vJ6 bx ox bp op m (gwJ 0 k) q w 0 ∧ ms = [] ∧ os = [oJi cc 0]⟩) (ReachG.segR (SC_ok r) TOk.nil (tm := .nil) (L := 1) (L' := 1) (d := 1) (n0 := 0) hF hro h0' [] (on := ⟨lJ6, [.g], fun vs ms os => vs = vJ6 bx ox bp op m (gwJ 0 k) q w 0 ∧ ms = [] ∧ os = [oJi cc 0]⟩) (ox := fun _ => Outs.no) (orr := Outs.no) (fun p hp => nomatch hp) ?_ (fun vs ms os h => IsG.here ⟨rfl, h⟩) (fun _ _ _ _ h => h.elim) (fun _ _ _ h => h.elim)) fun r1 vs ms os hq => ?_
 ·have hn' := jlJo r bx ox bp op m k cc q w
  simp only [hcc, Bool.and_true, cond_true] at hn'
  exact (hn' _ _ _ _).trans (qq_ok ⟨rfl, rfl, rfl⟩)
 obtain ⟨rfl, rfl, rfl, rfl⟩ := hq
 refine ReachG.blockC (ReachG.loopC (j := 4) (lv := lJ6) (I := fun j r2 vs ms os => ∃ i : Nat, i ≤ 4 ∧ j = 4 - i ∧ JI γ W r2 bx ox bp op T ∧ vs = vJ6 bx ox bp op m (gwJ 0 k) q w i ∧ ms = [] ∧ os = [oJi cc 0]) (fun j r2 vs ms os hI => ?_) ⟨0, by omega, rfl, hJ, rfl, rfl, rfl⟩)
 obtain ⟨i, hi, rfl, hJ2, rfl, rfl, rfl⟩ := hI
 rw [J9_eq]
 refine ReachG.seqC (o1 := ⟨lJ6, fun r3 vs ms os => r3 = r2 ∧ i < 4 ∧ vs = vJ6 bx ox bp op m (gwJ 0 k) q w i ∧ ms = [] ∧ os = [oJi cc 0]⟩) (ReachG.segR (SC_ok r2) TOk.nil (tm := .nil) (L := 1) (L' := 1) (d := 1) (n0 := 0) hF hro h0' [(2, ⟨lJ5, [.g], fun vs ms os => vs = vJ5 bx ox bp op m (gwJ 0 k) q w ∧ ms = [] ∧ os = [oJi cc 0]⟩)] (on := ⟨lJ6, [.g], fun vs ms os => i < 4 ∧ vs = vJ6 bx ox bp op m (gwJ 0 k) q w i ∧ ms = [] ∧ os = [oJi cc 0]⟩) (ox := fun j => if j = 2 then ⟨lJ5, [.g], fun vs ms os => vs = vJ5 bx ox bp op m (gwJ 0 k) q w ∧ ms = [] ∧ os = [oJi cc 0]⟩ else Outs.no) (orr := Outs.no) (fun p hp => by simp only [List.mem_cons, List.not_mem_nil, or_false] at hp; subst hp; rfl) ?_ (fun vs ms os h => IsG.here ⟨rfl, h⟩) (fun id vs ms os h => ?_) (fun _ _ _ h => h.elim)) fun r3 vs ms os hq => ?_
 ·have hn' := jlKo r2 bx ox bp op m k cc q w i
  by_cases c : i < 4
  ·simp only [dT (show Int.ofNat i < 4 by simp; omega), cond_true, hcc, Bool.and_true] at hn'
   exact (hn' _ _ _ _).trans (qq_ok ⟨c, rfl, rfl, rfl⟩)
  ·simp only [dF (show ¬ Int.ofNat i < 4 by simp; omega), cond_false, cond_true, hcc, Bool.and_true] at hn'
   exact (hn' _ _ _ _).trans (qq_ok ⟨rfl, rfl, rfl⟩)
 ·by_cases e : id = 2
  ·subst e
   obtain ⟨rfl, rfl, rfl⟩ := h
   exact IsG.here ⟨hJ2, rfl, rfl, rfl⟩
  ·simp only [if_neg e] at h; exact h.elim
 obtain ⟨rfl, c, rfl, rfl, rfl⟩ := hq
 obtain ⟨x, hx⟩ := hJ2.num
 have b1 : Nat.blt i 4 = true := Nat.ble_eq_true_of_le c
 have wm : IntKind.wrap .u64 (Int.ofNat m) = (m : Int) := wrUJ ⟨by simp, by simp; omega⟩
 refine ReachG.seqC (o1 := ⟨lJ6, fun r4 vs ms os => JI γ W r4 bx ox bp op T ∧ vs = vJ6 bx ox bp op m (gwJ 0 k) q w i ∧ ms = [] ∧ os = [oJi cc 0]⟩) (ReachG.blockC (ReachG.storeC (fl := [.g]) SC_ok hF h0' TOk.nil (tm := .nil) (L := 1) (d := 1) 11 (s1 := sJ9 bx ox bp op m i (IntKind.wrap .i64 (Int.tmod (IntKind.wrap .u64 (x i)) m)) (Int.tmod (IntKind.wrap .u64 (x i)) m) m (IntKind.wrap .u64 (x i)) (x i)) (b1 := bT lJ6 (vJ6 bx ox bp op m (gwJ 0 k) q w i) .nil) (ms1 := []) (A1 := mkA [oJi cc 0]) (bb := bx) (j := ox + i) (v := I (IntKind.wrap .i64 (Int.tmod (IntKind.wrap .u64 (x i)) m))) ?_ (by kernel_rfl) hJ2.own (hx i c) rfl rfl rfl hJ2.may ?_)) fun r4 vs ms os hq => ?_
 ·have hn' := jlLo r3 bx ox bp op m k cc q w i
  simp only [show ∀ x : Nat, Int.toNat (Int.ofNat x) = x from fun _ => rfl, b1, e0w, hx i c, isI_I, wm, dF (show ¬ (m : Int) = 0 by omega), Bool.not_false, cond_true] at hn'
  exact (hn' _ _).trans (qn_ok rfl)
 ·refine ⟨fun _ => none, TOk.nil, .nil, 1, 1, ?_⟩
  have hn' := jlMo (r3.upd bx (ox + i) (I (IntKind.wrap .i64 (Int.tmod (IntKind.wrap .u64 (x i)) m)))) bx ox bp op m k cc q w i (IntKind.wrap .i64 (Int.tmod (IntKind.wrap .u64 (x i)) m)) (Int.tmod (IntKind.wrap .u64 (x i)) m) m (IntKind.wrap .u64 (x i)) (x i)
  simp only [hcc, Bool.and_true, cond_true] at hn'
  exact (hn' _ _).trans (qq_ok ⟨hJ2.set c _, rfl, rfl, rfl⟩)
 obtain ⟨hJ4, rfl, rfl, rfl⟩ := hq
 refine ReachG.segR (SC_ok r4) TOk.nil (tm := .nil) (L := 1) (L' := 1) (d := 1) (n0 := 0) hF hro h0' [] (on := ⟨lJ6, [.g], fun vs ms os => vs = vJ6 bx ox bp op m (gwJ 0 k) q w (i + 1) ∧ ms = [] ∧ os = [oJi cc 0]⟩) (ox := fun _ => Outs.no) (orr := Outs.no) (fun p hp => nomatch hp) ?_ (fun vs ms os h => IsG.here ⟨4 - (i + 1), by omega, i + 1, c, rfl, hJ4, h⟩) (fun _ _ _ _ h => h.elim) (fun _ _ _ h => h.elim)
 have hn' := jlNo r4 bx ox bp op m k cc q w i
 simp only [Int.ofNat_eq_natCast, hcc, Bool.and_true, cond_true] at hn'
 rw [w1w i (by omega)] at hn'
 exact (hn' _ _ _ _).trans (qq_ok ⟨rfl, rfl, rfl⟩)
end
end Go.Proofs
namespace Go.Proofs
open Go Go.Ev Go.Num
theorem mod_in (v : Int) {m : Nat} (h1 : 1 ≤ m) (hm : m ≤ 1000) : ∃ u : Int, IntKind.wrap .i64 (Int.tmod (IntKind.wrap .u64 v) (Int.ofNat m)) = u ∧ 0 ≤ u ∧ u < m := by
 have e : IntKind.wrap .u64 v = v % 18446744073709551616 := by simp [IntKind.wrap, IntKind.bits, IntKind.signed]
 have h0 : 0 ≤ v % 18446744073709551616 := Int.emod_nonneg _ (by decide)
 have e2 : Int.tmod (IntKind.wrap .u64 v) (Int.ofNat m) = (v % 18446744073709551616) % (m : Int) := by
  rw [e, Int.tmod_eq_emod_of_nonneg h0]; rfl
 have g1 : 0 ≤ (v % 18446744073709551616) % (m : Int) := Int.emod_nonneg _ (by omega)
 have g2 : (v % 18446744073709551616) % (m : Int) < m := Int.emod_lt_of_pos _ (by omega)
 refine ⟨(v % 18446744073709551616) % (m : Int), ?_, g1, g2⟩
 rw [e2]
 exact wrI (by omega)
structure RowO (c : List Value) (k : Nat) (z : Nat → Int) : Prop where
 nn : m_nns c = true
 k20 : k ≤ 21
 len : k ≤ c.length
 at' : ∀ j, j < k → c[j]? = some (I (z j))
theorem nns_set : ∀ (c : List Value) (i : Nat) (v : Value), m_nns c = true → nn v = true → m_nns (c.set i v) = true
 | [], _, _, _, _ => rfl
 | u :: c, 0, v, h, hv => by
  have h : (nn u && m_nns c) = true := h
  rw [Bool.and_eq_true] at h
  show (nn v && m_nns c) = true
  rw [hv, h.2]; rfl
 | u :: c, i + 1, v, h, hv => by
  have h : (nn u && m_nns c) = true := h
  rw [Bool.and_eq_true] at h
  show (nn u && m_nns (c.set i v)) = true
  rw [h.1, nns_set c i v h.2 hv]; rfl
theorem RowO.set {c : List Value} {k : Nat} {z : Nat → Int} (h : RowO c k z) {i : Nat} (hi : i < k) (v : Int) : RowO (c.set i (I v)) k (fun j => if j = i then v else z j) := by
 refine ⟨nns_set _ _ _ h.nn rfl, h.k20, by rw [List.length_set]; exact h.len, fun j hj => ?_⟩
 by_cases e : j = i
 ·subst e
  rw [List.getElem?_set_self (by have := h.len; omega)]
  simp
 ·rw [List.getElem?_set_ne (fun d => e d.symm)]
  simp only [if_neg e]
  exact h.at' j hj
section
variable {r : Mem} {F : Fence} {kk : Nat} {γ : Gam} {W : World}
theorem segO {c : Code} {lv : List Nat} {fl : List Fl} {V : OV} {OS : OO} {s : List (Nat × Value)} {b : Tr Value} {ms : List Nat} {A : AW} {ox : Nat → OutsG} {orr : OutsG} (hF : Wide F) (hro : RoRel γ none F.round) (h0' : ∀ i, 0 ≤ i → γ i = none) (h : run (SC r) mJl 162 1 c (lvlT (SC r) (fun _ => none) .nil 1 1) none (Outs.ask 0 ⟨lv, fl, fun vs ms os => vs = V ∧ ms = [] ∧ os = OS⟩) (Outs.ats 0 []) (Outs.ask 0 Outs.no) s b ms A = okR) :
  ReachG Tryz.prog mJl 162 F kk γ W c r ⟨⟨s, b⟩, ms, A⟩ (CanG Tryz.prog mJl 162 γ W ⟨lv, fun r1 vs ms os => r1 = r ∧ vs = V ∧ ms = [] ∧ os = OS⟩ ox orr) :=
 ReachG.segR (SC_ok r) TOk.nil (tm := .nil) (L := 1) (L' := 1) (d := 1) (n0 := 0) hF hro h0' [] (on := ⟨lv, fl, fun vs ms os => vs = V ∧ ms = [] ∧ os = OS⟩) (ox := fun _ => Outs.no) (orr := Outs.no) (fun p hp => nomatch hp) h (fun vs ms os h => IsG.here ⟨rfl, h⟩) (fun _ _ _ _ h => h.elim) (fun _ _ _ h => h.elim)
theorem segX {c : Code} {lv lv2 : List Nat} {fl fl2 : List Fl} {V V2 : OV} {OS OS2 : OO} {p : Prop} (id : Nat) {s : List (Nat × Value)} {b : Tr Value} {ms : List Nat} {A : AW} {ox : Nat → OutsG} {orr : OutsG} (hF : Wide F) (hro : RoRel γ none F.round) (h0' : ∀ i, 0 ≤ i → γ i = none) (h : run (SC r) mJl 162 1 c (lvlT (SC r) (fun _ => none) .nil 1 1) none (Outs.ask 0 ⟨lv, fl, fun vs ms os => p ∧ vs = V ∧ ms = [] ∧ os = OS⟩) (Outs.ats 0 [(id, ⟨lv2, fl2, fun vs ms os => ¬ p ∧ vs = V2 ∧ ms = [] ∧ os = OS2⟩)]) (Outs.ask 0 Outs.no) s b ms A = okR)
  (hx : ¬ p → IsG Tryz.prog mJl 162 γ W (ox id) r (St.of lv2 V2 [] OS2)) :
  ReachG Tryz.prog mJl 162 F kk γ W c r ⟨⟨s, b⟩, ms, A⟩ (CanG Tryz.prog mJl 162 γ W ⟨lv, fun r1 vs ms os => r1 = r ∧ p ∧ vs = V ∧ ms = [] ∧ os = OS⟩ ox orr) :=
 ReachG.segR (SC_ok r) TOk.nil (tm := .nil) (L := 1) (L' := 1) (d := 1) (n0 := 0) hF hro h0' [(id, ⟨lv2, fl2, fun vs ms os => ¬ p ∧ vs = V2 ∧ ms = [] ∧ os = OS2⟩)] (on := ⟨lv, fl, fun vs ms os => p ∧ vs = V ∧ ms = [] ∧ os = OS⟩) (ox := fun j => if j = id then ⟨lv2, fl2, fun vs ms os => ¬ p ∧ vs = V2 ∧ ms = [] ∧ os = OS2⟩ else Outs.no) (orr := Outs.no) (fun p hp => by simp only [List.mem_cons, List.not_mem_nil, or_false] at hp; subst hp; exact if_pos rfl) h (fun vs ms os h => IsG.here ⟨rfl, h⟩) (fun id2 vs ms os h => by
  by_cases e : id2 = id
  ·subst e
   simp only [if_true] at h ⊢
   obtain ⟨h1, rfl, rfl, rfl⟩ := h
   exact hx h1
  ·simp only [if_neg e] at h; exact h.elim) (fun _ _ _ h => h.elim)
end
def lJ7 : List Nat := [4, 7, 8, 9, 10, 12]
def vJ7 (bx ox bp op m : Nat) (a : Value) (q : Nat) (w : Int) (i : Nat) : OV := [some (pX bx ox), some (RS bp op m 0), some a, some (I (q : Nat)), some (I w), some (I (i : Nat))]
section
variable {r : Mem} {bx ox bp op m q k : Nat} {w : Int} {c : List Value} {z : Nat → Int} {F : Fence} {kk : Nat} {γ : Gam} {W : World}
theorem ja_o (hz : RowO c k z) (hF : Wide F) (hro : RoRel γ none F.round) (h0' : ∀ i, 0 ≤ i → γ i = none) {ox2 : Nat → OutsG} {orr : OutsG} :
  ReachG Tryz.prog mJl 162 F kk γ W (.seq Jl_10 (.block 4 (.loop Jl_11))) r (St.of lJ5 (vJ5 bx ox bp op m (gwJ 0 k) q w) [] [oJi c 0]) (CanG Tryz.prog mJl 162 γ W ⟨lJ5, fun r1 vs ms os => r1 = r ∧ ∃ c' z', RowO c' k z' ∧ (∀ j, j < k → 0 ≤ z' j ∧ z' j < 30) ∧ vs = vJ5 bx ox bp op m (gwJ 0 k) q w ∧ ms = [] ∧ os = [oJi c' 0]⟩ ox2 orr) := by
 refine ReachG.seqC (o1 := ⟨lJ7, fun r1 vs ms os => r1 = r ∧ vs = vJ7 bx ox bp op m (gwJ 0 k) q w 0 ∧ ms = [] ∧ os = [oJi c 0]⟩) (segO (fl := [.g]) hF hro h0' ?_) fun r1 vs ms os hq => ?_
 ·have hn' := jlOo r bx ox bp op m k c q w
  simp only [hz.nn, Bool.and_true, cond_true] at hn'
  exact (hn' _ _ _ _).trans (qq_ok ⟨rfl, rfl, rfl⟩)
 obtain ⟨rfl, rfl, rfl, rfl⟩ := hq
 refine ReachG.blockC (ReachG.loopC (j := k) (lv := lJ7) (I := fun j r2 vs ms os => r2 = r1 ∧ ∃ i : Nat, i ≤ k ∧ j = k - i ∧ ∃ c' z', RowO c' k z' ∧ (∀ j, j < i → 0 ≤ z' j ∧ z' j < 30) ∧ vs = vJ7 bx ox bp op m (gwJ 0 k) q w i ∧ ms = [] ∧ os = [oJi c' 0]) (fun j r2 vs ms os hI => ?_) ⟨rfl, 0, by omega, rfl, c, z, hz, fun j h => absurd h (by omega), rfl, rfl, rfl⟩)
 obtain ⟨rfl, i, hi, rfl, c', z', hz', hin, rfl, rfl, rfl⟩ := hI
 by_cases ci : i < k
 ·obtain ⟨u, hu, hu0, hu1⟩ := mod_in (z' i) (m := 30) (by omega) (by omega)
  refine ReachG.segR (SC_ok r2) TOk.nil (tm := .nil) (L := 1) (L' := 1) (d := 1) (n0 := 0) hF hro h0' [(4, ⟨lJ5, [.g], fun _ _ _ => False⟩)] (on := ⟨lJ7, [.g], fun vs ms os => vs = vJ7 bx ox bp op m (gwJ 0 k) q w (i + 1) ∧ ms = [] ∧ os = [oJi (c'.set i (I u)) 0]⟩) (ox := fun j => if j = 4 then ⟨lJ5, [.g], fun _ _ _ => False⟩ else Outs.no) (orr := Outs.no) (fun p hp => by simp only [List.mem_cons, List.not_mem_nil, or_false] at hp; subst hp; rfl) ?_ (fun vs ms os h => ?_) (fun id vs ms os h => ?_) (fun _ _ _ h => h.elim)
  ·have hn' := jlPo r2 bx ox bp op m k c' q w i
   have b1 : Nat.blt i k = true := Nat.ble_eq_true_of_le ci
   have b2 : Nat.blt i c'.length = true := Nat.ble_eq_true_of_le (by have := hz'.len; omega)
   have s1 : m_nns (c'.set i (I u)) = true := nns_set _ _ _ hz'.nn rfl
   simp only [dT (show Int.ofNat i < Int.ofNat k by simp; omega), show ∀ x : Nat, Int.toNat (Int.ofNat x) = x from fun _ => rfl, b1, e0w, Nat.zero_add, hz'.at' i ci, isI_I, b2, cond_true] at hn'
   dsimp +instances only [ofI_I] at hn'
   simp only [hu, s1, Bool.and_true, cond_true] at hn'
   simp only [Int.ofNat_eq_natCast] at hn'
   rw [w1w i (by have := hz'.k20; omega)] at hn'
   exact (hn' _ _ _ _).trans (qq_ok ⟨rfl, rfl, rfl⟩)
  ·refine IsG.here ⟨k - (i + 1), by omega, rfl, i + 1, ci, rfl, _, _, hz'.set ci u, fun j hj => ?_, h.1, h.2.1, h.2.2⟩
   by_cases e : j = i
   ·simp only [if_pos e]; exact ⟨hu0, by simpa using hu1⟩
   ·simp only [if_neg e]; exact hin j (by omega)
  ·by_cases e : id = 4
   ·subst e; exact h.elim
   ·simp only [if_neg e] at h; exact h.elim
 ·obtain rfl : i = k := by omega
  refine ReachG.segR (SC_ok r2) TOk.nil (tm := .nil) (L := 1) (L' := 1) (d := 1) (n0 := 0) hF hro h0' [(4, ⟨lJ5, [.g], fun vs ms os => vs = vJ5 bx ox bp op m (gwJ 0 i) q w ∧ ms = [] ∧ os = [oJi c' 0]⟩)] (on := ⟨lJ7, [.g], fun _ _ _ => False⟩) (ox := fun j => if j = 4 then ⟨lJ5, [.g], fun vs ms os => vs = vJ5 bx ox bp op m (gwJ 0 i) q w ∧ ms = [] ∧ os = [oJi c' 0]⟩ else Outs.no) (orr := Outs.no) (fun p hp => by simp only [List.mem_cons, List.not_mem_nil, or_false] at hp; subst hp; rfl) ?_ (fun vs ms os h => h.elim) (fun id vs ms os h => ?_) (fun _ _ _ h => h.elim)
  ·have hn' := jlPo r2 bx ox bp op m i c' q w i
   simp only [dF (show ¬ Int.ofNat i < Int.ofNat i by simp), cond_false, hz'.nn, Bool.and_true, cond_true] at hn'
   exact (hn' _ _ _ _).trans (qq_ok ⟨rfl, rfl, rfl⟩)
  ·by_cases e : id = 4
   ·subst e
    obtain ⟨rfl, rfl, rfl⟩ := h
    exact IsG.here ⟨rfl, c', z', hz', hin, rfl, rfl, rfl⟩
   ·simp only [if_neg e] at h; exact h.elim
end
end Go.Proofs
namespace Go.Proofs
open Go Go.Ev Go.Num
def pR (z : Nat → Int) (w : Int) (i y : Nat) : List Bool := (List.range y).map fun j => pM z w i j
def pT (z : Nat → Int) (w : Int) (k i : Nat) : List (List Bool) := (List.range i).map fun i => pR z w i k
theorem pT_all (z : Nat → Int) (w : Int) (k : Nat) : pT z w k k = tbM (pM z w) k := rfl
theorem pR_len (z : Nat → Int) (w : Int) (i y : Nat) : (pR z w i y).length = y := by simp [pR]
theorem pT_len (z : Nat → Int) (w : Int) (k i : Nat) : (pT z w k i).length = i := by simp [pT]
theorem pR_succ (z : Nat → Int) (w : Int) (i y : Nat) : pR z w i (y + 1) = pR z w i y ++ [pM z w i y] := by
 unfold pR
 rw [List.range_succ, List.map_append]
 rfl
theorem pT_succ (z : Nat → Int) (w : Int) (k i : Nat) : pT z w k (i + 1) = pT z w k i ++ [pR z w i k] := by
 unfold pT
 rw [List.range_succ, List.map_append]
 rfl
theorem boL_sn (l : List Bool) (x : Bool) : boL l ++ [.bool x] = boL (l ++ [x]) := by simp [boL]
theorem wrSm {a w : Int} (ha : 0 ≤ a ∧ a < 30) (hw : 0 ≤ w ∧ w < 20) : IntKind.wrap .i64 (a + w) = a + w := wrI (by omega)
def lJQ : List Nat := [4, 7, 8, 9, 10, 13]
def lJI : List Nat := [4, 7, 8, 9, 10, 13, 14]
def lJR : List Nat := [4, 7, 8, 9, 10, 13, 14, 15]
def lJM : List Nat := [4, 7, 8, 9, 10, 13, 14, 15, 16]
def vJQ (bx ox bp op m : Nat) (a : Value) (q : Nat) (w : Int) (t : Value) : OV := [some (pX bx ox), some (RS bp op m 0), some a, some (I (q : Nat)), some (I w), some t]
def vJI (bx ox bp op m : Nat) (a : Value) (q : Nat) (w : Int) (t : Value) (i : Nat) : OV := [some (pX bx ox), some (RS bp op m 0), some a, some (I (q : Nat)), some (I w), some t, some (I (i : Nat))]
def vJR (bx ox bp op m : Nat) (a : Value) (q : Nat) (w : Int) (t : Value) (i : Nat) (d : Value) : OV := [some (pX bx ox), some (RS bp op m 0), some a, some (I (q : Nat)), some (I w), some t, some (I (i : Nat)), some d]
def vJM (bx ox bp op m : Nat) (a : Value) (q : Nat) (w : Int) (t : Value) (i : Nat) (d : Value) (y : Nat) : OV := [some (pX bx ox), some (RS bp op m 0), some a, some (I (q : Nat)), some (I w), some t, some (I (i : Nat)), some d, some (I (y : Nat))]
section
variable {r : Mem} {bx ox bp op m q k : Nat} {w : Int} {c : List Value} {z : Nat → Int} {F : Fence} {kk : Nat} {γ : Gam} {W : World}
theorem jr_n (hz : RowO c k z) (h1 : 1 ≤ k) (hk : k ≤ 12) (hzr : ∀ j, j < k → 0 ≤ z j ∧ z j < 30) (hw : 0 ≤ w ∧ w < 10) {i : Nat} (hi : i < k) (hF : Wide F) (hro : RoRel γ none F.round) (h0' : ∀ i, 0 ≤ i → γ i = none) {ox2 : Nat → OutsG} {orr : OutsG} :
  ReachG Tryz.prog mJl 162 F kk γ W (.block 8 (.loop Jl_20)) r (St.of lJM (vJM bx ox bp op m (gwJ 0 k) q w nilT i nilT 0) [] [oJi c 0]) (CanG Tryz.prog mJl 162 γ W ⟨lJR, fun r1 vs ms os => r1 = r ∧ vs = vJR bx ox bp op m (gwJ 0 k) q w nilT i (gwJ 1 k) ∧ ms = [] ∧ os = [oJi c 0, oBo (boL (pR z w i k)) 1]⟩ ox2 orr) := by
 have b2 : Nat.blt i k = true := Nat.ble_eq_true_of_le hi
 have wi := wrSm (hzr i hi) (show 0 ≤ w ∧ w < 20 by omega)
 have ci := hz.at' i hi
 refine ReachG.blockC (ReachG.loopC (j := k) (lv := lJM) (I := fun j r2 vs ms os => r2 = r ∧ ∃ y : Nat, y ≤ k ∧ j = k - y ∧ ms = [] ∧ ((y = 0 ∧ vs = vJM bx ox bp op m (gwJ 0 k) q w nilT i nilT 0 ∧ os = [oJi c 0]) ∨ (1 ≤ y ∧ vs = vJM bx ox bp op m (gwJ 0 k) q w nilT i (gwJ 1 y) y ∧ os = [oJi c 0, oBo (boL (pR z w i y)) 1]))) (fun j r2 vs ms os hI => ?_) ⟨rfl, 0, by omega, rfl, rfl, .inl ⟨rfl, rfl, rfl⟩⟩)
 obtain ⟨rfl, y, hy, rfl, rfl, hcase⟩ := hI
 rcases hcase with ⟨rfl, rfl, rfl⟩ | ⟨hy1, rfl, rfl⟩
 ·have b1 : Nat.blt 0 k = true := Nat.ble_eq_true_of_le (by omega)
  have cy := hz.at' 0 (by omega)
  refine ReachG.segR (SC_ok r2) TOk.nil (tm := .nil) (L := 1) (L' := 1) (d := 1) (n0 := 0) hF hro h0' [(8, ⟨lJR, [.g], fun _ _ _ => False⟩)] (on := ⟨lJM, [.g, .g], fun vs ms os => vs = vJM bx ox bp op m (gwJ 0 k) q w nilT i (gwJ 1 1) 1 ∧ ms = [] ∧ os = [oJi c 0, oBo (boL (pR z w i 1)) 1]⟩) (ox := fun j => if j = 8 then ⟨lJR, [.g], fun _ _ _ => False⟩ else Outs.no) (orr := Outs.no) (fun p hp => by simp only [List.mem_cons, List.not_mem_nil, or_false] at hp; subst hp; rfl) ?_ (fun vs ms os h => IsG.here ⟨k - 1, by omega, rfl, 1, h1, rfl, h.2.1, .inr ⟨Nat.le_refl _, h.1, h.2.2⟩⟩) (fun id vs ms os h => ?_) (fun _ _ _ h => h.elim)
  ·have hn' := jmFnn r2 bx ox bp op m k c q w  i 0
   simp only [dT (show Int.ofNat 0 < Int.ofNat k by simp; omega), show ∀ x : Nat, Int.toNat (Int.ofNat x) = x from fun _ => rfl, b1, b2, e0w, Nat.zero_add, ci, cy, isI_I, cond_true] at hn'
   dsimp +instances only [ofI_I] at hn'
   simp only [wi, eqv_i, cond_true, hz.nn, Bool.and_true, Bool.and_self, show m_nns [.bool true] = true from rfl, show m_nns [.bool false] = true from rfl] at hn'
   simp only [Int.ofNat_eq_natCast] at hn'
   rw [w1w 0 (by omega)] at hn'
   have hR : pR z w i 1 = [pM z w i 0] := rfl
   by_cases g : z 0 > z i + w
   ·simp only [dT g, cond_true] at hn'
    exact (hn' _ _ _ _).trans (qq_ok ⟨rfl, rfl, by rw [hR]; unfold pM; rw [dT g]; rfl⟩)
   ·simp only [dF g, cond_false] at hn'
    exact (hn' _ _ _ _).trans (qq_ok ⟨rfl, rfl, by rw [hR]; unfold pM; rw [dF g]; rfl⟩)
  ·by_cases e : id = 8
   ·subst e; exact h.elim
   ·simp only [if_neg e] at h; exact h.elim
 ·by_cases cy0 : y < k
  ·have b1 : Nat.blt y k = true := Nat.ble_eq_true_of_le cy0
   have cy := hz.at' y cy0
   have m1 : Nat.ble (Nat.add y 1) 1000000 = true := Nat.ble_eq_true_of_le (by simp only [Nat.add_eq]; omega)
   have tk : takeAt (boL (pR z w i y)) 0 (Nat.mul y 1) = some (boL (pR z w i y)) := takeL_row _ _ (by rw [boL_len, pR_len]; simp)
   refine ReachG.segR (SC_ok r2) TOk.nil (tm := .nil) (L := 1) (L' := 1) (d := 1) (n0 := 0) hF hro h0' [(8, ⟨lJR, [.g, .g], fun _ _ _ => False⟩)] (on := ⟨lJM, [.g, .g], fun vs ms os => vs = vJM bx ox bp op m (gwJ 0 k) q w nilT i (gwJ 1 (y + 1)) (y + 1) ∧ ms = [] ∧ os = [oJi c 0, oBo (boL (pR z w i (y + 1))) 1]⟩) (ox := fun j => if j = 8 then ⟨lJR, [.g, .g], fun _ _ _ => False⟩ else Outs.no) (orr := Outs.no) (fun p hp => by simp only [List.mem_cons, List.not_mem_nil, or_false] at hp; subst hp; rfl) ?_ (fun vs ms os h => IsG.here ⟨k - (y + 1), by omega, rfl, y + 1, cy0, rfl, h.2.1, .inr ⟨by omega, h.1, h.2.2⟩⟩) (fun id vs ms os h => ?_) (fun _ _ _ h => h.elim)
   ·have hn' := jmFnd r2 bx ox bp op m k c q w  (boL (pR z w i y)) i y
    simp only [dT (show Int.ofNat y < Int.ofNat k by simp; omega), show ∀ x : Nat, Int.toNat (Int.ofNat x) = x from fun _ => rfl, b1, b2, e0w, Nat.zero_add, ci, cy, isI_I, cond_true] at hn'
    dsimp +instances only [ofI_I] at hn'
    simp only [wi, eqv_i, m1, tk, cond_true, hz.nn, boL_sn, boL_nn, Bool.and_true, Bool.and_self] at hn'
    simp only [Int.ofNat_eq_natCast] at hn'
    rw [w1w y (by omega)] at hn'
    have hR := pR_succ z w i y
    by_cases g : z y > z i + w
    ·simp only [dT g, cond_true] at hn'
     exact (hn' _ _ _ _).trans (qq_ok ⟨rfl, rfl, by rw [hR]; unfold pM; rw [dT g]; rfl⟩)
    ·simp only [dF g, cond_false] at hn'
     exact (hn' _ _ _ _).trans (qq_ok ⟨rfl, rfl, by rw [hR]; unfold pM; rw [dF g]; rfl⟩)
   ·by_cases e : id = 8
    ·subst e; exact h.elim
    ·simp only [if_neg e] at h; exact h.elim
  ·obtain rfl : y = k := by omega
   refine ReachG.segR (SC_ok r2) TOk.nil (tm := .nil) (L := 1) (L' := 1) (d := 1) (n0 := 0) hF hro h0' [(8, ⟨lJR, [.g, .g], fun vs ms os => vs = vJR bx ox bp op m (gwJ 0 y) q w nilT i (gwJ 1 y) ∧ ms = [] ∧ os = [oJi c 0, oBo (boL (pR z w i y)) 1]⟩)] (on := ⟨lJM, [.g, .g], fun _ _ _ => False⟩) (ox := fun j => if j = 8 then ⟨lJR, [.g, .g], fun vs ms os => vs = vJR bx ox bp op m (gwJ 0 y) q w nilT i (gwJ 1 y) ∧ ms = [] ∧ os = [oJi c 0, oBo (boL (pR z w i y)) 1]⟩ else Outs.no) (orr := Outs.no) (fun p hp => by simp only [List.mem_cons, List.not_mem_nil, or_false] at hp; subst hp; rfl) ?_ (fun vs ms os h => h.elim) (fun id vs ms os h => ?_) (fun _ _ _ h => h.elim)
   ·have hn' := jmFnd r2 bx ox bp op m y c q w  (boL (pR z w i y)) i y
    simp only [dF (show ¬ Int.ofNat y < Int.ofNat y by simp), cond_false, hz.nn, boL_nn, Bool.and_true, Bool.and_self, cond_true] at hn'
    exact (hn' _ _ _ _).trans (qq_ok ⟨rfl, rfl, rfl⟩)
   ·by_cases e : id = 8
    ·subst e
     obtain ⟨rfl, rfl, rfl⟩ := h
     exact IsG.here ⟨rfl, rfl, rfl, rfl⟩
    ·simp only [if_neg e] at h; exact h.elim
theorem jr_e {h : Nat} {e : List Value} (hen : m_nns e = true) (hz : RowO c k z) (h1 : 1 ≤ k) (hk : k ≤ 12) (hzr : ∀ j, j < k → 0 ≤ z j ∧ z j < 30) (hw : 0 ≤ w ∧ w < 10) {i : Nat} (hi : i < k) (hF : Wide F) (hro : RoRel γ none F.round) (h0' : ∀ i, 0 ≤ i → γ i = none) {ox2 : Nat → OutsG} {orr : OutsG} :
  ReachG Tryz.prog mJl 162 F kk γ W (.block 8 (.loop Jl_20)) r (St.of lJM (vJM bx ox bp op m (gwJ 0 k) q w (gwJ 1 h) i nilT 0) [] [oJi c 0, oTb e 1]) (CanG Tryz.prog mJl 162 γ W ⟨lJR, fun r1 vs ms os => r1 = r ∧ vs = vJR bx ox bp op m (gwJ 0 k) q w (gwJ 1 h) i (gwJ 2 k) ∧ ms = [] ∧ os = [oJi c 0, oTb e 1, oBo (boL (pR z w i k)) 2]⟩ ox2 orr) := by
 have b2 : Nat.blt i k = true := Nat.ble_eq_true_of_le hi
 have wi := wrSm (hzr i hi) (show 0 ≤ w ∧ w < 20 by omega)
 have ci := hz.at' i hi
 refine ReachG.blockC (ReachG.loopC (j := k) (lv := lJM) (I := fun j r2 vs ms os => r2 = r ∧ ∃ y : Nat, y ≤ k ∧ j = k - y ∧ ms = [] ∧ ((y = 0 ∧ vs = vJM bx ox bp op m (gwJ 0 k) q w (gwJ 1 h) i nilT 0 ∧ os = [oJi c 0, oTb e 1]) ∨ (1 ≤ y ∧ vs = vJM bx ox bp op m (gwJ 0 k) q w (gwJ 1 h) i (gwJ 2 y) y ∧ os = [oJi c 0, oTb e 1, oBo (boL (pR z w i y)) 2]))) (fun j r2 vs ms os hI => ?_) ⟨rfl, 0, by omega, rfl, rfl, .inl ⟨rfl, rfl, rfl⟩⟩)
 obtain ⟨rfl, y, hy, rfl, rfl, hcase⟩ := hI
 rcases hcase with ⟨rfl, rfl, rfl⟩ | ⟨hy1, rfl, rfl⟩
 ·have b1 : Nat.blt 0 k = true := Nat.ble_eq_true_of_le (by omega)
  have cy := hz.at' 0 (by omega)
  refine ReachG.segR (SC_ok r2) TOk.nil (tm := .nil) (L := 1) (L' := 1) (d := 1) (n0 := 0) hF hro h0' [(8, ⟨lJR, [.g, .g], fun _ _ _ => False⟩)] (on := ⟨lJM, [.g, .g, .g], fun vs ms os => vs = vJM bx ox bp op m (gwJ 0 k) q w (gwJ 1 h) i (gwJ 2 1) 1 ∧ ms = [] ∧ os = [oJi c 0, oTb e 1, oBo (boL (pR z w i 1)) 2]⟩) (ox := fun j => if j = 8 then ⟨lJR, [.g, .g], fun _ _ _ => False⟩ else Outs.no) (orr := Outs.no) (fun p hp => by simp only [List.mem_cons, List.not_mem_nil, or_false] at hp; subst hp; rfl) ?_ (fun vs ms os h => IsG.here ⟨k - 1, by omega, rfl, 1, h1, rfl, h.2.1, .inr ⟨Nat.le_refl _, h.1, h.2.2⟩⟩) (fun id vs ms os h => ?_) (fun _ _ _ h => h.elim)
  ·have hn' := jmFen r2 bx ox bp op m k c q w h e i 0
   simp only [dT (show Int.ofNat 0 < Int.ofNat k by simp; omega), show ∀ x : Nat, Int.toNat (Int.ofNat x) = x from fun _ => rfl, b1, b2, e0w, Nat.zero_add, ci, cy, isI_I, cond_true] at hn'
   dsimp +instances only [ofI_I] at hn'
   simp only [wi, eqv_i, cond_true, hz.nn, hen, Bool.and_true, Bool.and_self, show m_nns [.bool true] = true from rfl, show m_nns [.bool false] = true from rfl] at hn'
   simp only [Int.ofNat_eq_natCast] at hn'
   rw [w1w 0 (by omega)] at hn'
   have hR : pR z w i 1 = [pM z w i 0] := rfl
   by_cases g : z 0 > z i + w
   ·simp only [dT g, cond_true] at hn'
    exact (hn' _ _ _ _).trans (qq_ok ⟨rfl, rfl, by rw [hR]; unfold pM; rw [dT g]; rfl⟩)
   ·simp only [dF g, cond_false] at hn'
    exact (hn' _ _ _ _).trans (qq_ok ⟨rfl, rfl, by rw [hR]; unfold pM; rw [dF g]; rfl⟩)
  ·by_cases e : id = 8
   ·subst e; exact h.elim
   ·simp only [if_neg e] at h; exact h.elim
 ·by_cases cy0 : y < k
  ·have b1 : Nat.blt y k = true := Nat.ble_eq_true_of_le cy0
   have cy := hz.at' y cy0
   have m1 : Nat.ble (Nat.add y 1) 1000000 = true := Nat.ble_eq_true_of_le (by simp only [Nat.add_eq]; omega)
   have tk : takeAt (boL (pR z w i y)) 0 (Nat.mul y 1) = some (boL (pR z w i y)) := takeL_row _ _ (by rw [boL_len, pR_len]; simp)
   refine ReachG.segR (SC_ok r2) TOk.nil (tm := .nil) (L := 1) (L' := 1) (d := 1) (n0 := 0) hF hro h0' [(8, ⟨lJR, [.g, .g, .g], fun _ _ _ => False⟩)] (on := ⟨lJM, [.g, .g, .g], fun vs ms os => vs = vJM bx ox bp op m (gwJ 0 k) q w (gwJ 1 h) i (gwJ 2 (y + 1)) (y + 1) ∧ ms = [] ∧ os = [oJi c 0, oTb e 1, oBo (boL (pR z w i (y + 1))) 2]⟩) (ox := fun j => if j = 8 then ⟨lJR, [.g, .g, .g], fun _ _ _ => False⟩ else Outs.no) (orr := Outs.no) (fun p hp => by simp only [List.mem_cons, List.not_mem_nil, or_false] at hp; subst hp; rfl) ?_ (fun vs ms os h => IsG.here ⟨k - (y + 1), by omega, rfl, y + 1, cy0, rfl, h.2.1, .inr ⟨by omega, h.1, h.2.2⟩⟩) (fun id vs ms os h => ?_) (fun _ _ _ h => h.elim)
   ·have hn' := jmFed r2 bx ox bp op m k c q w h e (boL (pR z w i y)) i y
    simp only [dT (show Int.ofNat y < Int.ofNat k by simp; omega), show ∀ x : Nat, Int.toNat (Int.ofNat x) = x from fun _ => rfl, b1, b2, e0w, Nat.zero_add, ci, cy, isI_I, cond_true] at hn'
    dsimp +instances only [ofI_I] at hn'
    simp only [wi, eqv_i, m1, tk, cond_true, hz.nn, hen, boL_sn, boL_nn, Bool.and_true, Bool.and_self] at hn'
    simp only [Int.ofNat_eq_natCast] at hn'
    rw [w1w y (by omega)] at hn'
    have hR := pR_succ z w i y
    by_cases g : z y > z i + w
    ·simp only [dT g, cond_true] at hn'
     exact (hn' _ _ _ _).trans (qq_ok ⟨rfl, rfl, by rw [hR]; unfold pM; rw [dT g]; rfl⟩)
    ·simp only [dF g, cond_false] at hn'
     exact (hn' _ _ _ _).trans (qq_ok ⟨rfl, rfl, by rw [hR]; unfold pM; rw [dF g]; rfl⟩)
   ·by_cases e : id = 8
    ·subst e; exact h.elim
    ·simp only [if_neg e] at h; exact h.elim
  ·obtain rfl : y = k := by omega
   refine ReachG.segR (SC_ok r2) TOk.nil (tm := .nil) (L := 1) (L' := 1) (d := 1) (n0 := 0) hF hro h0' [(8, ⟨lJR, [.g, .g, .g], fun vs ms os => vs = vJR bx ox bp op m (gwJ 0 y) q w (gwJ 1 h) i (gwJ 2 y) ∧ ms = [] ∧ os = [oJi c 0, oTb e 1, oBo (boL (pR z w i y)) 2]⟩)] (on := ⟨lJM, [.g, .g, .g], fun _ _ _ => False⟩) (ox := fun j => if j = 8 then ⟨lJR, [.g, .g, .g], fun vs ms os => vs = vJR bx ox bp op m (gwJ 0 y) q w (gwJ 1 h) i (gwJ 2 y) ∧ ms = [] ∧ os = [oJi c 0, oTb e 1, oBo (boL (pR z w i y)) 2]⟩ else Outs.no) (orr := Outs.no) (fun p hp => by simp only [List.mem_cons, List.not_mem_nil, or_false] at hp; subst hp; rfl) ?_ (fun vs ms os h => h.elim) (fun id vs ms os h => ?_) (fun _ _ _ h => h.elim)
   ·have hn' := jmFed r2 bx ox bp op m y c q w h e (boL (pR z w i y)) i y
    simp only [dF (show ¬ Int.ofNat y < Int.ofNat y by simp), cond_false, hz.nn, hen, boL_nn, Bool.and_true, Bool.and_self, cond_true] at hn'
    exact (hn' _ _ _ _).trans (qq_ok ⟨rfl, rfl, rfl⟩)
   ·by_cases e : id = 8
    ·subst e
     obtain ⟨rfl, rfl, rfl⟩ := h
     exact IsG.here ⟨rfl, rfl, rfl, rfl⟩
    ·simp only [if_neg e] at h; exact h.elim
end
end Go.Proofs
namespace Go.Proofs
open Go Go.Ev Go.Num
theorem frzT (j b o n : Nat) : frzV j b o (gwJ j n) = some (RS b o n 0) := frzU j b o n
section
variable {r : Mem} {bx ox bp op m q k : Nat} {w : Int} {c : List Value} {z : Nat → Int} {F : Fence} {kk : Nat} {γ : Gam} {W : World}
theorem jt_loop (hz : RowO c k z) (h1 : 1 ≤ k) (hk : k ≤ 12) (hzr : ∀ j, j < k → 0 ≤ z j ∧ z j < 30) (hw : 0 ≤ w ∧ w < 10) (hF : Wide F) (hro : RoRel γ none F.round) (h0' : ∀ i, 0 ≤ i → γ i = none) {ox2 : Nat → OutsG} {orr : OutsG} :
  ReachG Tryz.prog mJl 162 F kk γ W (.block 6 (.loop (.seq Jl_17 (.seq (.block 7 (.seq Jl_18 (.seq (.seq Jl_19 (.block 8 (.loop Jl_20))) Jl_21))) Jl_22)))) r (St.of lJI (vJI bx ox bp op m (gwJ 0 k) q w nilT 0) [] [oJi c 0]) (CanG Tryz.prog mJl 162 γ W ⟨lJQ, fun r1 vs ms os => Mem.le r r1 ∧ ∃ e, TabC r1 e (pT z w k k) ∧ m_nns e = true ∧ vs = vJQ bx ox bp op m (gwJ 0 k) q w (gwJ 1 k) ∧ ms = [] ∧ os = [oJi c 0, oTb e 1]⟩ ox2 orr) := by
 have hunk : k < unk := by unfold unk; omega
 have rowV : ∀ (r4 : Mem) (b' o' : Nat) (i : Nat), (∀ j u, (boL (pR z w i k))[j]? = some u → r4 b' (o' + j) = some u) → RowV r4 (RS b' o' k 0) (pR z w i k) := fun r4 b' o' i hrow => .inr ⟨fun h => by have := pR_len z w i k; rw [h] at this; simp at this; omega, b', o', 0, by rw [pR_len], fun j x hx => hrow j _ (by unfold boL; rw [List.getElem?_map, hx]; rfl)⟩
 have fc : ∀ b' o', frzVs 2 b' o' c = some c := fun b' o' => frzVs_nn 2 b' o' c hz.nn
 refine ReachG.blockC (ReachG.loopC (j := k) (lv := lJI) (I := fun j r2 vs ms os => Mem.le r r2 ∧ ∃ i : Nat, i ≤ k ∧ j = k - i ∧ ms = [] ∧ ((i = 0 ∧ vs = vJI bx ox bp op m (gwJ 0 k) q w nilT 0 ∧ os = [oJi c 0]) ∨ (1 ≤ i ∧ ∃ e, vs = vJI bx ox bp op m (gwJ 0 k) q w (gwJ 1 i) i ∧ os = [oJi c 0, oTb e 1] ∧ TabC r2 e (pT z w k i) ∧ m_nns e = true))) (fun j r2 vs ms os hI => ?_) ⟨Mem.le_refl _, 0, by omega, rfl, rfl, .inl ⟨rfl, rfl, rfl⟩⟩)
 obtain ⟨hle, i, hi, rfl, rfl, hcase⟩ := hI
 rcases hcase with ⟨rfl, rfl, rfl⟩ | ⟨hi1, e, rfl, rfl, hT, hen⟩
 ·refine ReachG.seqC (segX (lv := lJI) (p := 0 < k) (V := vJI bx ox bp op m (gwJ 0 k) q w nilT 0) (OS := [oJi c 0]) (fl := [.g]) (lv2 := lJQ) (fl2 := [.g]) (V2 := vJQ bx ox bp op m (gwJ 0 k) q w nilT) (OS2 := [oJi c 0]) 6 hF hro h0' ?_ (fun h => absurd h1 h)) fun r3 vs ms os hq => ?_
  ·have hn' := jmCn r2 bx ox bp op m k c q w 0
   simp only [dT (show Int.ofNat 0 < Int.ofNat k by simp; omega), hz.nn, Bool.and_true, cond_true] at hn'
   exact (hn' _ _ _ _).trans (qq_ok ⟨h1, rfl, rfl, rfl⟩)
  obtain ⟨rfl, _, rfl, rfl, rfl⟩ := hq
  refine ReachG.seqC (o1 := ⟨lJI, fun r4 vs ms os => Mem.le r3 r4 ∧ ∃ e, vs = vJI bx ox bp op m (gwJ 0 k) q w (gwJ 1 1) 0 ∧ ms = [] ∧ os = [oJi c 0, oTb e 1] ∧ TabC r4 e (pT z w k 1) ∧ m_nns e = true⟩) (ReachG.blockC ?_) fun r4 vs ms os hq => ?_
  ·refine ReachG.seqC (segO (lv := lJR) (V := vJR bx ox bp op m (gwJ 0 k) q w nilT 0 nilT) (OS := [oJi c 0]) (fl := [.g]) hF hro h0' ?_) fun r4 vs ms os hq => ?_
   ·have hn' := jmDn r3 bx ox bp op m k c q w 0
    simp only [hz.nn, Bool.and_true, cond_true] at hn'
    exact (hn' _ _ _ _).trans (qq_ok ⟨rfl, rfl, rfl⟩)
   obtain ⟨rfl, rfl, rfl, rfl⟩ := hq
   refine ReachG.seqC (o1 := ⟨lJR, fun r5 vs ms os => r5 = r4 ∧ vs = vJR bx ox bp op m (gwJ 0 k) q w nilT 0 (gwJ 1 k) ∧ ms = [] ∧ os = [oJi c 0, oBo (boL (pR z w 0 k)) 1]⟩) (ReachG.seqC (segO (lv := lJM) (V := vJM bx ox bp op m (gwJ 0 k) q w nilT 0 nilT 0) (OS := [oJi c 0]) (fl := [.g]) hF hro h0' ?_) fun r5 vs ms os hq => ?_) fun r5 vs ms os hq => ?_
   ·have hn' := jmEn r4 bx ox bp op m k c q w 0
    simp only [hz.nn, Bool.and_true, cond_true] at hn'
    exact (hn' _ _ _ _).trans (qq_ok ⟨rfl, rfl, rfl⟩)
   ·obtain ⟨rfl, rfl, rfl, rfl⟩ := hq
    exact jr_n hz h1 hk hzr hw (show 0 < k by omega) hF hro h0'
   obtain ⟨rfl, rfl, rfl, rfl⟩ := hq
   refine ReachG.segR (SC_ok r5) TOk.nil (tm := .nil) (L := 1) (L' := 1) (d := 1) (n0 := 0) hF hro h0' [] (on := ⟨lJI, [.g, .t, .g], fun vs ms os => vs = vJI bx ox bp op m (gwJ 0 k) q w (gwJ 1 1) 0 ∧ ms = [] ∧ os = [oJi c 0, oTb [gwJ 2 k] 1, oBo (boL (pR z w 0 k)) 2]⟩) (ox := fun _ => Outs.no) (orr := Outs.no) (fun p hp => nomatch hp) ?_ ?_ (fun _ _ _ _ h => h.elim) (fun _ _ _ h => h.elim)
   ·have hn' := jmGn r5 bx ox bp op m k c q w (boL (pR z w 0 k)) 0 k
    simp only [hz.nn, boL_nn, Bool.and_true, Bool.and_self, cond_true] at hn'
    exact (hn' _ _ _ _).trans (qq_ok ⟨rfl, rfl, rfl⟩)
   ·rintro vs ms os ⟨rfl, rfl, rfl⟩
    refine IsG.freeze (os0 := [oJi c 0, oTb [gwJ 2 k] 1]) (j := 2) h0' rfl (Nat.zero_le _) rfl (boL_nn _) fun b' o' r6 hle2 hrow => ?_
    refine ⟨vJI bx ox bp op m (gwJ 0 k) q w (gwJ 1 1) 0, [oJi c 0, oTb [RS b' o' k 0] 1], rfl, ?_, hle2, [RS b' o' k 0], rfl, rfl, rfl, TabC.snoc (c := []) (T := []) ⟨rfl, fun i v l h => by simp at h⟩ (rowV r6 b' o' 0 hrow), rfl⟩
    have e1 : frzVs 2 b' o' [gwJ 2 k] = some [RS b' o' k 0] := frzVs_one _ _ _ _ _ (frzT 2 b' o' k)
    unfold oTb oJi
    simp only [frzAs, frzA, e1, fc]
  ·obtain ⟨hle3, e, rfl, rfl, rfl, hT, hen⟩ := hq
   refine ReachG.segR (SC_ok r4) TOk.nil (tm := .nil) (L := 1) (L' := 1) (d := 1) (n0 := 0) hF hro h0' [] (on := ⟨lJI, [.g, .g], fun vs ms os => vs = vJI bx ox bp op m (gwJ 0 k) q w (gwJ 1 1) 1 ∧ ms = [] ∧ os = [oJi c 0, oTb e 1]⟩) (ox := fun _ => Outs.no) (orr := Outs.no) (fun p hp => nomatch hp) ?_ ?_ (fun _ _ _ _ h => h.elim) (fun _ _ _ h => h.elim)
   ·have hn' := jmH r4 bx ox bp op m k c q w 1 e 0
    simp only [hz.nn, hen, Bool.and_true, Bool.and_self, cond_true, Int.ofNat_eq_natCast] at hn'
    rw [w1w 0 (by omega)] at hn'
    exact (hn' _ _ _ _).trans (qq_ok ⟨rfl, rfl, rfl⟩)
   ·rintro vs ms os ⟨rfl, rfl, rfl⟩
    exact IsG.here ⟨k - 1, by omega, Mem.le_trans hle hle3, 1, h1, rfl, rfl, .inr ⟨Nat.le_refl _, e, rfl, rfl, hT, hen⟩⟩
 ·refine ReachG.seqC (segX (lv := lJI) (p := i < k) (V := vJI bx ox bp op m (gwJ 0 k) q w (gwJ 1 i) i) (OS := [oJi c 0, oTb e 1]) (fl := [.g, .g]) (lv2 := lJQ) (fl2 := [.g, .g]) (V2 := vJQ bx ox bp op m (gwJ 0 k) q w (gwJ 1 i)) (OS2 := [oJi c 0, oTb e 1]) 6 hF hro h0' ?_ (fun h => ?_)) fun r3 vs ms os hq => ?_
  ·have hn' := jmCe r2 bx ox bp op m k c q w i e i
   by_cases ci : i < k
   ·simp only [dT (show Int.ofNat i < Int.ofNat k by simp; omega), hz.nn, hen, Bool.and_true, Bool.and_self, cond_true] at hn'
    exact (hn' _ _ _ _).trans (qq_ok ⟨ci, rfl, rfl, rfl⟩)
   ·simp only [dF (show ¬ Int.ofNat i < Int.ofNat k by simp; omega), cond_false, hz.nn, hen, Bool.and_true, Bool.and_self, cond_true] at hn'
    exact (hn' _ _ _ _).trans (qq_ok ⟨ci, rfl, rfl, rfl⟩)
  ·obtain rfl : i = k := by omega
   simp only [if_true]
   exact IsG.here ⟨hle, e, hT, hen, rfl, rfl, rfl⟩
  obtain ⟨rfl, ci, rfl, rfl, rfl⟩ := hq
  refine ReachG.seqC (o1 := ⟨lJI, fun r4 vs ms os => Mem.le r3 r4 ∧ ∃ e, vs = vJI bx ox bp op m (gwJ 0 k) q w (gwJ 1 (i + 1)) i ∧ ms = [] ∧ os = [oJi c 0, oTb e 1] ∧ TabC r4 e (pT z w k (i + 1)) ∧ m_nns e = true⟩) (ReachG.blockC ?_) fun r4 vs ms os hq => ?_
  ·refine ReachG.seqC (segO (lv := lJR) (V := vJR bx ox bp op m (gwJ 0 k) q w (gwJ 1 i) i nilT) (OS := [oJi c 0, oTb e 1]) (fl := [.g, .g]) hF hro h0' ?_) fun r4 vs ms os hq => ?_
   ·have hn' := jmDe r3 bx ox bp op m k c q w i e i
    simp only [hz.nn, hen, Bool.and_true, Bool.and_self, cond_true] at hn'
    exact (hn' _ _ _ _).trans (qq_ok ⟨rfl, rfl, rfl⟩)
   obtain ⟨rfl, rfl, rfl, rfl⟩ := hq
   refine ReachG.seqC (o1 := ⟨lJR, fun r5 vs ms os => r5 = r4 ∧ vs = vJR bx ox bp op m (gwJ 0 k) q w (gwJ 1 i) i (gwJ 2 k) ∧ ms = [] ∧ os = [oJi c 0, oTb e 1, oBo (boL (pR z w i k)) 2]⟩) (ReachG.seqC (segO (lv := lJM) (V := vJM bx ox bp op m (gwJ 0 k) q w (gwJ 1 i) i nilT 0) (OS := [oJi c 0, oTb e 1]) (fl := [.g, .g]) hF hro h0' ?_) fun r5 vs ms os hq => ?_) fun r5 vs ms os hq => ?_
   ·have hn' := jmEe r4 bx ox bp op m k c q w i e i
    simp only [hz.nn, hen, Bool.and_true, Bool.and_self, cond_true] at hn'
    exact (hn' _ _ _ _).trans (qq_ok ⟨rfl, rfl, rfl⟩)
   ·obtain ⟨rfl, rfl, rfl, rfl⟩ := hq
    exact jr_e hen hz h1 hk hzr hw ci hF hro h0'
   obtain ⟨rfl, rfl, rfl, rfl⟩ := hq
   refine ReachG.segR (SC_ok r5) TOk.nil (tm := .nil) (L := 1) (L' := 1) (d := 1) (n0 := 0) hF hro h0' [] (on := ⟨lJI, [.g, .q [2], .g], fun vs ms os => vs = vJI bx ox bp op m (gwJ 0 k) q w (gwJ 1 (i + 1)) i ∧ ms = [] ∧ os = [oJi c 0, oTb (e ++ [gwJ 2 k]) 1, oBo (boL (pR z w i k)) 2]⟩) (ox := fun _ => Outs.no) (orr := Outs.no) (fun p hp => nomatch hp) ?_ ?_ (fun _ _ _ _ h => h.elim) (fun _ _ _ h => h.elim)
   ·have hn' := jmGe r5 bx ox bp op m k c q w i e (boL (pR z w i k)) i k
    have m1 : Nat.ble (Nat.add i 1) 1000000 = true := Nat.ble_eq_true_of_le (by simp only [Nat.add_eq]; omega)
    have tk : takeAt e 0 (Nat.mul i 1) = some e := takeL_row _ _ (by rw [hT.1, pT_len]; simp)
    have s2 : m_mvq [0, 4, 2] (e ++ [.slice (some ⟨2, 0, none⟩) k unk]) = e ++ [.slice (some ⟨2, 0, none⟩) k unk] := by rw [mvq_app, mvq_nn hen]; rfl
    have s3 : m_nopo (e ++ [.slice (some ⟨2, 0, none⟩) k unk]) = true := by rw [nopo_app, nopo_nn hen]; rfl
    simp only [m1, tk, s2, s3, hz.nn, boL_nn, Bool.and_true, Bool.and_self, cond_true] at hn'
    exact (hn' _ _ _ _).trans (qq_ok ⟨rfl, rfl, rfl⟩)
   ·rintro vs ms os ⟨rfl, rfl, rfl⟩
    refine IsG.freeze (os0 := [oJi c 0, oTb (e ++ [gwJ 2 k]) 1]) (j := 2) h0' rfl (Nat.zero_le _) rfl (boL_nn _) fun b' o' r6 hle2 hrow => ?_
    refine ⟨vJI bx ox bp op m (gwJ 0 k) q w (gwJ 1 (i + 1)) i, [oJi c 0, oTb (e ++ [RS b' o' k 0]) 1], rfl, ?_, hle2, e ++ [RS b' o' k 0], rfl, rfl, rfl, ?_, ?_⟩
    ·have e1 := frzVs_app 2 b' o' e [gwJ 2 k] e [RS b' o' k 0] (frzVs_nn 2 b' o' e hen) (frzVs_one _ _ _ _ _ (frzT 2 b' o' k))
     unfold oTb oJi
     simp only [frzAs, frzA, e1, fc]
    ·rw [pT_succ]
     exact (hT.mono hle2).snoc (rowV r6 b' o' i hrow)
    ·rw [nns_app, hen]; rfl
  ·obtain ⟨hle3, e2, rfl, rfl, rfl, hT2, hen2⟩ := hq
   refine ReachG.segR (SC_ok r4) TOk.nil (tm := .nil) (L := 1) (L' := 1) (d := 1) (n0 := 0) hF hro h0' [] (on := ⟨lJI, [.g, .g], fun vs ms os => vs = vJI bx ox bp op m (gwJ 0 k) q w (gwJ 1 (i + 1)) (i + 1) ∧ ms = [] ∧ os = [oJi c 0, oTb e2 1]⟩) (ox := fun _ => Outs.no) (orr := Outs.no) (fun p hp => nomatch hp) ?_ ?_ (fun _ _ _ _ h => h.elim) (fun _ _ _ h => h.elim)
   ·have hn' := jmH r4 bx ox bp op m k c q w (i + 1) e2 i
    simp only [hz.nn, hen2, Bool.and_true, Bool.and_self, cond_true, Int.ofNat_eq_natCast] at hn'
    rw [w1w i (by omega)] at hn'
    exact (hn' _ _ _ _).trans (qq_ok ⟨rfl, rfl, rfl⟩)
   ·rintro vs ms os ⟨rfl, rfl, rfl⟩
    exact IsG.here ⟨k - (i + 1), by omega, Mem.le_trans hle hle3, i + 1, ci, rfl, rfl, .inr ⟨by omega, e2, rfl, rfl, hT2, hen2⟩⟩
theorem jt_all {T : List (List Bool)} (hz : RowO c k z) (h1 : 1 ≤ k) (hk : k ≤ 12) (hzr : ∀ j, j < k → 0 ≤ z j ∧ z j < 30) (hw : 0 ≤ w ∧ w < 10) (hJ : JI γ W r bx ox bp op T) (hF : Wide F) (hro : RoRel γ none F.round) (h0' : ∀ i, 0 ≤ i → γ i = none) {ox2 : Nat → OutsG} {orr : OutsG} :
  ReachG Tryz.prog mJl 162 F kk γ W (.seq Jl_15 (.seq (.seq Jl_16 (.block 6 (.loop (.seq Jl_17 (.seq (.block 7 (.seq Jl_18 (.seq (.seq Jl_19 (.block 8 (.loop Jl_20))) Jl_21))) Jl_22))))) Jl_23)) r (St.of [4, 7, 8, 9, 10, 108] (vJ5 bx ox bp op m (gwJ 0 k) q w ++ [some (.bool true)]) [] [oJi c 0]) (CanG Tryz.prog mJl 162 γ W ⟨lJ5, fun r1 vs ms os => JI γ W r1 bx ox bp op T ∧ vs = vJ5 bx ox bp op m (gwJ 0 k) q w ∧ ms = [] ∧ os = [oJi c 0]⟩ ox2 orr) := by
 refine ReachG.seqC (segO (lv := lJQ) (V := vJQ bx ox bp op m (gwJ 0 k) q w nilT) (OS := [oJi c 0]) (fl := [.g]) hF hro h0' ?_) fun r1 vs ms os hq => ?_
 ·have hn' := jmA r bx ox bp op m k c q w
  simp only [hz.nn, Bool.and_true, cond_true] at hn'
  exact (hn' _ _ _ _).trans (qq_ok ⟨rfl, rfl, rfl⟩)
 obtain ⟨rfl, rfl, rfl, rfl⟩ := hq
 refine ReachG.seqC (o1 := ⟨lJQ, fun r2 vs ms os => Mem.le r1 r2 ∧ ∃ bq oq, TabM r2 bq oq (pT z w k k) ∧ vs = vJQ bx ox bp op m (gwJ 0 k) q w (RS bq oq k 0) ∧ ms = [] ∧ os = [oJi c 0]⟩) (ReachG.seqC (segO (lv := lJI) (V := vJI bx ox bp op m (gwJ 0 k) q w nilT 0) (OS := [oJi c 0]) (fl := [.g]) hF hro h0' ?_) fun r2 vs ms os hq => ?_) fun r2 vs ms os hq => ?_
 ·have hn' := jmB r1 bx ox bp op m k c q w
  simp only [hz.nn, Bool.and_true, cond_true] at hn'
  exact (hn' _ _ _ _).trans (qq_ok ⟨rfl, rfl, rfl⟩)
 ·obtain ⟨rfl, rfl, rfl, rfl⟩ := hq
  refine reachG_thenZ (jt_loop hz h1 hk hzr hw hF hro h0') fun r3 vs ms os h => ?_
  obtain ⟨hle, e, hT, hen, rfl, rfl, rfl⟩ := h
  refine IsG.freeze (os0 := [oJi c 0]) (j := 1) h0' rfl (Nat.zero_le _) rfl hen fun b' o' r4 hle2 hrow => ?_
  have hf : frzO 1 b' o' (vJQ bx ox bp op m (gwJ 0 k) q w (gwJ 1 k)) = some (vJQ bx ox bp op m (gwJ 0 k) q w (RS b' o' k 0)) := by
   have h := frzT 1 b' o' k
   have g0 : frzV 1 b' o' (pX bx ox) = some (pX bx ox) := rfl
   have g1 : frzV 1 b' o' (RS bp op m 0) = some (RS bp op m 0) := rfl
   have g2 : frzV 1 b' o' (gwJ 0 k) = some (gwJ 0 k) := rfl
   have g3 : ∀ x, frzV 1 b' o' (I x) = some (I x) := fun _ => rfl
   unfold vJQ
   simp only [frzO, h, g0, g1, g2, g3]
  have fc : frzVs 1 b' o' c = some c := frzVs_nn 1 b' o' c hz.nn
  refine ⟨_, [oJi c 0], hf, ?_, Mem.le_trans hle hle2, b', o', hT.tabMZ hle2 hrow, rfl, rfl, rfl⟩
  unfold oJi
  simp only [frzAs, frzA, fc]
 obtain ⟨hle, bq, oq, hTq, rfl, rfl, rfl⟩ := hq
 have hJ2 := hJ.le hle
 have hck : ckO (pT z w k k) = true := by rw [pT_all]; exact pM_ck h1 hk hw.1
 have hw1 : IntKind.wrap .i64 (w + Int.ofNat 1) = w + 1 := wrI (by simp; omega)
 have hr1 : m_rv (pT z w k k) k c w = true := by
  unfold m_rv
  refine rep_t ?_
  have h := pM_rep hzr (w := w) (by omega)
  rw [← pT_all] at h
  refine ⟨h.1, h.2.1, fun x y hx hy => ?_⟩
  have e : ∀ j, j < k → ofI (c.getD j undef) = z j := fun j hj => by
   rw [List.getD_eq_getElem?_getD, hz.at' j hj]; rfl
  show gT _ x y = m_far (ofI (c.getD x undef)) (ofI (c.getD y undef)) w
  rw [e x hx, e y hy]
  exact h.2.2 x y hx hy
 refine ReachG.segR (SC_ok r2) (tJ23_ok hJ2.hmt hTq (pT_len z w k k) hck hz.at') (tm := .nil) (L := 1) (L' := 1) (d := 1) (n0 := 0) hF hro h0' [] (on := ⟨lJ5, [.g], fun vs ms os => vs = vJ5 bx ox bp op m (gwJ 0 k) q w ∧ ms = [] ∧ os = [oJi c 0]⟩) (ox := fun _ => Outs.no) (orr := ⟨[6], [], fun _ _ _ => False⟩) (fun p hp => nomatch hp) ?_ (fun vs ms os h => IsG.here ⟨hJ2, h⟩) (fun _ _ _ _ h => h.elim) (fun _ _ _ h => h.elim)
 have hn' := jmI r2 bx ox bp op m k c q w bq oq (pT z w k k)
 have rg : m_rg (RS bq oq k 0) k c (RS bq oq k 0) k unk c = true := @decide_eq_true _ (Classical.propDecidable _) ⟨rfl, rfl, by decide, rfl⟩
 simp only [rg, hr1, hw1, hz.nn, Bool.and_true, cond_true] at hn'
 cases hv : m_rv (pT z w k k) k c (w + 1) with
 | true =>
  simp only [hv, cond_true] at hn'
  exact (hn' _ _ _).trans (qq_ok ⟨rfl, rfl, rfl⟩)
 | false =>
  simp only [hv, cond_false] at hn'
  exact (hn' _ _ _).trans (qq_ok ⟨rfl, rfl, rfl⟩)
end
end Go.Proofs
namespace Go.Proofs
open Go Go.Ev Go.Num
def lJ4 : List Nat := [4, 7, 8, 9]
def vJ4 (bx ox bp op m : Nat) (a : Value) (q : Nat) : OV := [some (pX bx ox), some (RS bp op m 0), some a, some (I (q : Nat))]
noncomputable def cRd : Code := .seq Jl_5 (.seq Jl_6 (.seq Jl_7 (.seq (.seq Jl_8 (.block 2 (.loop Jl_9))) (.seq (.seq Jl_10 (.block 4 (.loop Jl_11))) (.seq Jl_12 (.seq Jl_13 (.seq (.seq Jl_14 (.cond (.tmp 108) (.seq Jl_15 (.seq (.seq Jl_16 (.block 6 (.loop (.seq Jl_17 (.seq (.block 7 (.seq Jl_18 (.seq (.seq Jl_19 (.block 8 (.loop Jl_20))) Jl_21))) Jl_22))))) Jl_23)) Jl_24)) Jl_25)))))))
theorem RowO.less {c : List Value} {k j : Nat} {z : Nat → Int} (h : RowO c k z) (hj : j ≤ k) : RowO c j z := ⟨h.nn, Nat.le_trans hj h.k20, Nat.le_trans hj h.len, fun i hi => h.at' i (by omega)⟩
theorem nns_take : ∀ (c : List Value) (k : Nat), m_nns c = true → m_nns (c.take k) = true
 | [], k, _ => by simp; rfl
 | u :: c, 0, _ => rfl
 | u :: c, k + 1, h => by
  have h : (nn u && m_nns c) = true := h
  rw [Bool.and_eq_true] at h
  show (nn u && m_nns (c.take k)) = true
  rw [h.1, nns_take c k h.2]; rfl
theorem RowO.push {c : List Value} {k : Nat} {z : Nat → Int} (h : RowO c k z) (hk : k ≤ 20) (w : Int) : ∃ z', RowO (c.take k ++ [I w]) (k + 1) z' := by
 refine ⟨fun j => if j < k then z j else w, by rw [nns_app, nns_take c k h.nn]; rfl, by omega, by have := h.len; simp; omega, fun j hj => ?_⟩
 have hl : (c.take k).length = k := by have := h.len; simp; omega
 by_cases e : j < k
 ·rw [List.getElem?_append_left (by omega), List.getElem?_take_of_lt e]
  simp only [if_pos e]
  exact h.at' j e
 ·obtain rfl : j = k := by omega
  rw [List.getElem?_append_right (by omega), hl, Nat.sub_self]
  simp only [if_neg e]
  rfl
theorem min12 (k : Nat) : (bif decide ((12 : Int) < Int.ofNat k) then Int.ofNat 12 else Int.ofNat k) = Int.ofNat (min k 12) := by
 by_cases c : 12 < k
 ·rw [dT (show (12 : Int) < Int.ofNat k by simp; omega), cond_true, Nat.min_eq_right (by omega)]
 ·rw [dF (show ¬ (12 : Int) < Int.ofNat k by simp; omega), cond_false, Nat.min_eq_left (by omega)]
section
variable {r : Mem} {bx ox bp op m q k : Nat} {c : List Value} {z : Nat → Int} {T : List (List Bool)} {F : Fence} {kk : Nat} {γ : Gam} {W : World}
theorem rd_o (hz : RowO c k z) (hTl : T.length = m) (hck : ckO T = true) (hJ : JI γ W r bx ox bp op T) (hF : Wide F) (hro : RoRel γ none F.round) (h0' : ∀ i, 0 ≤ i → γ i = none) {ox2 : Nat → OutsG} {orr : OutsG} :
  ReachG Tryz.prog mJl 162 F kk γ W cRd r (St.of lJ4 (vJ4 bx ox bp op m (gwJ 0 k) q) [] [oJi c 0]) (CanG Tryz.prog mJl 162 γ W ⟨lJ4, fun r1 vs ms os => JI γ W r1 bx ox bp op T ∧ ∃ k' c' z', RowO c' k' z' ∧ vs = vJ4 bx ox bp op m (gwJ 0 k') q ∧ ms = [] ∧ os = [oJi c' 0]⟩ ox2 orr) := by
 have hm := ck_len hck
 unfold cRd
 refine ReachG.seqC (segO (lv := lJ5) (V := vJ5 bx ox bp op m (gwJ 0 k) q 0) (OS := [oJi c 0]) (fl := [.g]) hF hro h0' ?_) fun r1 vs ms os hq => ?_
 ·have hn' := jlGo r bx ox bp op m k c q
  simp only [hz.nn, Bool.and_true, cond_true] at hn'
  exact (hn' _ _ _ _).trans (qq_ok ⟨rfl, rfl, rfl⟩)
 obtain ⟨rfl, rfl, rfl, rfl⟩ := hq
 refine ReachG.seqC (o1 := ⟨lJ5, fun r2 vs ms os => r2 = r1 ∧ ∃ k1 w1, k1 ≤ k ∧ k1 ≤ 20 ∧ vs = vJ5 bx ox bp op m (gwJ 0 k1) q w1 ∧ ms = [] ∧ os = [oJi c 0]⟩) ?_ fun r2 vs ms os hq => ?_
 ·have hn' := jlHo r1 bx ox bp op m k c q
  by_cases c0 : 0 < k
  ·have e1 : IntKind.wrap .i64 (Int.ofNat k - Int.ofNat 1) = ((k - 1 : Nat) : Int) := by
    have : Int.ofNat k - Int.ofNat 1 = ((k - 1 : Nat) : Int) := by simp; omega
    rw [this]
    have := hz.k20
    exact wrI (by omega)
   simp only [dT (show Int.ofNat k > 0 by simp; omega), e1, dT (show (0 : Int) ≤ ((k - 1 : Nat) : Int) by omega), Int.toNat_natCast, Nat.ble_eq_true_of_le (show k - 1 ≤ k by omega), show Nat.blt (k - 1) k = true from Nat.ble_eq_true_of_le (by omega), e0w, Nat.zero_add, hz.at' (k - 1) (by omega), isI_I, hz.nn, Bool.and_true, cond_true] at hn'
   dsimp +instances only [ofI_I] at hn'
   refine ReachG.mono (segO (lv := lJ5) (V := vJ5 bx ox bp op m (gwJ 0 (k - 1)) q (z (k - 1))) (OS := [oJi c 0]) (fl := [.g]) (ox := fun _ => OutsG.no) (orr := OutsG.no) hF hro h0' ((hn' _ _ _ _).trans (qq_ok ⟨rfl, rfl, rfl⟩))) fun ex r st h => ?_
   cases ex with
   | normal => exact isG_trans h (fun r vs ms os hq => IsG.here ⟨hq.1, k - 1, z (k - 1), by omega, by have := hz.k20; omega, hq.2.1, hq.2.2.1, hq.2.2.2⟩)
   | exit id => exact isG_trans h (fun r vs ms os hq => hq.elim)
   | ret => exact isG_trans h (fun r vs ms os hq => hq.elim)
   | _ => exact h
  ·obtain rfl : k = 0 := by omega
   simp only [dF (show ¬ Int.ofNat 0 > 0 by simp), cond_false, hz.nn, Bool.and_true, cond_true] at hn'
   refine ReachG.mono (segO (lv := lJ5) (V := vJ5 bx ox bp op m (gwJ 0 0) q 0) (OS := [oJi c 0]) (fl := [.g]) (ox := fun _ => OutsG.no) (orr := OutsG.no) hF hro h0' ((hn' _ _ _ _).trans (qq_ok ⟨rfl, rfl, rfl⟩))) fun ex r st h => ?_
   cases ex with
   | normal => exact isG_trans h (fun r vs ms os hq => IsG.here ⟨hq.1, 0, 0, by omega, by omega, hq.2.1, hq.2.2.1, hq.2.2.2⟩)
   | exit id => exact isG_trans h (fun r vs ms os hq => hq.elim)
   | ret => exact isG_trans h (fun r vs ms os hq => hq.elim)
   | _ => exact h
 obtain ⟨rfl, k1, w1, hk1, hk20, rfl, rfl, rfl⟩ := hq
 have hz1 := hz.less hk1
 obtain ⟨x, hx⟩ := hJ.num
 refine ReachG.seqC (o1 := ⟨lJ5, fun r3 vs ms os => r3 = r2 ∧ vs = vJ5 bx ox bp op m (gwJ 0 k1) q w1 ∧ ms = [] ∧ os = [oJi c 0]⟩) (ReachG.segR (SC_ok r2) (tJ7o_ok hJ.hmt hJ.tab hTl hck hz1.at' x) (tm := .nil) (L := 1) (L' := 1) (d := 1) (n0 := 0) hF hro h0' [] (on := ⟨lJ5, [.g], fun vs ms os => vs = vJ5 bx ox bp op m (gwJ 0 k1) q w1 ∧ ms = [] ∧ os = [oJi c 0]⟩) (ox := fun _ => Outs.no) (orr := ⟨[6], [], fun _ _ _ => False⟩) (fun p hp => nomatch hp) ?_ (fun vs ms os h => IsG.here ⟨rfl, h⟩) (fun _ _ _ _ h => h.elim) (fun _ _ _ h => h.elim)) fun r3 vs ms os hq => ?_
 ·have hn' := jlIo r2 bx ox bp op m k1 c q w1 T x (twB T x) (thB T x)
  have x0 : r2 bx ox = some (I (x 0)) := hx 0 (by omega)
  have x1 : r2 bx (Nat.succ ox) = some (I (x 1)) := hx 1 (by omega)
  have x2 : r2 bx (Nat.succ (Nat.succ ox)) = some (I (x 2)) := hx 2 (by omega)
  have x3 : r2 bx (Nat.succ (Nat.succ (Nat.succ ox))) = some (I (x 3)) := hx 3 (by omega)
  have rg : m_rg (RS bp op m 0) k1 c (RS bp op m 0) k1 unk c = true := @decide_eq_true _ (Classical.propDecidable _) ⟨rfl, rfl, by decide, rfl⟩
  simp only [x0, x1, x2, x3, isI_I, cond_true] at hn'
  dsimp +instances only [ofI_I] at hn'
  simp only [svv_rfl, rg, hz1.nn, Bool.and_true, cond_true] at hn'
  cases h1 : twB T x <;> cases h2 : thB T x <;> cases h3 : m_rv T k1 c w1 <;> simp only [h1, h2, h3, cond_true, cond_false] at hn' ⊢ <;> exact (hn' _ _ _).trans (qq_ok ⟨rfl, rfl, rfl⟩)
 obtain ⟨rfl, rfl, rfl, rfl⟩ := hq
 refine ReachG.seqC (jx_o (by omega) (by omega) hz1.nn hF hro h0' hJ) fun r4 vs ms os hq => ?_
 obtain ⟨hJ4, rfl, rfl, rfl⟩ := hq
 refine ReachG.seqC (ja_o hz1 hF hro h0') fun r5 vs ms os hq => ?_
 obtain ⟨rfl, c5, z5, hz5, hin, rfl, rfl, rfl⟩ := hq
 obtain ⟨k2, hk2⟩ : ∃ k2, k2 = min k1 12 := ⟨_, rfl⟩
 refine ReachG.seqC (segO (lv := lJ5) (V := vJ5 bx ox bp op m (gwJ 0 k2) q w1) (OS := [oJi c5 0]) (fl := [.g]) hF hro h0' ?_) fun r6 vs ms os hq => ?_
 ·have hn' := jlQo r5 bx ox bp op m k1 c5 q w1
  simp only [min12, ← hk2, show ∀ x : Nat, Int.toNat (Int.ofNat x) = x from fun _ => rfl, dT (show (0 : Int) ≤ Int.ofNat k2 by simp), Nat.ble_eq_true_of_le (show k2 ≤ k1 by omega), hz5.nn, Bool.and_true, cond_true] at hn'
  exact (hn' _ _ _ _).trans (qq_ok ⟨rfl, rfl, rfl⟩)
 obtain ⟨rfl, rfl, rfl, rfl⟩ := hq
 have hz6 := hz5.less (show k2 ≤ k1 by omega)
 obtain ⟨w2, hw2, hw0, hw10⟩ := mod_in w1 (m := 10) (by omega) (by omega)
 refine ReachG.seqC (segO (lv := lJ5) (V := vJ5 bx ox bp op m (gwJ 0 k2) q w2) (OS := [oJi c5 0]) (fl := [.g]) hF hro h0' ?_) fun r7 vs ms os hq => ?_
 ·have hn' := jlRo r6 bx ox bp op m k2 c5 q w1
  simp only [hw2, hz6.nn, Bool.and_true, cond_true] at hn'
  exact (hn' _ _ _ _).trans (qq_ok ⟨rfl, rfl, rfl⟩)
 obtain ⟨rfl, rfl, rfl, rfl⟩ := hq
 refine ReachG.seqC (o1 := ⟨lJ5, fun r8 vs ms os => JI γ W r8 bx ox bp op T ∧ vs = vJ5 bx ox bp op m (gwJ 0 k2) q w2 ∧ ms = [] ∧ os = [oJi c5 0]⟩) (ReachG.seqC (segO (lv := [4, 7, 8, 9, 10, 108]) (V := vJ5 bx ox bp op m (gwJ 0 k2) q w2 ++ [some (.bool (decide (0 < k2)))]) (OS := [oJi c5 0]) (fl := [.g]) hF hro h0' ?_) fun r8 vs ms os hq => ?_) fun r8 vs ms os hq => ?_
 ·have hn' := jlSo r7 bx ox bp op m k2 c5 q w2
  by_cases c0 : 0 < k2
  ·simp only [dT (show Int.ofNat k2 > 0 by simp; omega), hz6.nn, Bool.and_true, cond_true] at hn'
   exact (hn' _ _ _ _).trans (qq_ok ⟨by rw [dT c0]; rfl, rfl, rfl⟩)
  ·simp only [dF (show ¬ Int.ofNat k2 > 0 by simp; omega), cond_false, hz6.nn, Bool.and_true, cond_true] at hn'
   exact (hn' _ _ _ _).trans (qq_ok ⟨by rw [dF c0]; rfl, rfl, rfl⟩)
 ·obtain ⟨rfl, rfl, rfl, rfl⟩ := hq
  refine ReachG.cond (v := decide (0 < k2)) (by kernel_rfl) (fun hv => ?_) fun hv => ?_
  ·rw [hv]
   have hv := of_decide_eq_true hv
   exact jt_all hz6 hv (by omega) (fun j hj => hin j (by omega)) ⟨hw0, by simpa using hw10⟩ hJ4 hF hro h0'
  ·rw [hv]
   refine ReachG.segR (SC_ok r8) TOk.nil (tm := .nil) (L := 1) (L' := 1) (d := 1) (n0 := 0) hF hro h0' [] (on := ⟨lJ5, [.g], fun vs ms os => vs = vJ5 bx ox bp op m (gwJ 0 k2) q w2 ∧ ms = [] ∧ os = [oJi c5 0]⟩) (ox := fun _ => Outs.no) (orr := Outs.no) (fun p hp => nomatch hp) ?_ (fun vs ms os h => IsG.here ⟨hJ4, h⟩) (fun _ _ _ _ h => h.elim) (fun _ _ _ h => h.elim)
   have hn' := jlSko r8 bx ox bp op m k2 c5 q w2
   simp only [hz6.nn, Bool.and_true, cond_true] at hn'
   exact (hn' _ _ _ _).trans (qq_ok ⟨rfl, rfl, rfl⟩)
 obtain ⟨hJ8, rfl, rfl, rfl⟩ := hq
 obtain ⟨z9, hz9⟩ := hz6.push (show k2 ≤ 20 by omega) w2
 refine ReachG.segR (SC_ok r8) TOk.nil (tm := .nil) (L := 1) (L' := 1) (d := 1) (n0 := 0) hF hro h0' [] (on := ⟨lJ4, [.g], fun vs ms os => vs = vJ4 bx ox bp op m (gwJ 0 (k2 + 1)) q ∧ ms = [] ∧ os = [oJi (c5.take k2 ++ [I w2]) 0]⟩) (ox := fun _ => Outs.no) (orr := Outs.no) (fun p hp => nomatch hp) ?_ (fun vs ms os h => IsG.here ⟨hJ8, k2 + 1, _, z9, hz9, h.1, h.2.1, h.2.2⟩) (fun _ _ _ _ h => h.elim) (fun _ _ _ h => h.elim)
 have hn' := jlTo r8 bx ox bp op m k2 c5 q w2
 have m1 : Nat.ble (Nat.add k2 1) 1000000 = true := Nat.ble_eq_true_of_le (by simp only [Nat.add_eq]; omega)
 have tk : takeAt c5 0 (Nat.mul k2 1) = some (c5.take k2) := by
  rw [show Nat.mul k2 1 = k2 by simp]
  refine takeAt_all c5 k2 0 _ (by have := hz6.len; simp; omega) fun j hj => ?_
  rw [Nat.zero_add, List.getElem?_take_of_lt hj]
 have s1 : m_nns (c5.take k2 ++ [I w2]) = true := by rw [nns_app, nns_take c5 k2 hz6.nn]; rfl
 simp only [m1, tk, s1, Bool.and_true, cond_true] at hn'
 exact (hn' _ _ _ _).trans (qq_ok ⟨rfl, rfl, rfl⟩)
end
end Go.Proofs
namespace Go.Proofs
open Go Go.Ev Go.Num
section
variable {r : Mem} {bx ox bp op m q k : Nat} {c : List Value} {z : Nat → Int} {T : List (List Bool)} {F : Fence} {kk : Nat} {γ : Gam} {W : World}
theorem rd_n (hTl : T.length = m) (hck : ckO T = true) (hJ : JI γ W r bx ox bp op T) (hF : Wide F) (hro : RoRel γ none F.round) (h0' : ∀ i, 0 ≤ i → γ i = none) {ox2 : Nat → OutsG} {orr : OutsG} :
  ReachG Tryz.prog mJl 162 F kk γ W cRd r (St.of lJ4 (vJ4 bx ox bp op m nilT q) [] []) (CanG Tryz.prog mJl 162 γ W ⟨lJ4, fun r1 vs ms os => JI γ W r1 bx ox bp op T ∧ ∃ k' c' z', RowO c' k' z' ∧ vs = vJ4 bx ox bp op m (gwJ 0 k') q ∧ ms = [] ∧ os = [oJi c' 0]⟩ ox2 orr) := by
 have hm := ck_len hck
 unfold cRd
 refine ReachG.seqC (segO (lv := lJ5) (V := vJ5 bx ox bp op m nilT q 0) (OS := []) (fl := []) hF hro h0' ((jlGn r bx ox bp op m q _ _ _ _).trans (qq_ok ⟨rfl, rfl, rfl⟩))) fun r1 vs ms os hq => ?_
 obtain ⟨rfl, rfl, rfl, rfl⟩ := hq
 refine ReachG.seqC (segO (lv := lJ5) (V := vJ5 bx ox bp op m nilT q 0) (OS := []) (fl := []) hF hro h0' ((jlHn r1 bx ox bp op m q _ _ _ _).trans (qq_ok ⟨rfl, rfl, rfl⟩))) fun r2 vs ms os hq => ?_
 obtain ⟨rfl, rfl, rfl, rfl⟩ := hq
 obtain ⟨x, hx⟩ := hJ.num
 refine ReachG.seqC (o1 := ⟨lJ5, fun r3 vs ms os => r3 = r2 ∧ vs = vJ5 bx ox bp op m nilT q 0 ∧ ms = [] ∧ os = []⟩) (ReachG.segR (SC_ok r2) (tJ7n_ok hJ.hmt hJ.tab hTl hck x 0) (tm := .nil) (L := 1) (L' := 1) (d := 1) (n0 := 0) hF hro h0' [] (on := ⟨lJ5, [], fun vs ms os => vs = vJ5 bx ox bp op m nilT q 0 ∧ ms = [] ∧ os = []⟩) (ox := fun _ => Outs.no) (orr := ⟨[6], [], fun _ _ _ => False⟩) (fun p hp => nomatch hp) ?_ (fun vs ms os h => IsG.here ⟨rfl, h⟩) (fun _ _ _ _ h => h.elim) (fun _ _ _ h => h.elim)) fun r3 vs ms os hq => ?_
 ·have hn' := jlIn r2 bx ox bp op m q 0 T x (twB T x) (thB T x)
  have x0 : r2 bx ox = some (I (x 0)) := hx 0 (by omega)
  have x1 : r2 bx (Nat.succ ox) = some (I (x 1)) := hx 1 (by omega)
  have x2 : r2 bx (Nat.succ (Nat.succ ox)) = some (I (x 2)) := hx 2 (by omega)
  have x3 : r2 bx (Nat.succ (Nat.succ (Nat.succ ox))) = some (I (x 3)) := hx 3 (by omega)
  simp only [x0, x1, x2, x3, isI_I, cond_true] at hn'
  dsimp +instances only [ofI_I] at hn'
  simp only [svv_rfl, Bool.and_true, cond_true] at hn'
  cases h1 : twB T x <;> cases h2 : thB T x <;> simp only [h1, h2, cond_true, cond_false] at hn' ⊢ <;> exact (hn' _ _ _).trans (qq_ok ⟨rfl, rfl, rfl⟩)
 obtain ⟨rfl, rfl, rfl, rfl⟩ := hq
 refine ReachG.seqC (jx_n (by omega) (by omega) hF hro h0' hJ) fun r4 vs ms os hq => ?_
 obtain ⟨hJ4, rfl, rfl, rfl⟩ := hq
 refine ReachG.seqC (o1 := ⟨lJ5, fun r5 vs ms os => r5 = r4 ∧ vs = vJ5 bx ox bp op m nilT q 0 ∧ ms = [] ∧ os = []⟩) (ReachG.seqC (segO (lv := lJ7) (V := vJ7 bx ox bp op m nilT q 0 0) (OS := []) (fl := []) hF hro h0' ((jlOn r4 bx ox bp op m q 0 _ _ _ _).trans (qq_ok ⟨rfl, rfl, rfl⟩))) fun r5 vs ms os hq => ?_) fun r5 vs ms os hq => ?_
 ·obtain ⟨rfl, rfl, rfl, rfl⟩ := hq
  refine ReachG.blockC (ReachG.loopC (j := 0) (lv := lJ7) (I := fun j r2 vs ms os => r2 = r5 ∧ vs = vJ7 bx ox bp op m nilT q 0 0 ∧ ms = [] ∧ os = []) (fun j r2 vs ms os hI => ?_) ⟨rfl, rfl, rfl, rfl⟩)
  obtain ⟨rfl, rfl, rfl, rfl⟩ := hI
  refine ReachG.segR (SC_ok r2) TOk.nil (tm := .nil) (L := 1) (L' := 1) (d := 1) (n0 := 0) hF hro h0' [(4, ⟨lJ5, [], fun vs ms os => vs = vJ5 bx ox bp op m nilT q 0 ∧ ms = [] ∧ os = []⟩)] (on := ⟨lJ7, [], fun _ _ _ => False⟩) (ox := fun j => if j = 4 then ⟨lJ5, [], fun vs ms os => vs = vJ5 bx ox bp op m nilT q 0 ∧ ms = [] ∧ os = []⟩ else Outs.no) (orr := Outs.no) (fun p hp => by simp only [List.mem_cons, List.not_mem_nil, or_false] at hp; subst hp; rfl) ((jlPn r2 bx ox bp op m q 0 0 _ _ _ _).trans (qq_ok ⟨rfl, rfl, rfl⟩)) (fun vs ms os h => h.elim) (fun id vs ms os h => ?_) (fun _ _ _ h => h.elim)
  by_cases e : id = 4
  ·subst e
   exact IsG.here ⟨rfl, h⟩
  ·simp only [if_neg e] at h; exact h.elim
 obtain ⟨rfl, rfl, rfl, rfl⟩ := hq
 refine ReachG.seqC (segO (lv := lJ5) (V := vJ5 bx ox bp op m nilT q 0) (OS := []) (fl := []) hF hro h0' ((jlQn r5 bx ox bp op m q 0 _ _ _ _).trans (qq_ok ⟨rfl, rfl, rfl⟩))) fun r6 vs ms os hq => ?_
 obtain ⟨rfl, rfl, rfl, rfl⟩ := hq
 obtain ⟨w2, hw2, hw0, hw10⟩ := mod_in 0 (m := 10) (by omega) (by omega)
 refine ReachG.seqC (segO (lv := lJ5) (V := vJ5 bx ox bp op m nilT q w2) (OS := []) (fl := []) hF hro h0' ?_) fun r7 vs ms os hq => ?_
 ·have hn' := jlRn r6 bx ox bp op m q 0
  simp only [hw2] at hn'
  exact (hn' _ _ _ _).trans (qq_ok ⟨rfl, rfl, rfl⟩)
 obtain ⟨rfl, rfl, rfl, rfl⟩ := hq
 refine ReachG.seqC (o1 := ⟨lJ5, fun r8 vs ms os => r8 = r7 ∧ vs = vJ5 bx ox bp op m nilT q w2 ∧ ms = [] ∧ os = []⟩) (ReachG.seqC (segO (lv := [4, 7, 8, 9, 10, 108]) (V := vJ5 bx ox bp op m nilT q w2 ++ [some (.bool false)]) (OS := []) (fl := []) hF hro h0' ((jlSn r7 bx ox bp op m q w2 _ _ _ _).trans (qq_ok ⟨rfl, rfl, rfl⟩))) fun r8 vs ms os hq => ?_) fun r8 vs ms os hq => ?_
 ·obtain ⟨rfl, rfl, rfl, rfl⟩ := hq
  refine ReachG.cond (v := false) (by kernel_rfl) (fun hv => nomatch hv) fun hv => ?_
  exact segO (lv := lJ5) (V := vJ5 bx ox bp op m nilT q w2) (OS := []) (fl := []) hF hro h0' ((jlSkn r8 bx ox bp op m q w2 _ _ _ _).trans (qq_ok ⟨rfl, rfl, rfl⟩))
 obtain ⟨rfl, rfl, rfl, rfl⟩ := hq
 exact ReachG.segR (SC_ok r8) TOk.nil (tm := .nil) (L := 1) (L' := 1) (d := 1) (n0 := 0) hF hro h0' [] (on := ⟨lJ4, [.g], fun vs ms os => vs = vJ4 bx ox bp op m (gwJ 0 1) q ∧ ms = [] ∧ os = [oJi [I w2] 0]⟩) (ox := fun _ => Outs.no) (orr := Outs.no) (fun p hp => nomatch hp) ((jlTn r8 bx ox bp op m q w2 _ _ _ _).trans (qq_ok ⟨rfl, rfl, rfl⟩)) (fun vs ms os h => IsG.here ⟨hJ4, 1, [I w2], fun _ => w2, ⟨rfl, by omega, by simp, fun j hj => by
  obtain rfl : j = 0 := by omega
  rfl⟩, h.1, h.2.1, h.2.2⟩) (fun _ _ _ _ h => h.elim) (fun _ _ _ h => h.elim)
theorem Jl_cRd : cJl = (.seq Jl_0 (.seq Jl_1 (.seq Jl_2 (.seq (.seq Jl_3 (.block 0 (.loop (.seq Jl_4 (.seq (.block 1 cRd) Jl_26))))) Jl_27)))) := Jl_eq
def RowN (a : Value) (os : OO) : Prop := (a = nilT ∧ os = []) ∨ ∃ k c z, RowO c k z ∧ a = gwJ 0 k ∧ os = [oJi c 0]
theorem rd_all {a : Value} {os0 : OO} (ha : RowN a os0) (hTl : T.length = m) (hck : ckO T = true) (hJ : JI γ W r bx ox bp op T) (haw : ∀ r : Mem, (∀ b j u, tabM b j = some u → r b j = some u) → GrT Tryz.prog r 15 [] (.bool true)) (hF : Wide F) (hro : RoRel γ none F.round) (h0' : ∀ i, 0 ≤ i → γ i = none) {on : OutsG} {ox2 : Nat → OutsG} :
  ReachG Tryz.prog mJl 162 F kk γ W (.seq (.seq Jl_3 (.block 0 (.loop (.seq Jl_4 (.seq (.block 1 cRd) Jl_26))))) Jl_27) r (St.of [4, 7, 8] [some (pX bx ox), some (RS bp op m 0), some a] [] os0) (CanG Tryz.prog mJl 162 γ W on ox2 ⟨[6], fun r1 vs ms os => vs = [some (.bool true)] ∧ ms = [] ∧ os = []⟩) := by
 refine ReachG.seqC (o1 := ⟨[], fun r1 vs ms os => (∀ b j u, tabM b j = some u → r1 b j = some u) ∧ vs = [] ∧ ms = [] ∧ os = []⟩) (ReachG.seqC (o1 := ⟨lJ4, fun r1 vs ms os => r1 = r ∧ vs = vJ4 bx ox bp op m a 0 ∧ ms = [] ∧ os = os0⟩) ?_ fun r1 vs ms os hq => ?_) fun r1 vs ms os hq => ?_
 ·rcases ha with ⟨rfl, rfl⟩ | ⟨k, c, z, hz, rfl, rfl⟩
  ·exact segO (fl := []) hF hro h0' ((jlEn r bx ox bp op m _ _ _ _).trans (qq_ok ⟨rfl, rfl, rfl⟩))
  ·refine segO (fl := [.g]) hF hro h0' ?_
   have hn' := jlEo r bx ox bp op m k c
   simp only [hz.nn, Bool.and_true, cond_true] at hn'
   exact (hn' _ _ _ _).trans (qq_ok ⟨rfl, rfl, rfl⟩)
 ·obtain ⟨rfl, rfl, rfl, rfl⟩ := hq
  refine ReachG.blockC (ReachG.loopC (j := 2) (lv := lJ4) (I := fun j r2 vs ms os => JI γ W r2 bx ox bp op T ∧ ∃ i a, i ≤ 2 ∧ j = 2 - i ∧ RowN a os ∧ vs = vJ4 bx ox bp op m a i ∧ ms = []) (fun j r2 vs ms os hI => ?_) ⟨hJ, 0, a, by omega, rfl, ha, rfl, rfl⟩)
  obtain ⟨hJ2, i, a, hi, rfl, ha, rfl, rfl⟩ := hI
  have step : ReachG Tryz.prog mJl 162 F kk γ W Jl_4 r2 (St.of lJ4 (vJ4 bx ox bp op m a i) [] os) (CanG Tryz.prog mJl 162 γ W ⟨lJ4, fun r3 vs ms os' => r3 = r2 ∧ i < 2 ∧ vs = vJ4 bx ox bp op m a i ∧ ms = [] ∧ os' = os⟩ (fun j => if j = 0 then ⟨[], fun r1 vs ms os => (∀ b j u, tabM b j = some u → r1 b j = some u) ∧ vs = [] ∧ ms = [] ∧ os = []⟩ else ox2 j) ⟨[6], fun r1 vs ms os => vs = [some (.bool true)] ∧ ms = [] ∧ os = []⟩) := by
   rcases ha with ⟨rfl, rfl⟩ | ⟨k, c, z, hz, rfl, rfl⟩
   ·refine segX (fl := []) (lv2 := []) (fl2 := []) (V2 := []) (OS2 := []) 0 hF hro h0' ?_ (fun h => ?_)
    ·have hn' := jlFn r2 bx ox bp op m i
     by_cases ci : i < 2
     ·simp only [dT (show Int.ofNat i < 2 by simp; omega), cond_true] at hn'
      exact (hn' _ _ _ _).trans (qq_ok ⟨ci, rfl, rfl, rfl⟩)
     ·simp only [dF (show ¬ Int.ofNat i < 2 by simp; omega), cond_false] at hn'
      exact (hn' _ _ _ _).trans (qq_ok ⟨ci, rfl, rfl, rfl⟩)
    ·simp only [if_true]
     exact IsG.here ⟨hJ2.hmt, rfl, rfl, rfl⟩
   ·refine segX (fl := [.g]) (lv2 := []) (fl2 := []) (V2 := []) (OS2 := []) 0 hF hro h0' ?_ (fun h => ?_)
    ·have hn' := jlFo r2 bx ox bp op m k c i
     by_cases ci : i < 2
     ·simp only [dT (show Int.ofNat i < 2 by simp; omega), hz.nn, Bool.and_true, cond_true] at hn'
      exact (hn' _ _ _ _).trans (qq_ok ⟨ci, rfl, rfl, rfl⟩)
     ·simp only [dF (show ¬ Int.ofNat i < 2 by simp; omega), cond_false] at hn'
      exact (hn' _ _ _ _).trans (qq_ok ⟨ci, rfl, rfl, rfl⟩)
    ·simp only [if_true]
     exact IsG.here ⟨hJ2.hmt, rfl, rfl, rfl⟩
  refine ReachG.seqC step fun r3 vs ms os' hq => ?_
  obtain ⟨rfl, ci, rfl, rfl, rfl⟩ := hq
  refine ReachG.seqC (o1 := ⟨lJ4, fun r1 vs ms os => JI γ W r1 bx ox bp op T ∧ ∃ k' c' z', RowO c' k' z' ∧ vs = vJ4 bx ox bp op m (gwJ 0 k') i ∧ ms = [] ∧ os = [oJi c' 0]⟩) (ReachG.blockC ?_) fun r4 vs ms os hq => ?_
  ·rcases ha with ⟨rfl, rfl⟩ | ⟨k, c, z, hz, rfl, rfl⟩
   ·exact rd_n hTl hck hJ2 hF hro h0'
   ·exact rd_o hz hTl hck hJ2 hF hro h0'
  obtain ⟨hJ4, k', c', z', hz', rfl, rfl, rfl⟩ := hq
  refine ReachG.segR (SC_ok r4) TOk.nil (tm := .nil) (L := 1) (L' := 1) (d := 1) (n0 := 0) hF hro h0' [] (on := ⟨lJ4, [.g], fun vs ms os => vs = vJ4 bx ox bp op m (gwJ 0 k') (i + 1) ∧ ms = [] ∧ os = [oJi c' 0]⟩) (ox := fun _ => Outs.no) (orr := Outs.no) (fun p hp => nomatch hp) ?_ (fun vs ms os h => IsG.here ⟨2 - (i + 1), by omega, hJ4, i + 1, gwJ 0 k', by omega, rfl, .inr ⟨k', c', z', hz', rfl, h.2.2⟩, h.1, h.2.1⟩) (fun _ _ _ _ h => h.elim) (fun _ _ _ h => h.elim)
  have hn' := jlU r4 bx ox bp op m k' c' i
  simp only [hz'.nn, Bool.and_true, cond_true, Int.ofNat_eq_natCast] at hn'
  rw [w1w i (by omega)] at hn'
  exact (hn' _ _ _ _).trans (qq_ok ⟨rfl, rfl, rfl⟩)
 ·obtain ⟨hmt, rfl, rfl, rfl⟩ := hq
  exact ReachG.segR (SC_ok r1) (TOk.nil.cons (e0_ok (haw r1 hmt))) (tm := .nil) (L := 1) (L' := 1) (d := 1) (n0 := 0) hF hro h0' [] (on := ⟨[6], [], fun _ _ _ => False⟩) (ox := fun _ => Outs.no) (orr := ⟨[6], [], fun vs ms os => vs = [some (.bool true)] ∧ ms = [] ∧ os = []⟩) (fun p hp => nomatch hp) ((jlV r1 _ _ _).trans (qq_ok ⟨rfl, rfl, rfl⟩)) (fun _ _ _ h => h.elim) (fun _ _ _ _ h => h.elim) (fun vs ms os h => IsG.here h)
end
end Go.Proofs
namespace Go.Proofs
open Go Go.Ev
def rfAs : Code → Code | .rangeFunc _ _ a _ => a | c => c
def rfBd : Code → Code | .rangeFunc _ _ _ b => b | c => c
noncomputable def cKs : Code := bodyOf S0 82
noncomputable def cAq : Code := bodyOf S0 97
noncomputable def cCo : Code := bodyOf S0 80
abbrev seqV : Value := .func (.func 82) ⟨[]⟩ ⟨[.pointer (some ⟨0, 0, none⟩)]⟩
def AK0 (e z clock : Nat) (es : List MapEntry) : AW := ⟨2, .node (.node .nil (some (.map es clock)) .nil) (some (.cells [.map (some 1)] e 0 z)) .nil, .nil⟩
noncomputable def k_aqA : Code := rfAs (ic (rc (lc (rc cAq))))
noncomputable def k_aqB : Code := rfBd (ic (rc (lc (rc cAq))))
def TQ : Tr Value := .node (.node .nil (some seqV) .nil) (some (.slice none 0 0)) (.node (.node .nil (some (.slice none 0 0)) .nil) (some (.pointer (some ⟨2, 0, none⟩))) .nil)
noncomputable def AKg (e z clock : Nat) (es : List MapEntry) (n : Nat) (sv : Value) (s5 s6 : Tr AObj) : AW :=
 ⟨n, .node (.node (.node .nil (some .defd) .nil) (some (.map es clock)) s5) (some (.cells [.map (some 1)] e 0 z)) (.node (.node .nil (some (.loop .ready none 183 ⟨[(6, seqV)], TQ⟩ 13 ⟨[7]⟩ k_aqA k_aqB 3)) .nil) (some (.cells [sv] 62 2 0)) s6), .nil⟩
def miT (clock : Nat) (seen : List Nat) : Tr AObj := .node .nil (some (.miter 1 clock seen clock)) .nil
def rwT (i : Nat) (l : List Value) : Tr AObj := .node .nil (some (.cells l 56 i 1)) .nil
def yK : List Value := [.func (.yield 4) ⟨[]⟩ ⟨[]⟩, .pointer (some ⟨0, 0, none⟩)]
def TK : Tr Value := .node (.node .nil (some (.pointer (some ⟨0, 0, none⟩))) (.node .nil (some (.pointer (some ⟨5, 0, none⟩))) .nil)) (some (.func (.yield 4) ⟨[]⟩ ⟨[]⟩)) .nil
def TKz (z : Int) : Tr Value := .node (.node (.node .nil (some (.int .u16 z)) .nil) (some (.pointer (some ⟨0, 0, none⟩))) (.node .nil (some (.pointer (some ⟨5, 0, none⟩))) .nil)) (some (.func (.yield 4) ⟨[]⟩ ⟨[]⟩)) .nil
theorem kyB (r : Mem) (L : Nat) (fs : FnsC) (e z clock : Nat) (es : List MapEntry) (kn : KS) (kx : Nat → KS) (kr : KS) (ms : List Nat) : run (SC r) 43 14 L (lc cKs) fs none kn kx kr (sc0 43 yK) (tr0 43 yK) ms (AKg e z clock es 5 (.slice none 0 0) .nil .nil) =
    kn [(4, Value.map (some 1))] (.node (.node .nil (some (.pointer (some ⟨0, 0, none⟩))) (.node .nil (some (.pointer (some ⟨5, 0, none⟩))) .nil)) (some (.func (Fn.yield 4) ⟨[]⟩ ⟨[]⟩)) .nil) ms (AW.mk 6 (.node (.node (.node .nil (some .defd) .nil) (some (AObj.map es clock)) (.node .nil (some (AObj.miter 1 clock [] clock)) .nil)) (some (.cells [Value.map (some 1)] e 0 z)) (.node (.node .nil (some (AObj.loop LoopState.ready none 183 (En.mk [(6, .func (Fn.func 82) ⟨[]⟩ ⟨[.pointer (some ⟨0, 0, none⟩)]⟩)] (.node (.node .nil (some (.func (Fn.func 82) ⟨[]⟩ ⟨[.pointer (some ⟨0, 0, none⟩)]⟩)) .nil) (some (.slice none 0 0)) (.node (.node .nil (some (.slice none 0 0)) .nil) (some (.pointer (some ⟨2, 0, none⟩))) .nil))) 13 ⟨[7]⟩ k_aqA k_aqB 3)) .nil) (some (.cells [.slice none 0 0] 62 2 0)) .nil)) .nil) := by kernel_rfl
theorem kyC (r : Mem) (L : Nat) (fs : FnsC) (s : List (Nat × Value)) (b : Tr Value) (q : Bool) (kn : KS) (kx : Nat → KS) (kr : KS) (ms : List Nat) (A : AW) : run (SC r) 43 14 L (lc (rc (ic (ic (rc cKs))))) fs none kn kx kr ((7, .bool q) :: s) b ms A =
    bif q then kn ((7, .bool q) :: s) b ms A else kx 0 ((7, .bool q) :: s) b ms A := by kernel_rfl
theorem kyP (r : Mem) (fs : FnsC) (kn : KS) (ms : List Nat) (A : AW) : preK (SC r) 43 14 (lc (ic (ic (rc cKs)))) 0 fs kn [] TK ms A =
    kn [] (.node (.node .nil (some (.pointer (some ⟨0, 0, none⟩))) (.node .nil (some (.pointer (some ⟨5, 0, none⟩))) .nil)) (some (.func (Fn.yield 4) ⟨[]⟩ ⟨[]⟩)) .nil) ms A := by kernel_rfl
theorem kyN (r : Mem) (fs : FnsC) (x : Int) (vb : Bool) (kn : KS) (ms : List Nat) (A : AW) : tailK (SC r) 43 14 (lc (ic (ic (rc cKs)))) 0 fs kn (.tuple ⟨[.bool true, .int .u16 x, .bool vb]⟩) [] TK ms A =
    kn [(7, .bool true), (6, .tuple ⟨[.bool true, .int .u16 x, .bool vb]⟩)] (.node (.node .nil (some (.pointer (some ⟨0, 0, none⟩))) (.node .nil (some (.pointer (some ⟨5, 0, none⟩))) .nil)) (some (.func (Fn.yield 4) ⟨[]⟩ ⟨[]⟩)) .nil) ms A := by kernel_rfl
theorem kyM (r : Mem) (fs : FnsC) (kn : KS) (ms : List Nat) (A : AW) : tailK (SC r) 43 14 (lc (ic (ic (rc cKs)))) 0 fs kn (.tuple ⟨[.bool false]⟩) [] TK ms A =
    kn [(7, .bool false), (6, .tuple ⟨[.bool false]⟩)] (.node (.node .nil (some (.pointer (some ⟨0, 0, none⟩))) (.node .nil (some (.pointer (some ⟨5, 0, none⟩))) .nil)) (some (.func (Fn.yield 4) ⟨[]⟩ ⟨[]⟩)) .nil) ms A := by kernel_rfl
theorem kyQ (r : Mem) (fs : FnsC) (kn : KS) (ms : List Nat) (A : AW) : preK (SC r) 43 14 (lc (ic (rc (rc (ic (ic (rc cKs))))))) 0 fs kn [] TK ms A =
    kn [] (.node (.node .nil (some (.pointer (some ⟨0, 0, none⟩))) (.node .nil (some (.pointer (some ⟨5, 0, none⟩))) .nil)) (some (.func (Fn.yield 4) ⟨[]⟩ ⟨[]⟩)) .nil) ms A := by kernel_rfl
theorem kyE (r : Mem) (fs : FnsC) (x : Int) (vb : Bool) (kn : KS) (ms : List Nat) (A : AW) : tailK (SC r) 43 14 (lc (ic (rc (rc (ic (ic (rc cKs))))))) 0 fs kn (.tuple ⟨[.int .u16 x, .bool vb]⟩) [] TK ms A =
    kn [(9, .int .u16 x), (8, .tuple ⟨[.int .u16 x, .bool vb]⟩)] (.node (.node (.node .nil (some (.int .u16 x)) .nil) (some (.pointer (some ⟨0, 0, none⟩))) (.node .nil (some (.pointer (some ⟨5, 0, none⟩))) .nil)) (some (.func (Fn.yield 4) ⟨[]⟩ ⟨[]⟩)) .nil) ms A := by kernel_rfl
theorem kyY (r : Mem) (L : Nat) (tm : Tr Nat) (e z clock : Nat) (es : List MapEntry) (seen : List Nat) (x : Int) (s : List (Nat × Value)) (kn : KS) (kx : Nat → KS) (kr : KS) (ms : List Nat) : run (SC r) 43 14 L (rc (ic (rc (rc (ic (ic (rc cKs))))))) (lvlT (SC r) (fun _ => none) tm L 1) none kn kx kr s (TKz x) ms (AKg e z clock es 6 (.slice none 0 0) (miT clock seen) .nil) =
    kn [(13, .bool false), (12, .bool true), (11, .int .u16 x), (10, .func (Fn.yield 4) ⟨[]⟩ ⟨[]⟩)] (.node (.node (.node .nil (some (.int .u16 x)) .nil) (some (.pointer (some ⟨0, 0, none⟩))) (.node .nil (some (.pointer (some ⟨5, 0, none⟩))) .nil)) (some (.func (Fn.yield 4) ⟨[]⟩ ⟨[]⟩)) .nil) ms (AW.mk 8 (.node (.node (.node (.node .nil (some (.cells [.int .u16 x] 56 7 1)) .nil) (some .defd) .nil) (some (AObj.map es clock)) (.node .nil (some (AObj.miter 1 clock seen clock)) .nil)) (some (.cells [Value.map (some 1)] e 0 z)) (.node (.node .nil (some (AObj.loop LoopState.ready none 183 (En.mk [(6, .func (Fn.func 82) ⟨[]⟩ ⟨[.pointer (some ⟨0, 0, none⟩)]⟩)] (.node (.node .nil (some (.func (Fn.func 82) ⟨[]⟩ ⟨[.pointer (some ⟨0, 0, none⟩)]⟩)) .nil) (some (.slice none 0 0)) (.node (.node .nil (some (.slice none 0 0)) .nil) (some (.pointer (some ⟨2, 0, none⟩))) .nil))) 13 ⟨[7]⟩ k_aqA k_aqB 3)) .nil) (some (.cells [.slice (some ⟨7, 0, none⟩) 1 unk] 62 2 0)) (.node .nil (some (.cells [.int .u16 x] 56 6 1)) .nil))) .nil) := by kernel_rfl
theorem kyZ (r : Mem) (L : Nat) (tm : Tr Nat) (e z clock : Nat) (es : List MapEntry) (seen : List Nat) (x : Int) (l : List Value) (n : Nat) (s : List (Nat × Value)) (kn : KS) (kx : Nat → KS) (kr : KS) (ms : List Nat) : run (SC r) 43 14 L (rc (ic (rc (rc (ic (ic (rc cKs))))))) (lvlT (SC r) (fun _ => none) tm L 1) none kn kx kr s (TKz x) ms (AKg e z clock es 7 (.slice (some ⟨6, 0, none⟩) n unk) (miT clock seen) (rwT 6 l)) =
    bif Nat.ble (Nat.add n 1) 1000000 then Option.casesOn (takeAt l 0 (Nat.mul n 1)) (.fail 439) fun val => kn [(13, .bool false), (12, .bool true), (11, .int .u16 x), (10, .func (Fn.yield 4) ⟨[]⟩ ⟨[]⟩)] (.node (.node (.node .nil (some (.int .u16 x)) .nil) (some (.pointer (some ⟨0, 0, none⟩))) (.node .nil (some (.pointer (some ⟨5, 0, none⟩))) .nil)) (some (.func (Fn.yield 4) ⟨[]⟩ ⟨[]⟩)) .nil) ms (AW.mk 9 (.node (.node (.node (.node .nil (some (.cells [.int .u16 x] 56 7 1)) .nil) (some .defd) .nil) (some (AObj.map es clock)) (.node .nil (some (AObj.miter 1 clock seen clock)) .nil)) (some (.cells [Value.map (some 1)] e 0 z)) (.node (.node (.node .nil (some (.cells (val ++ [.int .u16 x]) 56 6 1)) .nil) (some (AObj.loop LoopState.ready none 183 (En.mk [(6, .func (Fn.func 82) ⟨[]⟩ ⟨[.pointer (some ⟨0, 0, none⟩)]⟩)] (.node (.node .nil (some (.func (Fn.func 82) ⟨[]⟩ ⟨[.pointer (some ⟨0, 0, none⟩)]⟩)) .nil) (some (.slice none 0 0)) (.node (.node .nil (some (.slice none 0 0)) .nil) (some (.pointer (some ⟨2, 0, none⟩))) .nil))) 13 ⟨[7]⟩ k_aqA k_aqB 3)) .nil) (some (.cells [.slice (some ⟨8, 0, none⟩) (Nat.add n 1) unk] 62 2 0)) (.node .nil none .nil))) (.node .nil none (.node .nil none (.node .nil (some [8]) .nil)))) else .fail 420 := by kernel_rfl
end Go.Proofs
namespace Go.Proofs
open Go Go.Ev
abbrev K16 : Type := {x : Int // 0 ≤ x ∧ x < 65536}
abbrev KT : Type := K16 × Bool × Nat
def mkE (t : KT) : MapEntry := ⟨.int .u16 t.1.1, .bool t.2.1, t.2.2⟩
def rowK (l : List KT) : List Value := l.map fun t => .int .u16 t.1.1
def bornK (l : List KT) : List Nat := l.map fun t => t.2.2
theorem rowK_len (l : List KT) : (rowK l).length = l.length := by simp [rowK]
theorem rowK_gnd (l : List KT) : ∀ v ∈ rowK l, gnd v = true := fun v hv => by
 obtain ⟨t, _, rfl⟩ := List.mem_map.1 hv
 rfl
theorem takeAt_fullK (l : List Value) (n : Nat) (h : l.length = n) : takeAt l 0 n = some l := takeAt_all l n 0 l h fun j _ => by rw [Nat.zero_add]
theorem natFK {i j : Nat} (h : i ≠ j) : Nat.beq i j = false := by
 cases e : Nat.beq i j with
 | false => rfl
 | true => exact absurd (Nat.eq_of_beq_eq_true e) h
structure KOk (q : List KT) (clock : Nat) : Prop where
 born : ∀ t ∈ q, t.2.2 < clock
 nodup : (bornK q).Nodup
 few : q.length < 1000000
theorem left_mem {q : List KT} {seen : List Nat} {e : MapEntry} (h : e ∈ nextLeft (q.map mkE) seen) : ∃ t ∈ q, e = mkE t ∧ t.2.2 ∉ seen := by
 unfold nextLeft at h
 obtain ⟨h1, h2⟩ := List.mem_filter.1 h
 obtain ⟨t, ht, rfl⟩ := List.mem_map.1 h1
 refine ⟨t, ht, rfl, fun hm => ?_⟩
 simp [mkE, hm] at h2
theorem left_nil {q : List KT} {seen : List Nat} (h : nextLeft (q.map mkE) seen = []) : ∀ t ∈ q, t.2.2 ∈ seen := fun t ht => by
 unfold nextLeft at h
 have := List.filter_eq_nil_iff.1 h (mkE t) (List.mem_map_of_mem ht)
 simpa [mkE] using this
theorem left_done {q vis rest : List KT} {clock : Nat} (hq : KOk q clock) (hp : (vis ++ rest).Perm q) (h : nextLeft (q.map mkE) (bornK vis) = []) : rest = [] := by
 cases rest with
 | nil => rfl
 | cons t l =>
  exfalso
  have h1 := left_nil h t (hp.mem_iff.1 (by simp))
  have h2 : (bornK (vis ++ t :: l)).Nodup := (hp.map _).nodup_iff.2 hq.nodup
  unfold bornK at h1 h2
  rw [List.map_append, List.nodup_append] at h2
  exact h2.2.2 _ h1 t.2.2 (by simp) rfl
theorem left_more {q vis rest : List KT} {clock : Nat} (hq : KOk q clock) (hp : (vis ++ rest).Perm q) {e : MapEntry} (h : e ∈ nextLeft (q.map mkE) (bornK vis)) : ∃ t rest', e = mkE t ∧ rest'.length < rest.length ∧ ((vis ++ [t]) ++ rest').Perm q := by
 obtain ⟨t, ht, rfl, hn⟩ := left_mem h
 have hm : t ∈ rest := by
  rcases List.mem_append.1 (hp.mem_iff.2 ht) with h1 | h1
  ·exact absurd (List.mem_map_of_mem (f := fun t : KT => t.2.2) h1) hn
  ·exact h1
 obtain ⟨a, b, rfl⟩ := List.append_of_mem hm
 refine ⟨t, a ++ b, rfl, by simp, List.Perm.trans ?_ hp⟩
 rw [List.append_assoc]
 refine List.Perm.append_left vis ?_
 simpa using List.perm_middle.symm
theorem same_ok {q : List KT} {clock : Nat} (hq : KOk q clock) (seen : List Nat) : nextSame (q.map mkE) clock seen clock = true := by
 unfold nextSame
 simp only [Bool.and_eq_true, Bool.not_eq_true', List.all_eq_true, decide_eq_true_eq]
 refine ⟨?_, fun e he => ?_⟩
 ·cases q with
  | nil => simp
  | cons t l =>
   have := hq.born t (by simp)
   have h2 : (List.map mkE (t :: l)).all (fun e => decide (clock ≤ e.born)) = false := by
    simp [mkE]
    intro h
    omega
   rw [h2]
   simp
 ·obtain ⟨t, ht, rfl, _⟩ := left_mem he
  exact hq.born t ht
theorem find_ok {q : List KT} {clock : Nat} (hq : KOk q clock) {t : KT} (ht : t ∈ q) : (q.map mkE).find? (fun e => Nat.beq e.born t.2.2) = some (mkE t) := by
 have key : ∀ (l : List KT), (bornK l).Nodup → t ∈ l → (l.map mkE).find? (fun e => Nat.beq e.born t.2.2) = some (mkE t) := by
  intro l
  induction l with
  | nil => intro _ h; cases h
  | cons x l ih =>
   intro hn hm
   rw [List.map_cons, List.find?_cons]
   unfold bornK at hn
   rw [List.map_cons, List.nodup_cons] at hn
   rcases List.mem_cons.1 hm with rfl | hm
   ·rw [show Nat.beq (mkE t).born t.2.2 = true from Nat.beq_refl _]
   ·have hne : x.2.2 ≠ t.2.2 := fun h => hn.1 (by rw [h]; exact List.mem_map_of_mem (f := fun t : KT => t.2.2) hm)
    rw [show Nat.beq (mkE x).born t.2.2 = false from natFK hne]
    exact ih hn.2 hm
 exact key q hq.nodup ht
section
variable {r : Mem} {γ0 : Gam} {W0 : World} {e z clock : Nat} {q : List KT}
noncomputable def AKv (e z clock : Nat) (q : List KT) : List KT → AW
 | [] => AKg e z clock (q.map mkE) 6 (.slice none 0 0) (miT clock []) .nil
 | t :: l => AKg e z clock (q.map mkE) 7 (.slice (some ⟨6, 0, none⟩) (t :: l).length unk) (miT clock (bornK (t :: l))) (rwT 6 (rowK (t :: l)))
noncomputable def AKf (e z clock : Nat) (q : List KT) : List KT → AW
 | [] => AKg e z clock (q.map mkE) 5 (.slice none 0 0) .nil .nil
 | t :: l => AKg e z clock (q.map mkE) 6 (.slice (some ⟨5, 0, none⟩) (t :: l).length unk) (rwT 5 (rowK (t :: l))) .nil
noncomputable def AKn (e z clock : Nat) (q : List KT) (seen : List Nat) : List KT → AW
 | [] => AKg e z clock (q.map mkE) 6 (.slice none 0 0) (miT clock seen) .nil
 | t :: l => AKg e z clock (q.map mkE) 7 (.slice (some ⟨6, 0, none⟩) (t :: l).length unk) (miT clock seen) (rwT 6 (rowK (t :: l)))
theorem ksG (q : List KT) : ∀ x ∈ q.map mkE, gnd x.key = true ∧ gnd x.val = true := fun x hx => by
 obtain ⟨t, _, rfl⟩ := List.mem_map.1 hx
 exact ⟨rfl, rfl⟩
theorem ren_start (h0 : ∀ i, 5 ≤ i → γ0 i = none) (s : List (Nat × Value)) : Ren (SC r) 43 14 γ0 W0 ⟨⟨s, TK⟩, [], AKv e z clock q []⟩ ⟨⟨[], TK⟩, [], AKv e z clock q []⟩ := by
 refine Ren.of (fun i => i) 5 rfl h0 (Nat.le_of_ble_eq_true rfl) (fun i hi => rfl) ?_ rfl ?_ trivial
 ·simp only [Tr.All, TK]
  repeat' (first | exact trivial | apply And.intro)
  all_goals exact ⟨_, rfl, rfl⟩
 ·simp only [Tr.All, AKv, AKg, miT]
  repeat' (first | exact trivial | apply And.intro)
  all_goals first | rfl | exact .head _ | exact ⟨_, rfl, .defd⟩ | exact ⟨_, rfl, .map (ksG q)⟩ | exact ⟨_, rfl, .miter rfl rfl⟩ | exact ⟨_, rfl, .cells rfl⟩ | exact ⟨_, rfl, .plain (by skip)⟩ | skip
  refine ⟨_, rfl, .same ?_ ?_ rfl rfl⟩
  ·simp only [Tr.All, TQ]
   repeat' (first | exact trivial | apply And.intro)
   all_goals rfl
  ·simp only [scrFix]
   repeat' (first | exact trivial | apply And.intro)
   all_goals rfl
def KeySt (e z clock : Nat) (q : List KT) (j : Nat) (st : St) : Prop := ∃ vis rest, rest.length = j ∧ (vis ++ rest).Perm q ∧ st = ⟨⟨[], TK⟩, [], AKv e z clock q vis⟩
def KeyQ (r : Mem) (γ0 : Gam) (W0 : World) (e z clock : Nat) (q : List KT) : Exit → St → Prop
 | .exit id, st => id = 0 ∧ ∃ vis, vis.Perm q ∧ ∃ st1, Ren (SC r) 43 14 γ0 W0 st st1 ∧ st1 = ⟨⟨[], .nil⟩, [], AKf e z clock q vis⟩
 | _, _ => False
theorem ren_out (h0 : ∀ i, 5 ≤ i → γ0 i = none) (s : List (Nat × Value)) (vis : List KT) : Ren (SC r) 43 14 γ0 W0 ⟨⟨s, TK⟩, [], AKv e z clock q vis⟩ ⟨⟨[], .nil⟩, [], AKf e z clock q vis⟩ := by
 cases vis with
 | nil =>
  refine Ren.of (fun i => i) 5 rfl h0 (Nat.le_of_ble_eq_true rfl) (fun i hi => rfl) ?_ rfl ?_ trivial
  ·simp only [Tr.All, TK]
   repeat' (first | exact trivial | apply And.intro)
   all_goals exact ⟨_, rfl, rfl⟩
  ·simp only [Tr.All, AKv, AKf, AKg, miT]
   repeat' (first | exact trivial | apply And.intro)
   all_goals first | rfl | exact .head _ | exact ⟨_, rfl, .defd⟩ | exact ⟨_, rfl, .map (ksG q)⟩ | exact ⟨_, rfl, .miter rfl rfl⟩ | exact ⟨_, rfl, .cells rfl⟩ | exact ⟨_, rfl, .plain (by skip)⟩ | skip
   refine ⟨_, rfl, .same ?_ ?_ rfl rfl⟩
   ·simp only [Tr.All, TQ]
    repeat' (first | exact trivial | apply And.intro)
    all_goals rfl
   ·simp only [scrFix]
    repeat' (first | exact trivial | apply And.intro)
    all_goals rfl
 | cons t l =>
  refine Ren.of (fun i => bif Nat.beq i 5 then 6 else i) 5 rfl h0 (Nat.le_of_ble_eq_true rfl) (fun i hi => by have : Nat.beq i 5 = false := natFK (by omega); rw [this]; rfl) ?_ rfl ?_ trivial
  ·simp only [Tr.All, TK]
   repeat' (first | exact trivial | apply And.intro)
   all_goals exact ⟨_, rfl, rfl⟩
  ·simp only [Tr.All, AKv, AKf, AKg, miT, rwT]
   repeat' (first | exact trivial | apply And.intro)
   all_goals first | rfl | exact .head _ | exact ⟨_, rfl, .defd⟩ | exact ⟨_, rfl, .map (ksG q)⟩ | exact ⟨_, rfl, .miter rfl rfl⟩ | exact ⟨_, rfl, .cells rfl⟩ | exact ⟨_, rfl, .plain (by exact rowK_gnd (t :: l))⟩ | skip
   refine ⟨_, rfl, .same ?_ ?_ rfl rfl⟩
   ·simp only [Tr.All, TQ]
    repeat' (first | exact trivial | apply And.intro)
    all_goals rfl
   ·simp only [scrFix]
    repeat' (first | exact trivial | apply And.intro)
    all_goals rfl
theorem put_seen {vis : List KT} {seen : List Nat} : ({ AKv e z clock q vis with heap := (AKv e z clock q vis).heap.put 5 (some (.miter 1 clock seen clock)) } : AW) = AKn e z clock q seen vis := by
 cases vis <;> rfl
theorem key_body (hq : KOk q clock) (h0 : ∀ i, 5 ≤ i → γ0 i = none) {F : Fence} {k : Nat} (hF : Wide F) (hro : F.round = none) {j : Nat} {st : St} (hs : KeySt e z clock q j st) :
  Go.Ev.Reach (SC r) 43 14 F k γ0 W0 (ic (ic (rc cKs))) st fun ex st' => match ex with
   | .normal => ∃ j', j' < j ∧ ∃ st1, Ren (SC r) 43 14 γ0 W0 st' st1 ∧ KeySt e z clock q j' st1
   | ex => KeyQ r γ0 W0 e z clock q ex st' := by
 obtain ⟨vis, rest, rfl, hp, rfl⟩ := hs
 rw [show ic (ic (rc cKs)) = Code.seq (lc (ic (ic (rc cKs)))) (.seq (lc (rc (ic (ic (rc cKs))))) (.block 1 (ic (rc (rc (ic (ic (rc cKs)))))))) from by kernel_rfl]
 have hi : (AKv e z clock q vis).heap.get 5 = some (.miter 1 clock (bornK vis) clock) := by cases vis <;> rfl
 have hm : (AKv e z clock q vis).heap.get 1 = some (.map (q.map mkE) clock) := by cases vis <;> rfl
 refine Go.Ev.Reach.seq (Go.Ev.Reach.nextP (SC_ok r) hF TOk.nil (tm := .nil) (L := 0) (d := 0) 0 (s1 := []) (b1 := TK) (ms1 := []) (A1 := AKv e z clock q vis) ?_ (by kernel_rfl) hi hm (same_ok hq _) fun v A' hv => ?_)
 ·rw [kyP]
  exact qn_ok rfl
 rcases hv with ⟨hnil, rfl, rfl⟩ | ⟨x, hx, rfl, rfl⟩
 ·rw [kyM]
  refine qn_ok (Go.Ev.Reach.seq (Go.Ev.Reach.seg (SC_ok r) TOk.nil (tm := .nil) (L := 1) (L' := 1) (d := 1) hF hro ?_))
  rw [kyC]
  simp only [cond_false]
  have := left_done hq hp hnil
  subst this
  rw [List.append_nil] at hp
  exact qn_ok ⟨rfl, vis, hp, _, ren_out h0 _ vis, rfl⟩
 ·obtain ⟨t, rest', rfl, hlt, hp'⟩ := left_more hq hp hx
  rw [show (mkE t).key = .int .u16 t.1.1 from rfl, show (mkE t).val = .bool t.2.1 from rfl, show (mkE t).born = t.2.2 from rfl, kyN, put_seen]
  refine qn_ok (Go.Ev.Reach.seq (Go.Ev.Reach.seg (SC_ok r) TOk.nil (tm := .nil) (L := 1) (L' := 1) (d := 1) hF hro ?_))
  rw [kyC]
  simp only [cond_true]
  have ht : t ∈ q := hp'.mem_iff.1 (by simp)
  have hi : (AKn e z clock q (bornK vis ++ [t.2.2]) vis).heap.get 5 = some (.miter 1 clock (bornK vis ++ [t.2.2]) clock) := by cases vis <;> rfl
  have hm : (AKn e z clock q (bornK vis ++ [t.2.2]) vis).heap.get 1 = some (.map (q.map mkE) clock) := by cases vis <;> rfl
  refine qn_ok (Go.Ev.Reach.block ?_)
  rw [show ic (rc (rc (ic (ic (rc cKs))))) = Code.seq (lc (ic (rc (rc (ic (ic (rc cKs))))))) (rc (ic (rc (rc (ic (ic (rc cKs))))))) from by kernel_rfl]
  refine Go.Ev.Reach.seq (Go.Ev.Reach.entryP (SC_ok r) hF TOk.nil (tm := .nil) (L := 0) (d := 0) 0 (s1 := []) (b1 := TK) (ms1 := []) (A1 := AKn e z clock q (bornK vis ++ [t.2.2]) vis) (i := 5) ?_ (by kernel_rfl) hi hm (by simp) (find_ok hq ht) ?_)
  ·exact (kyQ ..).trans (qn_ok rfl)
  rw [show (mkE t).key = .int .u16 t.1.1 from rfl, show (mkE t).val = .bool t.2.1 from rfl, kyE]
  refine qn_ok (Go.Ev.Reach.seg (SC_ok r) TOk.nil (tm := .nil) (L := 1) (L' := 1) (d := 1) hF hro ?_)
  cases vis with
  | nil =>
   refine (kyY ..).trans (qn_ok ⟨rest'.length, hlt, _, ?_, [t], rest', rfl, hp', rfl⟩)
   show Ren _ _ _ _ _ _ ⟨⟨[], TK⟩, [], AKg e z clock (q.map mkE) 7 (.slice (some ⟨6, 0, none⟩) 1 unk) (miT clock [t.2.2]) (rwT 6 [.int .u16 t.1.1])⟩
   refine Ren.of (fun i => bif Nat.beq i 6 then 7 else i) 5 rfl h0 (Nat.le_of_ble_eq_true rfl) (fun i hi => by have : Nat.beq i 6 = false := natFK (by omega); rw [this]; rfl) ?_ rfl ?_ trivial
   ·simp only [Tr.All, TK]
    repeat' (first | exact trivial | apply And.intro)
    all_goals exact ⟨_, rfl, rfl⟩
   ·simp only [Tr.All, AKg, miT, rwT]
    repeat' (first | exact trivial | apply And.intro)
    all_goals first | rfl | exact .head _ | exact ⟨_, rfl, .defd⟩ | exact ⟨_, rfl, .map (ksG q)⟩ | exact ⟨_, rfl, .miter rfl rfl⟩ | exact ⟨_, rfl, .cells rfl⟩ | exact ⟨_, rfl, .plain (by intro v hv; rw [List.mem_singleton.1 hv]; rfl)⟩ | skip
    refine ⟨_, rfl, .same ?_ ?_ rfl rfl⟩
    ·simp only [Tr.All, TQ]
     repeat' (first | exact trivial | apply And.intro)
     all_goals rfl
    ·simp only [scrFix]
     repeat' (first | exact trivial | apply And.intro)
     all_goals rfl
  | cons t0 l =>
   have hlen : (t0 :: l).length + 1 ≤ q.length := by
    have := hp'.length_eq
    simp only [List.length_append, List.length_cons, List.length_nil] at this ⊢
    omega
   have hfew := hq.few
   have g1 : Nat.ble (Nat.add (t0 :: l).length 1) 1000000 = true := Nat.ble_eq_true_of_le (by simp only [Nat.add_eq]; omega)
   have g2 : takeAt (rowK (t0 :: l)) 0 (Nat.mul (t0 :: l).length 1) = some (rowK (t0 :: l)) := takeAt_fullK _ _ (by rw [rowK_len]; simp)
   refine (kyZ ..).trans ?_
   rw [g1, g2]
   simp only [cond_true]
   refine qn_ok ⟨rest'.length, hlt, _, ?_, (t0 :: l) ++ [t], rest', rfl, hp', rfl⟩
   show Ren _ _ _ _ _ _ ⟨⟨[], TK⟩, [], AKg e z clock (q.map mkE) 7 (.slice (some ⟨6, 0, none⟩) ((t0 :: l) ++ [t]).length unk) (miT clock (bornK ((t0 :: l) ++ [t]))) (rwT 6 (rowK ((t0 :: l) ++ [t])))⟩
   have e1 : ((t0 :: l) ++ [t]).length = Nat.add (t0 :: l).length 1 := by simp
   have e2 : bornK ((t0 :: l) ++ [t]) = bornK (t0 :: l) ++ [t.2.2] := by simp [bornK]
   have e3 : rowK ((t0 :: l) ++ [t]) = rowK (t0 :: l) ++ [.int .u16 t.1.1] := by simp [rowK]
   rw [e1, e2, e3]
   refine Ren.of (fun i => bif Nat.beq i 6 then 8 else i) 5 rfl h0 (Nat.le_of_ble_eq_true rfl) (fun i hi => by have : Nat.beq i 6 = false := natFK (by omega); rw [this]; rfl) ?_ rfl ?_ trivial
   ·simp only [Tr.All, TK]
    repeat' (first | exact trivial | apply And.intro)
    all_goals exact ⟨_, rfl, rfl⟩
   ·simp only [Tr.All, AKg, miT, rwT]
    repeat' (first | exact trivial | apply And.intro)
    all_goals first | rfl | exact .head _ | exact ⟨_, rfl, .defd⟩ | exact ⟨_, rfl, .map (ksG q)⟩ | exact ⟨_, rfl, .miter rfl rfl⟩ | exact ⟨_, rfl, .cells rfl⟩ | exact ⟨_, rfl, .plain (by exact e3 ▸ rowK_gnd ((t0 :: l) ++ [t]))⟩ | skip
    refine ⟨_, rfl, .same ?_ ?_ rfl rfl⟩
    ·simp only [Tr.All, TQ]
     repeat' (first | exact trivial | apply And.intro)
     all_goals rfl
    ·simp only [scrFix]
     repeat' (first | exact trivial | apply And.intro)
     all_goals rfl
theorem keys_S (hq : KOk q clock) : SOk (SC r) 82 yK (AKg e z clock (q.map mkE) 5 (.slice none 0 0) .nil .nil) fun v A' => v = .tuple ⟨[]⟩ ∧ ∃ vis, vis.Perm q ∧ A' = AKf e z clock q vis := by
 obtain ⟨fn, h1, h2, h3, h4⟩ := fn_of (C := SC r) (f := 82) (by kernel_rfl)
 have hn : fn.ntmps = 14 := h3.trans (by kernel_rfl)
 have hr : fn.results.toList = [] := h4.trans (by kernel_rfl)
 rw [bodySC] at h2
 refine call_reachS (SC_ok r) h1 h2 43 (by rw [hn]; rfl) fun γ W F k hw hF hro => ?_
 rw [hn, hr]
 have h0 : ∀ i, 5 ≤ i → γ i = none := hw.fresh
 show Go.Ev.Reach (SC r) 43 14 F k γ W cKs _ _
 rw [show cKs = Code.seq (lc cKs) (.block 0 (.loop (ic (ic (rc cKs))))) from by kernel_rfl]
 refine Go.Ev.Reach.seq (Go.Ev.Reach.seg (SC_ok r) TOk.nil (tm := .nil) (L := 1) (L' := 1) (d := 1) hF hro ((kyB ..).trans (qn_ok ?_)))
 refine Go.Ev.Reach.pre (ren_start h0 _) ?_
 refine Go.Ev.Reach.block ?_
 refine Go.Ev.Reach.loop (I := fun j st => ∃ st1, Ren (SC r) 43 14 γ W st st1 ∧ KeySt e z clock q j st1) (fun j st ⟨st1, hr, hs⟩ => Go.Ev.Reach.pre hr (Go.Ev.Reach.mono (key_body hq h0 hF hro hs) fun ex st' h => ?_)) ⟨_, Ren.refl _, [], q, rfl, by simp, rfl⟩
 cases ex with
 | normal => exact h
 | exit id =>
  obtain ⟨rfl, vis, hv, st2, hr2, rfl⟩ := h
  exact ⟨.inl rfl, _, _, _, hr2, rfl, rfl, vis, hv, rfl⟩
 | _ => exact h.elim
end
end Go.Proofs
namespace Go.Proofs
open Go Go.Ev
def AR (e z clock : Nat) (es : List MapEntry) (l : List Value) : AW := ⟨4, .node (.node (.node .nil none .nil) (some (.map es clock)) .nil) (some (.cells [.map (some 1)] e 0 z)) (.node .nil (some (.cells l 56 2 1)) .nil), .nil⟩
noncomputable def AR3 (e z clock : Nat) (es : List MapEntry) (l : List Value) : AW := ⟨4, .node (.node (.node .nil (some .defd) .nil) (some (.map es clock)) .nil) (some (.cells [.map (some 1)] e 0 z)) (.node .nil (some (.cells l 56 2 1)) .nil), .nil⟩
noncomputable def AKh (e z clock : Nat) (es : List MapEntry) (n : Nat) (sv : Value) (s5 : Tr AObj) : AW :=
 ⟨n, .node (.node (.node .nil (some .defd) .nil) (some (.map es clock)) s5) (some (.cells [.map (some 1)] e 0 z)) (.node (.node .nil (some (.loop .exhausted none 183 ⟨[(6, seqV)], TQ⟩ 13 ⟨[7]⟩ k_aqA k_aqB 3)) .nil) (some (.cells [sv] 62 2 0)) .nil), .nil⟩
def TQ4 (sv : Value) : Tr Value := .node .nil none (.node (.node .nil (some sv) .nil) none .nil)
def TC0 (v : Value) : Tr Value := .node .nil (some seqV) (.node .nil (some v) .nil)
theorem kcA (r : Mem) (L : Nat) (fs : FnsC) (e z clock : Nat) (es : List MapEntry) (kn : KS) (kx : Nat → KS) (kr : KS) (ms : List Nat) : run (SC r) 183 13 L (lc cAq) fs none kn kx kr (sc0 183 [.slice none 0 0, seqV]) (tr0 183 [.slice none 0 0, seqV]) ms (AK0 e z clock es) =
    kn [] (.node (.node .nil (some (.func (Fn.func 82) ⟨[]⟩ ⟨[.pointer (some ⟨0, 0, none⟩)]⟩)) .nil) (some (.slice none 0 0)) (.node (.node .nil (some (.slice none 0 0)) .nil) (some (.pointer (some ⟨2, 0, none⟩))) .nil)) ms (AW.mk 3 (.node (.node .nil (some (AObj.map es clock)) .nil) (some (.cells [Value.map (some 1)] e 0 z)) (.node .nil (some (.cells [.slice none 0 0] 62 2 0)) .nil)) .nil) := by kernel_rfl
theorem kcB (r : Mem) (L : Nat) (fs : FnsC) (s : List (Nat × Value)) (kn : KS) (kx : Nat → KS) (kr : KS) (ms : List Nat) (A : AW) : run (SC r) 183 13 L (lc (lc (rc cAq))) fs none kn kx kr s TQ ms A =
    kn [(6, .func (Fn.func 82) ⟨[]⟩ ⟨[.pointer (some ⟨0, 0, none⟩)]⟩)] (.node (.node .nil (some (.func (Fn.func 82) ⟨[]⟩ ⟨[.pointer (some ⟨0, 0, none⟩)]⟩)) .nil) (some (.slice none 0 0)) (.node (.node .nil (some (.slice none 0 0)) .nil) (some (.pointer (some ⟨2, 0, none⟩))) .nil)) ms A := by kernel_rfl
theorem kcC (r : Mem) (L : Nat) (fs : FnsC) (e z clock : Nat) (es : List MapEntry) (n : Nat) (l : List Value) (kn : KS) (kx : Nat → KS) (kr : KS) : run (SC r) 183 13 L (rc (rc cAq)) fs none kn kx kr [(6, seqV)] TQ [3] (AKh e z clock es 6 (.slice (some ⟨5, 0, none⟩) n unk) (rwT 5 l)) =
    kr [(12, .slice (some ⟨5, 0, none⟩) n unk)] (.node (.node .nil (some (.func (Fn.func 82) ⟨[]⟩ ⟨[.pointer (some ⟨0, 0, none⟩)]⟩)) .nil) (some (.slice none 0 0)) (.node (.node .nil (some (.slice (some ⟨5, 0, none⟩) n unk)) .nil) (some (.pointer (some ⟨2, 0, none⟩))) .nil)) [3] (AW.mk 6 (.node (.node (.node .nil (some .defd) .nil) (some (AObj.map es clock)) (.node .nil (some (.cells l 56 5 1)) .nil)) (some (.cells [Value.map (some 1)] e 0 z)) (.node (.node .nil (some (AObj.loop LoopState.exhausted none 183 (En.mk [(6, .func (Fn.func 82) ⟨[]⟩ ⟨[.pointer (some ⟨0, 0, none⟩)]⟩)] (.node (.node .nil (some (.func (Fn.func 82) ⟨[]⟩ ⟨[.pointer (some ⟨0, 0, none⟩)]⟩)) .nil) (some (.slice none 0 0)) (.node (.node .nil (some (.slice none 0 0)) .nil) (some (.pointer (some ⟨2, 0, none⟩))) .nil))) 13 ⟨[7]⟩ k_aqA k_aqB 3)) .nil) (some (.cells [.slice (some ⟨5, 0, none⟩) n unk] 62 2 0)) .nil)) .nil) := by kernel_rfl
theorem kcF (r : Mem) (e z clock : Nat) (es : List MapEntry) (n : Nat) (l : List Value) (k : KV) : finK (SC r) 183 (resOf (SC r) 97) k [] (TQ4 (.slice (some ⟨2, 0, none⟩) n unk)) [3] (AR3 e z clock es l) =
    k (.slice (some ⟨2, 0, none⟩) n unk) (AW.mk 4 (.node (.node (.node .nil none .nil) (some (AObj.map es clock)) .nil) (some (.cells [Value.map (some 1)] e 0 z)) (.node .nil (some (.cells l 56 2 1)) .nil)) .nil) := by kernel_rfl
theorem kcG (r : Mem) (L : Nat) (fs : FnsC) (kn : KS) (kx : Nat → KS) (kr : KS) (ms : List Nat) (A : AW) : run (SC r) 5 5 L (lc cCo) fs none kn kx kr (sc0 5 [seqV]) (tr0 5 [seqV]) ms A =
    kn [] (.node .nil (some (.func (Fn.func 82) ⟨[]⟩ ⟨[.pointer (some ⟨0, 0, none⟩)]⟩)) (.node .nil (some (.slice none 0 0)) .nil)) ms A := by kernel_rfl
theorem kcH (r : Mem) (fs : FnsC) (kn : KS) (ms : List Nat) (A : AW) : preK (SC r) 5 5 (lc (rc cCo)) 1 fs kn [] (TC0 (.slice none 0 0)) ms A =
    kn [(3, .func (Fn.func 82) ⟨[]⟩ ⟨[.pointer (some ⟨0, 0, none⟩)]⟩)] (.node .nil (some (.func (Fn.func 82) ⟨[]⟩ ⟨[.pointer (some ⟨0, 0, none⟩)]⟩)) (.node .nil (some (.slice none 0 0)) .nil)) ms A := by kernel_rfl
theorem kcI (r : Mem) (fs : FnsC) (n : Nat) (kn : KS) (ms : List Nat) (A : AW) : tailK (SC r) 5 5 (lc (rc cCo)) 1 fs kn (.slice (some ⟨2, 0, none⟩) n unk) [(3, seqV)] (TC0 (.slice none 0 0)) ms A =
    kn [(4, .slice (some ⟨2, 0, none⟩) n unk), (3, .func (Fn.func 82) ⟨[]⟩ ⟨[.pointer (some ⟨0, 0, none⟩)]⟩)] (.node .nil (some (.func (Fn.func 82) ⟨[]⟩ ⟨[.pointer (some ⟨0, 0, none⟩)]⟩)) (.node .nil (some (.slice (some ⟨2, 0, none⟩) n unk)) .nil)) ms A := by kernel_rfl
theorem kcK (r : Mem) (L : Nat) (fs : FnsC) (s : List (Nat × Value)) (n : Nat) (kn : KS) (kx : Nat → KS) (kr : KS) (ms : List Nat) (A : AW) : run (SC r) 5 5 L (rc (rc cCo)) fs none kn kx kr s (TC0 (.slice (some ⟨2, 0, none⟩) n unk)) ms A =
    kr s (.node .nil (some (.func (Fn.func 82) ⟨[]⟩ ⟨[.pointer (some ⟨0, 0, none⟩)]⟩)) (.node .nil (some (.slice (some ⟨2, 0, none⟩) n unk)) .nil)) ms A := by kernel_rfl
theorem kcL (r : Mem) (s : List (Nat × Value)) (n : Nat) (k : KV) (A : AW) : finK (SC r) 5 (resOf (SC r) 80) k s (TC0 (.slice (some ⟨2, 0, none⟩) n unk)) [] A =
    k (.slice (some ⟨2, 0, none⟩) n unk) A := by kernel_rfl
theorem kcJ (r : Mem) (A : AW) : callAt (SC r) 5 (lc (rc cCo)) 1 ⟨[(3, seqV)], TC0 (.slice none 0 0)⟩ A = some (97, [.slice none 0 0, seqV], A) := by kernel_rfl
section
variable {r : Mem} {γ0 : Gam} {W0 : World} {e z clock : Nat} {q : List KT}
theorem append_S (hq : KOk q clock) (hne : q ≠ []) : SOk (SC r) 97 [.slice none 0 0, seqV] (AK0 e z clock (q.map mkE)) fun v A' => ∃ vis, vis.Perm q ∧ v = .slice (some ⟨2, 0, none⟩) vis.length unk ∧ A' = AR e z clock (q.map mkE) (rowK vis) := by
 obtain ⟨fn, h1, h2, h3, h4⟩ := fn_of (C := SC r) (f := 97) (by kernel_rfl)
 have hn : fn.ntmps = 13 := h3.trans (by kernel_rfl)
 rw [bodySC] at h2
 refine call_reachS (SC_ok r) h1 h2 183 (by rw [hn]; rfl) fun γ W F k hw hF hro => ?_
 rw [hn, h4]
 have h0 : ∀ i, 2 ≤ i → γ i = none := hw.fresh
 show Go.Ev.Reach (SC r) 183 13 F k γ W cAq _ _
 obtain ⟨fo, ps, hrf⟩ : ∃ fo ps, cAq = Code.seq (lc cAq) (.seq (.seq (lc (lc (rc cAq))) (.block 0 (.rangeFunc fo ps k_aqA k_aqB))) (rc (rc cAq))) ∧ ps = ⟨[7]⟩ ∧ fo = .tmp 6 := ⟨.tmp 6, ⟨[7]⟩, by kernel_rfl, rfl, rfl⟩
 obtain ⟨hrf, rfl, rfl⟩ := hrf
 rw [hrf]
 refine Go.Ev.Reach.seq (Go.Ev.Reach.seg (SC_ok r) TOk.nil (tm := .nil) (L := 1) (L' := 1) (d := 1) hF hro ((kcA ..).trans (qn_ok ?_)))
 refine Go.Ev.Reach.seq (Go.Ev.Reach.seq (Go.Ev.Reach.seg (SC_ok r) TOk.nil (tm := .nil) (L := 1) (L' := 1) (d := 1) hF hro ((kcB r 1 _ [] _ _ _ [] _).trans (qn_ok ?_))))
 have eA : (((⟨3, .node (.node .nil (some (.map (q.map mkE) clock)) .nil) (some (.cells [.map (some 1)] e 0 z)) (.node .nil (some (.cells [.slice none 0 0] 62 2 0)) .nil), .nil⟩ : AW).new .defd).new (.loop .ready none 183 ⟨[(6, seqV)], TQ⟩ 13 ⟨[7]⟩ k_aqA k_aqB 3)) = AKg e z clock (q.map mkE) 5 (.slice none 0 0) .nil .nil := by kernel_rfl
 have hkey := keys_S (r := r) (e := e) (z := z) hq
 rw [← eA] at hkey
 refine Go.Ev.Reach.block (Go.Ev.Reach.rangeS (SC_ok r) hF hro (g := 82) (first := []) (captured := [.pointer (some ⟨0, 0, none⟩)]) rfl (by kernel_rfl) hkey fun v A' ⟨_, vis, hv, hA⟩ => ?_)
 subst hA
 cases vis with
 | nil => exact absurd hv.nil_eq.symm hne
 | cons t l =>
  refine ⟨⟨⟨[(6, seqV)], TQ⟩, [3], AKh e z clock (q.map mkE) 6 (.slice (some ⟨5, 0, none⟩) (t :: l).length unk) (rwT 5 (rowK (t :: l)))⟩, by kernel_rfl, ?_⟩
  refine Go.Ev.Reach.seg (SC_ok r) TOk.nil (tm := .nil) (L := 1) (L' := 1) (d := 1) hF hro ((kcC ..).trans (qn_ok ⟨.inr rfl, ⟨⟨[], TQ4 (.slice (some ⟨2, 0, none⟩) (t :: l).length unk)⟩, [3], AR3 e z clock (q.map mkE) (rowK (t :: l))⟩, _, _, ?_, ?_, t :: l, hv, rfl, rfl⟩))
  ·
   refine Ren.of (fun i => bif Nat.beq i 2 then 5 else i) 2 rfl h0 (Nat.le_of_ble_eq_true rfl) (fun i hi => by have : Nat.beq i 2 = false := natFK (by omega); rw [this]; rfl) ?_ rfl ?_ trivial
   ·simp only [Tr.All, TQ4]
    repeat' (first | exact trivial | apply And.intro)
    all_goals exact ⟨_, rfl, rfl⟩
   ·simp only [Tr.All, AR3]
    repeat' (first | exact trivial | apply And.intro)
    all_goals first | rfl | exact .head _ | exact ⟨_, rfl, .defd⟩ | exact ⟨_, rfl, .map (ksG q)⟩ | exact ⟨_, rfl, .cells rfl⟩ | exact ⟨_, rfl, .plain (by exact rowK_gnd (t :: l))⟩
  ·rw [← finK_finish]
   exact kcF ..
theorem collect_S (hq : KOk q clock) (hne : q ≠ []) : SOk (SC r) 80 [seqV] (AK0 e z clock (q.map mkE)) fun v A' => ∃ vis, vis.Perm q ∧ v = .slice (some ⟨2, 0, none⟩) vis.length unk ∧ A' = AR e z clock (q.map mkE) (rowK vis) := by
 obtain ⟨fn, h1, h2, h3, h4⟩ := fn_of (C := SC r) (f := 80) (by kernel_rfl)
 have hn : fn.ntmps = 5 := h3.trans (by kernel_rfl)
 rw [bodySC] at h2
 refine call_reachS (SC_ok r) h1 h2 5 (by rw [hn]; rfl) fun γ W F k hw hF hro => ?_
 rw [hn, h4]
 show Go.Ev.Reach (SC r) 5 5 F k γ W cCo _ _
 rw [show cCo = Code.seq (lc cCo) (.seq (lc (rc cCo)) (rc (rc cCo))) from by kernel_rfl]
 refine Go.Ev.Reach.seq (Go.Ev.Reach.seg (SC_ok r) TOk.nil (tm := .nil) (L := 1) (L' := 1) (d := 1) hF hro ((kcG ..).trans (qn_ok ?_)))
 refine Go.Ev.Reach.seq (Go.Ev.Reach.callP (SC_ok r) hF TOk.nil (tm := .nil) (L := 0) (d := 0) 1 ((kcH ..).trans (qn_ok rfl)) (kcJ ..) (append_S (e := e) (z := z) hq hne) fun v A' ⟨vis, hv, h1, h2⟩ => ?_)
 subst h1 h2
 refine (kcI ..).trans (qn_ok (Go.Ev.Reach.seg (SC_ok r) TOk.nil (tm := .nil) (L := 1) (L' := 1) (d := 1) hF hro ((kcK ..).trans (qn_ok ⟨.inr rfl, _, _, _, Ren.refl _, ?_, vis, hv, rfl, rfl⟩))))
 rw [← finK_finish]
 exact kcL ..
end
end Go.Proofs
namespace Go.Proofs
open Go Go.Ev
noncomputable def cSf : Code := bodyOf S0 53
abbrev cmpV : Value := .func (.func 55) ⟨[]⟩ ⟨[]⟩
abbrev slV (n : Nat) : Value := .slice (some ⟨2, 0, none⟩) n unk
def TS0 : Tr Value := .node (.node .nil (some cmpV) .nil) (some seqV) (.node (.node .nil (some (.slice none 0 0)) .nil) none .nil)
def TS1 (n : Nat) : Tr Value := .node (.node .nil (some cmpV) (.node .nil (some (slV n)) .nil)) (some seqV) (.node (.node .nil (some (.slice none 0 0)) .nil) none .nil)
def TS2 (n : Nat) : Tr Value := .node (.node .nil (some cmpV) (.node .nil (some (slV n)) .nil)) (some seqV) (.node (.node .nil (some (slV n)) .nil) none .nil)
noncomputable def tSo (n : Nat) (A0 A1 : AW) : Tbl := tcons 81 (entAt [slV n, cmpV] A0 (.tuple ⟨[]⟩) A1) fun _ => none
theorem kdA (r : Mem) (L : Nat) (fs : FnsC) (kn : KS) (kx : Nat → KS) (kr : KS) (ms : List Nat) (A : AW) : run (SC r) 51 12 L (lc cSf) fs none kn kx kr (sc0 51 [seqV, cmpV]) (tr0 51 [seqV, cmpV]) ms A =
    kn [] (.node (.node .nil (some (.func (Fn.func 55) ⟨[]⟩ ⟨[]⟩)) .nil) (some (.func (Fn.func 82) ⟨[]⟩ ⟨[.pointer (some ⟨0, 0, none⟩)]⟩)) (.node (.node .nil (some (.slice none 0 0)) .nil) none .nil)) ms A := by kernel_rfl
theorem kdB (r : Mem) (fs : FnsC) (kn : KS) (ms : List Nat) (A : AW) : preK (SC r) 51 12 (lc (rc cSf)) 1 fs kn [] TS0 ms A =
    kn [(6, .func (Fn.func 82) ⟨[]⟩ ⟨[.pointer (some ⟨0, 0, none⟩)]⟩)] (.node (.node .nil (some (.func (Fn.func 55) ⟨[]⟩ ⟨[]⟩)) .nil) (some (.func (Fn.func 82) ⟨[]⟩ ⟨[.pointer (some ⟨0, 0, none⟩)]⟩)) (.node (.node .nil (some (.slice none 0 0)) .nil) none .nil)) ms A := by kernel_rfl
theorem kdC (r : Mem) (fs : FnsC) (n : Nat) (kn : KS) (ms : List Nat) (A : AW) : tailK (SC r) 51 12 (lc (rc cSf)) 1 fs kn (slV n) [(6, seqV)] TS0 ms A =
    kn [(7, .slice (some ⟨2, 0, none⟩) n unk), (6, .func (Fn.func 82) ⟨[]⟩ ⟨[.pointer (some ⟨0, 0, none⟩)]⟩)] (.node (.node .nil (some (.func (Fn.func 55) ⟨[]⟩ ⟨[]⟩)) (.node .nil (some (.slice (some ⟨2, 0, none⟩) n unk)) .nil)) (some (.func (Fn.func 82) ⟨[]⟩ ⟨[.pointer (some ⟨0, 0, none⟩)]⟩)) (.node (.node .nil (some (.slice none 0 0)) .nil) none .nil)) ms A := by kernel_rfl
theorem kdD (r : Mem) (L : Nat) (e z clock : Nat) (es : List MapEntry) (l l' : List Value) (n : Nat) (s : List (Nat × Value)) (kn : KS) (kx : Nat → KS) (kr : KS) (ms : List Nat) : run (SC r) 51 12 L (rc (rc cSf)) (lvlT (SC r) (tSo n (AR e z clock es l) (AR e z clock es l')) .nil 1 1) none kn kx kr s (TS1 n) ms (AR e z clock es l) =
    bif m_at [.slice (some ⟨2, 0, none⟩) n unk, .func (Fn.func 55) ⟨[]⟩ ⟨[]⟩] [.slice (some ⟨2, 0, none⟩) n unk, .func (Fn.func 55) ⟨[]⟩ ⟨[]⟩] (AW.mk 4 (.node (.node (.node .nil none .nil) (some (AObj.map es clock)) .nil) (some (.cells [Value.map (some 1)] e 0 z)) (.node .nil (some (.cells l 56 2 1)) .nil)) .nil) (AW.mk 4 (.node (.node (.node .nil none .nil) (some (AObj.map es clock)) .nil) (some (.cells [Value.map (some 1)] e 0 z)) (.node .nil (some (.cells l 56 2 1)) .nil)) .nil) then kr [(11, .slice (some ⟨2, 0, none⟩) n unk)] (.node (.node .nil (some (.func (Fn.func 55) ⟨[]⟩ ⟨[]⟩)) (.node .nil (some (.slice (some ⟨2, 0, none⟩) n unk)) .nil)) (some (.func (Fn.func 82) ⟨[]⟩ ⟨[.pointer (some ⟨0, 0, none⟩)]⟩)) (.node (.node .nil (some (.slice (some ⟨2, 0, none⟩) n unk)) .nil) none .nil)) ms (AW.mk 4 (.node (.node (.node .nil none .nil) (some (AObj.map es clock)) .nil) (some (.cells [Value.map (some 1)] e 0 z)) (.node .nil (some (.cells l' 56 2 1)) .nil)) .nil) else .fail 420 := by kernel_rfl
theorem kdE (r : Mem) (s : List (Nat × Value)) (n : Nat) (k : KV) (A : AW) : finK (SC r) 51 (resOf (SC r) 53) k s (TS2 n) [] A =
    k (.slice (some ⟨2, 0, none⟩) n unk) A := by kernel_rfl
theorem kdJ (r : Mem) (A : AW) : callAt (SC r) 51 (lc (rc cSf)) 1 ⟨[(6, seqV)], TS0⟩ A = some (80, [seqV], A) := by kernel_rfl
end Go.Proofs
namespace Go.Proofs
open Go Go.Ev
def ones : Nat → Nat → Nat
 | 0, _ => 0
 | n + 1, x => x % 2 + ones n (x / 2)
def popTab : List UInt8 := (List.range 256).map fun i => UInt8.ofNat (ones 8 i)
def m_sz (x : Int) : Int := Int.ofNat (ones 8 (x.toNat / 256) + ones 8 (x.toNat % 256))
def m_cp (x y : Int) : Int := bif decide (x < y) then -1 else bif decide (x > y) then 1 else 0
def m_cf (x y : Int) : Int := bif m_cp (m_sz x) (m_sz y) != 0 then m_cp (m_sz x) (m_sz y) else m_cp x y
def in16 (x : Int) : Bool := decide (0 ≤ x) && decide (x < 65536)
def eSz : Ent := ent (fun args _ => match args with | [.int .u16 x] => in16 x | _ => false) (fun args _ => match args with | [.int .u16 x] => I (m_sz x) | _ => undef)
def eC16 : Ent := ent (fun args _ => match args with | [.int .u16 _, .int .u16 _] => true | _ => false) (fun args _ => match args with | [.int .u16 x, .int .u16 y] => I (m_cp x y) | _ => undef)
def tCf : Tbl := tcons 58 eSz (tcons 59 eC16 (tcons 57 (eI2 (fun _ _ => true) fun x y => I (m_cp x y)) fun _ => none))
theorem pop_get : ∀ i : Fin 256, popTab[i.val]? = some (UInt8.ofNat (ones 8 i.val)) := by decide +kernel
theorem ones_lt : ∀ i : Fin 256, ones 8 i.val ≤ 8 := by decide +kernel
theorem keS (r : Mem) (x : Int) : (lvlT (SC r) (fun _ => none) .nil 2 3).call 58 [.int .u16 x] emptyA fin =
  bif decide (0 ≤ Int.fdiv x (Int.ofNat 256)) then Option.casesOn popTab[Int.toNat (Int.fdiv x (Int.ofNat 256))]? (CR.fail 429) fun val => Option.casesOn popTab[Int.toNat (ibits BinOp.and IntKind.u16 x (Int.ofNat 255))]? (CR.fail 429) fun val_1 => CR.ret (Value.int IntKind.i64 (IntKind.wrap IntKind.i64 (IntKind.wrap IntKind.u8 (Int.ofNat (UInt8.toNat val) + Int.ofNat (UInt8.toNat val_1))))) (AW.mk 0 Tr.nil Tr.nil) else CR.fail 420 := by kernel_rfl
theorem and255 (n : Nat) (h : n < 65536) : ibits BinOp.and IntKind.u16 (n : Int) (Int.ofNat 255) = ((n % 256 : Nat) : Int) := by
 have e : (BitVec.ofInt 16 (n : Int) &&& BitVec.ofInt 16 (Int.ofNat 255)).toNat = n % 256 := by
  rw [BitVec.toNat_and, BitVec.ofInt_natCast, BitVec.toNat_ofNat, Nat.mod_eq_of_lt (by omega)]
  exact Nat.and_two_pow_sub_one_eq_mod n 8
 show IntKind.wrap .u16 ((BitVec.ofInt 16 (n : Int) &&& BitVec.ofInt 16 (Int.ofNat 255)).toNat : Int) = _
 rw [e]
 have : n % 256 < 256 := Nat.mod_lt _ (by omega)
 generalize n % 256 = m at this ⊢
 have : ∀ m : Fin 256, IntKind.wrap .u16 (m.val : Int) = (m.val : Int) := by decide +kernel
 exact this ⟨m, by omega⟩
theorem size_calls (r : Mem) (x : Int) (h0 : 0 ≤ x) (h1 : x < 65536) : GrT Tryz.prog r 58 [.int .u16 x] (I (m_sz x)) := by
 refine GrT.of (SC_ok r) TOk.nil .nil rfl ⟨2, 3, (keS r x).trans ?_⟩
 obtain ⟨n, rfl⟩ := Int.eq_ofNat_of_zero_le h0
 have hn : n < 65536 := by omega
 have e1 : Int.fdiv (n : Int) (Int.ofNat 256) = ((n / 256 : Nat) : Int) := by rw [Int.fdiv_eq_ediv_of_nonneg _ (by decide)]; rfl
 have hd : n / 256 < 256 := by omega
 have hm : n % 256 < 256 := Nat.mod_lt _ (by omega)
 rw [e1, and255 n hn, Int.toNat_natCast, Int.toNat_natCast, pop_get ⟨n / 256, hd⟩, pop_get ⟨n % 256, hm⟩]
 rw [show decide ((0 : Int) ≤ ((n / 256 : Nat) : Int)) = true from decide_eq_true (by omega)]
 simp only [cond_true]
 unfold m_sz
 rw [Int.toNat_natCast]
 have k1 := ones_lt ⟨n / 256, hd⟩
 have k2 := ones_lt ⟨n % 256, hm⟩
 simp only at k1 k2
 generalize ones 8 (n / 256) = a at k1 ⊢
 generalize ones 8 (n % 256) = b at k2 ⊢
 have key : ∀ a b : Fin 9, IntKind.wrap IntKind.i64 (IntKind.wrap IntKind.u8 (Int.ofNat (UInt8.toNat (UInt8.ofNat a.val)) + Int.ofNat (UInt8.toNat (UInt8.ofNat b.val)))) = Int.ofNat (a.val + b.val) := by decide +kernel
 rw [key ⟨a, by omega⟩ ⟨b, by omega⟩]
 rfl
theorem keC (r : Mem) (x y : Int) : (lvlT (SC r) (fun _ => none) .nil 2 3).call 57 [I x, I y] emptyA fin =
    bif x != x then bif y != y then .ret (I (Int.ofNat 0)) (AW.mk 0 .nil .nil) else .ret (I (Int.negSucc 0)) (AW.mk 0 .nil .nil) else bif y != y then .ret (I (Int.ofNat 1)) (AW.mk 0 .nil .nil) else bif decide (x < y) then .ret (I (Int.negSucc 0)) (AW.mk 0 .nil .nil) else bif decide (x > y) then .ret (I (Int.ofNat 1)) (AW.mk 0 .nil .nil) else .ret (I (Int.ofNat 0)) (AW.mk 0 .nil .nil) := by kernel_rfl
theorem keD (r : Mem) (x y : Int) : (lvlT (SC r) (fun _ => none) .nil 2 3).call 59 [.int .u16 x, .int .u16 y] emptyA fin =
    bif x != x then bif y != y then .ret (I (Int.ofNat 0)) (AW.mk 0 .nil .nil) else .ret (I (Int.negSucc 0)) (AW.mk 0 .nil .nil) else bif y != y then .ret (I (Int.ofNat 1)) (AW.mk 0 .nil .nil) else bif decide (x < y) then .ret (I (Int.negSucc 0)) (AW.mk 0 .nil .nil) else bif decide (x > y) then .ret (I (Int.ofNat 1)) (AW.mk 0 .nil .nil) else .ret (I (Int.ofNat 0)) (AW.mk 0 .nil .nil) := by kernel_rfl
theorem cmp_calls (r : Mem) (x y : Int) : GrT Tryz.prog r 57 [I x, I y] (I (m_cp x y)) := by
 refine GrT.of (SC_ok r) TOk.nil .nil rfl ⟨2, 3, ?_⟩
 rw [keC]
 simp only [neF (show x = x from rfl), neF (show y = y from rfl), cond_false, m_cp]
 cases decide (x < y) <;> cases decide (x > y) <;> rfl
theorem cmp16_calls (r : Mem) (x y : Int) : GrT Tryz.prog r 59 [.int .u16 x, .int .u16 y] (I (m_cp x y)) := by
 refine GrT.of (SC_ok r) TOk.nil .nil rfl ⟨2, 3, ?_⟩
 rw [keD]
 simp only [neF (show x = x from rfl), neF (show y = y from rfl), cond_false, m_cp]
 cases decide (x < y) <;> cases decide (x > y) <;> rfl
theorem eSz_ok (r : Mem) : EOk (SC r) 58 eSz := EOk.ent fun args A hg => by
 split at hg
 ·rename_i x
  simp only [in16, Bool.and_eq_true, decide_eq_true_eq] at hg
  exact (size_calls r x hg.1 hg.2).ro rfl A
 ·cases hg
theorem eC16_ok (r : Mem) : EOk (SC r) 59 eC16 := EOk.ent fun args A hg => by
 split at hg
 ·exact (cmp16_calls r _ _).ro rfl A
 ·cases hg
theorem tCf_ok (r : Mem) : TOk (SC r) tCf := ((TOk.nil.cons (eI2_ok fun x y _ => cmp_calls r x y)).cons (eC16_ok r)).cons (eSz_ok r)
theorem keF (r : Mem) (x y : Int) : (lvlT (SC r) tCf .nil 4 3).call 55 [.int .u16 x, .int .u16 y] emptyA fin =
    bif decide (0 ≤ x) && decide (x < 65536) then bif decide (0 ≤ y) && decide (y < 65536) then bif m_cp (m_sz x) (m_sz y) != Int.ofNat 0 then .ret (I (m_cp (m_sz x) (m_sz y))) (AW.mk 0 .nil .nil) else bif m_cp x y != Int.ofNat 0 then .ret (I (m_cp x y)) (AW.mk 0 .nil .nil) else .ret (I (Int.ofNat 0)) (AW.mk 0 .nil .nil) else .fail 420 else .fail 420 := by kernel_rfl
end Go.Proofs
namespace Go.Proofs
open Go Go.Ev
def g2 (γ : Gam) (b m : Nat) : Gam := fun i => match i with | 0 => γ b | 1 => γ m | _ => none
theorem g2_cases {γ : Gam} {b m i : Nat} {g : GI} (h : g2 γ b m i = some g) : (i = 0 ∧ γ b = some g) ∨ (i = 1 ∧ γ m = some g) := by
 unfold g2 at h
 split at h
 ·exact .inl ⟨rfl, h⟩
 ·exact .inr ⟨rfl, h⟩
 ·cases h
theorem ak0_get {e z clock : Nat} {es : List MapEntry} {i : Nat} {o : AObj} (h : (AK0 e z clock es).heap.get i = some o) : (i = 0 ∧ o = .cells [.map (some 1)] e 0 z) ∨ (i = 1 ∧ o = .map es clock) := by
 have : Tr.All (fun i o => (i = 0 ∧ o = AObj.cells [.map (some 1)] e 0 z) ∨ (i = 1 ∧ o = .map es clock)) (AK0 e z clock es).heap id := by
  exact ⟨.inl ⟨rfl, rfl⟩, ⟨.inr ⟨rfl, rfl⟩, trivial, trivial⟩, trivial⟩
 exact this.get h
theorem WRel.pair {γ : Gam} {A : AW} {W : World} (hw : WRel γ A W) {b m e f z clock : Nat} {es : List MapEntry} (hb : A.heap.get b = some (.cells [.map (some m)] e f z)) (hm : A.heap.get m = some (.map es clock))
  (hg : ∀ x ∈ es, gnd x.key = true ∧ gnd x.val = true) : WRel (g2 γ b m) (AK0 e z clock es) W := by
 obtain ⟨gb, hgb, hob⟩ := hw.obj _ _ hb
 obtain ⟨gm, hgm, hom⟩ := hw.obj _ _ hm
 refine ⟨fun i o hi => ?_, fun i g hi => ?_, fun i hi => ?_, fun i j o o' g g' hi hj hgi hgj hbb => ?_, fun i c e' fam sz hi => ?_, fun i c e' fam sz hi => ?_, fun f _ => rfl⟩
 ·rcases ak0_get hi with ⟨rfl, rfl⟩ | ⟨rfl, rfl⟩
  ·refine ⟨gb, hgb, ?_⟩
   cases hob with
   | cells h hf hn hz hc =>
    refine .cells h hf hn hz fun k v hk => ?_
    cases k with
    | zero =>
     cases hk
     obtain ⟨v', h1, h2⟩ := hc 0 _ rfl
     refine ⟨v', h1, ?_⟩
     cases h2 with
     | map hx => exact .map (show g2 γ b m 1 = _ from hx)
    | succ k => cases hk
  ·refine ⟨gm, hgm, ?_⟩
   cases hom with
   | map h he => exact .map h (he.of_gnds hg)
 ·rcases g2_cases hi with ⟨_, h⟩ | ⟨_, h⟩
  ·exact hw.lt _ _ h
  ·exact hw.lt _ _ h
 ·unfold g2
  split
  ·have : (2 : Nat) ≤ 0 := hi
   omega
  ·have : (2 : Nat) ≤ 1 := hi
   omega
  ·rfl
 ·have no : ∀ {g : GI}, gb = g → gm = g → False := fun h1 h2 => by
   have hbb : gb.blk = gm.blk := by rw [h1, h2]
   rcases hw.sep b m _ _ gb gm hb hm hgb hgm hbb with h | ⟨_, _, _, _, _, _, _, _, h⟩
   ·subst h
    rw [hb] at hm
    cases hm
   ·exact nomatch h.1
  have no' : gb.blk = gm.blk → False := fun hbb => by
   rcases hw.sep b m _ _ gb gm hb hm hgb hgm hbb with h | ⟨_, _, _, _, _, _, _, _, h⟩
   ·subst h
    rw [hb] at hm
    cases hm
   ·exact nomatch h.1
  rcases g2_cases hgi with ⟨rfl, h1⟩ | ⟨rfl, h1⟩ <;> rcases g2_cases hgj with ⟨rfl, h2⟩ | ⟨rfl, h2⟩
  ·exact .inl rfl
  ·rw [hgb] at h1; rw [hgm] at h2
   cases h1; cases h2
   exact (no' hbb).elim
  ·rw [hgm] at h1; rw [hgb] at h2
   cases h1; cases h2
   exact (no' hbb.symm).elim
  ·exact .inl rfl
 ·rcases ak0_get hi with ⟨rfl, h⟩ | ⟨rfl, h⟩
  ·cases h
   exact .head _
  ·cases h
 ·rcases ak0_get hi with ⟨rfl, h⟩ | ⟨rfl, h⟩
  ·cases h
   show 0 < 2
   omega
  ·cases h
theorem _root_.Go.Ev.Ro.pair {r : Mem} {γ : Gam} {W : World} (h : Ro r γ W) (b m : Nat) : Ro r (g2 γ b m) W :=
 have key : ∀ b', (∀ i g, γ i = some g → g.blk ≠ b') → ∀ i g, g2 γ b m i = some g → g.blk ≠ b' := fun b' hno i g hi => by
  rcases g2_cases hi with ⟨_, h⟩ | ⟨_, h⟩
  ·exact hno _ _ h
  ·exact hno _ _ h
 ⟨fun b' k v e => ⟨key b' (h.rd b' k v e).1, (h.rd b' k v e).2⟩, fun b' e => ⟨key b' (h.wr b' e).1, (h.wr b' e).2⟩⟩
theorem Ends.pair {γ : Gam} {A : AW} {W : World} (hw : WRel γ A W) {b m e f z clock n eK : Nat} {es : List MapEntry} {l : List Value} (hb : A.heap.get b = some (.cells [.map (some m)] e f z)) (hm : A.heap.get m = some (.map es clock))
  (hf : A.members f = [b]) (hg : ∀ x ∈ es, gnd x.key = true ∧ gnd x.val = true) (hl : ∀ v ∈ l, gnd v = true) {x : Ending} {W' : World} {AR' : AW}
  (h0 : AR'.heap.get 0 = some (.cells [.map (some 1)] e 0 z)) (h1 : AR'.heap.get 1 = some (.map es clock)) (h2 : AR'.heap.get 2 = some (.cells l eK 2 1))
  (h : Go.Ev.Ends (g2 γ b m) W (.slice (some ⟨2, 0, none⟩) n unk) AR' x W') : Go.Ev.Ends γ W (.slice (some ⟨A.next, 0, none⟩) n unk) (A.new (.cells l eK A.next 1)) x W' := by
 obtain ⟨v', γ', rfl, hv, hw', hx⟩ := h
 obtain ⟨gb, hgb, hob⟩ := hw.obj _ _ hb
 obtain ⟨gm, hgm, hom⟩ := hw.obj _ _ hm
 have hb' : γ' 0 = some gb := hx.le 0 gb hgb
 have hm' : γ' 1 = some gm := hx.le 1 gm hgm
 obtain ⟨gr, hgr, hor⟩ := hw'.obj _ _ h2
 have hnew : W.heap.size ≤ gr.blk := by
  rcases hx.new 2 gr hgr with hh | ⟨_, hh | ⟨j, y, hj, hy⟩⟩
  ·cases hh
  ·exact hh
  ·exfalso
   rcases g2_cases hj with ⟨_, hj⟩ | ⟨_, hj⟩
   ·rw [hgb] at hj; cases hj
    rcases hw'.sep 2 0 _ _ gr gb h2 h0 hgr hb' hy.symm with h | ⟨_, _, _, _, _, _, _, q1, q2⟩
    ·cases h
    ·cases q1; exact nomatch q2.1
   ·rw [hgm] at hj; cases hj
    rcases hw'.sep 2 1 _ _ gr gm h2 h1 hgr hm' hy.symm with h | ⟨_, _, _, _, _, _, _, _, q2⟩
    ·cases h
    ·exact nomatch q2.1
 have hkeep : ∀ k, k < W.heap.size → k ≠ gb.blk → k ≠ gm.blk → W'.heap[k]? = W.heap[k]? := fun k hk h1 h2 => by
  refine hx.block k hk fun i g hi hbk => ?_
  rcases g2_cases hi with ⟨_, h⟩ | ⟨_, h⟩
  ·rw [hgb] at h; cases h
   exact h1 hbk.symm
  ·rw [hgm] at h; cases h
   exact h2 hbk.symm
 have hwA : WRel γ A W' := by
  refine ⟨fun i o hi => ?_, fun i g hi => Nat.lt_of_lt_of_le (hw.lt i g hi) hx.size, hw.fresh, hw.sep, hw.mem, hw.famlt, hw.famfresh⟩
  obtain ⟨g, hgi, hr⟩ := hw.obj i o hi
  refine ⟨g, hgi, ?_⟩
  have onB : i = b → ORel γ W' g o := fun h => by
   subst h
   rw [hb] at hi; rw [hgb] at hgi
   cases hi; cases hgi
   obtain ⟨g', hg', ho'⟩ := hw'.obj _ _ h0
   rw [hb'] at hg'; cases hg'
   cases ho' with
   | cells q1 q2 q3 q4 q5 =>
    refine .cells q1 q2 q3 q4 fun k v hk => ?_
    cases k with
    | zero =>
     cases hk
     obtain ⟨u, k1, k2⟩ := q5 0 _ rfl
     refine ⟨u, k1, ?_⟩
     cases k2 with
     | map hy => rw [hm'] at hy; cases hy; exact .map hgm
    | succ k => cases hk
  have onM : i = m → ORel γ W' g o := fun h => by
   subst h
   rw [hm] at hi; rw [hgm] at hgi
   cases hi; cases hgi
   obtain ⟨g', hg', ho'⟩ := hw'.obj _ _ h1
   rw [hm'] at hg'; cases hg'
   cases ho' with
   | map q1 q2 => exact .map q1 (q2.of_gnds hg)
  by_cases c1 : g.blk = gb.blk
  ·rcases hw.sep i b _ _ g gb hi hb hgi hgb c1 with h | ⟨c, e1, c', e2, fam, s1, s2, q1, q2⟩
   ·exact onB h
   ·obtain ⟨q2, _⟩ := q2
    cases q2
    subst q1
    have := hw.mem i _ _ _ _ hi
    rw [hf] at this
    exact onB (List.mem_singleton.1 this)
  ·by_cases c2 : g.blk = gm.blk
   ·rcases hw.sep i m _ _ g gm hi hm hgi hgm c2 with h | ⟨_, _, _, _, _, _, _, _, q2⟩
    ·exact onM h
    ·exact nomatch q2.1
   ·exact hr.mono γ.le_refl (hkeep _ (hw.lt _ _ hgi) c1 c2)
 have hun : ∀ i g', γ i = some g' → g'.blk ≠ gr.blk := fun i g' hi hbk => by
  have := hw.lt i g' hi
  omega
 have ho' : ORel γ W' gr (.cells l eK A.next 1) := by
  cases hor with
  | cells q1 q2 q3 q4 q5 =>
   refine .cells q1 q2 q3 q4 fun k v hk => ?_
   obtain ⟨u, k1, k2⟩ := q5 k v hk
   have hgv := hl v (List.mem_of_getElem? hk)
   exact ⟨u, k1, by rw [k2.eq_of_gnd hgv]; exact VRel.of_gnd _ v hgv⟩
 refine ⟨v', γ.set A.next gr, rfl, ?_, hwA.add ho' hun, ⟨Gam.le_set _ (hw.fresh _ (Nat.le_refl _)), fun i y hi => ?_, hx.size, fun k hk hno => ?_, hx.os, hx.tape, hx.output, hx.drawn⟩⟩
 ·generalize hc : unk = c0 at hv
  cases hv with
  | slice k l0 c c' hg1 hc1 =>
   subst hc
   rw [hgr] at hg1; cases hg1
   exact .slice _ _ _ _ (Gam.set_same _ _ _) hc1
  | sliceE => exact absurd hc (by decide)
 ·rcases Gam.set_cases hi with ⟨rfl, rfl⟩ | ⟨_, hi⟩
  ·exact .inr ⟨hw.fresh _ (Nat.le_refl _), .inl hnew⟩
  ·exact .inl hi
 ·exact hkeep k hk (fun h => hno b gb hgb h.symm) (fun h => hno m gm hgm h.symm)
end Go.Proofs
namespace Go.Proofs
open Go Go.Ev Go.Shelf Go.RowKit Go.Lib Go.Sort
theorem mapBlock_setB {W : World} {b : Nat} {cc : Array Value} {e : TypeId} {fr : Nat × Nat} (hb : W.heap[b]? = some (.cells cc e fr)) (f : Array Value → Array Value) : mapBlock W b f = setB W b (.cells (f cc) e fr) := by
 unfold mapBlock setB
 congr 1
 apply Array.ext_getElem?
 intro k
 simp only [Array.getElem?_modify, Array.getElem?_setIfInBounds]
 by_cases hk : b = k
 ·subst hk
  have hlt : b < W.heap.size := by
   rcases Nat.lt_or_ge b W.heap.size with h | h
   ·exact h
   ·rw [Array.getElem?_eq_none h] at hb; cases hb
  rw [if_pos rfl, if_pos rfl, if_pos hlt, hb]
  rfl
 ·rw [if_neg hk, if_neg hk]
theorem WRel.ahead {γ : Gam} {A : AW} {W : World} (h : WRel γ A W) (n : Nat) : WRel γ A (Sort.ahead W n) :=
 ⟨fun i o hi => let ⟨g, hg, hr⟩ := h.obj i o hi; ⟨g, hg, hr.mono γ.le_refl rfl⟩, h.lt, h.fresh, h.sep, h.mem, h.famlt, h.famfresh⟩
theorem Ext.ahead (γ : Gam) (W : World) (n : Nat) : Ext γ W γ (Sort.ahead W n) := ⟨γ.le_refl, fun _ _ h => .inl h, Nat.le_refl _, fun _ _ _ => rfl, rfl, rfl, rfl, Nat.le_add_right _ _⟩
theorem below_grow (W : World) (os : Array Obj) : BelowD W.heap.size W (Sort.grow W os) := by
 refine ⟨⟨rfl, rfl, rfl, by simp [Sort.grow], fun k hk => ?_⟩, Nat.le_refl _⟩
 show (W.heap ++ os)[k]? = _
 rw [Array.getElem?_append_left hk]
theorem _root_.Go.Ev.GrT.callsD {P : Program} {r : Mem} {f : Nat} {args : List Value} {v : Value} (h : GrT P r f args v) {W : World} {args' : Array Value} (hR : Ro r noG W) (ha : VsRel noG args args'.toList) :
  Calls P f args' W fun e W' => e = .returned v ∧ BelowD W.heap.size W W' :=
 callsIn_wide.1 (h.2 Fence.wide ⟨fun _ => trivial, rfl, rfl⟩ 0 W args' hR ha)
theorem _root_.Go.Ev.BelowD.grow {W W' : World} (h : BelowD W.heap.size W W') : ∃ q os', W' = Sort.grow (W.drewN q) os' := by
 refine ⟨W'.drawn - W.drawn, W'.heap.extract W.heap.size W'.heap.size, ?_⟩
 obtain ⟨⟨h1, h2, h3, h4, h5⟩, h6⟩ := h
 obtain ⟨heap, tape, drawn, os, output⟩ := W'
 obtain ⟨heap0, tape0, drawn0, os0, output0⟩ := W
 simp only at h1 h2 h3 h4 h5 h6
 subst h1 h2 h3
 simp only [Sort.grow, World.drewN, World.mk.injEq, true_and, and_true]
 refine ⟨?_, by omega⟩
 apply Array.ext_getElem?
 intro k
 by_cases hk : k < heap0.size
 ·rw [Array.getElem?_append_left hk, h5 k hk]
 ·rw [Array.getElem?_append_right (by omega), Array.getElem?_extract]
  by_cases hk2 : k < heap.size
  ·rw [if_pos (by omega)]
   congr 1
   omega
  ·rw [if_neg (by omega), Array.getElem?_eq_none (by omega)]
theorem cells_enc {α : Type} {enc : α → Value} (hg : ∀ x, gnd (enc x) = true) {γ : Gam} {o : Nat} {zs : List α} {cc : Array Value} (h : CellsRel γ o (zs.map enc) cc) (j : Nat) (hj : j < zs.length) : cc[o + j]? = some (enc zs[j]) := by
 obtain ⟨v', h1, h2⟩ := h j (enc zs[j]) (by simp [hj])
 rw [h1, h2.eq_of_gnd (hg _)]
theorem sort_genC {P : Program} {ρ : Shelf.Ren} (L : SlLaysF.n6 P ρ) {α : Type} [Inhabited α] (enc : α → Value) (h1 : OneCell enc) (hgnd : ∀ x, gnd (enc x) = true) (g0 : Nat) (capt : List Value) (cf : α → α → Int) (hO : SWO (ltOf cf))
  (eg : ∀ args w, (callFunc g0 args).run P w = .ok (.enter g0 args) w)
  {C : Cfg} (hP : C.P = P) {A0 : AW} {i cap : Nat} {e : TypeId} {fam z : Nat} {zs R : List α} (hi : A0.heap.get i = some (.cells (zs.map enc) e fam z)) (hsz : zs.length < 4611686018427387904) (hcap : cap ≠ unkE)
  (hcmp : ∀ γ W capt' g, WRel γ A0 W → Ro C.ro γ W → VsRel γ capt capt' → γ i = some g → CmpLays1 P g0 ⟨capt'⟩ enc cf g.blk g.off zs.length W)
  (hR : ∀ d : List α, d.Perm zs → d.Pairwise (fun x y => ltOf cf y x = false) → d = R) :
  ∀ F, Wide F → ∀ k γ W args', WRel γ A0 W → Ro C.ro γ W → VsRel γ [.slice (some ⟨i, 0, none⟩) zs.length cap, .func (.func g0) ⟨[]⟩ ⟨capt⟩] (Array.toList args') →
   CallsIn F k C.P (ρ.f 6) args' W (Go.Ev.Ends γ W (.tuple ⟨[]⟩) (A0.only fam i (.cells (R.map enc) e fam z))) := by
 intro F hF k γ W args' hw hro ha
 subst hP
 obtain ⟨g, hg, ho⟩ := hw.obj _ _ hi
 cases ho with
 | cells hb hf hn hz hc =>
 rename_i cc fr
 obtain ⟨l'⟩ := args'
 cases ha with
 | cons h1' h2 =>
 cases h2 with
 | cons h2 h3 =>
 cases h3
 cases h2 with
 | func q1 q2 q3 =>
 cases q1
 rename_i a1 a2
 obtain ⟨a1⟩ := a1
 obtain ⟨a2⟩ := a2
 cases q2
 generalize hm : zs.length = m at h1'
 cases h1' with
 | sliceE => exact absurd rfl hcap
 | slice _ _ _ c' hg' _ =>
 subst hm
 rw [hg] at hg'
 cases hg'
 have hlt := hw.lt _ _ hg
 have hcz := cells_enc hgnd hc
 have hH : Holds enc W g.blk g.off zs.toArray := fun j hj => by
  have hj' : j < zs.length := by simpa using hj
  have h0 := hcz j hj'
  have hjc : g.off + j < cc.size := by
   rcases Nat.lt_or_ge (g.off + j) cc.size with h | h
   ·exact h
   ·rw [Array.getElem?_eq_none h] at h0; cases h0
  refine ⟨?_, ?_⟩
  ·unfold World.cell?
   rw [hb]
   simp only [Option.isSome_none, Bool.false_eq_true, if_false, h0]
   rw [getElem!_pos _ j (by simpa using hj')]
   simp
  ·unfold World.frozen?
   rw [hb]
   have := hf (g.off + j) hjc
   simp only [Bool.and_eq_false_iff, decide_eq_false_iff_not]
   omega
 have hcr : CmpLays1 C.P g0 ⟨a2⟩ enc cf g.blk g.off zs.toArray.size W := by
  rw [show zs.toArray.size = zs.length by simp]
  exact hcmp γ W a2 g hw hro q3 hg
 have hcon := Any.slices_SortFunc L enc h1 cf hO g0 ⟨a2⟩ g.blk g.off c' zs.toArray W eg hcr hH hlt (by simpa using hsz)
 rw [show zs.toArray.size = zs.length by simp] at hcon
 refine (hF.calls hcon).mono fun e' W' he => ?_
 obtain ⟨rfl, d', n, os, hp, hs, rfl⟩ := he
 have hds : d'.size = zs.length := by simpa using hp.1
 have hd : d'.toList = R := by
  refine hR _ ?_ ?_
  ·have := hp.2.2
   rw [show d'.extract 0 zs.length = d' by rw [← hds]; simp] at this
   simpa using this
  ·rw [List.pairwise_iff_getElem]
   intro a b h1 h2 h3
   have := hs a b (Nat.zero_le _) h3 (by rw [← hds]; simpa using h2)
   rw [getElem!_pos _ b (by simpa using h2), getElem!_pos _ a (by simpa using h1)] at this
   simpa using this
 have hw1 := WRel.ahead hw n
 have hb1 : (Sort.ahead W n).heap[g.blk]? = some (.cells cc e fr) := hb
 have e1 : putRow enc (Sort.ahead W n) g.blk g.off d' = setB (Sort.ahead W n) g.blk (.cells (putCells enc g.off d' cc) e fr) := mapBlock_setB hb1 _
 have hps : (putCells enc g.off d' cc).size = cc.size := by simp [putCells]
 have hor : ORel γ (setB (Sort.ahead W n) g.blk (.cells (putCells enc g.off d' cc) e fr)) g (.cells (R.map enc) e fam z) := by
  refine .cells (setB_same _ hlt) (by rw [hps]; exact hf) (by rw [hps]; exact hn) hz fun k v hk => ?_
  rw [List.getElem?_map] at hk
  cases hr : R[k]? with
  | none => rw [hr] at hk; cases hk
  | some x =>
   rw [hr] at hk
   cases hk
   have hkR : k < R.length := by
    rcases Nat.lt_or_ge k R.length with h | h
    ·exact h
    ·rw [List.getElem?_eq_none h] at hr; cases hr
   have hkd : k < d'.size := by rw [← hd] at hkR; simpa using hkR
   have hkz : k < zs.length := by omega
   refine ⟨enc x, ?_, VRel.of_gnd _ _ (hgnd x)⟩
   have h0 := hcz k hkz
   simp only [putCells, Array.getElem?_mapIdx, h0, Option.map_some]
   rw [if_pos ⟨by omega, by omega⟩, show g.off + k - g.off = k by omega]
   rw [getElem!_pos _ k hkd]
   have : d'.toList[k]? = some x := by rw [hd]; exact hr
   rw [show d'[k] = x by simpa [hkd] using this]
 have hw2 := WRel.setRow hw1 hi hg hor
 have hx2 : Ext γ W γ (setB (Sort.ahead W n) g.blk (.cells (putCells enc g.off d' cc) e fr)) := (Ext.ahead γ W n).trans (Ext.setB _ hg)
 have hbl := below_grow (setB (Sort.ahead W n) g.blk (.cells (putCells enc g.off d' cc) e fr)) os
 obtain ⟨hw3, hx3⟩ := WRel.below hw2 hbl
 refine ⟨.tuple #[], γ, rfl, .tuple .nil, ?_, ?_⟩
 ·unfold sortWorld
  rw [e1]
  exact hw3
 ·unfold sortWorld
  rw [e1]
  exact hx2.trans hx3
theorem sort_gen {P : Program} {ρ : Shelf.Ren} (L : SlLaysF.n6 P ρ) {α : Type} [Inhabited α] (enc : α → Value) (h1 : OneCell enc) (hgnd : ∀ x, gnd (enc x) = true) (g0 : Nat) (cf : α → α → Int) (hO : SWO (ltOf cf))
  (eg : ∀ args w, (callFunc g0 args).run P w = .ok (.enter g0 args) w)
  (hcmp : ∀ x y, GrT P Mem.no g0 [enc x, enc y] (.int .i64 (cf x y)))
  {C : Cfg} (hP : C.P = P) {A0 : AW} {i cap : Nat} {e : TypeId} {fam z : Nat} {zs R : List α} (hi : A0.heap.get i = some (.cells (zs.map enc) e fam z)) (hsz : zs.length < 4611686018427387904) (hcap : cap ≠ unkE)
  (hR : ∀ d : List α, d.Perm zs → d.Pairwise (fun x y => ltOf cf y x = false) → d = R) :
  ∀ F, Wide F → ∀ k γ W args', WRel γ A0 W → Ro C.ro γ W → VsRel γ [.slice (some ⟨i, 0, none⟩) zs.length cap, .func (.func g0) #[] #[]] (Array.toList args') →
   CallsIn F k C.P (ρ.f 6) args' W (Go.Ev.Ends γ W (.tuple ⟨[]⟩) (A0.only fam i (.cells (R.map enc) e fam z))) :=
 sort_genC L enc h1 hgnd g0 [] cf hO eg hP hi hsz hcap (fun γ W capt' g _ _ hc _ => by
  cases hc
  exact fun _ _ _ _ x y =>
  (GrT.callsD (hcmp x y) (args' := #[enc x, enc y] ++ #[]) Ro.nought (by simpa using VsRel.of_gnds noG [enc x, enc y] (by simp [gnds, hgnd]))).mono fun _ _ ⟨he, hb⟩ => ⟨he, hb.grow⟩) hR
end Go.Proofs
