/- What the claim is proved with, part 2: the evaluator and the contracts of the calls. -/
import Derived.Test.YtfikcdiijalniaaGreatDoorPack1
/- Sums of numbers, run. -/
namespace Go.Proofs
open Go Go.Ev Go.Num
set_option linter.unusedVariables false
set_option linter.unusedSimpArgs false
set_option maxRecDepth 100000

noncomputable def cOD : Code := bodyOf S0 33
noncomputable def OD_0 : Code := (lc cOD)
noncomputable def OD_1 : Code := (lc (rc cOD))
noncomputable def OD_2 : Code := (lc (lc (rc (rc cOD))))
noncomputable def OD_3 : Code := (ic (ic (rc (lc (rc (rc cOD))))))
noncomputable def OD_4 : Code := (rc (rc (rc cOD)))
theorem OD_eq : cOD = (.seq OD_0 (.seq OD_1 (.seq (.seq OD_2 (.block 0 (.loop OD_3))) OD_4))) := by kernel_rfl
noncomputable def cCS : Code := bodyOf S0 34
noncomputable def CS_0 : Code := (lc cCS)
noncomputable def CS_1 : Code := (lc (rc cCS))
noncomputable def CS_2 : Code := (lc (lc (rc (rc cCS))))
noncomputable def CS_3 : Code := (ic (ic (rc (lc (rc (rc cCS))))))
noncomputable def CS_4 : Code := (lc (lc (rc (rc (rc cCS)))))
noncomputable def CS_5 : Code := (ic (ic (rc (lc (rc (rc (rc cCS)))))))
noncomputable def CS_6 : Code := (rc (rc (rc (rc cCS))))
theorem CS_eq : cCS = (.seq CS_0 (.seq CS_1 (.seq (.seq CS_2 (.block 0 (.loop CS_3))) (.seq (.seq CS_4 (.block 2 (.loop CS_5))) CS_6)))) := by kernel_rfl
noncomputable def cTO : Code := bodyOf S0 39
noncomputable def TO_0 : Code := (lc cTO)
noncomputable def TO_1 : Code := (lc (rc cTO))
noncomputable def TO_2 : Code := (lc (lc (rc (rc cTO))))
noncomputable def TO_3 : Code := (ic (ic (rc (lc (rc (rc cTO))))))
noncomputable def TO_4 : Code := (rc (rc (rc cTO)))
theorem TO_eq : cTO = (.seq TO_0 (.seq TO_1 (.seq (.seq TO_2 (.block 0 (.loop TO_3))) TO_4))) := by kernel_rfl
noncomputable def tC6 : Tbl := tcons 54 (eI2 (fun _ _ => true) fun a b => I (m_cmpI a b)) fun _ => none
noncomputable def tPl : Tbl := tcons 41 (eA1I m_okP fun h l x => .agg ⟨[I (m_ph h l x), I (m_pl h l x)]⟩) fun _ => none
def lvOD : List Nat := [3, 6, 7, 8]
def vOD (b off n cap : Nat) (p : Int) (k : Nat) : OV := [some (I p), some (RS b off n cap), some (I (n : Nat)), some (I (k : Nat))]
def lvCS : List Nat := [1, 5, 6, 11, 12, 13]
def vCS (sl : Value) (b off n cap : Nat) (u l : Int) (k : Nat) : OV := [some sl, some (I u), some (I l), some (RS b off n cap), some (I (n : Nat)), some (I (k : Nat))]
def lvCT : List Nat := [5, 6, 26, 27, 28]
def vCT (b off n cap : Nat) (u l : Int) (k : Nat) : OV := [some (I u), some (I l), some (RS b off n cap), some (I (n : Nat)), some (I (k : Nat))]
def oS (h l : Int) (i : Nat) : Option AObj := some (.cells [I h, I l] 75 i 0)
abbrev PP (i : Nat) : Value := .pointer (some ⟨i, 0, none⟩)
def lvTO : List Nat := [2, 3, 0, 4]
def vTO (b off n cap k : Nat) : OV := [some (PP 0), some (PP 1), some (RS b off n cap), some (I (k : Nat))]

theorem c6A (r : Mem) (a b : Int) : (lvlT (SC r) (fun _ => none) .nil 1 3).call 54 [I a, I b] emptyA fin =
    bif a != a then bif b != b then .ret (I (Int.ofNat 0)) (AW.mk 0 .nil .nil) else .ret (I (Int.negSucc 0)) (AW.mk 0 .nil .nil) else bif b != b then .ret (I (Int.ofNat 1)) (AW.mk 0 .nil .nil) else bif decide (a < b) then .ret (I (Int.negSucc 0)) (AW.mk 0 .nil .nil) else bif decide (a > b) then .ret (I (Int.ofNat 1)) (AW.mk 0 .nil .nil) else .ret (I (Int.ofNat 0)) (AW.mk 0 .nil .nil) := by kernel_rfl

theorem c5A (r : Mem) (a b : Int) : (lvlT (SC r) (fun _ => none) .nil 1 3).call 52 [I a, I b] emptyA fin =
    bif a != a then bif b != b then .ret (I (Int.ofNat 0)) (AW.mk 0 .nil .nil) else .ret (I (Int.negSucc 0)) (AW.mk 0 .nil .nil) else bif b != b then .ret (I (Int.ofNat 1)) (AW.mk 0 .nil .nil) else bif decide (a < b) then .ret (I (Int.negSucc 0)) (AW.mk 0 .nil .nil) else bif decide (a > b) then .ret (I (Int.ofNat 1)) (AW.mk 0 .nil .nil) else .ret (I (Int.ofNat 0)) (AW.mk 0 .nil .nil) := by kernel_rfl

theorem plA (r : Mem) (h l x : Int) : (lvlT (SC r) (fun _ => none) .nil 1 3).call 41 [.agg ⟨[I h, I l]⟩, I x] emptyA fin =
    .ret (.agg ⟨[I (IntKind.wrap .i64 (IntKind.wrap .i64 (h + Int.fdiv x (Int.ofNat 4294967296)) + Int.fdiv (IntKind.wrap .i64 (l + ibits BinOp.and IntKind.i64 x (Int.ofNat 4294967295))) (Int.ofNat 4294967296))), I (ibits BinOp.and IntKind.i64 (IntKind.wrap .i64 (l + ibits BinOp.and IntKind.i64 x (Int.ofNat 4294967295))) (Int.ofNat 4294967295))]⟩) (AW.mk 0 .nil .nil) := by kernel_rfl

theorem lsA (r : Mem) (a b c d : Int) : (lvlT (SC r) (fun _ => none) .nil 1 3).call 42 [.agg ⟨[I a, I b]⟩, .agg ⟨[I c, I d]⟩] emptyA fin =
    bif decide (a < c) then .ret (.bool true) (AW.mk 0 .nil .nil) else bif a == c then bif decide (b < d) then .ret (.bool true) (AW.mk 0 .nil .nil) else .ret (.bool false) (AW.mk 0 .nil .nil) else .ret (.bool false) (AW.mk 0 .nil .nil) := by kernel_rfl

theorem odA (r : Mem) (b off n cap : Nat) (fs : FnsC) (K : OV → List Nat → OO → CR) (kx : Nat → KS) (kr : KS) : run (SC r) 493 19 1 (.seq OD_0 (.seq OD_1 OD_2)) fs none (rbK 0 lvOD [] K) kx kr (sc0 493 [RS b off n cap]) (tr0 493 [RS b off n cap]) [] emptyA =
    K [some (I (Int.ofNat 0)), some (.slice (some ⟨b, off, some 0⟩) n cap), some (I (Int.ofNat n)), some (I (Int.ofNat 0))] [] [] := by kernel_rfl

theorem odB (r : Mem) (b off n cap : Nat) (p : Int) (k : Nat) (fs : FnsC) (K : OV → List Nat → OO → CR) (KX : Nat → OV → List Nat → OO → CR) (kr : KS) : run (SC r) 493 19 1 OD_3 fs none (rbK 0 lvOD [] K) (fun j => rbK 0 [3] [] (KX j)) kr [] (bT lvOD (vOD b off n cap p k) .nil) [] (mkA []) =
    bif decide (Int.ofNat k < Int.ofNat n) then bif Nat.blt (Int.toNat (Int.ofNat k)) n then Option.casesOn (r b (Nat.add off (Nat.mul (Int.toNat (Int.ofNat k)) 1))) (.fail 423) fun val => bif isI IntKind.i64 val then K [some (I (ibits BinOp.xor IntKind.i64 p (ibits BinOp.and IntKind.i64 (ofI val) (Int.ofNat 1)))), some (.slice (some ⟨b, off, some 0⟩) n cap), some (I (Int.ofNat n)), some (I (IntKind.wrap .i64 (Int.ofNat k + Int.ofNat 1)))] [] [] else .fail 420 else .fail 420 else KX 0 [some (I p)] [] [] := by kernel_rfl

theorem odC (r : Mem) (p : Int) (fs : FnsC) (K KR : OV → List Nat → OO → CR) (kx : Nat → KS) : run (SC r) 493 19 1 OD_4 fs none (rbK 0 [2] [] K) kx (rbK 0 [2] [] KR) [] (bT [3] [some (I p)] .nil) [] (mkA []) =
    bif p == Int.ofNat 1 then KR [some (.bool true)] [] [] else KR [some (.bool false)] [] [] := by kernel_rfl

theorem csA (r : Mem) (b off n cap b2 off2 n2 cap2 : Nat) (fs : FnsC) (K : OV → List Nat → OO → CR) (kx : Nat → KS) (kr : KS) : run (SC r) 469777779 52 1 (.seq CS_0 (.seq CS_1 CS_2)) fs none (rbK 0 lvCS [] K) kx kr (sc0 469777779 [RS b off n cap, RS b2 off2 n2 cap2]) (tr0 469777779 [RS b off n cap, RS b2 off2 n2 cap2]) [] emptyA =
    K [some (.slice (some ⟨b2, off2, some 0⟩) n2 cap2), some (I (Int.ofNat 0)), some (I (Int.ofNat 0)), some (.slice (some ⟨b, off, some 0⟩) n cap), some (I (Int.ofNat n)), some (I (Int.ofNat 0))] [] [] := by kernel_rfl

theorem csB (r : Mem) (b off n cap b2 off2 n2 cap2 : Nat) (u l : Int) (k : Nat) (fs : FnsC) (K : OV → List Nat → OO → CR) (KX : Nat → OV → List Nat → OO → CR) (kr : KS) : run (SC r) 469777779 52 1 CS_3 fs none (rbK 0 lvCS [] K) (fun j => rbK 0 [1, 5, 6] [] (KX j)) kr [] (bT lvCS (vCS (RS b2 off2 n2 cap2) b off n cap u l k) .nil) [] (mkA []) =
    bif decide (Int.ofNat k < Int.ofNat n) then bif Nat.blt (Int.toNat (Int.ofNat k)) n then Option.casesOn (r b (Nat.add off (Nat.mul (Int.toNat (Int.ofNat k)) 1))) (.fail 423) fun val => bif isI IntKind.i64 val then K [some (.slice (some ⟨b2, off2, some 0⟩) n2 cap2), some (I (IntKind.wrap .i64 (u + Int.fdiv (ofI val) (Int.ofNat 4294967296)))), some (I (IntKind.wrap .i64 (l + ibits BinOp.and IntKind.i64 (ofI val) (Int.ofNat 4294967295)))), some (.slice (some ⟨b, off, some 0⟩) n cap), some (I (Int.ofNat n)), some (I (IntKind.wrap .i64 (Int.ofNat k + Int.ofNat 1)))] [] [] else .fail 420 else .fail 420 else KX 0 [some (.slice (some ⟨b2, off2, some 0⟩) n2 cap2), some (I u), some (I l)] [] [] := by kernel_rfl

theorem csC (r : Mem) (b2 off2 n2 cap2 : Nat) (u l : Int) (fs : FnsC) (K : OV → List Nat → OO → CR) (kx : Nat → KS) (kr : KS) : run (SC r) 469777779 52 1 CS_4 fs none (rbK 0 lvCT [] K) kx kr [] (bT [1, 5, 6] [some (RS b2 off2 n2 cap2), some (I u), some (I l)] .nil) [] (mkA []) =
    K [some (I u), some (I l), some (.slice (some ⟨b2, off2, some 0⟩) n2 cap2), some (I (Int.ofNat n2)), some (I (Int.ofNat 0))] [] [] := by kernel_rfl

theorem csD (r : Mem) (b off n cap : Nat) (u l : Int) (k : Nat) (fs : FnsC) (K : OV → List Nat → OO → CR) (KX : Nat → OV → List Nat → OO → CR) (kr : KS) : run (SC r) 469777779 52 1 CS_5 fs none (rbK 0 lvCT [] K) (fun j => rbK 0 [5, 6] [] (KX j)) kr [] (bT lvCT (vCT b off n cap u l k) .nil) [] (mkA []) =
    bif decide (Int.ofNat k < Int.ofNat n) then bif Nat.blt (Int.toNat (Int.ofNat k)) n then Option.casesOn (r b (Nat.add off (Nat.mul (Int.toNat (Int.ofNat k)) 1))) (.fail 423) fun val => bif isI IntKind.i64 val then K [some (I (IntKind.wrap .i64 (u - Int.fdiv (ofI val) (Int.ofNat 4294967296)))), some (I (IntKind.wrap .i64 (l - ibits BinOp.and IntKind.i64 (ofI val) (Int.ofNat 4294967295)))), some (.slice (some ⟨b, off, some 0⟩) n cap), some (I (Int.ofNat n)), some (I (IntKind.wrap .i64 (Int.ofNat k + Int.ofNat 1)))] [] [] else .fail 420 else .fail 420 else KX 2 [some (I u), some (I l)] [] [] := by kernel_rfl

theorem csE (r : Mem) (u l : Int) (K KR : OV → List Nat → OO → CR) (kx : Nat → KS) : run (SC r) 469777779 52 4 CS_6 (lvlT (SC r) tC6 .nil 4 3) none (rbK 0 [4] [] K) kx (rbK 0 [4] [] KR) [] (bT [5, 6] [some (I u), some (I l)] .nil) [] (mkA []) =
    bif m_cmpI (IntKind.wrap .i64 (u + Int.fdiv l (Int.ofNat 4294967296))) (Int.ofNat 0) != Int.ofNat 0 then KR [some (I (m_cmpI (IntKind.wrap .i64 (u + Int.fdiv l (Int.ofNat 4294967296))) (Int.ofNat 0)))] [] [] else bif m_cmpI (ibits BinOp.and IntKind.i64 l (Int.ofNat 4294967295)) (Int.ofNat 0) != Int.ofNat 0 then KR [some (I (m_cmpI (ibits BinOp.and IntKind.i64 l (Int.ofNat 4294967295)) (Int.ofNat 0)))] [] [] else KR [some (I (Int.ofNat 0))] [] [] := by kernel_rfl

theorem toA (r : Mem) (b off n cap : Nat) (fs : FnsC) (K : OV → List Nat → OO → CR) (kx : Nat → KS) (kr : KS) : run (SC r) 29 18 1 (.seq TO_0 (.seq TO_1 TO_2)) fs none (rbK 0 lvTO [.g, .g] K) kx kr (sc0 29 [RS b off n cap]) (tr0 29 [RS b off n cap]) [] emptyA =
    K [some (.pointer (some ⟨0, 0, none⟩)), some (.pointer (some ⟨1, 0, none⟩)), some (.slice (some ⟨b, off, some 0⟩) n cap), some (I (Int.ofNat 0))] [] [some (.cells [I (Int.ofNat 0), I (Int.ofNat 0)] 75 0 0), some (.cells [I (Int.ofNat 0), I (Int.ofNat 0)] 75 1 0)] := by kernel_rfl

theorem toB (r : Mem) (b off n cap k : Nat) (h l : Int) (K : OV → List Nat → OO → CR) (KX : Nat → OV → List Nat → OO → CR) (kr : KS) : run (SC r) 29 18 1 TO_3 (lvlT (SC r) tPl .nil 1 1) none (rbK 0 lvTO [.g, .g] K) (fun j => rbK 0 [2, 3] [.g, .g] (KX j)) kr [] (bT lvTO (vTO b off n cap k) .nil) [] (mkA [oS 0 0 0, oS h l 1]) =
    bif decide (Int.ofNat k < Int.ofNat n) then bif Nat.blt (Int.toNat (Int.ofNat k)) n then Option.casesOn (r b (Nat.add off (Nat.mul (Int.toNat (Int.ofNat k)) 1))) (.fail 423) fun val => bif isI IntKind.i64 val then bif m_okP h l (ofI val) then Option.casesOn (r b (Nat.add off (Nat.mul (Int.toNat (Int.ofNat k)) 1))) (.fail 423) fun val_1 => bif isI IntKind.i64 val_1 then bif m_eqv (I (ofI val_1)) (I (ofI val)) then bif m_eqv (.agg ⟨[I h, I l]⟩) (.agg ⟨[I h, I l]⟩) then K [some (.pointer (some ⟨0, 0, none⟩)), some (.pointer (some ⟨1, 0, none⟩)), some (.slice (some ⟨b, off, some 0⟩) n cap), some (I (IntKind.wrap .i64 (Int.ofNat k + Int.ofNat 1)))] [] [some (.cells [I (Int.ofNat 0), I (Int.ofNat 0)] 75 0 0), some (.cells [I (m_ph h l (ofI val)), I (m_pl h l (ofI val))] 75 1 0)] else .fail 420 else .fail 420 else .fail 420 else .fail 420 else .fail 420 else .fail 420 else KX 0 [some (.pointer (some ⟨0, 0, none⟩)), some (.pointer (some ⟨1, 0, none⟩))] [] [some (.cells [I (Int.ofNat 0), I (Int.ofNat 0)] 75 0 0), some (.cells [I h, I l] 75 1 0)] := by kernel_rfl

theorem toC (r : Mem) (h l : Int) (fs : FnsC) (K KR : OV → List Nat → OO → CR) (kx : Nat → KS) : run (SC r) 29 18 1 TO_4 fs none (rbK 0 [2] [.g] K) kx (rbK 0 [2] [.g] KR) [] (bT [2, 3] [some (PP 0), some (PP 1)] .nil) [] (mkA [oS 0 0 0, oS h l 1]) =
    KR [some (.pointer (some ⟨0, 0, none⟩))] [] [some (.cells [I h, I l] 75 0 0)] := by kernel_rfl

end Go.Proofs

/- Sums of numbers: what the calls answer. -/
namespace Go.Proofs
open Go Go.Ev Go.Num
set_option linter.unusedVariables false
set_option linter.unusedSimpArgs false
set_option maxRecDepth 100000

theorem cmp_form (a b : Int) : (bif a != a then bif b != b then CR.ret (I (Int.ofNat 0)) (AW.mk 0 .nil .nil) else .ret (I (Int.negSucc 0)) (AW.mk 0 .nil .nil) else bif b != b then .ret (I (Int.ofNat 1)) (AW.mk 0 .nil .nil) else bif decide (a < b) then .ret (I (Int.negSucc 0)) (AW.mk 0 .nil .nil) else bif decide (a > b) then .ret (I (Int.ofNat 1)) (AW.mk 0 .nil .nil) else .ret (I (Int.ofNat 0)) (AW.mk 0 .nil .nil)) = .ret (I (m_cmpI a b)) emptyA := by
 simp only [neF (show a = a from rfl), neF (show b = b from rfl), cond_false, m_cmpI]
 by_cases c : a < b
 ·rw [dT c, if_pos c]; rfl
 ·by_cases d : a > b
  ·rw [dF c, dT d, if_neg c, if_pos d]; rfl
  ·rw [dF c, dF d, if_neg c, if_neg d]; rfl
theorem cmp_calls (r : Mem) (a b : Int) : GrT Tryz.prog r 52 [I a, I b] (I (m_cmpI a b)) := GrT.of (SC_ok r) TOk.nil .nil rfl ⟨1, 3, (c5A r a b).trans (cmp_form a b)⟩
theorem cmp64_calls (r : Mem) (a b : Int) : GrT Tryz.prog r 54 [I a, I b] (I (m_cmpI a b)) := GrT.of (SC_ok r) TOk.nil .nil rfl ⟨1, 3, (c6A r a b).trans (cmp_form a b)⟩
theorem tC6_ok (r : Mem) : TOk (SC r) tC6 := TOk.nil.cons (eI2_ok fun a b _ => cmp64_calls r a b)
theorem plus_calls (r : Mem) {h l x : Int} (hg : m_okP h l x = true) : GrT Tryz.prog r 41 [.agg ⟨[I h, I l]⟩, I x] (.agg ⟨[I (m_ph h l x), I (m_pl h l x)]⟩) := by
 have hp := @of_decide_eq_true _ (Classical.propDecidable _) hg
 unfold s64 at hp
 refine GrT.of (SC_ok r) TOk.nil .nil rfl ⟨1, 3, (plA r h l x).trans ?_⟩
 rw [fdiv32, and32, and32, fdiv32]
 have e1 : IntKind.wrap .i64 (l + x % 4294967296) = l + x % 4294967296 := wrI (by omega)
 have e2 : IntKind.wrap .i64 (h + x / 4294967296) = h + x / 4294967296 := wrI (by omega)
 rw [e1, e2, wrI (by omega)]
 rfl
theorem tPl_ok (r : Mem) : TOk (SC r) tPl := TOk.nil.cons (eA1I_ok fun h l x hg => plus_calls r hg)
theorem less_calls (r : Mem) (S T : Int) : GrT Tryz.prog r 42 [.agg ⟨[I (S / 4294967296), I (S % 4294967296)]⟩, .agg ⟨[I (T / 4294967296), I (T % 4294967296)]⟩] (.bool (decide (S < T))) := by
 refine GrT.of (SC_ok r) TOk.nil .nil rfl ⟨1, 3, (lsA r _ _ _ _).trans ?_⟩
 by_cases c : S / 4294967296 < T / 4294967296
 ·rw [dT c, dT (show S < T by omega)]; rfl
 ·by_cases d : S / 4294967296 = T / 4294967296
  ·by_cases e : S % 4294967296 < T % 4294967296
   ·rw [dF c, eqT d, dT e, dT (show S < T by omega)]; rfl
   ·rw [dF c, eqT d, dF e, dF (show ¬ S < T by omega)]; rfl
  ·rw [dF c, eqF d, dF (show ¬ S < T by omega)]; rfl

section
variable {r : Mem} {b off n cap : Nat} {z : Nat → Int}
theorem row_1 (hz : rowAt r b off n z) {i : Nat} (h : i < n) : r b (Nat.add off (Nat.mul i 1)) = some (I (z i)) := by
 rw [Nat.add_eq, Nat.mul_eq, Nat.mul_one]
 exact hz i h

theorem od_ok (hz : rowAt r b off n z) (hn : n ≤ 1000000) : GrT Tryz.prog r 33 [RS b off n cap] (.bool (suN z n % 2 == 1)) := by
 refine GrT.ofS (C := SC r) rfl rfl rfl (callL (SC_ok r) (by kernel_rfl) ((bodySC r _).trans OD_eq) (nt := 19) (by kernel_rfl) (rs := [.tmp 2]) (by kernel_rfl) 493 rfl (.step (.step .base)) TOk.nil (tm := .nil) (L := 1) (d := 1) lvOD []
  (fun j vs ms os => ∃ k, k ≤ n ∧ j = n - k ∧ vs = vOD b off n cap (suN z k % 2) k ∧ ms = [] ∧ os = [])
  ⟨[3], [], fun vs ms os => vs = [some (I (suN z n % 2))] ∧ ms = [] ∧ os = []⟩
  ⟨[2], [], fun vs ms os => vs = [some (.bool (suN z n % 2 == 1))] ∧ ms = [] ∧ os = []⟩ ?_ ?_ ?_ ?_)
 ·exact (odA r b off n cap _ _ _ _).trans (qq_ok ⟨n, 0, Nat.zero_le _, rfl, rfl, rfl, rfl⟩)
 ·rintro j vs ms os ⟨k, hk, rfl, rfl, rfl, rfl⟩
  refine ⟨_, TOk.nil, .nil, 1, 1, 1, ?_⟩
  have hn' := odB r b off n cap (suN z k % 2) k
  simp only [Int.ofNat_eq_natCast, Int.toNat_natCast] at hn'
  by_cases c : k < n
  ·have c1 : (k : Int) < (n : Int) := by omega
   have c3 : Nat.blt k n = true := Nat.ble_eq_true_of_le (by omega)
   have e3 := inc1' (k := k) (by omega)
   have e4 := and1 (z k)
   have e5 := xor1 (suN z k) (z k)
   simp only [Int.ofNat_eq_natCast] at e3 e4
   simp only [dT c1, c3, cond_true, row_1 hz c, isI_I, e3] at hn'
   dsimp +instances only [ofI_I] at hn'
   simp only [e4, e5] at hn'
   exact (hn' _ _ _ _).trans (qq_ok ⟨n - (k + 1), by omega, k + 1, c, rfl, rfl, rfl, rfl⟩)
  ·have hkl : k = n := by omega
   subst hkl
   have c1 : ¬ (k : Int) < (k : Int) := by omega
   simp only [dF c1, cond_false] at hn'
   exact (hn' _ _ _ _).trans (qq_ok ⟨rfl, rfl, rfl⟩)
 ·rintro vs ms os ⟨rfl, rfl, rfl⟩
  have hn' := odC r (suN z n % 2)
  refine ⟨_, TOk.nil, .nil, 1, 1, 1, (hn' _ _ _ _).trans ?_⟩
  cases h : (suN z n % 2 == 1) with
  | true => exact qq_ok ⟨rfl, rfl, rfl⟩
  | false => exact qq_ok ⟨rfl, rfl, rfl⟩
 ·rintro vs ms os ⟨rfl, rfl, rfl⟩
  exact ⟨_, mkA [], by kernel_rfl, rfl⟩

theorem to_ok (hz : rowAt r b off n z) (h64 : ∀ j, j < n → s64 (z j)) (hn : n ≤ 100) : GrT Tryz.prog r 39 [RS b off n cap] (.agg ⟨[I (suN z n / 4294967296), I (suN z n % 4294967296)]⟩) := by
 refine GrT.ofS (C := SC r) rfl rfl rfl (callL (SC_ok r) (by kernel_rfl) ((bodySC r _).trans TO_eq) (nt := 18) (by kernel_rfl) (rs := [.cell 2 75]) (by kernel_rfl) 29 rfl (.step (.step .base)) TOk.nil (tm := .nil) (L := 1) (d := 1) lvTO [.g, .g]
  (fun j vs ms os => ∃ k, k ≤ n ∧ j = n - k ∧ vs = vTO b off n cap k ∧ ms = [] ∧ os = [oS 0 0 0, oS (suN z k / 4294967296) (suN z k % 4294967296) 1])
  ⟨[2, 3], [.g, .g], fun vs ms os => vs = [some (PP 0), some (PP 1)] ∧ ms = [] ∧ os = [oS 0 0 0, oS (suN z n / 4294967296) (suN z n % 4294967296) 1]⟩
  ⟨[2], [.g], fun vs ms os => vs = [some (PP 0)] ∧ ms = [] ∧ os = [oS (suN z n / 4294967296) (suN z n % 4294967296) 0]⟩ ?_ ?_ ?_ ?_)
 ·exact (toA r b off n cap _ _ _ _).trans (qq_ok ⟨n, 0, Nat.zero_le _, rfl, rfl, rfl, rfl⟩)
 ·rintro j vs ms os ⟨k, hk, rfl, rfl, rfl, rfl⟩
  refine ⟨_, tPl_ok r, .nil, 1, 1, 1, ?_⟩
  have hn' := toB r b off n cap k (suN z k / 4294967296) (suN z k % 4294967296)
  simp only [Int.ofNat_eq_natCast, Int.toNat_natCast] at hn'
  by_cases c : k < n
  ·have c1 : (k : Int) < (n : Int) := by omega
   have c3 : Nat.blt k n = true := Nat.ble_eq_true_of_le (by omega)
   have e3 := inc1' (k := k) (by omega)
   have eqv : ∀ a : Int, m_eqv (I a) (I a) = true := fun a => by simp [m_eqv, veq]
   have eqs : ∀ a b : Int, m_eqv (.agg ⟨[I a, I b]⟩) (.agg ⟨[I a, I b]⟩) = true := fun a b => by simp [m_eqv, veq, veqs]
   have okp := okP_of (su_bd (z := z) (n := k) (fun j hj => h64 j (by omega)) (by omega)) (h64 k c)
   simp only [Int.ofNat_eq_natCast] at e3
   simp only [dT c1, c3, cond_true, row_1 hz c, isI_I, e3] at hn'
   dsimp +instances only [ofI_I] at hn'
   simp only [okp, eqv, eqs, cond_true, ph_eq, pl_eq] at hn'
   exact (hn' _ _ _).trans (qq_ok ⟨n - (k + 1), by omega, k + 1, c, rfl, rfl, rfl, rfl⟩)
  ·have hkl : k = n := by omega
   subst hkl
   have c1 : ¬ (k : Int) < (k : Int) := by omega
   simp only [dF c1, cond_false] at hn'
   exact (hn' _ _ _).trans (qq_ok ⟨rfl, rfl, rfl⟩)
 ·rintro vs ms os ⟨rfl, rfl, rfl⟩
  exact ⟨_, TOk.nil, .nil, 1, 1, 1, (toC r _ _ _ _ _ _).trans (qq_ok ⟨rfl, rfl, rfl⟩)⟩
 ·rintro vs ms os ⟨rfl, rfl, rfl⟩
  exact ⟨_, mkA [oS (suN z n / 4294967296) (suN z n % 4294967296) 0], by kernel_rfl, rfl⟩
end

section
variable {r : Mem} {b off n cap b2 off2 n2 cap2 : Nat} {z z2 : Nat → Int}
theorem cs_ok (hz : rowAt r b off n z) (h64 : ∀ j, j < n → s64 (z j)) (hn : n ≤ 100) (hz2 : rowAt r b2 off2 n2 z2) (h642 : ∀ j, j < n2 → s64 (z2 j)) (hn2 : n2 ≤ 100) : GrT Tryz.prog r 34 [RS b off n cap, RS b2 off2 n2 cap2] (I (m_cmpI (suN z n) (suN z2 n2))) := by
 refine GrT.ofS (C := SC r) rfl rfl rfl (callO (SC_ok r) (by kernel_rfl) ((bodySC r _).trans CS_eq) (nt := 52) (by kernel_rfl) (rs := [.tmp 4]) (by kernel_rfl) 469777779 rfl ⟨[4], [], fun vs ms os => vs = [some (I (m_cmpI (suN z n) (suN z2 n2)))] ∧ ms = [] ∧ os = []⟩ ?_ fun γ W F kk hwr hF hro h0' => ?_)
 ·rintro vs ms os ⟨rfl, rfl, rfl⟩
  exact ⟨_, mkA [], by kernel_rfl, rfl⟩
 have h0' : ∀ i, 0 ≤ i → γ i = none := h0'
 refine Go.Ev.Reach.after3R (SC_ok r) TOk.nil (tm := .nil) (L := 1) (L' := 1) (d := 1) hF hro h0' (.step (.step .base))
  (o1 := ⟨lvCS, [], fun vs ms os => vs = vCS (RS b2 off2 n2 cap2) b off n cap 0 0 0 ∧ ms = [] ∧ os = []⟩)
  (o2 := ⟨[1, 5, 6], [], fun vs ms os => vs = [some (RS b2 off2 n2 cap2), some (I (suN (fun j => z j / 4294967296) n)), some (I (suN (fun j => z j % 4294967296) n))] ∧ ms = [] ∧ os = []⟩) [] (fun p hp => nomatch hp) ?_ ?_ ((csA r b off n cap b2 off2 n2 cap2 _ _ _ _).trans (qq_ok ⟨rfl, rfl, rfl⟩))
 ·rintro vs ms os ⟨rfl, rfl, rfl⟩
  refine Go.Ev.Reach.blockC (Go.Ev.Reach.loopC (j := n) (lv := lvCS) (fl := []) (I := fun j vs ms os => ∃ k : Nat, k ≤ n ∧ j = n - k ∧ vs = vCS (RS b2 off2 n2 cap2) b off n cap (suN (fun j => z j / 4294967296) k) (suN (fun j => z j % 4294967296) k) k ∧ ms = [] ∧ os = []) (fun j vs ms os hI => ?_) ⟨0, by omega, rfl, rfl, rfl, rfl⟩)
  obtain ⟨k, hk, rfl, rfl, rfl, rfl⟩ := hI
  refine Go.Ev.Reach.segR (SC_ok r) TOk.nil (tm := .nil) (L := 1) (L' := 1) (d := 1) hF hro h0' [(0, ⟨[1, 5, 6], [], fun vs ms os => vs = [some (RS b2 off2 n2 cap2), some (I (suN (fun j => z j / 4294967296) n)), some (I (suN (fun j => z j % 4294967296) n))] ∧ ms = [] ∧ os = []⟩)] (fun p hp => by simp only [List.mem_cons, List.not_mem_nil, or_false] at hp; subst hp; rfl) ?_
  have hn' := csB r b off n cap b2 off2 n2 cap2 (suN (fun j => z j / 4294967296) k) (suN (fun j => z j % 4294967296) k) k
  by_cases c : k < n
  ·have c1 : Int.ofNat k < Int.ofNat n := by simp; omega
   have c3 : Nat.blt k n = true := Nat.ble_eq_true_of_le (by omega)
   have e3 := inc1 (k := k) (by omega)
   have hb1 := su_hi (z := z) (n := k) fun j hj => h64 j (by omega)
   have hb2 := su_lo z k
   have hx := h64 k c
   unfold s64 at hx
   have e4 : IntKind.wrap .i64 (suN (fun j => z j / 4294967296) k + z k / 4294967296) = suN (fun j => z j / 4294967296) (k + 1) := wrI (by omega)
   have e5 : IntKind.wrap .i64 (suN (fun j => z j % 4294967296) k + z k % 4294967296) = suN (fun j => z j % 4294967296) (k + 1) := wrI (by omega)
   have c3' : Nat.blt (Int.ofNat k).toNat n = true := c3
   have hr : r b (Nat.add off (Nat.mul (Int.ofNat k).toNat 1)) = some (I (z k)) := row_1 hz c
   simp only [dT c1, c3', cond_true, hr, isI_I, e3] at hn'
   dsimp +instances only [ofI_I] at hn'
   simp only [fdiv32, and32, e4, e5] at hn'
   exact (hn' _ _ _ _).trans (qq_ok ⟨n - (k + 1), by omega, k + 1, c, rfl, rfl, rfl, rfl⟩)
  ·have hkl : k = n := by omega
   subst hkl
   have c1 : ¬ Int.ofNat k < Int.ofNat k := by omega
   simp only [dF c1, cond_false] at hn'
   exact (hn' _ _ _ _).trans (qq_ok ⟨rfl, rfl, rfl⟩)
 ·rintro vs ms os ⟨rfl, rfl, rfl⟩
  refine Go.Ev.Reach.after3R (SC_ok r) TOk.nil (tm := .nil) (L := 1) (L' := 1) (d := 1) hF hro h0' .base
   (o1 := ⟨lvCT, [], fun vs ms os => vs = vCT b2 off2 n2 cap2 (suN (fun j => z j / 4294967296) n) (suN (fun j => z j % 4294967296) n) 0 ∧ ms = [] ∧ os = []⟩)
   (o2 := ⟨[5, 6], [], fun vs ms os => vs = [some (I (suN (fun j => z j / 4294967296) n - suN (fun j => z2 j / 4294967296) n2)), some (I (suN (fun j => z j % 4294967296) n - suN (fun j => z2 j % 4294967296) n2))] ∧ ms = [] ∧ os = []⟩) [] (fun p hp => nomatch hp) ?_ ?_ ((csC r b2 off2 n2 cap2 _ _ _ _ _ _).trans (qq_ok ⟨rfl, rfl, rfl⟩))
  ·rintro vs ms os ⟨rfl, rfl, rfl⟩
   refine Go.Ev.Reach.blockC (Go.Ev.Reach.loopC (j := n2) (lv := lvCT) (fl := []) (I := fun j vs ms os => ∃ k : Nat, k ≤ n2 ∧ j = n2 - k ∧ vs = vCT b2 off2 n2 cap2 (suN (fun j => z j / 4294967296) n - suN (fun j => z2 j / 4294967296) k) (suN (fun j => z j % 4294967296) n - suN (fun j => z2 j % 4294967296) k) k ∧ ms = [] ∧ os = []) (fun j vs ms os hI => ?_) ⟨0, by omega, rfl, by simp [suN], rfl, rfl⟩)
   obtain ⟨k, hk, rfl, rfl, rfl, rfl⟩ := hI
   refine Go.Ev.Reach.segR (SC_ok r) TOk.nil (tm := .nil) (L := 1) (L' := 1) (d := 1) hF hro h0' [(2, ⟨[5, 6], [], fun vs ms os => vs = [some (I (suN (fun j => z j / 4294967296) n - suN (fun j => z2 j / 4294967296) n2)), some (I (suN (fun j => z j % 4294967296) n - suN (fun j => z2 j % 4294967296) n2))] ∧ ms = [] ∧ os = []⟩)] (fun p hp => by simp only [List.mem_cons, List.not_mem_nil, or_false] at hp; subst hp; rfl) ?_
   have hn' := csD r b2 off2 n2 cap2 (suN (fun j => z j / 4294967296) n - suN (fun j => z2 j / 4294967296) k) (suN (fun j => z j % 4294967296) n - suN (fun j => z2 j % 4294967296) k) k
   by_cases c : k < n2
   ·have c1 : Int.ofNat k < Int.ofNat n2 := by simp; omega
    have c3 : Nat.blt (Int.ofNat k).toNat n2 = true := Nat.ble_eq_true_of_le (by simp; omega)
    have e3 := inc1 (k := k) (by omega)
    have ha1 := su_hi h64
    have ha2 := su_lo z n
    have hb1 := su_hi (z := z2) (n := k) fun j hj => h642 j (by omega)
    have hb2 := su_lo z2 k
    have hx := h642 k c
    unfold s64 at hx
    have e4 : IntKind.wrap .i64 (suN (fun j => z j / 4294967296) n - suN (fun j => z2 j / 4294967296) k - z2 k / 4294967296) = suN (fun j => z j / 4294967296) n - suN (fun j => z2 j / 4294967296) (k + 1) := by
     rw [suN, wrI (by omega)]; omega
    have e5 : IntKind.wrap .i64 (suN (fun j => z j % 4294967296) n - suN (fun j => z2 j % 4294967296) k - z2 k % 4294967296) = suN (fun j => z j % 4294967296) n - suN (fun j => z2 j % 4294967296) (k + 1) := by
     rw [suN, wrI (by omega)]; omega
    have hr : r b2 (Nat.add off2 (Nat.mul (Int.ofNat k).toNat 1)) = some (I (z2 k)) := row_1 hz2 c
    simp only [dT c1, c3, cond_true, hr, isI_I, e3] at hn'
    dsimp +instances only [ofI_I] at hn'
    simp only [fdiv32, and32, e4, e5] at hn'
    exact (hn' _ _ _ _).trans (qq_ok ⟨n2 - (k + 1), by omega, k + 1, c, rfl, rfl, rfl, rfl⟩)
   ·have hkl : k = n2 := by omega
    subst hkl
    have c1 : ¬ Int.ofNat k < Int.ofNat k := by omega
    simp only [dF c1, cond_false] at hn'
    exact (hn' _ _ _ _).trans (qq_ok ⟨rfl, rfl, rfl⟩)
  ·rintro vs ms os ⟨rfl, rfl, rfl⟩
   refine Go.Ev.Reach.segR (SC_ok r) (tC6_ok r) (tm := .nil) (L := 4) (L' := 4) (d := 3) hF hro h0' [] (fun p hp => nomatch hp) ?_
   have hn' := csE r (suN (fun j => z j / 4294967296) n - suN (fun j => z2 j / 4294967296) n2) (suN (fun j => z j % 4294967296) n - suN (fun j => z2 j % 4294967296) n2)
   have ha1 := su_hi h64
   have ha2 := su_lo z n
   have hb1 := su_hi h642
   have hb2 := su_lo z2 n2
   have key := cmp_halves (suN (fun j => z j / 4294967296) n - suN (fun j => z2 j / 4294967296) n2) (suN (fun j => z j % 4294967296) n - suN (fun j => z2 j % 4294967296) n2) (suN z n) (suN z2 n2) (by rw [su_both z n, su_both z2 n2]; omega)
   have e1 : IntKind.wrap .i64 ((suN (fun j => z j / 4294967296) n - suN (fun j => z2 j / 4294967296) n2) + (suN (fun j => z j % 4294967296) n - suN (fun j => z2 j % 4294967296) n2) / 4294967296) = (suN (fun j => z j / 4294967296) n - suN (fun j => z2 j / 4294967296) n2) + (suN (fun j => z j % 4294967296) n - suN (fun j => z2 j % 4294967296) n2) / 4294967296 := wrI (by omega)
   simp only [fdiv32, and32] at hn'
   simp only [e1, Int.ofNat_eq_natCast] at hn'
   generalize (suN (fun j => z j / 4294967296) n - suN (fun j => z2 j / 4294967296) n2) + (suN (fun j => z j % 4294967296) n - suN (fun j => z2 j % 4294967296) n2) / 4294967296 = p at hn' key
   generalize (suN (fun j => z j % 4294967296) n - suN (fun j => z2 j % 4294967296) n2) % 4294967296 = q at hn' key
   rw [← key]
   by_cases c : m_cmpI p 0 = 0
   ·have c' : (m_cmpI p ((0 : Nat) : Int) != ((0 : Nat) : Int)) = false := neF c
    rw [if_pos c]
    by_cases d : m_cmpI q 0 = 0
    ·have d' : (m_cmpI q ((0 : Nat) : Int) != ((0 : Nat) : Int)) = false := neF d
     simp only [c', d', cond_false] at hn'
     exact (hn' _ _ _).trans (qq_ok ⟨by rw [d]; rfl, rfl, rfl⟩)
    ·have d' : (m_cmpI q ((0 : Nat) : Int) != ((0 : Nat) : Int)) = true := neT d
     simp only [c', d', cond_false, cond_true] at hn'
     exact (hn' _ _ _).trans (qq_ok ⟨rfl, rfl, rfl⟩)
   ·have c' : (m_cmpI p ((0 : Nat) : Int) != ((0 : Nat) : Int)) = true := neT c
    rw [if_neg c]
    simp only [c', cond_true] at hn'
    exact (hn' _ _ _).trans (qq_ok ⟨rfl, rfl, rfl⟩)
end

end Go.Proofs

/- Sorted numbers, run. -/
namespace Go.Proofs
open Go Go.Ev Go.Num
set_option linter.unusedVariables false
set_option linter.unusedSimpArgs false
set_option maxRecDepth 100000

noncomputable def cFA : Code := bodyOf S0 40
noncomputable def FA_0 : Code := (lc cFA)
noncomputable def FA_1 : Code := (lc (rc cFA))
noncomputable def FA_2 : Code := (lc (lc (rc (rc cFA))))
noncomputable def FA_3 : Code := (lc (ic (ic (rc (lc (rc (rc cFA)))))))
noncomputable def FA_4 : Code := (lc (ic (lc (rc (ic (ic (rc (lc (rc (rc cFA))))))))))
noncomputable def FA_5 : Code := (ic (ic (lc (rc (ic (lc (rc (ic (ic (rc (lc (rc (rc cFA)))))))))))))
noncomputable def FA_6 : Code := (rc (rc (ic (lc (rc (ic (ic (rc (lc (rc (rc cFA)))))))))))
noncomputable def FA_7 : Code := (rc (rc (ic (ic (rc (lc (rc (rc cFA))))))))
noncomputable def FA_8 : Code := (rc (rc (rc cFA)))
theorem FA_eq : cFA = (.seq FA_0 (.seq FA_1 (.seq (.seq FA_2 (.block 0 (.loop (.seq FA_3 (.seq (.block 1 (.seq FA_4 (.seq (.block 2 (.loop FA_5)) FA_6))) FA_7))))) FA_8))) := by kernel_rfl
noncomputable def tCm : Tbl := tcons 52 (eI2 (fun _ _ => true) fun a b => I (m_cmpI a b)) fun _ => none
abbrev gw (i n : Nat) : Value := .slice (some ⟨i, 0, none⟩) n unk
abbrev fGF : Value := .func (.func 32) ⟨[]⟩ ⟨[]⟩
def oIn (c : List Value) (i : Nat) : Option AObj := some (.cells c 3 i 1)
noncomputable def m_svv (a b : List Value) : Bool := @decide (a = b) (Classical.propDecidable _)
noncomputable def eRow (a0 : List Value) (n : Nat) (c : List Value) : Ent := ⟨fun args _ => m_svv args a0, fun _ _ => true, fun _ A => .slice (some ⟨A.next, 0, none⟩) n unk, fun _ A => A.new (.cells c 3 A.next 1), fun _ _ => undef, fun _ A => A⟩
noncomputable def tSo (sl : Value) (n : Nat) (c c' : List Value) : Tbl := tcons 50 (eRow [sl] n c) (tcons 51 (entAt [gw 0 n, fGF] (mkA [oIn c 0]) (.tuple ⟨[]⟩) (mkA [oIn c' 0])) fun _ => none)
def lvFA : List Nat := [0, 3, 4]
def lvFB : List Nat := [0, 3, 4, 5]
def vFA (b off n cap : Nat) (e : Value) (k : Nat) : OV := [some (RS b off n cap), some e, some (I (k : Nat))]
def vFB (b off n cap : Nat) (e : Value) (k j : Nat) : OV := [some (RS b off n cap), some e, some (I (k : Nat)), some (I (j : Nat))]

theorem gfA (r : Mem) (a b : Int) : (lvlT (SC r) tCm .nil 1 1).call 32 [I a, I b] emptyA fin =
    .ret (I (m_cmpI b a)) (AW.mk 0 .nil .nil) := by kernel_rfl

theorem cnR (r : Mem) (b off n cap : Nat) : (lvlT (SC r) (fun _ => none) .nil 1 2).call 50 [RS b off (n + 1) cap] emptyA finM =
    bif Nat.ble (Nat.add 0 (n + 1)) 1000000 then Option.casesOn (match Nat.beq cap unkE with | true => none | false => takeF (Cfg.ro (SC r) b) off (Nat.mul (n + 1) (TypeInfo.size Tryz.t3))) (.fail 443) fun val => bif Nat.beq (List.length val) (Nat.mul (n + 1) 1) then bif gnds ([] ++ val) then .ret (.slice (some ⟨0, 0, none⟩) (Nat.add 0 (n + 1)) unk) (AW.mk 1 (.node .nil (some (.cells ([] ++ val) 3 0 1)) .nil) .nil) else .fail 420 else .fail 420 else .fail 420 := by kernel_rfl

theorem soR (r : Mem) (b off n cap : Nat) (c c' : List Value) (K : Value → AW → CR) : (lvlT (SC r) (tSo (RS b off n cap) n c c') .nil 1 1).call 31 [RS b off n cap, fGF] emptyA K =
    bif m_svv [.slice (some ⟨b, off, some 0⟩) n cap] [.slice (some ⟨b, off, some 0⟩) n cap] then bif m_at [.slice (some ⟨0, 0, none⟩) n unk, .func (Fn.func 32) ⟨[]⟩ ⟨[]⟩] [.slice (some ⟨0, 0, none⟩) n unk, .func (Fn.func 32) ⟨[]⟩ ⟨[]⟩] (AW.mk 1 (.node .nil (some (.cells c 3 0 1)) .nil) .nil) (AW.mk 1 (.node .nil (some (.cells c 3 0 1)) .nil) .nil) then K (.slice (some ⟨0, 0, none⟩) n unk) (AW.mk 1 (.node .nil (some (.cells c' 3 0 1)) .nil) .nil) else .fail 420 else .fail 420 := by kernel_rfl

theorem faA (r : Mem) (b off n cap : Nat) (fs : FnsC) (K : OV → List Nat → OO → CR) (kx : Nat → KS) (kr : KS) : run (SC r) 125 48 1 (.seq FA_0 (.seq FA_1 FA_2)) fs none (rbK 0 lvFA [] K) kx kr (sc0 125 [RS b off n cap]) (tr0 125 [RS b off n cap]) [] emptyA =
    K [some (.slice (some ⟨b, off, some 0⟩) n cap), some (.slice none 0 0), some (I (Int.ofNat 0))] [] [] := by kernel_rfl

theorem faB0 (r : Mem) (b off n cap k : Nat) (fs : FnsC) (K : OV → List Nat → OO → CR) (KX : Nat → OV → List Nat → OO → CR) (kr : KS) : run (SC r) 125 48 1 FA_3 fs none (rbK 0 lvFA [] K) (fun j => rbK 0 [3] [] (KX j)) kr [] (bT lvFA (vFA b off n cap (.slice none 0 0) k) .nil) [] (mkA []) =
    bif decide (Int.ofNat k < Int.ofNat n) then K [some (.slice (some ⟨b, off, some 0⟩) n cap), some (.slice none 0 0), some (I (Int.ofNat k))] [] [] else KX 0 [some (.slice none 0 0)] [] [] := by kernel_rfl

theorem faB1 (r : Mem) (b off n cap k L : Nat) (c : List Value) (fs : FnsC) (K : OV → List Nat → OO → CR) (KX : Nat → OV → List Nat → OO → CR) (kr : KS) : run (SC r) 125 48 1 FA_3 fs none (rbK 0 lvFA [] K) (fun j => rbK 0 [3] [] (KX j)) kr [] (bT lvFA (vFA b off n cap (gw 0 L) k) .nil) [] (mkA [oIn c 0]) =
    bif decide (Int.ofNat k < Int.ofNat n) then bif m_nns c && true then K [some (.slice (some ⟨b, off, some 0⟩) n cap), some (.slice (some ⟨0, 0, none⟩) L unk), some (I (Int.ofNat k))] [] [some (.cells c 3 0 1)] else .fail 420 else bif m_nns c && true then KX 0 [some (.slice (some ⟨0, 0, none⟩) L unk)] [] [some (.cells c 3 0 1)] else .fail 420 := by kernel_rfl

theorem faC0 (r : Mem) (b off n cap k : Nat) (fs : FnsC) (K : OV → List Nat → OO → CR) (kx : Nat → KS) (kr : KS) : run (SC r) 125 48 1 FA_4 fs none (rbK 0 lvFB [] K) kx kr [] (bT lvFA (vFA b off n cap (.slice none 0 0) k) .nil) [] (mkA []) =
    K [some (.slice (some ⟨b, off, some 0⟩) n cap), some (.slice none 0 0), some (I (Int.ofNat k)), some (I (Int.ofNat 0))] [] [] := by kernel_rfl

theorem faC1 (r : Mem) (b off n cap k L : Nat) (c : List Value) (fs : FnsC) (K : OV → List Nat → OO → CR) (kx : Nat → KS) (kr : KS) : run (SC r) 125 48 1 FA_4 fs none (rbK 0 lvFB [] K) kx kr [] (bT lvFA (vFA b off n cap (gw 0 L) k) .nil) [] (mkA [oIn c 0]) =
    bif m_nns c && true then K [some (.slice (some ⟨b, off, some 0⟩) n cap), some (.slice (some ⟨0, 0, none⟩) L unk), some (I (Int.ofNat k)), some (I (Int.ofNat 0))] [] [some (.cells c 3 0 1)] else .fail 420 := by kernel_rfl

theorem faD0 (r : Mem) (b off n cap k j : Nat) (fs : FnsC) (K : OV → List Nat → OO → CR) (KX : Nat → OV → List Nat → OO → CR) (kr : KS) : run (SC r) 125 48 1 FA_5 fs none (rbK 0 lvFB [] K) (fun j => rbK 0 lvFB [] (KX j)) kr [] (bT lvFB (vFB b off n cap (.slice none 0 0) k j) .nil) [] (mkA []) =
    KX 2 [some (.slice (some ⟨b, off, some 0⟩) n cap), some (.slice none 0 0), some (I (Int.ofNat k)), some (I (Int.ofNat j))] [] [] := by kernel_rfl

theorem faD1 (r : Mem) (b off n cap k j L : Nat) (c : List Value) (fs : FnsC) (K : OV → List Nat → OO → CR) (KX : Nat → OV → List Nat → OO → CR) (kr : KS) : run (SC r) 125 48 1 FA_5 fs none (rbK 0 lvFB [] K) (fun j => rbK 0 lvFB [] (KX j)) kr [] (bT lvFB (vFB b off n cap (gw 0 L) k j) .nil) [] (mkA [oIn c 0]) =
    bif decide (Int.ofNat j < Int.ofNat L) then bif Nat.blt (Int.toNat (Int.ofNat j)) L then Option.casesOn c[Nat.add 0 (Nat.mul (Int.toNat (Int.ofNat j)) 1)]? (.fail 423) fun val => bif isI IntKind.i64 val then bif Nat.blt (Int.toNat (Int.ofNat k)) n then Option.casesOn (r b (Nat.add off (Nat.mul (Int.toNat (Int.ofNat k)) 1))) (.fail 423) fun val_1 => bif isI IntKind.i64 val_1 then bif decide (ofI val ≥ ofI val_1) then bif m_nns c && true then K [some (.slice (some ⟨b, off, some 0⟩) n cap), some (.slice (some ⟨0, 0, none⟩) L unk), some (I (Int.ofNat k)), some (I (IntKind.wrap .i64 (Int.ofNat j + Int.ofNat 1)))] [] [some (.cells c 3 0 1)] else .fail 420 else bif m_nns c && true then KX 2 [some (.slice (some ⟨b, off, some 0⟩) n cap), some (.slice (some ⟨0, 0, none⟩) L unk), some (I (Int.ofNat k)), some (I (Int.ofNat j))] [] [some (.cells c 3 0 1)] else .fail 420 else .fail 420 else .fail 420 else .fail 420 else .fail 420 else bif m_nns c && true then KX 2 [some (.slice (some ⟨b, off, some 0⟩) n cap), some (.slice (some ⟨0, 0, none⟩) L unk), some (I (Int.ofNat k)), some (I (Int.ofNat j))] [] [some (.cells c 3 0 1)] else .fail 420 := by kernel_rfl

theorem faE0 (r : Mem) (b off n cap k j : Nat) (fs : FnsC) (K : OV → List Nat → OO → CR) (kx : Nat → KS) (kr : KS) : run (SC r) 125 48 1 FA_6 fs none (rbK 0 lvFA [] K) kx kr [] (bT lvFB (vFB b off n cap (.slice none 0 0) k j) .nil) [] (mkA []) =
    bif Nat.ble (Int.toNat (Int.ofNat j)) 0 then bif Nat.blt (Int.toNat (Int.ofNat k)) n then Option.casesOn (r b (Nat.add off (Nat.mul (Int.toNat (Int.ofNat k)) 1))) (.fail 423) fun val => bif isI IntKind.i64 val then bif Nat.ble (Int.toNat (Int.ofNat j)) 0 then K [some (.slice (some ⟨b, off, some 0⟩) n cap), some (.slice (some ⟨0, 0, none⟩) 1 unk), some (I (Int.ofNat k))] [] [some (.cells [I (ofI val)] 3 0 1)] else .fail 420 else .fail 420 else .fail 420 else .fail 420 := by kernel_rfl

theorem faE1 (r : Mem) (b off n cap k j L : Nat) (c : List Value) (fs : FnsC) (K : OV → List Nat → OO → CR) (kx : Nat → KS) (kr : KS) : run (SC r) 125 48 1 FA_6 fs none (rbK 0 lvFA [] K) kx kr [] (bT lvFB (vFB b off n cap (gw 0 L) k j) .nil) [] (mkA [oIn c 0]) =
    bif Nat.ble (Int.toNat (Int.ofNat j)) L then bif Nat.ble (Nat.add 0 (Int.toNat (Int.ofNat j))) 1000000 then Option.casesOn (takeAt c 0 (Nat.mul (Int.toNat (Int.ofNat j)) 1)) (.fail 443) fun val => bif Nat.beq (List.length val) (Nat.mul (Int.toNat (Int.ofNat j)) 1) then bif Nat.beq (Int.toNat (Int.ofNat j)) 0 then bif Nat.blt (Int.toNat (Int.ofNat k)) n then Option.casesOn (r b (Nat.add off (Nat.mul (Int.toNat (Int.ofNat k)) 1))) (.fail 423) fun val => bif isI IntKind.i64 val then bif Nat.ble (Int.toNat (Int.ofNat j)) L then bif Nat.ble L L then bif Nat.beq (Int.toNat (Int.ofNat j)) 0 then bif Nat.ble (Nat.add 1 L) 1000000 then Option.casesOn (takeAt c 0 (Nat.mul L 1)) (.fail 443) fun val_1 => bif Nat.beq (List.length val_1) (Nat.mul L 1) then bif Nat.beq L 0 then K [some (.slice (some ⟨b, off, some 0⟩) n cap), some (.slice (some ⟨0, 0, none⟩) 1 unk), some (I (Int.ofNat k))] [] [some (.cells [I (ofI val)] 3 0 1)] else bif ones val_1 then bif m_nns (I (ofI val) :: val_1) && true then K [some (.slice (some ⟨b, off, some 0⟩) n cap), some (.slice (some ⟨0, 0, none⟩) (Nat.add 1 L) unk), some (I (Int.ofNat k))] [] [some (.cells (I (ofI val) :: val_1) 3 0 1)] else .fail 420 else .fail 420 else .fail 420 else .fail 420 else bif Nat.blt (Int.toNat (Int.ofNat j)) L then bif Nat.ble (Nat.add 1 (Nat.sub L (Int.toNat (Int.ofNat j)))) 1000000 then Option.casesOn (takeAt c (Nat.add 0 (Nat.mul (Int.toNat (Int.ofNat j)) 1)) (Nat.mul (Nat.sub L (Int.toNat (Int.ofNat j))) 1)) (.fail 443) fun val_1 => bif Nat.beq (List.length val_1) (Nat.mul (Nat.sub L (Int.toNat (Int.ofNat j))) 1) then bif Nat.beq (Nat.sub L (Int.toNat (Int.ofNat j))) 0 then K [some (.slice (some ⟨b, off, some 0⟩) n cap), some (.slice (some ⟨0, 0, none⟩) 1 unk), some (I (Int.ofNat k))] [] [some (.cells [I (ofI val)] 3 0 1)] else bif ones val_1 then bif m_nns (I (ofI val) :: val_1) && true then K [some (.slice (some ⟨b, off, some 0⟩) n cap), some (.slice (some ⟨0, 0, none⟩) (Nat.add 1 (Nat.sub L (Int.toNat (Int.ofNat j)))) unk), some (I (Int.ofNat k))] [] [some (.cells (I (ofI val) :: val_1) 3 0 1)] else .fail 420 else .fail 420 else .fail 420 else .fail 420 else K [some (.slice (some ⟨b, off, some 0⟩) n cap), some (.slice (some ⟨0, 0, none⟩) 1 unk), some (I (Int.ofNat k))] [] [some (.cells [I (ofI val)] 3 0 1)] else .fail 420 else .fail 420 else .fail 420 else .fail 420 else bif Nat.blt (Int.toNat (Int.ofNat k)) n then Option.casesOn (r b (Nat.add off (Nat.mul (Int.toNat (Int.ofNat k)) 1))) (.fail 423) fun val_1 => bif isI IntKind.i64 val_1 then bif Nat.ble (Nat.add (Int.toNat (Int.ofNat j)) 1) 1000000 then Option.casesOn (takeAt val 0 (Nat.mul (Int.toNat (Int.ofNat j)) 1)) (.fail 439) fun val => bif Nat.ble (Int.toNat (Int.ofNat j)) L then bif Nat.ble L L then bif Nat.beq (Int.toNat (Int.ofNat j)) 0 then bif Nat.ble (Nat.add (Nat.add (Int.toNat (Int.ofNat j)) 1) L) 1000000 then Option.casesOn (takeAt c 0 (Nat.mul L 1)) (.fail 443) fun val_2 => bif Nat.beq (List.length val_2) (Nat.mul L 1) then bif Nat.beq L 0 then bif m_nns (val ++ [I (ofI val_1)]) && true then K [some (.slice (some ⟨b, off, some 0⟩) n cap), some (.slice (some ⟨0, 0, none⟩) (Nat.add (Int.toNat (Int.ofNat j)) 1) unk), some (I (Int.ofNat k))] [] [some (.cells (val ++ [I (ofI val_1)]) 3 0 1)] else .fail 420 else bif ones val_2 then Option.casesOn (takeAt (val ++ [I (ofI val_1)]) 0 (Nat.mul (Nat.add (Int.toNat (Int.ofNat j)) 1) 1)) (.fail 439) fun val => bif m_nns (val ++ val_2) && true then K [some (.slice (some ⟨b, off, some 0⟩) n cap), some (.slice (some ⟨0, 0, none⟩) (Nat.add (Nat.add (Int.toNat (Int.ofNat j)) 1) L) unk), some (I (Int.ofNat k))] [] [some (.cells (val ++ val_2) 3 0 1)] else .fail 420 else .fail 420 else .fail 420 else .fail 420 else bif Nat.blt (Int.toNat (Int.ofNat j)) L then bif Nat.ble (Nat.add (Nat.add (Int.toNat (Int.ofNat j)) 1) (Nat.sub L (Int.toNat (Int.ofNat j)))) 1000000 then Option.casesOn (takeAt c (Nat.add 0 (Nat.mul (Int.toNat (Int.ofNat j)) 1)) (Nat.mul (Nat.sub L (Int.toNat (Int.ofNat j))) 1)) (.fail 443) fun val_2 => bif Nat.beq (List.length val_2) (Nat.mul (Nat.sub L (Int.toNat (Int.ofNat j))) 1) then bif Nat.beq (Nat.sub L (Int.toNat (Int.ofNat j))) 0 then bif m_nns (val ++ [I (ofI val_1)]) && true then K [some (.slice (some ⟨b, off, some 0⟩) n cap), some (.slice (some ⟨0, 0, none⟩) (Nat.add (Int.toNat (Int.ofNat j)) 1) unk), some (I (Int.ofNat k))] [] [some (.cells (val ++ [I (ofI val_1)]) 3 0 1)] else .fail 420 else bif ones val_2 then Option.casesOn (takeAt (val ++ [I (ofI val_1)]) 0 (Nat.mul (Nat.add (Int.toNat (Int.ofNat j)) 1) 1)) (.fail 439) fun val => bif m_nns (val ++ val_2) && true then K [some (.slice (some ⟨b, off, some 0⟩) n cap), some (.slice (some ⟨0, 0, none⟩) (Nat.add (Nat.add (Int.toNat (Int.ofNat j)) 1) (Nat.sub L (Int.toNat (Int.ofNat j)))) unk), some (I (Int.ofNat k))] [] [some (.cells (val ++ val_2) 3 0 1)] else .fail 420 else .fail 420 else .fail 420 else .fail 420 else bif Nat.ble (Nat.add (Nat.add (Int.toNat (Int.ofNat j)) 1) 0) 1000000 then bif m_nns (val ++ [I (ofI val_1)]) && true then K [some (.slice (some ⟨b, off, some 0⟩) n cap), some (.slice (some ⟨0, 0, none⟩) (Nat.add (Int.toNat (Int.ofNat j)) 1) unk), some (I (Int.ofNat k))] [] [some (.cells (val ++ [I (ofI val_1)]) 3 0 1)] else .fail 420 else .fail 420 else .fail 420 else .fail 420 else .fail 420 else .fail 420 else .fail 420 else .fail 420 else .fail 420 else .fail 420 := by kernel_rfl

theorem faF1 (r : Mem) (b off n cap k L : Nat) (c : List Value) (fs : FnsC) (K : OV → List Nat → OO → CR) (kx : Nat → KS) (kr : KS) : run (SC r) 125 48 1 FA_7 fs none (rbK 0 lvFA [] K) kx kr [] (bT lvFA (vFA b off n cap (gw 0 L) k) .nil) [] (mkA [oIn c 0]) =
    bif m_nns c && true then K [some (.slice (some ⟨b, off, some 0⟩) n cap), some (.slice (some ⟨0, 0, none⟩) L unk), some (I (IntKind.wrap .i64 (Int.ofNat k + Int.ofNat 1)))] [] [some (.cells c 3 0 1)] else .fail 420 := by kernel_rfl

theorem faG1 (r : Mem) (L : Nat) (c : List Value) (fs : FnsC) (K KR : OV → List Nat → OO → CR) (kx : Nat → KS) : run (SC r) 125 48 1 FA_8 fs none (rbK 0 [2] [] K) kx (rbK 0 [2] [] KR) [] (bT [3] [some (gw 0 L)] .nil) [] (mkA [oIn c 0]) =
    bif m_nns c && true then KR [some (.slice (some ⟨0, 0, none⟩) L unk)] [] [some (.cells c 3 0 1)] else .fail 420 := by kernel_rfl

end Go.Proofs

