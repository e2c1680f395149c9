/- What the claim is proved with, part 2: the evaluator and the contracts of the calls. -/
import Derived.Test.YtfoajcmgnkadhaaDoorPack1
import Derived.Test.YtfoajcmgnkadhaaDoorEvRd
import Derived.Test.YtfoajcmgnkadhaaDoorEvOwn
import Derived.Shelf.SlSortCmp.Whole1
import Derived.Test.YtfoajcmgnkadhaaDoorSymBase
import Derived.Shelf.Lay
/- Intervals, run: read, counted, the peak. -/
namespace Go.Proofs
open Go Go.Ev Go.Num
set_option linter.unusedVariables false
set_option linter.unusedSimpArgs false
set_option maxRecDepth 100000

noncomputable def m_sv (a b : List Value) : Bool := @decide (a = b) (Classical.propDecidable _)
theorem sv_rfl (a : List Value) : m_sv a a = true := @decide_eq_true _ (Classical.propDecidable _) rfl
noncomputable def eS1 (sl : Value) (v : Int → Value) : Ent := ent (fun args _ => match args with | [s, .int .i64 x] => m_sv [s] [sl] | _ => false) (fun args _ => match args with | [_, .int .i64 x] => v x | _ => undef)
noncomputable def cRI : Code := bodyOf S0 7
noncomputable def RI_0 : Code := (lc cRI)
noncomputable def RI_1 : Code := (lc (rc cRI))
noncomputable def RI_2 : Code := (lc (rc (rc cRI)))
noncomputable def RI_3 : Code := (lc (rc (rc (rc cRI))))
noncomputable def RI_4 : Code := (lc (lc (rc (rc (rc (rc cRI))))))
noncomputable def RI_5 : Code := (ic (ic (rc (lc (rc (rc (rc (rc cRI))))))))
noncomputable def RI_6 : Code := (rc (rc (rc (rc (rc cRI)))))
theorem RI_eq : cRI = (.seq RI_0 (.seq RI_1 (.seq RI_2 (.seq RI_3 (.seq (.seq RI_4 (.block 0 (.loop RI_5))) RI_6))))) := by kernel_rfl
noncomputable def cCA : Code := bodyOf S0 19
noncomputable def CA_0 : Code := (lc cCA)
noncomputable def CA_1 : Code := (lc (rc cCA))
noncomputable def CA_2 : Code := (lc (lc (rc (rc cCA))))
noncomputable def CA_3 : Code := (ic (ic (rc (lc (rc (rc cCA))))))
noncomputable def CA_4 : Code := (rc (rc (rc cCA)))
theorem CA_eq : cCA = (.seq CA_0 (.seq CA_1 (.seq (.seq CA_2 (.block 0 (.loop CA_3))) CA_4))) := by kernel_rfl
noncomputable def cPK : Code := bodyOf S0 9
noncomputable def PK_0 : Code := (lc cPK)
noncomputable def PK_1 : Code := (lc (rc cPK))
noncomputable def PK_2 : Code := (lc (lc (rc (rc cPK))))
noncomputable def PK_3 : Code := (ic (ic (rc (lc (rc (rc cPK))))))
noncomputable def PK_4 : Code := (rc (rc (rc cPK)))
theorem PK_eq : cPK = (.seq PK_0 (.seq PK_1 (.seq (.seq PK_2 (.block 0 (.loop PK_3))) PK_4))) := by kernel_rfl
def lvRI : List Nat := [4, 16, 17, 18]
def vRI (b off n cap i : Nat) : OV := [some (.slice (some ⟨0, 0, none⟩) n n), some (RS2 b off n cap), some (I (n : Nat)), some (I (i : Nat))]
def lvCA : List Nat := [1, 5, 8, 9, 10]
def vCA (b off n cap : Nat) (x k i : Int) : OV := [some (I x), some (I k), some (RS2 b off n cap), some (I (n : Nat)), some (I i)]
def lvPK : List Nat := [0, 3, 4, 8, 9, 10]
def vPK (b off n cap : Nat) (x k i : Int) : OV := [some (RS2 b off n cap), some (I x), some (I k), some (RS2 b off n cap), some (I (n : Nat)), some (I i)]
noncomputable def tCT (sl : Value) (v : Int → Int) : Tbl := tcons 19 (eS1 sl fun x => I (v x)) fun _ => none

theorem riA (r : Mem) (b off n cap : Nat) (fs : FnsC) (K : OV → List Nat → OO → CR) (kx : Nat → KS) (KR : OV → List Nat → OO → CR) : run (SC r) 458877 38 1 (.seq RI_0 (.seq RI_1 (.seq RI_2 (.seq RI_3 RI_4)))) fs none (rbK 0 lvRI [] K) kx (rbK 0 [2, 3] [] KR) (sc0 458877 [RS2 b off n cap]) (tr0 458877 [RS2 b off n cap]) [] emptyA =
    bif decide (Int.ofNat n > 12) then KR [some (.slice none 0 0), some (I (Int.ofNat 2))] [] [] else bif Int.ofNat n == Int.ofNat 0 then KR [some (.slice none 0 0), some (I (Int.ofNat 1))] [] [] else bif Nat.ble (Int.toNat (Int.ofNat n)) (Int.toNat (Int.ofNat n)) then bif Nat.ble (Int.toNat (Int.ofNat n)) 1000000 then bif m_nns (zerosL (Nat.mul (Int.toNat (Int.ofNat n)) 2) [I (Int.ofNat 0), I (Int.ofNat 0)]) && true then K [some (.slice (some ⟨0, 0, none⟩) (Int.toNat (Int.ofNat n)) (Int.toNat (Int.ofNat n))), some (.slice (some ⟨b, off, some 0⟩) n cap), some (I (Int.ofNat n)), some (I (Int.ofNat 0))] [] [some (.cells (zerosL (Nat.mul (Int.toNat (Int.ofNat n)) 2) [I (Int.ofNat 0), I (Int.ofNat 0)]) 52 0 2)] else .fail 420 else .fail 420 else .fail 420 := by kernel_rfl

theorem riN (r : Mem) : (lvlT (SC r) (fun _ => none) .nil 1 2).call 7 [.slice none 0 0] emptyA fin =
    .ret (.tuple ⟨[.slice none 0 0, I (Int.ofNat 1)]⟩) (AW.mk 0 .nil .nil) := by kernel_rfl

theorem riB (r : Mem) (b off n cap i : Nat) (c : List Value) (fs : FnsC) (K : OV → List Nat → OO → CR) (KX : Nat → OV → List Nat → OO → CR) (KR : OV → List Nat → OO → CR) : run (SC r) 458877 38 1 RI_5 fs none (rbK 0 lvRI [] K) (fun j => rbK 0 [4] [] (KX j)) (rbK 0 [2, 3] [] KR) [] (bT lvRI (vRI b off n cap i) .nil) [] (mkA [some (.cells c 52 0 2)]) =
    bif decide (Int.ofNat i < Int.ofNat n) then bif Nat.blt (Int.toNat (Int.ofNat i)) n then Option.casesOn (r b (Nat.add off (Nat.mul (Int.toNat (Int.ofNat i)) 2))) (.fail 423) fun val => bif isI IntKind.i64 val then Option.casesOn (r b (Nat.succ (Nat.add off (Nat.mul (Int.toNat (Int.ofNat i)) 2)))) (.fail 423) fun val_1 => bif isI IntKind.i64 val_1 then bif decide (ofI val > ofI val_1) then KR [some (.slice none 0 0), some (I (Int.ofNat 1))] [] [] else bif Nat.blt (Int.toNat (Int.ofNat i)) n then Option.casesOn (setAt c (Nat.add 0 (Nat.mul (Int.toNat (Int.ofNat i)) 2)) [I (ofI val), I (ofI val_1)]) (.fail 450) fun val => bif m_nns val && true then K [some (.slice (some ⟨0, 0, none⟩) n n), some (.slice (some ⟨b, off, some 0⟩) n cap), some (I (Int.ofNat n)), some (I (IntKind.wrap .i64 (Int.ofNat i + Int.ofNat 1)))] [] [some (.cells val 52 0 2)] else .fail 420 else .fail 420 else .fail 420 else .fail 420 else .fail 420 else bif m_nns c && true then KX 0 [some (.slice (some ⟨0, 0, none⟩) n n)] [] [some (.cells c 52 0 2)] else .fail 420 := by kernel_rfl

theorem riC (r : Mem) (n : Nat) (c : List Value) (fs : FnsC) (K KR : OV → List Nat → OO → CR) (kx : Nat → KS) : run (SC r) 458877 38 1 RI_6 fs none (rbK 0 [2, 3] [] K) kx (rbK 0 [2, 3] [] KR) [] (bT [4] [some (.slice (some ⟨0, 0, none⟩) n n)] .nil) [] (mkA [some (.cells c 52 0 2)]) =
    bif m_nns c && true then KR [some (.slice (some ⟨0, 0, none⟩) n n), some (I (Int.ofNat 0))] [] [some (.cells c 52 0 2)] else .fail 420 := by kernel_rfl

theorem caA (r : Mem) (b off n cap : Nat) (x : Int) (fs : FnsC) (K : OV → List Nat → OO → CR) (kx : Nat → KS) (kr : KS) : run (SC r) 1971 21 1 (.seq CA_0 (.seq CA_1 CA_2)) fs none (rbK 0 lvCA [] K) kx kr (sc0 1971 [RS2 b off n cap, I x]) (tr0 1971 [RS2 b off n cap, I x]) [] emptyA =
    K [some (I x), some (I (Int.ofNat 0)), some (.slice (some ⟨b, off, some 0⟩) n cap), some (I (Int.ofNat n)), some (I (Int.ofNat 0))] [] [] := by kernel_rfl

theorem caB (r : Mem) (b off n cap : Nat) (x k i : Int) (K : OV → List Nat → OO → CR) (KX : Nat → OV → List Nat → OO → CR) (kr : KS) : run (SC r) 1971 21 1 CA_3 (lvlT (SC r) (fun _ => none) .nil 1 3) none (rbK 0 lvCA [] K) (fun j => rbK 0 [5] [] (KX j)) kr [] (bT lvCA (vCA b off n cap x k i) .nil) [] (mkA []) =
    bif decide (i < Int.ofNat n) then bif decide (0 ≤ i) then bif Nat.blt (Int.toNat i) n then Option.casesOn (r b (Nat.add off (Nat.mul (Int.toNat i) 2))) (.fail 423) fun val => bif isI IntKind.i64 val then Option.casesOn (r b (Nat.succ (Nat.add off (Nat.mul (Int.toNat i) 2)))) (.fail 423) fun val_1 => bif isI IntKind.i64 val_1 then bif decide (ofI val ≤ x) then bif decide (x ≤ ofI val_1) then K [some (I x), some (I (IntKind.wrap .i64 (k + Int.ofNat 1))), some (.slice (some ⟨b, off, some 0⟩) n cap), some (I (Int.ofNat n)), some (I (IntKind.wrap .i64 (i + Int.ofNat 1)))] [] [] else K [some (I x), some (I k), some (.slice (some ⟨b, off, some 0⟩) n cap), some (I (Int.ofNat n)), some (I (IntKind.wrap .i64 (i + Int.ofNat 1)))] [] [] else K [some (I x), some (I k), some (.slice (some ⟨b, off, some 0⟩) n cap), some (I (Int.ofNat n)), some (I (IntKind.wrap .i64 (i + Int.ofNat 1)))] [] [] else .fail 420 else .fail 420 else .fail 420 else .fail 420 else KX 0 [some (I k)] [] [] := by kernel_rfl

theorem caC (r : Mem) (k : Int) (fs : FnsC) (K KR : OV → List Nat → OO → CR) (kx : Nat → KS) : run (SC r) 1971 21 1 CA_4 fs none (rbK 0 [4] [] K) kx (rbK 0 [4] [] KR) [] (bT [5] [some (I k)] .nil) [] (mkA []) =
    KR [some (I k)] [] [] := by kernel_rfl

theorem pkY (r : Mem) (b off n cap : Nat) (fs : FnsC) (K : OV → List Nat → OO → CR) (kx : Nat → KS) (kr : KS) : run (SC r) 2013 37 1 (.seq PK_0 (.seq PK_1 PK_2)) fs none (rbK 0 lvPK [] K) kx kr (sc0 2013 [RS2 b off n cap]) (tr0 2013 [RS2 b off n cap]) [] emptyA =
    K [some (.slice (some ⟨b, off, some 0⟩) n cap), some (I (Int.ofNat 0)), some (I (Int.ofNat 0)), some (.slice (some ⟨b, off, some 0⟩) n cap), some (I (Int.ofNat n)), some (I (Int.ofNat 0))] [] [] := by kernel_rfl

theorem pkR (r : Mem) (b off n cap : Nat) (v : Int → Int) (x k i : Int) (K : OV → List Nat → OO → CR) (KX : Nat → OV → List Nat → OO → CR) (kr : KS) : run (SC r) 2013 37 1 PK_3 (lvlT (SC r) (tCT (RS2 b off n cap) v) .nil 1 3) none (rbK 0 lvPK [] K) (fun j => rbK 0 [3] [] (KX j)) kr [] (bT lvPK (vPK b off n cap x k i) .nil) [] (mkA []) =
    bif decide (i < Int.ofNat n) then bif decide (0 ≤ i) then bif Nat.blt (Int.toNat i) n then Option.casesOn (r b (Nat.add off (Nat.mul (Int.toNat i) 2))) (.fail 423) fun val => bif isI IntKind.i64 val then Option.casesOn (r b (Nat.succ (Nat.add off (Nat.mul (Int.toNat i) 2)))) (.fail 423) fun val_1 => bif isI IntKind.i64 val_1 then bif m_sv [.slice (some ⟨b, off, some 0⟩) n cap] [.slice (some ⟨b, off, some 0⟩) n cap] then bif decide (v (ofI val) > k) then K [some (.slice (some ⟨b, off, some 0⟩) n cap), some (I (ofI val)), some (I (v (ofI val))), some (.slice (some ⟨b, off, some 0⟩) n cap), some (I (Int.ofNat n)), some (I (IntKind.wrap .i64 (i + Int.ofNat 1)))] [] [] else bif v (ofI val) == k then bif decide (ofI val < x) then K [some (.slice (some ⟨b, off, some 0⟩) n cap), some (I (ofI val)), some (I (v (ofI val))), some (.slice (some ⟨b, off, some 0⟩) n cap), some (I (Int.ofNat n)), some (I (IntKind.wrap .i64 (i + Int.ofNat 1)))] [] [] else K [some (.slice (some ⟨b, off, some 0⟩) n cap), some (I x), some (I k), some (.slice (some ⟨b, off, some 0⟩) n cap), some (I (Int.ofNat n)), some (I (IntKind.wrap .i64 (i + Int.ofNat 1)))] [] [] else K [some (.slice (some ⟨b, off, some 0⟩) n cap), some (I x), some (I k), some (.slice (some ⟨b, off, some 0⟩) n cap), some (I (Int.ofNat n)), some (I (IntKind.wrap .i64 (i + Int.ofNat 1)))] [] [] else .fail 420 else .fail 420 else .fail 420 else .fail 420 else .fail 420 else KX 0 [some (I x)] [] [] := by kernel_rfl

theorem pkZ (r : Mem) (x : Int) (fs : FnsC) (K KR : OV → List Nat → OO → CR) (kx : Nat → KS) : run (SC r) 2013 37 1 PK_4 fs none (rbK 0 [2] [] K) kx (rbK 0 [2] [] KR) [] (bT [3] [some (I x)] .nil) [] (mkA []) =
    KR [some (I x)] [] [] := by kernel_rfl

end Go.Proofs

/- Rows of numbers, by a function. -/
namespace Go.Proofs
open Go Go.Ev Go.Num
set_option linter.unusedVariables false
set_option linter.unusedSimpArgs false
set_option maxRecDepth 100000

def ixN (f : Nat → Int) (m : Nat) : List Value := (List.range m).map fun j => I (f j)
theorem ix_len (f : Nat → Int) (m : Nat) : (ixN f m).length = m := by simp [ixN]
theorem ix_get {f : Nat → Int} {m j : Nat} (h : j < m) : (ixN f m)[j]? = some (I (f j)) := by simp [ixN, h]
theorem ix_nn (f : Nat → Int) (m : Nat) : m_nns (ixN f m) = true := by
 unfold ixN
 generalize List.range m = l
 induction l with
 | nil => rfl
 | cons x l ih => exact ih
theorem ix_gnd (f : Nat → Int) (m : Nat) : gnds (ixN f m) = true := by
 unfold ixN
 generalize List.range m = l
 induction l with
 | nil => rfl
 | cons x l ih => exact ih
theorem ix_ext {f g : Nat → Int} {m : Nat} (h : ∀ j, j < m → f j = g j) : ixN f m = ixN g m := by
 unfold ixN
 exact List.map_congr_left fun j hj => by rw [h j (List.mem_range.1 hj)]
theorem ix_set (f : Nat → Int) (m k : Nat) (v : Int) : (ixN f m).set k (I v) = ixN (fun j => if j = k then v else f j) m := by
 apply List.ext_getElem?
 intro j
 rw [List.getElem?_set]
 by_cases c : j < m
 ·rw [ix_get c, ix_get c, ix_len]
  by_cases d : k = j
  ·subst d; simp [c]
  ·have d' : ¬ j = k := fun e => d e.symm
   simp [d, d']
 ·have h1 : (ixN f m)[j]? = none := List.getElem?_eq_none (by rw [ix_len]; omega)
  have h2 : (ixN (fun j => if j = k then v else f j) m)[j]? = none := List.getElem?_eq_none (by rw [ix_len]; omega)
  rw [h1, h2, ix_len]
  split <;> rename_i e <;> simp [c, e]
theorem ix_set1 {f : Nat → Int} {m k : Nat} {v : Int} (h : k < m) : setAt (ixN f m) k [I v] = some (ixN (fun j => if j = k then v else f j) m) := by
 rw [setAt_one _ _ _ (by rw [ix_len]; exact h), ix_set]
theorem setA0_two : ∀ (c : List Value) (k : Nat) (v w : Value), k + 1 < c.length → setA0 c k [v, w] = some ((c.set k v).set (k + 1) w)
 | [], k, v, w, h => by simp at h
 | [x], k, v, w, h => by simp at h
 | x :: y :: l, 0, v, w, h => by simp [setA0]
 | x :: y :: l, k + 1, v, w, h => by
  have := setA0_two (y :: l) k v w (by simpa using h)
  simp only [setA0, this, List.set_cons_succ]
theorem ix_set2 {f : Nat → Int} {m k : Nat} {v w : Int} (h : k + 1 < m) : setAt (ixN f m) k [I v, I w] = some (ixN (fun j => if j = k + 1 then w else if j = k then v else f j) m) := by
 rw [setAt_old, setA0_two _ _ _ _ (by rw [ix_len]; exact h), ix_set, ix_set]
theorem ix_zero1 (n : Nat) : zerosL (Nat.mul n 1) [I (Int.ofNat 0)] = ixN (fun _ => 0) n := by
 show List.replicate (Nat.mul n 1) (I 0) = _
 rw [Nat.mul_eq, Nat.mul_one]
 apply List.ext_getElem?
 intro j
 by_cases c : j < n
 ·rw [ix_get c, List.getElem?_replicate, if_pos c]
 ·rw [List.getElem?_eq_none (by rw [List.length_replicate]; omega), List.getElem?_eq_none (by rw [ix_len]; omega)]
theorem ix_zero2 (n : Nat) : zerosL (Nat.mul n 2) [I (Int.ofNat 0), I (Int.ofNat 0)] = ixN (fun _ => 0) (2 * n) := by
 show (List.range (Nat.mul n 2)).map (fun j => match [I (Int.ofNat 0), I (Int.ofNat 0)][Nat.mod j 2]? with | some z => z | none => (default : Value)) = _
 unfold ixN
 rw [Nat.mul_eq, Nat.mul_comm]
 refine List.map_congr_left fun j _ => ?_
 have : ∀ k, k < 2 → (match [I (Int.ofNat 0), I (Int.ofNat 0)][k]? with | some z => z | none => (default : Value)) = I 0 := fun k hk => by
  match k, hk with
  | 0, _ => rfl
  | 1, _ => rfl
 exact this _ (Nat.mod_lt _ (by omega))
theorem isI_I (z : Int) : isI .i64 (I z) = true := rfl
theorem ofI_I (z : Int) : ofI (I z) = z := rfl

theorem SOk.mono {C : Cfg} {f : Nat} {args : List Value} {A : AW} {S S' : Value → AW → Prop} (h : SOk C f args A S) (hs : ∀ v A', S v A' → S' v A') : SOk C f args A S' := fun F hF k γ W args' hw hR ha =>
 (h F hF k γ W args' hw hR ha).mono fun e W' he => by
  obtain ⟨v, A', h1, h2⟩ := he
  exact ⟨v, A', hs v A' h1, h2⟩
theorem SOk.at {C : Cfg} {f : Nat} {args : List Value} {A A1 : AW} {v : Value} (h : SOk C f args A fun u B => u = v ∧ B = A1) : EOk C f (entAt args A v A1) := entAt_ok fun F hF k γ W args' hw hR ha => h.one F hF k γ W args' hw hR ha
theorem inc1 {k : Nat} (h : k ≤ 2000000) : IntKind.wrap IntKind.i64 (Int.ofNat k + Int.ofNat 1) = ((k + 1 : Nat) : Int) := by rw [wrI (by simp; omega)]; simp
theorem inc1' {k : Nat} (h : k ≤ 2000000) : IntKind.wrap IntKind.i64 ((k : Int) + Int.ofNat 1) = ((k + 1 : Nat) : Int) := by rw [wrI (by simp; omega)]; simp

end Go.Proofs

/- Intervals: read, counted, the peak: what the calls answer. -/
namespace Go.Proofs
open Go Go.Ev Go.Num
set_option linter.unusedVariables false
set_option linter.unusedSimpArgs false
set_option maxRecDepth 100000

def okS (z : Nat → Int) (n : Nat) : Prop := ∀ i, i < n → ea z i ≤ eb z i
def erS (n : Nat) : Int := if n ≤ 12 then 1 else 2
def oSp (z : Nat → Int) (n i : Nat) : Option AObj := some (.cells (ixN z (2 * n)) 52 i 2)
def zTo (z : Nat → Int) (k j : Nat) : Int := if j < 2 * k then z j else 0
abbrev ow (i n : Nat) : Value := .slice (some ⟨i, 0, none⟩) n n
section
variable {r : Mem} {b off n cap : Nat} {z : Nat → Int}

theorem row_a (hz : rowAt r b off (2 * n) z) {i : Nat} (h : i < n) : r b (Nat.add off (Nat.mul i 2)) = some (I (ea z i)) := by
 have := hz (2 * i) (by omega)
 rw [Nat.add_eq, Nat.mul_eq, Nat.mul_comm]
 exact this
theorem row_b (hz : rowAt r b off (2 * n) z) {i : Nat} (h : i < n) : r b (Nat.succ (Nat.add off (Nat.mul i 2))) = some (I (eb z i)) := by
 have := hz (2 * i + 1) (by omega)
 rw [Nat.add_eq, Nat.mul_eq, Nat.mul_comm]
 exact this

theorem ri_S (hz : rowAt r b off (2 * n) z) : SOk (SC r) 7 [RS2 b off n cap] emptyA fun v A =>
  (1 ≤ n ∧ n ≤ 12 ∧ okS z n ∧ v = .tuple ⟨[ow 0 n, I 0]⟩ ∧ A = mkA [oSp z n 0]) ∨ (¬ (1 ≤ n ∧ n ≤ 12 ∧ okS z n) ∧ v = .tuple ⟨[.slice none 0 0, I (erS n)]⟩ ∧ A = mkA []) := by
 refine callL (SC_ok r) (by kernel_rfl) ((bodySC r _).trans RI_eq) (nt := 38) (by kernel_rfl) (rs := [.tmp 2, .tmp 3]) (by kernel_rfl) 458877 rfl (.step (.step (.step (.step .base)))) TOk.nil (tm := .nil) (L := 1) (d := 1) lvRI []
  (fun j vs ms os => 1 ≤ n ∧ n ≤ 12 ∧ ∃ k, k ≤ n ∧ j = n - k ∧ okS z k ∧ vs = vRI b off n cap k ∧ ms = [] ∧ os = [oSp (zTo z k) n 0])
  ⟨[4], [], fun vs ms os => 1 ≤ n ∧ n ≤ 12 ∧ okS z n ∧ vs = [some (ow 0 n)] ∧ ms = [] ∧ os = [oSp z n 0]⟩
  ⟨[2, 3], [], fun vs ms os => (1 ≤ n ∧ n ≤ 12 ∧ okS z n ∧ vs = [some (ow 0 n), some (I 0)] ∧ ms = [] ∧ os = [oSp z n 0]) ∨ (¬ (1 ≤ n ∧ n ≤ 12 ∧ okS z n) ∧ vs = [some (.slice none 0 0), some (I (erS n))] ∧ ms = [] ∧ os = [])⟩ ?_ ?_ ?_ ?_
 ·have hn := riA r b off n cap
  by_cases c : n ≤ 12
  ·by_cases c0 : n = 0
   ·subst c0
    exact (hn _ _ _ _).trans (qq_ok (.inr ⟨by omega, rfl, rfl, rfl⟩))
   ·have c1 : ¬ (n : Int) > 12 := by omega
    have c2 : (n : Int) ≠ ((0 : Nat) : Int) := by omega
    have c3 : Nat.ble n 1000000 = true := Nat.ble_eq_true_of_le (by omega)
    have c4 : Nat.ble n n = true := Nat.ble_eq_true_of_le (Nat.le_refl _)
    simp only [Int.ofNat_eq_natCast, Int.toNat_natCast] at hn
    simp only [dF c1, eqF c2, cond_false, c3, c4, cond_true] at hn
    have e0 := ix_zero2 n
    simp only [Int.ofNat_eq_natCast] at e0
    simp only [e0, ix_nn, Bool.and_true, cond_true] at hn
    exact (hn _ _ _ _).trans (qq_ok ⟨n, by omega, c, 0, by omega, rfl, fun i h => absurd h (by omega), rfl, rfl, rfl⟩)
  ·have c1 : Int.ofNat n > 12 := by simp; omega
   simp only [dT c1, cond_true] at hn
   exact (hn _ _ _ _).trans (qq_ok (.inr ⟨by omega, by unfold erS; rw [if_neg c]; rfl, rfl, rfl⟩))
 ·rintro j vs ms os ⟨h1, h12, k, hk, rfl, hok, rfl, rfl, rfl⟩
  refine ⟨_, TOk.nil, .nil, 1, 1, 1, ?_⟩
  have hn := riB r b off n cap k (ixN (zTo z k) (2 * n))
  by_cases c : k < n
  ·have c1 : (k : Int) < (n : Int) := by omega
   have c3 : Nat.blt k n = true := Nat.ble_eq_true_of_le (by omega)
   have e5 : setAt (ixN (zTo z k) (2 * n)) (Nat.add 0 (Nat.mul k 2)) [I (ea z k), I (eb z k)] = some (ixN (zTo z (k + 1)) (2 * n)) := by
    rw [Nat.add_eq, Nat.mul_eq, Nat.zero_add, ix_set2 (by omega)]
    refine congrArg some (ix_ext fun j hj => ?_)
    unfold zTo ea eb
    by_cases d : j < 2 * k
    ·rw [if_neg (by omega), if_neg (by omega), if_pos d, if_pos (by omega)]
    ·by_cases d1 : j = k * 2 + 1
     ·rw [if_pos d1, if_pos (by omega), d1, Nat.mul_comm]
     ·by_cases d2 : j = k * 2
      ·rw [if_neg d1, if_pos d2, if_pos (by omega), d2, Nat.mul_comm]
      ·rw [if_neg d1, if_neg d2, if_neg d, if_neg (by omega)]
   simp only [Int.ofNat_eq_natCast, Int.toNat_natCast] at hn
   simp only [dT c1, cond_true, c3, row_a hz c, row_b hz c, isI_I, Bool.and_true] at hn
   dsimp +instances only [ofI_I] at hn
   by_cases d : ea z k > eb z k
   ·simp only [dT d, cond_true] at hn
    exact (hn _ _ _ _).trans (qq_ok (.inr ⟨fun h => by have := h.2.2 k c; omega, by unfold erS; rw [if_pos h12]; rfl, rfl, rfl⟩))
   ·have e3 := inc1' (k := k) (by omega)
    simp only [Int.ofNat_eq_natCast] at e3
    simp only [dF d, cond_false, e3, e5, ix_nn, cond_true] at hn
    exact (hn _ _ _ _).trans (qq_ok ⟨n - (k + 1), by omega, h1, h12, k + 1, c, rfl, fun i hi => by
     by_cases e : i = k
     ·subst e; omega
     ·exact hok i (by omega), rfl, rfl, rfl⟩)
  ·have hkl : k = n := by omega
   subst hkl
   have c1 : ¬ Int.ofNat k < Int.ofNat k := by omega
   simp only [dF c1, cond_false, ix_nn, Bool.and_true, cond_true] at hn
   exact (hn _ _ _ _).trans (qq_ok ⟨h1, h12, hok, rfl, rfl, by
    unfold oSp
    rw [ix_ext (f := zTo z k) (g := z) fun j hj => if_pos hj]⟩)
 ·rintro vs ms os ⟨h1, h12, hok, rfl, rfl, rfl⟩
  have hn := riC r n (ixN z (2 * n))
  simp only [ix_nn, Bool.and_true, cond_true] at hn
  exact ⟨_, TOk.nil, .nil, 1, 1, 1, (hn _ _ _ _).trans (qq_ok (.inl ⟨h1, h12, hok, rfl, rfl, rfl⟩))⟩
 ·rintro vs ms os (⟨h1, h12, hok, rfl, rfl, rfl⟩ | ⟨hno, rfl, rfl, rfl⟩)
  ·exact ⟨_, mkA [oSp z n 0], by kernel_rfl, .inl ⟨h1, h12, hok, rfl, rfl⟩⟩
  ·exact ⟨_, mkA [], by kernel_rfl, .inr ⟨hno, rfl, rfl⟩⟩

theorem ca_ok (hz : rowAt r b off (2 * n) z) (hn12 : n ≤ 1000000) (x : Int) : GrT Tryd.prog r 19 [RS2 b off n cap, I x] (I (cnN (ea z) (eb z) x n : Nat)) := by
 have hle : ∀ k, cnN (ea z) (eb z) x k ≤ k := fun k => by
  induction k with
  | zero => exact Nat.le_refl _
  | succ k ih => rw [cnN]; split <;> omega
 refine GrT.ofS (C := SC r) rfl rfl rfl (callL (SC_ok r) (by kernel_rfl) ((bodySC r _).trans CA_eq) (nt := 21) (by kernel_rfl) (rs := [.tmp 4]) (by kernel_rfl) 1971 rfl (.step (.step .base)) TOk.nil (tm := .nil) (L := 1) (d := 1) lvCA []
  (fun j vs ms os => ∃ k, k ≤ n ∧ j = n - k ∧ vs = vCA b off n cap x (cnN (ea z) (eb z) x k : Nat) (k : Nat) ∧ ms = [] ∧ os = [])
  ⟨[5], [], fun vs ms os => vs = [some (I (cnN (ea z) (eb z) x n : Nat))] ∧ ms = [] ∧ os = []⟩
  ⟨[4], [], fun vs ms os => vs = [some (I (cnN (ea z) (eb z) x n : Nat))] ∧ ms = [] ∧ os = []⟩ ?_ ?_ ?_ ?_)
 ·exact (caA r b off n cap x _ _ _ _).trans (qq_ok ⟨n, 0, Nat.zero_le _, rfl, rfl, rfl, rfl⟩)
 ·rintro j vs ms os ⟨k, hk, rfl, rfl, rfl, rfl⟩
  refine ⟨_, TOk.nil, .nil, 1, 1, 3, ?_⟩
  have hn := caB r b off n cap x (cnN (ea z) (eb z) x k : Nat) (k : Nat)
  by_cases c : k < n
  ·have c1 : (k : Int) < Int.ofNat n := by simp; omega
   have c2 : 0 ≤ (k : Int) := by omega
   have c3 : Nat.blt k n = true := Nat.ble_eq_true_of_le (by omega)
   have e3 := inc1' (k := k) (by omega)
   have e4 := inc1' (k := cnN (ea z) (eb z) x k) (by have := hle k; omega)
   simp only [dT c1, dT c2, cond_true, Int.toNat_natCast, c3, row_a hz c, row_b hz c, isI_I, e3, e4] at hn
   dsimp +instances only [ofI_I] at hn
   by_cases d1 : ea z k ≤ x
   ·by_cases d2 : x ≤ eb z k
    ·simp only [dT d1, dT d2, cond_true] at hn
     exact (hn _ _ _).trans (qq_ok ⟨n - (k + 1), by omega, k + 1, c, rfl, by rw [cnN, if_pos ⟨d1, d2⟩]; rfl, rfl, rfl⟩)
    ·simp only [dT d1, dF d2, cond_true, cond_false] at hn
     exact (hn _ _ _).trans (qq_ok ⟨n - (k + 1), by omega, k + 1, c, rfl, by rw [cnN, if_neg fun h => d2 h.2]; rfl, rfl, rfl⟩)
   ·simp only [dF d1, cond_false] at hn
    exact (hn _ _ _).trans (qq_ok ⟨n - (k + 1), by omega, k + 1, c, rfl, by rw [cnN, if_neg fun h => d1 h.1]; rfl, rfl, rfl⟩)
  ·have hkl : k = n := by omega
   subst hkl
   have c1 : ¬ (k : Int) < Int.ofNat k := by simp
   simp only [dF c1, cond_false] at hn
   exact (hn _ _ _).trans (qq_ok ⟨rfl, rfl, rfl⟩)
 ·rintro vs ms os ⟨rfl, rfl, rfl⟩
  exact ⟨_, TOk.nil, .nil, 1, 1, 1, (caC r _ _ _ _ _).trans (qq_ok ⟨rfl, rfl, rfl⟩)⟩
 ·rintro vs ms os ⟨rfl, rfl, rfl⟩
  exact ⟨_, mkA [], by kernel_rfl, rfl⟩

theorem tCT_ok (hz : rowAt r b off (2 * n) z) (hn12 : n ≤ 1000000) : TOk (SC r) (tCT (RS2 b off n cap) fun x => (cnN (ea z) (eb z) x n : Nat)) := TOk.nil.cons (EOk.ent fun args A hg => by
 split at hg
 ·rename_i s x
  have hs := @of_decide_eq_true _ (Classical.propDecidable _) hg
  simp only [List.cons.injEq, and_true] at hs
  subst hs
  exact (ca_ok hz hn12 x).ro rfl A
 ·cases hg)

theorem pk_ok (hz : rowAt r b off (2 * n) z) (hn12 : n ≤ 1000000) : GrT Tryd.prog r 9 [RS2 b off n cap] (I (pkB (ea z) (eb z) n n).1) := by
 refine GrT.ofS (C := SC r) rfl rfl rfl (callL (SC_ok r) (by kernel_rfl) ((bodySC r _).trans PK_eq) (nt := 37) (by kernel_rfl) (rs := [.tmp 2]) (by kernel_rfl) 2013 rfl (.step (.step .base)) TOk.nil (tm := .nil) (L := 1) (d := 1) lvPK []
  (fun j vs ms os => ∃ k, k ≤ n ∧ j = n - k ∧ vs = vPK b off n cap (pkB (ea z) (eb z) n k).1 ((pkB (ea z) (eb z) n k).2 : Nat) (k : Nat) ∧ ms = [] ∧ os = [])
  ⟨[3], [], fun vs ms os => vs = [some (I (pkB (ea z) (eb z) n n).1)] ∧ ms = [] ∧ os = []⟩
  ⟨[2], [], fun vs ms os => vs = [some (I (pkB (ea z) (eb z) n n).1)] ∧ ms = [] ∧ os = []⟩ ?_ ?_ ?_ ?_)
 ·exact (pkY r b off n cap _ _ _ _).trans (qq_ok ⟨n, 0, Nat.zero_le _, rfl, rfl, rfl, rfl⟩)
 ·rintro j vs ms os ⟨k, hk, rfl, rfl, rfl, rfl⟩
  refine ⟨_, tCT_ok (cap := cap) hz hn12, .nil, 1, 1, 3, ?_⟩
  have hn := pkR r b off n cap (fun x => (cnN (ea z) (eb z) x n : Nat)) (pkB (ea z) (eb z) n k).1 ((pkB (ea z) (eb z) n k).2 : Nat) (k : Nat)
  by_cases c : k < n
  ·have c1 : (k : Int) < Int.ofNat n := by simp; omega
   have c2 : 0 ≤ (k : Int) := by omega
   have c3 : Nat.blt k n = true := Nat.ble_eq_true_of_le (by omega)
   have e3 := inc1' (k := k) (by omega)
   simp only [dT c1, dT c2, cond_true, Int.toNat_natCast, c3, row_a hz c, row_b hz c, isI_I, e3, sv_rfl] at hn
   dsimp +instances only [ofI_I] at hn
   by_cases d1 : (pkB (ea z) (eb z) n k).2 < cnN (ea z) (eb z) (ea z k) n
   ·have d1' : ((cnN (ea z) (eb z) (ea z k) n : Nat) : Int) > ((pkB (ea z) (eb z) n k).2 : Nat) := by omega
    simp only [dT d1', cond_true] at hn
    exact (hn _ _ _).trans (qq_ok ⟨n - (k + 1), by omega, k + 1, c, rfl, by rw [pkB, if_pos (.inl d1)]; rfl, rfl, rfl⟩)
   ·have d1' : ¬ ((cnN (ea z) (eb z) (ea z k) n : Nat) : Int) > ((pkB (ea z) (eb z) n k).2 : Nat) := by omega
    by_cases d2 : cnN (ea z) (eb z) (ea z k) n = (pkB (ea z) (eb z) n k).2
    ·have d2' : ((cnN (ea z) (eb z) (ea z k) n : Nat) : Int) = ((pkB (ea z) (eb z) n k).2 : Nat) := by omega
     by_cases d3 : ea z k < (pkB (ea z) (eb z) n k).1
     ·simp only [dF d1', eqT d2', dT d3, cond_true, cond_false] at hn
      exact (hn _ _ _).trans (qq_ok ⟨n - (k + 1), by omega, k + 1, c, rfl, by rw [pkB, if_pos (.inr ⟨d2, d3⟩)]; rfl, rfl, rfl⟩)
     ·simp only [dF d1', eqT d2', dF d3, cond_true, cond_false] at hn
      exact (hn _ _ _).trans (qq_ok ⟨n - (k + 1), by omega, k + 1, c, rfl, by rw [pkB, if_neg (by omega)]; rfl, rfl, rfl⟩)
    ·have d2' : ((cnN (ea z) (eb z) (ea z k) n : Nat) : Int) ≠ ((pkB (ea z) (eb z) n k).2 : Nat) := by omega
     simp only [dF d1', eqF d2', cond_false] at hn
     exact (hn _ _ _).trans (qq_ok ⟨n - (k + 1), by omega, k + 1, c, rfl, by rw [pkB, if_neg (by omega)]; rfl, rfl, rfl⟩)
  ·have hkl : k = n := by omega
   subst hkl
   have c1 : ¬ (k : Int) < Int.ofNat k := by simp
   simp only [dF c1, cond_false] at hn
   exact (hn _ _ _).trans (qq_ok ⟨rfl, rfl, rfl⟩)
 ·rintro vs ms os ⟨rfl, rfl, rfl⟩
  exact ⟨_, TOk.nil, .nil, 1, 1, 1, (pkZ r _ _ _ _ _).trans (qq_ok ⟨rfl, rfl, rfl⟩)⟩
 ·rintro vs ms os ⟨rfl, rfl, rfl⟩
  exact ⟨_, mkA [], by kernel_rfl, rfl⟩
end

end Go.Proofs

/- Intervals by their left, run: the comparing function, the insertion sort. -/
namespace Go.Proofs
open Go Go.Ev Go.Num
set_option linter.unusedVariables false
set_option linter.unusedSimpArgs false
set_option maxRecDepth 100000

noncomputable def tCmp : Tbl := tcons 32 (eI2 (fun _ _ => true) fun a b => I (m_cmpI a b)) fun _ => none

theorem ccA (r : Mem) (a b : Int) : (lvlT (SC r) (fun _ => none) .nil 1 3).call 32 [I a, I b] emptyA fin =
    bif a != a then bif b != b then .ret (I (Int.ofNat 0)) (AW.mk 0 .nil .nil) else .ret (I (Int.negSucc 0)) (AW.mk 0 .nil .nil) else bif b != b then .ret (I (Int.ofNat 1)) (AW.mk 0 .nil .nil) else bif decide (a < b) then .ret (I (Int.negSucc 0)) (AW.mk 0 .nil .nil) else bif decide (a > b) then .ret (I (Int.ofNat 1)) (AW.mk 0 .nil .nil) else .ret (I (Int.ofNat 0)) (AW.mk 0 .nil .nil) := by kernel_rfl

theorem l1A (r : Mem) (i j : Nat) (bb kk : Nat) : (lvlT (SC r) tCmp .nil 3 3).call 30 [I (i : Nat), I (j : Nat), .pointer (some ⟨bb, kk, some 0⟩)] emptyA fin =
    Option.casesOn (r bb kk) (.fail 423) fun val => bif isNilS val then .fail 31 else bif isRoS val then bif Nat.blt (Int.toNat (Int.ofNat i)) (lnOf val) then Option.casesOn (r (blkOf val) (Nat.add (Nat.add (offOf val) (Nat.mul (Int.toNat (Int.ofNat i)) 2)) 0)) (.fail 423) fun val_1 => bif isI IntKind.i64 val_1 then Option.casesOn (r bb kk) (.fail 423) fun val_2 => bif isNilS val_2 then .fail 31 else bif isRoS val_2 then bif Nat.blt (Int.toNat (Int.ofNat j)) (lnOf val_2) then Option.casesOn (r (blkOf val_2) (Nat.add (Nat.add (offOf val_2) (Nat.mul (Int.toNat (Int.ofNat j)) 2)) 0)) (.fail 423) fun val_3 => bif isI IntKind.i64 val_3 then bif m_cmpI (ofI val_1) (ofI val_3) != Int.ofNat 0 then Option.casesOn (r (blkOf val_2) (Nat.add (Nat.add (offOf val_2) (Nat.mul (Int.toNat (Int.ofNat j)) 2)) 0)) (.fail 423) fun val_4 => bif isI IntKind.i64 val_4 then bif m_eqv (I (ofI val_4)) (I (ofI val_3)) then Option.casesOn (r bb kk) (.fail 423) fun val_5 => bif isNilS val_5 then .fail 420 else bif isRoS val_5 then bif m_eqv (.slice (some ⟨(blkOf val_5), (offOf val_5), some 0⟩) (lnOf val_5) (cpOf val_5)) (.slice (some ⟨(blkOf val_2), (offOf val_2), some 0⟩) (lnOf val_2) (cpOf val_2)) then Option.casesOn (r (blkOf val) (Nat.add (Nat.add (offOf val) (Nat.mul (Int.toNat (Int.ofNat i)) 2)) 0)) (.fail 423) fun val_6 => bif isI IntKind.i64 val_6 then bif m_eqv (I (ofI val_6)) (I (ofI val_1)) then Option.casesOn (r bb kk) (.fail 423) fun val_7 => bif isNilS val_7 then .fail 420 else bif isRoS val_7 then bif m_eqv (.slice (some ⟨(blkOf val_7), (offOf val_7), some 0⟩) (lnOf val_7) (cpOf val_7)) (.slice (some ⟨(blkOf val), (offOf val), some 0⟩) (lnOf val) (cpOf val)) then .ret (I (m_cmpI (ofI val_1) (ofI val_3))) (AW.mk 0 .nil .nil) else .fail 420 else bif isES val_7 then bif m_eqv (.slice (some ⟨0, 0, none⟩) 0 9223372036854775809) (.slice (some ⟨(blkOf val), (offOf val), some 0⟩) (lnOf val) (cpOf val)) then .ret (I (m_cmpI (ofI val_1) (ofI val_3))) (AW.mk 0 .nil .nil) else .fail 420 else bif isOwnS val_7 then bif m_eqv (.slice (some ⟨(blkOf val_7), (offOf val_7), none⟩) (lnOf val_7) (cpOf val_7)) (.slice (some ⟨(blkOf val), (offOf val), some 0⟩) (lnOf val) (cpOf val)) then .ret (I (m_cmpI (ofI val_1) (ofI val_3))) (AW.mk 0 .nil .nil) else .fail 420 else .fail 424 else .fail 420 else .fail 420 else .fail 420 else bif isES val_5 then bif m_eqv (.slice (some ⟨0, 0, none⟩) 0 9223372036854775809) (.slice (some ⟨(blkOf val_2), (offOf val_2), some 0⟩) (lnOf val_2) (cpOf val_2)) then Option.casesOn (r (blkOf val) (Nat.add (Nat.add (offOf val) (Nat.mul (Int.toNat (Int.ofNat i)) 2)) 0)) (.fail 423) fun val_6 => bif isI IntKind.i64 val_6 then bif m_eqv (I (ofI val_6)) (I (ofI val_1)) then Option.casesOn (r bb kk) (.fail 423) fun val_7 => bif isNilS val_7 then .fail 420 else bif isRoS val_7 then bif m_eqv (.slice (some ⟨(blkOf val_7), (offOf val_7), some 0⟩) (lnOf val_7) (cpOf val_7)) (.slice (some ⟨(blkOf val), (offOf val), some 0⟩) (lnOf val) (cpOf val)) then .ret (I (m_cmpI (ofI val_1) (ofI val_3))) (AW.mk 0 .nil .nil) else .fail 420 else bif isES val_7 then bif m_eqv (.slice (some ⟨0, 0, none⟩) 0 9223372036854775809) (.slice (some ⟨(blkOf val), (offOf val), some 0⟩) (lnOf val) (cpOf val)) then .ret (I (m_cmpI (ofI val_1) (ofI val_3))) (AW.mk 0 .nil .nil) else .fail 420 else bif isOwnS val_7 then bif m_eqv (.slice (some ⟨(blkOf val_7), (offOf val_7), none⟩) (lnOf val_7) (cpOf val_7)) (.slice (some ⟨(blkOf val), (offOf val), some 0⟩) (lnOf val) (cpOf val)) then .ret (I (m_cmpI (ofI val_1) (ofI val_3))) (AW.mk 0 .nil .nil) else .fail 420 else .fail 424 else .fail 420 else .fail 420 else .fail 420 else bif isOwnS val_5 then bif m_eqv (.slice (some ⟨(blkOf val_5), (offOf val_5), none⟩) (lnOf val_5) (cpOf val_5)) (.slice (some ⟨(blkOf val_2), (offOf val_2), some 0⟩) (lnOf val_2) (cpOf val_2)) then Option.casesOn (r (blkOf val) (Nat.add (Nat.add (offOf val) (Nat.mul (Int.toNat (Int.ofNat i)) 2)) 0)) (.fail 423) fun val_6 => bif isI IntKind.i64 val_6 then bif m_eqv (I (ofI val_6)) (I (ofI val_1)) then Option.casesOn (r bb kk) (.fail 423) fun val_7 => bif isNilS val_7 then .fail 420 else bif isRoS val_7 then bif m_eqv (.slice (some ⟨(blkOf val_7), (offOf val_7), some 0⟩) (lnOf val_7) (cpOf val_7)) (.slice (some ⟨(blkOf val), (offOf val), some 0⟩) (lnOf val) (cpOf val)) then .ret (I (m_cmpI (ofI val_1) (ofI val_3))) (AW.mk 0 .nil .nil) else .fail 420 else bif isES val_7 then bif m_eqv (.slice (some ⟨0, 0, none⟩) 0 9223372036854775809) (.slice (some ⟨(blkOf val), (offOf val), some 0⟩) (lnOf val) (cpOf val)) then .ret (I (m_cmpI (ofI val_1) (ofI val_3))) (AW.mk 0 .nil .nil) else .fail 420 else bif isOwnS val_7 then bif m_eqv (.slice (some ⟨(blkOf val_7), (offOf val_7), none⟩) (lnOf val_7) (cpOf val_7)) (.slice (some ⟨(blkOf val), (offOf val), some 0⟩) (lnOf val) (cpOf val)) then .ret (I (m_cmpI (ofI val_1) (ofI val_3))) (AW.mk 0 .nil .nil) else .fail 420 else .fail 424 else .fail 420 else .fail 420 else .fail 420 else .fail 424 else .fail 420 else .fail 420 else bif m_cmpI (Int.ofNat i) (Int.ofNat j) != Int.ofNat 0 then Option.casesOn (r (blkOf val_2) (Nat.add (Nat.add (offOf val_2) (Nat.mul (Int.toNat (Int.ofNat j)) 2)) 0)) (.fail 423) fun val_4 => bif isI IntKind.i64 val_4 then bif m_eqv (I (ofI val_4)) (I (ofI val_3)) then Option.casesOn (r bb kk) (.fail 423) fun val_5 => bif isNilS val_5 then .fail 420 else bif isRoS val_5 then bif m_eqv (.slice (some ⟨(blkOf val_5), (offOf val_5), some 0⟩) (lnOf val_5) (cpOf val_5)) (.slice (some ⟨(blkOf val_2), (offOf val_2), some 0⟩) (lnOf val_2) (cpOf val_2)) then Option.casesOn (r (blkOf val) (Nat.add (Nat.add (offOf val) (Nat.mul (Int.toNat (Int.ofNat i)) 2)) 0)) (.fail 423) fun val_6 => bif isI IntKind.i64 val_6 then bif m_eqv (I (ofI val_6)) (I (ofI val_1)) then Option.casesOn (r bb kk) (.fail 423) fun val_7 => bif isNilS val_7 then .fail 420 else bif isRoS val_7 then bif m_eqv (.slice (some ⟨(blkOf val_7), (offOf val_7), some 0⟩) (lnOf val_7) (cpOf val_7)) (.slice (some ⟨(blkOf val), (offOf val), some 0⟩) (lnOf val) (cpOf val)) then .ret (I (m_cmpI (Int.ofNat i) (Int.ofNat j))) (AW.mk 0 .nil .nil) else .fail 420 else bif isES val_7 then bif m_eqv (.slice (some ⟨0, 0, none⟩) 0 9223372036854775809) (.slice (some ⟨(blkOf val), (offOf val), some 0⟩) (lnOf val) (cpOf val)) then .ret (I (m_cmpI (Int.ofNat i) (Int.ofNat j))) (AW.mk 0 .nil .nil) else .fail 420 else bif isOwnS val_7 then bif m_eqv (.slice (some ⟨(blkOf val_7), (offOf val_7), none⟩) (lnOf val_7) (cpOf val_7)) (.slice (some ⟨(blkOf val), (offOf val), some 0⟩) (lnOf val) (cpOf val)) then .ret (I (m_cmpI (Int.ofNat i) (Int.ofNat j))) (AW.mk 0 .nil .nil) else .fail 420 else .fail 424 else .fail 420 else .fail 420 else .fail 420 else bif isES val_5 then bif m_eqv (.slice (some ⟨0, 0, none⟩) 0 9223372036854775809) (.slice (some ⟨(blkOf val_2), (offOf val_2), some 0⟩) (lnOf val_2) (cpOf val_2)) then Option.casesOn (r (blkOf val) (Nat.add (Nat.add (offOf val) (Nat.mul (Int.toNat (Int.ofNat i)) 2)) 0)) (.fail 423) fun val_6 => bif isI IntKind.i64 val_6 then bif m_eqv (I (ofI val_6)) (I (ofI val_1)) then Option.casesOn (r bb kk) (.fail 423) fun val_7 => bif isNilS val_7 then .fail 420 else bif isRoS val_7 then bif m_eqv (.slice (some ⟨(blkOf val_7), (offOf val_7), some 0⟩) (lnOf val_7) (cpOf val_7)) (.slice (some ⟨(blkOf val), (offOf val), some 0⟩) (lnOf val) (cpOf val)) then .ret (I (m_cmpI (Int.ofNat i) (Int.ofNat j))) (AW.mk 0 .nil .nil) else .fail 420 else bif isES val_7 then bif m_eqv (.slice (some ⟨0, 0, none⟩) 0 9223372036854775809) (.slice (some ⟨(blkOf val), (offOf val), some 0⟩) (lnOf val) (cpOf val)) then .ret (I (m_cmpI (Int.ofNat i) (Int.ofNat j))) (AW.mk 0 .nil .nil) else .fail 420 else bif isOwnS val_7 then bif m_eqv (.slice (some ⟨(blkOf val_7), (offOf val_7), none⟩) (lnOf val_7) (cpOf val_7)) (.slice (some ⟨(blkOf val), (offOf val), some 0⟩) (lnOf val) (cpOf val)) then .ret (I (m_cmpI (Int.ofNat i) (Int.ofNat j))) (AW.mk 0 .nil .nil) else .fail 420 else .fail 424 else .fail 420 else .fail 420 else .fail 420 else bif isOwnS val_5 then bif m_eqv (.slice (some ⟨(blkOf val_5), (offOf val_5), none⟩) (lnOf val_5) (cpOf val_5)) (.slice (some ⟨(blkOf val_2), (offOf val_2), some 0⟩) (lnOf val_2) (cpOf val_2)) then Option.casesOn (r (blkOf val) (Nat.add (Nat.add (offOf val) (Nat.mul (Int.toNat (Int.ofNat i)) 2)) 0)) (.fail 423) fun val_6 => bif isI IntKind.i64 val_6 then bif m_eqv (I (ofI val_6)) (I (ofI val_1)) then Option.casesOn (r bb kk) (.fail 423) fun val_7 => bif isNilS val_7 then .fail 420 else bif isRoS val_7 then bif m_eqv (.slice (some ⟨(blkOf val_7), (offOf val_7), some 0⟩) (lnOf val_7) (cpOf val_7)) (.slice (some ⟨(blkOf val), (offOf val), some 0⟩) (lnOf val) (cpOf val)) then .ret (I (m_cmpI (Int.ofNat i) (Int.ofNat j))) (AW.mk 0 .nil .nil) else .fail 420 else bif isES val_7 then bif m_eqv (.slice (some ⟨0, 0, none⟩) 0 9223372036854775809) (.slice (some ⟨(blkOf val), (offOf val), some 0⟩) (lnOf val) (cpOf val)) then .ret (I (m_cmpI (Int.ofNat i) (Int.ofNat j))) (AW.mk 0 .nil .nil) else .fail 420 else bif isOwnS val_7 then bif m_eqv (.slice (some ⟨(blkOf val_7), (offOf val_7), none⟩) (lnOf val_7) (cpOf val_7)) (.slice (some ⟨(blkOf val), (offOf val), some 0⟩) (lnOf val) (cpOf val)) then .ret (I (m_cmpI (Int.ofNat i) (Int.ofNat j))) (AW.mk 0 .nil .nil) else .fail 420 else .fail 424 else .fail 420 else .fail 420 else .fail 420 else .fail 424 else .fail 420 else .fail 420 else Option.casesOn (r (blkOf val_2) (Nat.add (Nat.add (offOf val_2) (Nat.mul (Int.toNat (Int.ofNat j)) 2)) 0)) (.fail 423) fun val_4 => bif isI IntKind.i64 val_4 then bif m_eqv (I (ofI val_4)) (I (ofI val_3)) then Option.casesOn (r bb kk) (.fail 423) fun val_5 => bif isNilS val_5 then .fail 420 else bif isRoS val_5 then bif m_eqv (.slice (some ⟨(blkOf val_5), (offOf val_5), some 0⟩) (lnOf val_5) (cpOf val_5)) (.slice (some ⟨(blkOf val_2), (offOf val_2), some 0⟩) (lnOf val_2) (cpOf val_2)) then Option.casesOn (r (blkOf val) (Nat.add (Nat.add (offOf val) (Nat.mul (Int.toNat (Int.ofNat i)) 2)) 0)) (.fail 423) fun val_6 => bif isI IntKind.i64 val_6 then bif m_eqv (I (ofI val_6)) (I (ofI val_1)) then Option.casesOn (r bb kk) (.fail 423) fun val_7 => bif isNilS val_7 then .fail 420 else bif isRoS val_7 then bif m_eqv (.slice (some ⟨(blkOf val_7), (offOf val_7), some 0⟩) (lnOf val_7) (cpOf val_7)) (.slice (some ⟨(blkOf val), (offOf val), some 0⟩) (lnOf val) (cpOf val)) then .ret (I (Int.ofNat 0)) (AW.mk 0 .nil .nil) else .fail 420 else bif isES val_7 then bif m_eqv (.slice (some ⟨0, 0, none⟩) 0 9223372036854775809) (.slice (some ⟨(blkOf val), (offOf val), some 0⟩) (lnOf val) (cpOf val)) then .ret (I (Int.ofNat 0)) (AW.mk 0 .nil .nil) else .fail 420 else bif isOwnS val_7 then bif m_eqv (.slice (some ⟨(blkOf val_7), (offOf val_7), none⟩) (lnOf val_7) (cpOf val_7)) (.slice (some ⟨(blkOf val), (offOf val), some 0⟩) (lnOf val) (cpOf val)) then .ret (I (Int.ofNat 0)) (AW.mk 0 .nil .nil) else .fail 420 else .fail 424 else .fail 420 else .fail 420 else .fail 420 else bif isES val_5 then bif m_eqv (.slice (some ⟨0, 0, none⟩) 0 9223372036854775809) (.slice (some ⟨(blkOf val_2), (offOf val_2), some 0⟩) (lnOf val_2) (cpOf val_2)) then Option.casesOn (r (blkOf val) (Nat.add (Nat.add (offOf val) (Nat.mul (Int.toNat (Int.ofNat i)) 2)) 0)) (.fail 423) fun val_6 => bif isI IntKind.i64 val_6 then bif m_eqv (I (ofI val_6)) (I (ofI val_1)) then Option.casesOn (r bb kk) (.fail 423) fun val_7 => bif isNilS val_7 then .fail 420 else bif isRoS val_7 then bif m_eqv (.slice (some ⟨(blkOf val_7), (offOf val_7), some 0⟩) (lnOf val_7) (cpOf val_7)) (.slice (some ⟨(blkOf val), (offOf val), some 0⟩) (lnOf val) (cpOf val)) then .ret (I (Int.ofNat 0)) (AW.mk 0 .nil .nil) else .fail 420 else bif isES val_7 then bif m_eqv (.slice (some ⟨0, 0, none⟩) 0 9223372036854775809) (.slice (some ⟨(blkOf val), (offOf val), some 0⟩) (lnOf val) (cpOf val)) then .ret (I (Int.ofNat 0)) (AW.mk 0 .nil .nil) else .fail 420 else bif isOwnS val_7 then bif m_eqv (.slice (some ⟨(blkOf val_7), (offOf val_7), none⟩) (lnOf val_7) (cpOf val_7)) (.slice (some ⟨(blkOf val), (offOf val), some 0⟩) (lnOf val) (cpOf val)) then .ret (I (Int.ofNat 0)) (AW.mk 0 .nil .nil) else .fail 420 else .fail 424 else .fail 420 else .fail 420 else .fail 420 else bif isOwnS val_5 then bif m_eqv (.slice (some ⟨(blkOf val_5), (offOf val_5), none⟩) (lnOf val_5) (cpOf val_5)) (.slice (some ⟨(blkOf val_2), (offOf val_2), some 0⟩) (lnOf val_2) (cpOf val_2)) then Option.casesOn (r (blkOf val) (Nat.add (Nat.add (offOf val) (Nat.mul (Int.toNat (Int.ofNat i)) 2)) 0)) (.fail 423) fun val_6 => bif isI IntKind.i64 val_6 then bif m_eqv (I (ofI val_6)) (I (ofI val_1)) then Option.casesOn (r bb kk) (.fail 423) fun val_7 => bif isNilS val_7 then .fail 420 else bif isRoS val_7 then bif m_eqv (.slice (some ⟨(blkOf val_7), (offOf val_7), some 0⟩) (lnOf val_7) (cpOf val_7)) (.slice (some ⟨(blkOf val), (offOf val), some 0⟩) (lnOf val) (cpOf val)) then .ret (I (Int.ofNat 0)) (AW.mk 0 .nil .nil) else .fail 420 else bif isES val_7 then bif m_eqv (.slice (some ⟨0, 0, none⟩) 0 9223372036854775809) (.slice (some ⟨(blkOf val), (offOf val), some 0⟩) (lnOf val) (cpOf val)) then .ret (I (Int.ofNat 0)) (AW.mk 0 .nil .nil) else .fail 420 else bif isOwnS val_7 then bif m_eqv (.slice (some ⟨(blkOf val_7), (offOf val_7), none⟩) (lnOf val_7) (cpOf val_7)) (.slice (some ⟨(blkOf val), (offOf val), some 0⟩) (lnOf val) (cpOf val)) then .ret (I (Int.ofNat 0)) (AW.mk 0 .nil .nil) else .fail 420 else .fail 424 else .fail 420 else .fail 420 else .fail 420 else .fail 424 else .fail 420 else .fail 420 else .fail 420 else .fail 420 else bif isES val_2 then .fail 420 else bif isOwnS val_2 then bif Nat.blt (Int.toNat (Int.ofNat j)) (lnOf val_2) then .fail 423 else .fail 420 else .fail 424 else .fail 420 else .fail 420 else bif isES val then .fail 420 else bif isOwnS val then bif Nat.blt (Int.toNat (Int.ofNat i)) (lnOf val) then .fail 423 else .fail 420 else .fail 424 := by kernel_rfl

end Go.Proofs

/- slices.SortFunc, by the library's contract, where the comparing function's answers are known by a run: the caller's own row, of one cell each, is sorted in place. -/
namespace Go.Proofs
open Go Go.Ev Go.Shelf Go.RowKit Go.Lib Go.Sort
set_option linter.unusedVariables false
set_option linter.unusedSimpArgs false

theorem mapBlock_setB {W : World} {b : Nat} {cc : Array Value} {e : TypeId} {fr : Nat × Nat} (hb : W.heap[b]? = some (.cells cc e fr)) (f : Array Value → Array Value) : mapBlock W b f = setB W b (.cells (f cc) e fr) := by
 unfold mapBlock setB
 congr 1
 apply Array.ext_getElem?
 intro k
 simp only [Array.getElem?_modify, Array.getElem?_setIfInBounds]
 by_cases hk : b = k
 ·subst hk
  have hlt : b < W.heap.size := by
   rcases Nat.lt_or_ge b W.heap.size with h | h
   ·exact h
   ·rw [Array.getElem?_eq_none h] at hb; cases hb
  rw [if_pos rfl, if_pos rfl, if_pos hlt, hb]
  rfl
 ·rw [if_neg hk, if_neg hk]

theorem WRel.ahead {γ : Gam} {A : AW} {W : World} (h : WRel γ A W) (n : Nat) : WRel γ A (Sort.ahead W n) :=
 ⟨fun i o hi => let ⟨g, hg, hr⟩ := h.obj i o hi; ⟨g, hg, hr.mono γ.le_refl rfl⟩, h.lt, h.fresh, h.sep, h.mem, h.famlt, h.famfresh⟩
theorem Ext.ahead (γ : Gam) (W : World) (n : Nat) : Ext γ W γ (Sort.ahead W n) := ⟨γ.le_refl, fun _ _ h => .inl h, Nat.le_refl _, fun _ _ _ => rfl, rfl, rfl, rfl, Nat.le_add_right _ _⟩
theorem below_grow (W : World) (os : Array Obj) : BelowD W.heap.size W (Sort.grow W os) := by
 refine ⟨⟨rfl, rfl, rfl, by simp [Sort.grow], fun k hk => ?_⟩, Nat.le_refl _⟩
 show (W.heap ++ os)[k]? = _
 rw [Array.getElem?_append_left hk]

theorem _root_.Go.Ev.GrT.callsD {P : Program} {r : Mem} {f : Nat} {args : List Value} {v : Value} (h : GrT P r f args v) {W : World} {args' : Array Value} (hR : Ro r noG W) (ha : VsRel noG args args'.toList) :
  Calls P f args' W fun e W' => e = .returned v ∧ BelowD W.heap.size W W' :=
 callsIn_wide.1 (h.2 Fence.wide ⟨fun _ => trivial, rfl, rfl⟩ 0 W args' hR ha)

theorem _root_.Go.Ev.BelowD.grow {W W' : World} (h : BelowD W.heap.size W W') : ∃ q os', W' = Sort.grow (W.drewN q) os' := by
 refine ⟨W'.drawn - W.drawn, W'.heap.extract W.heap.size W'.heap.size, ?_⟩
 obtain ⟨⟨h1, h2, h3, h4, h5⟩, h6⟩ := h
 obtain ⟨heap, tape, drawn, os, output⟩ := W'
 obtain ⟨heap0, tape0, drawn0, os0, output0⟩ := W
 simp only at h1 h2 h3 h4 h5 h6
 subst h1 h2 h3
 simp only [Sort.grow, World.drewN, World.mk.injEq, true_and, and_true]
 refine ⟨?_, by omega⟩
 apply Array.ext_getElem?
 intro k
 by_cases hk : k < heap0.size
 ·rw [Array.getElem?_append_left hk, h5 k hk]
 ·rw [Array.getElem?_append_right (by omega), Array.getElem?_extract]
  by_cases hk2 : k < heap.size
  ·rw [if_pos (by omega)]
   congr 1
   omega
  ·rw [if_neg (by omega), Array.getElem?_eq_none (by omega)]

theorem cells_enc {α : Type} {enc : α → Value} (hg : ∀ x, gnd (enc x) = true) {γ : Gam} {o : Nat} {zs : List α} {cc : Array Value} (h : CellsRel γ o (zs.map enc) cc) (j : Nat) (hj : j < zs.length) : cc[o + j]? = some (enc zs[j]) := by
 obtain ⟨v', h1, h2⟩ := h j (enc zs[j]) (by simp [hj])
 rw [h1, h2.eq_of_gnd (hg _)]

theorem sortWorld_heap {α : Type} [Inhabited α] {enc : α → Value} {W : World} {blk off m : Nat} {dk : Array α} {os : Array Obj} {k : Nat} (hk : k < W.heap.size) (hne : k ≠ blk) : (sortWorld enc W blk off m dk os).heap[k]? = W.heap[k]? := by
 unfold sortWorld Sort.grow putRow mapBlock
 show ((Sort.ahead W m).heap.modify blk _ ++ os)[k]? = _
 rw [Array.getElem?_append_left (by simpa [Sort.ahead] using hk), Array.getElem?_modify, if_neg (fun e => hne e.symm)]
 rfl

theorem sort_genC {P : Program} {ρ : Shelf.Ren} (L : SlLaysF.n6 P ρ) {α : Type} [Inhabited α] (enc : α → Value) (h1 : OneCell enc) (hgnd : ∀ x, gnd (enc x) = true) (g0 : Nat) (capt : List Value) (cf : α → α → Int) (hO : SWO (ltOf cf))
  (eg : ∀ args w, (callFunc g0 args).run P w = .ok (.enter g0 args) w)
  {C : Cfg} (hP : C.P = P) {A0 : AW} {i cap : Nat} {e : TypeId} {fam z : Nat} {zs R : List α} (hi : A0.heap.get i = some (.cells (zs.map enc) e fam z)) (hsz : zs.length < 4611686018427387904) (hcap : cap ≠ unkE)
  (hcmp : ∀ γ W capt' g, WRel γ A0 W → Ro C.ro γ W → VsRel γ capt capt' → γ i = some g → CmpLays1 P g0 ⟨capt'⟩ enc cf g.blk g.off zs.length W)
  (hR : ∀ d : List α, d.Perm zs → d.Pairwise (fun x y => ltOf cf y x = false) → d = R) :
  ∀ F, Wide F → ∀ k γ W args', WRel γ A0 W → Ro C.ro γ W → VsRel γ [.slice (some ⟨i, 0, none⟩) zs.length cap, .func (.func g0) ⟨[]⟩ ⟨capt⟩] (Array.toList args') →
   CallsIn F k C.P (ρ.f 6) args' W (Go.Ev.Ends γ W (.tuple ⟨[]⟩) (A0.only fam i (.cells (R.map enc) e fam z))) := by
 intro F hF k γ W args' hw hro ha
 subst hP
 obtain ⟨g, hg, ho⟩ := hw.obj _ _ hi
 cases ho with
 | cells hb hf hn hz hc =>
 rename_i cc fr
 obtain ⟨l'⟩ := args'
 cases ha with
 | cons h1' h2 =>
 cases h2 with
 | cons h2 h3 =>
 cases h3
 cases h2 with
 | func q1 q2 q3 =>
 cases q1
 rename_i a1 a2
 obtain ⟨a1⟩ := a1
 obtain ⟨a2⟩ := a2
 cases q2
 generalize hm : zs.length = m at h1'
 cases h1' with
 | sliceE => exact absurd rfl hcap
 | slice _ _ _ c' hg' _ =>
 subst hm
 rw [hg] at hg'
 cases hg'
 have hlt := hw.lt _ _ hg
 have hcz := cells_enc hgnd hc
 have hH : Holds enc W g.blk g.off zs.toArray := fun j hj => by
  have hj' : j < zs.length := by simpa using hj
  have h0 := hcz j hj'
  have hjc : g.off + j < cc.size := by
   rcases Nat.lt_or_ge (g.off + j) cc.size with h | h
   ·exact h
   ·rw [Array.getElem?_eq_none h] at h0; cases h0
  refine ⟨?_, ?_⟩
  ·unfold World.cell?
   rw [hb]
   simp only [Option.isSome_none, Bool.false_eq_true, if_false, h0]
   rw [getElem!_pos _ j (by simpa using hj')]
   simp
  ·unfold World.frozen?
   rw [hb]
   have := hf (g.off + j) hjc
   simp only [Bool.and_eq_false_iff, decide_eq_false_iff_not]
   omega
 have hcr : CmpLays1 C.P g0 ⟨a2⟩ enc cf g.blk g.off zs.toArray.size W := by
  rw [show zs.toArray.size = zs.length by simp]
  exact hcmp γ W a2 g hw hro q3 hg
 have hcon := Any.slices_SortFunc L enc h1 cf hO g0 ⟨a2⟩ g.blk g.off c' zs.toArray W eg hcr hH hlt (by simpa using hsz)
 rw [show zs.toArray.size = zs.length by simp] at hcon
 refine (hF.calls hcon).mono fun e' W' he => ?_
 obtain ⟨rfl, d', n, os, hp, hs, rfl⟩ := he
 have hds : d'.size = zs.length := by simpa using hp.1
 have hd : d'.toList = R := by
  refine hR _ ?_ ?_
  ·have := hp.2.2
   rw [show d'.extract 0 zs.length = d' by rw [← hds]; simp] at this
   simpa using this
  ·rw [List.pairwise_iff_getElem]
   intro a b h1 h2 h3
   have := hs a b (Nat.zero_le _) h3 (by rw [← hds]; simpa using h2)
   rw [getElem!_pos _ b (by simpa using h2), getElem!_pos _ a (by simpa using h1)] at this
   simpa using this
 have hw1 := WRel.ahead hw n
 have hb1 : (Sort.ahead W n).heap[g.blk]? = some (.cells cc e fr) := hb
 have e1 : putRow enc (Sort.ahead W n) g.blk g.off d' = setB (Sort.ahead W n) g.blk (.cells (putCells enc g.off d' cc) e fr) := mapBlock_setB hb1 _
 have hps : (putCells enc g.off d' cc).size = cc.size := by simp [putCells]
 have hor : ORel γ (setB (Sort.ahead W n) g.blk (.cells (putCells enc g.off d' cc) e fr)) g (.cells (R.map enc) e fam z) := by
  refine .cells (setB_same _ hlt) (by rw [hps]; exact hf) (by rw [hps]; exact hn) hz fun k v hk => ?_
  rw [List.getElem?_map] at hk
  cases hr : R[k]? with
  | none => rw [hr] at hk; cases hk
  | some x =>
   rw [hr] at hk
   cases hk
   have hkR : k < R.length := by
    rcases Nat.lt_or_ge k R.length with h | h
    ·exact h
    ·rw [List.getElem?_eq_none h] at hr; cases hr
   have hkd : k < d'.size := by rw [← hd] at hkR; simpa using hkR
   have hkz : k < zs.length := by omega
   refine ⟨enc x, ?_, VRel.of_gnd _ _ (hgnd x)⟩
   have h0 := hcz k hkz
   simp only [putCells, Array.getElem?_mapIdx, h0, Option.map_some]
   rw [if_pos ⟨by omega, by omega⟩, show g.off + k - g.off = k by omega]
   rw [getElem!_pos _ k hkd]
   have : d'.toList[k]? = some x := by rw [hd]; exact hr
   rw [show d'[k] = x by simpa [hkd] using this]
 have hw2 := WRel.setRow hw1 hi hg hor
 have hx2 : Ext γ W γ (setB (Sort.ahead W n) g.blk (.cells (putCells enc g.off d' cc) e fr)) := (Ext.ahead γ W n).trans (Ext.setB _ hg)
 have hbl := below_grow (setB (Sort.ahead W n) g.blk (.cells (putCells enc g.off d' cc) e fr)) os
 obtain ⟨hw3, hx3⟩ := WRel.below hw2 hbl
 refine ⟨.tuple #[], γ, rfl, .tuple .nil, ?_, ?_⟩
 ·unfold sortWorld
  rw [e1]
  exact hw3
 ·unfold sortWorld
  rw [e1]
  exact hx2.trans hx3

theorem sort_gen {P : Program} {ρ : Shelf.Ren} (L : SlLaysF.n6 P ρ) {α : Type} [Inhabited α] (enc : α → Value) (h1 : OneCell enc) (hgnd : ∀ x, gnd (enc x) = true) (g0 : Nat) (cf : α → α → Int) (hO : SWO (ltOf cf))
  (eg : ∀ args w, (callFunc g0 args).run P w = .ok (.enter g0 args) w)
  (hcmp : ∀ x y, GrT P (fun _ _ => none) g0 [enc x, enc y] (.int .i64 (cf x y)))
  {C : Cfg} (hP : C.P = P) {A0 : AW} {i cap : Nat} {e : TypeId} {fam z : Nat} {zs R : List α} (hi : A0.heap.get i = some (.cells (zs.map enc) e fam z)) (hsz : zs.length < 4611686018427387904) (hcap : cap ≠ unkE)
  (hR : ∀ d : List α, d.Perm zs → d.Pairwise (fun x y => ltOf cf y x = false) → d = R) :
  ∀ F, Wide F → ∀ k γ W args', WRel γ A0 W → Ro C.ro γ W → VsRel γ [.slice (some ⟨i, 0, none⟩) zs.length cap, .func (.func g0) #[] #[]] (Array.toList args') →
   CallsIn F k C.P (ρ.f 6) args' W (Go.Ev.Ends γ W (.tuple ⟨[]⟩) (A0.only fam i (.cells (R.map enc) e fam z))) :=
 sort_genC L enc h1 hgnd g0 [] cf hO eg hP hi hsz hcap (fun γ W capt' g _ _ hc _ => by
  cases hc
  exact fun _ _ _ _ x y =>
  (GrT.callsD (hcmp x y) (args' := #[enc x, enc y] ++ #[]) Ro.nought (by simpa using VsRel.of_gnds noG [enc x, enc y] (by simp [gnds, hgnd]))).mono fun _ _ ⟨he, hb⟩ => ⟨he, hb.grow⟩) hR

end Go.Proofs

/- The sort of this program, laid: the numbers of the functions and types. -/
set_option linter.unusedVariables false
set_option linter.unusedSimpArgs false
namespace Go.Proofs
open Go Go.Shelf

noncomputable def nameI (n : Nat) : String := match Tryd.prog.funcs[n]? with
 | some f => f.name
 | none => ""
def Tryd.sortI_ren : Shelf.Ren where
 f := fun x => match x with
  | 6 => 29
  | 15 => 51
  | 14 => 50
  | 28 => 74
  | 29 => 75
  | 20 => 66
  | 21 => 67
  | 22 => 68
  | 23 => 69
  | 24 => 70
  | 25 => 71
  | 26 => 72
  | 27 => 73
  | 46 => 78
  | 47 => 79
  | 48 => 80
  | 49 => 81
  | 50 => 82
  | 57 => 91
  | n => n
 t := fun x => match x with
  | 22 => 24
  | 24 => 3
  | 25 => 74
  | 3 => 3
  | 39 => 94
  | 0 => 0
  | 53 => 112
  | 55 => 114
  | 4 => 4
  | 46 => 105
  | 45 => 104
  | 50 => 109
  | 5 => 5
  | 9 => 9
  | 66 => 118
  | 70 => 122
  | 76 => 129
  | 77 => 130
  | n => n
 g := fun x => x

theorem Tryd.sortI : SlLaysF.n6 Tryd.prog Tryd.sortI_ren where
 mixed := by kernel_rfl
 f6 := ⟨nameI 29, of_decide_eq_true (by kernel_rfl), Tryd.func29.trans (by kernel_rfl)⟩
 f14 := ⟨nameI 50, of_decide_eq_true (by kernel_rfl), Tryd.func50.trans (by kernel_rfl)⟩
 f15 := Tryd.func51.trans (by kernel_rfl)
 f20 := ⟨nameI 66, of_decide_eq_true (by kernel_rfl), Tryd.func66.trans (by kernel_rfl)⟩
 f21 := ⟨nameI 67, of_decide_eq_true (by kernel_rfl), Tryd.func67.trans (by kernel_rfl)⟩
 f22 := ⟨nameI 68, of_decide_eq_true (by kernel_rfl), Tryd.func68.trans (by kernel_rfl)⟩
 f23 := ⟨nameI 69, of_decide_eq_true (by kernel_rfl), Tryd.func69.trans (by kernel_rfl)⟩
 f24 := ⟨nameI 70, of_decide_eq_true (by kernel_rfl), Tryd.func70.trans (by kernel_rfl)⟩
 f25 := ⟨nameI 71, of_decide_eq_true (by kernel_rfl), Tryd.func71.trans (by kernel_rfl)⟩
 f26 := ⟨nameI 72, of_decide_eq_true (by kernel_rfl), Tryd.func72.trans (by kernel_rfl)⟩
 f27 := ⟨nameI 73, of_decide_eq_true (by kernel_rfl), Tryd.func73.trans (by kernel_rfl)⟩
 f28 := Tryd.func74.trans (by kernel_rfl)
 f29 := Tryd.func75.trans (by kernel_rfl)
 f46 := ⟨nameI 78, of_decide_eq_true (by kernel_rfl), Tryd.func78.trans (by kernel_rfl)⟩
 f47 := Tryd.func79.trans (by kernel_rfl)
 f48 := Tryd.func80.trans (by kernel_rfl)
 f49 := ⟨nameI 81, of_decide_eq_true (by kernel_rfl), Tryd.func81.trans (by kernel_rfl)⟩
 f50 := ⟨nameI 82, of_decide_eq_true (by kernel_rfl), Tryd.func82.trans (by kernel_rfl)⟩
 f57 := ⟨nameI 91, of_decide_eq_true (by kernel_rfl), Tryd.func91.trans (by kernel_rfl)⟩
 t0 := Tryd.underlying0
 a0 := Tryd.isAgg0
 z0 := Tryd.sizeOf0
 v0 := Tryd.zeroValue0
 t3 := Tryd.underlying3
 a3 := Tryd.isAgg3
 z3 := Tryd.sizeOf3
 v3 := Tryd.zeroValue3
 t4 := Tryd.underlying4
 a4 := Tryd.isAgg4
 z4 := Tryd.sizeOf4
 v4 := Tryd.zeroValue4
 t5 := Tryd.underlying5
 a5 := Tryd.isAgg5
 z5 := Tryd.sizeOf5
 v5 := Tryd.zeroValue5
 t9 := Tryd.underlying9
 a9 := Tryd.isAgg9
 z9 := Tryd.sizeOf9
 v9 := Tryd.zeroValue9
 t22 := Tryd.underlying24
 a22 := Tryd.isAgg24
 z22 := Tryd.sizeOf24
 v22 := Tryd.zeroValue24
 a24 := Tryd.isAgg3
 z24 := Tryd.sizeOf3
 t25 := Tryd.underlying74
 a25 := Tryd.isAgg74
 z25 := Tryd.sizeOf74
 v25 := Tryd.zeroValue74
 t39 := Tryd.underlying94
 a39 := Tryd.isAgg94
 z39 := Tryd.sizeOf94
 v39 := Tryd.zeroValue94
 t45 := Tryd.underlying104
 a45 := Tryd.isAgg104
 z45 := Tryd.sizeOf104
 v45 := Tryd.zeroValue104
 t46 := Tryd.underlying105
 a46 := Tryd.isAgg105
 z46 := Tryd.sizeOf105
 v46 := Tryd.zeroValue105
 t50 := Tryd.underlying109
 a50 := Tryd.isAgg109
 z50 := Tryd.sizeOf109
 v50 := Tryd.zeroValue109
 t53 := Tryd.underlying112
 a53 := Tryd.isAgg112
 z53 := Tryd.sizeOf112
 v53 := Tryd.zeroValue112
 t55 := Tryd.underlying114
 a55 := Tryd.isAgg114
 z55 := Tryd.sizeOf114
 v55 := Tryd.zeroValue114
 t66 := Tryd.underlying118
 a66 := Tryd.isAgg118
 z66 := Tryd.sizeOf118
 v66 := Tryd.zeroValue118
 t70 := Tryd.underlying122
 a70 := Tryd.isAgg122
 z70 := Tryd.sizeOf122
 v70 := Tryd.zeroValue122
 t76 := Tryd.underlying129
 a76 := Tryd.isAgg129
 z76 := Tryd.sizeOf129
 v76 := Tryd.zeroValue129
 t77 := Tryd.underlying130
 a77 := Tryd.isAgg130
 z77 := Tryd.sizeOf130
 v77 := Tryd.zeroValue130

end Go.Proofs

/- Intervals by their left: the order, what the sort leaves. -/
namespace Go.Proofs
open Go Go.Ev Go.Num Go.Shelf Go.RowKit Go.Lib Go.Sort
set_option linter.unusedVariables false
set_option linter.unusedSimpArgs false
set_option maxRecDepth 100000

theorem cmpI_calls (r : Mem) (x y : Int) : GrT Tryd.prog r 32 [I x, I y] (I (m_cmpI x y)) := by
 refine GrT.of (SC_ok r) TOk.nil .nil rfl ⟨1, 3, ?_⟩
 refine (ccA r x y).trans ?_
 simp only [neF (show x = x from rfl), neF (show y = y from rfl), cond_false, m_cmpI]
 by_cases c : x < y
 ·rw [dT c, if_pos c]; rfl
 ·by_cases d : x > y
  ·rw [dF c, dT d, if_neg c, if_pos d]; rfl
  ·rw [dF c, dF d, if_neg c, if_neg d]; rfl
theorem tCmp_ok (r : Mem) : TOk (SC r) tCmp := TOk.nil.cons (eI2_ok fun x y _ => cmpI_calls r x y)

theorem l1_ok {r : Mem} {b off n cap bb kk : Nat} {z : Nat → Int} (h0 : r bb kk = some (RS2 b off n cap)) (hz : rowAt r b off (2 * n) z) {i j : Nat} (hi : i < n) (hj : j < n) : GrT Tryd.prog r 30 [I (i : Nat), I (j : Nat), .pointer (some ⟨bb, kk, some 0⟩)] (I (m_cb (ea z) i j)) := by
 refine GrT.of (SC_ok r) (tCmp_ok r) .nil rfl ⟨3, 3, ?_⟩
 have hn := l1A r i j bb kk
 have e1 : r b (Nat.add (Nat.add off (Nat.mul i 2)) 0) = some (I (ea z i)) := row_a hz hi
 have e2 : r b (Nat.add (Nat.add off (Nat.mul j 2)) 0) = some (I (ea z j)) := row_a hz hj
 have c3 : Nat.blt i n = true := Nat.ble_eq_true_of_le (by omega)
 have c4 : Nat.blt j n = true := Nat.ble_eq_true_of_le (by omega)
 have q1 : isNilS (RS2 b off n cap) = false := rfl
 have q2 : isRoS (RS2 b off n cap) = true := rfl
 have q3 : blkOf (RS2 b off n cap) = b := rfl
 have q4 : offOf (RS2 b off n cap) = off := rfl
 have q5 : lnOf (RS2 b off n cap) = n := rfl
 have q6 : cpOf (RS2 b off n cap) = cap := rfl
 have eqv : ∀ a : Int, m_eqv (I a) (I a) = true := fun a => by simp [m_eqv, veq]
 have eqs : m_eqv (RS2 b off n cap) (RS2 b off n cap) = true := by simp [m_eqv, veq]
 simp only [h0, q1, q2, q3, q4, q5, q6, cond_false, cond_true, Int.ofNat_eq_natCast, Int.toNat_natCast, c3, c4, e1, e2, isI_I, ofI_I, eqv, eqs] at hn
 refine hn.trans ?_
 unfold m_cb
 by_cases d : m_cmpI (ea z i) (ea z j) = 0
 ·rw [neF (show m_cmpI (ea z i) (ea z j) = ((0 : Nat) : Int) from d), if_pos d, cond_false]
  by_cases d2 : m_cmpI (i : Nat) (j : Nat) = 0
  ·rw [neF (show m_cmpI (i : Nat) (j : Nat) = ((0 : Nat) : Int) from d2), d2]; rfl
  ·rw [neT (show m_cmpI (i : Nat) (j : Nat) ≠ ((0 : Nat) : Int) from d2)]; rfl
 ·rw [neT (show m_cmpI (ea z i) (ea z j) ≠ ((0 : Nat) : Int) from d), if_neg d, cond_true]
  rfl

end Go.Proofs

/- Intervals by their left, run: byLeft. -/
namespace Go.Proofs
open Go Go.Ev Go.Num
set_option linter.unusedVariables false
set_option linter.unusedSimpArgs false
set_option maxRecDepth 100000

abbrev fBL (k : Nat) : Value := .func (.func 30) ⟨[]⟩ ⟨[.pointer (some ⟨k, 0, none⟩)]⟩
def oIn (c : List Value) (i : Nat) : Option AObj := some (.cells c 3 i 1)
def oBx (sl : Value) (i : Nat) : Option AObj := some (.cells [sl] 32 i 0)
noncomputable def cBL : Code := bodyOf S0 16
noncomputable def BL_0 : Code := (lc cBL)
noncomputable def BL_1 : Code := (lc (rc cBL))
noncomputable def BL_2 : Code := (lc (lc (rc (rc cBL))))
noncomputable def BL_3 : Code := (ic (ic (rc (lc (rc (rc cBL))))))
noncomputable def BL_4 : Code := (rc (rc (rc cBL)))
theorem BL_eq : cBL = (.seq BL_0 (.seq BL_1 (.seq (.seq BL_2 (.block 0 (.loop BL_3))) BL_4))) := by kernel_rfl
def lvBL : List Nat := [3, 1, 9, 10]
def vBL (n : Nat) (i : Nat) : OV := [some (ow 0 n), some (.pointer (some ⟨1, 0, none⟩)), some (I (n : Nat)), some (I (i : Nat))]
abbrev P1 : Value := .pointer (some ⟨1, 0, none⟩)
noncomputable def tSI (n : Nat) (A0 A1 : AW) : Tbl := tcons 29 (entAt [ow 0 n, fBL 1] A0 (.tuple ⟨[]⟩) A1) fun _ => none

theorem blA (r : Mem) (b off n cap : Nat) (fs : FnsC) (K : OV → List Nat → OO → CR) (kx : Nat → KS) (kr : KS) : run (SC r) 1567 22 1 (.seq BL_0 (.seq BL_1 BL_2)) fs none (rbK 0 lvBL [.g, .g] K) kx kr (sc0 1567 [RS2 b off n cap]) (tr0 1567 [RS2 b off n cap]) [] emptyA =
    bif Nat.ble (Int.toNat (Int.ofNat n)) (Int.toNat (Int.ofNat n)) then bif Nat.ble (Int.toNat (Int.ofNat n)) 1000000 then bif m_nns (zerosL (Nat.mul (Int.toNat (Int.ofNat n)) 1) [I (Int.ofNat 0)]) && (m_nns [.slice (some ⟨b, off, some 0⟩) n cap] && true) then K [some (.slice (some ⟨0, 0, none⟩) (Int.toNat (Int.ofNat n)) (Int.toNat (Int.ofNat n))), some (.pointer (some ⟨1, 0, none⟩)), some (I (Int.ofNat (Int.toNat (Int.ofNat n)))), some (I (Int.ofNat 0))] [] [some (.cells (zerosL (Nat.mul (Int.toNat (Int.ofNat n)) 1) [I (Int.ofNat 0)]) 3 0 1), some (.cells [.slice (some ⟨b, off, some 0⟩) n cap] 32 1 0)] else .fail 420 else .fail 420 else .fail 420 := by kernel_rfl

theorem blB (r : Mem) (n : Nat) (i : Nat) (c : List Value) (sl : Value) (fs : FnsC) (K : OV → List Nat → OO → CR) (KX : Nat → OV → List Nat → OO → CR) (kr : KS) : run (SC r) 1567 22 1 BL_3 fs none (rbK 0 lvBL [.g, .g] K) (fun j => rbK 0 [3, 1] [.g, .g] (KX j)) kr [] (bT lvBL (vBL n i) .nil) [] (mkA [oIn c 0, oBx sl 1]) =
    bif decide (Int.ofNat i < Int.ofNat n) then bif Nat.blt (Int.toNat (Int.ofNat i)) n then bif Nat.blt (Nat.add 0 (Nat.mul (Int.toNat (Int.ofNat i)) 1)) (List.length c) then bif m_nns (List.set c (Nat.add 0 (Nat.mul (Int.toNat (Int.ofNat i)) 1)) (I (Int.ofNat i))) && (m_nns [sl] && true) then K [some (.slice (some ⟨0, 0, none⟩) n n), some (.pointer (some ⟨1, 0, none⟩)), some (I (Int.ofNat n)), some (I (IntKind.wrap .i64 (Int.ofNat i + Int.ofNat 1)))] [] [some (.cells (List.set c (Nat.add 0 (Nat.mul (Int.toNat (Int.ofNat i)) 1)) (I (Int.ofNat i))) 3 0 1), some (.cells [sl] 32 1 0)] else .fail 420 else .fail 420 else .fail 420 else bif m_nns c && (m_nns [sl] && true) then KX 0 [some (.slice (some ⟨0, 0, none⟩) n n), some (.pointer (some ⟨1, 0, none⟩))] [] [some (.cells c 3 0 1), some (.cells [sl] 32 1 0)] else .fail 420 := by kernel_rfl

theorem blC (r : Mem) (n : Nat) (c c' : List Value) (sl : Value) (K KR : OV → List Nat → OO → CR) (kx : Nat → KS) : run (SC r) 1567 22 1 BL_4 (lvlT (SC r) (tSI n (mkA [oIn c 0, oBx sl 1]) (mkA [oIn c' 0, oBx sl 1])) .nil 1 1) none (rbK 0 [2] [] K) kx (rbK 0 [2] [] KR) [] (bT [3, 1] [some (ow 0 n), some P1] .nil) [] (mkA [oIn c 0, oBx sl 1]) =
    bif m_at [.slice (some ⟨0, 0, none⟩) n n, .func (Fn.func 30) ⟨[]⟩ ⟨[.pointer (some ⟨1, 0, none⟩)]⟩] [.slice (some ⟨0, 0, none⟩) n n, .func (Fn.func 30) ⟨[]⟩ ⟨[.pointer (some ⟨1, 0, none⟩)]⟩] (AW.mk 2 (.node (.node .nil (some (.cells [sl] 32 1 0)) .nil) (some (.cells c 3 0 1)) .nil) .nil) (AW.mk 2 (.node (.node .nil (some (.cells [sl] 32 1 0)) .nil) (some (.cells c 3 0 1)) .nil) .nil) then bif m_nns c' && true then KR [some (.slice (some ⟨0, 0, none⟩) n n)] [] [some (.cells c' 3 0 1)] else .fail 420 else .fail 420 := by kernel_rfl

end Go.Proofs

/- Intervals by their left: what the calls answer. -/
namespace Go.Proofs
open Go Go.Ev Go.Num Go.Shelf Go.RowKit Go.Lib Go.Sort
set_option linter.unusedVariables false
set_option linter.unusedSimpArgs false
set_option maxRecDepth 100000

section
variable {r : Mem} {b off n cap : Nat} {z : Nat → Int}

theorem cb_lays [Inhabited (Fin n)] (h1n : 1 ≤ n) (hz : rowAt r b off (2 * n) z) {c : List Value} {γ : Gam} {W : World} {capt' : List Value} {g : GI} (hw : WRel γ (mkA [oIn c 0, oBx (RS2 b off n cap) 1]) W) (hR : Ro r γ W) (hv : VsRel γ [P1] capt') (hg : γ 0 = some g) :
  CmpLays1 Tryd.prog 30 ⟨capt'⟩ (fun x : Fin n => I (x.val : Nat)) (fun x y => m_cb (ea z) x y) g.blk g.off n W := by
 have h0 : (mkA [oIn c 0, oBx (RS2 b off n cap) 1]).heap.get 0 = some (.cells c 3 0 1) := by kernel_rfl
 have h1 : (mkA [oIn c 0, oBx (RS2 b off n cap) 1]).heap.get 1 = some (.cells [RS2 b off n cap] 32 1 0) := by kernel_rfl
 obtain ⟨g1, hg1, ho1⟩ := hw.obj _ _ h1
 have hne : g1.blk ≠ g.blk := fun hbb => by
  rcases hw.sep 1 0 _ _ g1 g h1 h0 hg1 hg hbb with h | ⟨_, _, _, _, _, _, _, q1, q2⟩
  ·cases h
  ·cases q1
   exact nomatch q2.1
 cases hv with
 | cons hv hrest =>
 cases hrest
 cases hv with
 | ptr k hgk =>
 rw [hg1] at hgk
 cases hgk
 cases ho1 with
 | cells hb1 hf1 hn1 hz1 hc1 =>
 rename_i cc1 fr1
 obtain ⟨u, hu1, hu2⟩ := hc1 0 _ rfl
 cases hu2 with
 | sliceE => omega
 | sliceRo _ _ _ _ _ c' _ _ =>
 let r1 : Mem := fun b' j => if b' = g.blk then none else memW W b' j
 have hro : ∀ (m : Nat) (os : Array Obj) (dk : Array (Fin n)), Ro r1 noG (sortWorld (fun x : Fin n => I (x.val : Nat)) W g.blk g.off m dk os) := fun m os dk b' j v hv => by
  by_cases e : b' = g.blk
  ·simp [r1, e] at hv
  ·have hv : memW W b' j = some v := by simpa [r1, e] using hv
   obtain ⟨_, cc, e', fr, v', q1, q2⟩ := memW_ro W b' j v hv
   refine ⟨fun _ _ h => (nomatch h), cc, e', fr, v', ?_, q2⟩
   have hlt : b' < W.heap.size := by
    rcases Nat.lt_or_ge b' W.heap.size with h | h
    ·exact h
    ·rw [Array.getElem?_eq_none h] at q1; cases q1
   rw [sortWorld_heap hlt e]
   exact q1
 have hbox : r1 g1.blk (g1.off + 0) = some (RS2 b off n (match Nat.blt c' unk with | true => c' | false => 0)) := by
  show (if g1.blk = g.blk then none else memW W g1.blk (g1.off + 0)) = _
  rw [if_neg hne]
  unfold memW
  rw [hb1]
  simp only [hu1, Option.bind_some]
  rfl
 have hrow : rowAt r1 b off (2 * n) z := fun j hj => by
  obtain ⟨hno, cc, e', fr, v', q1, q2, q3⟩ := hR b (off + j) _ (hz j hj)
  show (if b = g.blk then none else memW W b (off + j)) = _
  rw [if_neg fun e => hno 0 g hg e.symm]
  have := (q3 γ).eq_of_gnd rfl
  subst this
  unfold memW
  rw [q1]
  simp only [q2, Option.bind_some]
  exact mark_gnd rfl
 intro m os dk hdk x y
 have hvs : VsRel noG [I (x.val : Nat), I (y.val : Nat), .pointer (some ⟨g1.blk, g1.off + 0, some 0⟩)] (#[I (x.val : Nat), I (y.val : Nat)] ++ (⟨[.pointer (some ⟨g1.blk, g1.off + 0, none⟩)]⟩ : Array Value)).toList := by
  rw [Array.toList_append]
  exact .cons (.int _ _) (.cons (.int _ _) (.cons (.ptrRo _ _ _) .nil))
 have hc := GrT.callsD (l1_ok hbox hrow x.isLt y.isLt) (hro m os dk) hvs
 exact hc.mono fun _ _ ⟨he, hb⟩ => ⟨he, hb.grow⟩

def pkC0 (n : Nat) : List Value := ixN (fun j => (j : Nat)) n
def pkCR (z : Nat → Int) (n : Nat) : List Value := (srtV (ea z) n).map fun (j : Nat) => I (j : Nat)
theorem pkCR_eq (z : Nat → Int) (n : Nat) : (srtF (ea z) n).map (fun x : Fin n => I (x.val : Nat)) = pkCR z n := by
 unfold pkCR srtV
 rw [List.map_map]
 rfl
theorem pkC0_eq (n : Nat) : (List.finRange n).map (fun x : Fin n => I (x.val : Nat)) = pkC0 n := by
 unfold pkC0 ixN
 rw [← finR_val, List.map_map]
 rfl
theorem pkCR_nn (z : Nat → Int) (n : Nat) : m_nns (pkCR z n) = true := by
 unfold pkCR
 generalize srtV (ea z) n = l
 induction l with
 | nil => rfl
 | cons x l ih => exact ih
theorem pkCR_gnd (z : Nat → Int) (n : Nat) : gnds (pkCR z n) = true := by
 unfold pkCR
 generalize srtV (ea z) n = l
 induction l with
 | nil => rfl
 | cons x l ih => exact ih

theorem sortI_e (hz : rowAt r b off (2 * n) z) (h1 : 1 ≤ n) (hn : n ≤ 1000000) : TOk (SC r) (tSI n (mkA [oIn (pkC0 n) 0, oBx (RS2 b off n cap) 1]) (mkA [oIn (pkCR z n) 0, oBx (RS2 b off n cap) 1])) := by
 haveI : Inhabited (Fin n) := ⟨⟨0, h1⟩⟩
 refine TOk.nil.cons (entAt_ok fun F hF k γ W args' hw hR ha => ?_)
 have hlen : (List.finRange n).length = n := List.length_finRange
 have hi : (mkA [oIn (pkC0 n) 0, oBx (RS2 b off n cap) 1]).heap.get 0 = some (.cells ((List.finRange n).map (fun x : Fin n => I (x.val : Nat))) 3 0 1) := by rw [pkC0_eq]; kernel_rfl
 have h := sort_genC Tryd.sortI (fun x : Fin n => I (x.val : Nat)) (fun _ => rfl) (fun _ => rfl) 30 [P1] (fun x y => m_cb (ea z) x y) ⟨fun x => by
   simp only [ltOf, decide_eq_false_iff_not, cb_lt]; omega, fun x y w => by
   simp only [ltOf, decide_eq_true_eq, cb_lt]; omega, fun x y w => by
   simp only [ltOf, decide_eq_false_iff_not, cb_lt]; omega⟩ (fun args w => callFunc_ok (SC_ok r) (by kernel_rfl) args w) (C := SC r) rfl (cap := n) hi (by rw [hlen]; omega) (by unfold unkE; omega)
  (fun γ W capt' g hw hR hc hg => by rw [hlen]; exact cb_lays h1 hz hw hR hc hg) (fun d hp hs => srtF_one (ea z) hp hs)
 rw [hlen] at h
 have h2 := h F hF k γ W args' hw hR ha
 have hA1 : (mkA [oIn (pkC0 n) 0, oBx (RS2 b off n cap) 1]).only 0 0 (.cells ((srtF (ea z) n).map fun x : Fin n => I (x.val : Nat)) 3 0 1) = mkA [oIn (pkCR z n) 0, oBx (RS2 b off n cap) 1] := by rw [pkCR_eq]; kernel_rfl
 rw [hA1] at h2
 exact h2

theorem bl_S (hz : rowAt r b off (2 * n) z) (h1 : 1 ≤ n) (hn : n ≤ 1000000) : SOk (SC r) 16 [RS2 b off n cap] emptyA fun v A => v = ow 0 n ∧ A = mkA [oIn (pkCR z n) 0] := by
 refine callL (SC_ok r) (by kernel_rfl) ((bodySC r _).trans BL_eq) (nt := 22) (by kernel_rfl) (rs := [.tmp 2]) (by kernel_rfl) 1567 rfl (.step (.step .base)) TOk.nil (tm := .nil) (L := 1) (d := 1) lvBL [.g, .g]
  (fun j vs ms os => ∃ k, k ≤ n ∧ j = n - k ∧ vs = vBL n k ∧ ms = [] ∧ os = [oIn (ixN (fun j => if j < k then (j : Nat) else 0) n) 0, oBx (RS2 b off n cap) 1])
  ⟨[3, 1], [.g, .g], fun vs ms os => vs = [some (ow 0 n), some P1] ∧ ms = [] ∧ os = [oIn (pkC0 n) 0, oBx (RS2 b off n cap) 1]⟩
  ⟨[2], [], fun vs ms os => vs = [some (ow 0 n)] ∧ ms = [] ∧ os = [oIn (pkCR z n) 0]⟩ ?_ ?_ ?_ ?_
 ·have hn' := blA r b off n cap
  have c3 : Nat.ble n 1000000 = true := Nat.ble_eq_true_of_le hn
  have c4 : Nat.ble n n = true := Nat.ble_eq_true_of_le (Nat.le_refl _)
  simp only [Int.ofNat_eq_natCast, Int.toNat_natCast, c3, c4, cond_true] at hn'
  have e0 := ix_zero1 n
  simp only [Int.ofNat_eq_natCast] at e0
  simp only [e0, ix_nn, Bool.and_true, cond_true] at hn'
  exact (hn' _ _ _ _).trans (qq_ok ⟨n, 0, Nat.zero_le _, rfl, rfl, rfl, by
   unfold oIn
   rw [ix_ext (f := fun _ => 0) (g := fun j => if j < 0 then ((j : Nat) : Int) else 0) fun j hj => by simp]
   rfl⟩)
 ·rintro j vs ms os ⟨k, hk, rfl, rfl, rfl, rfl⟩
  refine ⟨_, TOk.nil, .nil, 1, 1, 1, ?_⟩
  have hn' := blB r n k (ixN (fun j => if j < k then (j : Nat) else 0) n) (RS2 b off n cap)
  have e9 : m_nns [RS2 b off n cap] = true := rfl
  simp only [Int.ofNat_eq_natCast, Int.toNat_natCast, Nat.add_eq, Nat.mul_eq, Nat.mul_one, Nat.zero_add, ix_len, ix_set, ix_nn, e9, Bool.and_true, cond_true] at hn'
  by_cases c : k < n
  ·have c1 : (k : Int) < (n : Int) := by omega
   have c3 : Nat.blt k n = true := Nat.ble_eq_true_of_le (by omega)
   have e3 := inc1' (k := k) (by omega)
   simp only [Int.ofNat_eq_natCast] at e3
   simp only [dT c1, c3, cond_true, e3] at hn'
   exact (hn' _ _ _ _).trans (qq_ok ⟨n - (k + 1), by omega, k + 1, c, rfl, rfl, rfl, by
    unfold oIn
    rw [ix_ext (g := fun j => if j < k + 1 then ((j : Nat) : Int) else 0) fun j hj => ?_]
    ·rfl
    ·by_cases d : j = k
     ·simp [d]
     ·by_cases d2 : j < k
      ·rw [if_neg d, if_pos d2, if_pos (by omega)]
      ·rw [if_neg d, if_neg d2, if_neg (by omega)]⟩)
  ·have hkl : k = n := by omega
   subst hkl
   have c1 : ¬ (k : Int) < (k : Int) := by omega
   simp only [dF c1, cond_false] at hn'
   exact (hn' _ _ _ _).trans (qq_ok ⟨rfl, rfl, by
    unfold oIn pkC0
    rw [ix_ext (g := fun j => ((j : Nat) : Int)) fun j hj => if_pos hj]
    rfl⟩)
 ·rintro vs ms os ⟨rfl, rfl, rfl⟩
  have hn' := blC r n (pkC0 n) (pkCR z n) (RS2 b off n cap)
  simp only [at_rfl, pkCR_nn, Bool.and_true, cond_true] at hn'
  exact ⟨_, sortI_e hz h1 hn, .nil, 1, 1, 1, (hn' _ _ _).trans (qq_ok ⟨rfl, rfl, rfl⟩)⟩
 ·rintro vs ms os ⟨rfl, rfl, rfl⟩
  exact ⟨_, mkA [oIn (pkCR z n) 0], by kernel_rfl, rfl, rfl⟩
end

end Go.Proofs

