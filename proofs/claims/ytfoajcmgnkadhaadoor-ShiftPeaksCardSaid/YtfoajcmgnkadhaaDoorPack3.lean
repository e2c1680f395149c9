/- What the claim is proved with, part 3: the evaluator and the contracts of the calls. -/
import Derived.Test.YtfoajcmgnkadhaaDoorPack2
import Derived.Test.YtfoajcmgnkadhaaDoorPack1
/- Boats for intervals, run. -/
namespace Go.Proofs
open Go Go.Ev Go.Num
set_option linter.unusedVariables false
set_option linter.unusedSimpArgs false
set_option maxRecDepth 100000

noncomputable def cBT : Code := bodyOf S0 8
noncomputable def BT_0 : Code := (lc cBT)
noncomputable def BT_1 : Code := (lc (rc cBT))
noncomputable def BT_2 : Code := (lc (rc (rc cBT)))
noncomputable def BT_3 : Code := (lc (lc (rc (rc (rc cBT)))))
noncomputable def BT_4 : Code := (ic (ic (rc (lc (rc (rc (rc cBT)))))))
noncomputable def BT_5 : Code := (rc (rc (rc (rc cBT))))
theorem BT_eq : cBT = (.seq BT_0 (.seq BT_1 (.seq BT_2 (.seq (.seq BT_3 (.block 0 (.loop BT_4))) BT_5)))) := by kernel_rfl
noncomputable def cIX : Code := bodyOf S0 17
noncomputable def IX_0 : Code := (lc cIX)
noncomputable def IX_1 : Code := (lc (lc (rc cIX)))
noncomputable def IX_2 : Code := (ic (ic (rc (lc (rc cIX)))))
noncomputable def IX_3 : Code := (rc (rc cIX))
theorem IX_eq : cIX = (.seq IX_0 (.seq (.seq IX_1 (.block 0 (.loop IX_2))) IX_3)) := by kernel_rfl
abbrev fB1 (i k : Nat) : Value := .func (.func 18) ⟨[]⟩ ⟨[.pointer (some ⟨i, 0, none⟩), .pointer (some ⟨k, 0, none⟩)]⟩
abbrev gw (i n : Nat) : Value := .slice (some ⟨i, 0, none⟩) n unk
def oIb (x : Int) (i : Nat) : Option AObj := some (.cells [I x] 3 i 0)
noncomputable def eRw (sl : Value) (n : Nat) (c : List Value) : Ent := ⟨fun args _ => m_sv args [sl], fun _ _ => true, fun _ A => .slice (some ⟨A.next, 0, none⟩) n n, fun _ A => A.new (.cells c 3 A.next 1), fun _ _ => undef, fun _ A => A⟩
noncomputable def tBL (sl : Value) (n : Nat) (c : List Value) : Tbl := tcons 16 (eRw sl n c) fun _ => none
def lvBT : List Nat := [3, 12, 1, 13, 14, 4]
def vBT (n k : Nat) (e : Value) : OV := [some (ow 0 n), some (ow 1 n), some (.pointer (some ⟨2, 0, none⟩)), some (I (n : Nat)), some (I (k : Nat)), some e]
def lvIX : List Nat := [0, 1, 7, 8]
def vIX (L k : Nat) : OV := [some (gw 3 L), some (fB1 2 4), some (I (L : Nat)), some (I (k : Nat))]
def oB5 (b1 b2 : List Value) (sl : Value) (e : List Value) (i : Int) : OO := [oIn b1 0, oIn b2 1, oBx sl 2, oIn e 3, oIb i 4]
noncomputable def tIX (L : Nat) (A0 : AW) (v : Int) : Tbl := tcons 17 (entAt [gw 3 L, fB1 2 4] A0 (I v) A0) fun _ => none

theorem btA (r : Mem) (b off n cap : Nat) (c : List Value) (K : OV → List Nat → OO → CR) (kx : Nat → KS) (kr : KS) : run (SC r) 28895 42 1 (.seq BT_0 (.seq BT_1 (.seq BT_2 BT_3))) (lvlT (SC r) (tBL (RS2 b off n cap) n c) .nil 1 1) none (rbK 0 lvBT [] K) kx kr (sc0 28895 [RS2 b off n cap]) (tr0 28895 [RS2 b off n cap]) [] emptyA =
    bif Nat.ble (Int.toNat (Int.ofNat n)) (Int.toNat (Int.ofNat n)) then bif Nat.ble (Int.toNat (Int.ofNat n)) 1000000 then bif m_sv [.slice (some ⟨b, off, some 0⟩) n cap] [.slice (some ⟨b, off, some 0⟩) n cap] then bif m_nns (zerosL (Nat.mul (Int.toNat (Int.ofNat n)) 1) [I (Int.ofNat 0)]) && (m_nns c && (m_nns [.slice (some ⟨b, off, some 0⟩) n cap] && true)) then K [some (.slice (some ⟨0, 0, none⟩) (Int.toNat (Int.ofNat n)) (Int.toNat (Int.ofNat n))), some (.slice (some ⟨1, 0, none⟩) n n), some (.pointer (some ⟨2, 0, none⟩)), some (I (Int.ofNat n)), some (I (Int.ofNat 0)), some (.slice none 0 0)] [] [some (.cells (zerosL (Nat.mul (Int.toNat (Int.ofNat n)) 1) [I (Int.ofNat 0)]) 3 0 1), some (.cells c 3 1 1), some (.cells [.slice (some ⟨b, off, some 0⟩) n cap] 32 2 0)] else .fail 420 else .fail 420 else .fail 420 else .fail 420 := by kernel_rfl

theorem btN (r : Mem) (b off n cap k : Nat) (c1 c2 : List Value) (K : OV → List Nat → OO → CR) (KX : Nat → OV → List Nat → OO → CR) (kr : KS) : run (SC r) 28895 42 1 BT_4 (lvlT (SC r) (fun _ => none) .nil 1 3) none (rbK 0 lvBT [] K) (fun j => rbK 0 [3] [] (KX j)) kr [] (bT lvBT (vBT n k (.slice none 0 0)) .nil) [] (mkA [oIn c1 0, oIn c2 1, oBx (RS2 b off n cap) 2]) =
    bif decide (Int.ofNat k < Int.ofNat n) then bif Nat.blt (Int.toNat (Int.ofNat k)) n then Option.casesOn c2[Nat.add 0 (Nat.mul (Int.toNat (Int.ofNat k)) 1)]? (.fail 423) fun val => bif isI IntKind.i64 val then bif decide (0 ≤ ofI val) then bif Nat.blt (Int.toNat (ofI val)) n then Option.casesOn (r b (Nat.add (Nat.add off (Nat.mul (Int.toNat (ofI val)) 2)) 1)) (.fail 423) fun val_1 => bif isI IntKind.i64 val_1 then bif decide (0 ≤ ofI val) then bif Nat.blt (Int.toNat (ofI val)) n then bif Nat.blt (Nat.add 0 (Nat.mul (Int.toNat (ofI val)) 1)) (List.length c1) then bif m_nns (List.set c1 (Nat.add 0 (Nat.mul (Int.toNat (ofI val)) 1)) (I (Int.ofNat 0))) && (m_nns c2 && (m_nns [.slice (some ⟨b, off, some 0⟩) n cap] && (m_nns [I (ofI val_1)] && true))) then K [some (.slice (some ⟨0, 0, none⟩) n n), some (.slice (some ⟨1, 0, none⟩) n n), some (.pointer (some ⟨2, 0, none⟩)), some (I (Int.ofNat n)), some (I (IntKind.wrap .i64 (Int.ofNat k + Int.ofNat 1))), some (.slice (some ⟨3, 0, none⟩) 1 unk)] [] [some (.cells (List.set c1 (Nat.add 0 (Nat.mul (Int.toNat (ofI val)) 1)) (I (Int.ofNat 0))) 3 0 1), some (.cells c2 3 1 1), some (.cells [.slice (some ⟨b, off, some 0⟩) n cap] 32 2 0), some (.cells [I (ofI val_1)] 3 3 1)] else .fail 420 else .fail 420 else .fail 420 else .fail 420 else .fail 420 else .fail 420 else .fail 420 else .fail 420 else .fail 420 else bif m_nns c1 && true then KX 0 [some (.slice (some ⟨0, 0, none⟩) n n)] [] [some (.cells c1 3 0 1)] else .fail 420 := by kernel_rfl

theorem btR (r : Mem) (b off n cap k L : Nat) (c1 c2 e : List Value) (i v : Int) (K : OV → List Nat → OO → CR) (KX : Nat → OV → List Nat → OO → CR) (kr : KS) : run (SC r) 28895 42 1 BT_4 (lvlT (SC r) (tIX L (mkA (oB5 c1 c2 (RS2 b off n cap) e i)) v) .nil 1 3) none (rbK 0 lvBT [] K) (fun j => rbK 0 [3] [] (KX j)) kr [] (bT lvBT (vBT n k (gw 3 L)) .nil) [] (mkA [oIn c1 0, oIn c2 1, oBx (RS2 b off n cap) 2, oIn e 3]) =
    bif decide (Int.ofNat k < Int.ofNat n) then bif Nat.blt (Int.toNat (Int.ofNat k)) n then Option.casesOn c2[Nat.add 0 (Nat.mul (Int.toNat (Int.ofNat k)) 1)]? (.fail 423) fun val => bif isI IntKind.i64 val then bif m_at [.slice (some ⟨3, 0, none⟩) L unk, .func (Fn.func 18) ⟨[]⟩ ⟨[.pointer (some ⟨2, 0, none⟩), .pointer (some ⟨4, 0, none⟩)]⟩] [.slice (some ⟨3, 0, none⟩) L unk, .func (Fn.func 18) ⟨[]⟩ ⟨[.pointer (some ⟨2, 0, none⟩), .pointer (some ⟨4, 0, none⟩)]⟩] (AW.mk 5 (.node (.node (.node .nil (some (.cells e 3 3 1)) .nil) (some (.cells c2 3 1 1)) .nil) (some (.cells c1 3 0 1)) (.node (.node .nil (some (.cells [I (ofI val)] 3 4 0)) .nil) (some (.cells [.slice (some ⟨b, off, some 0⟩) n cap] 32 2 0)) .nil)) .nil) (AW.mk 5 (.node (.node (.node .nil (some (.cells e 3 3 1)) .nil) (some (.cells c2 3 1 1)) .nil) (some (.cells c1 3 0 1)) (.node (.node .nil (some (.cells [I i] 3 4 0)) .nil) (some (.cells [.slice (some ⟨b, off, some 0⟩) n cap] 32 2 0)) .nil)) .nil) then bif decide (v < 0) then bif Nat.ble (Nat.add L 1) 1000000 then Option.casesOn (takeAt e 0 (Nat.mul L 1)) (.fail 439) fun val => bif decide (0 ≤ i) then bif Nat.blt (Int.toNat i) n then Option.casesOn (r b (Nat.add (Nat.add off (Nat.mul (Int.toNat i) 2)) 1)) (.fail 423) fun val_1 => bif isI IntKind.i64 val_1 then bif Nat.blt (Int.toNat (Int.ofNat L)) (Nat.add L 1) then bif Nat.blt (Nat.add 0 (Nat.mul (Int.toNat (Int.ofNat L)) 1)) (List.length (val ++ [I (Int.ofNat 0)])) then bif decide (0 ≤ i) then bif Nat.blt (Int.toNat i) n then bif Nat.blt (Nat.add 0 (Nat.mul (Int.toNat i) 1)) (List.length c1) then bif m_nns (List.set c1 (Nat.add 0 (Nat.mul (Int.toNat i) 1)) (I (Int.ofNat L))) && (m_nns c2 && (m_nns [.slice (some ⟨b, off, some 0⟩) n cap] && (m_nns (List.set (val ++ [I (Int.ofNat 0)]) (Nat.add 0 (Nat.mul (Int.toNat (Int.ofNat L)) 1)) (I (ofI val_1))) && true))) then K [some (.slice (some ⟨0, 0, none⟩) n n), some (.slice (some ⟨1, 0, none⟩) n n), some (.pointer (some ⟨2, 0, none⟩)), some (I (Int.ofNat n)), some (I (IntKind.wrap .i64 (Int.ofNat k + Int.ofNat 1))), some (.slice (some ⟨3, 0, none⟩) (Nat.add L 1) unk)] [] [some (.cells (List.set c1 (Nat.add 0 (Nat.mul (Int.toNat i) 1)) (I (Int.ofNat L))) 3 0 1), some (.cells c2 3 1 1), some (.cells [.slice (some ⟨b, off, some 0⟩) n cap] 32 2 0), some (.cells (List.set (val ++ [I (Int.ofNat 0)]) (Nat.add 0 (Nat.mul (Int.toNat (Int.ofNat L)) 1)) (I (ofI val_1))) 3 3 1)] else .fail 420 else .fail 420 else .fail 420 else .fail 420 else .fail 420 else .fail 420 else .fail 420 else .fail 420 else .fail 420 else .fail 420 else bif decide (0 ≤ i) then bif Nat.blt (Int.toNat i) n then Option.casesOn (r b (Nat.add (Nat.add off (Nat.mul (Int.toNat i) 2)) 1)) (.fail 423) fun val => bif isI IntKind.i64 val then bif decide (0 ≤ v) then bif Nat.blt (Int.toNat v) L then bif Nat.blt (Nat.add 0 (Nat.mul (Int.toNat v) 1)) (List.length e) then bif decide (0 ≤ i) then bif Nat.blt (Int.toNat i) n then bif Nat.blt (Nat.add 0 (Nat.mul (Int.toNat i) 1)) (List.length c1) then bif m_nns (List.set c1 (Nat.add 0 (Nat.mul (Int.toNat i) 1)) (I v)) && (m_nns c2 && (m_nns [.slice (some ⟨b, off, some 0⟩) n cap] && (m_nns (List.set e (Nat.add 0 (Nat.mul (Int.toNat v) 1)) (I (ofI val))) && true))) then K [some (.slice (some ⟨0, 0, none⟩) n n), some (.slice (some ⟨1, 0, none⟩) n n), some (.pointer (some ⟨2, 0, none⟩)), some (I (Int.ofNat n)), some (I (IntKind.wrap .i64 (Int.ofNat k + Int.ofNat 1))), some (.slice (some ⟨3, 0, none⟩) L unk)] [] [some (.cells (List.set c1 (Nat.add 0 (Nat.mul (Int.toNat i) 1)) (I v)) 3 0 1), some (.cells c2 3 1 1), some (.cells [.slice (some ⟨b, off, some 0⟩) n cap] 32 2 0), some (.cells (List.set e (Nat.add 0 (Nat.mul (Int.toNat v) 1)) (I (ofI val))) 3 3 1)] else .fail 420 else .fail 420 else .fail 420 else .fail 420 else .fail 420 else .fail 420 else .fail 420 else .fail 420 else .fail 420 else .fail 420 else .fail 420 else .fail 420 else .fail 420 else bif m_nns c1 && true then KX 0 [some (.slice (some ⟨0, 0, none⟩) n n)] [] [some (.cells c1 3 0 1)] else .fail 420 := by kernel_rfl

theorem btZ (r : Mem) (n : Nat) (c : List Value) (fs : FnsC) (K KR : OV → List Nat → OO → CR) (kx : Nat → KS) : run (SC r) 28895 42 1 BT_5 fs none (rbK 0 [2] [] K) kx (rbK 0 [2] [] KR) [] (bT [3] [some (ow 0 n)] .nil) [] (mkA [oIn c 0]) =
    bif m_nns c && true then KR [some (.slice (some ⟨0, 0, none⟩) n n)] [] [some (.cells c 3 0 1)] else .fail 420 := by kernel_rfl

theorem ixA (r : Mem) (L : Nat) (c1 c2 e : List Value) (sl : Value) (i : Int) (fs : FnsC) (K : OV → List Nat → OO → CR) (kx : Nat → KS) (kr : KS) : run (SC r) 435 19 1 (.seq IX_0 IX_1) fs none (rbK 5 lvIX [] K) kx kr (sc0 435 [gw 3 L, fB1 2 4]) (tr0 435 [gw 3 L, fB1 2 4]) [] (mkA (oB5 c1 c2 sl e i)) =
    bif m_nns c1 && (m_nns c2 && (m_nns [sl] && (m_nns e && (m_nns [I i] && true)))) then K [some (.slice (some ⟨3, 0, none⟩) L unk), some (.func (Fn.func 18) ⟨[]⟩ ⟨[.pointer (some ⟨2, 0, none⟩), .pointer (some ⟨4, 0, none⟩)]⟩), some (I (Int.ofNat L)), some (I (Int.ofNat 0))] [] [some (.cells c1 3 0 1), some (.cells c2 3 1 1), some (.cells [sl] 32 2 0), some (.cells e 3 3 1), some (.cells [I i] 3 4 0)] else .fail 420 := by kernel_rfl

theorem ixB (r : Mem) (b off n cap L k j : Nat) (c1 c2 e : List Value) (K : OV → List Nat → OO → CR) (KX : Nat → OV → List Nat → OO → CR) (KR : OV → List Nat → OO → CR) : run (SC r) 435 19 1 IX_2 (lvlT (SC r) (fun _ => none) .nil 1 3) none (rbK 5 lvIX [] K) (fun j => rbK 5 [] [] (KX j)) (rbK 5 [4] [] KR) [] (bT lvIX (vIX L k) .nil) [] (mkA (oB5 c1 c2 (RS2 b off n cap) e (j : Nat))) =
    bif decide (Int.ofNat k < Int.ofNat L) then bif Nat.blt (Int.toNat (Int.ofNat k)) L then Option.casesOn e[Nat.add 0 (Nat.mul (Int.toNat (Int.ofNat k)) 1)]? (.fail 423) fun val => bif isI IntKind.i64 val then bif Nat.blt (Int.toNat (Int.ofNat j)) n then Option.casesOn (r b (Nat.add (Nat.add off (Nat.mul (Int.toNat (Int.ofNat j)) 2)) 0)) (.fail 423) fun val_1 => bif isI IntKind.i64 val_1 then bif decide (ofI val < ofI val_1) then bif m_nns c1 && (m_nns c2 && (m_nns [.slice (some ⟨b, off, some 0⟩) n cap] && (m_nns e && (m_nns [I (Int.ofNat j)] && true)))) then KR [some (I (Int.ofNat k))] [] [some (.cells c1 3 0 1), some (.cells c2 3 1 1), some (.cells [.slice (some ⟨b, off, some 0⟩) n cap] 32 2 0), some (.cells e 3 3 1), some (.cells [I (Int.ofNat j)] 3 4 0)] else .fail 420 else bif m_nns c1 && (m_nns c2 && (m_nns [.slice (some ⟨b, off, some 0⟩) n cap] && (m_nns e && (m_nns [I (Int.ofNat j)] && true)))) then K [some (.slice (some ⟨3, 0, none⟩) L unk), some (.func (Fn.func 18) ⟨[]⟩ ⟨[.pointer (some ⟨2, 0, none⟩), .pointer (some ⟨4, 0, none⟩)]⟩), some (I (Int.ofNat L)), some (I (IntKind.wrap .i64 (Int.ofNat k + Int.ofNat 1)))] [] [some (.cells c1 3 0 1), some (.cells c2 3 1 1), some (.cells [.slice (some ⟨b, off, some 0⟩) n cap] 32 2 0), some (.cells e 3 3 1), some (.cells [I (Int.ofNat j)] 3 4 0)] else .fail 420 else .fail 420 else .fail 420 else .fail 420 else .fail 420 else bif m_nns c1 && (m_nns c2 && (m_nns [.slice (some ⟨b, off, some 0⟩) n cap] && (m_nns e && (m_nns [I (Int.ofNat j)] && true)))) then KX 0 [] [] [some (.cells c1 3 0 1), some (.cells c2 3 1 1), some (.cells [.slice (some ⟨b, off, some 0⟩) n cap] 32 2 0), some (.cells e 3 3 1), some (.cells [I (Int.ofNat j)] 3 4 0)] else .fail 420 := by kernel_rfl

theorem ixC (r : Mem) (c1 c2 e : List Value) (sl : Value) (i : Int) (fs : FnsC) (K KR : OV → List Nat → OO → CR) (kx : Nat → KS) : run (SC r) 435 19 1 IX_3 fs none (rbK 5 [4] [] K) kx (rbK 5 [4] [] KR) [] (bT [] [] .nil) [] (mkA (oB5 c1 c2 sl e i)) =
    bif m_nns c1 && (m_nns c2 && (m_nns [sl] && (m_nns e && (m_nns [I i] && true)))) then KR [some (I (Int.negSucc 0))] [] [some (.cells c1 3 0 1), some (.cells c2 3 1 1), some (.cells [sl] 32 2 0), some (.cells e 3 3 1), some (.cells [I i] 3 4 0)] else .fail 420 := by kernel_rfl

end Go.Proofs

/- Boats for intervals: what the calls answer. -/
namespace Go.Proofs
open Go Go.Ev Go.Num
set_option linter.unusedVariables false
set_option linter.unusedSimpArgs false
set_option maxRecDepth 100000

def rowI (e : List Int) : List Value := e.map fun x => I x
theorem rowI_len (e : List Int) : (rowI e).length = e.length := by simp [rowI]
theorem rowI_nn (e : List Int) : m_nns (rowI e) = true := by
 induction e with
 | nil => rfl
 | cons x l ih => exact ih
theorem rowI_get {e : List Int} {k : Nat} (h : k < e.length) : (rowI e)[k]? = some (I (e.getD k 0)) := by
 simp [rowI, h, List.getD_eq_getElem?_getD]
theorem rowI_set (e : List Int) (k : Nat) (x : Int) : (rowI e).set k (I x) = rowI (e.set k x) := by simp [rowI, List.map_set]
theorem rowI_app (e : List Int) (x : Int) : rowI e ++ [I x] = rowI (e ++ [x]) := by simp [rowI]
theorem app_set (e : List Int) (x y : Int) : (e ++ [x]).set e.length y = e ++ [y] := by
 rw [List.set_append_right _ _ (Nat.le_refl _)]
 simp
theorem takeL_row (c : List Value) (n : Nat) (h : c.length = n) : takeAt c 0 n = some c := takeAt_all c n 0 c h fun j hj => by rw [Nat.zero_add]

def m_ix (A : Nat → Int) (e : List Int) (i : Nat) : Int := match fq (fun f => decide (e.getD f 0 < A i)) e.length with
 | some f => (f : Nat)
 | none => -1
def bts (s : PkS) (n : Nat) : List Value := ixN (fun j => (s.boat j : Nat)) n
theorem bts_set (A B : Nat → Int) (s : PkS) (n i : Nat) {v : Int} (hv : v = (pkF A s.ends i : Nat)) : (bts s n).set i (I v) = bts (pkN A B s i) n := by
 unfold bts
 rw [ix_set]
 refine ix_ext fun j hj => ?_
 subst hv
 show _ = (((if j = i then pkF A s.ends i else s.boat j) : Nat) : Int)
 split <;> rfl
theorem pkL_snoc (A B : Nat → Int) : ∀ (p : List Nat) (s : PkS) (i : Nat), pkL A B s (p ++ [i]) = pkN A B (pkL A B s p) i
 | [], _, _ => rfl
 | x :: p, s, i => pkL_snoc A B p (pkN A B s x) i

section
variable {r : Mem} {b off n cap : Nat} {z : Nat → Int}

theorem row_a0 (hz : rowAt r b off (2 * n) z) {i : Nat} (h : i < n) : r b (Nat.add (Nat.add off (Nat.mul i 2)) 0) = some (I (ea z i)) := row_a hz h
theorem row_b1 (hz : rowAt r b off (2 * n) z) {i : Nat} (h : i < n) : r b (Nat.add (Nat.add off (Nat.mul i 2)) 1) = some (I (eb z i)) := row_b hz h

theorem ix_S (hz : rowAt r b off (2 * n) z) {i : Nat} (hi : i < n) {c1 c2 : List Value} (h1 : m_nns c1 = true) (h2 : m_nns c2 = true) {e : List Int} (he : e.length ≤ 1000000) : SOk (SC r) 17 [gw 3 e.length, fB1 2 4] (mkA (oB5 c1 c2 (RS2 b off n cap) (rowI e) (i : Nat))) fun v A => v = I (m_ix (ea z) e i) ∧ A = mkA (oB5 c1 c2 (RS2 b off n cap) (rowI e) (i : Nat)) := by
 have e9 : m_nns [RS2 b off n cap] = true := rfl
 have e8 : m_nns [I (i : Nat)] = true := rfl
 refine callL (SC_ok r) (by kernel_rfl) ((bodySC r _).trans IX_eq) (nt := 19) (by kernel_rfl) (rs := [.tmp 4]) (by kernel_rfl) 435 rfl (.step .base) TOk.nil (tm := .nil) (L := 1) (d := 1) lvIX []
  (fun j vs ms os => ∃ k, k ≤ e.length ∧ j = e.length - k ∧ (∀ f, f < k → decide (e.getD f 0 < ea z i) = false) ∧ vs = vIX e.length k ∧ ms = [] ∧ os = oB5 c1 c2 (RS2 b off n cap) (rowI e) (i : Nat))
  ⟨[], [], fun vs ms os => (∀ f, f < e.length → decide (e.getD f 0 < ea z i) = false) ∧ vs = [] ∧ ms = [] ∧ os = oB5 c1 c2 (RS2 b off n cap) (rowI e) (i : Nat)⟩
  ⟨[4], [], fun vs ms os => vs = [some (I (m_ix (ea z) e i))] ∧ ms = [] ∧ os = oB5 c1 c2 (RS2 b off n cap) (rowI e) (i : Nat)⟩ ?_ ?_ ?_ ?_
 ·have hn' := ixA r e.length c1 c2 (rowI e) (RS2 b off n cap) (i : Nat)
  simp only [h1, h2, rowI_nn, e9, e8, Bool.and_true, cond_true] at hn'
  exact (hn' _ _ _ _).trans (qq_ok ⟨e.length, 0, Nat.zero_le _, rfl, fun f h => absurd h (by omega), rfl, rfl, rfl⟩)
 ·rintro j vs ms os ⟨k, hk, rfl, hf, rfl, rfl, rfl⟩
  refine ⟨_, TOk.nil, .nil, 1, 1, 3, ?_⟩
  have hn' := ixB r b off n cap e.length k i c1 c2 (rowI e)
  simp only [Int.ofNat_eq_natCast, Int.toNat_natCast] at hn'
  simp only [h1, h2, rowI_nn, e9, e8, Bool.and_true, cond_true] at hn'
  by_cases c : k < e.length
  ·have c1 : (k : Int) < (e.length : Int) := by omega
   have c3 : Nat.blt k e.length = true := Nat.ble_eq_true_of_le (by omega)
   have c4 : Nat.blt i n = true := Nat.ble_eq_true_of_le (by omega)
   have e3 := inc1' (k := k) (by omega)
   have e4 : (rowI e)[Nat.add 0 (Nat.mul k 1)]? = some (I (e.getD k 0)) := by rw [Nat.add_eq, Nat.mul_eq, Nat.zero_add, Nat.mul_one]; exact rowI_get c
   simp only [Int.ofNat_eq_natCast] at e3
   simp only [dT c1, c3, c4, cond_true, e3, e4, row_a0 hz hi, isI_I] at hn'
   dsimp +instances only [ofI_I] at hn'
   by_cases d : e.getD k 0 < ea z i
   ·simp only [dT d, cond_true] at hn'
    exact (hn' _ _ _).trans (qq_ok ⟨by unfold m_ix; rw [fq_some hf (dT d) c], rfl, rfl⟩)
   ·simp only [dF d, cond_false] at hn'
    exact (hn' _ _ _).trans (qq_ok ⟨e.length - (k + 1), by omega, k + 1, c, rfl, fun f hf' => by
     by_cases q : f = k
     ·subst q; exact dF d
     ·exact hf f (by omega), rfl, rfl, rfl⟩)
  ·have hkl : k = e.length := by omega
   subst hkl
   have c1 : ¬ (e.length : Int) < (e.length : Int) := by omega
   simp only [dF c1, cond_false] at hn'
   exact (hn' _ _ _).trans (qq_ok ⟨hf, rfl, rfl, rfl⟩)
 ·rintro vs ms os ⟨hf, rfl, rfl, rfl⟩
  have hn' := ixC r c1 c2 (rowI e) (RS2 b off n cap) (i : Nat)
  simp only [h1, h2, rowI_nn, e9, e8, Bool.and_true, cond_true] at hn'
  exact ⟨_, TOk.nil, .nil, 1, 1, 1, (hn' _ _ _ _).trans (qq_ok ⟨by unfold m_ix; rw [fq_none hf]; rfl, rfl, rfl⟩)⟩
 ·rintro vs ms os ⟨rfl, rfl, rfl⟩
  exact ⟨_, mkA (oB5 c1 c2 (RS2 b off n cap) (rowI e) (i : Nat)), by kernel_rfl, rfl, rfl⟩

theorem tBL_ok (hz : rowAt r b off (2 * n) z) (h1 : 1 ≤ n) (hn : n ≤ 1000000) : TOk (SC r) (tBL (RS2 b off n cap) n (pkCR z n)) := TOk.nil.cons fun args A hgd F hF k γ W args' hw hR ha => by
 refine ⟨fun hcc => ?_, fun h => nomatch h⟩
 have hs := @of_decide_eq_true _ (Classical.propDecidable _) hgd
 subst hs
 have hg : GrM Tryd.prog r 16 [RS2 b off n cap] (ow 0 n) (rowA (pkCR z n) 3 1) := GrM.ofS (C := SC r) rfl rfl (bl_S hz h1 hn)
 have hof : ofV 0 (ow 0 n) = true := by simp [ofV, of1]
 exact hg.ends (γ := γ) (A := A) hof (pkCR_gnd _ _) hF hw (hR.noG noG fun _ => rfl) (ha.of_ros rfl) ha
end

end Go.Proofs

/- Boats for intervals: the whole. -/
namespace Go.Proofs
open Go Go.Ev Go.Num
set_option linter.unusedVariables false
set_option linter.unusedSimpArgs false
set_option maxRecDepth 100000

section
variable {r : Mem} {b off n cap : Nat} {z : Nat → Int}

def pkS0 : PkS := ⟨[], fun _ => 0⟩
def pkSk (z : Nat → Int) (n k : Nat) : PkS := pkL (ea z) (eb z) pkS0 ((srtV (ea z) n).take k)
def vEn (e : List Int) : Value := match e with
 | [] => .slice none 0 0
 | _ => gw 3 e.length
def oEn (e : List Int) : OO := match e with
 | [] => []
 | _ => [oIn (rowI e) 3]
theorem srtV_len (A : Nat → Int) (n : Nat) : (srtV A n).length = n := by rw [(srtV_perm A n).length_eq, List.length_range]
theorem srtV_lt (A : Nat → Int) (n k : Nat) (h : k < n) : (srtV A n).getD k 0 < n := by
 have h1 : k < (srtV A n).length := by rw [srtV_len]; exact h
 have := ((srtV_perm A n).mem_iff (a := (srtV A n).getD k 0)).1 (by
  rw [List.getD_eq_getElem?_getD, List.getElem?_eq_getElem h1]
  exact List.getElem_mem h1)
 exact List.mem_range.1 this
theorem pkSk_next (z : Nat → Int) {n k : Nat} (h : k < n) : pkSk z n (k + 1) = pkN (ea z) (eb z) (pkSk z n k) ((srtV (ea z) n).getD k 0) := by
 unfold pkSk
 have h1 : k < (srtV (ea z) n).length := by rw [srtV_len]; exact h
 rw [List.take_add_one, List.getElem?_eq_getElem h1, List.getD_eq_getElem?_getD, List.getElem?_eq_getElem h1]
 exact pkL_snoc _ _ _ _ _
theorem pkE_le (A B : Nat → Int) (e : List Int) (i : Nat) : (pkE A B e i).length ≤ e.length + 1 := by
 rw [pkE_len]
 split <;> omega
theorem pkSk_le (z : Nat → Int) (n : Nat) : ∀ k, k ≤ n → (pkSk z n k).ends.length ≤ k
 | 0, _ => Nat.le_refl _
 | k + 1, h => by
  rw [pkSk_next z (by omega)]
  have := pkSk_le z n k (by omega)
  have := pkE_le (ea z) (eb z) (pkSk z n k).ends ((srtV (ea z) n).getD k 0)
  show (pkE (ea z) (eb z) (pkSk z n k).ends ((srtV (ea z) n).getD k 0)).length ≤ k + 1
  omega
theorem bts_nn (s : PkS) (n : Nat) : m_nns (bts s n) = true := ix_nn _ _
theorem pkCR_get (z : Nat → Int) {n k : Nat} (h : k < n) : (pkCR z n)[Nat.add 0 (Nat.mul k 1)]? = some (I ((srtV (ea z) n).getD k 0 : Nat)) := by
 have h1 : k < (srtV (ea z) n).length := by rw [srtV_len]; exact h
 rw [Nat.add_eq, Nat.mul_eq, Nat.zero_add, Nat.mul_one]
 unfold pkCR
 rw [List.getElem?_map, List.getD_eq_getElem?_getD, List.getElem?_eq_getElem h1]
 rfl

def bSt (sl : Value) (z : Nat → Int) (n : Nat) (s : PkS) : OO := [oIn (bts s n) 0, oIn (pkCR z n) 1, oBx sl 2] ++ oEn s.ends
theorem oEn_ne {e : List Int} (h : 1 ≤ e.length) : oEn e = [oIn (rowI e) 3] := by
 cases e with
 | nil => simp at h
 | cons x e => rfl
theorem vEn_ne {e : List Int} (h : 1 ≤ e.length) : vEn e = gw 3 e.length := by
 cases e with
 | nil => simp at h
 | cons x e => rfl

theorem bt_nil (hz : rowAt r b off (2 * n) z) {k i : Nat} (hn : n ≤ 1000) (c : k < n) (hi : i < n) (hg : (pkCR z n)[Nat.add 0 (Nat.mul k 1)]? = some (I (i : Nat))) {s : PkS} (hs : s.ends = []) (K : OV → List Nat → OO → CR) (KX : Nat → OV → List Nat → OO → CR) (kr : KS) :
  run (SC r) 28895 42 1 BT_4 (lvlT (SC r) (fun _ => none) .nil 1 3) none (rbK 0 lvBT [] K) (fun j => rbK 0 [3] [] (KX j)) kr [] (bT lvBT (vBT n k (vEn s.ends)) .nil) [] (mkA (bSt (RS2 b off n cap) z n s)) =
   K (vBT n (k + 1) (vEn (pkE (ea z) (eb z) s.ends i))) [] (bSt (RS2 b off n cap) z n (pkN (ea z) (eb z) s i)) := by
 have e9 : m_nns [RS2 b off n cap] = true := rfl
 have e8 : ∀ x : Int, m_nns [I x] = true := fun x => rfl
 have c4 : Nat.blt i n = true := Nat.ble_eq_true_of_le hi
 have e3 := inc1' (k := k) (by omega)
 have ebl : Nat.blt (Nat.add 0 (Nat.mul i 1)) (bts s n).length = Nat.blt i n := by unfold bts; rw [ix_len, Nat.add_eq, Nat.mul_eq, Nat.zero_add, Nat.mul_one]
 have h0i : (0 : Int) ≤ (i : Nat) := by omega
 simp only [Int.ofNat_eq_natCast] at e3
 have hn' := btN r b off n cap k (bts s n) (pkCR z n)
 have c1 : (k : Int) < (n : Int) := by omega
 have c3 : Nat.blt k n = true := Nat.ble_eq_true_of_le (by omega)
 have hF : pkF (ea z) s.ends i = 0 := by rw [hs]; rfl
 simp only [Int.ofNat_eq_natCast, Int.toNat_natCast] at hn'
 simp only [bts_nn, pkCR_nn, e9, e8, Bool.and_true] at hn'
 simp only [dT c1, c3, cond_true, e3, hg, isI_I] at hn'
 dsimp +instances only [ofI_I] at hn'
 simp only [Int.toNat_natCast] at hn'
 simp only [dT h0i, c4, ebl, row_b1 hz hi, isI_I, cond_true] at hn'
 dsimp +instances only [ofI_I] at hn'
 simp only [Nat.add_eq, Nat.mul_eq, Nat.zero_add, Nat.mul_one] at hn'
 simp only [bts_set (ea z) (eb z) s n i (v := ((0 : Nat) : Int)) (by rw [hF]), bts_nn, cond_true] at hn'
 unfold bSt
 rw [show (pkN (ea z) (eb z) s i).ends = pkE (ea z) (eb z) s.ends i from rfl, hs]
 exact hn' K KX kr

theorem bt_none (hz : rowAt r b off (2 * n) z) {k i : Nat} (hn : n ≤ 1000) (c : k < n) (hi : i < n) (hg : (pkCR z n)[Nat.add 0 (Nat.mul k 1)]? = some (I (i : Nat))) {s : PkS} (hp : 1 ≤ s.ends.length) (hl : s.ends.length ≤ k) (hv : m_ix (ea z) s.ends i = -1) (hF : pkF (ea z) s.ends i = s.ends.length) (K : OV → List Nat → OO → CR) (KX : Nat → OV → List Nat → OO → CR) (kr : KS) :
  run (SC r) 28895 42 1 BT_4 (lvlT (SC r) (tIX s.ends.length (mkA (oB5 (bts s n) (pkCR z n) (RS2 b off n cap) (rowI s.ends) (i : Nat))) (m_ix (ea z) s.ends i)) .nil 1 3) none (rbK 0 lvBT [] K) (fun j => rbK 0 [3] [] (KX j)) kr [] (bT lvBT (vBT n k (vEn s.ends)) .nil) [] (mkA (bSt (RS2 b off n cap) z n s)) =
   K (vBT n (k + 1) (vEn (pkE (ea z) (eb z) s.ends i))) [] (bSt (RS2 b off n cap) z n (pkN (ea z) (eb z) s i)) := by
 have e9 : m_nns [RS2 b off n cap] = true := rfl
 have c4 : Nat.blt i n = true := Nat.ble_eq_true_of_le hi
 have e3 := inc1' (k := k) (by omega)
 have ebl : Nat.blt i (bts s n).length = Nat.blt i n := by unfold bts; rw [ix_len]
 have h0i : (0 : Int) ≤ (i : Nat) := by omega
 simp only [Int.ofNat_eq_natCast] at e3
 have c1 : (k : Int) < (n : Int) := by omega
 have c3 : Nat.blt k n = true := Nat.ble_eq_true_of_le (by omega)
 have hn' := btR r b off n cap k s.ends.length (bts s n) (pkCR z n) (rowI s.ends) (i : Nat) (m_ix (ea z) s.ends i)
 rw [hv] at hn' ⊢
 have d1 : (-1 : Int) < 0 := by omega
 have g1 : Nat.ble (s.ends.length + 1) 1000000 = true := Nat.ble_eq_true_of_le (by omega)
 have g2 : takeAt (rowI s.ends) 0 s.ends.length = some (rowI s.ends) := takeL_row _ _ (rowI_len _)
 have g3 : Nat.blt s.ends.length (s.ends.length + 1) = true := Nat.ble_eq_true_of_le (by omega)
 have g4 : Nat.blt s.ends.length (rowI s.ends ++ [I ((0 : Nat) : Int)]).length = true := by rw [List.length_append, rowI_len]; exact g3
 have g5 : (rowI s.ends ++ [I ((0 : Nat) : Int)]).set s.ends.length (I (eb z i)) = rowI (s.ends ++ [eb z i]) := by rw [rowI_app, rowI_set, app_set]
 simp only [Int.ofNat_eq_natCast, Int.toNat_natCast] at hn'
 simp only [dT c1, c3, cond_true, e3, hg, isI_I] at hn'
 dsimp +instances only [ofI_I] at hn'
 simp only [at_rfl, cond_true, dT d1, dT h0i, c4, row_b1 hz hi, isI_I] at hn'
 dsimp +instances only [ofI_I] at hn'
 simp only [Nat.add_eq, Nat.mul_eq, Nat.zero_add, Nat.mul_one] at hn'
 simp only [cond_true, g1, g2, g3, g4, g5, c4, ebl, bts_set (ea z) (eb z) s n i (v := (s.ends.length : Int)) (by rw [hF]), bts_nn, pkCR_nn, e9, rowI_nn, Bool.and_true] at hn'
 unfold bSt
 rw [show (pkN (ea z) (eb z) s i).ends = pkE (ea z) (eb z) s.ends i from rfl, show pkE (ea z) (eb z) s.ends i = s.ends ++ [eb z i] from if_pos hF, vEn_ne hp, oEn_ne hp, vEn_ne (e := s.ends ++ [eb z i]) (by simp), oEn_ne (e := s.ends ++ [eb z i]) (by simp), List.length_append]
 exact hn' K KX kr

theorem bt_some (hz : rowAt r b off (2 * n) z) {k i f : Nat} (hn : n ≤ 1000) (c : k < n) (hi : i < n) (hg : (pkCR z n)[Nat.add 0 (Nat.mul k 1)]? = some (I (i : Nat))) {s : PkS} (hp : 1 ≤ s.ends.length) (hf : f < s.ends.length) (hv : m_ix (ea z) s.ends i = (f : Nat)) (hF : pkF (ea z) s.ends i = f) (K : OV → List Nat → OO → CR) (KX : Nat → OV → List Nat → OO → CR) (kr : KS) :
  run (SC r) 28895 42 1 BT_4 (lvlT (SC r) (tIX s.ends.length (mkA (oB5 (bts s n) (pkCR z n) (RS2 b off n cap) (rowI s.ends) (i : Nat))) (m_ix (ea z) s.ends i)) .nil 1 3) none (rbK 0 lvBT [] K) (fun j => rbK 0 [3] [] (KX j)) kr [] (bT lvBT (vBT n k (vEn s.ends)) .nil) [] (mkA (bSt (RS2 b off n cap) z n s)) =
   K (vBT n (k + 1) (vEn (pkE (ea z) (eb z) s.ends i))) [] (bSt (RS2 b off n cap) z n (pkN (ea z) (eb z) s i)) := by
 have e9 : m_nns [RS2 b off n cap] = true := rfl
 have c4 : Nat.blt i n = true := Nat.ble_eq_true_of_le hi
 have e3 := inc1' (k := k) (by omega)
 have ebl : Nat.blt i (bts s n).length = Nat.blt i n := by unfold bts; rw [ix_len]
 have h0i : (0 : Int) ≤ (i : Nat) := by omega
 simp only [Int.ofNat_eq_natCast] at e3
 have c1 : (k : Int) < (n : Int) := by omega
 have c3 : Nat.blt k n = true := Nat.ble_eq_true_of_le (by omega)
 have hn' := btR r b off n cap k s.ends.length (bts s n) (pkCR z n) (rowI s.ends) (i : Nat) (m_ix (ea z) s.ends i)
 rw [hv] at hn' ⊢
 have d1 : ¬ ((f : Nat) : Int) < 0 := by omega
 have d2 : (0 : Int) ≤ (f : Nat) := by omega
 have g3 : Nat.blt f s.ends.length = true := Nat.ble_eq_true_of_le (by omega)
 have g4 : Nat.blt f (rowI s.ends).length = true := by rw [rowI_len]; exact g3
 simp only [Int.ofNat_eq_natCast, Int.toNat_natCast] at hn'
 simp only [dT c1, c3, cond_true, e3, hg, isI_I] at hn'
 dsimp +instances only [ofI_I] at hn'
 simp only [at_rfl, cond_true, cond_false, dF d1, dT d2, dT h0i, c4, row_b1 hz hi, isI_I] at hn'
 dsimp +instances only [ofI_I] at hn'
 simp only [Nat.add_eq, Nat.mul_eq, Nat.zero_add, Nat.mul_one] at hn'
 simp only [cond_true, g3, g4, c4, ebl, rowI_set, bts_set (ea z) (eb z) s n i (v := (f : Int)) (by rw [hF]), bts_nn, pkCR_nn, e9, rowI_nn, Bool.and_true] at hn'
 have hE2 : pkE (ea z) (eb z) s.ends i = s.ends.set f (eb z i) := by
  unfold pkE
  rw [if_neg (by omega), hF]
 unfold bSt
 rw [show (pkN (ea z) (eb z) s i).ends = pkE (ea z) (eb z) s.ends i from rfl, hE2, vEn_ne hp, oEn_ne hp, vEn_ne (e := s.ends.set f (eb z i)) (by rw [List.length_set]; exact hp), oEn_ne (e := s.ends.set f (eb z i)) (by rw [List.length_set]; exact hp), List.length_set]
 exact hn' K KX kr

theorem bt_S (hz : rowAt r b off (2 * n) z) (h1 : 1 ≤ n) (hn : n ≤ 1000) : SOk (SC r) 8 [RS2 b off n cap] emptyA fun v A => v = ow 0 n ∧ A = mkA [oIn (bts (pkSk z n n) n) 0] := by
 have e9 : m_nns [RS2 b off n cap] = true := rfl
 refine callL (SC_ok r) (by kernel_rfl) ((bodySC r _).trans BT_eq) (nt := 42) (by kernel_rfl) (rs := [.tmp 2]) (by kernel_rfl) 28895 rfl (.step (.step (.step .base))) (tBL_ok (cap := cap) hz h1 (by omega)) (tm := .nil) (L := 1) (d := 1) lvBT []
  (fun j vs ms os => ∃ k, k ≤ n ∧ j = n - k ∧ ∃ s, s = pkSk z n k ∧ vs = vBT n k (vEn s.ends) ∧ ms = [] ∧ os = bSt (RS2 b off n cap) z n s)
  ⟨[3], [], fun vs ms os => vs = [some (ow 0 n)] ∧ ms = [] ∧ os = [oIn (bts (pkSk z n n) n) 0]⟩
  ⟨[2], [], fun vs ms os => vs = [some (ow 0 n)] ∧ ms = [] ∧ os = [oIn (bts (pkSk z n n) n) 0]⟩ ?_ ?_ ?_ ?_
 ·have hn' := btA r b off n cap (pkCR z n)
  have c3 : Nat.ble n 1000000 = true := Nat.ble_eq_true_of_le (by omega)
  have c4 : Nat.ble n n = true := Nat.ble_eq_true_of_le (Nat.le_refl _)
  simp only [Int.ofNat_eq_natCast, Int.toNat_natCast, c3, c4, cond_true, sv_rfl] at hn'
  have e0 := ix_zero1 n
  simp only [Int.ofNat_eq_natCast] at e0
  simp only [e0, ix_nn, e9, pkCR_nn, Bool.and_true, cond_true] at hn'
  exact (hn' _ _ _).trans (qq_ok ⟨n, 0, Nat.zero_le _, rfl, _, rfl, rfl, rfl, rfl⟩)
 ·rintro j vs ms os ⟨k, hk, rfl, s, hs, rfl, rfl, rfl⟩
  have hle : s.ends.length ≤ k := by rw [hs]; exact pkSk_le z n k hk
  by_cases c : k < n
  ·have hi := srtV_lt (ea z) n k c
   have hg := pkCR_get z c
   have hnx := pkSk_next z c
   rw [← hs] at hnx
   generalize (srtV (ea z) n).getD k 0 = i at hi hg hnx
   have fin : qq (∃ j', j' < n - k ∧ ∃ k', k' ≤ n ∧ j' = n - k' ∧ ∃ s', s' = pkSk z n k' ∧ vBT n (k + 1) (vEn (pkE (ea z) (eb z) s.ends i)) = vBT n k' (vEn s'.ends) ∧ ([] : List Nat) = [] ∧ bSt (RS2 b off n cap) z n (pkN (ea z) (eb z) s i) = bSt (RS2 b off n cap) z n s') = okR :=
    qq_ok ⟨n - (k + 1), by omega, k + 1, c, rfl, _, rfl, by rw [hnx]; rfl, rfl, by rw [hnx]⟩
   by_cases h0 : s.ends = []
   ·exact ⟨_, TOk.nil, .nil, 1, 1, 3, (bt_nil hz hn c hi hg h0 _ _ _).trans fin⟩
   ·have hp : 1 ≤ s.ends.length := by
     cases h : s.ends with
     | nil => exact absurd h h0
     | cons => simp
    refine ⟨_, TOk.nil.cons (SOk.at (ix_S (cap := cap) hz hi (bts_nn s n) (pkCR_nn z n) (e := s.ends) (by omega))), .nil, 1, 1, 3, ?_⟩
    rcases fq_cases (fun f => decide (s.ends.getD f 0 < ea z i)) s.ends.length with ⟨hq, _⟩ | ⟨f, hq, hf, _⟩
    ·exact (bt_none hz hn c hi hg hp hle (by unfold m_ix; rw [hq]) (by unfold pkF; rw [hq]; rfl) _ _ _).trans fin
    ·exact (bt_some hz hn c hi hg hp hf (by unfold m_ix; rw [hq]) (by unfold pkF; rw [hq]; rfl) _ _ _).trans fin
  ·have hkl : k = n := by omega
   subst hkl
   have c1 : ¬ (k : Int) < (k : Int) := by omega
   cases hends : s.ends with
   | nil =>
    refine ⟨_, TOk.nil, .nil, 1, 1, 3, ?_⟩
    have hn' := btN r b off k cap k (bts s k) (pkCR z k)
    simp only [Int.ofNat_eq_natCast] at hn'
    simp only [dF c1, cond_false, bts_nn, Bool.and_true, cond_true] at hn'
    have hb : bSt (RS2 b off k cap) z k s = [oIn (bts s k) 0, oIn (pkCR z k) 1, oBx (RS2 b off k cap) 2] := by unfold bSt; rw [hends]; rfl
    have hv : vEn [] = .slice none 0 0 := rfl
    rw [hb, hv]
    exact (hn' _ _ _).trans (qq_ok ⟨rfl, rfl, by rw [← hs]; rfl⟩)
   | cons x e =>
    have hp : 1 ≤ s.ends.length := by rw [hends]; simp
    refine ⟨_, TOk.nil.cons (SOk.at (ix_S (i := 0) (cap := cap) hz (by omega) (bts_nn s k) (pkCR_nn z k) (e := s.ends) (by omega))), .nil, 1, 1, 3, ?_⟩
    have hn' := btR r b off k cap k s.ends.length (bts s k) (pkCR z k) (rowI s.ends) (0 : Nat) (m_ix (ea z) s.ends 0)
    simp only [Int.ofNat_eq_natCast] at hn'
    simp only [dF c1, cond_false, bts_nn, Bool.and_true, cond_true] at hn'
    have hb : bSt (RS2 b off k cap) z k s = [oIn (bts s k) 0, oIn (pkCR z k) 1, oBx (RS2 b off k cap) 2, oIn (rowI s.ends) 3] := by unfold bSt; rw [oEn_ne hp]; rfl
    rw [hb, ← hends, vEn_ne hp]
    exact (hn' _ _ _).trans (qq_ok ⟨rfl, rfl, by rw [← hs]; rfl⟩)
 ·rintro vs ms os ⟨rfl, rfl, rfl⟩
  have hn' := btZ r n (bts (pkSk z n n) n)
  simp only [bts_nn, Bool.and_true, cond_true] at hn'
  exact ⟨_, TOk.nil, .nil, 1, 1, 1, (hn' _ _ _ _).trans (qq_ok ⟨rfl, rfl, rfl⟩)⟩
 ·rintro vs ms os ⟨rfl, rfl, rfl⟩
  exact ⟨_, mkA [oIn (bts (pkSk z n n) n) 0], by kernel_rfl, rfl, rfl⟩
end

end Go.Proofs

/- shift.Boats, run. -/
namespace Go.Proofs
open Go Go.Ev Go.Num
set_option linter.unusedVariables false
set_option linter.unusedSimpArgs false
set_option maxRecDepth 100000

noncomputable def gOwn (sl : Value) (c : List Value) (args : List Value) (A : AW) : Bool := match args with
 | [.slice (some ⟨i, k, none⟩) l cap] => match A.heap.get i with
  | some (.cells c' _ _ _) => m_sv [.slice (some ⟨0, k, none⟩) l cap, .agg ⟨c'⟩] [sl, .agg ⟨c⟩]
  | _ => false
 | _ => false
noncomputable def eVal (a0 : List Value) (v : Value) : Ent := ent (fun args _ => m_sv args a0) fun _ _ => v
noncomputable def eRi (sl : Value) (n : Nat) (c : List Value) : Ent := ⟨fun args _ => m_sv args [sl], fun _ _ => true, fun _ A => .tuple ⟨[.slice (some ⟨A.next, 0, none⟩) n n, I 0]⟩, fun _ A => A.new (.cells c 52 A.next 2), fun _ _ => undef, fun _ A => A⟩
noncomputable def eBt (n : Nat) (c d : List Value) : Ent := ⟨fun args A => gOwn (ow 0 n) c args A, fun _ _ => true, fun _ A => .slice (some ⟨A.next, 0, none⟩) n n, fun _ A => A.new (.cells d 3 A.next 1), fun _ _ => undef, fun _ A => A⟩
noncomputable def ePk (n : Nat) (c : List Value) (p : Int) : Ent := ent (fun args A => gOwn (ow 0 n) c args A) fun _ _ => I p
noncomputable def tBo (sl : Value) (n : Nat) (c d : List Value) (p : Int) : Tbl := tcons 7 (eRi sl n c) (tcons 8 (eBt n c d) (tcons 9 (ePk n c p) fun _ => none))
noncomputable def tBe (sl : Value) (e : Int) : Tbl := tcons 7 (eVal [sl] (.tuple ⟨[.slice none 0 0, I e]⟩)) fun _ => none

theorem boA (r : Mem) (b off n cap : Nat) (c d : List Value) (p : Int) (K : Value → AW → CR) : (lvlT (SC r) (tBo (RS2 b off n cap) n c d p) .nil 1 2).call 5 [RS2 b off n cap] emptyA K =
    bif m_sv [.slice (some ⟨b, off, some 0⟩) n cap] [.slice (some ⟨b, off, some 0⟩) n cap] then bif m_sv [.slice (some ⟨0, 0, none⟩) n n, .agg ⟨c⟩] [.slice (some ⟨0, 0, none⟩) n n, .agg ⟨c⟩] then bif m_sv [.slice (some ⟨0, 0, none⟩) n n, .agg ⟨c⟩] [.slice (some ⟨0, 0, none⟩) n n, .agg ⟨c⟩] then K (.tuple ⟨[.slice (some ⟨1, 0, none⟩) n n, I p, I (Int.ofNat 0)]⟩) (AW.mk 2 (.node (.node .nil (some (.cells d 3 1 1)) .nil) (some (.cells c 52 0 2)) .nil) .nil) else .fail 420 else .fail 420 else .fail 420 := by kernel_rfl

theorem boE (r : Mem) (b off n cap : Nat) (e : Int) : (lvlT (SC r) (tBe (RS2 b off n cap) e) .nil 1 2).call 5 [RS2 b off n cap] emptyA fin =
    bif m_sv [.slice (some ⟨b, off, some 0⟩) n cap] [.slice (some ⟨b, off, some 0⟩) n cap] then bif e != Int.ofNat 0 then .ret (.tuple ⟨[.slice none 0 0, I (Int.ofNat 0), I e]⟩) (AW.mk 0 .nil .nil) else .fail 400 else .fail 420 := by kernel_rfl

theorem boN (r : Mem) : (lvlT (SC r) (fun _ => none) .nil 1 3).call 5 [.slice none 0 0] emptyA fin =
    .ret (.tuple ⟨[.slice none 0 0, I (Int.ofNat 0), I (Int.ofNat 1)]⟩) (AW.mk 0 .nil .nil) := by kernel_rfl

theorem spR (r : Mem) (b off n cap : Nat) (K : Value → AW → CR) : (lvlT (SC r) (fun _ => none) .nil 1 2).call 4 [RS2 b off n cap] emptyA K =
    bif decide (0 ≤ bif decide (13 < Int.ofNat n) then Int.ofNat 13 else Int.ofNat n) then bif Nat.beq cap 9223372036854775809 then .fail 435 else bif Nat.ble (Int.toNat (bif decide (13 < Int.ofNat n) then Int.ofNat 13 else Int.ofNat n)) cap then bif Nat.beq (Int.toNat (bif decide (13 < Int.ofNat n) then Int.ofNat 13 else Int.ofNat n)) 0 then K (.slice none 0 0) (AW.mk 0 .nil .nil) else bif Nat.ble (Nat.add 0 (Nat.sub (Int.toNat (bif decide (13 < Int.ofNat n) then Int.ofNat 13 else Int.ofNat n)) 0)) 1000000 then Option.casesOn (match Nat.beq (Nat.sub cap 0) unkE with | true => none | false => takeF (Cfg.ro (SC r) b) (Nat.add off (Nat.mul 0 (TypeInfo.size Tryd.t29))) (Nat.mul (Nat.sub (Int.toNat (bif decide (13 < Int.ofNat n) then 13 else Int.ofNat n)) 0) (TypeInfo.size Tryd.t29))) (.fail 443) fun val => bif Nat.beq (List.length val) (Nat.mul (Nat.sub (Int.toNat (bif decide (13 < Int.ofNat n) then Int.ofNat 13 else Int.ofNat n)) 0) 2) then bif Nat.beq (Nat.sub (Int.toNat (bif decide (13 < Int.ofNat n) then Int.ofNat 13 else Int.ofNat n)) 0) 0 then K (.slice none 0 0) (AW.mk 0 .nil .nil) else K (.slice (some ⟨0, 0, none⟩) (Nat.sub (Int.toNat (bif decide (13 < Int.ofNat n) then Int.ofNat 13 else Int.ofNat n)) 0) unk) (AW.mk 1 (.node .nil (some (.cells val 29 0 2)) .nil) .nil) else .fail 420 else .fail 420 else .fail 420 else .fail 420 := by kernel_rfl

theorem spN (r : Mem) : (lvlT (SC r) (fun _ => none) .nil 1 2).call 4 [.slice none 0 0] emptyA fin =
    .ret (.slice none 0 0) (AW.mk 0 .nil .nil) := by kernel_rfl

end Go.Proofs

