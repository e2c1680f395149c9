/- What the claim is proved with, part 5: the evaluator and the contracts of the calls. -/
import Derived.Test.YtpcofojbkahfbaaGreatDoorPack4
import Derived.Test.YtpcofojbkahfbaaGreatDoorPack2
import Derived.Test.YtpcofojbkahfbaaGreatDoorPack1
import Derived.Test.YtpcofojbkahfbaaGreatDoorPack3
/- The law of modules, run. -/
namespace Go.Proofs
open Go Go.Ev Go.Num
set_option linter.unusedVariables false
set_option linter.unusedSimpArgs false
set_option maxRecDepth 100000

abbrev XE := Option (Nat × List Value)
noncomputable def gX (m : Nat) (x : XE) (args : List Value) (A : AW) : Bool := match args with
 | [.int .i64 n, .slice (some ⟨i, k, none⟩) l cap] => match x with
  | some (len, c) => match A.heap.get i with
   | some (.cells c' _ _ _) => m_same [.int .i64 n, .slice (some ⟨0, k, none⟩) l cap, .agg ⟨c'⟩] [I (m : Nat), .slice (some ⟨0, 0, none⟩) len unk, .agg ⟨c⟩]
   | _ => false
  | none => false
 | [.int .i64 n, .slice none 0 0] => match x with
  | none => m_same [.int .i64 n] [I (m : Nat)]
  | some _ => false
 | _ => false
noncomputable def gG (m : Nat) (g : List Value) (args : List Value) (A : AW) : Bool := match args with
 | [.slice (some ⟨i, k, none⟩) l cap] => match A.heap.get i with
  | some (.cells c' _ _ _) => m_same [.slice (some ⟨0, k, none⟩) l cap, .agg ⟨c'⟩] [.slice (some ⟨0, 0, none⟩) m m, .agg ⟨g⟩]
  | _ => false
 | _ => false
noncomputable def eCo (m : Nat) (x : XE) (cb : Bool) (k : Nat) (c : List Value) : Ent := ⟨gX m x, fun _ _ => cb, fun _ A => .tuple ⟨[.slice (some ⟨A.next, 0, none⟩) k unk, I 0]⟩, fun _ A => A.new (.cells c 51 A.next 2), fun _ _ => .tuple ⟨[.slice none 0 0, I 0]⟩, fun _ A => A⟩
noncomputable def eIs (m : Nat) (x : XE) (is : Int → Bool) (er : Int → Int) : Ent := ent (fun args A => match args with | [a, b, .int .i64 _] => gX m x [a, b] A | _ => false) (fun args _ => match args with | [_, _, .int .i64 s] => .tuple ⟨[.bool (is s), I (er s)]⟩ | _ => undef)
noncomputable def eMd (m : Nat) (x : XE) (cb : Bool) (k : Nat) (g : List Value) : Ent := ⟨gX m x, fun _ _ => cb, fun _ A => .tuple ⟨[.slice (some ⟨A.next, 0, none⟩) k k, I 0]⟩, fun _ A => A.new (.cells g 3 A.next 1), fun _ _ => .tuple ⟨[.slice none 0 0, I 2]⟩, fun _ A => A⟩
noncomputable def eRc (m : Nat) (g gc : List Value) : Ent := ⟨gG m g, fun _ _ => true, fun _ A => .slice (some ⟨A.next, 0, none⟩) m m, fun _ A => A.new (.cells gc 3 A.next 1), fun _ _ => undef, fun _ A => A⟩
noncomputable def eLi (m : Nat) (g : List Value) (cb : Bool) (k : Nat) (c : List Value) : Ent := ⟨gG m g, fun _ _ => cb, fun _ A => .slice (some ⟨A.next, 0, none⟩) k unk, fun _ A => A.new (.cells c 51 A.next 2), fun _ _ => .slice none 0 0, fun _ A => A⟩
noncomputable def eRl (m : Nat) (g : List Value) (k : Nat) (c : List Value) : Ent := ⟨gG m g, fun _ _ => true, fun _ A => .slice (some ⟨A.next, 0, none⟩) k unk, fun _ A => A.new (.cells c 3 A.next 1), fun _ _ => undef, fun _ A => A⟩
noncomputable def eAm (m : Nat) (g : List Value) : Ent := ent (gG m g) (fun _ _ => I (2 ^ m - 1 : Nat))
noncomputable def eRi (m : Nat) (g : List Value) (q : Int → Bool) : Ent := ent (fun args A => match args with | [a, .int .i64 s] => gG m g [a] A && m_w16 s | _ => false) (fun args _ => match args with | [_, .int .i64 s] => .bool (q s) | _ => undef)
noncomputable def ePr (k : Nat) (c : List Value) (k' : Nat) (c' : List Value) : Ent := ent
 (fun args A => match args with
  | [.slice none 0 0, .slice none 0 0] => true
  | [.slice (some ⟨i, a, none⟩) l p, .slice (some ⟨j, b, none⟩) l' p'] => match A.heap.get i, A.heap.get j with
   | some (.cells ci _ _ _), some (.cells cj _ _ _) => m_same [.slice (some ⟨0, a, none⟩) l p, .agg ⟨ci⟩, .slice (some ⟨0, b, none⟩) l' p', .agg ⟨cj⟩] [.slice (some ⟨0, 0, none⟩) k unk, .agg ⟨c⟩, .slice (some ⟨0, 0, none⟩) k unk, .agg ⟨c⟩] || m_same [.slice (some ⟨0, a, none⟩) l p, .agg ⟨ci⟩, .slice (some ⟨0, b, none⟩) l' p', .agg ⟨cj⟩] [.slice (some ⟨0, 0, none⟩) k' unk, .agg ⟨c'⟩, .slice (some ⟨0, 0, none⟩) k' unk, .agg ⟨c'⟩]
   | _, _ => false
  | _ => false)
 (fun _ _ => .bool true)
noncomputable def eIt (k : Nat) (g : List Value) : Ent := ent
 (fun args A => match args with
  | [.slice (some ⟨i, a, none⟩) l p, .slice (some ⟨j, b, none⟩) l' p'] => match A.heap.get i, A.heap.get j with
   | some (.cells ci _ _ _), some (.cells cj _ _ _) => m_same [.slice (some ⟨0, a, none⟩) l p, .agg ⟨ci⟩, .slice (some ⟨0, b, none⟩) l' p', .agg ⟨cj⟩] [.slice (some ⟨0, 0, none⟩) k k, .agg ⟨g⟩, .slice (some ⟨0, 0, none⟩) k unk, .agg ⟨g⟩]
   | _, _ => false
  | _ => false)
 (fun _ _ => .bool true)
noncomputable def tPl (m : Nat) (x : XE) (g gc : List Value) (cb : Bool) (k : Nat) (c : List Value) (cb' : Bool) (k' : Nat) (c' : List Value) (is : Int → Bool) (er : Int → Int) (q : Int → Bool) (c3 : Bool) (k3 : Nat) (g3 : List Value) (t : Tbl) : Tbl :=
 tcons 17 (e0 (.bool true)) (tcons 7 (eCo m x cb k c) (tcons 8 (eCo m x cb' k' c') (tcons 13 (eIs m x is er) (tcons 16 (eMd m x c3 k3 g3) (tcons 11 (eRc m g gc) (tcons 10 (eLi m gc cb k c) (tcons 12 (eLi m g cb' k' c') (tcons 19 (eRl m g k3 g3) (tcons 14 (eAm m g) (tcons 15 (eRi m g q) (tcons 9 (ePr k c k' c') (tcons 18 (eIt k3 g3) t))))))))))))
noncomputable def tPl1 (a0 : List Value) (m len : Nat) (e g : List Value) : Tbl := tcons 5 (eTm1 a0 m len e) (tcons 6 (eOf1 m len e g) fun _ => none)
noncomputable def tPl0 (a0 : List Value) (m : Nat) (g : List Value) : Tbl := tcons 5 (entV a0 (.tuple ⟨[I (m : Nat), .slice none 0 0]⟩)) (tcons 6 (eOf0 m g) fun _ => none)

noncomputable def cLa : Code := bodyOf S0 3
noncomputable def La_0 : Code := (lc cLa)
noncomputable def La_1 : Code := (lc (rc cLa))
noncomputable def La_2 : Code := (lc (rc (rc cLa)))
noncomputable def La_3 : Code := (lc (rc (rc (rc cLa))))
noncomputable def La_4 : Code := (lc (rc (rc (rc (rc cLa)))))
noncomputable def La_5 : Code := (lc (rc (rc (rc (rc (rc cLa))))))
noncomputable def La_6 : Code := (lc (lc (rc (rc (rc (rc (rc (rc cLa))))))))
noncomputable def La_7 : Code := (ic (ic (rc (lc (rc (rc (rc (rc (rc (rc cLa))))))))))
noncomputable def La_8 : Code := (rc (rc (rc (rc (rc (rc (rc cLa)))))))
theorem La_eq : cLa = (.seq La_0 (.seq La_1 (.seq La_2 (.seq La_3 (.seq La_4 (.seq La_5 (.seq (.seq La_6 (.block 0 (.loop La_7))) La_8))))))) := by kernel_rfl
def lvLa : List Nat := [0, 2, 7, 8, 13]
def vLa1 (m len : Nat) (set i : Int) : OV := [some (I (m : Nat)), some (I set), some (.slice (some ⟨0, 0, none⟩) len unk), some (.slice (some ⟨1, 0, none⟩) m m), some (I i)]
def vLa0 (m : Nat) (set i : Int) : OV := [some (I (m : Nat)), some (I set), some (.slice none 0 0), some (.slice (some ⟨0, 0, none⟩) m m), some (I i)]
def oLa1 (e g : List Value) : OO := [some (.cells e 51 0 2), some (.cells g 3 1 1)]
def oLa0 (g : List Value) : OO := [some (.cells g 3 0 1)]
noncomputable abbrev m_sm (l : List Value) : Bool := m_same l l

theorem plAR1 (r : Mem) (n set : Int) (b off len0 cap : Nat) (len : Nat) (e : List Value) (m : Nat) (g gc : List Value) (cb : Bool) (k : Nat) (c : List Value) (cb' : Bool) (k' : Nat) (c' : List Value) (is : Int → Bool) (er : Int → Int) (q : Int → Bool) (c3 : Bool) (k3 : Nat) (g3 : List Value) (K : OV → List Nat → OO → CR) (kx : Nat → KS) (KR : OV → List Nat → OO → CR) : run (SC r) 262087 130 1 (.seq La_0 (.seq La_1 (.seq La_2 (.seq La_3 (.seq La_4 (.seq La_5 La_6)))))) (lvlT (SC r) (tPl m (some (len, e)) g gc cb k c cb' k' c' is er q c3 k3 g3 (tPl1 [I n, (RS2 b off len0 cap), I 16] m len e g)) .nil 1 1) none (rbK 0 lvLa [] K) kx (rbK 0 [6] [] KR) (sc0 262087 [I n, (RS2 b off len0 cap), I set]) (tr0 262087 [I n, (RS2 b off len0 cap), I set]) [] emptyA =
    bif m_sm [I n, .slice (some ⟨b, off, some 0⟩) len0 cap, I (Int.ofNat 16)] then bif m_sm [I (Int.ofNat m), .slice (some ⟨0, 0, none⟩) len unk, .agg ⟨e⟩] then bif m_sm [I (Int.ofNat m), .slice (some ⟨0, 0, none⟩) len unk, .agg ⟨e⟩] then bif cb then bif m_sm [I (Int.ofNat m), .slice (some ⟨0, 0, none⟩) len unk, .agg ⟨e⟩] then bif cb' then bif m_sm [.slice (some ⟨0, 0, none⟩) m m, .agg ⟨g⟩] then bif m_sm [.slice (some ⟨0, 0, none⟩) m m, .agg ⟨gc⟩] then bif cb then bif m_same [.slice (some ⟨0, 0, none⟩) k unk, .agg ⟨c⟩, .slice (some ⟨0, 0, none⟩) k unk, .agg ⟨c⟩] [.slice (some ⟨0, 0, none⟩) k unk, .agg ⟨c⟩, .slice (some ⟨0, 0, none⟩) k unk, .agg ⟨c⟩] || m_same [.slice (some ⟨0, 0, none⟩) k unk, .agg ⟨c⟩, .slice (some ⟨0, 0, none⟩) k unk, .agg ⟨c⟩] [.slice (some ⟨0, 0, none⟩) k' unk, .agg ⟨c'⟩, .slice (some ⟨0, 0, none⟩) k' unk, .agg ⟨c'⟩] then bif m_sm [.slice (some ⟨0, 0, none⟩) m m, .agg ⟨g⟩] then bif cb' then bif m_same [.slice (some ⟨0, 0, none⟩) k' unk, .agg ⟨c'⟩, .slice (some ⟨0, 0, none⟩) k' unk, .agg ⟨c'⟩] [.slice (some ⟨0, 0, none⟩) k unk, .agg ⟨c⟩, .slice (some ⟨0, 0, none⟩) k unk, .agg ⟨c⟩] || m_sm [.slice (some ⟨0, 0, none⟩) k' unk, .agg ⟨c'⟩, .slice (some ⟨0, 0, none⟩) k' unk, .agg ⟨c'⟩] then bif m_nns e && (m_nns g && true) then K [some (I (Int.ofNat m)), some (I set), some (.slice (some ⟨0, 0, none⟩) len unk), some (.slice (some ⟨1, 0, none⟩) m m), some (I (Int.ofNat 0))] [] [some (.cells e 51 0 2), some (.cells g 3 1 1)] else .fail 420 else .fail 420 else .fail 420 else .fail 420 else .fail 420 else .fail 420 else .fail 420 else .fail 420 else bif m_sm [.slice (some ⟨0, 0, none⟩) m m, .agg ⟨g⟩] then bif m_sm [.slice (some ⟨0, 0, none⟩) m m, .agg ⟨gc⟩] then bif cb then bif m_same [.slice (some ⟨0, 0, none⟩) k unk, .agg ⟨c⟩, .slice (some ⟨0, 0, none⟩) k unk, .agg ⟨c⟩] [.slice (some ⟨0, 0, none⟩) k unk, .agg ⟨c⟩, .slice (some ⟨0, 0, none⟩) k unk, .agg ⟨c⟩] || m_same [.slice (some ⟨0, 0, none⟩) k unk, .agg ⟨c⟩, .slice (some ⟨0, 0, none⟩) k unk, .agg ⟨c⟩] [.slice (some ⟨0, 0, none⟩) k' unk, .agg ⟨c'⟩, .slice (some ⟨0, 0, none⟩) k' unk, .agg ⟨c'⟩] then bif m_sm [.slice (some ⟨0, 0, none⟩) m m, .agg ⟨g⟩] then bif cb' then .fail 420 else bif m_nns e && (m_nns g && true) then K [some (I (Int.ofNat m)), some (I set), some (.slice (some ⟨0, 0, none⟩) len unk), some (.slice (some ⟨1, 0, none⟩) m m), some (I (Int.ofNat 0))] [] [some (.cells e 51 0 2), some (.cells g 3 1 1)] else .fail 420 else .fail 420 else .fail 420 else .fail 420 else .fail 420 else .fail 420 else .fail 420 else bif m_sm [I (Int.ofNat m), .slice (some ⟨0, 0, none⟩) len unk, .agg ⟨e⟩] then bif cb' then bif m_sm [.slice (some ⟨0, 0, none⟩) m m, .agg ⟨g⟩] then bif m_sm [.slice (some ⟨0, 0, none⟩) m m, .agg ⟨gc⟩] then bif cb then .fail 420 else bif m_sm [.slice (some ⟨0, 0, none⟩) m m, .agg ⟨g⟩] then bif cb' then bif m_same [.slice (some ⟨0, 0, none⟩) k' unk, .agg ⟨c'⟩, .slice (some ⟨0, 0, none⟩) k' unk, .agg ⟨c'⟩] [.slice (some ⟨0, 0, none⟩) k unk, .agg ⟨c⟩, .slice (some ⟨0, 0, none⟩) k unk, .agg ⟨c⟩] || m_sm [.slice (some ⟨0, 0, none⟩) k' unk, .agg ⟨c'⟩, .slice (some ⟨0, 0, none⟩) k' unk, .agg ⟨c'⟩] then bif m_nns e && (m_nns g && true) then K [some (I (Int.ofNat m)), some (I set), some (.slice (some ⟨0, 0, none⟩) len unk), some (.slice (some ⟨1, 0, none⟩) m m), some (I (Int.ofNat 0))] [] [some (.cells e 51 0 2), some (.cells g 3 1 1)] else .fail 420 else .fail 420 else .fail 420 else .fail 420 else .fail 420 else .fail 420 else bif m_sm [.slice (some ⟨0, 0, none⟩) m m, .agg ⟨g⟩] then bif m_sm [.slice (some ⟨0, 0, none⟩) m m, .agg ⟨gc⟩] then bif cb then .fail 420 else bif m_sm [.slice (some ⟨0, 0, none⟩) m m, .agg ⟨g⟩] then bif cb' then .fail 420 else bif m_nns e && (m_nns g && true) then K [some (I (Int.ofNat m)), some (I set), some (.slice (some ⟨0, 0, none⟩) len unk), some (.slice (some ⟨1, 0, none⟩) m m), some (I (Int.ofNat 0))] [] [some (.cells e 51 0 2), some (.cells g 3 1 1)] else .fail 420 else .fail 420 else .fail 420 else .fail 420 else .fail 420 else .fail 420 else .fail 420 else .fail 420 := by kernel_rfl

theorem plAR0 (r : Mem) (n set : Int) (b off len0 cap : Nat)  (m : Nat) (g gc : List Value) (cb : Bool) (k : Nat) (c : List Value) (cb' : Bool) (k' : Nat) (c' : List Value) (is : Int → Bool) (er : Int → Int) (q : Int → Bool) (c3 : Bool) (k3 : Nat) (g3 : List Value) (K : OV → List Nat → OO → CR) (kx : Nat → KS) (KR : OV → List Nat → OO → CR) : run (SC r) 262087 130 1 (.seq La_0 (.seq La_1 (.seq La_2 (.seq La_3 (.seq La_4 (.seq La_5 La_6)))))) (lvlT (SC r) (tPl m none g gc cb k c cb' k' c' is er q c3 k3 g3 (tPl0 [I n, (RS2 b off len0 cap), I 16] m g)) .nil 1 1) none (rbK 0 lvLa [] K) kx (rbK 0 [6] [] KR) (sc0 262087 [I n, (RS2 b off len0 cap), I set]) (tr0 262087 [I n, (RS2 b off len0 cap), I set]) [] emptyA =
    bif m_sm [I n, .slice (some ⟨b, off, some 0⟩) len0 cap, I (Int.ofNat 16)] then bif m_sm [I (Int.ofNat m), .slice none 0 0] then bif m_sm [I (Int.ofNat m)] then bif cb then bif m_sm [I (Int.ofNat m)] then bif cb' then bif m_sm [.slice (some ⟨0, 0, none⟩) m m, .agg ⟨g⟩] then bif m_sm [.slice (some ⟨0, 0, none⟩) m m, .agg ⟨gc⟩] then bif cb then bif m_same [.slice (some ⟨0, 0, none⟩) k unk, .agg ⟨c⟩, .slice (some ⟨0, 0, none⟩) k unk, .agg ⟨c⟩] [.slice (some ⟨0, 0, none⟩) k unk, .agg ⟨c⟩, .slice (some ⟨0, 0, none⟩) k unk, .agg ⟨c⟩] || m_same [.slice (some ⟨0, 0, none⟩) k unk, .agg ⟨c⟩, .slice (some ⟨0, 0, none⟩) k unk, .agg ⟨c⟩] [.slice (some ⟨0, 0, none⟩) k' unk, .agg ⟨c'⟩, .slice (some ⟨0, 0, none⟩) k' unk, .agg ⟨c'⟩] then bif m_sm [.slice (some ⟨0, 0, none⟩) m m, .agg ⟨g⟩] then bif cb' then bif m_same [.slice (some ⟨0, 0, none⟩) k' unk, .agg ⟨c'⟩, .slice (some ⟨0, 0, none⟩) k' unk, .agg ⟨c'⟩] [.slice (some ⟨0, 0, none⟩) k unk, .agg ⟨c⟩, .slice (some ⟨0, 0, none⟩) k unk, .agg ⟨c⟩] || m_sm [.slice (some ⟨0, 0, none⟩) k' unk, .agg ⟨c'⟩, .slice (some ⟨0, 0, none⟩) k' unk, .agg ⟨c'⟩] then bif m_nns g && true then K [some (I (Int.ofNat m)), some (I set), some (.slice none 0 0), some (.slice (some ⟨0, 0, none⟩) m m), some (I (Int.ofNat 0))] [] [some (.cells g 3 0 1)] else .fail 420 else .fail 420 else .fail 420 else .fail 420 else .fail 420 else .fail 420 else .fail 420 else .fail 420 else bif m_sm [.slice (some ⟨0, 0, none⟩) m m, .agg ⟨g⟩] then bif m_sm [.slice (some ⟨0, 0, none⟩) m m, .agg ⟨gc⟩] then bif cb then bif m_same [.slice (some ⟨0, 0, none⟩) k unk, .agg ⟨c⟩, .slice (some ⟨0, 0, none⟩) k unk, .agg ⟨c⟩] [.slice (some ⟨0, 0, none⟩) k unk, .agg ⟨c⟩, .slice (some ⟨0, 0, none⟩) k unk, .agg ⟨c⟩] || m_same [.slice (some ⟨0, 0, none⟩) k unk, .agg ⟨c⟩, .slice (some ⟨0, 0, none⟩) k unk, .agg ⟨c⟩] [.slice (some ⟨0, 0, none⟩) k' unk, .agg ⟨c'⟩, .slice (some ⟨0, 0, none⟩) k' unk, .agg ⟨c'⟩] then bif m_sm [.slice (some ⟨0, 0, none⟩) m m, .agg ⟨g⟩] then bif cb' then .fail 420 else bif m_nns g && true then K [some (I (Int.ofNat m)), some (I set), some (.slice none 0 0), some (.slice (some ⟨0, 0, none⟩) m m), some (I (Int.ofNat 0))] [] [some (.cells g 3 0 1)] else .fail 420 else .fail 420 else .fail 420 else .fail 420 else .fail 420 else .fail 420 else .fail 420 else bif m_sm [I (Int.ofNat m)] then bif cb' then bif m_sm [.slice (some ⟨0, 0, none⟩) m m, .agg ⟨g⟩] then bif m_sm [.slice (some ⟨0, 0, none⟩) m m, .agg ⟨gc⟩] then bif cb then .fail 420 else bif m_sm [.slice (some ⟨0, 0, none⟩) m m, .agg ⟨g⟩] then bif cb' then bif m_same [.slice (some ⟨0, 0, none⟩) k' unk, .agg ⟨c'⟩, .slice (some ⟨0, 0, none⟩) k' unk, .agg ⟨c'⟩] [.slice (some ⟨0, 0, none⟩) k unk, .agg ⟨c⟩, .slice (some ⟨0, 0, none⟩) k unk, .agg ⟨c⟩] || m_sm [.slice (some ⟨0, 0, none⟩) k' unk, .agg ⟨c'⟩, .slice (some ⟨0, 0, none⟩) k' unk, .agg ⟨c'⟩] then bif m_nns g && true then K [some (I (Int.ofNat m)), some (I set), some (.slice none 0 0), some (.slice (some ⟨0, 0, none⟩) m m), some (I (Int.ofNat 0))] [] [some (.cells g 3 0 1)] else .fail 420 else .fail 420 else .fail 420 else .fail 420 else .fail 420 else .fail 420 else bif m_sm [.slice (some ⟨0, 0, none⟩) m m, .agg ⟨g⟩] then bif m_sm [.slice (some ⟨0, 0, none⟩) m m, .agg ⟨gc⟩] then bif cb then .fail 420 else bif m_sm [.slice (some ⟨0, 0, none⟩) m m, .agg ⟨g⟩] then bif cb' then .fail 420 else bif m_nns g && true then K [some (I (Int.ofNat m)), some (I set), some (.slice none 0 0), some (.slice (some ⟨0, 0, none⟩) m m), some (I (Int.ofNat 0))] [] [some (.cells g 3 0 1)] else .fail 420 else .fail 420 else .fail 420 else .fail 420 else .fail 420 else .fail 420 else .fail 420 else .fail 420 := by kernel_rfl

theorem plAN1 (r : Mem) (n set : Int)  (len : Nat) (e : List Value) (m : Nat) (g gc : List Value) (cb : Bool) (k : Nat) (c : List Value) (cb' : Bool) (k' : Nat) (c' : List Value) (is : Int → Bool) (er : Int → Int) (q : Int → Bool) (c3 : Bool) (k3 : Nat) (g3 : List Value) (K : OV → List Nat → OO → CR) (kx : Nat → KS) (KR : OV → List Nat → OO → CR) : run (SC r) 262087 130 1 (.seq La_0 (.seq La_1 (.seq La_2 (.seq La_3 (.seq La_4 (.seq La_5 La_6)))))) (lvlT (SC r) (tPl m (some (len, e)) g gc cb k c cb' k' c' is er q c3 k3 g3 (tPl1 [I n, (.slice none 0 0), I 16] m len e g)) .nil 1 1) none (rbK 0 lvLa [] K) kx (rbK 0 [6] [] KR) (sc0 262087 [I n, (.slice none 0 0), I set]) (tr0 262087 [I n, (.slice none 0 0), I set]) [] emptyA =
    bif m_sm [I n, .slice none 0 0, I (Int.ofNat 16)] then bif m_sm [I (Int.ofNat m), .slice (some ⟨0, 0, none⟩) len unk, .agg ⟨e⟩] then bif m_sm [I (Int.ofNat m), .slice (some ⟨0, 0, none⟩) len unk, .agg ⟨e⟩] then bif cb then bif m_sm [I (Int.ofNat m), .slice (some ⟨0, 0, none⟩) len unk, .agg ⟨e⟩] then bif cb' then bif m_sm [.slice (some ⟨0, 0, none⟩) m m, .agg ⟨g⟩] then bif m_sm [.slice (some ⟨0, 0, none⟩) m m, .agg ⟨gc⟩] then bif cb then bif m_same [.slice (some ⟨0, 0, none⟩) k unk, .agg ⟨c⟩, .slice (some ⟨0, 0, none⟩) k unk, .agg ⟨c⟩] [.slice (some ⟨0, 0, none⟩) k unk, .agg ⟨c⟩, .slice (some ⟨0, 0, none⟩) k unk, .agg ⟨c⟩] || m_same [.slice (some ⟨0, 0, none⟩) k unk, .agg ⟨c⟩, .slice (some ⟨0, 0, none⟩) k unk, .agg ⟨c⟩] [.slice (some ⟨0, 0, none⟩) k' unk, .agg ⟨c'⟩, .slice (some ⟨0, 0, none⟩) k' unk, .agg ⟨c'⟩] then bif m_sm [.slice (some ⟨0, 0, none⟩) m m, .agg ⟨g⟩] then bif cb' then bif m_same [.slice (some ⟨0, 0, none⟩) k' unk, .agg ⟨c'⟩, .slice (some ⟨0, 0, none⟩) k' unk, .agg ⟨c'⟩] [.slice (some ⟨0, 0, none⟩) k unk, .agg ⟨c⟩, .slice (some ⟨0, 0, none⟩) k unk, .agg ⟨c⟩] || m_sm [.slice (some ⟨0, 0, none⟩) k' unk, .agg ⟨c'⟩, .slice (some ⟨0, 0, none⟩) k' unk, .agg ⟨c'⟩] then bif m_nns e && (m_nns g && true) then K [some (I (Int.ofNat m)), some (I set), some (.slice (some ⟨0, 0, none⟩) len unk), some (.slice (some ⟨1, 0, none⟩) m m), some (I (Int.ofNat 0))] [] [some (.cells e 51 0 2), some (.cells g 3 1 1)] else .fail 420 else .fail 420 else .fail 420 else .fail 420 else .fail 420 else .fail 420 else .fail 420 else .fail 420 else bif m_sm [.slice (some ⟨0, 0, none⟩) m m, .agg ⟨g⟩] then bif m_sm [.slice (some ⟨0, 0, none⟩) m m, .agg ⟨gc⟩] then bif cb then bif m_same [.slice (some ⟨0, 0, none⟩) k unk, .agg ⟨c⟩, .slice (some ⟨0, 0, none⟩) k unk, .agg ⟨c⟩] [.slice (some ⟨0, 0, none⟩) k unk, .agg ⟨c⟩, .slice (some ⟨0, 0, none⟩) k unk, .agg ⟨c⟩] || m_same [.slice (some ⟨0, 0, none⟩) k unk, .agg ⟨c⟩, .slice (some ⟨0, 0, none⟩) k unk, .agg ⟨c⟩] [.slice (some ⟨0, 0, none⟩) k' unk, .agg ⟨c'⟩, .slice (some ⟨0, 0, none⟩) k' unk, .agg ⟨c'⟩] then bif m_sm [.slice (some ⟨0, 0, none⟩) m m, .agg ⟨g⟩] then bif cb' then .fail 420 else bif m_nns e && (m_nns g && true) then K [some (I (Int.ofNat m)), some (I set), some (.slice (some ⟨0, 0, none⟩) len unk), some (.slice (some ⟨1, 0, none⟩) m m), some (I (Int.ofNat 0))] [] [some (.cells e 51 0 2), some (.cells g 3 1 1)] else .fail 420 else .fail 420 else .fail 420 else .fail 420 else .fail 420 else .fail 420 else .fail 420 else bif m_sm [I (Int.ofNat m), .slice (some ⟨0, 0, none⟩) len unk, .agg ⟨e⟩] then bif cb' then bif m_sm [.slice (some ⟨0, 0, none⟩) m m, .agg ⟨g⟩] then bif m_sm [.slice (some ⟨0, 0, none⟩) m m, .agg ⟨gc⟩] then bif cb then .fail 420 else bif m_sm [.slice (some ⟨0, 0, none⟩) m m, .agg ⟨g⟩] then bif cb' then bif m_same [.slice (some ⟨0, 0, none⟩) k' unk, .agg ⟨c'⟩, .slice (some ⟨0, 0, none⟩) k' unk, .agg ⟨c'⟩] [.slice (some ⟨0, 0, none⟩) k unk, .agg ⟨c⟩, .slice (some ⟨0, 0, none⟩) k unk, .agg ⟨c⟩] || m_sm [.slice (some ⟨0, 0, none⟩) k' unk, .agg ⟨c'⟩, .slice (some ⟨0, 0, none⟩) k' unk, .agg ⟨c'⟩] then bif m_nns e && (m_nns g && true) then K [some (I (Int.ofNat m)), some (I set), some (.slice (some ⟨0, 0, none⟩) len unk), some (.slice (some ⟨1, 0, none⟩) m m), some (I (Int.ofNat 0))] [] [some (.cells e 51 0 2), some (.cells g 3 1 1)] else .fail 420 else .fail 420 else .fail 420 else .fail 420 else .fail 420 else .fail 420 else bif m_sm [.slice (some ⟨0, 0, none⟩) m m, .agg ⟨g⟩] then bif m_sm [.slice (some ⟨0, 0, none⟩) m m, .agg ⟨gc⟩] then bif cb then .fail 420 else bif m_sm [.slice (some ⟨0, 0, none⟩) m m, .agg ⟨g⟩] then bif cb' then .fail 420 else bif m_nns e && (m_nns g && true) then K [some (I (Int.ofNat m)), some (I set), some (.slice (some ⟨0, 0, none⟩) len unk), some (.slice (some ⟨1, 0, none⟩) m m), some (I (Int.ofNat 0))] [] [some (.cells e 51 0 2), some (.cells g 3 1 1)] else .fail 420 else .fail 420 else .fail 420 else .fail 420 else .fail 420 else .fail 420 else .fail 420 else .fail 420 := by kernel_rfl

theorem plAN0 (r : Mem) (n set : Int)   (m : Nat) (g gc : List Value) (cb : Bool) (k : Nat) (c : List Value) (cb' : Bool) (k' : Nat) (c' : List Value) (is : Int → Bool) (er : Int → Int) (q : Int → Bool) (c3 : Bool) (k3 : Nat) (g3 : List Value) (K : OV → List Nat → OO → CR) (kx : Nat → KS) (KR : OV → List Nat → OO → CR) : run (SC r) 262087 130 1 (.seq La_0 (.seq La_1 (.seq La_2 (.seq La_3 (.seq La_4 (.seq La_5 La_6)))))) (lvlT (SC r) (tPl m none g gc cb k c cb' k' c' is er q c3 k3 g3 (tPl0 [I n, (.slice none 0 0), I 16] m g)) .nil 1 1) none (rbK 0 lvLa [] K) kx (rbK 0 [6] [] KR) (sc0 262087 [I n, (.slice none 0 0), I set]) (tr0 262087 [I n, (.slice none 0 0), I set]) [] emptyA =
    bif m_sm [I n, .slice none 0 0, I (Int.ofNat 16)] then bif m_sm [I (Int.ofNat m), .slice none 0 0] then bif m_sm [I (Int.ofNat m)] then bif cb then bif m_sm [I (Int.ofNat m)] then bif cb' then bif m_sm [.slice (some ⟨0, 0, none⟩) m m, .agg ⟨g⟩] then bif m_sm [.slice (some ⟨0, 0, none⟩) m m, .agg ⟨gc⟩] then bif cb then bif m_same [.slice (some ⟨0, 0, none⟩) k unk, .agg ⟨c⟩, .slice (some ⟨0, 0, none⟩) k unk, .agg ⟨c⟩] [.slice (some ⟨0, 0, none⟩) k unk, .agg ⟨c⟩, .slice (some ⟨0, 0, none⟩) k unk, .agg ⟨c⟩] || m_same [.slice (some ⟨0, 0, none⟩) k unk, .agg ⟨c⟩, .slice (some ⟨0, 0, none⟩) k unk, .agg ⟨c⟩] [.slice (some ⟨0, 0, none⟩) k' unk, .agg ⟨c'⟩, .slice (some ⟨0, 0, none⟩) k' unk, .agg ⟨c'⟩] then bif m_sm [.slice (some ⟨0, 0, none⟩) m m, .agg ⟨g⟩] then bif cb' then bif m_same [.slice (some ⟨0, 0, none⟩) k' unk, .agg ⟨c'⟩, .slice (some ⟨0, 0, none⟩) k' unk, .agg ⟨c'⟩] [.slice (some ⟨0, 0, none⟩) k unk, .agg ⟨c⟩, .slice (some ⟨0, 0, none⟩) k unk, .agg ⟨c⟩] || m_sm [.slice (some ⟨0, 0, none⟩) k' unk, .agg ⟨c'⟩, .slice (some ⟨0, 0, none⟩) k' unk, .agg ⟨c'⟩] then bif m_nns g && true then K [some (I (Int.ofNat m)), some (I set), some (.slice none 0 0), some (.slice (some ⟨0, 0, none⟩) m m), some (I (Int.ofNat 0))] [] [some (.cells g 3 0 1)] else .fail 420 else .fail 420 else .fail 420 else .fail 420 else .fail 420 else .fail 420 else .fail 420 else .fail 420 else bif m_sm [.slice (some ⟨0, 0, none⟩) m m, .agg ⟨g⟩] then bif m_sm [.slice (some ⟨0, 0, none⟩) m m, .agg ⟨gc⟩] then bif cb then bif m_same [.slice (some ⟨0, 0, none⟩) k unk, .agg ⟨c⟩, .slice (some ⟨0, 0, none⟩) k unk, .agg ⟨c⟩] [.slice (some ⟨0, 0, none⟩) k unk, .agg ⟨c⟩, .slice (some ⟨0, 0, none⟩) k unk, .agg ⟨c⟩] || m_same [.slice (some ⟨0, 0, none⟩) k unk, .agg ⟨c⟩, .slice (some ⟨0, 0, none⟩) k unk, .agg ⟨c⟩] [.slice (some ⟨0, 0, none⟩) k' unk, .agg ⟨c'⟩, .slice (some ⟨0, 0, none⟩) k' unk, .agg ⟨c'⟩] then bif m_sm [.slice (some ⟨0, 0, none⟩) m m, .agg ⟨g⟩] then bif cb' then .fail 420 else bif m_nns g && true then K [some (I (Int.ofNat m)), some (I set), some (.slice none 0 0), some (.slice (some ⟨0, 0, none⟩) m m), some (I (Int.ofNat 0))] [] [some (.cells g 3 0 1)] else .fail 420 else .fail 420 else .fail 420 else .fail 420 else .fail 420 else .fail 420 else .fail 420 else bif m_sm [I (Int.ofNat m)] then bif cb' then bif m_sm [.slice (some ⟨0, 0, none⟩) m m, .agg ⟨g⟩] then bif m_sm [.slice (some ⟨0, 0, none⟩) m m, .agg ⟨gc⟩] then bif cb then .fail 420 else bif m_sm [.slice (some ⟨0, 0, none⟩) m m, .agg ⟨g⟩] then bif cb' then bif m_same [.slice (some ⟨0, 0, none⟩) k' unk, .agg ⟨c'⟩, .slice (some ⟨0, 0, none⟩) k' unk, .agg ⟨c'⟩] [.slice (some ⟨0, 0, none⟩) k unk, .agg ⟨c⟩, .slice (some ⟨0, 0, none⟩) k unk, .agg ⟨c⟩] || m_sm [.slice (some ⟨0, 0, none⟩) k' unk, .agg ⟨c'⟩, .slice (some ⟨0, 0, none⟩) k' unk, .agg ⟨c'⟩] then bif m_nns g && true then K [some (I (Int.ofNat m)), some (I set), some (.slice none 0 0), some (.slice (some ⟨0, 0, none⟩) m m), some (I (Int.ofNat 0))] [] [some (.cells g 3 0 1)] else .fail 420 else .fail 420 else .fail 420 else .fail 420 else .fail 420 else .fail 420 else bif m_sm [.slice (some ⟨0, 0, none⟩) m m, .agg ⟨g⟩] then bif m_sm [.slice (some ⟨0, 0, none⟩) m m, .agg ⟨gc⟩] then bif cb then .fail 420 else bif m_sm [.slice (some ⟨0, 0, none⟩) m m, .agg ⟨g⟩] then bif cb' then .fail 420 else bif m_nns g && true then K [some (I (Int.ofNat m)), some (I set), some (.slice none 0 0), some (.slice (some ⟨0, 0, none⟩) m m), some (I (Int.ofNat 0))] [] [some (.cells g 3 0 1)] else .fail 420 else .fail 420 else .fail 420 else .fail 420 else .fail 420 else .fail 420 else .fail 420 else .fail 420 := by kernel_rfl

theorem plB1 (r : Mem) (set i : Int) (len : Nat) (e : List Value) (m : Nat) (g gc : List Value) (cb : Bool) (k : Nat) (c : List Value) (cb' : Bool) (k' : Nat) (c' : List Value) (is : Int → Bool) (er : Int → Int) (q : Int → Bool) (c3 : Bool) (k3 : Nat) (g3 : List Value) (K : OV → List Nat → OO → CR) (KX : Nat → OV → List Nat → OO → CR) (KR : OV → List Nat → OO → CR) : run (SC r) 262087 130 1 La_7 (lvlT (SC r) (tPl m (some (len, e)) g gc cb k c cb' k' c' is er q c3 k3 g3 fun _ => none) .nil 1 1) none (rbK 0 lvLa [] K) (fun i => rbK 0 [0, 7, 8] [] (KX i)) (rbK 0 [6] [] KR) [] (bT lvLa (vLa1 m len set i) .nil) [] (mkA (oLa1 e g)) =
    bif decide (i < 2) then bif m_sm [I (Int.ofNat m), .slice (some ⟨0, 0, none⟩) len unk, .agg ⟨e⟩] then bif is set then bif decide (set < 0) then bif er set != Int.ofNat 1 then KR [some (.bool false)] [] [] else KR [some (.bool false)] [] [] else bif m_sm [.slice (some ⟨0, 0, none⟩) m m, .agg ⟨g⟩] then bif decide (set > Int.ofNat (2 ^ m - 1)) then bif er set != Int.ofNat 1 then KR [some (.bool false)] [] [] else KR [some (.bool false)] [] [] else bif er set != Int.ofNat 0 then KR [some (.bool false)] [] [] else bif m_same [.slice (some ⟨0, 0, none⟩) m m, .agg ⟨g⟩] [.slice (some ⟨0, 0, none⟩) m m, .agg ⟨g⟩] && m_w16 set then bif q set then bif m_sm [.slice (some ⟨0, 0, none⟩) m m, .agg ⟨g⟩] then bif !decide (IntKind.wrap .u64 (IntKind.wrap .i64 (Int.ofNat (2 ^ m - 1) + Int.ofNat 1)) = 0) then bif m_nns e && (m_nns g && true) then K [some (I (Int.ofNat m)), some (I (IntKind.wrap .i64 (Int.tmod (IntKind.wrap .u64 set) (IntKind.wrap .u64 (IntKind.wrap .i64 (Int.ofNat (2 ^ m - 1) + Int.ofNat 1)))))), some (.slice (some ⟨0, 0, none⟩) len unk), some (.slice (some ⟨1, 0, none⟩) m m), some (I (IntKind.wrap .i64 (i + Int.ofNat 1)))] [] [some (.cells e 51 0 2), some (.cells g 3 1 1)] else .fail 420 else .fail 420 else .fail 420 else KR [some (.bool false)] [] [] else .fail 420 else .fail 420 else bif decide (set < 0) then bif er set != Int.ofNat 1 then KR [some (.bool false)] [] [] else bif m_sm [.slice (some ⟨0, 0, none⟩) m m, .agg ⟨g⟩] then bif !decide (IntKind.wrap .u64 (IntKind.wrap .i64 (Int.ofNat (2 ^ m - 1) + Int.ofNat 1)) = 0) then bif m_nns e && (m_nns g && true) then K [some (I (Int.ofNat m)), some (I (IntKind.wrap .i64 (Int.tmod (IntKind.wrap .u64 set) (IntKind.wrap .u64 (IntKind.wrap .i64 (Int.ofNat (2 ^ m - 1) + Int.ofNat 1)))))), some (.slice (some ⟨0, 0, none⟩) len unk), some (.slice (some ⟨1, 0, none⟩) m m), some (I (IntKind.wrap .i64 (i + Int.ofNat 1)))] [] [some (.cells e 51 0 2), some (.cells g 3 1 1)] else .fail 420 else .fail 420 else .fail 420 else bif m_sm [.slice (some ⟨0, 0, none⟩) m m, .agg ⟨g⟩] then bif decide (set > Int.ofNat (2 ^ m - 1)) then bif er set != Int.ofNat 1 then KR [some (.bool false)] [] [] else bif m_sm [.slice (some ⟨0, 0, none⟩) m m, .agg ⟨g⟩] then bif !decide (IntKind.wrap .u64 (IntKind.wrap .i64 (Int.ofNat (2 ^ m - 1) + Int.ofNat 1)) = 0) then bif m_nns e && (m_nns g && true) then K [some (I (Int.ofNat m)), some (I (IntKind.wrap .i64 (Int.tmod (IntKind.wrap .u64 set) (IntKind.wrap .u64 (IntKind.wrap .i64 (Int.ofNat (2 ^ m - 1) + Int.ofNat 1)))))), some (.slice (some ⟨0, 0, none⟩) len unk), some (.slice (some ⟨1, 0, none⟩) m m), some (I (IntKind.wrap .i64 (i + Int.ofNat 1)))] [] [some (.cells e 51 0 2), some (.cells g 3 1 1)] else .fail 420 else .fail 420 else .fail 420 else bif er set != Int.ofNat 0 then KR [some (.bool false)] [] [] else bif m_same [.slice (some ⟨0, 0, none⟩) m m, .agg ⟨g⟩] [.slice (some ⟨0, 0, none⟩) m m, .agg ⟨g⟩] && m_w16 set then bif q set then KR [some (.bool false)] [] [] else bif m_sm [.slice (some ⟨0, 0, none⟩) m m, .agg ⟨g⟩] then bif !decide (IntKind.wrap .u64 (IntKind.wrap .i64 (Int.ofNat (2 ^ m - 1) + Int.ofNat 1)) = 0) then bif m_nns e && (m_nns g && true) then K [some (I (Int.ofNat m)), some (I (IntKind.wrap .i64 (Int.tmod (IntKind.wrap .u64 set) (IntKind.wrap .u64 (IntKind.wrap .i64 (Int.ofNat (2 ^ m - 1) + Int.ofNat 1)))))), some (.slice (some ⟨0, 0, none⟩) len unk), some (.slice (some ⟨1, 0, none⟩) m m), some (I (IntKind.wrap .i64 (i + Int.ofNat 1)))] [] [some (.cells e 51 0 2), some (.cells g 3 1 1)] else .fail 420 else .fail 420 else .fail 420 else .fail 420 else .fail 420 else .fail 420 else bif m_nns e && (m_nns g && true) then KX 0 [some (I (Int.ofNat m)), some (.slice (some ⟨0, 0, none⟩) len unk), some (.slice (some ⟨1, 0, none⟩) m m)] [] [some (.cells e 51 0 2), some (.cells g 3 1 1)] else .fail 420 := by kernel_rfl

theorem plC1 (r : Mem) (len : Nat) (e : List Value) (m : Nat) (g gc : List Value) (cb : Bool) (k : Nat) (c : List Value) (cb' : Bool) (k' : Nat) (c' : List Value) (is : Int → Bool) (er : Int → Int) (q : Int → Bool) (c3 : Bool) (k3 : Nat) (g3 : List Value) (K : OV → List Nat → OO → CR) (kx : Nat → KS) (KR : OV → List Nat → OO → CR) : run (SC r) 262087 130 1 La_8 (lvlT (SC r) (tPl m (some (len, e)) g gc cb k c cb' k' c' is er q c3 k3 g3 fun _ => none) .nil 1 1) none (rbK 0 [6] [] K) kx (rbK 0 [6] [] KR) [] (bT [0, 7, 8] [some (I (m : Nat)), some (.slice (some ⟨0, 0, none⟩) len unk), some (.slice (some ⟨1, 0, none⟩) m m)] .nil) [] (mkA (oLa1 e g)) =
    bif m_sm [I (Int.ofNat m), .slice (some ⟨0, 0, none⟩) len unk, .agg ⟨e⟩] then bif c3 then bif decide (Int.ofNat m > 10) then KR [some (.bool false)] [] [] else bif m_sm [.slice (some ⟨0, 0, none⟩) m m, .agg ⟨g⟩] then bif m_sm [.slice (some ⟨0, 0, none⟩) k3 k3, .agg ⟨g3⟩, .slice (some ⟨0, 0, none⟩) k3 unk, .agg ⟨g3⟩] then KR [some (.bool true)] [] [] else .fail 420 else .fail 420 else bif decide (Int.ofNat m > 10) then KR [some (.bool true)] [] [] else KR [some (.bool false)] [] [] else .fail 420 := by kernel_rfl

theorem plB0 (r : Mem) (set i : Int)  (m : Nat) (g gc : List Value) (cb : Bool) (k : Nat) (c : List Value) (cb' : Bool) (k' : Nat) (c' : List Value) (is : Int → Bool) (er : Int → Int) (q : Int → Bool) (c3 : Bool) (k3 : Nat) (g3 : List Value) (K : OV → List Nat → OO → CR) (KX : Nat → OV → List Nat → OO → CR) (KR : OV → List Nat → OO → CR) : run (SC r) 262087 130 1 La_7 (lvlT (SC r) (tPl m none g gc cb k c cb' k' c' is er q c3 k3 g3 fun _ => none) .nil 1 1) none (rbK 0 lvLa [] K) (fun i => rbK 0 [0, 7, 8] [] (KX i)) (rbK 0 [6] [] KR) [] (bT lvLa (vLa0 m set i) .nil) [] (mkA (oLa0 g)) =
    bif decide (i < 2) then bif m_sm [I (Int.ofNat m)] then bif is set then bif decide (set < 0) then bif er set != Int.ofNat 1 then KR [some (.bool false)] [] [] else KR [some (.bool false)] [] [] else bif m_sm [.slice (some ⟨0, 0, none⟩) m m, .agg ⟨g⟩] then bif decide (set > Int.ofNat (2 ^ m - 1)) then bif er set != Int.ofNat 1 then KR [some (.bool false)] [] [] else KR [some (.bool false)] [] [] else bif er set != Int.ofNat 0 then KR [some (.bool false)] [] [] else bif m_same [.slice (some ⟨0, 0, none⟩) m m, .agg ⟨g⟩] [.slice (some ⟨0, 0, none⟩) m m, .agg ⟨g⟩] && m_w16 set then bif q set then bif m_sm [.slice (some ⟨0, 0, none⟩) m m, .agg ⟨g⟩] then bif !decide (IntKind.wrap .u64 (IntKind.wrap .i64 (Int.ofNat (2 ^ m - 1) + Int.ofNat 1)) = 0) then bif m_nns g && true then K [some (I (Int.ofNat m)), some (I (IntKind.wrap .i64 (Int.tmod (IntKind.wrap .u64 set) (IntKind.wrap .u64 (IntKind.wrap .i64 (Int.ofNat (2 ^ m - 1) + Int.ofNat 1)))))), some (.slice none 0 0), some (.slice (some ⟨0, 0, none⟩) m m), some (I (IntKind.wrap .i64 (i + Int.ofNat 1)))] [] [some (.cells g 3 0 1)] else .fail 420 else .fail 420 else .fail 420 else KR [some (.bool false)] [] [] else .fail 420 else .fail 420 else bif decide (set < 0) then bif er set != Int.ofNat 1 then KR [some (.bool false)] [] [] else bif m_sm [.slice (some ⟨0, 0, none⟩) m m, .agg ⟨g⟩] then bif !decide (IntKind.wrap .u64 (IntKind.wrap .i64 (Int.ofNat (2 ^ m - 1) + Int.ofNat 1)) = 0) then bif m_nns g && true then K [some (I (Int.ofNat m)), some (I (IntKind.wrap .i64 (Int.tmod (IntKind.wrap .u64 set) (IntKind.wrap .u64 (IntKind.wrap .i64 (Int.ofNat (2 ^ m - 1) + Int.ofNat 1)))))), some (.slice none 0 0), some (.slice (some ⟨0, 0, none⟩) m m), some (I (IntKind.wrap .i64 (i + Int.ofNat 1)))] [] [some (.cells g 3 0 1)] else .fail 420 else .fail 420 else .fail 420 else bif m_sm [.slice (some ⟨0, 0, none⟩) m m, .agg ⟨g⟩] then bif decide (set > Int.ofNat (2 ^ m - 1)) then bif er set != Int.ofNat 1 then KR [some (.bool false)] [] [] else bif m_sm [.slice (some ⟨0, 0, none⟩) m m, .agg ⟨g⟩] then bif !decide (IntKind.wrap .u64 (IntKind.wrap .i64 (Int.ofNat (2 ^ m - 1) + Int.ofNat 1)) = 0) then bif m_nns g && true then K [some (I (Int.ofNat m)), some (I (IntKind.wrap .i64 (Int.tmod (IntKind.wrap .u64 set) (IntKind.wrap .u64 (IntKind.wrap .i64 (Int.ofNat (2 ^ m - 1) + Int.ofNat 1)))))), some (.slice none 0 0), some (.slice (some ⟨0, 0, none⟩) m m), some (I (IntKind.wrap .i64 (i + Int.ofNat 1)))] [] [some (.cells g 3 0 1)] else .fail 420 else .fail 420 else .fail 420 else bif er set != Int.ofNat 0 then KR [some (.bool false)] [] [] else bif m_same [.slice (some ⟨0, 0, none⟩) m m, .agg ⟨g⟩] [.slice (some ⟨0, 0, none⟩) m m, .agg ⟨g⟩] && m_w16 set then bif q set then KR [some (.bool false)] [] [] else bif m_sm [.slice (some ⟨0, 0, none⟩) m m, .agg ⟨g⟩] then bif !decide (IntKind.wrap .u64 (IntKind.wrap .i64 (Int.ofNat (2 ^ m - 1) + Int.ofNat 1)) = 0) then bif m_nns g && true then K [some (I (Int.ofNat m)), some (I (IntKind.wrap .i64 (Int.tmod (IntKind.wrap .u64 set) (IntKind.wrap .u64 (IntKind.wrap .i64 (Int.ofNat (2 ^ m - 1) + Int.ofNat 1)))))), some (.slice none 0 0), some (.slice (some ⟨0, 0, none⟩) m m), some (I (IntKind.wrap .i64 (i + Int.ofNat 1)))] [] [some (.cells g 3 0 1)] else .fail 420 else .fail 420 else .fail 420 else .fail 420 else .fail 420 else .fail 420 else bif m_nns g && true then KX 0 [some (I (Int.ofNat m)), some (.slice none 0 0), some (.slice (some ⟨0, 0, none⟩) m m)] [] [some (.cells g 3 0 1)] else .fail 420 := by kernel_rfl

theorem plC0 (r : Mem)  (m : Nat) (g gc : List Value) (cb : Bool) (k : Nat) (c : List Value) (cb' : Bool) (k' : Nat) (c' : List Value) (is : Int → Bool) (er : Int → Int) (q : Int → Bool) (c3 : Bool) (k3 : Nat) (g3 : List Value) (K : OV → List Nat → OO → CR) (kx : Nat → KS) (KR : OV → List Nat → OO → CR) : run (SC r) 262087 130 1 La_8 (lvlT (SC r) (tPl m none g gc cb k c cb' k' c' is er q c3 k3 g3 fun _ => none) .nil 1 1) none (rbK 0 [6] [] K) kx (rbK 0 [6] [] KR) [] (bT [0, 7, 8] [some (I (m : Nat)), some (.slice none 0 0), some (.slice (some ⟨0, 0, none⟩) m m)] .nil) [] (mkA (oLa0 g)) =
    bif m_sm [I (Int.ofNat m)] then bif c3 then bif decide (Int.ofNat m > 10) then KR [some (.bool false)] [] [] else bif m_sm [.slice (some ⟨0, 0, none⟩) m m, .agg ⟨g⟩] then bif m_sm [.slice (some ⟨0, 0, none⟩) k3 k3, .agg ⟨g3⟩, .slice (some ⟨0, 0, none⟩) k3 unk, .agg ⟨g3⟩] then KR [some (.bool true)] [] [] else .fail 420 else .fail 420 else bif decide (Int.ofNat m > 10) then KR [some (.bool true)] [] [] else KR [some (.bool false)] [] [] else .fail 420 := by kernel_rfl

end Go.Proofs

/- The law of modules: its entries hold. -/
namespace Go.Proofs
open Go Go.Ev Go.Num
set_option linter.unusedVariables false
set_option linter.unusedSimpArgs false
set_option maxRecDepth 100000

def XOk (m : Nat) (E : List (Nat × Nat)) (x : XE) : Prop := (x = none ∧ E = []) ∨ x = some (E.length, pcE E)
theorem gX_use {r : Mem} (hm : Tab r) {m : Nat} {E : List (Nat × Nat)} (hL : E.length ≤ 1000000) {x : XE} (hx : XOk m E x) {a b : Value} {l : List Value} (hl : gnds l = true) {A : AW} (hg : gX m x [a, b] A = true) {γ : Gam} {W : World} (hw : WRel γ A W) (hR : Ro r γ W) {args' : Array Value} (ha : VsRel γ (a :: b :: l) args'.toList) :
  ∃ sl, VsRel noG (I (m : Nat) :: sl :: l) args'.toList ∧ ((sl = .slice none 0 0 ∧ E = []) ∨ ∃ b0 off, sl = RS2 b0 off E.length 0 ∧ rowAt (memW W) b0 off (2 * E.length) (zE E)) := by
 unfold gX at hg
 split at hg
 ·rename_i n i k l' cap heq
  simp only [List.cons.injEq, and_true] at heq
  obtain ⟨rfl, rfl⟩ := heq
  split at hg
  ·rename_i len c
   split at hg
   ·rename_i c' e f z hget
    have hs := @of_decide_eq_true _ (Classical.propDecidable _) hg
    simp only [List.cons.injEq, Value.int.injEq, Value.slice.injEq, Option.some.injEq, Addr.mk.injEq, Value.agg.injEq, Array.mk.injEq, and_true, true_and] at hs
    obtain ⟨rfl, ⟨rfl, rfl, rfl⟩, rfl⟩ := hs
    rcases hx with ⟨h, _⟩ | h
    ·cases h
    ·simp only [Option.some.injEq, Prod.mk.injEq] at h
     obtain ⟨rfl, rfl⟩ := h
     obtain ⟨b0, k', p1, p2, p3⟩ := own_mem hw hR hget (okL2_E E hL) rfl hl ha
     exact ⟨_, p1, .inr ⟨b0, k', rfl, rowE p2⟩⟩
   ·cases hg
  ·cases hg
 ·rename_i n heq
  simp only [List.cons.injEq, and_true] at heq
  obtain ⟨rfl, rfl⟩ := heq
  split at hg
  ·have hs := @of_decide_eq_true _ (Classical.propDecidable _) hg
   simp only [List.cons.injEq, Value.int.injEq, and_true, true_and] at hs
   subst hs
   rcases hx with ⟨_, h⟩ | h
   ·refine ⟨.slice none 0 0, ?_, .inl ⟨rfl, h⟩⟩
    have hgn : gnds (I (m : Nat) :: .slice none 0 0 :: l) = true := by
     show (gnd (I (m : Nat)) && (gnd (.slice none 0 0) && gnds l)) = true
     rw [hl]; rfl
    rw [ha.eq_of_gnds hgn]
    exact VsRel.of_gnds noG _ hgn
   ·cases h
  ·cases hg
 ·cases hg

theorem readX {r : Mem} (hm : Tab r) {m : Nat} (h1 : 1 ≤ m) (hm16 : m ≤ 16) {E : List (Nat × Nat)} (hE : okAll (m : Int) (zE E) E.length = true) (hL : E.length ≤ 1000000) {sl : Value} (h : (sl = .slice none 0 0 ∧ E = []) ∨ ∃ b0 off, sl = RS2 b0 off E.length 0 ∧ rowAt r b0 off (2 * E.length) (zE E)) :
  GrT Tryz.prog r 23 [I (m : Nat), sl] (.tuple ⟨[.agg ⟨gC (m : Nat) fun i => (wS E i : Nat)⟩, I 0]⟩) := by
 rcases h with ⟨rfl, rfl⟩ | ⟨b0, off, rfl, hz⟩
 ·exact readN r h1 hm16
 ·exact readR r hm h1 hm16 hE hL b0 off 0 hz

theorem eIs_ok (r : Mem) (hm : Tab r) {m : Nat} (h1 : 1 ≤ m) (hm16 : m ≤ 16) {E : List (Nat × Nat)} (hE : okAll (m : Int) (zE E) E.length = true) (hL : E.length ≤ 1000000) {x : XE} (hx : XOk m E x) : EOk (SC r) 13 (eIs m x (isF (2 ^ m - 1) (imN (wS E) m)) (erF (2 ^ m - 1))) := EOk.ent fun args A hg => by
 split at hg
 ·rename_i a b s
  refine POk.of rfl fun γ W args' hw hR ha => ?_
  obtain ⟨sl, p1, h⟩ := gX_use hm hL hx (l := [I s]) rfl hg hw hR ha
  have hr := readX (memW_tab hm hR) h1 hm16 hE hL h
  refine ⟨memW W, _, memW_ro W, p1, ?_⟩
  rcases h with ⟨rfl, rfl⟩ | ⟨b0, off, rfl, hz⟩
  ·exact pisN (memW W) (memW_tab hm hR) hm16 (wS_lt hm16 hE) hr s
  ·exact pisR (memW W) (memW_tab hm hR) hm16 (wS_lt hm16 hE) b0 off E.length 0 hr s
 ·cases hg

theorem gX_two {m : Nat} {x : XE} {args : List Value} {A : AW} (hg : gX m x args A = true) : ∃ a b, args = [a, b] := by
 unfold gX at hg
 split at hg
 ·exact ⟨_, _, rfl⟩
 ·exact ⟨_, _, rfl⟩
 ·cases hg
theorem eCoC_ok (r : Mem) (hm : Tab r) {m : Nat} (h1 : 1 ≤ m) (hm16 : m ≤ 16) {E : List (Nat × Nat)} (hE : okAll (m : Int) (zE E) E.length = true) (hL : E.length ≤ 1000000) {x : XE} (hx : XOk m E x) : EOk (SC r) 7 (eCo m x (!(coE (wS E) m).isEmpty) (coE (wS E) m).length (pcE (coE (wS E) m))) := fun args A hgd F hF kk γ W args' hw hR ha => by
 have hgd : gX m x args A = true := hgd
 obtain ⟨a, b, rfl⟩ := gX_two hgd
 refine ⟨fun hc => ?_, fun hc => ?_⟩
 ·obtain ⟨sl, p1, h⟩ := gX_use hm hL hx (l := []) rfl hgd hw hR ha
  have hr := readX (memW_tab hm hR) h1 hm16 hE hL h
  have hc : (!(coE (wS E) m).isEmpty) = true := hc
  cases hC : coE (wS E) m with
  | nil => rw [hC] at hc; cases hc
  | cons p l =>
   have hof : ofV 0 (.tuple ⟨[rowV 0 (l.length + 1), I 0]⟩) = true := by simp [ofV, of1, gnd]
   rcases h with ⟨rfl, rfl⟩ | ⟨b0, off, rfl, hz⟩
   ·exact (pcoN (memW W) hm16 (wS_lt hm16 hE) hr hC).ends (γ := γ) (A := A) hof (pcE_gnd _) hF hw (memW_ro W) p1 ha
   ·exact (pcoR (memW W) hm16 (wS_lt hm16 hE) b0 off E.length 0 hr hC).ends (γ := γ) (A := A) hof (pcE_gnd _) hF hw (memW_ro W) p1 ha
 ·have hc : (!(coE (wS E) m).isEmpty) = false := hc
  have hC : coE (wS E) m = [] := by
   generalize coE (wS E) m = L at hc
   cases L with
   | nil => rfl
   | cons p l => cases hc
  refine (POk.of (C := SC r) (A := A) rfl fun γ W args' hw hR ha => ?_).ends hF hw hR ha
  obtain ⟨sl, p1, h⟩ := gX_use hm hL hx (l := []) rfl hgd hw hR ha
  have hr := readX (memW_tab hm hR) h1 hm16 hE hL h
  refine ⟨memW W, _, memW_ro W, p1, ?_⟩
  rcases h with ⟨rfl, rfl⟩ | ⟨b0, off, rfl, hz⟩
  ·exact pcoN0 (memW W) hm16 (wS_lt hm16 hE) hr hC
  ·exact pcoR0 (memW W) hm16 (wS_lt hm16 hE) b0 off E.length 0 hr hC
def twE (w : Nat → Nat) (m : Nat) : List (Nat × Nat) := alP (fun i j => imN w m (2 ^ i ||| 2 ^ j)) m m
theorem tMo_ok (r : Mem) (hm : Tab r) {m : Nat} (hm16 : m ≤ 16) {w : Nat → Nat} (hw : ∀ i, w i < 65536) : TOk (SC r) (tMo (gC (m : Nat) fun i => (w i : Nat)) fun s => imN w m s.toNat) := TOk.cons TOk.nil (eIm_ok r hm hm16 hw)
theorem ptwM {r : Mem} {a0 : List Value} {p : Nat × Nat} {l : List (Nat × Nat)} {L : List (Nat × Nat)} (hC : L = p :: l) (h : SOk (SC r) 8 a0 emptyA fun v A => v = .tuple ⟨[vL L, I 0]⟩ ∧ A = mkA (oL L)) : GrM Tryz.prog r 8 a0 (.tuple ⟨[rowV 0 (l.length + 1), I 0]⟩) (rowA (pcE (p :: l)) 51 2) := by
 subst hC
 exact GrM.ofS (C := SC r) rfl rfl h
theorem ptwT {r : Mem} {a0 : List Value} {L : List (Nat × Nat)} (hC : L = []) (h : SOk (SC r) 8 a0 emptyA fun v A => v = .tuple ⟨[vL L, I 0]⟩ ∧ A = mkA (oL L)) : GrT Tryz.prog r 8 a0 (.tuple ⟨[.slice none 0 0, I 0]⟩) := by
 subst hC
 exact GrT.ofS (C := SC r) rfl rfl rfl fun F hF k γ W args' hw hR ha => (h F hF k γ W args' hw hR ha).mono fun e W' ⟨u, B, ⟨h, _⟩, he⟩ => ⟨u, B, h, he⟩
theorem eCoT_ok (r : Mem) (hm : Tab r) {m : Nat} (h1 : 1 ≤ m) (hm16 : m ≤ 16) {E : List (Nat × Nat)} (hE : okAll (m : Int) (zE E) E.length = true) (hL : E.length ≤ 1000000) {x : XE} (hx : XOk m E x) : EOk (SC r) 8 (eCo m x (!(twE (wS E) m).isEmpty) (twE (wS E) m).length (pcE (twE (wS E) m))) := fun args A hgd F hF kk γ W args' hw hR ha => by
 have hgd : gX m x args A = true := hgd
 obtain ⟨a, b, rfl⟩ := gX_two hgd
 refine ⟨fun hc => ?_, fun hc => ?_⟩
 ·obtain ⟨sl, p1, h⟩ := gX_use hm hL hx (l := []) rfl hgd hw hR ha
  have hr := readX (memW_tab hm hR) h1 hm16 hE hL h
  have hc : (!(twE (wS E) m).isEmpty) = true := hc
  cases hC : twE (wS E) m with
  | nil => rw [hC] at hc; cases hc
  | cons p l =>
   have hof : ofV 0 (.tuple ⟨[rowV 0 (l.length + 1), I 0]⟩) = true := by simp [ofV, of1, gnd]
   rcases h with ⟨rfl, rfl⟩ | ⟨b0, off, rfl, hz⟩
   ·exact (ptwM hC (twinsN (memW W) hm16 (tMo_ok (memW W) (memW_tab hm hR) hm16 (wS_lt hm16 hE)) hr)).ends (γ := γ) (A := A) hof (pcE_gnd _) hF hw (memW_ro W) p1 ha
   ·exact (ptwM hC (twinsR (memW W) hm16 b0 off E.length 0 (tMo_ok (memW W) (memW_tab hm hR) hm16 (wS_lt hm16 hE)) hr)).ends (γ := γ) (A := A) hof (pcE_gnd _) hF hw (memW_ro W) p1 ha
 ·have hc : (!(twE (wS E) m).isEmpty) = false := hc
  have hC : twE (wS E) m = [] := by
   generalize twE (wS E) m = L at hc
   cases L with
   | nil => rfl
   | cons p l => cases hc
  refine (POk.of (C := SC r) (A := A) rfl fun γ W args' hw hR ha => ?_).ends hF hw hR ha
  obtain ⟨sl, p1, h⟩ := gX_use hm hL hx (l := []) rfl hgd hw hR ha
  have hr := readX (memW_tab hm hR) h1 hm16 hE hL h
  refine ⟨memW W, _, memW_ro W, p1, ?_⟩
  rcases h with ⟨rfl, rfl⟩ | ⟨b0, off, rfl, hz⟩
  ·exact ptwT hC (twinsN (memW W) hm16 (tMo_ok (memW W) (memW_tab hm hR) hm16 (wS_lt hm16 hE)) hr)
  ·exact ptwT hC (twinsR (memW W) hm16 b0 off E.length 0 (tMo_ok (memW W) (memW_tab hm hR) hm16 (wS_lt hm16 hE)) hr)

theorem eMd_ok (r : Mem) (hm : Tab r) {m : Nat} (h1 : 1 ≤ m) (hm16 : m ≤ 16) {E : List (Nat × Nat)} (hE : okAll (m : Int) (zE E) E.length = true) (hL : E.length ≤ 1000000) {x : XE} (hx : XOk m E x) {p : Nat} {l : List Nat} (hl : moL (imN (wS E) m) (2 ^ m) = p :: l) : EOk (SC r) 16 (eMd m x (decide (m ≤ 10)) (l.length + 1) (m_ws (p :: l))) := fun args A hgd F hF kk γ W args' hw hR ha => by
 have hgd : gX m x args A = true := hgd
 obtain ⟨a, b, rfl⟩ := gX_two hgd
 refine ⟨fun hc => ?_, fun hc => ?_⟩
 ·obtain ⟨sl, p1, h⟩ := gX_use hm hL hx (l := []) rfl hgd hw hR ha
  have hr := readX (memW_tab hm hR) h1 hm16 hE hL h
  have hc : m ≤ 10 := of_decide_eq_true hc
  have hof : ofV 0 (.tuple ⟨[.slice (some ⟨0, 0, none⟩) (l.length + 1) (l.length + 1), I 0]⟩) = true := by simp [ofV, of1, gnd]
  rcases h with ⟨rfl, rfl⟩ | ⟨b0, off, rfl, hz⟩
  ·exact ((pmoN (memW W) (memW_tab hm hR) h1 hm16 (wS_lt hm16 hE) hr hl).1 hc).ends (γ := γ) (A := A) hof (ws_gnd _) hF hw (memW_ro W) p1 ha
  ·exact ((pmoR (memW W) (memW_tab hm hR) h1 hm16 (wS_lt hm16 hE) b0 off E.length 0 hr hl).1 hc).ends (γ := γ) (A := A) hof (ws_gnd _) hF hw (memW_ro W) p1 ha
 ·have hc : ¬ m ≤ 10 := of_decide_eq_false hc
  refine (POk.of (C := SC r) (A := A) rfl fun γ W args' hw hR ha => ?_).ends hF hw hR ha
  obtain ⟨sl, p1, h⟩ := gX_use hm hL hx (l := []) rfl hgd hw hR ha
  have hr := readX (memW_tab hm hR) h1 hm16 hE hL h
  refine ⟨memW W, _, memW_ro W, p1, ?_⟩
  rcases h with ⟨rfl, rfl⟩ | ⟨b0, off, rfl, hz⟩
  ·exact (pmoN (memW W) (memW_tab hm hR) h1 hm16 (wS_lt hm16 hE) hr hl).2 (by omega)
  ·exact (pmoR (memW W) (memW_tab hm hR) h1 hm16 (wS_lt hm16 hE) b0 off E.length 0 hr hl).2 (by omega)

end Go.Proofs

/- The law of modules: its entries over the reference's graph, over two rows. -/
namespace Go.Proofs
open Go Go.Ev Go.Num
set_option linter.unusedVariables false
set_option linter.unusedSimpArgs false
set_option maxRecDepth 100000

abbrev gR (m : Nat) (E : List (Nat × Nat)) : List Value := m_ws (nbN m (zE E) E.length)
theorem wR_lt {m : Nat} (hm16 : m ≤ 16) {E : List (Nat × Nat)} (hE : okAll (m : Int) (zE E) E.length = true) (k : Nat) : wR m E k < 65536 := getD_lt (nbN_lt m (zE E) (n := (m : Int)) (by omega) E.length fun i hi => okAll_at hE i hi) k
theorem gG_use {r : Mem} {m : Nat} (hm16 : m ≤ 16) {ws : List Nat} (hlw : ws.length = m) {a : Value} {l : List Value} (hl : gnds l = true) {A : AW} (hg : gG m (m_ws ws) [a] A = true) {γ : Gam} {W : World} (hw : WRel γ A W) (hR : Ro r γ W) {args' : Array Value} (ha : VsRel γ (a :: l) args'.toList) :
  ∃ b k', VsRel noG (RS b k' m 0 :: l) args'.toList ∧ ∀ k, k < m → memW W b (k' + k) = some (I (ws.getD k 0 : Nat)) := by
 unfold gG at hg
 split at hg
 ·rename_i i k l' cap heq
  simp only [List.cons.injEq, and_true] at heq
  subst heq
  split at hg
  ·rename_i c' e f z hget
   have hs := @of_decide_eq_true _ (Classical.propDecidable _) hg
   simp only [List.cons.injEq, Value.slice.injEq, Option.some.injEq, Addr.mk.injEq, Value.agg.injEq, Array.mk.injEq, and_true, true_and] at hs
   obtain ⟨⟨rfl, rfl, rfl⟩, rfl⟩ := hs
   exact own_ws hw hR hm16 hlw hget hl ha
  ·cases hg
 ·cases hg
theorem gG_one {m : Nat} {g : List Value} {args : List Value} {A : AW} (hg : gG m g args A = true) : ∃ a, args = [a] := by
 unfold gG at hg
 split at hg
 ·exact ⟨_, rfl⟩
 ·cases hg

theorem eAm_ok (r : Mem) {m : Nat} (hm16 : m ≤ 16) (E : List (Nat × Nat)) : EOk (SC r) 14 (eAm m (gR m E)) := EOk.ent fun args A hg => by
 obtain ⟨a, rfl⟩ := gG_one hg
 refine POk.of rfl fun γ W args' hw hR ha => ?_
 obtain ⟨b, k', p1, p2⟩ := gG_use hm16 (nbN_len m (zE E) E.length) (l := []) rfl hg hw hR ha
 exact ⟨memW W, _, memW_ro W, p1, rall_ok (memW W) b k' m 0 hm16⟩
theorem eRi_ok (r : Mem) {m : Nat} (hm16 : m ≤ 16) {E : List (Nat × Nat)} (hE : okAll (m : Int) (zE E) E.length = true) : EOk (SC r) 15 (eRi m (gR m E) fun s => isM (wR m E) m s.toNat) := EOk.ent fun args A hg => by
 split at hg
 ·rename_i a s
  simp only [Bool.and_eq_true] at hg
  have h2 := of_decide_eq_true hg.2
  refine POk.of rfl fun γ W args' hw hR ha => ?_
  obtain ⟨b, k', p1, p2⟩ := gG_use hm16 (nbN_len m (zE E) E.length) (l := [I s]) rfl hg.1 hw hR ha
  have := rism_ok (memW W) b k' m 0 hm16 (wR m E) p2 (fun k _ => wR_lt hm16 hE k) (s := s.toNat) (by omega)
  rw [show ((s.toNat : Nat) : Int) = s by omega] at this
  exact ⟨memW W, _, memW_ro W, p1, this⟩
 ·cases hg
theorem eRc_ok (r : Mem) {m : Nat} (hm16 : m ≤ 16) {E : List (Nat × Nat)} (hE : okAll (m : Int) (zE E) E.length = true) : EOk (SC r) 11 (eRc m (gR m E) (m_ws (wcL (wR m E) m m))) := fun args A hgd F hF kk γ W args' hw hR ha => by
 have hgd : gG m (gR m E) args A = true := hgd
 obtain ⟨a, rfl⟩ := gG_one hgd
 refine ⟨fun hc => ?_, fun hc => nomatch hc⟩
 obtain ⟨b, k', p1, p2⟩ := gG_use hm16 (nbN_len m (zE E) E.length) (l := []) rfl hgd hw hR ha
 have h := rcom_ok (memW W) b k' m 0 hm16 (wR m E) p2 fun k _ => wR_lt hm16 hE k
 have hgm : GrM Tryz.prog (memW W) 11 [RS b k' m 0] (.slice (some ⟨0, 0, none⟩) m m) (rowA (m_ws (wcL (wR m E) m m)) 3 1) := GrM.ofS (C := SC (memW W)) rfl rfl h
 exact hgm.ends (γ := γ) (A := A) (ofV_row hm16) (ws_gnd _) hF hw (memW_ro W) p1 ha
theorem eRl_ok (r : Mem) {m : Nat} (hm16 : m ≤ 16) {E : List (Nat × Nat)} (hE : okAll (m : Int) (zE E) E.length = true) {p : Nat} {l : List Nat} (hl : moL (isM (wR m E) m) (2 ^ m) = p :: l) : EOk (SC r) 19 (eRl m (gR m E) (l.length + 1) (m_ws (p :: l))) := fun args A hgd F hF kk γ W args' hw hR ha => by
 have hgd : gG m (gR m E) args A = true := hgd
 obtain ⟨a, rfl⟩ := gG_one hgd
 refine ⟨fun hc => ?_, fun hc => nomatch hc⟩
 obtain ⟨b, k', p1, p2⟩ := gG_use hm16 (nbN_len m (zE E) E.length) (l := []) rfl hgd hw hR ha
 have h := rmod_ok (memW W) b k' m 0 hm16 (wR m E) p2 fun k _ => wR_lt hm16 hE k
 rw [hl] at h
 have hgm : GrM Tryz.prog (memW W) 19 [RS b k' m 0] (.slice (some ⟨0, 0, none⟩) (l.length + 1) unk) (rowA (m_ws (p :: l)) 3 1) := GrM.ofS (C := SC (memW W)) rfl rfl h
 have hof : ofV 0 (.slice (some ⟨0, 0, none⟩) (l.length + 1) unk) = true := by simp [ofV, of1]
 exact hgm.ends (γ := γ) (A := A) hof (ws_gnd _) hF hw (memW_ro W) p1 ha
theorem eLiL_ok (r : Mem) {m : Nat} (hm16 : m ≤ 16) {ws : List Nat} (hlw : ws.length = m) (hlt : ∀ k, ws.getD k 0 < 65536) : EOk (SC r) 10 (eLi m (m_ws ws) (!(alE (fun k => ws.getD k 0) m m).isEmpty) (alE (fun k => ws.getD k 0) m m).length (pcE (alE (fun k => ws.getD k 0) m m))) := fun args A hgd F hF kk γ W args' hw hR ha => by
 have hgd : gG m (m_ws ws) args A = true := hgd
 obtain ⟨a, rfl⟩ := gG_one hgd
 refine ⟨fun hc => ?_, fun hc => ?_⟩
 ·obtain ⟨b, k', p1, p2⟩ := gG_use hm16 hlw (l := []) rfl hgd hw hR ha
  have h := listed_ok (memW W) b k' m 0 (fun k => ws.getD k 0) p2 hm16
  have hc : (!(alE (fun k => ws.getD k 0) m m).isEmpty) = true := hc
  cases hC : alE (fun k => ws.getD k 0) m m with
  | nil => rw [hC] at hc; cases hc
  | cons p l =>
   rw [hC] at h
   have hgm : GrM Tryz.prog (memW W) 10 [RS b k' m 0] (rowV 0 (l.length + 1)) (rowA (pcE (p :: l)) 51 2) := GrM.ofS (C := SC (memW W)) rfl rfl h
   have hof : ofV 0 (rowV 0 (l.length + 1)) = true := by simp [ofV, of1]
   exact hgm.ends (γ := γ) (A := A) hof (pcE_gnd _) hF hw (memW_ro W) p1 ha
 ·have hc : (!(alE (fun k => ws.getD k 0) m m).isEmpty) = false := hc
  have hC : alE (fun k => ws.getD k 0) m m = [] := by
   generalize alE (fun k => ws.getD k 0) m m = L at hc
   cases L with
   | nil => rfl
   | cons p l => cases hc
  refine (POk.of (C := SC r) (A := A) rfl fun γ W args' hw hR ha => ?_).ends hF hw hR ha
  obtain ⟨b, k', p1, p2⟩ := gG_use hm16 hlw (l := []) rfl hgd hw hR ha
  have h := listed_ok (memW W) b k' m 0 (fun k => ws.getD k 0) p2 hm16
  rw [hC] at h
  exact ⟨memW W, _, memW_ro W, p1, GrT.ofS (C := SC (memW W)) rfl rfl rfl fun F hF k γ W args' hw hR ha => (h F hF k γ W args' hw hR ha).mono fun e W' ⟨u, B, ⟨h, _⟩, he⟩ => ⟨u, B, h, he⟩⟩
theorem eLiT_ok (r : Mem) {m : Nat} (hm16 : m ≤ 16) {ws : List Nat} (hlw : ws.length = m) (hlt : ∀ k, ws.getD k 0 < 65536) : EOk (SC r) 12 (eLi m (m_ws ws) (!(alP (twN fun k => ws.getD k 0) m m).isEmpty) (alP (twN fun k => ws.getD k 0) m m).length (pcE (alP (twN fun k => ws.getD k 0) m m))) := fun args A hgd F hF kk γ W args' hw hR ha => by
 have hgd : gG m (m_ws ws) args A = true := hgd
 obtain ⟨a, rfl⟩ := gG_one hgd
 refine ⟨fun hc => ?_, fun hc => ?_⟩
 ·obtain ⟨b, k', p1, p2⟩ := gG_use hm16 hlw (l := []) rfl hgd hw hR ha
  have h := twins_ok (memW W) b k' m 0 (fun k => ws.getD k 0) p2 hm16 (fun k _ => hlt k)
  have hc : (!(alP (twN fun k => ws.getD k 0) m m).isEmpty) = true := hc
  cases hC : alP (twN fun k => ws.getD k 0) m m with
  | nil => rw [hC] at hc; cases hc
  | cons p l =>
   rw [hC] at h
   have hgm : GrM Tryz.prog (memW W) 12 [RS b k' m 0] (rowV 0 (l.length + 1)) (rowA (pcE (p :: l)) 51 2) := GrM.ofS (C := SC (memW W)) rfl rfl h
   have hof : ofV 0 (rowV 0 (l.length + 1)) = true := by simp [ofV, of1]
   exact hgm.ends (γ := γ) (A := A) hof (pcE_gnd _) hF hw (memW_ro W) p1 ha
 ·have hc : (!(alP (twN fun k => ws.getD k 0) m m).isEmpty) = false := hc
  have hC : alP (twN fun k => ws.getD k 0) m m = [] := by
   generalize alP (twN fun k => ws.getD k 0) m m = L at hc
   cases L with
   | nil => rfl
   | cons p l => cases hc
  refine (POk.of (C := SC r) (A := A) rfl fun γ W args' hw hR ha => ?_).ends hF hw hR ha
  obtain ⟨b, k', p1, p2⟩ := gG_use hm16 hlw (l := []) rfl hgd hw hR ha
  have h := twins_ok (memW W) b k' m 0 (fun k => ws.getD k 0) p2 hm16 (fun k _ => hlt k)
  rw [hC] at h
  exact ⟨memW W, _, memW_ro W, p1, GrT.ofS (C := SC (memW W)) rfl rfl rfl fun F hF k γ W args' hw hR ha => (h F hF k γ W args' hw hR ha).mono fun e W' ⟨u, B, ⟨h, _⟩, he⟩ => ⟨u, B, h, he⟩⟩

theorem own2 {r : Mem} {γ : Gam} {A : AW} {W : World} (hw : WRel γ A W) (hR : Ro r γ W) {i j n1 c1 n2 c2 : Nat} (h1 : Nat.beq c1 unkE = false) (h2 : Nat.beq c2 unkE = false) {ci cj : List Value} {e f z e' f' z' : Nat} (hi : A.heap.get i = some (.cells ci e f z)) (hj : A.heap.get j = some (.cells cj e' f' z')) {args' : Array Value} (ha : VsRel γ [.slice (some ⟨i, 0, none⟩) n1 c1, .slice (some ⟨j, 0, none⟩) n2 c2] args'.toList) :
  ∃ b k b' k', VsRel noG [RS b k n1 0, RS b' k' n2 0] args'.toList ∧ (∀ x u, ci[x]? = some u → gnd u = true → memW W b (k + x) = some u) ∧ ∀ x u, cj[x]? = some u → gnd u = true → memW W b' (k' + x) = some u := by
 obtain ⟨la⟩ := args'
 cases ha with
 | cons hv hrest =>
 cases hrest with
 | cons hv2 hrest =>
 cases hrest
 obtain ⟨b, k, p1, p2⟩ := own_c hw hR h1 hi hv
 obtain ⟨b', k', q1, q2⟩ := own_c hw hR h2 hj hv2
 exact ⟨b, k, b', k', .cons p1 (.cons q1 .nil), p2, q2⟩
theorem eqR_self (z : Nat → Int) (k : Nat) : eqR z z k = true := (eqR_iff z z k).2 fun _ _ => rfl
theorem pairs_same (r : Mem) (b off b' off' : Nat) {L : List (Nat × Nat)} (hl : L.length < 1000000) (h1 : ∀ x u, (pcE L)[x]? = some u → gnd u = true → r b (off + x) = some u) (h2 : ∀ x u, (pcE L)[x]? = some u → gnd u = true → r b' (off' + x) = some u) : GrT Tryz.prog r 9 [RS2 b off L.length 0, RS2 b' off' L.length 0] (.bool true) := by
 have := pairs_ok r b off L.length 0 b' off' L.length 0 hl (zE L) (zE L) (fun j hj => h1 j _ (pcE_get L j hj) rfl) (fun j hj => h2 j _ (pcE_get L j hj) rfl)
 rw [eqR_self, show (L.length == L.length) = true by simp] at this
 exact this
theorem ePr_ok (r : Mem) {C T : List (Nat × Nat)} (hC : C.length < 1000000) (hT : T.length < 1000000) : EOk (SC r) 9 (ePr C.length (pcE C) T.length (pcE T)) := EOk.ent fun args A hg => by
 split at hg
 ·have h0 : GrT Tryz.prog r 9 [.slice none 0 0, .slice none 0 0] (.bool true) := GrT.of (SC_ok r) TOk.nil .nil rfl ⟨1, 1, pqNN r⟩
  exact h0.ro rfl A
 ·rename_i i a l p j b l' p'
  split at hg
  ·rename_i ci e f z cj e' f' z' hi hj
   rw [Bool.or_eq_true] at hg
   rcases hg with hg | hg
   all_goals
    have hs := @of_decide_eq_true _ (Classical.propDecidable _) hg
    simp only [List.cons.injEq, Value.slice.injEq, Option.some.injEq, Addr.mk.injEq, Value.agg.injEq, Array.mk.injEq, and_true, true_and] at hs
    obtain ⟨⟨rfl, rfl, rfl⟩, rfl, ⟨rfl, rfl, rfl⟩, rfl⟩ := hs
    refine POk.of rfl fun γ W args' hw hR ha => ?_
    obtain ⟨b1, k1, b2, k2, p1, p2, p3⟩ := own2 hw hR rfl rfl hi hj ha
   ·exact ⟨memW W, _, memW_ro W, p1, pairs_same (memW W) b1 k1 b2 k2 hC p2 p3⟩
   ·exact ⟨memW W, _, memW_ro W, p1, pairs_same (memW W) b1 k1 b2 k2 hT p2 p3⟩
  ·cases hg
 ·cases hg
theorem eIt_ok (r : Mem) {ws : List Nat} (hl : ws.length < 1000000) : EOk (SC r) 18 (eIt ws.length (m_ws ws)) := EOk.ent fun args A hg => by
 split at hg
 ·rename_i i a l p j b l' p'
  split at hg
  ·rename_i ci e f z cj e' f' z' hi hj
   have hs := @of_decide_eq_true _ (Classical.propDecidable _) hg
   simp only [List.cons.injEq, Value.slice.injEq, Option.some.injEq, Addr.mk.injEq, Value.agg.injEq, Array.mk.injEq, and_true, true_and] at hs
   obtain ⟨⟨rfl, rfl, rfl⟩, rfl, ⟨rfl, rfl, rfl⟩, rfl⟩ := hs
   refine POk.of rfl fun γ W args' hw hR ha => ?_
   obtain ⟨b1, k1, b2, k2, p1, p2, p3⟩ := own2 hw hR (natFK2 (by unfold unkE; omega)) rfl hi hj ha
   have gk : ∀ k, k < ws.length → (m_ws ws)[k]? = some (I (ws.getD k 0 : Nat)) := fun k hk => by
    unfold m_ws
    rw [List.getElem?_map, List.getElem?_eq_getElem hk, List.getD_eq_getElem?_getD, List.getElem?_eq_getElem hk]
    rfl
   have := ints_ok (memW W) b1 k1 ws.length 0 b2 k2 ws.length 0 hl (fun k => ((ws.getD k 0 : Nat) : Int)) (fun k => ((ws.getD k 0 : Nat) : Int)) (fun k hk => p2 k _ (gk k hk) rfl) (fun k hk => p3 k _ (gk k hk) rfl)
   rw [eqR_self, show (ws.length == ws.length) = true by simp] at this
   exact ⟨memW W, _, memW_ro W, p1, this⟩
  ·cases hg
 ·cases hg

end Go.Proofs

