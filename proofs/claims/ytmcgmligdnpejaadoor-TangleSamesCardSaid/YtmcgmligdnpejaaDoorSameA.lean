/- Same links, run. -/
import Derived.Test.YtmcgmligdnpejaaDoorInvOk
namespace Go.Proofs
open Go Go.Ev Go.Num

def m_link (p q : Int) : Bool := link p q
def m_inv (a n : Int) : Int := inv a n
def m_invG (a n : Int) : Bool := decide (0 ≤ a) && decide (a < n) && decide (n ≤ 1000000)
def m_fst (p q : Int) : Int := fst p q

theorem ilA (r : Mem) (L : Nat) (p q : Int) : (lvlT (SC r) (tcons 71 (eA2 (fun _ _ => true) fun a b => .bool (m_frac a b)) fun _ => none) .nil L 1).call 74 [FV p q] emptyA fin =
    bif decide (q < p) then bif decide (p ≤ 1000000) then bif m_frac p q then CR.ret (Value.bool true) (AW.mk 0 Tr.nil Tr.nil) else CR.ret (Value.bool false) (AW.mk 0 Tr.nil Tr.nil) else CR.ret (Value.bool false) (AW.mk 0 Tr.nil Tr.nil) else CR.ret (Value.bool false) (AW.mk 0 Tr.nil Tr.nil) := by kernel_rfl

theorem fsA (r : Mem) (L : Nat) (p q : Int) : (lvlT (SC r) (tcons 75 (eI2 m_invG fun a b => I (m_inv a b)) fun _ => none) .nil L 1).call 54 [FV p q] emptyA fin =
    bif m_invG q p then bif m_eqv (Value.int IntKind.i64 (bif decide (m_inv q p < q) then m_inv q p else q)) (Value.int IntKind.i64 (bif decide (m_inv q p < q) then m_inv q p else q)) then bif m_eqv (Value.int IntKind.i64 p) (Value.int IntKind.i64 p) then bif m_eqv (Value.int IntKind.i64 q) (Value.int IntKind.i64 q) then bif m_eqv (Value.int IntKind.i64 q) (Value.int IntKind.i64 q) then bif m_eqv (Value.int IntKind.i64 q) (Value.int IntKind.i64 q) then bif m_eqv (Value.int IntKind.i64 p) (Value.int IntKind.i64 p) then bif m_eqv (Value.int IntKind.i64 p) (Value.int IntKind.i64 p) then CR.ret (Value.agg (Array.mk [Value.int IntKind.i64 p, Value.int IntKind.i64 (bif decide (m_inv q p < q) then m_inv q p else q)])) (AW.mk 0 Tr.nil Tr.nil) else CR.fail 420 else CR.fail 420 else CR.fail 420 else CR.fail 420 else CR.fail 420 else CR.fail 420 else CR.fail 420 else CR.fail 420 := by kernel_rfl

def eLink : Ent := eA2 (fun _ _ => true) fun a b => .bool (m_link a b)
def eFst : Ent := eA2 (fun p q => m_invG q p) fun p q => FV p (m_fst p q)
def tSame : Tbl := tcons 74 eLink (tcons 54 eFst fun _ => none)

theorem saA (r : Mem) (p q u v : Int) : (lvlT (SC r) tSame .nil 8 4).call 35 [I p, I q, I u, I v] emptyA fin =
    bif m_eqv (Value.int IntKind.i64 q) (Value.int IntKind.i64 q) then bif m_eqv (Value.int IntKind.i64 q) (Value.int IntKind.i64 q) then bif m_eqv (Value.int IntKind.i64 p) (Value.int IntKind.i64 p) then bif m_eqv (Value.int IntKind.i64 p) (Value.int IntKind.i64 p) then bif m_link p q then bif m_eqv (Value.int IntKind.i64 v) (Value.int IntKind.i64 v) then bif m_eqv (Value.int IntKind.i64 v) (Value.int IntKind.i64 v) then bif m_eqv (Value.int IntKind.i64 u) (Value.int IntKind.i64 u) then bif m_eqv (Value.int IntKind.i64 u) (Value.int IntKind.i64 u) then bif m_link u v then bif m_invG q p then bif m_invG v u then bif p == u && (m_fst p q == m_fst u v && true) then bif m_eqv (Value.agg (Array.mk [Value.int IntKind.i64 u, Value.int IntKind.i64 v])) (Value.agg (Array.mk [Value.int IntKind.i64 u, Value.int IntKind.i64 v])) then bif m_eqv (Value.agg (Array.mk [Value.int IntKind.i64 u, Value.int IntKind.i64 v])) (Value.agg (Array.mk [Value.int IntKind.i64 u, Value.int IntKind.i64 v])) then bif m_eqv (Value.agg (Array.mk [Value.int IntKind.i64 p, Value.int IntKind.i64 q])) (Value.agg (Array.mk [Value.int IntKind.i64 p, Value.int IntKind.i64 q])) then CR.ret (Value.tuple (Array.mk [Value.bool true, Value.int IntKind.i64 (Int.ofNat 0)])) (AW.mk 0 Tr.nil Tr.nil) else CR.fail 420 else CR.fail 420 else CR.fail 420 else bif m_eqv (Value.agg (Array.mk [Value.int IntKind.i64 u, Value.int IntKind.i64 v])) (Value.agg (Array.mk [Value.int IntKind.i64 u, Value.int IntKind.i64 v])) then bif m_eqv (Value.agg (Array.mk [Value.int IntKind.i64 u, Value.int IntKind.i64 v])) (Value.agg (Array.mk [Value.int IntKind.i64 u, Value.int IntKind.i64 v])) then bif m_eqv (Value.agg (Array.mk [Value.int IntKind.i64 p, Value.int IntKind.i64 q])) (Value.agg (Array.mk [Value.int IntKind.i64 p, Value.int IntKind.i64 q])) then CR.ret (Value.tuple (Array.mk [Value.bool false, Value.int IntKind.i64 (Int.ofNat 0)])) (AW.mk 0 Tr.nil Tr.nil) else CR.fail 420 else CR.fail 420 else CR.fail 420 else CR.fail 420 else CR.fail 420 else CR.ret (Value.tuple (Array.mk [Value.bool false, Value.int IntKind.i64 (Int.ofNat 61)])) (AW.mk 0 Tr.nil Tr.nil) else CR.fail 420 else CR.fail 420 else CR.fail 420 else CR.fail 420 else CR.ret (Value.tuple (Array.mk [Value.bool false, Value.int IntKind.i64 (Int.ofNat 61)])) (AW.mk 0 Tr.nil Tr.nil) else CR.fail 420 else CR.fail 420 else CR.fail 420 else CR.fail 420 := by kernel_rfl

theorem rlA (r : Mem) (L : Nat) (p q : Int) : (lvlT (SC r) (tcons 34 (eI2 (fun a b => decide (0 ≤ a) && decide (0 ≤ b)) fun a b => I (m_gcd a b)) fun _ => none) .nil L 1).call 28 [I p, I q] emptyA fin =
    bif decide (p ≥ 1) then bif decide (p ≤ 1000000) then bif decide (q ≥ 0) then bif decide (q < p) then bif decide (0 ≤ p) && decide (0 ≤ q) then bif m_gcd p q == Int.ofNat 1 then CR.ret (Value.bool true) (AW.mk 0 Tr.nil Tr.nil) else CR.ret (Value.bool false) (AW.mk 0 Tr.nil Tr.nil) else CR.fail 420 else CR.ret (Value.bool false) (AW.mk 0 Tr.nil Tr.nil) else CR.ret (Value.bool false) (AW.mk 0 Tr.nil Tr.nil) else CR.ret (Value.bool false) (AW.mk 0 Tr.nil Tr.nil) else CR.ret (Value.bool false) (AW.mk 0 Tr.nil Tr.nil) := by kernel_rfl

theorem rsA (r : Mem) (L : Nat) (p q u v : Int) : (lvlT (SC r) (fun _ => none) .nil L 1).call 36 [I p, I q, I u, I v] emptyA fin =
    bif p == u then bif p == Int.ofNat 1 then CR.ret (Value.bool true) (AW.mk 0 Tr.nil Tr.nil) else bif q == v then CR.ret (Value.bool true) (AW.mk 0 Tr.nil Tr.nil) else bif !decide (p = 0) then bif Int.tmod (IntKind.wrap IntKind.i64 (q * v)) p == Int.ofNat 1 then CR.ret (Value.bool true) (AW.mk 0 Tr.nil Tr.nil) else CR.ret (Value.bool false) (AW.mk 0 Tr.nil Tr.nil) else CR.fail 420 else CR.ret (Value.bool false) (AW.mk 0 Tr.nil Tr.nil) := by kernel_rfl

end Go.Proofs
