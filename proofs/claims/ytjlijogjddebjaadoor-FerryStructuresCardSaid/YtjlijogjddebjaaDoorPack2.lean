/- What the claim is proved with, part 2: the evaluator and the contracts of the calls. -/
import Derived.Test.YtjlijogjddebjaaDoorPack1
import Derived.Test.YtjlijogjddebjaaDoorEvCanR
import Derived.Test.YtjlijogjddebjaaDoorEvSetB
import Derived.Test.YtjlijogjddebjaaDoorEvRd
/- math/bits.OnesCount64: how many bits, of numbers below 65536. -/
set_option linter.unusedVariables false
set_option linter.unusedSimpArgs false
namespace Go.Num

def oN1 (x : Nat) : Nat := ((x / 2) &&& 6148914691236517205) + (x &&& 6148914691236517205)
def oN2 (x : Nat) : Nat := ((x / 4) &&& 3689348814741910323) + (x &&& 3689348814741910323)
def oN3 (x : Nat) : Nat := (x / 16 + x) &&& 1085102592571150095
def oN4 (x : Nat) : Nat := x + x / 256
def oN5 (x : Nat) : Nat := x + x / 65536
def oN6 (x : Nat) : Nat := x + x / 4294967296
theorem popN_succ (f m : Nat) : popN (f + 1) m = m % 2 + popN f (m / 2) := by
  rw [popN]
  split
  · rename_i h; rw [h, popN_zero]
  · rfl
theorem pop_split (f h l : Nat) (hl : l < 256) : popN (f + 8) (256 * h + l) = popN f h + popN 8 l := by
  simp only [show f + 8 = (((((((f + 1) + 1) + 1) + 1) + 1) + 1) + 1) + 1 by rfl, popN_succ, Nat.div_div_eq_div_mul, Nat.reduceMul]
  have e : (256 * h + l) / 256 = h := by omega
  rw [e, show popN 0 (l / 256) = 0 from rfl]
  omega
theorem land_split {a b c d : Nat} (hb : b < 256) (hd : d < 256) : (256 * a + b) &&& (256 * c + d) = 256 * (a &&& c) + (b &&& d) := by
  have hbd : b &&& d < 256 := Nat.lt_of_le_of_lt Nat.and_le_left hb
  apply Nat.eq_of_testBit_eq
  intro i
  rw [Nat.testBit_and, show 256 = 2 ^ 8 by rfl, Nat.testBit_two_pow_mul_add a hb, Nat.testBit_two_pow_mul_add c hd, Nat.testBit_two_pow_mul_add (a &&& c) hbd]
  split
  · rw [Nat.testBit_and]
  · rw [Nat.testBit_and]
def c1 (x : Nat) : Nat := ((x / 2) &&& 85) + (x &&& 85)
def c2 (x : Nat) : Nat := ((x / 4) &&& 51) + (x &&& 51)
def c3 (x : Nat) : Nat := (x / 16 + x) &&& 15
theorem c_all : ∀ l : Fin 256, c1 l.val < 171 ∧ c2 (c1 l.val) < 69 ∧ c2 (c1 l.val) % 16 < 5 ∧ c3 (c2 (c1 l.val)) = popN 8 l.val := by decide +kernel
theorem m1_all : ∀ (t : Fin 2) (l : Fin 256), (128 * t.val + l.val / 2) &&& 85 = (l.val / 2) &&& 85 := by decide +kernel
theorem m2_all : ∀ (t : Fin 4) (l : Fin 256), (64 * t.val + l.val / 4) &&& 51 = (l.val / 4) &&& 51 := by decide +kernel
theorem m3_all : ∀ (t : Fin 5) (l : Fin 69), (16 * t.val + l.val / 16 + l.val) &&& 15 = (l.val / 16 + l.val) &&& 15 := by decide +kernel
theorem a1_all : ∀ l : Fin 256, l.val &&& 24019198012642645 = l.val &&& 85 ∧ l.val &&& 14411518807585587 = l.val &&& 51 ∧ l.val &&& 4238682002231055 = l.val &&& 15 := by decide +kernel

theorem oN1_split {h l : Nat} (hh : h < 256) (hl : l < 256) : oN1 (256 * h + l) = 256 * c1 h + c1 l := by
  unfold oN1
  have e : (256 * h + l) / 2 = 256 * (h / 2) + (128 * (h % 2) + l / 2) := by omega
  rw [e, show 6148914691236517205 = 256 * 24019198012642645 + 85 by rfl, land_split (by omega) (by omega), land_split hl (by omega)]
  have q1 := (a1_all ⟨h / 2, by omega⟩).1
  have q2 := (a1_all ⟨h, hh⟩).1
  have q3 := m1_all ⟨h % 2, by omega⟩ ⟨l, hl⟩
  simp only at q1 q2 q3
  rw [q1, q2, q3]
  unfold c1
  omega
theorem oN2_split {h l : Nat} (hh : h < 256) (hl : l < 256) : oN2 (256 * h + l) = 256 * c2 h + c2 l := by
  unfold oN2
  have e : (256 * h + l) / 4 = 256 * (h / 4) + (64 * (h % 4) + l / 4) := by omega
  rw [e, show 3689348814741910323 = 256 * 14411518807585587 + 51 by rfl, land_split (by omega) (by omega), land_split hl (by omega)]
  have q1 := (a1_all ⟨h / 4, by omega⟩).2.1
  have q2 := (a1_all ⟨h, hh⟩).2.1
  have q3 := m2_all ⟨h % 4, by omega⟩ ⟨l, hl⟩
  simp only at q1 q2 q3
  rw [q1, q2, q3]
  unfold c2
  omega
theorem oN3_split {h l : Nat} (hh : h < 69) (hm : h % 16 < 5) (hl : l < 69) : oN3 (256 * h + l) = 256 * c3 h + c3 l := by
  unfold oN3
  have e : (256 * h + l) / 16 + (256 * h + l) = 256 * (h / 16 + h) + (16 * (h % 16) + l / 16 + l) := by omega
  rw [e, show 1085102592571150095 = 256 * 4238682002231055 + 15 by rfl, land_split (by omega) (by omega)]
  have q1 := (a1_all ⟨h / 16 + h, by omega⟩).2.2
  have q3 := m3_all ⟨h % 16, hm⟩ ⟨l, hl⟩
  simp only at q1 q3
  rw [q1, q3]
  rfl

/-- All steps, each of them small. -/
theorem oN_all {x : Nat} (hx : x < 65536) : oN1 x < 1000000 ∧ oN2 (oN1 x) < 1000000 ∧ oN3 (oN2 (oN1 x)) < 1000000 ∧ oN4 (oN3 (oN2 (oN1 x))) < 1000000 ∧ oN5 (oN4 (oN3 (oN2 (oN1 x)))) < 1000000 ∧ oN6 (oN5 (oN4 (oN3 (oN2 (oN1 x))))) < 1000000 ∧
    oN6 (oN5 (oN4 (oN3 (oN2 (oN1 x))))) % 128 = popN 16 x := by
  obtain ⟨h, l, rfl, hh, hl⟩ : ∃ h l, x = 256 * h + l ∧ h < 256 ∧ l < 256 := ⟨x / 256, x % 256, by omega, by omega, by omega⟩
  obtain ⟨p1, p2, p3, p4⟩ := c_all ⟨h, hh⟩
  obtain ⟨q1, q2, q3, q4⟩ := c_all ⟨l, hl⟩
  simp only at p1 p2 p3 p4 q1 q2 q3 q4
  have r1 := popN_le 8 h
  have r2 := popN_le 8 l
  rw [pop_split 8 h l hl, oN1_split hh hl, oN2_split (by omega) (by omega), oN3_split p2 p3 q2, p4, q4]
  generalize popN 8 h = u at *
  generalize popN 8 l = v at *
  generalize c1 h = a1 at *
  generalize c1 l = a2 at *
  have e4 : oN4 (256 * u + v) = 257 * u + v := by unfold oN4; omega
  have e5 : oN5 (257 * u + v) = 257 * u + v := by unfold oN5; omega
  have e6 : oN6 (257 * u + v) = 257 * u + v := by unfold oN6; omega
  rw [e4, e5, e6]
  omega

end Go.Num
namespace Go.Proofs
open Go Go.Ev Go.Num
set_option maxRecDepth 100000

def oI1 (x : Int) : Int := IntKind.wrap IntKind.u64 (ibits BinOp.and IntKind.u64 (Int.fdiv x (Int.ofNat 2)) (Int.ofNat 6148914691236517205) + ibits BinOp.and IntKind.u64 x (Int.ofNat 6148914691236517205))
def oI2 (x : Int) : Int := IntKind.wrap IntKind.u64 (ibits BinOp.and IntKind.u64 (Int.fdiv x (Int.ofNat 4)) (Int.ofNat 3689348814741910323) + ibits BinOp.and IntKind.u64 x (Int.ofNat 3689348814741910323))
def oI3 (x : Int) : Int := ibits BinOp.and IntKind.u64 (IntKind.wrap IntKind.u64 (Int.fdiv x (Int.ofNat 16) + x)) (Int.ofNat 1085102592571150095)
def oI4 (x : Int) : Int := IntKind.wrap IntKind.u64 (x + Int.fdiv x (Int.ofNat 256))
def oI5 (x : Int) : Int := IntKind.wrap IntKind.u64 (x + Int.fdiv x (Int.ofNat 65536))
def oI6 (x : Int) : Int := IntKind.wrap IntKind.u64 (x + Int.fdiv x (Int.ofNat 4294967296))
def oI (x : Int) : Int := ibits BinOp.and IntKind.i64 (IntKind.wrap IntKind.i64 (oI6 (oI5 (oI4 (oI3 (oI2 (oI1 x))))))) (Int.ofNat 127)

theorem ocA (r : Mem) (x : Int) : (lvlT (SC r) (fun _ => none) .nil 1 1).call 61 [.int .u64 x] emptyA fin = CR.ret (I (oI x)) emptyA := by kernel_rfl

theorem fdivN (a k : Nat) : Int.fdiv (a : Int) (Int.ofNat k) = ((a / k : Nat) : Int) := by
  rw [Int.fdiv_eq_ediv_of_nonneg _ (show (0 : Int) ≤ Int.ofNat k from Int.natCast_nonneg k)]
  exact (Int.natCast_ediv a k).symm
theorem wrapU {a : Nat} (h : a < 18446744073709551616) : IntKind.wrap .u64 (a : Int) = (a : Int) := by
  simp [IntKind.wrap, IntKind.bits, IntKind.signed]
  omega
theorem andU {a b : Nat} (ha : a < 18446744073709551616) (hb : b < 18446744073709551616) : ibits BinOp.and .u64 (a : Int) (Int.ofNat b) = ((a &&& b : Nat) : Int) := by
  show IntKind.wrap .u64 ((BitVec.ofInt 64 (a : Int) &&& BitVec.ofInt 64 (b : Int)).toNat : Int) = _
  rw [BitVec.ofInt_natCast, BitVec.ofInt_natCast, BitVec.toNat_and, BitVec.toNat_ofNat, BitVec.toNat_ofNat, Nat.mod_eq_of_lt (by omega), Nat.mod_eq_of_lt (by omega)]
  have : a &&& b ≤ a := Nat.and_le_left
  exact wrapU (by omega)
theorem andI {a b : Nat} (ha : a < 1000000) (hb : b < 1000000) : ibits BinOp.and .i64 (a : Int) (Int.ofNat b) = ((a &&& b : Nat) : Int) := by
  show IntKind.wrap .i64 ((BitVec.ofInt 64 (a : Int) &&& BitVec.ofInt 64 (b : Int)).toNat : Int) = _
  rw [BitVec.ofInt_natCast, BitVec.ofInt_natCast, BitVec.toNat_and, BitVec.toNat_ofNat, BitVec.toNat_ofNat, Nat.mod_eq_of_lt (by omega), Nat.mod_eq_of_lt (by omega)]
  have : a &&& b ≤ a := Nat.and_le_left
  exact wrI (by omega)

theorem oI_eq {x : Nat} (hx : x < 65536) : oI (x : Int) = (popN 16 x : Nat) := by
  obtain ⟨h1, h2, h3, h4, h5, h7, h6⟩ := oN_all hx
  have e1 : oI1 (x : Int) = (oN1 x : Nat) := by
    unfold oI1
    rw [fdivN, andU (by omega) (by omega), andU (by omega) (by omega), ← Int.natCast_add]
    exact wrapU (a := oN1 x) (by omega)
  generalize oN1 x = a at *
  have e2 : oI2 (a : Int) = (oN2 a : Nat) := by
    unfold oI2
    rw [fdivN, andU (by omega) (by omega), andU (by omega) (by omega), ← Int.natCast_add]
    exact wrapU (a := oN2 a) (by omega)
  generalize oN2 a = b at *
  have e3 : oI3 (b : Int) = (oN3 b : Nat) := by
    unfold oI3
    rw [fdivN, ← Int.natCast_add, wrapU (by omega), andU (by omega) (by omega)]
    rfl
  generalize oN3 b = c at *
  have e4 : oI4 (c : Int) = (oN4 c : Nat) := by
    unfold oI4
    rw [fdivN, ← Int.natCast_add]
    exact wrapU (a := oN4 c) (by omega)
  generalize oN4 c = d at *
  have e5 : oI5 (d : Int) = (oN5 d : Nat) := by
    unfold oI5
    rw [fdivN, ← Int.natCast_add]
    exact wrapU (a := oN5 d) (by omega)
  generalize oN5 d = e at *
  have e6 : oI6 (e : Int) = (oN6 e : Nat) := by
    unfold oI6
    rw [fdivN, ← Int.natCast_add]
    exact wrapU (a := oN6 e) (by omega)
  unfold oI
  rw [e1, e2, e3, e4, e5, e6, wrI (by omega), andI (by omega) (by omega), ← h6]
  congr 1
  exact Nat.and_two_pow_sub_one_eq_mod (oN6 e) 7

theorem ones_ok (r : Mem) (x : Nat) (hx : x < 65536) : GrT Tryd.prog r 61 [.int .u64 x] (I (popN 16 x : Nat)) :=
  GrT.of (SC_ok r) TOk.nil .nil rfl ⟨1, 1, by rw [ocA, oI_eq hx]⟩

/-- An entry: as many bits as a word has. -/
def m_popG (x : Int) : Bool := decide (0 ≤ x ∧ x < 65536)
def m_pop (x : Int) : Int := (popN 16 x.toNat : Nat)
def eU1 (g : Int → Bool) (v : Int → Value) : Ent := ent (fun args _ => match args with | [.int .u64 a] => g a | _ => false) (fun args _ => match args with | [.int .u64 a] => v a | _ => undef)
theorem eU1_ok {C : Cfg} {f : Nat} {g : Int → Bool} {v : Int → Value} (h : ∀ a, g a = true → GrT C.P C.ro f [.int .u64 a] (v a)) : EOk C f (eU1 g v) := EOk.ent fun args A hg => by
  split at hg
  · exact (h _ hg).ro rfl A
  · cases hg
def ePop : Ent := eU1 m_popG fun x => I (m_pop x)
theorem ePop_ok (r : Mem) : EOk (SC r) 61 ePop := eU1_ok fun a ha => by
  have h := of_decide_eq_true ha
  have := ones_ok r a.toNat (by omega)
  rw [show ((a.toNat : Nat) : Int) = a by omega] at this
  exact this

end Go.Proofs

/- The foes of a group, run. -/
namespace Go.Proofs
open Go Go.Ev Go.Num
set_option linter.unusedVariables false
set_option linter.unusedSimpArgs false
set_option maxRecDepth 100000

abbrev P0 (i : Nat) : Value := .pointer (some ⟨i, 0, none⟩)
def rgA : Code → Code
  | .rangeFunc _ _ a _ => a
  | c => c
def rgB : Code → Code
  | .rangeFunc _ _ _ b => b
  | c => c
noncomputable def cFo : Code := bodyOf S0 36
noncomputable def Fo_0 : Code := (lc cFo)
noncomputable def Fo_1 : Code := (lc (rc cFo))
noncomputable def Fo_2 : Code := (lc (lc (rc (rc cFo))))
noncomputable def Fo_3 : Code := (ic (rc (lc (rc (rc cFo)))))
noncomputable def Fo_4 : Code := (rc (rc (rc cFo)))
theorem Fo_eq : cFo = (.seq Fo_0 (.seq Fo_1 (.seq (.seq Fo_2 (.block 0 Fo_3)) Fo_4))) := by kernel_rfl
theorem Fo3_eq : Fo_3 = .rangeFunc (.tmp 8) #[9] (rgA Fo_3) (rgB Fo_3) := by kernel_rfl
noncomputable def cEs : Code := bodyOf S0 58
noncomputable def Es_0 : Code := (lc cEs)
noncomputable def Es_1 : Code := (ic (ic (rc cEs)))
theorem Es_eq : cEs = (.seq Es_0 (.block 0 (.loop Es_1))) := by kernel_rfl
def m_twG (s : Int) : Bool := decide (1 ≤ s ∧ s < 1024)
def tzN : Nat → Nat → Nat
  | 0, _ => 0
  | f + 1, s => if s % 2 = 1 then 0 else tzN f (s / 2) + 1
def m_tw (s : Int) : Int := (tzN 16 s.toNat : Nat)
def eTz : Ent := eU1 m_twG fun x => I (m_tw x)
def tEs : Tbl := tcons 59 eTz fun _ => none
def lvFo : List Nat := [2, 5, 8]
abbrev fEs : Value := .func (.func 58) ⟨[]⟩ ⟨[P0 2]⟩
abbrev fYe : Value := .func (.yield 4) ⟨[]⟩ ⟨[]⟩
def enFo : En := ⟨[], bT lvFo [some (P0 0), some (P0 1), some fEs] .nil⟩
noncomputable def loopFo (st : LoopState) : AObj := .loop st none 887 enFo 17 #[9] (rgA Fo_3) (rgB Fo_3) 3
def osFo (c : List Value) (s f : Int) : OO := [some (.cells c 54 0 0), some (.cells [U f] 51 1 0), some (.cells [U s] 51 2 0)]
noncomputable def osF5 (c : List Value) (s f : Int) : OO := [some (.cells c 54 0 0), some (.cells [U f] 51 1 0), some (.cells [U s] 51 2 0), some .defd, some (loopFo .ready)]
noncomputable def A5 (c : List Value) (s f : Int) : AW := ((mkA (osFo c s f)).new .defd).new (loopFo .ready)
noncomputable def D5 (c : List Value) (s f : Int) : AW := { mkA (osF5 c s f) with heap := (mkA (osF5 c s f)).heap.put 4 (some (loopFo .exhausted)) }
def lvEs : List Nat := [0, 3]
def flEs : List Fl := [.g, .g, .g, .g, .l lvFo]

theorem foA (r : Mem) (n s : Int) (l : List Value) (K : OV → List Nat → OO → CR) (kx : Nat → KS) (kr : KS) : run (SC r) 887 17 1 (.seq Fo_0 (.seq Fo_1 Fo_2)) (lvlT (SC r) (fun _ => none) .nil 1 3) none (rbK 0 lvFo [.g, .g, .g] K) kx kr (sc0 887 [.agg ⟨I n :: l⟩, U s]) (tr0 887 [.agg ⟨I n :: l⟩, U s]) [] emptyA =
    bif m_nns (Value.int IntKind.i64 n :: l) && (true && (m_nns [Value.int IntKind.u64 s] && true)) then K [some (Value.pointer (some (Addr.mk 0 0 none))), some (Value.pointer (some (Addr.mk 1 0 none))), some (Value.func (Fn.func 58) (Array.mk []) (Array.mk [Value.pointer (some (Addr.mk 2 0 none))]))] [] [some (AObj.cells (Value.int IntKind.i64 n :: l) 54 0 0), some (AObj.cells [Value.int IntKind.u64 (Int.ofNat 0)] 51 1 0), some (AObj.cells [Value.int IntKind.u64 s] 51 2 0)] else CR.fail 420 := by kernel_rfl

theorem esA (r : Mem) (s f : Int) (c : List Value) (fs : FnsC) (K : OV → List Nat → OO → CR) (kx : Nat → KS) (kr : KS) : run (SC r) 11 16 1 Es_0 fs none (rbK 5 lvEs flEs K) kx kr (sc0 11 [fYe, P0 2]) (tr0 11 [fYe, P0 2]) [] (A5 c s f) =
    bif m_nns c && (m_nns [Value.int IntKind.u64 f] && (m_nns [Value.int IntKind.u64 s] && true)) then K [some (Value.func (Fn.yield 4) (Array.mk []) (Array.mk [])), some (Value.int IntKind.u64 s)] [] [some (AObj.cells c 54 0 0), some (AObj.cells [Value.int IntKind.u64 f] 51 1 0), some (AObj.cells [Value.int IntKind.u64 s] 51 2 0), some AObj.defd, some (AObj.loop LoopState.ready none 887 (En.mk [] (Tr.node (Tr.node Tr.nil none (Tr.node Tr.nil (some (Value.pointer (some (Addr.mk 1 0 none)))) Tr.nil)) none (Tr.node (Tr.node (Tr.node Tr.nil (some (Value.func (Fn.func 58) (Array.mk []) (Array.mk [Value.pointer (some (Addr.mk 2 0 none))]))) Tr.nil) none Tr.nil) (some (Value.pointer (some (Addr.mk 0 0 none)))) Tr.nil))) 17 (Array.mk [9]) (Code.region 3 #[Oper.mk (some 6) (Op.assign (Operand.tmp 9)) 3 "passengers.go:75" #[] none] false) (Code.block 1 (Code.region 4 #[Oper.mk (some 10) (Op.load 51 (Operand.tmp 5)) 51 "passengers.go:76" #[] none, Oper.mk (some 11) (Op.move (Operand.tmp 6)) 3 "passengers.go:76" #[] none, Oper.mk (some 12) (Op.fieldAddr 54 (Operand.tmp 2) 1) 0 "passengers.go:76" #[] none, Oper.mk (some 13) (Op.indexAddr 52 (Operand.tmp 12) (Operand.tmp 11)) 0 "passengers.go:76" #[Edge.mk 2 Ground.data, Edge.mk 1 Ground.data] none, Oper.mk (some 14) (Op.load 51 (Operand.tmp 13)) 51 "passengers.go:76" #[Edge.mk 3 Ground.data] none, Oper.mk (some 15) (Op.binOp BinOp.or 51 (Operand.tmp 10) (Operand.tmp 14) 51) 51 "passengers.go:76" #[Edge.mk 0 Ground.data, Edge.mk 4 Ground.data] none, Oper.mk none (Op.store 51 (Operand.tmp 5) (Operand.tmp 15)) 0 "passengers.go:76" #[Edge.mk 5 Ground.data, Edge.mk 0 Ground.phase, Edge.mk 1 Ground.phase, Edge.mk 2 Ground.phase, Edge.mk 3 Ground.phase, Edge.mk 4 Ground.phase, Edge.mk 5 Ground.phase] none] true)) 3)] else CR.fail 420 := by kernel_rfl

theorem esB (r : Mem) (s f t : Int) (c : List Value) (K : OV → List Nat → OO → CR) (KX : Nat → OV → List Nat → OO → CR) (KR : OV → List Nat → OO → CR) : run (SC r) 11 16 1 Es_1 (lvlT (SC r) tEs .nil 1 2) none (rbK 5 lvEs flEs K) (fun i => rbK 5 [] flEs (KX i)) (rbK 5 [] flEs KR) [] (bT lvEs [some fYe, some (U t)] .nil) [] (mkA (osF5 c s f)) =
    bif t != Int.ofNat 0 then bif m_twG t then bif Nat.blt (Int.toNat (m_tw t)) 10 then Option.casesOn c[Nat.add 1 (Nat.mul (Int.toNat (m_tw t)) 1)]? (CR.fail 423) fun val => bif isI IntKind.u64 val then Option.casesOn c[Nat.add 1 (Nat.mul (Int.toNat (m_tw t)) 1)]? (CR.fail 423) fun val_1 => bif isI IntKind.u64 val_1 then bif m_eqv (Value.int IntKind.u64 (ofI val_1)) (Value.int IntKind.u64 (ofI val)) then bif m_eqv (Value.int IntKind.u64 f) (Value.int IntKind.u64 f) then bif m_nns c && (m_nns [Value.int IntKind.u64 (ibits BinOp.or IntKind.u64 f (ofI val))] && (m_nns [Value.int IntKind.u64 s] && true)) then K [some (Value.func (Fn.yield 4) (Array.mk []) (Array.mk [])), some (Value.int IntKind.u64 (ibits BinOp.and IntKind.u64 t (IntKind.wrap IntKind.u64 (t - Int.ofNat 1))))] [] [some (AObj.cells c 54 0 0), some (AObj.cells [Value.int IntKind.u64 (ibits BinOp.or IntKind.u64 f (ofI val))] 51 1 0), some (AObj.cells [Value.int IntKind.u64 s] 51 2 0), some AObj.defd, some (AObj.loop LoopState.ready none 887 (En.mk [] (Tr.node (Tr.node Tr.nil none (Tr.node Tr.nil (some (Value.pointer (some (Addr.mk 1 0 none)))) Tr.nil)) none (Tr.node (Tr.node (Tr.node Tr.nil (some (Value.func (Fn.func 58) (Array.mk []) (Array.mk [Value.pointer (some (Addr.mk 2 0 none))]))) Tr.nil) none Tr.nil) (some (Value.pointer (some (Addr.mk 0 0 none)))) Tr.nil))) 17 (Array.mk [9]) (Code.region 3 #[Oper.mk (some 6) (Op.assign (Operand.tmp 9)) 3 "passengers.go:75" #[] none] false) (Code.block 1 (Code.region 4 #[Oper.mk (some 10) (Op.load 51 (Operand.tmp 5)) 51 "passengers.go:76" #[] none, Oper.mk (some 11) (Op.move (Operand.tmp 6)) 3 "passengers.go:76" #[] none, Oper.mk (some 12) (Op.fieldAddr 54 (Operand.tmp 2) 1) 0 "passengers.go:76" #[] none, Oper.mk (some 13) (Op.indexAddr 52 (Operand.tmp 12) (Operand.tmp 11)) 0 "passengers.go:76" #[Edge.mk 2 Ground.data, Edge.mk 1 Ground.data] none, Oper.mk (some 14) (Op.load 51 (Operand.tmp 13)) 51 "passengers.go:76" #[Edge.mk 3 Ground.data] none, Oper.mk (some 15) (Op.binOp BinOp.or 51 (Operand.tmp 10) (Operand.tmp 14) 51) 51 "passengers.go:76" #[Edge.mk 0 Ground.data, Edge.mk 4 Ground.data] none, Oper.mk none (Op.store 51 (Operand.tmp 5) (Operand.tmp 15)) 0 "passengers.go:76" #[Edge.mk 5 Ground.data, Edge.mk 0 Ground.phase, Edge.mk 1 Ground.phase, Edge.mk 2 Ground.phase, Edge.mk 3 Ground.phase, Edge.mk 4 Ground.phase, Edge.mk 5 Ground.phase] none] true)) 3)] else CR.fail 420 else CR.fail 420 else CR.fail 420 else CR.fail 420 else CR.fail 420 else CR.fail 420 else CR.fail 420 else bif m_nns c && (m_nns [Value.int IntKind.u64 f] && (m_nns [Value.int IntKind.u64 s] && true)) then KX 0 [] [] [some (AObj.cells c 54 0 0), some (AObj.cells [Value.int IntKind.u64 f] 51 1 0), some (AObj.cells [Value.int IntKind.u64 s] 51 2 0), some AObj.defd, some (AObj.loop LoopState.ready none 887 (En.mk [] (Tr.node (Tr.node Tr.nil none (Tr.node Tr.nil (some (Value.pointer (some (Addr.mk 1 0 none)))) Tr.nil)) none (Tr.node (Tr.node (Tr.node Tr.nil (some (Value.func (Fn.func 58) (Array.mk []) (Array.mk [Value.pointer (some (Addr.mk 2 0 none))]))) Tr.nil) none Tr.nil) (some (Value.pointer (some (Addr.mk 0 0 none)))) Tr.nil))) 17 (Array.mk [9]) (Code.region 3 #[Oper.mk (some 6) (Op.assign (Operand.tmp 9)) 3 "passengers.go:75" #[] none] false) (Code.block 1 (Code.region 4 #[Oper.mk (some 10) (Op.load 51 (Operand.tmp 5)) 51 "passengers.go:76" #[] none, Oper.mk (some 11) (Op.move (Operand.tmp 6)) 3 "passengers.go:76" #[] none, Oper.mk (some 12) (Op.fieldAddr 54 (Operand.tmp 2) 1) 0 "passengers.go:76" #[] none, Oper.mk (some 13) (Op.indexAddr 52 (Operand.tmp 12) (Operand.tmp 11)) 0 "passengers.go:76" #[Edge.mk 2 Ground.data, Edge.mk 1 Ground.data] none, Oper.mk (some 14) (Op.load 51 (Operand.tmp 13)) 51 "passengers.go:76" #[Edge.mk 3 Ground.data] none, Oper.mk (some 15) (Op.binOp BinOp.or 51 (Operand.tmp 10) (Operand.tmp 14) 51) 51 "passengers.go:76" #[Edge.mk 0 Ground.data, Edge.mk 4 Ground.data] none, Oper.mk none (Op.store 51 (Operand.tmp 5) (Operand.tmp 15)) 0 "passengers.go:76" #[Edge.mk 5 Ground.data, Edge.mk 0 Ground.phase, Edge.mk 1 Ground.phase, Edge.mk 2 Ground.phase, Edge.mk 3 Ground.phase, Edge.mk 4 Ground.phase, Edge.mk 5 Ground.phase] none] true)) 3)] else CR.fail 420 := by kernel_rfl

theorem foC (r : Mem) (n s f : Int) (l : List Value) (fs : FnsC) (K KR : OV → List Nat → OO → CR) (kx : Nat → KS) : run (SC r) 887 17 1 Fo_4 fs none (rbK 0 [4] [] K) kx (rbK 0 [4] [] KR) [] (bT lvFo [some (P0 0), some (P0 1), some fEs] .nil) [3] (D5 (I n :: l) s f) =
    KR [some (Value.int IntKind.u64 f)] [] [] := by kernel_rfl

end Go.Proofs

/- The least bit of a small word. -/
namespace Go.Num
open Go.Proofs

theorem tw_all : ∀ s : Fin 1024, s.val ≠ 0 → tzN 16 s.val < 10 ∧ (s.val &&& (s.val - 1)) < s.val ∧ btN s.val (tzN 16 s.val) = true := by decide +kernel
theorem cl_all : ∀ s : Fin 1024, s.val ≠ 0 → ∀ k : Fin 10, btN (s.val &&& (s.val - 1)) k.val = (btN s.val k.val && !(k.val == tzN 16 s.val)) := by decide +kernel

/-- The foes of the elements of s that are below k. -/
def foE (w : Nat → Nat) (s : Nat) : Nat → Nat
  | 0 => 0
  | k + 1 => foE w s k ||| (if btN s k = true then w k else 0)
theorem foE_zero (w : Nat → Nat) : ∀ k, foE w 0 k = 0
  | 0 => rfl
  | k + 1 => by
    rw [foE, foE_zero w k, if_neg]
    · rfl
    · unfold btN; rw [Nat.zero_div]; decide
theorem foE_step (w : Nat → Nat) {s : Nat} (h : s < 1024) (h0 : s ≠ 0) : ∀ k, k ≤ 10 → foE w s k = foE w (s &&& (s - 1)) k ||| (if tzN 16 s < k then w (tzN 16 s) else 0)
  | 0, _ => by rw [if_neg (by omega)]; simp [foE]
  | k + 1, hk => by
    have ih := foE_step w h h0 k (by omega)
    have hb := cl_all ⟨s, h⟩ h0 ⟨k, by omega⟩
    have ht := (tw_all ⟨s, h⟩ h0).2.2
    simp only at hb ht
    rw [foE, foE, ih, hb]
    by_cases e : k = tzN 16 s
    · have c1 : ¬ tzN 16 s < k := by omega
      have c2 : tzN 16 s < k + 1 := by omega
      rw [if_neg c1, if_pos c2, ← e, show btN s k = true by rw [e]; exact ht, if_pos rfl]
      simp
    · rw [show (!(k == tzN 16 s)) = true by simp [e], Bool.and_true]
      by_cases c : tzN 16 s < k
      · rw [if_pos c, if_pos (show tzN 16 s < k + 1 by omega)]
        ac_rfl
      · rw [if_neg c, if_neg (show ¬ tzN 16 s < k + 1 by omega)]
        simp
theorem foE_lt {w : Nat → Nat} (s : Nat) : ∀ k, (∀ i, i < k → w i < 65536) → foE w s k < 65536
  | 0, _ => by simp [foE]
  | k + 1, hw => by
    rw [foE]
    refine or16 (foE_lt s k fun i hi => hw i (by omega)) ?_
    split
    · exact hw k (by omega)
    · decide

end Go.Num
namespace Go.Proofs
open Go Go.Ev Go.Num
set_option linter.unusedVariables false
set_option linter.unusedSimpArgs false
set_option maxRecDepth 100000

def chkI (n : Int) : CR → Bool
  | .ret (.int .i64 m) ⟨0, .nil, .nil⟩ => decide (m = n)
  | _ => false
theorem chkI_use {n : Int} {x : CR} (h : chkI n x = true) : x = .ret (I n) emptyA := by
  unfold chkI at h
  split at h
  · rw [of_decide_eq_true h]; rfl
  · cases h
theorem tz_all : (List.range 1023).all (fun k => chkI (tzN 16 (k + 1) : Nat) ((lvlT (SC tabM) (fun _ => none) .nil 2 4).call 59 [U ((k + 1 : Nat) : Int)] emptyA fin)) = true := by kernel_rfl
theorem tz_ok (r : Mem) (hm : ∀ b j u, tabM b j = some u → r b j = some u) (s : Nat) (h0 : s ≠ 0) (h : s < 1024) : GrT Tryd.prog r 59 [U (s : Nat)] (I (tzN 16 s : Nat)) := by
  have h1 := List.all_eq_true.mp tz_all (s - 1) (List.mem_range.mpr (by omega))
  rw [show s - 1 + 1 = s by omega] at h1
  exact (GrT.of (SC_ok tabM) TOk.nil .nil rfl ⟨2, 4, chkI_use h1⟩ : GrT Tryd.prog tabM _ _ _).less hm
theorem tEs_ok (r : Mem) (hm : ∀ b j u, tabM b j = some u → r b j = some u) : TOk (SC r) tEs := TOk.cons TOk.nil (eU1_ok fun a ha => by
  have h := of_decide_eq_true ha
  have := tz_ok r hm a.toNat (by omega) (by omega)
  rw [show ((a.toNat : Nat) : Int) = a by omega] at this
  exact this)



end Go.Proofs

/- The foes of a group: what the call answers. -/
namespace Go.Proofs
open Go Go.Ev Go.Num
set_option linter.unusedVariables false
set_option linter.unusedSimpArgs false
set_option maxRecDepth 100000

/-- Ten words, behind the number of passengers. -/
def pgC (n : Int) (ws : List Nat) : List Value := I n :: ws.map fun (w : Nat) => U (w : Int)
theorem pgC_get {n : Int} {ws : List Nat} {k : Nat} (h : k < ws.length) : (pgC n ws)[Nat.add 1 (Nat.mul k 1)]? = some (U ((ws.getD k 0 : Nat) : Int)) := by
  rw [Nat.mul_eq, Nat.mul_one, Nat.add_eq, Nat.add_comm]
  show (ws.map fun (w : Nat) => U (w : Int))[k]? = _
  rw [List.getElem?_map, List.getElem?_eq_getElem h, List.getD_eq_getElem?_getD, List.getElem?_eq_getElem h]
  rfl
theorem pgC_nn (n : Int) (ws : List Nat) : m_nns (pgC n ws) = true := by
  show (nn (I n) && nns (ws.map fun (w : Nat) => U (w : Int))) = true
  rw [show nn (I n) = true from rfl, Bool.true_and]
  induction ws with
  | nil => rfl
  | cons x l ih => show (true && nns (l.map _)) = true; rw [ih]; rfl
theorem nn1 (x : Int) : m_nns [Value.int IntKind.u64 x] = true := rfl

/-- The loop's function: what it leaves in the box. -/
theorem es_ok (r : Mem) (hm : ∀ b j u, tabM b j = some u → r b j = some u) (n : Int) (ws : List Nat) (hl : ws.length = 10) (hw : ∀ w ∈ ws, w < 65536) (s : Nat) (hs : s < 1024) :
    SOk (SC r) 58 [fYe, P0 2] (A5 (pgC n ws) (s : Nat) (Int.ofNat 0)) fun v A => A = mkA (osF5 (pgC n ws) (s : Nat) (foE (fun i => ws.getD i 0) s 10 : Nat)) := by
  have hnx : (A5 (pgC n ws) (s : Nat) (Int.ofNat 0)).next = 5 := rfl
  have hcn := pgC_nn n ws
  have hlp := hl
  refine callE (SC_ok r) (by kernel_rfl) ((bodySC r _).trans Es_eq) (nt := 16) (by kernel_rfl) (rs := []) (by kernel_rfl) 11 rfl .base TOk.nil (tm := .nil) (L := 1) (d := 1) lvEs flEs
    (fun j vs ms os => ∃ t f : Nat, t < 1024 ∧ j = t ∧ f < 65536 ∧ f ||| foE (fun i => ws.getD i 0) t 10 = foE (fun i => ws.getD i 0) s 10 ∧ vs = [some fYe, some (U (t : Nat))] ∧ ms = [] ∧ os = osF5 (pgC n ws) (s : Nat) (f : Nat))
    ⟨[], flEs, fun vs ms os => vs = [] ∧ ms = [] ∧ os = osF5 (pgC n ws) (s : Nat) (foE (fun i => ws.getD i 0) s 10 : Nat)⟩ ?_ ?_ ?_
  · rw [hnx]
    have hn := esA r s (Int.ofNat 0) (pgC n ws)
    simp only [hcn, nn1, Bool.and_true, cond_true] at hn
    refine (hn _ _ _ _).trans (qq_ok ?_)
    exact ⟨s, s, 0, hs, rfl, by decide, by simp, rfl, rfl, rfl⟩
  · rintro j vs ms os ⟨t, f, ht, hj, hf, hfo, rfl, rfl, rfl⟩
    obtain rfl : t = j := hj.symm
    refine ⟨tEs, tEs_ok r hm, .nil, 1, 1, 2, ?_⟩
    rw [hnx]
    have hn := esB r s f t (pgC n ws)
    by_cases c : t = 0
    · subst c
      rw [foE_zero, Nat.or_zero] at hfo
      simp only [show (((0 : Nat) : Int) != Int.ofNat 0) = false from rfl, cond_false, hcn, nn1, Bool.and_true, cond_true] at hn
      exact (hn _ _ _).trans (qq_ok ⟨rfl, rfl, by rw [← hfo]; rfl⟩)
    · obtain ⟨h1, h2, h3⟩ := tw_all ⟨t, ht⟩ c
      simp only at h1 h2 h3
      have c1 : ((t : Int) != Int.ofNat 0) = true := by simp; omega
      have c2 : m_twG (t : Int) = true := decide_eq_true ⟨by omega, by omega⟩
      have e1 : Int.toNat (m_tw (t : Int)) = tzN 16 t := by unfold m_tw; simp
      have c3 : Nat.blt (tzN 16 t) 10 = true := Nat.ble_eq_true_of_le h1
      have e2 : (pgC n ws)[Nat.add 1 (Nat.mul (tzN 16 t) 1)]? = some (U ((ws.getD (tzN 16 t) 0 : Nat) : Int)) := pgC_get (by omega)
      have c4 : ∀ z : Int, m_eqv (.int .u64 z) (.int .u64 z) = true := fun z => by simp [m_eqv, veq]
      have e3 : ibits BinOp.or IntKind.u64 (f : Int) ((ws.getD (tzN 16 t) 0 : Nat) : Int) = ((f ||| ws.getD (tzN 16 t) 0 : Nat) : Int) := or_nat (.inl rfl) hf (getD_lt hw _)
      have e4 : ibits BinOp.and IntKind.u64 (t : Int) (IntKind.wrap IntKind.u64 ((t : Int) - Int.ofNat 1)) = ((t &&& (t - 1) : Nat) : Int) := by
        have : IntKind.wrap IntKind.u64 ((t : Int) - Int.ofNat 1) = Int.ofNat (t - 1) := by rw [wrU]; simp; omega
        rw [this]
        exact andU (by omega) (by omega)
      have hst := foE_step (fun i => ws.getD i 0) ht c 10 (Nat.le_refl _)
      rw [if_pos h1] at hst
      have ii : ∀ x, isI IntKind.u64 (U x) = true := fun _ => rfl
      have oo : ∀ x, ofI (U x) = x := fun _ => rfl
      simp only [c1, c2, e1, c3, e2, ii, oo, c4, e3, e4, hcn, nn1, Bool.and_true, cond_true] at hn
      refine (hn _ _ _).trans (qq_ok ?_)
      exact ⟨_, h2, t &&& (t - 1), f ||| ws.getD (tzN 16 t) 0, by omega, rfl, or16 hf (getD_lt hw _), by rw [← hfo, hst]; ac_rfl, rfl, rfl, rfl⟩
  · rintro vs ms os ⟨rfl, rfl, rfl⟩
    exact ⟨.tuple ⟨[]⟩, mkA (osF5 (pgC n ws) (s : Nat) (foE (fun i => ws.getD i 0) s 10 : Nat)), by kernel_rfl, rfl⟩

end Go.Proofs

/- The foes of a group, a group's being quiet: what the calls answer. -/
namespace Go.Proofs
open Go Go.Ev Go.Num
set_option linter.unusedVariables false
set_option linter.unusedSimpArgs false
set_option maxRecDepth 100000

theorem Fo_eq' : cFo = (.seq Fo_0 (.seq Fo_1 (.seq (.seq Fo_2 (.block 0 (.rangeFunc (.tmp 8) #[9] (rgA Fo_3) (rgB Fo_3)))) Fo_4))) := by kernel_rfl

theorem foD (c : List Value) (s f : Int) (K : OV → List Nat → OO → CR) : rbK 0 [5] [] K [] (bT lvFo [some (P0 0), some (P0 1), some fEs] .nil) [3] (D5 c s f) =
    K [some (Value.pointer (some (Addr.mk 0 0 none)))] [] [some (AObj.cells [Value.int IntKind.u64 f] 51 0 0)] := by kernel_rfl

theorem foF (r : Mem) (f : Int) (fs : FnsC) (K KR : OV → List Nat → OO → CR) (kx : Nat → KS) : run (SC r) 887 17 1 Fo_4 fs none (rbK 0 [4] [] K) kx (rbK 0 [4] [] KR) [] (bT [5] [some (P0 0)] .nil) [] (mkA [some (.cells [U f] 51 0 0)]) =
    KR [some (Value.int IntKind.u64 f)] [] [] := by kernel_rfl

theorem foes_ok (r : Mem) (hm : ∀ b j u, tabM b j = some u → r b j = some u) (n : Int) (ws : List Nat) (hl : ws.length = 10) (hw : ∀ w ∈ ws, w < 65536) (s : Nat) (hs : s < 1024) :
    GrT Tryd.prog r 36 [.agg ⟨pgC n ws⟩, U (s : Nat)] (U (foE (fun i => ws.getD i 0) s 10 : Nat)) := by
  have hcn := pgC_nn n ws
  refine GrT.ofS (C := SC r) rfl rfl rfl (callRg (SC_ok r) (by kernel_rfl) ((bodySC r _).trans Fo_eq') (nt := 17) (by kernel_rfl) (rs := [.tmp 4]) (by kernel_rfl) 887 rfl (.step (.step .base)) TOk.nil (tm := .nil) (L := 1) (d := 3)
    ⟨lvFo, [.g, .g, .g], fun vs ms os => vs = [some (P0 0), some (P0 1), some fEs] ∧ ms = [] ∧ os = osFo (pgC n ws) (s : Nat) (Int.ofNat 0)⟩
    ⟨[5], [], fun vs ms os => vs = [some (P0 0)] ∧ ms = [] ∧ os = [some (.cells [U (foE (fun i => ws.getD i 0) s 10 : Nat)] 51 0 0)]⟩
    ⟨[4], [], fun vs ms os => vs = [some (U (foE (fun i => ws.getD i 0) s 10 : Nat))] ∧ ms = [] ∧ os = []⟩ ?_ ?_ ?_ ?_)
  · have hn := foA r n s (ws.map fun (w : Nat) => U (w : Int))
    rw [show I n :: (ws.map fun (w : Nat) => U (w : Int)) = pgC n ws from rfl] at hn
    simp only [hcn, nn1, Bool.and_true, cond_true] at hn
    exact (hn _ _ _).trans (qq_ok ⟨rfl, rfl, rfl⟩)
  · rintro vs ms os ⟨rfl, rfl, rfl⟩
    refine ⟨58, [], [P0 2], _, rfl, by kernel_rfl, es_ok r hm n ws hl hw s hs, ?_⟩
    rintro v A' rfl
    refine ⟨⟨enFo, [3], D5 (pgC n ws) (s : Nat) (foE (fun i => ws.getD i 0) s 10 : Nat)⟩, by kernel_rfl, ?_⟩
    have hn := foD (pgC n ws) (s : Nat) (foE (fun i => ws.getD i 0) s 10 : Nat)
    refine Eq.trans (hn fun vs ms os => qq (vs = [some (P0 0)] ∧ ms = [] ∧ os = [some (.cells [U (foE (fun i => ws.getD i 0) s 10 : Nat)] 51 0 0)])) ?_
    exact qq_ok ⟨rfl, rfl, rfl⟩
  · rintro vs ms os ⟨rfl, rfl, rfl⟩
    exact ⟨_, TOk.nil, .nil, 1, 1, 1, (foF r _ _ _ _ _).trans (qq_ok ⟨rfl, rfl, rfl⟩)⟩
  · rintro vs ms os ⟨rfl, rfl, rfl⟩
    exact ⟨_, mkA [], by kernel_rfl, rfl⟩

end Go.Proofs

/- Structures and quiet groups, run. -/
namespace Go.Proofs
open Go Go.Ev Go.Num
set_option linter.unusedVariables false
set_option linter.unusedSimpArgs false
set_option maxRecDepth 100000

/-- What a call answers that is given these passengers and a word. -/
def m_w10 (s : Int) : Bool := decide (0 ≤ s ∧ s < 1024)
noncomputable def ePW (c : List Value) (v : Int → Value) : Ent := ent (fun args _ => match args with | [.agg ⟨l⟩, .int .u64 s] => m_same l c && m_w10 s | _ => false) (fun args _ => match args with | [_, .int .u64 s] => v s | _ => undef)
def m_fo (ws : List Nat) (s : Int) : Int := (foE (fun i => ws.getD i 0) s.toNat 10 : Nat)
noncomputable def tIq (c : List Value) (ws : List Nat) : Tbl := tcons 36 (ePW c fun s => U (m_fo ws s)) fun _ => none

theorem iqA (r : Mem) (n s w0 w1 w2 w3 w4 w5 w6 w7 w8 w9 : Int) (ws : List Nat) : (lvlT (SC r) (tIq [I n, U w0, U w1, U w2, U w3, U w4, U w5, U w6, U w7, U w8, U w9] ws) .nil 1 2).call 26 [.agg ⟨[I n, U w0, U w1, U w2, U w3, U w4, U w5, U w6, U w7, U w8, U w9]⟩, U s] emptyA fin =
    bif m_same [Value.int IntKind.i64 n, Value.int IntKind.u64 w0, Value.int IntKind.u64 w1, Value.int IntKind.u64 w2, Value.int IntKind.u64 w3, Value.int IntKind.u64 w4, Value.int IntKind.u64 w5, Value.int IntKind.u64 w6, Value.int IntKind.u64 w7, Value.int IntKind.u64 w8, Value.int IntKind.u64 w9] [Value.int IntKind.i64 n, Value.int IntKind.u64 w0, Value.int IntKind.u64 w1, Value.int IntKind.u64 w2, Value.int IntKind.u64 w3, Value.int IntKind.u64 w4, Value.int IntKind.u64 w5, Value.int IntKind.u64 w6, Value.int IntKind.u64 w7, Value.int IntKind.u64 w8, Value.int IntKind.u64 w9] && m_w10 s then bif ibits BinOp.and IntKind.u64 s (m_fo ws s) == Int.ofNat 0 then CR.ret (Value.bool true) (AW.mk 0 Tr.nil Tr.nil) else CR.ret (Value.bool false) (AW.mk 0 Tr.nil Tr.nil) else CR.fail 420 := by kernel_rfl

theorem fszA (r : Mem) (s : Int) : (lvlT (SC r) (tcons 61 ePop fun _ => none) .nil 1 4).call 38 [U s] emptyA fin =
    bif m_popG s then CR.ret (Value.int IntKind.i64 (m_pop s)) (AW.mk 0 Tr.nil Tr.nil) else CR.fail 420 := by kernel_rfl

theorem alA (r : Mem) (n w0 w1 w2 w3 w4 w5 w6 w7 w8 w9 : Int) : (lvlT (SC r) (fun _ => none) .nil 1 4).call 25 [.agg ⟨[I n, U w0, U w1, U w2, U w3, U w4, U w5, U w6, U w7, U w8, U w9]⟩] emptyA fin =
    bif !decide (n < 0) then CR.ret (Value.int IntKind.u64 (IntKind.wrap IntKind.u64 (IntKind.wrap IntKind.u64 (Int.ofNat 1 * Int.ofNat 2 ^ min (Int.toNat n) 64) - Int.ofNat 1))) (AW.mk 0 Tr.nil Tr.nil) else CR.fail 420 := by kernel_rfl

def m_all (n : Int) : Int := 2 ^ n.toNat - 1
noncomputable def tIs (n : Int) (l : List Value) (q : Int → Bool) : Tbl := tcons 26 (ePW (I n :: l) fun s => .bool (q s)) (tcons 38 (eU1 m_popG fun s => I (m_pop s)) (tcons 25 (entV [.agg ⟨I n :: l⟩] (U (m_all n))) fun _ => none))

theorem isA (r : Mem) (n seats w0 w1 w2 w3 w4 w5 w6 w7 w8 w9 : Int) (q : Int → Bool) (x0 x1 x2 x3 x4 : Int) : (lvlT (SC r) (tIs n [U w0, U w1, U w2, U w3, U w4, U w5, U w6, U w7, U w8, U w9] q) .nil 1 3).call 33 [.agg ⟨[I n, U w0, U w1, U w2, U w3, U w4, U w5, U w6, U w7, U w8, U w9]⟩, I seats, .agg ⟨[I x0, I x1, I x2, I x3, I x4]⟩] emptyA fin =
    bif m_same [Value.agg (Array.mk [Value.int IntKind.i64 n, Value.int IntKind.u64 w0, Value.int IntKind.u64 w1, Value.int IntKind.u64 w2, Value.int IntKind.u64 w3, Value.int IntKind.u64 w4, Value.int IntKind.u64 w5, Value.int IntKind.u64 w6, Value.int IntKind.u64 w7, Value.int IntKind.u64 w8, Value.int IntKind.u64 w9])] [Value.agg (Array.mk [Value.int IntKind.i64 n, Value.int IntKind.u64 w0, Value.int IntKind.u64 w1, Value.int IntKind.u64 w2, Value.int IntKind.u64 w3, Value.int IntKind.u64 w4, Value.int IntKind.u64 w5, Value.int IntKind.u64 w6, Value.int IntKind.u64 w7, Value.int IntKind.u64 w8, Value.int IntKind.u64 w9])] then bif m_same [Value.agg (Array.mk [Value.int IntKind.i64 n, Value.int IntKind.u64 w0, Value.int IntKind.u64 w1, Value.int IntKind.u64 w2, Value.int IntKind.u64 w3, Value.int IntKind.u64 w4, Value.int IntKind.u64 w5, Value.int IntKind.u64 w6, Value.int IntKind.u64 w7, Value.int IntKind.u64 w8, Value.int IntKind.u64 w9])] [Value.agg (Array.mk [Value.int IntKind.i64 n, Value.int IntKind.u64 w0, Value.int IntKind.u64 w1, Value.int IntKind.u64 w2, Value.int IntKind.u64 w3, Value.int IntKind.u64 w4, Value.int IntKind.u64 w5, Value.int IntKind.u64 w6, Value.int IntKind.u64 w7, Value.int IntKind.u64 w8, Value.int IntKind.u64 w9])] then bif ibits BinOp.andNot IntKind.u64 (ibits BinOp.or IntKind.u64 (ibits BinOp.or IntKind.u64 (IntKind.wrap IntKind.u64 x0) (IntKind.wrap IntKind.u64 x1)) (IntKind.wrap IntKind.u64 x2)) (m_all n) == Int.ofNat 0 then bif ibits BinOp.andNot IntKind.u64 (IntKind.wrap IntKind.u64 x3) (ibits BinOp.andNot IntKind.u64 (m_all n) (ibits BinOp.or IntKind.u64 (ibits BinOp.or IntKind.u64 (IntKind.wrap IntKind.u64 x0) (IntKind.wrap IntKind.u64 x1)) (IntKind.wrap IntKind.u64 x2))) == Int.ofNat 0 then bif ibits BinOp.andNot IntKind.u64 (IntKind.wrap IntKind.u64 x4) (ibits BinOp.andNot IntKind.u64 (m_all n) (ibits BinOp.or IntKind.u64 (ibits BinOp.or IntKind.u64 (IntKind.wrap IntKind.u64 x0) (IntKind.wrap IntKind.u64 x1)) (IntKind.wrap IntKind.u64 x2))) == Int.ofNat 0 then bif IntKind.wrap IntKind.u64 x3 == Int.ofNat 0 then CR.ret (Value.bool false) (AW.mk 0 Tr.nil Tr.nil) else bif IntKind.wrap IntKind.u64 x4 == Int.ofNat 0 then CR.ret (Value.bool false) (AW.mk 0 Tr.nil Tr.nil) else bif ibits BinOp.and IntKind.u64 (IntKind.wrap IntKind.u64 x0) (IntKind.wrap IntKind.u64 x1) == Int.ofNat 0 then bif ibits BinOp.and IntKind.u64 (IntKind.wrap IntKind.u64 x0) (IntKind.wrap IntKind.u64 x2) == Int.ofNat 0 then bif ibits BinOp.and IntKind.u64 (IntKind.wrap IntKind.u64 x1) (IntKind.wrap IntKind.u64 x2) == Int.ofNat 0 then bif m_same [Value.int IntKind.i64 n, Value.int IntKind.u64 w0, Value.int IntKind.u64 w1, Value.int IntKind.u64 w2, Value.int IntKind.u64 w3, Value.int IntKind.u64 w4, Value.int IntKind.u64 w5, Value.int IntKind.u64 w6, Value.int IntKind.u64 w7, Value.int IntKind.u64 w8, Value.int IntKind.u64 w9] [Value.int IntKind.i64 n, Value.int IntKind.u64 w0, Value.int IntKind.u64 w1, Value.int IntKind.u64 w2, Value.int IntKind.u64 w3, Value.int IntKind.u64 w4, Value.int IntKind.u64 w5, Value.int IntKind.u64 w6, Value.int IntKind.u64 w7, Value.int IntKind.u64 w8, Value.int IntKind.u64 w9] && m_w10 (ibits BinOp.or IntKind.u64 (ibits BinOp.or IntKind.u64 (IntKind.wrap IntKind.u64 x0) (IntKind.wrap IntKind.u64 x1)) (IntKind.wrap IntKind.u64 x2)) then bif q (ibits BinOp.or IntKind.u64 (ibits BinOp.or IntKind.u64 (IntKind.wrap IntKind.u64 x0) (IntKind.wrap IntKind.u64 x1)) (IntKind.wrap IntKind.u64 x2)) then bif m_same [Value.int IntKind.i64 n, Value.int IntKind.u64 w0, Value.int IntKind.u64 w1, Value.int IntKind.u64 w2, Value.int IntKind.u64 w3, Value.int IntKind.u64 w4, Value.int IntKind.u64 w5, Value.int IntKind.u64 w6, Value.int IntKind.u64 w7, Value.int IntKind.u64 w8, Value.int IntKind.u64 w9] [Value.int IntKind.i64 n, Value.int IntKind.u64 w0, Value.int IntKind.u64 w1, Value.int IntKind.u64 w2, Value.int IntKind.u64 w3, Value.int IntKind.u64 w4, Value.int IntKind.u64 w5, Value.int IntKind.u64 w6, Value.int IntKind.u64 w7, Value.int IntKind.u64 w8, Value.int IntKind.u64 w9] && m_w10 (ibits BinOp.or IntKind.u64 (IntKind.wrap IntKind.u64 x0) (IntKind.wrap IntKind.u64 x3)) then bif q (ibits BinOp.or IntKind.u64 (IntKind.wrap IntKind.u64 x0) (IntKind.wrap IntKind.u64 x3)) then bif m_same [Value.int IntKind.i64 n, Value.int IntKind.u64 w0, Value.int IntKind.u64 w1, Value.int IntKind.u64 w2, Value.int IntKind.u64 w3, Value.int IntKind.u64 w4, Value.int IntKind.u64 w5, Value.int IntKind.u64 w6, Value.int IntKind.u64 w7, Value.int IntKind.u64 w8, Value.int IntKind.u64 w9] [Value.int IntKind.i64 n, Value.int IntKind.u64 w0, Value.int IntKind.u64 w1, Value.int IntKind.u64 w2, Value.int IntKind.u64 w3, Value.int IntKind.u64 w4, Value.int IntKind.u64 w5, Value.int IntKind.u64 w6, Value.int IntKind.u64 w7, Value.int IntKind.u64 w8, Value.int IntKind.u64 w9] && m_w10 (ibits BinOp.or IntKind.u64 (IntKind.wrap IntKind.u64 x1) (IntKind.wrap IntKind.u64 x4)) then bif q (ibits BinOp.or IntKind.u64 (IntKind.wrap IntKind.u64 x1) (IntKind.wrap IntKind.u64 x4)) then bif m_popG (ibits BinOp.andNot IntKind.u64 (m_all n) (ibits BinOp.or IntKind.u64 (ibits BinOp.or IntKind.u64 (IntKind.wrap IntKind.u64 x0) (IntKind.wrap IntKind.u64 x1)) (IntKind.wrap IntKind.u64 x2))) then bif decide (m_pop (ibits BinOp.andNot IntKind.u64 (m_all n) (ibits BinOp.or IntKind.u64 (ibits BinOp.or IntKind.u64 (IntKind.wrap IntKind.u64 x0) (IntKind.wrap IntKind.u64 x1)) (IntKind.wrap IntKind.u64 x2))) ≤ seats) then bif m_popG (IntKind.wrap IntKind.u64 x3) then bif m_popG (IntKind.wrap IntKind.u64 x4) then bif m_popG (IntKind.wrap IntKind.u64 x2) then bif decide (IntKind.wrap IntKind.i64 (m_pop (IntKind.wrap IntKind.u64 x3) + m_pop (IntKind.wrap IntKind.u64 x4)) ≥ m_pop (IntKind.wrap IntKind.u64 x2)) then CR.ret (Value.bool true) (AW.mk 0 Tr.nil Tr.nil) else CR.ret (Value.bool false) (AW.mk 0 Tr.nil Tr.nil) else CR.fail 420 else CR.fail 420 else CR.fail 420 else CR.ret (Value.bool false) (AW.mk 0 Tr.nil Tr.nil) else CR.fail 420 else CR.ret (Value.bool false) (AW.mk 0 Tr.nil Tr.nil) else CR.fail 420 else CR.ret (Value.bool false) (AW.mk 0 Tr.nil Tr.nil) else CR.fail 420 else CR.ret (Value.bool false) (AW.mk 0 Tr.nil Tr.nil) else CR.fail 420 else bif m_same [Value.int IntKind.i64 n, Value.int IntKind.u64 w0, Value.int IntKind.u64 w1, Value.int IntKind.u64 w2, Value.int IntKind.u64 w3, Value.int IntKind.u64 w4, Value.int IntKind.u64 w5, Value.int IntKind.u64 w6, Value.int IntKind.u64 w7, Value.int IntKind.u64 w8, Value.int IntKind.u64 w9] [Value.int IntKind.i64 n, Value.int IntKind.u64 w0, Value.int IntKind.u64 w1, Value.int IntKind.u64 w2, Value.int IntKind.u64 w3, Value.int IntKind.u64 w4, Value.int IntKind.u64 w5, Value.int IntKind.u64 w6, Value.int IntKind.u64 w7, Value.int IntKind.u64 w8, Value.int IntKind.u64 w9] && m_w10 (ibits BinOp.or IntKind.u64 (ibits BinOp.or IntKind.u64 (IntKind.wrap IntKind.u64 x0) (IntKind.wrap IntKind.u64 x1)) (IntKind.wrap IntKind.u64 x2)) then bif q (ibits BinOp.or IntKind.u64 (ibits BinOp.or IntKind.u64 (IntKind.wrap IntKind.u64 x0) (IntKind.wrap IntKind.u64 x1)) (IntKind.wrap IntKind.u64 x2)) then bif m_same [Value.int IntKind.i64 n, Value.int IntKind.u64 w0, Value.int IntKind.u64 w1, Value.int IntKind.u64 w2, Value.int IntKind.u64 w3, Value.int IntKind.u64 w4, Value.int IntKind.u64 w5, Value.int IntKind.u64 w6, Value.int IntKind.u64 w7, Value.int IntKind.u64 w8, Value.int IntKind.u64 w9] [Value.int IntKind.i64 n, Value.int IntKind.u64 w0, Value.int IntKind.u64 w1, Value.int IntKind.u64 w2, Value.int IntKind.u64 w3, Value.int IntKind.u64 w4, Value.int IntKind.u64 w5, Value.int IntKind.u64 w6, Value.int IntKind.u64 w7, Value.int IntKind.u64 w8, Value.int IntKind.u64 w9] && m_w10 (ibits BinOp.or IntKind.u64 (IntKind.wrap IntKind.u64 x0) (IntKind.wrap IntKind.u64 x3)) then bif q (ibits BinOp.or IntKind.u64 (IntKind.wrap IntKind.u64 x0) (IntKind.wrap IntKind.u64 x3)) then bif m_same [Value.int IntKind.i64 n, Value.int IntKind.u64 w0, Value.int IntKind.u64 w1, Value.int IntKind.u64 w2, Value.int IntKind.u64 w3, Value.int IntKind.u64 w4, Value.int IntKind.u64 w5, Value.int IntKind.u64 w6, Value.int IntKind.u64 w7, Value.int IntKind.u64 w8, Value.int IntKind.u64 w9] [Value.int IntKind.i64 n, Value.int IntKind.u64 w0, Value.int IntKind.u64 w1, Value.int IntKind.u64 w2, Value.int IntKind.u64 w3, Value.int IntKind.u64 w4, Value.int IntKind.u64 w5, Value.int IntKind.u64 w6, Value.int IntKind.u64 w7, Value.int IntKind.u64 w8, Value.int IntKind.u64 w9] && m_w10 (ibits BinOp.or IntKind.u64 (IntKind.wrap IntKind.u64 x1) (IntKind.wrap IntKind.u64 x4)) then bif q (ibits BinOp.or IntKind.u64 (IntKind.wrap IntKind.u64 x1) (IntKind.wrap IntKind.u64 x4)) then CR.ret (Value.bool false) (AW.mk 0 Tr.nil Tr.nil) else CR.ret (Value.bool false) (AW.mk 0 Tr.nil Tr.nil) else CR.fail 420 else CR.ret (Value.bool false) (AW.mk 0 Tr.nil Tr.nil) else CR.fail 420 else CR.ret (Value.bool false) (AW.mk 0 Tr.nil Tr.nil) else CR.fail 420 else bif m_same [Value.int IntKind.i64 n, Value.int IntKind.u64 w0, Value.int IntKind.u64 w1, Value.int IntKind.u64 w2, Value.int IntKind.u64 w3, Value.int IntKind.u64 w4, Value.int IntKind.u64 w5, Value.int IntKind.u64 w6, Value.int IntKind.u64 w7, Value.int IntKind.u64 w8, Value.int IntKind.u64 w9] [Value.int IntKind.i64 n, Value.int IntKind.u64 w0, Value.int IntKind.u64 w1, Value.int IntKind.u64 w2, Value.int IntKind.u64 w3, Value.int IntKind.u64 w4, Value.int IntKind.u64 w5, Value.int IntKind.u64 w6, Value.int IntKind.u64 w7, Value.int IntKind.u64 w8, Value.int IntKind.u64 w9] && m_w10 (ibits BinOp.or IntKind.u64 (ibits BinOp.or IntKind.u64 (IntKind.wrap IntKind.u64 x0) (IntKind.wrap IntKind.u64 x1)) (IntKind.wrap IntKind.u64 x2)) then bif q (ibits BinOp.or IntKind.u64 (ibits BinOp.or IntKind.u64 (IntKind.wrap IntKind.u64 x0) (IntKind.wrap IntKind.u64 x1)) (IntKind.wrap IntKind.u64 x2)) then bif m_same [Value.int IntKind.i64 n, Value.int IntKind.u64 w0, Value.int IntKind.u64 w1, Value.int IntKind.u64 w2, Value.int IntKind.u64 w3, Value.int IntKind.u64 w4, Value.int IntKind.u64 w5, Value.int IntKind.u64 w6, Value.int IntKind.u64 w7, Value.int IntKind.u64 w8, Value.int IntKind.u64 w9] [Value.int IntKind.i64 n, Value.int IntKind.u64 w0, Value.int IntKind.u64 w1, Value.int IntKind.u64 w2, Value.int IntKind.u64 w3, Value.int IntKind.u64 w4, Value.int IntKind.u64 w5, Value.int IntKind.u64 w6, Value.int IntKind.u64 w7, Value.int IntKind.u64 w8, Value.int IntKind.u64 w9] && m_w10 (ibits BinOp.or IntKind.u64 (IntKind.wrap IntKind.u64 x0) (IntKind.wrap IntKind.u64 x3)) then bif q (ibits BinOp.or IntKind.u64 (IntKind.wrap IntKind.u64 x0) (IntKind.wrap IntKind.u64 x3)) then bif m_same [Value.int IntKind.i64 n, Value.int IntKind.u64 w0, Value.int IntKind.u64 w1, Value.int IntKind.u64 w2, Value.int IntKind.u64 w3, Value.int IntKind.u64 w4, Value.int IntKind.u64 w5, Value.int IntKind.u64 w6, Value.int IntKind.u64 w7, Value.int IntKind.u64 w8, Value.int IntKind.u64 w9] [Value.int IntKind.i64 n, Value.int IntKind.u64 w0, Value.int IntKind.u64 w1, Value.int IntKind.u64 w2, Value.int IntKind.u64 w3, Value.int IntKind.u64 w4, Value.int IntKind.u64 w5, Value.int IntKind.u64 w6, Value.int IntKind.u64 w7, Value.int IntKind.u64 w8, Value.int IntKind.u64 w9] && m_w10 (ibits BinOp.or IntKind.u64 (IntKind.wrap IntKind.u64 x1) (IntKind.wrap IntKind.u64 x4)) then bif q (ibits BinOp.or IntKind.u64 (IntKind.wrap IntKind.u64 x1) (IntKind.wrap IntKind.u64 x4)) then CR.ret (Value.bool false) (AW.mk 0 Tr.nil Tr.nil) else CR.ret (Value.bool false) (AW.mk 0 Tr.nil Tr.nil) else CR.fail 420 else CR.ret (Value.bool false) (AW.mk 0 Tr.nil Tr.nil) else CR.fail 420 else CR.ret (Value.bool false) (AW.mk 0 Tr.nil Tr.nil) else CR.fail 420 else bif m_same [Value.int IntKind.i64 n, Value.int IntKind.u64 w0, Value.int IntKind.u64 w1, Value.int IntKind.u64 w2, Value.int IntKind.u64 w3, Value.int IntKind.u64 w4, Value.int IntKind.u64 w5, Value.int IntKind.u64 w6, Value.int IntKind.u64 w7, Value.int IntKind.u64 w8, Value.int IntKind.u64 w9] [Value.int IntKind.i64 n, Value.int IntKind.u64 w0, Value.int IntKind.u64 w1, Value.int IntKind.u64 w2, Value.int IntKind.u64 w3, Value.int IntKind.u64 w4, Value.int IntKind.u64 w5, Value.int IntKind.u64 w6, Value.int IntKind.u64 w7, Value.int IntKind.u64 w8, Value.int IntKind.u64 w9] && m_w10 (ibits BinOp.or IntKind.u64 (ibits BinOp.or IntKind.u64 (IntKind.wrap IntKind.u64 x0) (IntKind.wrap IntKind.u64 x1)) (IntKind.wrap IntKind.u64 x2)) then bif q (ibits BinOp.or IntKind.u64 (ibits BinOp.or IntKind.u64 (IntKind.wrap IntKind.u64 x0) (IntKind.wrap IntKind.u64 x1)) (IntKind.wrap IntKind.u64 x2)) then bif m_same [Value.int IntKind.i64 n, Value.int IntKind.u64 w0, Value.int IntKind.u64 w1, Value.int IntKind.u64 w2, Value.int IntKind.u64 w3, Value.int IntKind.u64 w4, Value.int IntKind.u64 w5, Value.int IntKind.u64 w6, Value.int IntKind.u64 w7, Value.int IntKind.u64 w8, Value.int IntKind.u64 w9] [Value.int IntKind.i64 n, Value.int IntKind.u64 w0, Value.int IntKind.u64 w1, Value.int IntKind.u64 w2, Value.int IntKind.u64 w3, Value.int IntKind.u64 w4, Value.int IntKind.u64 w5, Value.int IntKind.u64 w6, Value.int IntKind.u64 w7, Value.int IntKind.u64 w8, Value.int IntKind.u64 w9] && m_w10 (ibits BinOp.or IntKind.u64 (IntKind.wrap IntKind.u64 x0) (IntKind.wrap IntKind.u64 x3)) then bif q (ibits BinOp.or IntKind.u64 (IntKind.wrap IntKind.u64 x0) (IntKind.wrap IntKind.u64 x3)) then bif m_same [Value.int IntKind.i64 n, Value.int IntKind.u64 w0, Value.int IntKind.u64 w1, Value.int IntKind.u64 w2, Value.int IntKind.u64 w3, Value.int IntKind.u64 w4, Value.int IntKind.u64 w5, Value.int IntKind.u64 w6, Value.int IntKind.u64 w7, Value.int IntKind.u64 w8, Value.int IntKind.u64 w9] [Value.int IntKind.i64 n, Value.int IntKind.u64 w0, Value.int IntKind.u64 w1, Value.int IntKind.u64 w2, Value.int IntKind.u64 w3, Value.int IntKind.u64 w4, Value.int IntKind.u64 w5, Value.int IntKind.u64 w6, Value.int IntKind.u64 w7, Value.int IntKind.u64 w8, Value.int IntKind.u64 w9] && m_w10 (ibits BinOp.or IntKind.u64 (IntKind.wrap IntKind.u64 x1) (IntKind.wrap IntKind.u64 x4)) then bif q (ibits BinOp.or IntKind.u64 (IntKind.wrap IntKind.u64 x1) (IntKind.wrap IntKind.u64 x4)) then CR.ret (Value.bool false) (AW.mk 0 Tr.nil Tr.nil) else CR.ret (Value.bool false) (AW.mk 0 Tr.nil Tr.nil) else CR.fail 420 else CR.ret (Value.bool false) (AW.mk 0 Tr.nil Tr.nil) else CR.fail 420 else CR.ret (Value.bool false) (AW.mk 0 Tr.nil Tr.nil) else CR.fail 420 else CR.ret (Value.bool false) (AW.mk 0 Tr.nil Tr.nil) else CR.ret (Value.bool false) (AW.mk 0 Tr.nil Tr.nil) else CR.ret (Value.bool false) (AW.mk 0 Tr.nil Tr.nil) else CR.fail 420 else CR.fail 420 := by kernel_rfl

end Go.Proofs

/- The reference's structures, run. -/
namespace Go.Proofs
open Go Go.Ev Go.Num
set_option linter.unusedVariables false
set_option linter.unusedSimpArgs false
set_option maxRecDepth 100000

noncomputable def eRQ (g : Value) (q : Int → Bool) : Ent := ent (fun args _ => match args with | [v, .int .i64 s] => m_same [v] [g] && m_w10 s | _ => false) (fun args _ => match args with | [_, .int .i64 s] => .bool (q s) | _ => undef)
noncomputable def tRs (g : Value) (m : Int) (q : Int → Bool) : Tbl := tcons 11 (eRQ g q) (tcons 28 (eI1 m_popG fun s => I (m_pop s)) (tcons 10 (entV [g] (I (m_all m))) fun _ => none))

noncomputable def cQu : Code := bodyOf S0 11
noncomputable def Qu_0 : Code := (lc cQu)
noncomputable def Qu_1 : Code := (lc (lc (rc cQu)))
noncomputable def Qu_2 : Code := (ic (ic (rc (lc (rc cQu)))))
noncomputable def Qu_3 : Code := (rc (rc cQu))
theorem Qu_eq : cQu = (.seq Qu_0 (.seq (.seq Qu_1 (.block 0 (.loop Qu_2))) Qu_3)) := by kernel_rfl
def lvQu : List Nat := [0, 1, 5]

theorem rsA (r : Mem) (b off len cap : Nat) (m seats : Int) (q : Int → Bool) (x0 x1 x2 x3 x4 : Int) : (lvlT (SC r) (tRs (RS b off len cap) m q) .nil 7 2).call 21 [RS b off len cap, I seats, .agg ⟨[I x0, I x1, I x2, I x3, I x4]⟩] emptyA fin =
    bif m_same [Value.slice (some (Addr.mk b off (some 0))) len cap] [Value.slice (some (Addr.mk b off (some 0))) len cap] then bif decide (x0 < 0) then CR.ret (Value.bool false) (AW.mk 0 Tr.nil Tr.nil) else bif decide (x0 > m_all m) then CR.ret (Value.bool false) (AW.mk 0 Tr.nil Tr.nil) else bif decide (x1 < 0) then CR.ret (Value.bool false) (AW.mk 0 Tr.nil Tr.nil) else bif decide (x1 > m_all m) then CR.ret (Value.bool false) (AW.mk 0 Tr.nil Tr.nil) else bif decide (x2 < 0) then CR.ret (Value.bool false) (AW.mk 0 Tr.nil Tr.nil) else bif decide (x2 > m_all m) then CR.ret (Value.bool false) (AW.mk 0 Tr.nil Tr.nil) else bif decide (x3 < 0) then CR.ret (Value.bool false) (AW.mk 0 Tr.nil Tr.nil) else bif decide (x3 > m_all m) then CR.ret (Value.bool false) (AW.mk 0 Tr.nil Tr.nil) else bif decide (x4 < 0) then CR.ret (Value.bool false) (AW.mk 0 Tr.nil Tr.nil) else bif decide (x4 > m_all m) then CR.ret (Value.bool false) (AW.mk 0 Tr.nil Tr.nil) else bif ibits BinOp.and IntKind.i64 x0 x1 != Int.ofNat 0 then CR.ret (Value.bool false) (AW.mk 0 Tr.nil Tr.nil) else bif ibits BinOp.and IntKind.i64 x0 x2 != Int.ofNat 0 then CR.ret (Value.bool false) (AW.mk 0 Tr.nil Tr.nil) else bif ibits BinOp.and IntKind.i64 x1 x2 != Int.ofNat 0 then CR.ret (Value.bool false) (AW.mk 0 Tr.nil Tr.nil) else bif m_same [Value.slice (some (Addr.mk b off (some 0))) len cap] [Value.slice (some (Addr.mk b off (some 0))) len cap] && m_w10 (ibits BinOp.or IntKind.i64 (ibits BinOp.or IntKind.i64 x0 x1) x2) then bif q (ibits BinOp.or IntKind.i64 (ibits BinOp.or IntKind.i64 x0 x1) x2) then bif m_popG (ibits BinOp.andNot IntKind.i64 (m_all m) (ibits BinOp.or IntKind.i64 (ibits BinOp.or IntKind.i64 x0 x1) x2)) then bif decide (m_pop (ibits BinOp.andNot IntKind.i64 (m_all m) (ibits BinOp.or IntKind.i64 (ibits BinOp.or IntKind.i64 x0 x1) x2)) > seats) then CR.ret (Value.bool false) (AW.mk 0 Tr.nil Tr.nil) else bif x3 == Int.ofNat 0 then CR.ret (Value.bool false) (AW.mk 0 Tr.nil Tr.nil) else bif x4 == Int.ofNat 0 then CR.ret (Value.bool false) (AW.mk 0 Tr.nil Tr.nil) else bif ibits BinOp.andNot IntKind.i64 (ibits BinOp.or IntKind.i64 x3 x4) (ibits BinOp.andNot IntKind.i64 (m_all m) (ibits BinOp.or IntKind.i64 (ibits BinOp.or IntKind.i64 x0 x1) x2)) != Int.ofNat 0 then CR.ret (Value.bool false) (AW.mk 0 Tr.nil Tr.nil) else bif m_same [Value.slice (some (Addr.mk b off (some 0))) len cap] [Value.slice (some (Addr.mk b off (some 0))) len cap] && m_w10 (ibits BinOp.or IntKind.i64 x0 x3) then bif q (ibits BinOp.or IntKind.i64 x0 x3) then bif m_same [Value.slice (some (Addr.mk b off (some 0))) len cap] [Value.slice (some (Addr.mk b off (some 0))) len cap] && m_w10 (ibits BinOp.or IntKind.i64 x1 x4) then bif q (ibits BinOp.or IntKind.i64 x1 x4) then bif m_popG x3 then bif m_popG x4 then bif m_popG x2 then bif decide (IntKind.wrap IntKind.i64 (m_pop x3 + m_pop x4) ≥ m_pop x2) then bif m_eqv (Value.int IntKind.i64 x2) (Value.int IntKind.i64 x2) then bif m_eqv (Value.int IntKind.i64 x2) (Value.int IntKind.i64 x2) then bif m_eqv (Value.int IntKind.i64 x2) (Value.int IntKind.i64 x2) then bif m_eqv (Value.int IntKind.i64 x4) (Value.int IntKind.i64 x4) then bif m_eqv (Value.int IntKind.i64 x4) (Value.int IntKind.i64 x4) then bif m_eqv (Value.int IntKind.i64 x3) (Value.int IntKind.i64 x3) then bif m_eqv (Value.int IntKind.i64 x4) (Value.int IntKind.i64 x4) then bif m_eqv (Value.int IntKind.i64 x1) (Value.int IntKind.i64 x1) then bif m_eqv (Value.int IntKind.i64 x3) (Value.int IntKind.i64 x3) then bif m_eqv (Value.int IntKind.i64 x0) (Value.int IntKind.i64 x0) then CR.ret (Value.bool true) (AW.mk 0 Tr.nil Tr.nil) else CR.fail 420 else CR.fail 420 else CR.fail 420 else CR.fail 420 else CR.fail 420 else CR.fail 420 else CR.fail 420 else CR.fail 420 else CR.fail 420 else CR.fail 420 else bif m_eqv (Value.int IntKind.i64 x2) (Value.int IntKind.i64 x2) then bif m_eqv (Value.int IntKind.i64 x2) (Value.int IntKind.i64 x2) then bif m_eqv (Value.int IntKind.i64 x2) (Value.int IntKind.i64 x2) then bif m_eqv (Value.int IntKind.i64 x4) (Value.int IntKind.i64 x4) then bif m_eqv (Value.int IntKind.i64 x4) (Value.int IntKind.i64 x4) then bif m_eqv (Value.int IntKind.i64 x3) (Value.int IntKind.i64 x3) then bif m_eqv (Value.int IntKind.i64 x4) (Value.int IntKind.i64 x4) then bif m_eqv (Value.int IntKind.i64 x1) (Value.int IntKind.i64 x1) then bif m_eqv (Value.int IntKind.i64 x3) (Value.int IntKind.i64 x3) then bif m_eqv (Value.int IntKind.i64 x0) (Value.int IntKind.i64 x0) then CR.ret (Value.bool false) (AW.mk 0 Tr.nil Tr.nil) else CR.fail 420 else CR.fail 420 else CR.fail 420 else CR.fail 420 else CR.fail 420 else CR.fail 420 else CR.fail 420 else CR.fail 420 else CR.fail 420 else CR.fail 420 else CR.fail 420 else CR.fail 420 else CR.fail 420 else bif m_eqv (Value.int IntKind.i64 x4) (Value.int IntKind.i64 x4) then bif m_eqv (Value.int IntKind.i64 x1) (Value.int IntKind.i64 x1) then bif m_eqv (Value.int IntKind.i64 x3) (Value.int IntKind.i64 x3) then bif m_eqv (Value.int IntKind.i64 x0) (Value.int IntKind.i64 x0) then CR.ret (Value.bool false) (AW.mk 0 Tr.nil Tr.nil) else CR.fail 420 else CR.fail 420 else CR.fail 420 else CR.fail 420 else CR.fail 420 else bif m_eqv (Value.int IntKind.i64 x3) (Value.int IntKind.i64 x3) then bif m_eqv (Value.int IntKind.i64 x0) (Value.int IntKind.i64 x0) then CR.ret (Value.bool false) (AW.mk 0 Tr.nil Tr.nil) else CR.fail 420 else CR.fail 420 else CR.fail 420 else CR.fail 420 else CR.ret (Value.bool false) (AW.mk 0 Tr.nil Tr.nil) else CR.fail 420 else CR.fail 420 := by kernel_rfl

theorem raA (r : Mem) (b off len cap : Nat) : (lvlT (SC r) (fun _ => none) .nil 1 2).call 10 [RS b off len cap] emptyA fin =
    CR.ret (Value.int IntKind.i64 (IntKind.wrap IntKind.i64 (IntKind.wrap IntKind.i64 (Int.ofNat 1 * Int.ofNat 2 ^ min (Int.toNat (Int.ofNat len)) 64) - Int.ofNat 1))) (AW.mk 0 Tr.nil Tr.nil) := by kernel_rfl

theorem quA (r : Mem) (b off len cap : Nat) (s : Int) (fs : FnsC) (K : OV → List Nat → OO → CR) (kx : Nat → KS) (kr : KS) : run (SC r) 51 26 1 (.seq Qu_0 Qu_1) fs none (rbK 0 lvQu [] K) kx kr (sc0 51 [RS b off len cap, I s]) (tr0 51 [RS b off len cap, I s]) [] emptyA =
    K [some (Value.slice (some (Addr.mk b off (some 0))) len cap), some (Value.int IntKind.i64 s), some (Value.int IntKind.i64 (Int.ofNat 0))] [] [] := by kernel_rfl

theorem quB (r : Mem) (b off len cap : Nat) (s i : Int) (fs : FnsC) (K : OV → List Nat → OO → CR) (KX : Nat → OV → List Nat → OO → CR) (KR : OV → List Nat → OO → CR) : run (SC r) 51 26 1 Qu_2 fs none (rbK 0 lvQu [] K) (fun i => rbK 0 [0] [] (KX i)) (rbK 0 [4] [] KR) [] (bT lvQu [some (RS b off len cap), some (I s), some (I i)] .nil) [] (mkA []) =
    bif decide (i < Int.ofNat len) then bif !decide (i < 0) then bif Int.tmod (Int.fdiv s (Int.ofNat 2 ^ min (Int.toNat i) 64)) (Int.ofNat 2) == Int.ofNat 1 then bif decide (0 ≤ i) then bif Nat.blt (Int.toNat i) len then Option.casesOn (r b (Nat.add off (Nat.mul (Int.toNat i) 1))) (CR.fail 423) fun val => bif isI IntKind.i64 val then bif ibits BinOp.and IntKind.i64 (ofI val) s != Int.ofNat 0 then KR [some (Value.bool false)] [] [] else K [some (Value.slice (some (Addr.mk b off (some 0))) len cap), some (Value.int IntKind.i64 s), some (Value.int IntKind.i64 (IntKind.wrap IntKind.i64 (i + Int.ofNat 1)))] [] [] else CR.fail 420 else CR.fail 420 else CR.fail 420 else K [some (Value.slice (some (Addr.mk b off (some 0))) len cap), some (Value.int IntKind.i64 s), some (Value.int IntKind.i64 (IntKind.wrap IntKind.i64 (i + Int.ofNat 1)))] [] [] else CR.fail 420 else KX 0 [some (Value.slice (some (Addr.mk b off (some 0))) len cap)] [] [] := by kernel_rfl

theorem quC (r : Mem) (b off len cap : Nat) (fs : FnsC) (K KR : OV → List Nat → OO → CR) (kx : Nat → KS) : run (SC r) 51 26 1 Qu_3 fs none (rbK 0 [4] [] K) kx (rbK 0 [4] [] KR) [] (bT [0] [some (RS b off len cap)] .nil) [] (mkA []) =
    KR [some (Value.bool true)] [] [] := by kernel_rfl

end Go.Proofs

/- ferry's reading of passengers, run. -/
namespace Go.Proofs
open Go Go.Ev Go.Num
set_option linter.unusedVariables false
set_option linter.unusedSimpArgs false
set_option maxRecDepth 100000

noncomputable def cFr : Code := bodyOf S0 24
noncomputable def Fr_0 : Code := (lc cFr)
noncomputable def Fr_1 : Code := (lc (rc cFr))
noncomputable def Fr_2 : Code := (lc (rc (rc cFr)))
noncomputable def Fr_3 : Code := (lc (rc (rc (rc cFr))))
noncomputable def Fr_4 : Code := (lc (lc (rc (rc (rc (rc cFr))))))
noncomputable def Fr_5 : Code := (ic (ic (rc (lc (rc (rc (rc (rc cFr))))))))
noncomputable def Fr_6 : Code := (rc (rc (rc (rc (rc cFr)))))
theorem Fr_eq : cFr = (.seq Fr_0 (.seq Fr_1 (.seq Fr_2 (.seq Fr_3 (.seq (.seq Fr_4 (.block 0 (.loop Fr_5))) Fr_6))))) := by kernel_rfl
def lvFr : List Nat := [4, 7, 24, 25, 26]
def resF : List Value := I 0 :: List.replicate 10 (U 0)
def m_sgG (v : Int) : Bool := decide (0 ≤ v) && decide (v < 64)
def m_sg (v : Int) : Int := 2 ^ v.toNat
noncomputable def tFr : Tbl := tcons 35 (eI1 m_sgG fun v => U (m_sg v)) fun _ => none
noncomputable def tFc (a0 : List Value) (e : Int) : Tbl := tcons 34 (entV a0 (I e)) fun _ => none

theorem fsA (r : Mem) (v : Int) : (lvlT (SC r) (fun _ => none) .nil 1 3).call 35 [I v] emptyA fin =
    bif !decide (v < 0) then CR.ret (Value.int IntKind.u64 (IntKind.wrap IntKind.u64 (Int.ofNat 1 * Int.ofNat 2 ^ min (Int.toNat v) 64))) (AW.mk 0 Tr.nil Tr.nil) else CR.fail 420 := by kernel_rfl

theorem frA (r : Mem) (n : Int) (b off len cap : Nat) (K : OV → List Nat → OO → CR) (kx : Nat → KS) (KR : OV → List Nat → OO → CR) : run (SC r) 117444339 54 1 (.seq Fr_0 (.seq Fr_1 (.seq Fr_2 (.seq Fr_3 Fr_4)))) (lvlT (SC r) (tFc [I n, RS2 b off len cap] 0) .nil 1 1) none (rbK 0 lvFr [.g, .g] K) kx (rbK 0 [4, 5] [] KR) (sc0 117444339 [I n, RS2 b off len cap]) (tr0 117444339 [I n, RS2 b off len cap]) [] emptyA =
    bif m_same [Value.int IntKind.i64 n, Value.slice (some (Addr.mk b off (some 0))) len cap] [Value.int IntKind.i64 n, Value.slice (some (Addr.mk b off (some 0))) len cap] then bif decide (n > 10) then KR [some (Value.pointer (some (Addr.mk 0 0 none))), some (Value.int IntKind.i64 (Int.ofNat 2))] [] [some (AObj.cells [Value.int IntKind.i64 (Int.ofNat 0), Value.int IntKind.u64 (Int.ofNat 0), Value.int IntKind.u64 (Int.ofNat 0), Value.int IntKind.u64 (Int.ofNat 0), Value.int IntKind.u64 (Int.ofNat 0), Value.int IntKind.u64 (Int.ofNat 0), Value.int IntKind.u64 (Int.ofNat 0), Value.int IntKind.u64 (Int.ofNat 0), Value.int IntKind.u64 (Int.ofNat 0), Value.int IntKind.u64 (Int.ofNat 0), Value.int IntKind.u64 (Int.ofNat 0)] 54 0 0)] else K [some (Value.pointer (some (Addr.mk 0 0 none))), some (Value.pointer (some (Addr.mk 1 0 none))), some (Value.slice (some (Addr.mk b off (some 0))) len cap), some (Value.int IntKind.i64 (Int.ofNat len)), some (Value.int IntKind.i64 (Int.ofNat 0))] [] [some (AObj.cells [Value.int IntKind.i64 (Int.ofNat 0), Value.int IntKind.u64 (Int.ofNat 0), Value.int IntKind.u64 (Int.ofNat 0), Value.int IntKind.u64 (Int.ofNat 0), Value.int IntKind.u64 (Int.ofNat 0), Value.int IntKind.u64 (Int.ofNat 0), Value.int IntKind.u64 (Int.ofNat 0), Value.int IntKind.u64 (Int.ofNat 0), Value.int IntKind.u64 (Int.ofNat 0), Value.int IntKind.u64 (Int.ofNat 0), Value.int IntKind.u64 (Int.ofNat 0)] 54 0 0), some (AObj.cells [Value.int IntKind.i64 n, Value.int IntKind.u64 (Int.ofNat 0), Value.int IntKind.u64 (Int.ofNat 0), Value.int IntKind.u64 (Int.ofNat 0), Value.int IntKind.u64 (Int.ofNat 0), Value.int IntKind.u64 (Int.ofNat 0), Value.int IntKind.u64 (Int.ofNat 0), Value.int IntKind.u64 (Int.ofNat 0), Value.int IntKind.u64 (Int.ofNat 0), Value.int IntKind.u64 (Int.ofNat 0), Value.int IntKind.u64 (Int.ofNat 0)] 54 1 0)] else CR.fail 420 := by kernel_rfl

theorem frZ (r : Mem) (n : Int) (K : OV → List Nat → OO → CR) (kx : Nat → KS) (KR : OV → List Nat → OO → CR) : run (SC r) 117444339 54 1 (.seq Fr_0 (.seq Fr_1 (.seq Fr_2 (.seq Fr_3 Fr_4)))) (lvlT (SC r) (tFc [I n, .slice none 0 0] 0) .nil 1 1) none (rbK 0 lvFr [.g, .g] K) kx (rbK 0 [4, 5] [] KR) (sc0 117444339 [I n, .slice none 0 0]) (tr0 117444339 [I n, .slice none 0 0]) [] emptyA =
    bif m_same [Value.int IntKind.i64 n, Value.slice none 0 0] [Value.int IntKind.i64 n, Value.slice none 0 0] then bif decide (n > 10) then KR [some (Value.pointer (some (Addr.mk 0 0 none))), some (Value.int IntKind.i64 (Int.ofNat 2))] [] [some (AObj.cells [Value.int IntKind.i64 (Int.ofNat 0), Value.int IntKind.u64 (Int.ofNat 0), Value.int IntKind.u64 (Int.ofNat 0), Value.int IntKind.u64 (Int.ofNat 0), Value.int IntKind.u64 (Int.ofNat 0), Value.int IntKind.u64 (Int.ofNat 0), Value.int IntKind.u64 (Int.ofNat 0), Value.int IntKind.u64 (Int.ofNat 0), Value.int IntKind.u64 (Int.ofNat 0), Value.int IntKind.u64 (Int.ofNat 0), Value.int IntKind.u64 (Int.ofNat 0)] 54 0 0)] else K [some (Value.pointer (some (Addr.mk 0 0 none))), some (Value.pointer (some (Addr.mk 1 0 none))), some (Value.slice none 0 0), some (Value.int IntKind.i64 (Int.ofNat 0)), some (Value.int IntKind.i64 (Int.ofNat 0))] [] [some (AObj.cells [Value.int IntKind.i64 (Int.ofNat 0), Value.int IntKind.u64 (Int.ofNat 0), Value.int IntKind.u64 (Int.ofNat 0), Value.int IntKind.u64 (Int.ofNat 0), Value.int IntKind.u64 (Int.ofNat 0), Value.int IntKind.u64 (Int.ofNat 0), Value.int IntKind.u64 (Int.ofNat 0), Value.int IntKind.u64 (Int.ofNat 0), Value.int IntKind.u64 (Int.ofNat 0), Value.int IntKind.u64 (Int.ofNat 0), Value.int IntKind.u64 (Int.ofNat 0)] 54 0 0), some (AObj.cells [Value.int IntKind.i64 n, Value.int IntKind.u64 (Int.ofNat 0), Value.int IntKind.u64 (Int.ofNat 0), Value.int IntKind.u64 (Int.ofNat 0), Value.int IntKind.u64 (Int.ofNat 0), Value.int IntKind.u64 (Int.ofNat 0), Value.int IntKind.u64 (Int.ofNat 0), Value.int IntKind.u64 (Int.ofNat 0), Value.int IntKind.u64 (Int.ofNat 0), Value.int IntKind.u64 (Int.ofNat 0), Value.int IntKind.u64 (Int.ofNat 0)] 54 1 0)] else CR.fail 420 := by kernel_rfl

theorem frB (r : Mem) (b off len cap : Nat) (i : Int) (c d : List Value) (K : OV → List Nat → OO → CR) (KX : Nat → OV → List Nat → OO → CR) (kr : KS) : run (SC r) 117444339 54 1 Fr_5 (lvlT (SC r) tFr .nil 1 1) none (rbK 0 lvFr [.g, .g] K) (fun i => rbK 0 [4, 7] [] (KX i)) kr [] (bT lvFr [some (P0 0), some (P0 1), some (RS2 b off len cap), some (I (len : Nat)), some (I i)] .nil) [] (mkA [some (.cells c 54 0 0), some (.cells d 54 1 0)]) =
    bif decide (i < Int.ofNat len) then bif decide (0 ≤ i) then bif Nat.blt (Int.toNat i) len then Option.casesOn (r b (Nat.add off (Nat.mul (Int.toNat i) 2))) (CR.fail 423) fun val => bif isI IntKind.i64 val then Option.casesOn (r b (Nat.succ (Nat.add off (Nat.mul (Int.toNat i) 2)))) (CR.fail 423) fun val_1 => bif isI IntKind.i64 val_1 then bif decide (0 ≤ ofI val) then bif Nat.blt (Int.toNat (ofI val)) 10 then Option.casesOn d[Nat.add 1 (Nat.mul (Int.toNat (ofI val)) 1)]? (CR.fail 423) fun val_2 => bif isI IntKind.u64 val_2 then bif m_sgG (ofI val_1) then bif decide (0 ≤ ofI val) then bif Nat.blt (Int.toNat (ofI val)) 10 then bif Nat.blt (Nat.add 1 (Nat.mul (Int.toNat (ofI val)) 1)) (List.length d) then Option.casesOn d[Nat.add 1 (Nat.mul (Int.toNat (ofI val)) 1)]? (CR.fail 423) fun val_3 => bif isI IntKind.u64 val_3 then bif m_eqv (Value.int IntKind.u64 (ofI val_3)) (Value.int IntKind.u64 (ofI val_2)) then Option.casesOn d[Nat.add 1 (Nat.mul (Int.toNat (ofI val)) 1)]? (CR.fail 423) fun val_4 => bif isI IntKind.u64 val_4 then bif m_eqv (Value.int IntKind.u64 (ofI val_4)) (Value.int IntKind.u64 (ofI val_2)) then bif decide (0 ≤ ofI val_1) then bif Nat.blt (Int.toNat (ofI val_1)) 10 then Option.casesOn (List.set d (Nat.add 1 (Nat.mul (Int.toNat (ofI val)) 1)) (Value.int IntKind.u64 (ibits BinOp.or IntKind.u64 (ofI val_2) (m_sg (ofI val_1)))))[Nat.add 1 (Nat.mul (Int.toNat (ofI val_1)) 1)]? (CR.fail 423) fun val_5 => bif isI IntKind.u64 val_5 then bif m_sgG (ofI val) then bif decide (0 ≤ ofI val_1) then bif Nat.blt (Int.toNat (ofI val_1)) 10 then bif Nat.blt (Nat.add 1 (Nat.mul (Int.toNat (ofI val_1)) 1)) (List.length (List.set d (Nat.add 1 (Nat.mul (Int.toNat (ofI val)) 1)) (Value.int IntKind.u64 (ibits BinOp.or IntKind.u64 (ofI val_2) (m_sg (ofI val_1)))))) then Option.casesOn (List.set d (Nat.add 1 (Nat.mul (Int.toNat (ofI val)) 1)) (Value.int IntKind.u64 (ibits BinOp.or IntKind.u64 (ofI val_2) (m_sg (ofI val_1)))))[Nat.add 1 (Nat.mul (Int.toNat (ofI val_1)) 1)]? (CR.fail 423) fun val_6 => bif isI IntKind.u64 val_6 then bif m_eqv (Value.int IntKind.u64 (ofI val_6)) (Value.int IntKind.u64 (ofI val_5)) then Option.casesOn (List.set d (Nat.add 1 (Nat.mul (Int.toNat (ofI val)) 1)) (Value.int IntKind.u64 (ibits BinOp.or IntKind.u64 (ofI val_2) (m_sg (ofI val_1)))))[Nat.add 1 (Nat.mul (Int.toNat (ofI val_1)) 1)]? (CR.fail 423) fun val_7 => bif isI IntKind.u64 val_7 then bif m_eqv (Value.int IntKind.u64 (ofI val_7)) (Value.int IntKind.u64 (ofI val_5)) then bif m_nns c && (m_nns (List.set (List.set d (Nat.add 1 (Nat.mul (Int.toNat (ofI val)) 1)) (Value.int IntKind.u64 (ibits BinOp.or IntKind.u64 (ofI val_2) (m_sg (ofI val_1))))) (Nat.add 1 (Nat.mul (Int.toNat (ofI val_1)) 1)) (Value.int IntKind.u64 (ibits BinOp.or IntKind.u64 (ofI val_5) (m_sg (ofI val))))) && true) then K [some (Value.pointer (some (Addr.mk 0 0 none))), some (Value.pointer (some (Addr.mk 1 0 none))), some (Value.slice (some (Addr.mk b off (some 0))) len cap), some (Value.int IntKind.i64 (Int.ofNat len)), some (Value.int IntKind.i64 (IntKind.wrap IntKind.i64 (i + Int.ofNat 1)))] [] [some (AObj.cells c 54 0 0), some (AObj.cells (List.set (List.set d (Nat.add 1 (Nat.mul (Int.toNat (ofI val)) 1)) (Value.int IntKind.u64 (ibits BinOp.or IntKind.u64 (ofI val_2) (m_sg (ofI val_1))))) (Nat.add 1 (Nat.mul (Int.toNat (ofI val_1)) 1)) (Value.int IntKind.u64 (ibits BinOp.or IntKind.u64 (ofI val_5) (m_sg (ofI val))))) 54 1 0)] else CR.fail 420 else CR.fail 420 else CR.fail 420 else CR.fail 420 else CR.fail 420 else CR.fail 420 else CR.fail 420 else CR.fail 420 else CR.fail 420 else CR.fail 420 else CR.fail 420 else CR.fail 420 else CR.fail 420 else CR.fail 420 else CR.fail 420 else CR.fail 420 else CR.fail 420 else CR.fail 420 else CR.fail 420 else CR.fail 420 else CR.fail 420 else CR.fail 420 else CR.fail 420 else CR.fail 420 else CR.fail 420 else CR.fail 420 else CR.fail 420 else bif m_nns c && (m_nns d && true) then KX 0 [some (Value.pointer (some (Addr.mk 0 0 none))), some (Value.pointer (some (Addr.mk 1 0 none)))] [] [some (AObj.cells c 54 0 0), some (AObj.cells d 54 1 0)] else CR.fail 420 := by kernel_rfl

theorem frN (r : Mem) (c d : List Value) (K : OV → List Nat → OO → CR) (KX : Nat → OV → List Nat → OO → CR) (kr : KS) : run (SC r) 117444339 54 1 Fr_5 (lvlT (SC r) tFr .nil 1 1) none (rbK 0 lvFr [.g, .g] K) (fun i => rbK 0 [4, 7] [] (KX i)) kr [] (bT lvFr [some (P0 0), some (P0 1), some (.slice none 0 0), some (I 0), some (I 0)] .nil) [] (mkA [some (.cells c 54 0 0), some (.cells d 54 1 0)]) =
    bif m_nns c && (m_nns d && true) then KX 0 [some (Value.pointer (some (Addr.mk 0 0 none))), some (Value.pointer (some (Addr.mk 1 0 none)))] [] [some (AObj.cells c 54 0 0), some (AObj.cells d 54 1 0)] else CR.fail 420 := by kernel_rfl

theorem frC (r : Mem) (n z0 z1 z2 z3 z4 z5 z6 z7 z8 z9 : Int) (fs : FnsC) (K KR : OV → List Nat → OO → CR) (kx : Nat → KS) : run (SC r) 117444339 54 1 Fr_6 fs none (rbK 0 [4, 5] [] K) kx (rbK 0 [4, 5] [] KR) [] (bT [4, 7] [some (P0 0), some (P0 1)] .nil) [] (mkA [some (.cells resF 54 0 0), some (.cells [I n, U z0, U z1, U z2, U z3, U z4, U z5, U z6, U z7, U z8, U z9] 54 1 0)]) =
    KR [some (Value.pointer (some (Addr.mk 0 0 none))), some (Value.int IntKind.i64 (Int.ofNat 0))] [] [some (AObj.cells [Value.int IntKind.i64 n, Value.int IntKind.u64 z0, Value.int IntKind.u64 z1, Value.int IntKind.u64 z2, Value.int IntKind.u64 z3, Value.int IntKind.u64 z4, Value.int IntKind.u64 z5, Value.int IntKind.u64 z6, Value.int IntKind.u64 z7, Value.int IntKind.u64 z8, Value.int IntKind.u64 z9] 54 0 0)] := by kernel_rfl

end Go.Proofs

/- ferry's reading of passengers: what the calls answer. -/
namespace Go.Proofs
open Go Go.Ev Go.Num
set_option linter.unusedVariables false
set_option linter.unusedSimpArgs false
set_option maxRecDepth 100000

theorem fsg_ok (r : Mem) (v : Int) (h : m_sgG v = true) : GrT Tryd.prog r 35 [I v] (U (m_sg v)) :=
  GrT.of (SC_ok r) TOk.nil .nil rfl ⟨1, 3, by
    simp only [m_sgG, Bool.and_eq_true, decide_eq_true_eq] at h
    rw [fsA, dF (show ¬ v < 0 by omega), Bool.not_false, cond_true]
    have e : IntKind.wrap IntKind.u64 (Int.ofNat 1 * Int.ofNat 2 ^ min (Int.toNat v) 64) = m_sg v := by
      have : ∀ j : Fin 64, IntKind.wrap IntKind.u64 (Int.ofNat 1 * Int.ofNat 2 ^ min j.val 64) = 2 ^ j.val := by decide
      exact this ⟨v.toNat, by omega⟩
    rw [e]; rfl⟩
theorem tFr_ok (r : Mem) : TOk (SC r) tFr := TOk.cons TOk.nil (eI1_ok fun v h => fsg_ok r v h)
theorem tFc_ok (r : Mem) (hm : ∀ b j u, tabM b j = some u → r b j = some u) (n : Int) (b off len cap : Nat) (z : Nat → Int) (hz : rowAt r b off (2 * len) z) (hl : len ≤ 1000000) (hok : ckG n z len = 0) : TOk (SC r) (tFc [I n, RS2 b off len cap] 0) := by
  have := partCheck_ok r hm n b off len cap z hz hl
  rw [hok] at this
  exact TOk.cons TOk.nil (entV_ok this rfl)

theorem pgC_set {n : Int} {ws : List Nat} (k w : Nat) : (pgC n ws).set (Nat.add 1 (Nat.mul k 1)) (.int .u64 (w : Int)) = pgC n (ws.set k w) := by
  rw [Nat.mul_eq, Nat.mul_one, Nat.add_eq, Nat.add_comm]
  show I n :: (ws.map fun (w : Nat) => U (w : Int)).set k _ = I n :: (ws.set k w).map _
  rw [List.map_set]
theorem pgC_len (n : Int) (ws : List Nat) : (pgC n ws).length = ws.length + 1 := by show (ws.map _).length + 1 = _; rw [List.length_map]
theorem list10 {l : List Nat} (h : l.length = 10) : ∃ a0 a1 a2 a3 a4 a5 a6 a7 a8 a9, l = [a0, a1, a2, a3, a4, a5, a6, a7, a8, a9] := by
  match l, h with
  | [a0, a1, a2, a3, a4, a5, a6, a7, a8, a9], _ => exact ⟨a0, a1, a2, a3, a4, a5, a6, a7, a8, a9, rfl⟩

def frO (n : Int) (z : Nat → Int) (k : Nat) : OO := [some (.cells resF 54 0 0), some (.cells (pgC n (nbN 10 z k)) 54 1 0)]
def frV (b off len cap k : Nat) : OV := [some (P0 0), some (P0 1), some (RS2 b off len cap), some (I (len : Nat)), some (I (k : Nat))]

theorem fread_ok (r : Mem) (hm : ∀ b j u, tabM b j = some u → r b j = some u) (n : Int) (hn10 : n ≤ 10) (b off len cap : Nat) (z : Nat → Int) (hz : rowAt r b off (2 * len) z) (hl : len ≤ 1000000) (hok : ckG n z len = 0) :
    GrT Tryd.prog r 24 [I n, RS2 b off len cap] (.tuple ⟨[.agg ⟨pgC n (nbN 10 z len)⟩, I 0]⟩) := by
  obtain ⟨hn1, hn2, hall⟩ := ckG_0 hok
  have h3 := okAll_at hall
  have hrf : m_nns resF = true := rfl
  have hN : ∀ k, (nbN 10 z k).length = 10 := nbN_len 10 z
  have hg : gnds (pgC n (nbN 10 z len)) = true := by
    show (true && gnds ((nbN 10 z len).map _)) = true
    generalize nbN 10 z len = l
    induction l with
    | nil => rfl
    | cons x l ih => show (true && gnds (l.map _)) = true; simpa using ih
  refine GrT.ofS (C := SC r) rfl rfl (by show (gnds (pgC n (nbN 10 z len)) && true) = true; rw [hg]; rfl) (callL (SC_ok r) (by kernel_rfl) ((bodySC r _).trans Fr_eq) (nt := 54) (by kernel_rfl) (rs := [.cell 4 54, .tmp 5]) (by kernel_rfl) 117444339 rfl (.step (.step (.step (.step .base)))) (tFc_ok r hm n b off len cap z hz hl hok) (tm := .nil) (L := 1) (d := 1) lvFr [.g, .g]
    (fun j vs ms os => ∃ k, k ≤ len ∧ j = len - k ∧ vs = frV b off len cap k ∧ ms = [] ∧ os = frO n z k)
    ⟨[4, 7], [], fun vs ms os => vs = [some (P0 0), some (P0 1)] ∧ ms = [] ∧ os = frO n z len⟩
    ⟨[4, 5], [], fun vs ms os => vs = [some (P0 0), some (I 0)] ∧ ms = [] ∧ os = [some (.cells (pgC n (nbN 10 z len)) 54 0 0)]⟩ ?_ ?_ ?_ ?_)
  · have hn := frA r n b off len cap
    rw [show m_same _ _ = true from same_rfl _] at hn
    simp only [cond_true, dF (show ¬ n > 10 by omega), cond_false] at hn
    exact (hn _ _ _).trans (qq_ok ⟨len, 0, Nat.zero_le _, rfl, rfl, rfl, rfl⟩)
  · rintro j vs ms os ⟨k, hk, rfl, rfl, rfl, rfl⟩
    refine ⟨tFr, tFr_ok r, .nil, 1, 1, 1, ?_⟩
    have hn := frB r b off len cap k resF (pgC n (nbN 10 z k))
    have hcn := pgC_nn n
    by_cases c : k < len
    · have c1 : (k : Int) < Int.ofNat len := by simp; omega
      have c2 : 0 ≤ (k : Int) := by omega
      have c3 : Nat.blt k len = true := Nat.ble_eq_true_of_le (by omega)
      have ho := h3 k c
      obtain ⟨x, y, hx1, hy1, hxy, hy10⟩ : ∃ x y : Nat, ea z k = x ∧ eb z k = y ∧ x < y ∧ y < 10 := ⟨(ea z k).toNat, (eb z k).toNat, by omega, by omega, by omega, by omega⟩
      have l0 : r b (Nat.add off (Nat.mul k 2)) = some (I (x : Nat)) := by
        have := hz (2 * k) (by omega)
        rw [show Nat.add off (Nat.mul k 2) = off + 2 * k by simp [Nat.mul_comm], ← hx1]
        exact this
      have l1 : r b (Nat.succ (Nat.add off (Nat.mul k 2))) = some (I (y : Nat)) := by
        have := hz (2 * k + 1) (by omega)
        rw [show Nat.succ (Nat.add off (Nat.mul k 2)) = off + (2 * k + 1) by simp [Nat.mul_comm]; omega, ← hy1]
        exact this
      have w1 : IntKind.wrap IntKind.i64 ((k : Int) + Int.ofNat 1) = ((k + 1 : Nat) : Int) := by rw [wrI (by simp; omega)]; simp
      have ii : ∀ x, isI IntKind.i64 (I x) = true := fun _ => rfl
      have oo : ∀ x, ofI (I x) = x := fun _ => rfl
      have iu : ∀ x, isI IntKind.u64 (U x) = true := fun _ => rfl
      have ou : ∀ x, ofI (U x) = x := fun _ => rfl
      have x0 : 0 ≤ (x : Int) := by omega
      have y0 : 0 ≤ (y : Int) := by omega
      have xm : Nat.blt x 10 = true := Nat.ble_eq_true_of_le (by omega)
      have ym : Nat.blt y 10 = true := Nat.ble_eq_true_of_le hy10
      have gx0 : m_sgG (x : Int) = true := by simp only [m_sgG, Bool.and_eq_true, decide_eq_true_eq]; omega
      have gy0 : m_sgG (y : Int) = true := by simp only [m_sgG, Bool.and_eq_true, decide_eq_true_eq]; omega
      have sx : m_sg (x : Int) = ((2 ^ x : Nat) : Int) := by unfold m_sg; simp
      have sy : m_sg (y : Int) = ((2 ^ y : Nat) : Int) := by unfold m_sg; simp
      have hNl := hN k
      have hNw := nbN_lt 10 z hn2 k fun i hi => h3 i (by omega)
      have ev : ∀ z : Int, m_eqv (.int .u64 z) (.int .u64 z) = true := fun z => by simp [m_eqv, veq]
      have hS : nbN 10 z (k + 1) = jnN (nbN 10 z k) x y := by rw [nbN, hx1, hy1]; simp
      have gx : (pgC n (nbN 10 z k))[Nat.add 1 (Nat.mul x 1)]? = some (U (((nbN 10 z k).getD x 0 : Nat) : Int)) := pgC_get (by omega)
      have bx : Nat.blt (Nat.add 1 (Nat.mul x 1)) (pgC n (nbN 10 z k)).length = true := Nat.ble_eq_true_of_le (by rw [pgC_len]; simp; omega)
      have s1 : ibits BinOp.or IntKind.u64 (((nbN 10 z k).getD x 0 : Nat) : Int) ((2 ^ y : Nat) : Int) = (((nbN 10 z k).getD x 0 ||| 2 ^ y : Nat) : Int) := or_nat (.inl rfl) (getD_lt hNw x) (bit16 (by omega))
      have t1 : (pgC n (nbN 10 z k)).set (Nat.add 1 (Nat.mul x 1)) (.int .u64 (((nbN 10 z k).getD x 0 ||| 2 ^ y : Nat) : Int)) = pgC n (orN (nbN 10 z k) x y) := pgC_set _ _
      have l2 : (orN (nbN 10 z k) x y).length = 10 := by rw [orN_len]; exact hNl
      have h2w := orN_lt hNw x (b := y) (by omega)
      have gy : (pgC n (orN (nbN 10 z k) x y))[Nat.add 1 (Nat.mul y 1)]? = some (U (((orN (nbN 10 z k) x y).getD y 0 : Nat) : Int)) := pgC_get (by omega)
      have by' : Nat.blt (Nat.add 1 (Nat.mul y 1)) (pgC n (orN (nbN 10 z k) x y)).length = true := Nat.ble_eq_true_of_le (by rw [pgC_len]; simp; omega)
      have s2 : ibits BinOp.or IntKind.u64 (((orN (nbN 10 z k) x y).getD y 0 : Nat) : Int) ((2 ^ x : Nat) : Int) = (((orN (nbN 10 z k) x y).getD y 0 ||| 2 ^ x : Nat) : Int) := or_nat (.inl rfl) (getD_lt h2w y) (bit16 (by omega))
      have t2 : (pgC n (orN (nbN 10 z k) x y)).set (Nat.add 1 (Nat.mul y 1)) (.int .u64 (((orN (nbN 10 z k) x y).getD y 0 ||| 2 ^ x : Nat) : Int)) = pgC n (jnN (nbN 10 z k) x y) := pgC_set _ _
      have hQ : ∃ j', j' < len - k ∧ ∃ k', k' ≤ len ∧ j' = len - k' ∧ frV b off len cap (k + 1) = frV b off len cap k' ∧ ([] : List Nat) = [] ∧ frO n z (k + 1) = frO n z k' := ⟨len - (k + 1), by omega, k + 1, c, rfl, rfl, rfl, rfl⟩
      unfold frO at hQ
      rw [hS] at hQ
      simp only [dT c1, dT c2, c3, cond_true, Int.toNat_natCast, l0, l1, ii, oo, iu, ou, dT x0, dT y0, xm, ym, gx0, gy0, sx, sy, gx, bx, ev, s1, t1, gy, by', s2, t2, w1, hcn, hrf, Bool.and_true] at hn
      exact (hn _ _ _).trans (qq_ok hQ)
    · have hkl : k = len := by omega
      have c1 : ¬ (k : Int) < Int.ofNat len := by simp; omega
      simp only [dF c1, cond_false, hcn, hrf, Bool.and_true, cond_true] at hn
      subst hkl
      exact (hn _ _ _).trans (qq_ok ⟨rfl, rfl, rfl⟩)
  · rintro vs ms os ⟨rfl, rfl, rfl⟩
    obtain ⟨a0, a1, a2, a3, a4, a5, a6, a7, a8, a9, h10⟩ := list10 (hN len)
    refine ⟨_, TOk.nil, .nil, 1, 1, 1, ?_⟩
    unfold frO
    rw [h10, show pgC n [a0, a1, a2, a3, a4, a5, a6, a7, a8, a9] = [I n, U (a0 : Nat), U (a1 : Nat), U (a2 : Nat), U (a3 : Nat), U (a4 : Nat), U (a5 : Nat), U (a6 : Nat), U (a7 : Nat), U (a8 : Nat), U (a9 : Nat)] from rfl]
    exact (frC r n a0 a1 a2 a3 a4 a5 a6 a7 a8 a9 _ _ _ _).trans (qq_ok ⟨rfl, rfl, rfl⟩)
  · rintro vs ms os ⟨rfl, rfl, rfl⟩
    obtain ⟨a0, a1, a2, a3, a4, a5, a6, a7, a8, a9, h10⟩ := list10 (hN len)
    rw [h10]
    exact ⟨.tuple ⟨[.agg ⟨pgC n [a0, a1, a2, a3, a4, a5, a6, a7, a8, a9]⟩, I 0]⟩, mkA [some (.cells (pgC n [a0, a1, a2, a3, a4, a5, a6, a7, a8, a9]) 54 0 0)], by kernel_rfl, rfl⟩

end Go.Proofs

/- Structures and quiet groups: what the calls answer. -/
namespace Go.Num
open Go.Proofs

def anN (a b : Nat) : Nat := (a &&& b) ^^^ a
theorem an_zero {a b : Nat} : anN a b = 0 ↔ a &&& b = a := by
  unfold anN
  constructor
  · intro h
    apply Nat.eq_of_testBit_eq
    intro i
    have := congrArg (fun x => Nat.testBit x i) h
    simp only [Nat.testBit_and, Nat.testBit_xor, Nat.zero_testBit] at this ⊢
    revert this
    cases a.testBit i <;> cases b.testBit i <;> simp
  · intro h; rw [h]; exact Nat.xor_self a
theorem sub_or {a b y : Nat} : (a ||| b) &&& y = a ||| b ↔ a &&& y = a ∧ b &&& y = b := by
  constructor
  · intro h
    constructor <;>
    · apply Nat.eq_of_testBit_eq
      intro i
      have := congrArg (fun x => Nat.testBit x i) h
      simp only [Nat.testBit_and, Nat.testBit_or] at this ⊢
      revert this
      cases a.testBit i <;> cases b.testBit i <;> cases y.testBit i <;> simp
  · rintro ⟨h1, h2⟩
    apply Nat.eq_of_testBit_eq; intro i
    have h3 := congrArg (fun x => Nat.testBit x i) h1
    have h4 := congrArg (fun x => Nat.testBit x i) h2
    simp only [Nat.testBit_and, Nat.testBit_or] at h3 h4 ⊢
    revert h3 h4
    cases a.testBit i <;> cases b.testBit i <;> cases y.testBit i <;> simp
theorem an_or {a b y : Nat} : anN (a ||| b) y = 0 ↔ anN a y = 0 ∧ anN b y = 0 := by rw [an_zero, an_zero, an_zero, sub_or]
theorem an_all {a m : Nat} : anN a (2 ^ m - 1) = 0 ↔ a < 2 ^ m := by
  rw [an_zero, Nat.and_two_pow_sub_one_eq_mod]
  constructor
  · intro h
    have := Nat.mod_lt a (Nat.two_pow_pos m)
    omega
  · exact Nat.mod_eq_of_lt
theorem an_lt {a b k : Nat} (h : a < 2 ^ k) : anN a b < 2 ^ k := Nat.xor_lt_two_pow (Nat.lt_of_le_of_lt Nat.and_le_left h) h
theorem all_lt (m : Nat) : 2 ^ m - 1 < 2 ^ m := by have := Nat.two_pow_pos m; omega
theorem an_in {a x m : Nat} (h : anN a (anN (2 ^ m - 1) x) = 0) : a < 2 ^ m := by
  rw [an_zero] at h
  have h1 : a ≤ anN (2 ^ m - 1) x := by rw [← h]; exact Nat.and_le_right
  have := an_lt (b := x) (all_lt m)
  omega

/-- Quiet: no element below k of s has a neighbour in s. -/
def quN (w : Nat → Nat) (s : Nat) : Nat → Bool
  | 0 => true
  | k + 1 => quN w s k && (!btN s k || w k &&& s == 0)
theorem quN_fo (w : Nat → Nat) (s : Nat) : ∀ k, (s &&& foE w s k == 0) = quN w s k
  | 0 => by simp [foE, quN]
  | k + 1 => by
    rw [foE, quN, ← quN_fo w s k, Nat.and_or_distrib_left]
    cases h : btN s k with
    | false => simp
    | true =>
      rw [if_pos rfl]
      rw [Bool.eq_iff_iff]
      simp only [beq_iff_eq, Nat.or_eq_zero_iff, Bool.and_eq_true, Bool.not_true, Bool.false_or, Nat.and_comm (w k) s]
theorem btN_high {s m k : Nat} (h : s < 2 ^ m) (hk : m ≤ k) : btN s k = false := by
  have : s < 2 ^ k := Nat.lt_of_lt_of_le h (Nat.pow_le_pow_right (by decide) hk)
  unfold btN
  rw [Nat.div_eq_of_lt this]
  rfl
theorem quN_cut {w w' : Nat → Nat} {s m : Nat} (hs : s < 2 ^ m) (hw : ∀ i, i < m → w i = w' i) : ∀ d, quN w s (m + d) = quN w' s m
  | 0 => by
    have : ∀ k, k ≤ m → quN w s k = quN w' s k := fun k => by
      induction k with
      | zero => intro _; rfl
      | succ k ih => intro hk; rw [quN, quN, ih (by omega), hw k (by omega)]
    exact this m (Nat.le_refl _)
  | d + 1 => by
    rw [show m + (d + 1) = m + d + 1 by omega, quN, quN_cut hs hw d, btN_high hs (by omega)]
    simp

/-- A structure. -/
def stN (A : Nat) (q : Nat → Bool) (seats : Int) (x0 x1 x2 x3 x4 : Nat) : Bool :=
  (x0 &&& x1 == 0) && (x0 &&& x2 == 0) && (x1 &&& x2 == 0) && q (x0 ||| x1 ||| x2) && decide ((popN 16 (anN A (x0 ||| x1 ||| x2)) : Int) ≤ seats) && !(x3 == 0) && !(x4 == 0) && (anN x3 (anN A (x0 ||| x1 ||| x2)) == 0) && (anN x4 (anN A (x0 ||| x1 ||| x2)) == 0) && q (x0 ||| x3) && q (x1 ||| x4) && decide (popN 16 x2 ≤ popN 16 x3 + popN 16 x4)
def inA (A : Nat) (x : Int) : Bool := decide (0 ≤ x) && decide (x ≤ A)
def stI (A : Nat) (q : Nat → Bool) (seats : Int) (x0 x1 x2 x3 x4 : Int) : Bool :=
  inA A x0 && inA A x1 && inA A x2 && inA A x3 && inA A x4 && stN A q seats x0.toNat x1.toNat x2.toNat x3.toNat x4.toNat

end Go.Num
namespace Go.Proofs
open Go Go.Ev Go.Num
set_option linter.unusedVariables false
set_option linter.unusedSimpArgs false
set_option maxRecDepth 100000

theorem wrapU' {a : Nat} (h : a < 18446744073709551616) : IntKind.wrap .u64 (a : Int) = (a : Int) := by rw [wrU]; omega
theorem bvU (a : Nat) (h : a < 18446744073709551616) : (BitVec.ofInt 64 (a : Int)).toNat = a := by
  rw [BitVec.ofInt_natCast, BitVec.toNat_ofNat]
  exact Nat.mod_eq_of_lt h
theorem ibO {k : IntKind} (hk : k = .u64 ∨ k = .i64) {a b : Nat} (ha : a < 18446744073709551616) (hb : b < 18446744073709551616) : ibits .or k (a : Int) (b : Int) = k.wrap ((a ||| b : Nat) : Int) ∧ ibits .and k (a : Int) (b : Int) = k.wrap ((a &&& b : Nat) : Int) ∧ ibits .andNot k (a : Int) (b : Int) = k.wrap ((anN a b : Nat) : Int) := by
  have hx : ∀ x y : BitVec 64, x &&& ~~~y = (x &&& y) ^^^ x := fun x y => by
    ext i hi
    simp
    cases x[i] <;> cases y[i] <;> rfl
  have e1 : (BitVec.ofInt 64 (a : Int) ||| BitVec.ofInt 64 (b : Int)).toNat = a ||| b := by rw [BitVec.toNat_or, bvU a ha, bvU b hb]
  have e2 : (BitVec.ofInt 64 (a : Int) &&& BitVec.ofInt 64 (b : Int)).toNat = a &&& b := by rw [BitVec.toNat_and, bvU a ha, bvU b hb]
  have e3 : (BitVec.ofInt 64 (a : Int) &&& ~~~(BitVec.ofInt 64 (b : Int))).toNat = anN a b := by rw [hx, BitVec.toNat_xor, BitVec.toNat_and, bvU a ha, bvU b hb]; rfl
  rcases hk with rfl | rfl
  · refine ⟨?_, ?_, ?_⟩
    · show IntKind.wrap .u64 ((BitVec.ofInt 64 (a : Int) ||| BitVec.ofInt 64 (b : Int)).toNat : Int) = _
      rw [e1]
    · show IntKind.wrap .u64 ((BitVec.ofInt 64 (a : Int) &&& BitVec.ofInt 64 (b : Int)).toNat : Int) = _
      rw [e2]
    · show IntKind.wrap .u64 ((BitVec.ofInt 64 (a : Int) &&& ~~~(BitVec.ofInt 64 (b : Int))).toNat : Int) = _
      rw [e3]
  · refine ⟨?_, ?_, ?_⟩
    · show IntKind.wrap .i64 ((BitVec.ofInt 64 (a : Int) ||| BitVec.ofInt 64 (b : Int)).toNat : Int) = _
      rw [e1]
    · show IntKind.wrap .i64 ((BitVec.ofInt 64 (a : Int) &&& BitVec.ofInt 64 (b : Int)).toNat : Int) = _
      rw [e2]
    · show IntKind.wrap .i64 ((BitVec.ofInt 64 (a : Int) &&& ~~~(BitVec.ofInt 64 (b : Int))).toNat : Int) = _
      rw [e3]
theorem uO {a b : Nat} (ha : a < 18446744073709551616) (hb : b < 18446744073709551616) : ibits .or .u64 (a : Int) (b : Int) = ((a ||| b : Nat) : Int) ∧ ibits .and .u64 (a : Int) (b : Int) = ((a &&& b : Nat) : Int) ∧ ibits .andNot .u64 (a : Int) (b : Int) = ((anN a b : Nat) : Int) := by
  have h64 : (18446744073709551616 : Nat) = 2 ^ 64 := by decide
  obtain ⟨h1, h2, h3⟩ := ibO (.inl rfl) ha hb
  refine ⟨h1.trans (wrapU' ?_), h2.trans (wrapU' ?_), h3.trans (wrapU' ?_)⟩
  · rw [h64] at *; exact Nat.or_lt_two_pow ha hb
  · rw [h64] at *; exact Nat.and_lt_two_pow _ hb
  · rw [h64] at *; exact an_lt ha
theorem iO {a b : Nat} (ha : a < 65536) (hb : b < 65536) : ibits .or .i64 (a : Int) (b : Int) = ((a ||| b : Nat) : Int) ∧ ibits .and .i64 (a : Int) (b : Int) = ((a &&& b : Nat) : Int) ∧ ibits .andNot .i64 (a : Int) (b : Int) = ((anN a b : Nat) : Int) := by
  obtain ⟨h1, h2, h3⟩ := ibO (.inr rfl) (show a < 18446744073709551616 by omega) (show b < 18446744073709551616 by omega)
  have g1 : a ||| b < 65536 := or16 ha hb
  have g2 : a &&& b < 65536 := Nat.and_lt_two_pow (n := 16) _ hb
  have g3 : anN a b < 65536 := an_lt (k := 16) ha
  exact ⟨h1.trans (wrI (by omega)), h2.trans (wrI (by omega)), h3.trans (wrI (by omega))⟩

/-- The reference's Quiet. -/
theorem rquiet_ok (r : Mem) (b off len cap : Nat) (w : Nat → Nat) (hr : ∀ k, k < len → r b (off + k) = some (I (w k : Nat))) (hw : ∀ k, k < len → w k < 65536) (hl : len ≤ 16) (s : Nat) (hs : s < 65536) :
    GrT Tryd.prog r 11 [RS b off len cap, I (s : Nat)] (.bool (quN w s len)) := by
  refine GrT.ofS (C := SC r) rfl rfl rfl (callL (SC_ok r) (by kernel_rfl) ((bodySC r _).trans Qu_eq) (nt := 26) (by kernel_rfl) (rs := [.tmp 4]) (by kernel_rfl) 51 rfl (.step .base) TOk.nil (tm := .nil) (L := 1) (d := 1) lvQu []
    (fun j vs ms os => ∃ k, k ≤ len ∧ j = len - k ∧ quN w s k = true ∧ vs = [some (RS b off len cap), some (I (s : Nat)), some (I (k : Nat))] ∧ ms = [] ∧ os = [])
    ⟨[0], [], fun vs ms os => quN w s len = true ∧ vs = [some (RS b off len cap)] ∧ ms = [] ∧ os = []⟩
    ⟨[4], [], fun vs ms os => vs = [some (.bool (quN w s len))] ∧ ms = [] ∧ os = []⟩ ?_ ?_ ?_ ?_)
  · exact (quA r b off len cap s _ _ _ _).trans (qq_ok ⟨len, 0, Nat.zero_le _, rfl, rfl, rfl, rfl, rfl⟩)
  · rintro j vs ms os ⟨k, hk, rfl, hq, rfl, rfl, rfl⟩
    refine ⟨_, TOk.nil, .nil, 1, 1, 1, ?_⟩
    have hn := quB r b off len cap s k
    by_cases c : k < len
    · have c1 : (k : Int) < Int.ofNat len := by simp; omega
      have c2 : 0 ≤ (k : Int) := by omega
      have c3 : Nat.blt k len = true := Nat.ble_eq_true_of_le c
      have c4 : ¬ (k : Int) < 0 := by omega
      have e2 : (Int.tmod (Int.fdiv (s : Nat) (Int.ofNat 2 ^ min k 64)) (Int.ofNat 2) == Int.ofNat 1) = btN s k := by
        rw [shr_nat s k (by omega)]
        unfold btN
        have : ∀ x : Nat, Int.tmod (x : Int) (Int.ofNat 2) = ((x % 2 : Nat) : Int) := fun x => by
          show Int.tmod (x : Int) 2 = _
          rw [Int.tmod_eq_emod_of_nonneg (by omega)]
          omega
        rw [this]
        rcases Nat.mod_two_eq_zero_or_one (s / 2 ^ k) with h | h <;> rw [h] <;> rfl
      have e3 : IntKind.wrap IntKind.i64 ((k : Int) + Int.ofNat 1) = ((k + 1 : Nat) : Int) := by rw [wrI (by simp; omega)]; simp
      have e1 : r b (Nat.add off (Nat.mul k 1)) = some (I (w k : Nat)) := by rw [Nat.mul_eq, Nat.mul_one]; exact hr k c
      have e4 : ibits .and .i64 ((w k : Nat) : Int) ((s : Nat) : Int) = ((w k &&& s : Nat) : Int) := (iO (hw k c) hs).2.1
      have hS : quN w s (k + 1) = (!btN s k || w k &&& s == 0) := by rw [quN, hq, Bool.true_and]
      simp only [dT c1, dT c2, dF c4, Bool.not_false, cond_true, Int.toNat_natCast, c3, e1, show isI IntKind.i64 (I (w k : Nat)) = true from rfl, show ofI (I (w k : Nat)) = ((w k : Nat) : Int) from rfl, e2, e3, e4] at hn
      cases hb : btN s k with
      | false =>
        rw [hb] at hS
        simp only [hb, cond_false] at hn
        exact (hn _ _ _ _).trans (qq_ok ⟨len - (k + 1), by omega, k + 1, c, rfl, by rw [hS]; rfl, rfl, rfl, rfl⟩)
      | true =>
        rw [hb] at hS
        by_cases e : w k &&& s = 0
        · simp only [hb, cond_true, e, show (((0 : Nat) : Int) != Int.ofNat 0) = false from rfl, cond_false] at hn
          exact (hn _ _ _ _).trans (qq_ok ⟨len - (k + 1), by omega, k + 1, c, rfl, by rw [hS, e]; rfl, rfl, rfl, rfl⟩)
        · have ne : (((w k &&& s : Nat) : Int) != Int.ofNat 0) = true := by simp only [bne_iff_ne, ne_eq]; intro h; exact e (by simpa using h)
          simp only [hb, cond_true, ne] at hn
          have hF : quN w s len = false := by
            have hS' : quN w s (k + 1) = false := by rw [hS]; simp [e]
            have : ∀ d, quN w s (k + 1 + d) = false := fun d => by
              induction d with
              | zero => exact hS'
              | succ d ih => rw [show k + 1 + (d + 1) = k + 1 + d + 1 by omega, quN, ih, Bool.false_and]
            have := this (len - (k + 1))
            rwa [show k + 1 + (len - (k + 1)) = len by omega] at this
          exact (hn _ _ _ _).trans (qq_ok ⟨by rw [hF], rfl, rfl⟩)
    · obtain rfl : k = len := by omega
      have c1 : ¬ (k : Int) < Int.ofNat k := by simp
      simp only [dF c1, cond_false] at hn
      exact (hn _ _ _ _).trans (qq_ok ⟨hq, rfl, rfl, rfl⟩)
  · rintro vs ms os ⟨hq, rfl, rfl, rfl⟩
    exact ⟨_, TOk.nil, .nil, 1, 1, 1, (quC r b off len cap _ _ _ _).trans (qq_ok ⟨by rw [hq], rfl, rfl⟩)⟩
  · rintro vs ms os ⟨rfl, rfl, rfl⟩
    exact ⟨_, mkA [], by kernel_rfl, rfl⟩

end Go.Proofs

/- A walk over all groups within a group, whatever is done in its rounds. -/
namespace Go.Num

/-- The next number within s. -/
def nxN (s t : Nat) : Nat := (18446744073709551616 - (s - t)) &&& s

theorem and_half (a b : Nat) : (a &&& b) / 2 = (a / 2) &&& (b / 2) := Nat.and_div_two
theorem and_odd (a b : Nat) : (a &&& b) % 2 = 1 ↔ a % 2 = 1 ∧ b % 2 = 1 := Nat.and_mod_two_eq_one

theorem in_half {t s : Nat} (h : t &&& s = t) : (t / 2) &&& (s / 2) = t / 2 := by rw [← and_half, h]
theorem in_odd {t s : Nat} (h : t &&& s = t) (ht : t % 2 = 1) : s % 2 = 1 := by
  rw [← h, and_odd] at ht
  exact ht.2

theorem comp_in : ∀ (b s t : Nat), s < 2 ^ b → t &&& s = t → (2 ^ b - 1 - (s - t)) &&& s = t
  | 0, s, t, hs, h => by
    obtain rfl : s = 0 := by simpa using hs
    rw [Nat.and_zero] at h ⊢
    exact h
  | b + 1, s, t, hs, h => by
    have hp : 2 ^ (b + 1) = 2 * 2 ^ b := by rw [Nat.pow_succ]; omega
    have ht := in_half h
    have hto := in_odd h
    have ih := comp_in b (s / 2) (t / 2) (by omega) ht
    have hle : t ≤ s := by rw [← h]; exact Nat.and_le_right
    generalize hX : 2 ^ (b + 1) - 1 - (s - t) = X
    have h1 := and_half X s
    have h2 := and_odd X s
    have hX2 : X / 2 = 2 ^ b - 1 - (s / 2 - t / 2) := by omega
    rw [hX2, ih] at h1
    generalize X &&& s = n at h1 h2
    by_cases c : t % 2 = 1
    · have : n % 2 = 1 := h2.2 ⟨by have := hto c; omega, hto c⟩
      omega
    · have : ¬ n % 2 = 1 := fun hn => by
        have := h2.1 hn
        omega
      omega

theorem nx_gen : ∀ (b s t : Nat), s < 2 ^ b → t &&& s = t → t < s → t < ((2 ^ b - (s - t)) &&& s) ∧ ∀ k, k &&& s = k → t < k → ((2 ^ b - (s - t)) &&& s) ≤ k
  | 0, s, t, hs, h, hlt => by omega
  | b + 1, s, t, hs, h, hlt => by
    have hp : 2 ^ (b + 1) = 2 * 2 ^ b := by rw [Nat.pow_succ]; omega
    have ht := in_half h
    have hto := in_odd h
    have hle : t / 2 ≤ s / 2 := by omega
    generalize hX : 2 ^ (b + 1) - (s - t) = X
    have h1 := and_half X s
    have h2 := and_odd X s
    by_cases c : s % 2 = t % 2
    · obtain ⟨i1, i2⟩ := nx_gen b (s / 2) (t / 2) (by omega) ht (by omega)
      have hX2 : X / 2 = 2 ^ b - (s / 2 - t / 2) := by omega
      rw [hX2] at h1
      generalize (2 ^ b - (s / 2 - t / 2)) &&& (s / 2) = n' at h1 i1 i2
      have h3 : ¬ (X &&& s) % 2 = 1 := fun hn => by have := h2.1 hn; omega
      generalize X &&& s = n at h1 h3
      refine ⟨by omega, fun k hk hlk => ?_⟩
      have hk2 := in_half hk
      have hko := in_odd hk
      have : t / 2 < k / 2 := by
        rcases Nat.lt_or_ge (t / 2) (k / 2) with h | h
        · exact h
        · exfalso
          have : k % 2 = 1 := by omega
          have := hko this
          omega
      have := i2 _ hk2 this
      omega
    · have hs1 : s % 2 = 1 := by
        by_cases d : t % 2 = 1
        · exact hto d
        · omega
      have hX2 : X / 2 = 2 ^ b - 1 - (s / 2 - t / 2) := by omega
      rw [hX2, comp_in b (s / 2) (t / 2) (by omega) ht] at h1
      have h3 : (X &&& s) % 2 = 1 := h2.2 ⟨by omega, hs1⟩
      generalize X &&& s = n at h1 h3
      exact ⟨by omega, fun k _ hlk => by omega⟩

theorem nx_gt {s t : Nat} (hs : s < 18446744073709551616) (h : t &&& s = t) (hne : t ≠ s) : t < nxN s t := by
  have hle : t ≤ s := by rw [← h]; exact Nat.and_le_right
  exact (nx_gen 64 s t (by simpa using hs) h (by omega)).1
theorem nx_min {s t : Nat} (hs : s < 18446744073709551616) (h : t &&& s = t) (hne : t ≠ s) {k : Nat} (hk : k &&& s = k) (hlt : t < k) : nxN s t ≤ k := by
  have hle : t ≤ s := by rw [← h]; exact Nat.and_le_right
  exact (nx_gen 64 s t (by simpa using hs) h (by omega)).2 k hk hlt
theorem nx_in (s t : Nat) : nxN s t &&& s = nxN s t := by
  unfold nxN
  rw [Nat.and_assoc, Nat.and_self]
theorem nx_le (s t : Nat) : nxN s t ≤ s := by rw [← nx_in s t]; exact Nat.and_le_right

end Go.Num
namespace Go.Proofs
open Go Go.Ev Go.Num
set_option linter.unusedVariables false
set_option linter.unusedSimpArgs false
set_option maxRecDepth 100000

abbrev fY (l : Nat) : Value := .func (.yield l) ⟨[]⟩ ⟨[]⟩
noncomputable def cGi : Code := bodyOf S0 49
noncomputable def Gi_0 : Code := (lc cGi)
noncomputable def Gi_1 : Code := (lc (lc (ic (ic (rc cGi)))))
noncomputable def Gi_2 : Code := (rc (lc (ic (ic (rc cGi)))))
noncomputable def Gi_3 : Code := (rc (ic (ic (rc cGi))))
theorem Gi_eq : cGi = (.seq Gi_0 (.block 0 (.loop (.seq (.seq Gi_1 Gi_2) Gi_3)))) := by kernel_rfl
def lvGi : List Nat := [0, 1, 3]
def tGi (l p : Nat) (t : Int) : Tr Value := bT lvGi [some (fY l), some (.pointer (some ⟨p, 0, none⟩)), some (U t)] .nil

theorem giA (r : Mem) (l p : Nat) (A : AW) (fs : FnsC) (K : KS) (kx : Nat → KS) (kr : KS) : run (SC r) 11 17 1 Gi_0 fs none K kx kr (sc0 11 [fY l, .pointer (some ⟨p, 0, none⟩)]) (tr0 11 [fY l, .pointer (some ⟨p, 0, none⟩)]) [] A =
    K [] (Tr.node (Tr.node (Tr.node Tr.nil (some (Value.int IntKind.u64 (Int.ofNat 0))) Tr.nil) (some (Value.pointer (some (Addr.mk p 0 none)))) Tr.nil) (some (Value.func (Fn.yield l) (Array.mk []) (Array.mk []))) Tr.nil) [] A := by kernel_rfl

theorem giB (r : Mem) (l p : Nat) (t : Int) (A : AW) (fs : FnsC) (K : KS) : preK (SC r) 11 17 Gi_1 2 fs K [] (tGi l p t) [] A =
    K [(5, Value.int IntKind.u64 t), (4, Value.func (Fn.yield l) (Array.mk []) (Array.mk []))] (Tr.node (Tr.node (Tr.node Tr.nil (some (Value.int IntKind.u64 t)) Tr.nil) (some (Value.pointer (some (Addr.mk p 0 none)))) Tr.nil) (some (Value.func (Fn.yield l) (Array.mk []) (Array.mk []))) Tr.nil) [] A := by kernel_rfl

theorem giC (r : Mem) (l p : Nat) (t : Int) (A : AW) : yieldAt (SC r) 11 Gi_1 2 ⟨[(5, U t), (4, fY l)], tGi l p t⟩ A = some (l, [U t], A) := by kernel_rfl

theorem giD (r : Mem) (l p : Nat) (t : Int) (v : Bool) (A : AW) (fs : FnsC) (K : KS) (kx : Nat → KS) (kr : KS) : tailK (SC r) 11 17 Gi_1 2 fs (run (SC r) 11 17 1 Gi_2 fs none (run (SC r) 11 17 1 Gi_3 fs none K kx kr) kx kr) (.bool v) [(5, U t), (4, fY l)] (tGi l p t) [] A =
    bif v then
      Option.casesOn
        (match Tr.get (AW.heap A) p with
        | some (AObj.cells c elem fam sz) => c[0]?
        | x => none)
        (CR.fail 423) fun val =>
        bif isI IntKind.u64 val then
          bif t != ofI val then
            Option.casesOn
              (match Tr.get (AW.heap A) p with
              | some (AObj.cells c elem fam sz) => c[0]?
              | x => none)
              (CR.fail 423) fun val =>
              bif isI IntKind.u64 val then
                Option.casesOn
                  (match Tr.get (AW.heap A) p with
                  | some (AObj.cells c elem fam sz) => c[0]?
                  | x => none)
                  (CR.fail 423) fun val_1 => bif isI IntKind.u64 val_1 then K [(16, Value.int IntKind.u64 (ibits BinOp.and IntKind.u64 (IntKind.wrap IntKind.u64 (t - ofI val)) (ofI val_1))), (15, Value.int IntKind.u64 (ofI val_1)), (14, Value.int IntKind.u64 (IntKind.wrap IntKind.u64 (t - ofI val))), (13, Value.int IntKind.u64 (ofI val)), (12, Value.int IntKind.u64 t)] (Tr.node (Tr.node (Tr.node Tr.nil (some (Value.int IntKind.u64 (ibits BinOp.and IntKind.u64 (IntKind.wrap IntKind.u64 (t - ofI val)) (ofI val_1)))) Tr.nil) (some (Value.pointer (some (Addr.mk p 0 none)))) Tr.nil) (some (Value.func (Fn.yield l) (Array.mk []) (Array.mk []))) Tr.nil) [] A else CR.fail 420
              else CR.fail 420
          else kx 0 [(11, Value.bool false), (10, Value.bool false), (9, Value.int IntKind.u64 (ofI val)), (8, Value.int IntKind.u64 t), (7, Value.bool true), (6, Value.bool true), (5, Value.int IntKind.u64 t), (4, Value.func (Fn.yield l) (Array.mk []) (Array.mk []))] (Tr.node (Tr.node (Tr.node Tr.nil (some (Value.int IntKind.u64 t)) Tr.nil) (some (Value.pointer (some (Addr.mk p 0 none)))) Tr.nil) (some (Value.func (Fn.yield l) (Array.mk []) (Array.mk []))) Tr.nil) [] A
        else CR.fail 420
    else kx 0 [(11, Value.bool false), (10, Value.tuple (Array.mk [])), (9, Value.tuple (Array.mk [])), (8, Value.tuple (Array.mk [])), (7, Value.bool false), (6, Value.bool false), (5, Value.int IntKind.u64 t), (4, Value.func (Fn.yield l) (Array.mk []) (Array.mk []))] (Tr.node (Tr.node (Tr.node Tr.nil (some (Value.int IntKind.u64 t)) Tr.nil) (some (Value.pointer (some (Addr.mk p 0 none)))) Tr.nil) (some (Value.func (Fn.yield l) (Array.mk []) (Array.mk []))) Tr.nil) [] A := by kernel_rfl

end Go.Proofs

/- A walk over all groups within a group, whatever is done in its rounds: what the call leaves. -/
namespace Go.Proofs
open Go Go.Ev Go.Num
set_option linter.unusedVariables false
set_option linter.unusedSimpArgs false
set_option maxRecDepth 100000

theorem uSub {s t : Nat} (hs : s < 9223372036854775808) (h : t ≤ s) (hne : t ≠ s) : IntKind.wrap IntKind.u64 (((t : Nat) : Int) - ((s : Nat) : Int)) = ((18446744073709551616 - (s - t) : Nat) : Int) := by rw [wrU]; omega

theorem groups_iter (r : Mem) {l p : Nat} {fl : List Fl} {s : Nat} (hs : s < 9223372036854775808) {I : Nat → OO → Prop} {E : OO → Prop} {os0 : OO}
    (hY : ∀ t os, t &&& s = t → I t os → YOk (SC r) l [U (t : Nat)] (mkA os) fun v A' => (∃ e f z, A'.heap.get p = some (.cells [U (s : Nat)] e f z)) ∧ ∃ os', Cn (mkA os0).next fl A' os' ∧ ((v = .bool true ∧ (t = s → E os') ∧ (t ≠ s → I (nxN s t) os')) ∨ (v = .bool false ∧ E os')))
    (h0 : I 0 os0) (hl : oldV (mkA os0) (fY l) = true) (hp : oldV (mkA os0) (P0 p) = true) :
    SOk (SC r) 49 [fY l, P0 p] (mkA os0) fun v A' => ∃ os, A' = mkA os ∧ E os := by
  refine callG (SC_ok r) (by kernel_rfl) ((bodySC r _).trans Gi_eq) (nt := 17) (by kernel_rfl) (rs := []) (by kernel_rfl) 11 rfl fun γ W F k hw hF hro hfr => ?_
  have ht := TOk.nil (C := SC r)
  have old : ∀ t : Nat, ∀ v, some v ∈ [some (fY l), some (P0 p), some (U (t : Nat))] → oldV (mkA os0) v = true := fun t v hv => by
    simp only [List.mem_cons, Option.some.injEq, List.not_mem_nil, or_false] at hv
    rcases hv with rfl | rfl | rfl
    · exact hl
    · exact hp
    · rfl
  refine Go.Ev.Reach.seq (Go.Ev.Reach.mono (Go.Ev.Reach.segP (kn := asks (· = ⟨⟨[], tGi l p ((0 : Nat) : Int)⟩, [], mkA os0⟩)) (kx := fun _ _ _ _ _ => .fail 0) (kr := fun _ _ _ _ => .fail 0) (SC_ok r) ht (tm := .nil) (L := 1) (L' := 1) (d := 1) hF hro ((giA r l p _ _ _ _ _).trans (qq_ok rfl))) fun ex st hq => ?_)
  cases ex with
  | normal =>
    have e : st = ⟨⟨[], tGi l p ((0 : Nat) : Int)⟩, [], mkA os0⟩ := qq_use hq
    subst e
    refine Go.Ev.Reach.block (Go.Ev.Reach.loop (I := fun j st => ∃ t os, j = s - t ∧ t &&& s = t ∧ I t os ∧ Ren (SC r) 11 17 γ W st ⟨⟨[], tGi l p (t : Nat)⟩, [], mkA os⟩) (fun j st ⟨t, os, hj, hts, hI, hren⟩ => Go.Ev.Reach.pre hren ?_) (j := s) ⟨0, os0, by simp, by simp, h0, Ren.refl _⟩)
    have hle : t ≤ s := by rw [← hts]; exact Nat.and_le_right
    let Pn : St → Prop := fun st => ∃ sx A', st = ⟨⟨sx, tGi l p (nxN s t : Nat)⟩, [], A'⟩ ∧ t ≠ s ∧ ∃ os', Cn (mkA os0).next fl A' os' ∧ I (nxN s t) os'
    let Px : St → Prop := fun st => ∃ sx T A', st = ⟨⟨sx, T⟩, [], A'⟩ ∧ ∃ os', Cn (mkA os0).next fl A' os' ∧ E os'
    refine Go.Ev.Reach.mono (Go.Ev.Reach.first (kn := asks Pn) (kx := fun i => match i with | 0 => asks Px | _ => fun _ _ _ _ => .fail 0) (kr := fun _ _ _ _ => .fail 0) (SC_ok r) ht (tm := .nil) (L := 1) (L' := 1) (d := 1) hF hro (.seq (.seq .here)) (Go.Ev.Reach.yieldK (SC_ok r) hF ht (tm := .nil) (L := 1) (d := 1) 2 ((giB r l p t _ _ _).trans (qn_ok rfl)) (giC r l p t _) (hY t os hts hI) fun v A' hS => ?_)) fun ex st' hq => ?_
    · obtain ⟨⟨e, f, z, hbox⟩, os', hcn, hv⟩ := hS
      rcases hv with ⟨rfl, h1, h2⟩ | ⟨rfl, hE⟩
      · have hn := giD r l p t true A'
        simp only [hbox, List.getElem?_cons_zero, show isI IntKind.u64 (U (s : Nat)) = true from rfl, show ofI (U (s : Nat)) = ((s : Nat) : Int) from rfl, cond_true] at hn
        by_cases c : t = s
        · have ne : (((t : Nat) : Int) != ((s : Nat) : Int)) = false := by simp [c]
          simp only [ne, cond_false] at hn
          exact (hn _ _ _ _).trans (qq_ok ⟨_, _, _, rfl, os', hcn, h1 c⟩)
        · have ne : (((t : Nat) : Int) != ((s : Nat) : Int)) = true := by simp; omega
          have e6 : ibits .and .u64 ((18446744073709551616 - (s - t) : Nat) : Int) ((s : Nat) : Int) = ((nxN s t : Nat) : Int) := (uO (by omega) (by omega)).2.1
          simp only [ne, cond_true, uSub hs hle c, e6] at hn
          exact (hn _ _ _ _).trans (qq_ok ⟨_, _, rfl, c, os', hcn, h2 c⟩)
      · have hn := giD r l p t false A'
        simp only [cond_false] at hn
        exact (hn _ _ _ _).trans (qq_ok ⟨_, _, _, rfl, os', hcn, hE⟩)
    · cases ex with
      | normal =>
        obtain ⟨sx, A', e, c, os', hcn, hI'⟩ : Pn st' := qq_use hq
        subst e
        have hgt := nx_gt (by omega) hts c
        have hle' := nx_le s t
        exact ⟨s - nxN s t, by omega, nxN s t, os', rfl, nx_in s t, hI', Ren.world hw (lv := lvGi) (vs := [some (fY l), some (P0 p), some (U (nxN s t : Nat))]) rfl (old _) (hcn.ren hfr)⟩
      | exit i =>
        cases i with
        | zero =>
          obtain ⟨sx, T, A', e, os', hcn, hE⟩ : Px st' := qq_use hq
          subst e
          exact ⟨.inl rfl, _, .tuple ⟨[]⟩, mkA os', Ren.world hw (lv := []) (vs := []) rfl (fun v hv => nomatch hv) (hcn.ren hfr), rfl, os', rfl, hE⟩
        | succ i => cases hq
      | ret => cases hq
      | _ => exact hq.elim
  | exit i => cases hq
  | ret => cases hq
  | _ => exact hq.elim

end Go.Proofs

/- Structures: what the program's calls answer. -/
namespace Go.Proofs
open Go Go.Ev Go.Num
set_option linter.unusedVariables false
set_option linter.unusedSimpArgs false
set_option maxRecDepth 100000

theorem pgC_gnd (n : Int) (ws : List Nat) : gnds (pgC n ws) = true := by
  show (true && gnds (ws.map fun (w : Nat) => U (w : Int))) = true
  rw [Bool.true_and]
  induction ws with
  | nil => rfl
  | cons x l ih => show (true && gnds (l.map _)) = true; rw [ih]; rfl
theorem ePW_ok (r : Mem) {f : Nat} {c : List Value} {v : Int → Value} (hc : gnds c = true) (h : ∀ s : Nat, s < 1024 → GrT Tryd.prog r f [.agg ⟨c⟩, U (s : Nat)] (v (s : Nat))) : EOk (SC r) f (ePW c v) := EOk.ent fun args A hg => by
  split at hg
  · rename_i l s
    simp only [Bool.and_eq_true] at hg
    have h1 := @of_decide_eq_true _ (Classical.propDecidable _) hg.1
    have h2 := of_decide_eq_true hg.2
    subst h1
    have := h s.toNat (by omega)
    rw [show ((s.toNat : Nat) : Int) = s by omega] at this
    exact this.ro (by simp [roVs, roV, gnd, hc]) A
  · cases hg

/-- Ten words, one by one. -/
theorem pgC10 (n : Int) {ws : List Nat} (h : ws.length = 10) : ∃ a0 a1 a2 a3 a4 a5 a6 a7 a8 a9 : Nat, ws = [a0, a1, a2, a3, a4, a5, a6, a7, a8, a9] ∧ pgC n ws = [I n, U a0, U a1, U a2, U a3, U a4, U a5, U a6, U a7, U a8, U a9] := by
  obtain ⟨a0, a1, a2, a3, a4, a5, a6, a7, a8, a9, rfl⟩ := list10 h
  exact ⟨a0, a1, a2, a3, a4, a5, a6, a7, a8, a9, rfl, rfl⟩

theorem isq_ok (r : Mem) (hm : ∀ b j u, tabM b j = some u → r b j = some u) (n : Int) (ws : List Nat) (hl : ws.length = 10) (hw : ∀ w ∈ ws, w < 65536) (s : Nat) (hs : s < 1024) :
    GrT Tryd.prog r 26 [.agg ⟨pgC n ws⟩, U (s : Nat)] (.bool (quN (fun i => ws.getD i 0) s 10)) := by
  have hf : EOk (SC r) 36 (ePW (pgC n ws) fun s => U (m_fo ws s)) := ePW_ok r (pgC_gnd n ws) fun s hs => by
    have := foes_ok r hm n ws hl hw s hs
    show GrT Tryd.prog r _ _ (U (m_fo ws (s : Nat)))
    unfold m_fo
    rw [Int.toNat_natCast]
    exact this
  have hfl : foE (fun i => ws.getD i 0) s 10 < 65536 := foE_lt s 10 fun i _ => getD_lt hw i
  have e1 : ibits .and .u64 ((s : Nat) : Int) (m_fo ws (s : Nat)) = ((s &&& foE (fun i => ws.getD i 0) s 10 : Nat) : Int) := by
    unfold m_fo
    rw [Int.toNat_natCast]
    exact (uO (by omega) (by omega)).2.1
  have e2 : (((s &&& foE (fun i => ws.getD i 0) s 10 : Nat) : Int) == Int.ofNat 0) = quN (fun i => ws.getD i 0) s 10 := by
    rw [← quN_fo, Bool.eq_iff_iff]
    simp
  have hw10 : m_w10 (s : Nat) = true := decide_eq_true ⟨by omega, by omega⟩
  generalize quN (fun i => ws.getD i 0) s 10 = v at e2 ⊢
  obtain ⟨a0, a1, a2, a3, a4, a5, a6, a7, a8, a9, _, hp⟩ := pgC10 n hl
  rw [hp] at hf ⊢
  refine GrT.of (SC_ok r) (show TOk (SC r) (tIq [I n, U a0, U a1, U a2, U a3, U a4, U a5, U a6, U a7, U a8, U a9] ws) from TOk.cons TOk.nil hf) .nil rfl ⟨1, 2, ?_⟩
  rw [iqA, show m_same _ _ = true from same_rfl _, hw10, e1, e2]
  cases v <;> rfl

theorem fsz_ok (r : Mem) (s : Int) (h : m_popG s = true) : GrT Tryd.prog r 38 [U s] (I (m_pop s)) :=
  GrT.of (SC_ok r) (TOk.cons TOk.nil (ePop_ok r)) .nil rfl ⟨1, 4, (fszA r s).trans (by rw [h]; rfl)⟩

theorem all_eq {m : Nat} (h : m ≤ 16) : m_all (m : Nat) = ((2 ^ m - 1 : Nat) : Int) := by
  have : ∀ j : Fin 17, (2 : Int) ^ j.val - 1 = ((2 ^ j.val - 1 : Nat) : Int) := by decide
  unfold m_all
  rw [Int.toNat_natCast]
  exact this ⟨m, by omega⟩
theorem fall_ok (r : Mem) (m : Nat) (hm : m ≤ 16) (ws : List Nat) (hl : ws.length = 10) : GrT Tryd.prog r 25 [.agg ⟨pgC (m : Nat) ws⟩] (U (m_all (m : Nat))) := by
  obtain ⟨a0, a1, a2, a3, a4, a5, a6, a7, a8, a9, _, hp⟩ := pgC10 (m : Nat) hl
  rw [hp]
  refine GrT.of (SC_ok r) TOk.nil .nil rfl ⟨1, 4, (alA r (m : Nat) a0 a1 a2 a3 a4 a5 a6 a7 a8 a9).trans ?_⟩
  have e : IntKind.wrap IntKind.u64 (IntKind.wrap IntKind.u64 (Int.ofNat 1 * Int.ofNat 2 ^ min (Int.toNat ((m : Nat) : Int)) 64) - Int.ofNat 1) = m_all (m : Nat) := by
    rw [all_eq hm, Int.toNat_natCast]
    have : ∀ j : Fin 17, IntKind.wrap IntKind.u64 (IntKind.wrap IntKind.u64 (Int.ofNat 1 * Int.ofNat 2 ^ min j.val 64) - Int.ofNat 1) = ((2 ^ j.val - 1 : Nat) : Int) := by decide
    exact this ⟨m, by omega⟩
  rw [dF (show ¬ ((m : Nat) : Int) < 0 by omega), Bool.not_false, cond_true, e]
  rfl
theorem rall_ok (r : Mem) (b off len cap : Nat) (hl : len ≤ 16) : GrT Tryd.prog r 10 [RS b off len cap] (I (m_all (len : Nat))) := by
  refine GrT.of (SC_ok r) TOk.nil .nil rfl ⟨1, 2, (raA r b off len cap).trans ?_⟩
  have e : IntKind.wrap IntKind.i64 (IntKind.wrap IntKind.i64 (Int.ofNat 1 * Int.ofNat 2 ^ min (Int.toNat (Int.ofNat len)) 64) - Int.ofNat 1) = m_all (len : Nat) := by
    rw [all_eq hl]
    have : ∀ j : Fin 17, IntKind.wrap IntKind.i64 (IntKind.wrap IntKind.i64 (Int.ofNat 1 * Int.ofNat 2 ^ min (Int.toNat (Int.ofNat j.val)) 64) - Int.ofNat 1) = ((2 ^ j.val - 1 : Nat) : Int) := by decide
    exact this ⟨len, by omega⟩
  rw [e]
  rfl

end Go.Proofs

