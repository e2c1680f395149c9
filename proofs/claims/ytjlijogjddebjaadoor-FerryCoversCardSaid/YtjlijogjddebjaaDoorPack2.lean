/- What the claim is proved with, part 2: the evaluator and the contracts of the calls. -/
import Derived.Test.YtjlijogjddebjaaDoorPack1
import Derived.Test.YtjlijogjddebjaaDoorEvCanR
import Derived.Test.YtjlijogjddebjaaDoorEvSetB
import Derived.Test.YtjlijogjddebjaaDoorEvOwn
/- math/bits.OnesCount64: how many bits, of numbers below 65536. -/
set_option linter.unusedVariables false
set_option linter.unusedSimpArgs false
namespace Go.Num

def oN1 (x : Nat) : Nat := ((x / 2) &&& 6148914691236517205) + (x &&& 6148914691236517205)
def oN2 (x : Nat) : Nat := ((x / 4) &&& 3689348814741910323) + (x &&& 3689348814741910323)
def oN3 (x : Nat) : Nat := (x / 16 + x) &&& 1085102592571150095
def oN4 (x : Nat) : Nat := x + x / 256
def oN5 (x : Nat) : Nat := x + x / 65536
def oN6 (x : Nat) : Nat := x + x / 4294967296
theorem popN_succ (f m : Nat) : popN (f + 1) m = m % 2 + popN f (m / 2) := by
  rw [popN]
  split
  · rename_i h; rw [h, popN_zero]
  · rfl
theorem pop_split (f h l : Nat) (hl : l < 256) : popN (f + 8) (256 * h + l) = popN f h + popN 8 l := by
  simp only [show f + 8 = (((((((f + 1) + 1) + 1) + 1) + 1) + 1) + 1) + 1 by rfl, popN_succ, Nat.div_div_eq_div_mul, Nat.reduceMul]
  have e : (256 * h + l) / 256 = h := by omega
  rw [e, show popN 0 (l / 256) = 0 from rfl]
  omega
theorem land_split {a b c d : Nat} (hb : b < 256) (hd : d < 256) : (256 * a + b) &&& (256 * c + d) = 256 * (a &&& c) + (b &&& d) := by
  have hbd : b &&& d < 256 := Nat.lt_of_le_of_lt Nat.and_le_left hb
  apply Nat.eq_of_testBit_eq
  intro i
  rw [Nat.testBit_and, show 256 = 2 ^ 8 by rfl, Nat.testBit_two_pow_mul_add a hb, Nat.testBit_two_pow_mul_add c hd, Nat.testBit_two_pow_mul_add (a &&& c) hbd]
  split
  · rw [Nat.testBit_and]
  · rw [Nat.testBit_and]
def c1 (x : Nat) : Nat := ((x / 2) &&& 85) + (x &&& 85)
def c2 (x : Nat) : Nat := ((x / 4) &&& 51) + (x &&& 51)
def c3 (x : Nat) : Nat := (x / 16 + x) &&& 15
theorem c_all : ∀ l : Fin 256, c1 l.val < 171 ∧ c2 (c1 l.val) < 69 ∧ c2 (c1 l.val) % 16 < 5 ∧ c3 (c2 (c1 l.val)) = popN 8 l.val := by decide +kernel
theorem m1_all : ∀ (t : Fin 2) (l : Fin 256), (128 * t.val + l.val / 2) &&& 85 = (l.val / 2) &&& 85 := by decide +kernel
theorem m2_all : ∀ (t : Fin 4) (l : Fin 256), (64 * t.val + l.val / 4) &&& 51 = (l.val / 4) &&& 51 := by decide +kernel
theorem m3_all : ∀ (t : Fin 5) (l : Fin 69), (16 * t.val + l.val / 16 + l.val) &&& 15 = (l.val / 16 + l.val) &&& 15 := by decide +kernel
theorem a1_all : ∀ l : Fin 256, l.val &&& 24019198012642645 = l.val &&& 85 ∧ l.val &&& 14411518807585587 = l.val &&& 51 ∧ l.val &&& 4238682002231055 = l.val &&& 15 := by decide +kernel

theorem oN1_split {h l : Nat} (hh : h < 256) (hl : l < 256) : oN1 (256 * h + l) = 256 * c1 h + c1 l := by
  unfold oN1
  have e : (256 * h + l) / 2 = 256 * (h / 2) + (128 * (h % 2) + l / 2) := by omega
  rw [e, show 6148914691236517205 = 256 * 24019198012642645 + 85 by rfl, land_split (by omega) (by omega), land_split hl (by omega)]
  have q1 := (a1_all ⟨h / 2, by omega⟩).1
  have q2 := (a1_all ⟨h, hh⟩).1
  have q3 := m1_all ⟨h % 2, by omega⟩ ⟨l, hl⟩
  simp only at q1 q2 q3
  rw [q1, q2, q3]
  unfold c1
  omega
theorem oN2_split {h l : Nat} (hh : h < 256) (hl : l < 256) : oN2 (256 * h + l) = 256 * c2 h + c2 l := by
  unfold oN2
  have e : (256 * h + l) / 4 = 256 * (h / 4) + (64 * (h % 4) + l / 4) := by omega
  rw [e, show 3689348814741910323 = 256 * 14411518807585587 + 51 by rfl, land_split (by omega) (by omega), land_split hl (by omega)]
  have q1 := (a1_all ⟨h / 4, by omega⟩).2.1
  have q2 := (a1_all ⟨h, hh⟩).2.1
  have q3 := m2_all ⟨h % 4, by omega⟩ ⟨l, hl⟩
  simp only at q1 q2 q3
  rw [q1, q2, q3]
  unfold c2
  omega
theorem oN3_split {h l : Nat} (hh : h < 69) (hm : h % 16 < 5) (hl : l < 69) : oN3 (256 * h + l) = 256 * c3 h + c3 l := by
  unfold oN3
  have e : (256 * h + l) / 16 + (256 * h + l) = 256 * (h / 16 + h) + (16 * (h % 16) + l / 16 + l) := by omega
  rw [e, show 1085102592571150095 = 256 * 4238682002231055 + 15 by rfl, land_split (by omega) (by omega)]
  have q1 := (a1_all ⟨h / 16 + h, by omega⟩).2.2
  have q3 := m3_all ⟨h % 16, hm⟩ ⟨l, hl⟩
  simp only at q1 q3
  rw [q1, q3]
  rfl

/-- All steps, each of them small. -/
theorem oN_all {x : Nat} (hx : x < 65536) : oN1 x < 1000000 ∧ oN2 (oN1 x) < 1000000 ∧ oN3 (oN2 (oN1 x)) < 1000000 ∧ oN4 (oN3 (oN2 (oN1 x))) < 1000000 ∧ oN5 (oN4 (oN3 (oN2 (oN1 x)))) < 1000000 ∧ oN6 (oN5 (oN4 (oN3 (oN2 (oN1 x))))) < 1000000 ∧
    oN6 (oN5 (oN4 (oN3 (oN2 (oN1 x))))) % 128 = popN 16 x := by
  obtain ⟨h, l, rfl, hh, hl⟩ : ∃ h l, x = 256 * h + l ∧ h < 256 ∧ l < 256 := ⟨x / 256, x % 256, by omega, by omega, by omega⟩
  obtain ⟨p1, p2, p3, p4⟩ := c_all ⟨h, hh⟩
  obtain ⟨q1, q2, q3, q4⟩ := c_all ⟨l, hl⟩
  simp only at p1 p2 p3 p4 q1 q2 q3 q4
  have r1 := popN_le 8 h
  have r2 := popN_le 8 l
  rw [pop_split 8 h l hl, oN1_split hh hl, oN2_split (by omega) (by omega), oN3_split p2 p3 q2, p4, q4]
  generalize popN 8 h = u at *
  generalize popN 8 l = v at *
  generalize c1 h = a1 at *
  generalize c1 l = a2 at *
  have e4 : oN4 (256 * u + v) = 257 * u + v := by unfold oN4; omega
  have e5 : oN5 (257 * u + v) = 257 * u + v := by unfold oN5; omega
  have e6 : oN6 (257 * u + v) = 257 * u + v := by unfold oN6; omega
  rw [e4, e5, e6]
  omega

end Go.Num
namespace Go.Proofs
open Go Go.Ev Go.Num
set_option maxRecDepth 100000

def oI1 (x : Int) : Int := IntKind.wrap IntKind.u64 (ibits BinOp.and IntKind.u64 (Int.fdiv x (Int.ofNat 2)) (Int.ofNat 6148914691236517205) + ibits BinOp.and IntKind.u64 x (Int.ofNat 6148914691236517205))
def oI2 (x : Int) : Int := IntKind.wrap IntKind.u64 (ibits BinOp.and IntKind.u64 (Int.fdiv x (Int.ofNat 4)) (Int.ofNat 3689348814741910323) + ibits BinOp.and IntKind.u64 x (Int.ofNat 3689348814741910323))
def oI3 (x : Int) : Int := ibits BinOp.and IntKind.u64 (IntKind.wrap IntKind.u64 (Int.fdiv x (Int.ofNat 16) + x)) (Int.ofNat 1085102592571150095)
def oI4 (x : Int) : Int := IntKind.wrap IntKind.u64 (x + Int.fdiv x (Int.ofNat 256))
def oI5 (x : Int) : Int := IntKind.wrap IntKind.u64 (x + Int.fdiv x (Int.ofNat 65536))
def oI6 (x : Int) : Int := IntKind.wrap IntKind.u64 (x + Int.fdiv x (Int.ofNat 4294967296))
def oI (x : Int) : Int := ibits BinOp.and IntKind.i64 (IntKind.wrap IntKind.i64 (oI6 (oI5 (oI4 (oI3 (oI2 (oI1 x))))))) (Int.ofNat 127)

theorem ocA (r : Mem) (x : Int) : (lvlT (SC r) (fun _ => none) .nil 1 1).call 61 [.int .u64 x] emptyA fin = CR.ret (I (oI x)) emptyA := by kernel_rfl

theorem fdivN (a k : Nat) : Int.fdiv (a : Int) (Int.ofNat k) = ((a / k : Nat) : Int) := by
  rw [Int.fdiv_eq_ediv_of_nonneg _ (show (0 : Int) ≤ Int.ofNat k from Int.natCast_nonneg k)]
  exact (Int.natCast_ediv a k).symm
theorem wrapU {a : Nat} (h : a < 18446744073709551616) : IntKind.wrap .u64 (a : Int) = (a : Int) := by
  simp [IntKind.wrap, IntKind.bits, IntKind.signed]
  omega
theorem andU {a b : Nat} (ha : a < 18446744073709551616) (hb : b < 18446744073709551616) : ibits BinOp.and .u64 (a : Int) (Int.ofNat b) = ((a &&& b : Nat) : Int) := by
  show IntKind.wrap .u64 ((BitVec.ofInt 64 (a : Int) &&& BitVec.ofInt 64 (b : Int)).toNat : Int) = _
  rw [BitVec.ofInt_natCast, BitVec.ofInt_natCast, BitVec.toNat_and, BitVec.toNat_ofNat, BitVec.toNat_ofNat, Nat.mod_eq_of_lt (by omega), Nat.mod_eq_of_lt (by omega)]
  have : a &&& b ≤ a := Nat.and_le_left
  exact wrapU (by omega)
theorem andI {a b : Nat} (ha : a < 1000000) (hb : b < 1000000) : ibits BinOp.and .i64 (a : Int) (Int.ofNat b) = ((a &&& b : Nat) : Int) := by
  show IntKind.wrap .i64 ((BitVec.ofInt 64 (a : Int) &&& BitVec.ofInt 64 (b : Int)).toNat : Int) = _
  rw [BitVec.ofInt_natCast, BitVec.ofInt_natCast, BitVec.toNat_and, BitVec.toNat_ofNat, BitVec.toNat_ofNat, Nat.mod_eq_of_lt (by omega), Nat.mod_eq_of_lt (by omega)]
  have : a &&& b ≤ a := Nat.and_le_left
  exact wrI (by omega)

theorem oI_eq {x : Nat} (hx : x < 65536) : oI (x : Int) = (popN 16 x : Nat) := by
  obtain ⟨h1, h2, h3, h4, h5, h7, h6⟩ := oN_all hx
  have e1 : oI1 (x : Int) = (oN1 x : Nat) := by
    unfold oI1
    rw [fdivN, andU (by omega) (by omega), andU (by omega) (by omega), ← Int.natCast_add]
    exact wrapU (a := oN1 x) (by omega)
  generalize oN1 x = a at *
  have e2 : oI2 (a : Int) = (oN2 a : Nat) := by
    unfold oI2
    rw [fdivN, andU (by omega) (by omega), andU (by omega) (by omega), ← Int.natCast_add]
    exact wrapU (a := oN2 a) (by omega)
  generalize oN2 a = b at *
  have e3 : oI3 (b : Int) = (oN3 b : Nat) := by
    unfold oI3
    rw [fdivN, ← Int.natCast_add, wrapU (by omega), andU (by omega) (by omega)]
    rfl
  generalize oN3 b = c at *
  have e4 : oI4 (c : Int) = (oN4 c : Nat) := by
    unfold oI4
    rw [fdivN, ← Int.natCast_add]
    exact wrapU (a := oN4 c) (by omega)
  generalize oN4 c = d at *
  have e5 : oI5 (d : Int) = (oN5 d : Nat) := by
    unfold oI5
    rw [fdivN, ← Int.natCast_add]
    exact wrapU (a := oN5 d) (by omega)
  generalize oN5 d = e at *
  have e6 : oI6 (e : Int) = (oN6 e : Nat) := by
    unfold oI6
    rw [fdivN, ← Int.natCast_add]
    exact wrapU (a := oN6 e) (by omega)
  unfold oI
  rw [e1, e2, e3, e4, e5, e6, wrI (by omega), andI (by omega) (by omega), ← h6]
  congr 1
  exact Nat.and_two_pow_sub_one_eq_mod (oN6 e) 7

theorem ones_ok (r : Mem) (x : Nat) (hx : x < 65536) : GrT Tryd.prog r 61 [.int .u64 x] (I (popN 16 x : Nat)) :=
  GrT.of (SC_ok r) TOk.nil .nil rfl ⟨1, 1, by rw [ocA, oI_eq hx]⟩

/-- An entry: as many bits as a word has. -/
def m_popG (x : Int) : Bool := decide (0 ≤ x ∧ x < 65536)
def m_pop (x : Int) : Int := (popN 16 x.toNat : Nat)
def eU1 (g : Int → Bool) (v : Int → Value) : Ent := ent (fun args _ => match args with | [.int .u64 a] => g a | _ => false) (fun args _ => match args with | [.int .u64 a] => v a | _ => undef)
theorem eU1_ok {C : Cfg} {f : Nat} {g : Int → Bool} {v : Int → Value} (h : ∀ a, g a = true → GrT C.P C.ro f [.int .u64 a] (v a)) : EOk C f (eU1 g v) := EOk.ent fun args A hg => by
  split at hg
  · exact (h _ hg).ro rfl A
  · cases hg
def ePop : Ent := eU1 m_popG fun x => I (m_pop x)
theorem ePop_ok (r : Mem) : EOk (SC r) 61 ePop := eU1_ok fun a ha => by
  have h := of_decide_eq_true ha
  have := ones_ok r a.toNat (by omega)
  rw [show ((a.toNat : Nat) : Int) = a by omega] at this
  exact this

end Go.Proofs

/- The foes of a group, run. -/
namespace Go.Proofs
open Go Go.Ev Go.Num
set_option linter.unusedVariables false
set_option linter.unusedSimpArgs false
set_option maxRecDepth 100000

abbrev P0 (i : Nat) : Value := .pointer (some ⟨i, 0, none⟩)
def rgA : Code → Code
  | .rangeFunc _ _ a _ => a
  | c => c
def rgB : Code → Code
  | .rangeFunc _ _ _ b => b
  | c => c
noncomputable def cFo : Code := bodyOf S0 36
noncomputable def Fo_0 : Code := (lc cFo)
noncomputable def Fo_1 : Code := (lc (rc cFo))
noncomputable def Fo_2 : Code := (lc (lc (rc (rc cFo))))
noncomputable def Fo_3 : Code := (ic (rc (lc (rc (rc cFo)))))
noncomputable def Fo_4 : Code := (rc (rc (rc cFo)))
theorem Fo_eq : cFo = (.seq Fo_0 (.seq Fo_1 (.seq (.seq Fo_2 (.block 0 Fo_3)) Fo_4))) := by kernel_rfl
theorem Fo3_eq : Fo_3 = .rangeFunc (.tmp 8) #[9] (rgA Fo_3) (rgB Fo_3) := by kernel_rfl
noncomputable def cEs : Code := bodyOf S0 58
noncomputable def Es_0 : Code := (lc cEs)
noncomputable def Es_1 : Code := (ic (ic (rc cEs)))
theorem Es_eq : cEs = (.seq Es_0 (.block 0 (.loop Es_1))) := by kernel_rfl
def m_twG (s : Int) : Bool := decide (1 ≤ s ∧ s < 1024)
def tzN : Nat → Nat → Nat
  | 0, _ => 0
  | f + 1, s => if s % 2 = 1 then 0 else tzN f (s / 2) + 1
def m_tw (s : Int) : Int := (tzN 16 s.toNat : Nat)
def eTz : Ent := eU1 m_twG fun x => I (m_tw x)
def tEs : Tbl := tcons 59 eTz fun _ => none
def lvFo : List Nat := [2, 5, 8]
abbrev fEs : Value := .func (.func 58) ⟨[]⟩ ⟨[P0 2]⟩
abbrev fYe : Value := .func (.yield 4) ⟨[]⟩ ⟨[]⟩
def enFo : En := ⟨[], bT lvFo [some (P0 0), some (P0 1), some fEs] .nil⟩
noncomputable def loopFo (st : LoopState) : AObj := .loop st none 887 enFo 17 #[9] (rgA Fo_3) (rgB Fo_3) 3
def osFo (c : List Value) (s f : Int) : OO := [some (.cells c 54 0 0), some (.cells [U f] 51 1 0), some (.cells [U s] 51 2 0)]
noncomputable def osF5 (c : List Value) (s f : Int) : OO := [some (.cells c 54 0 0), some (.cells [U f] 51 1 0), some (.cells [U s] 51 2 0), some .defd, some (loopFo .ready)]
noncomputable def A5 (c : List Value) (s f : Int) : AW := ((mkA (osFo c s f)).new .defd).new (loopFo .ready)
noncomputable def D5 (c : List Value) (s f : Int) : AW := { mkA (osF5 c s f) with heap := (mkA (osF5 c s f)).heap.put 4 (some (loopFo .exhausted)) }
def lvEs : List Nat := [0, 3]
def flEs : List Fl := [.g, .g, .g, .g, .l lvFo]

theorem foA (r : Mem) (n s : Int) (l : List Value) (K : OV → List Nat → OO → CR) (kx : Nat → KS) (kr : KS) : run (SC r) 887 17 1 (.seq Fo_0 (.seq Fo_1 Fo_2)) (lvlT (SC r) (fun _ => none) .nil 1 3) none (rbK 0 lvFo [.g, .g, .g] K) kx kr (sc0 887 [.agg ⟨I n :: l⟩, U s]) (tr0 887 [.agg ⟨I n :: l⟩, U s]) [] emptyA =
    bif m_nns (Value.int IntKind.i64 n :: l) && (true && (m_nns [Value.int IntKind.u64 s] && true)) then K [some (Value.pointer (some (Addr.mk 0 0 none))), some (Value.pointer (some (Addr.mk 1 0 none))), some (Value.func (Fn.func 58) (Array.mk []) (Array.mk [Value.pointer (some (Addr.mk 2 0 none))]))] [] [some (AObj.cells (Value.int IntKind.i64 n :: l) 54 0 0), some (AObj.cells [Value.int IntKind.u64 (Int.ofNat 0)] 51 1 0), some (AObj.cells [Value.int IntKind.u64 s] 51 2 0)] else CR.fail 420 := by kernel_rfl

theorem esA (r : Mem) (s f : Int) (c : List Value) (fs : FnsC) (K : OV → List Nat → OO → CR) (kx : Nat → KS) (kr : KS) : run (SC r) 11 16 1 Es_0 fs none (rbK 5 lvEs flEs K) kx kr (sc0 11 [fYe, P0 2]) (tr0 11 [fYe, P0 2]) [] (A5 c s f) =
    bif m_nns c && (m_nns [Value.int IntKind.u64 f] && (m_nns [Value.int IntKind.u64 s] && true)) then K [some (Value.func (Fn.yield 4) (Array.mk []) (Array.mk [])), some (Value.int IntKind.u64 s)] [] [some (AObj.cells c 54 0 0), some (AObj.cells [Value.int IntKind.u64 f] 51 1 0), some (AObj.cells [Value.int IntKind.u64 s] 51 2 0), some AObj.defd, some (AObj.loop LoopState.ready none 887 (En.mk [] (Tr.node (Tr.node Tr.nil none (Tr.node Tr.nil (some (Value.pointer (some (Addr.mk 1 0 none)))) Tr.nil)) none (Tr.node (Tr.node (Tr.node Tr.nil (some (Value.func (Fn.func 58) (Array.mk []) (Array.mk [Value.pointer (some (Addr.mk 2 0 none))]))) Tr.nil) none Tr.nil) (some (Value.pointer (some (Addr.mk 0 0 none)))) Tr.nil))) 17 (Array.mk [9]) (Code.region 3 #[Oper.mk (some 6) (Op.assign (Operand.tmp 9)) 3 "passengers.go:75" #[] none] false) (Code.block 1 (Code.region 4 #[Oper.mk (some 10) (Op.load 51 (Operand.tmp 5)) 51 "passengers.go:76" #[] none, Oper.mk (some 11) (Op.move (Operand.tmp 6)) 3 "passengers.go:76" #[] none, Oper.mk (some 12) (Op.fieldAddr 54 (Operand.tmp 2) 1) 0 "passengers.go:76" #[] none, Oper.mk (some 13) (Op.indexAddr 52 (Operand.tmp 12) (Operand.tmp 11)) 0 "passengers.go:76" #[Edge.mk 2 Ground.data, Edge.mk 1 Ground.data] none, Oper.mk (some 14) (Op.load 51 (Operand.tmp 13)) 51 "passengers.go:76" #[Edge.mk 3 Ground.data] none, Oper.mk (some 15) (Op.binOp BinOp.or 51 (Operand.tmp 10) (Operand.tmp 14) 51) 51 "passengers.go:76" #[Edge.mk 0 Ground.data, Edge.mk 4 Ground.data] none, Oper.mk none (Op.store 51 (Operand.tmp 5) (Operand.tmp 15)) 0 "passengers.go:76" #[Edge.mk 5 Ground.data, Edge.mk 0 Ground.phase, Edge.mk 1 Ground.phase, Edge.mk 2 Ground.phase, Edge.mk 3 Ground.phase, Edge.mk 4 Ground.phase, Edge.mk 5 Ground.phase] none] true)) 3)] else CR.fail 420 := by kernel_rfl

theorem esB (r : Mem) (s f t : Int) (c : List Value) (K : OV → List Nat → OO → CR) (KX : Nat → OV → List Nat → OO → CR) (KR : OV → List Nat → OO → CR) : run (SC r) 11 16 1 Es_1 (lvlT (SC r) tEs .nil 1 2) none (rbK 5 lvEs flEs K) (fun i => rbK 5 [] flEs (KX i)) (rbK 5 [] flEs KR) [] (bT lvEs [some fYe, some (U t)] .nil) [] (mkA (osF5 c s f)) =
    bif t != Int.ofNat 0 then bif m_twG t then bif Nat.blt (Int.toNat (m_tw t)) 10 then Option.casesOn c[Nat.add 1 (Nat.mul (Int.toNat (m_tw t)) 1)]? (CR.fail 423) fun val => bif isI IntKind.u64 val then Option.casesOn c[Nat.add 1 (Nat.mul (Int.toNat (m_tw t)) 1)]? (CR.fail 423) fun val_1 => bif isI IntKind.u64 val_1 then bif m_eqv (Value.int IntKind.u64 (ofI val_1)) (Value.int IntKind.u64 (ofI val)) then bif m_eqv (Value.int IntKind.u64 f) (Value.int IntKind.u64 f) then bif m_nns c && (m_nns [Value.int IntKind.u64 (ibits BinOp.or IntKind.u64 f (ofI val))] && (m_nns [Value.int IntKind.u64 s] && true)) then K [some (Value.func (Fn.yield 4) (Array.mk []) (Array.mk [])), some (Value.int IntKind.u64 (ibits BinOp.and IntKind.u64 t (IntKind.wrap IntKind.u64 (t - Int.ofNat 1))))] [] [some (AObj.cells c 54 0 0), some (AObj.cells [Value.int IntKind.u64 (ibits BinOp.or IntKind.u64 f (ofI val))] 51 1 0), some (AObj.cells [Value.int IntKind.u64 s] 51 2 0), some AObj.defd, some (AObj.loop LoopState.ready none 887 (En.mk [] (Tr.node (Tr.node Tr.nil none (Tr.node Tr.nil (some (Value.pointer (some (Addr.mk 1 0 none)))) Tr.nil)) none (Tr.node (Tr.node (Tr.node Tr.nil (some (Value.func (Fn.func 58) (Array.mk []) (Array.mk [Value.pointer (some (Addr.mk 2 0 none))]))) Tr.nil) none Tr.nil) (some (Value.pointer (some (Addr.mk 0 0 none)))) Tr.nil))) 17 (Array.mk [9]) (Code.region 3 #[Oper.mk (some 6) (Op.assign (Operand.tmp 9)) 3 "passengers.go:75" #[] none] false) (Code.block 1 (Code.region 4 #[Oper.mk (some 10) (Op.load 51 (Operand.tmp 5)) 51 "passengers.go:76" #[] none, Oper.mk (some 11) (Op.move (Operand.tmp 6)) 3 "passengers.go:76" #[] none, Oper.mk (some 12) (Op.fieldAddr 54 (Operand.tmp 2) 1) 0 "passengers.go:76" #[] none, Oper.mk (some 13) (Op.indexAddr 52 (Operand.tmp 12) (Operand.tmp 11)) 0 "passengers.go:76" #[Edge.mk 2 Ground.data, Edge.mk 1 Ground.data] none, Oper.mk (some 14) (Op.load 51 (Operand.tmp 13)) 51 "passengers.go:76" #[Edge.mk 3 Ground.data] none, Oper.mk (some 15) (Op.binOp BinOp.or 51 (Operand.tmp 10) (Operand.tmp 14) 51) 51 "passengers.go:76" #[Edge.mk 0 Ground.data, Edge.mk 4 Ground.data] none, Oper.mk none (Op.store 51 (Operand.tmp 5) (Operand.tmp 15)) 0 "passengers.go:76" #[Edge.mk 5 Ground.data, Edge.mk 0 Ground.phase, Edge.mk 1 Ground.phase, Edge.mk 2 Ground.phase, Edge.mk 3 Ground.phase, Edge.mk 4 Ground.phase, Edge.mk 5 Ground.phase] none] true)) 3)] else CR.fail 420 else CR.fail 420 else CR.fail 420 else CR.fail 420 else CR.fail 420 else CR.fail 420 else CR.fail 420 else bif m_nns c && (m_nns [Value.int IntKind.u64 f] && (m_nns [Value.int IntKind.u64 s] && true)) then KX 0 [] [] [some (AObj.cells c 54 0 0), some (AObj.cells [Value.int IntKind.u64 f] 51 1 0), some (AObj.cells [Value.int IntKind.u64 s] 51 2 0), some AObj.defd, some (AObj.loop LoopState.ready none 887 (En.mk [] (Tr.node (Tr.node Tr.nil none (Tr.node Tr.nil (some (Value.pointer (some (Addr.mk 1 0 none)))) Tr.nil)) none (Tr.node (Tr.node (Tr.node Tr.nil (some (Value.func (Fn.func 58) (Array.mk []) (Array.mk [Value.pointer (some (Addr.mk 2 0 none))]))) Tr.nil) none Tr.nil) (some (Value.pointer (some (Addr.mk 0 0 none)))) Tr.nil))) 17 (Array.mk [9]) (Code.region 3 #[Oper.mk (some 6) (Op.assign (Operand.tmp 9)) 3 "passengers.go:75" #[] none] false) (Code.block 1 (Code.region 4 #[Oper.mk (some 10) (Op.load 51 (Operand.tmp 5)) 51 "passengers.go:76" #[] none, Oper.mk (some 11) (Op.move (Operand.tmp 6)) 3 "passengers.go:76" #[] none, Oper.mk (some 12) (Op.fieldAddr 54 (Operand.tmp 2) 1) 0 "passengers.go:76" #[] none, Oper.mk (some 13) (Op.indexAddr 52 (Operand.tmp 12) (Operand.tmp 11)) 0 "passengers.go:76" #[Edge.mk 2 Ground.data, Edge.mk 1 Ground.data] none, Oper.mk (some 14) (Op.load 51 (Operand.tmp 13)) 51 "passengers.go:76" #[Edge.mk 3 Ground.data] none, Oper.mk (some 15) (Op.binOp BinOp.or 51 (Operand.tmp 10) (Operand.tmp 14) 51) 51 "passengers.go:76" #[Edge.mk 0 Ground.data, Edge.mk 4 Ground.data] none, Oper.mk none (Op.store 51 (Operand.tmp 5) (Operand.tmp 15)) 0 "passengers.go:76" #[Edge.mk 5 Ground.data, Edge.mk 0 Ground.phase, Edge.mk 1 Ground.phase, Edge.mk 2 Ground.phase, Edge.mk 3 Ground.phase, Edge.mk 4 Ground.phase, Edge.mk 5 Ground.phase] none] true)) 3)] else CR.fail 420 := by kernel_rfl

theorem foC (r : Mem) (n s f : Int) (l : List Value) (fs : FnsC) (K KR : OV → List Nat → OO → CR) (kx : Nat → KS) : run (SC r) 887 17 1 Fo_4 fs none (rbK 0 [4] [] K) kx (rbK 0 [4] [] KR) [] (bT lvFo [some (P0 0), some (P0 1), some fEs] .nil) [3] (D5 (I n :: l) s f) =
    KR [some (Value.int IntKind.u64 f)] [0] [some AObj.defd] := by kernel_rfl

end Go.Proofs

/- The least bit of a small word. -/
namespace Go.Num
open Go.Proofs

theorem tw_all : ∀ s : Fin 1024, s.val ≠ 0 → tzN 16 s.val < 10 ∧ (s.val &&& (s.val - 1)) < s.val ∧ btN s.val (tzN 16 s.val) = true := by decide +kernel
theorem cl_all : ∀ s : Fin 1024, s.val ≠ 0 → ∀ k : Fin 10, btN (s.val &&& (s.val - 1)) k.val = (btN s.val k.val && !(k.val == tzN 16 s.val)) := by decide +kernel

/-- The foes of the elements of s that are below k. -/
def foE (w : Nat → Nat) (s : Nat) : Nat → Nat
  | 0 => 0
  | k + 1 => foE w s k ||| (if btN s k = true then w k else 0)
theorem foE_zero (w : Nat → Nat) : ∀ k, foE w 0 k = 0
  | 0 => rfl
  | k + 1 => by
    rw [foE, foE_zero w k, if_neg]
    · rfl
    · unfold btN; rw [Nat.zero_div]; decide
theorem foE_step (w : Nat → Nat) {s : Nat} (h : s < 1024) (h0 : s ≠ 0) : ∀ k, k ≤ 10 → foE w s k = foE w (s &&& (s - 1)) k ||| (if tzN 16 s < k then w (tzN 16 s) else 0)
  | 0, _ => by rw [if_neg (by omega)]; simp [foE]
  | k + 1, hk => by
    have ih := foE_step w h h0 k (by omega)
    have hb := cl_all ⟨s, h⟩ h0 ⟨k, by omega⟩
    have ht := (tw_all ⟨s, h⟩ h0).2.2
    simp only at hb ht
    rw [foE, foE, ih, hb]
    by_cases e : k = tzN 16 s
    · have c1 : ¬ tzN 16 s < k := by omega
      have c2 : tzN 16 s < k + 1 := by omega
      rw [if_neg c1, if_pos c2, ← e, show btN s k = true by rw [e]; exact ht, if_pos rfl]
      simp
    · rw [show (!(k == tzN 16 s)) = true by simp [e], Bool.and_true]
      by_cases c : tzN 16 s < k
      · rw [if_pos c, if_pos (show tzN 16 s < k + 1 by omega)]
        ac_rfl
      · rw [if_neg c, if_neg (show ¬ tzN 16 s < k + 1 by omega)]
        simp
theorem foE_lt {w : Nat → Nat} (s : Nat) : ∀ k, (∀ i, i < k → w i < 65536) → foE w s k < 65536
  | 0, _ => by simp [foE]
  | k + 1, hw => by
    rw [foE]
    refine or16 (foE_lt s k fun i hi => hw i (by omega)) ?_
    split
    · exact hw k (by omega)
    · decide

end Go.Num
namespace Go.Proofs
open Go Go.Ev Go.Num
set_option linter.unusedVariables false
set_option linter.unusedSimpArgs false
set_option maxRecDepth 100000

def chkI (n : Int) : CR → Bool
  | .ret (.int .i64 m) ⟨0, .nil, .nil⟩ => decide (m = n)
  | _ => false
theorem chkI_use {n : Int} {x : CR} (h : chkI n x = true) : x = .ret (I n) emptyA := by
  unfold chkI at h
  split at h
  · rw [of_decide_eq_true h]; rfl
  · cases h
theorem tz_all : (List.range 1023).all (fun k => chkI (tzN 16 (k + 1) : Nat) ((lvlT (SC tabM) (fun _ => none) .nil 2 4).call 59 [U ((k + 1 : Nat) : Int)] emptyA fin)) = true := by kernel_rfl
theorem tz_ok (r : Mem) (hm : ∀ b j u, tabM b j = some u → r b j = some u) (s : Nat) (h0 : s ≠ 0) (h : s < 1024) : GrT Tryd.prog r 59 [U (s : Nat)] (I (tzN 16 s : Nat)) := by
  have h1 := List.all_eq_true.mp tz_all (s - 1) (List.mem_range.mpr (by omega))
  rw [show s - 1 + 1 = s by omega] at h1
  exact (GrT.of (SC_ok tabM) TOk.nil .nil rfl ⟨2, 4, chkI_use h1⟩ : GrT Tryd.prog tabM _ _ _).less hm
theorem tEs_ok (r : Mem) (hm : ∀ b j u, tabM b j = some u → r b j = some u) : TOk (SC r) tEs := TOk.cons TOk.nil (eU1_ok fun a ha => by
  have h := of_decide_eq_true ha
  have := tz_ok r hm a.toNat (by omega) (by omega)
  rw [show ((a.toNat : Nat) : Int) = a by omega] at this
  exact this)



end Go.Proofs

/- The foes of a group: what the call answers. -/
namespace Go.Proofs
open Go Go.Ev Go.Num
set_option linter.unusedVariables false
set_option linter.unusedSimpArgs false
set_option maxRecDepth 100000

/-- Ten words, behind the number of passengers. -/
def pgC (n : Int) (ws : List Nat) : List Value := I n :: ws.map fun (w : Nat) => U (w : Int)
theorem pgC_get {n : Int} {ws : List Nat} {k : Nat} (h : k < ws.length) : (pgC n ws)[Nat.add 1 (Nat.mul k 1)]? = some (U ((ws.getD k 0 : Nat) : Int)) := by
  rw [Nat.mul_eq, Nat.mul_one, Nat.add_eq, Nat.add_comm]
  show (ws.map fun (w : Nat) => U (w : Int))[k]? = _
  rw [List.getElem?_map, List.getElem?_eq_getElem h, List.getD_eq_getElem?_getD, List.getElem?_eq_getElem h]
  rfl
theorem pgC_nn (n : Int) (ws : List Nat) : m_nns (pgC n ws) = true := by
  show (nn (I n) && nns (ws.map fun (w : Nat) => U (w : Int))) = true
  rw [show nn (I n) = true from rfl, Bool.true_and]
  induction ws with
  | nil => rfl
  | cons x l ih => show (true && nns (l.map _)) = true; rw [ih]; rfl
theorem nn1 (x : Int) : m_nns [Value.int IntKind.u64 x] = true := rfl

/-- The loop's function: what it leaves in the box. -/
theorem es_ok (r : Mem) (hm : ∀ b j u, tabM b j = some u → r b j = some u) (n : Int) (ws : List Nat) (hl : ws.length = 10) (hw : ∀ w ∈ ws, w < 65536) (s : Nat) (hs : s < 1024) :
    SOk (SC r) 58 [fYe, P0 2] (A5 (pgC n ws) (s : Nat) (Int.ofNat 0)) fun v A => A = mkA (osF5 (pgC n ws) (s : Nat) (foE (fun i => ws.getD i 0) s 10 : Nat)) := by
  have hnx : (A5 (pgC n ws) (s : Nat) (Int.ofNat 0)).next = 5 := rfl
  have hcn := pgC_nn n ws
  have hlp := hl
  refine callE (SC_ok r) (by kernel_rfl) ((bodySC r _).trans Es_eq) (nt := 16) (by kernel_rfl) (rs := []) (by kernel_rfl) 11 rfl .base TOk.nil (tm := .nil) (L := 1) (d := 1) lvEs flEs
    (fun j vs ms os => ∃ t f : Nat, t < 1024 ∧ j = t ∧ f < 65536 ∧ f ||| foE (fun i => ws.getD i 0) t 10 = foE (fun i => ws.getD i 0) s 10 ∧ vs = [some fYe, some (U (t : Nat))] ∧ ms = [] ∧ os = osF5 (pgC n ws) (s : Nat) (f : Nat))
    ⟨[], flEs, fun vs ms os => vs = [] ∧ ms = [] ∧ os = osF5 (pgC n ws) (s : Nat) (foE (fun i => ws.getD i 0) s 10 : Nat)⟩ ?_ ?_ ?_
  · rw [hnx]
    have hn := esA r s (Int.ofNat 0) (pgC n ws)
    simp only [hcn, nn1, Bool.and_true, cond_true] at hn
    refine (hn _ _ _ _).trans (qq_ok ?_)
    exact ⟨s, s, 0, hs, rfl, by decide, by simp, rfl, rfl, rfl⟩
  · rintro j vs ms os ⟨t, f, ht, hj, hf, hfo, rfl, rfl, rfl⟩
    obtain rfl : t = j := hj.symm
    refine ⟨tEs, tEs_ok r hm, .nil, 1, 1, 2, ?_⟩
    rw [hnx]
    have hn := esB r s f t (pgC n ws)
    by_cases c : t = 0
    · subst c
      rw [foE_zero, Nat.or_zero] at hfo
      simp only [show (((0 : Nat) : Int) != Int.ofNat 0) = false from rfl, cond_false, hcn, nn1, Bool.and_true, cond_true] at hn
      exact (hn _ _ _).trans (qq_ok ⟨rfl, rfl, by rw [← hfo]; rfl⟩)
    · obtain ⟨h1, h2, h3⟩ := tw_all ⟨t, ht⟩ c
      simp only at h1 h2 h3
      have c1 : ((t : Int) != Int.ofNat 0) = true := by simp; omega
      have c2 : m_twG (t : Int) = true := decide_eq_true ⟨by omega, by omega⟩
      have e1 : Int.toNat (m_tw (t : Int)) = tzN 16 t := by unfold m_tw; simp
      have c3 : Nat.blt (tzN 16 t) 10 = true := Nat.ble_eq_true_of_le h1
      have e2 : (pgC n ws)[Nat.add 1 (Nat.mul (tzN 16 t) 1)]? = some (U ((ws.getD (tzN 16 t) 0 : Nat) : Int)) := pgC_get (by omega)
      have c4 : ∀ z : Int, m_eqv (.int .u64 z) (.int .u64 z) = true := fun z => by simp [m_eqv, veq]
      have e3 : ibits BinOp.or IntKind.u64 (f : Int) ((ws.getD (tzN 16 t) 0 : Nat) : Int) = ((f ||| ws.getD (tzN 16 t) 0 : Nat) : Int) := or_nat (.inl rfl) hf (getD_lt hw _)
      have e4 : ibits BinOp.and IntKind.u64 (t : Int) (IntKind.wrap IntKind.u64 ((t : Int) - Int.ofNat 1)) = ((t &&& (t - 1) : Nat) : Int) := by
        have : IntKind.wrap IntKind.u64 ((t : Int) - Int.ofNat 1) = Int.ofNat (t - 1) := by rw [wrU]; simp; omega
        rw [this]
        exact andU (by omega) (by omega)
      have hst := foE_step (fun i => ws.getD i 0) ht c 10 (Nat.le_refl _)
      rw [if_pos h1] at hst
      have ii : ∀ x, isI IntKind.u64 (U x) = true := fun _ => rfl
      have oo : ∀ x, ofI (U x) = x := fun _ => rfl
      simp only [c1, c2, e1, c3, e2, ii, oo, c4, e3, e4, hcn, nn1, Bool.and_true, cond_true] at hn
      refine (hn _ _ _).trans (qq_ok ?_)
      exact ⟨_, h2, t &&& (t - 1), f ||| ws.getD (tzN 16 t) 0, by omega, rfl, or16 hf (getD_lt hw _), by rw [← hfo, hst]; ac_rfl, rfl, rfl, rfl⟩
  · rintro vs ms os ⟨rfl, rfl, rfl⟩
    exact ⟨.tuple ⟨[]⟩, mkA (osF5 (pgC n ws) (s : Nat) (foE (fun i => ws.getD i 0) s 10 : Nat)), by kernel_rfl, rfl⟩

end Go.Proofs

/- The foes of a group, a group's being quiet: what the calls answer. -/
namespace Go.Proofs
open Go Go.Ev Go.Num
set_option linter.unusedVariables false
set_option linter.unusedSimpArgs false
set_option maxRecDepth 100000

theorem Fo_eq' : cFo = (.seq Fo_0 (.seq Fo_1 (.seq (.seq Fo_2 (.block 0 (.rangeFunc (.tmp 8) #[9] (rgA Fo_3) (rgB Fo_3)))) Fo_4))) := by kernel_rfl

theorem foD (c : List Value) (s f : Int) (K : OV → List Nat → OO → CR) : rbK 0 [5] [] K [] (bT lvFo [some (P0 0), some (P0 1), some fEs] .nil) [3] (D5 c s f) =
    K [some (Value.pointer (some (Addr.mk 0 0 none)))] [1] [some (AObj.cells [Value.int IntKind.u64 f] 51 0 0), some AObj.defd] := by kernel_rfl

theorem foF (r : Mem) (f : Int) (fs : FnsC) (K KR : OV → List Nat → OO → CR) (kx : Nat → KS) : run (SC r) 887 17 1 Fo_4 fs none (rbK 0 [4] [] K) kx (rbK 0 [4] [] KR) [] (bT [5] [some (P0 0)] .nil) [1] (mkA [some (.cells [U f] 51 0 0), some .defd]) =
    KR [some (Value.int IntKind.u64 f)] [0] [some AObj.defd] := by kernel_rfl

theorem foes_ok (r : Mem) (hm : ∀ b j u, tabM b j = some u → r b j = some u) (n : Int) (ws : List Nat) (hl : ws.length = 10) (hw : ∀ w ∈ ws, w < 65536) (s : Nat) (hs : s < 1024) :
    GrT Tryd.prog r 36 [.agg ⟨pgC n ws⟩, U (s : Nat)] (U (foE (fun i => ws.getD i 0) s 10 : Nat)) := by
  have hcn := pgC_nn n ws
  refine GrT.ofS (C := SC r) rfl rfl rfl (callRg (SC_ok r) (by kernel_rfl) ((bodySC r _).trans Fo_eq') (nt := 17) (by kernel_rfl) (rs := [.tmp 4]) (by kernel_rfl) 887 rfl (.step (.step .base)) TOk.nil (tm := .nil) (L := 1) (d := 3)
    ⟨lvFo, [.g, .g, .g], fun vs ms os => vs = [some (P0 0), some (P0 1), some fEs] ∧ ms = [] ∧ os = osFo (pgC n ws) (s : Nat) (Int.ofNat 0)⟩
    ⟨[5], [], fun vs ms os => vs = [some (P0 0)] ∧ ms = [1] ∧ os = [some (.cells [U (foE (fun i => ws.getD i 0) s 10 : Nat)] 51 0 0), some .defd]⟩
    ⟨[4], [], fun vs ms os => vs = [some (U (foE (fun i => ws.getD i 0) s 10 : Nat))] ∧ ms = [0] ∧ os = [some .defd]⟩ ?_ ?_ ?_ ?_)
  · have hn := foA r n s (ws.map fun (w : Nat) => U (w : Int))
    rw [show I n :: (ws.map fun (w : Nat) => U (w : Int)) = pgC n ws from rfl] at hn
    simp only [hcn, nn1, Bool.and_true, cond_true] at hn
    exact (hn _ _ _).trans (qq_ok ⟨rfl, rfl, rfl⟩)
  · rintro vs ms os ⟨rfl, rfl, rfl⟩
    refine ⟨58, [], [P0 2], _, rfl, by kernel_rfl, es_ok r hm n ws hl hw s hs, ?_⟩
    rintro v A' rfl
    refine ⟨⟨enFo, [3], D5 (pgC n ws) (s : Nat) (foE (fun i => ws.getD i 0) s 10 : Nat)⟩, by kernel_rfl, ?_⟩
    have hn := foD (pgC n ws) (s : Nat) (foE (fun i => ws.getD i 0) s 10 : Nat)
    refine Eq.trans (hn fun vs ms os => qq (vs = [some (P0 0)] ∧ ms = [1] ∧ os = [some (.cells [U (foE (fun i => ws.getD i 0) s 10 : Nat)] 51 0 0), some .defd])) ?_
    exact qq_ok ⟨rfl, rfl, rfl⟩
  · rintro vs ms os ⟨rfl, rfl, rfl⟩
    exact ⟨_, TOk.nil, .nil, 1, 1, 1, (foF r _ _ _ _ _).trans (qq_ok ⟨rfl, rfl, rfl⟩)⟩
  · rintro vs ms os ⟨rfl, rfl, rfl⟩
    exact ⟨_, _, rfl, rfl⟩

end Go.Proofs

/- Structures and quiet groups, run. -/
namespace Go.Proofs
open Go Go.Ev Go.Num
set_option linter.unusedVariables false
set_option linter.unusedSimpArgs false
set_option maxRecDepth 100000

/-- What a call answers that is given these passengers and a word. -/
def m_w10 (s : Int) : Bool := decide (0 ≤ s ∧ s < 1024)
noncomputable def ePW (c : List Value) (v : Int → Value) : Ent := ent (fun args _ => match args with | [.agg ⟨l⟩, .int .u64 s] => m_same l c && m_w10 s | _ => false) (fun args _ => match args with | [_, .int .u64 s] => v s | _ => undef)
def m_fo (ws : List Nat) (s : Int) : Int := (foE (fun i => ws.getD i 0) s.toNat 10 : Nat)
noncomputable def tIq (c : List Value) (ws : List Nat) : Tbl := tcons 36 (ePW c fun s => U (m_fo ws s)) fun _ => none

theorem iqA (r : Mem) (n s w0 w1 w2 w3 w4 w5 w6 w7 w8 w9 : Int) (ws : List Nat) : (lvlT (SC r) (tIq [I n, U w0, U w1, U w2, U w3, U w4, U w5, U w6, U w7, U w8, U w9] ws) .nil 1 2).call 26 [.agg ⟨[I n, U w0, U w1, U w2, U w3, U w4, U w5, U w6, U w7, U w8, U w9]⟩, U s] emptyA fin =
    bif m_same [Value.int IntKind.i64 n, Value.int IntKind.u64 w0, Value.int IntKind.u64 w1, Value.int IntKind.u64 w2, Value.int IntKind.u64 w3, Value.int IntKind.u64 w4, Value.int IntKind.u64 w5, Value.int IntKind.u64 w6, Value.int IntKind.u64 w7, Value.int IntKind.u64 w8, Value.int IntKind.u64 w9] [Value.int IntKind.i64 n, Value.int IntKind.u64 w0, Value.int IntKind.u64 w1, Value.int IntKind.u64 w2, Value.int IntKind.u64 w3, Value.int IntKind.u64 w4, Value.int IntKind.u64 w5, Value.int IntKind.u64 w6, Value.int IntKind.u64 w7, Value.int IntKind.u64 w8, Value.int IntKind.u64 w9] && m_w10 s then bif ibits BinOp.and IntKind.u64 s (m_fo ws s) == Int.ofNat 0 then CR.ret (Value.bool true) (AW.mk 0 Tr.nil Tr.nil) else CR.ret (Value.bool false) (AW.mk 0 Tr.nil Tr.nil) else CR.fail 420 := by kernel_rfl

theorem fszA (r : Mem) (s : Int) : (lvlT (SC r) (tcons 61 ePop fun _ => none) .nil 1 4).call 38 [U s] emptyA fin =
    bif m_popG s then CR.ret (Value.int IntKind.i64 (m_pop s)) (AW.mk 0 Tr.nil Tr.nil) else CR.fail 420 := by kernel_rfl

theorem alA (r : Mem) (n w0 w1 w2 w3 w4 w5 w6 w7 w8 w9 : Int) : (lvlT (SC r) (fun _ => none) .nil 1 4).call 25 [.agg ⟨[I n, U w0, U w1, U w2, U w3, U w4, U w5, U w6, U w7, U w8, U w9]⟩] emptyA fin =
    bif !decide (n < 0) then CR.ret (Value.int IntKind.u64 (IntKind.wrap IntKind.u64 (IntKind.wrap IntKind.u64 (Int.ofNat 1 * Int.ofNat 2 ^ min (Int.toNat n) 64) - Int.ofNat 1))) (AW.mk 0 Tr.nil Tr.nil) else CR.fail 420 := by kernel_rfl

def m_all (n : Int) : Int := 2 ^ n.toNat - 1
noncomputable def tIs (n : Int) (l : List Value) (q : Int → Bool) : Tbl := tcons 26 (ePW (I n :: l) fun s => .bool (q s)) (tcons 38 (eU1 m_popG fun s => I (m_pop s)) (tcons 25 (entV [.agg ⟨I n :: l⟩] (U (m_all n))) fun _ => none))

theorem isA (r : Mem) (n seats w0 w1 w2 w3 w4 w5 w6 w7 w8 w9 : Int) (q : Int → Bool) (x0 x1 x2 x3 x4 : Int) : (lvlT (SC r) (tIs n [U w0, U w1, U w2, U w3, U w4, U w5, U w6, U w7, U w8, U w9] q) .nil 1 3).call 33 [.agg ⟨[I n, U w0, U w1, U w2, U w3, U w4, U w5, U w6, U w7, U w8, U w9]⟩, I seats, .agg ⟨[I x0, I x1, I x2, I x3, I x4]⟩] emptyA fin =
    bif m_same [Value.agg (Array.mk [Value.int IntKind.i64 n, Value.int IntKind.u64 w0, Value.int IntKind.u64 w1, Value.int IntKind.u64 w2, Value.int IntKind.u64 w3, Value.int IntKind.u64 w4, Value.int IntKind.u64 w5, Value.int IntKind.u64 w6, Value.int IntKind.u64 w7, Value.int IntKind.u64 w8, Value.int IntKind.u64 w9])] [Value.agg (Array.mk [Value.int IntKind.i64 n, Value.int IntKind.u64 w0, Value.int IntKind.u64 w1, Value.int IntKind.u64 w2, Value.int IntKind.u64 w3, Value.int IntKind.u64 w4, Value.int IntKind.u64 w5, Value.int IntKind.u64 w6, Value.int IntKind.u64 w7, Value.int IntKind.u64 w8, Value.int IntKind.u64 w9])] then bif m_same [Value.agg (Array.mk [Value.int IntKind.i64 n, Value.int IntKind.u64 w0, Value.int IntKind.u64 w1, Value.int IntKind.u64 w2, Value.int IntKind.u64 w3, Value.int IntKind.u64 w4, Value.int IntKind.u64 w5, Value.int IntKind.u64 w6, Value.int IntKind.u64 w7, Value.int IntKind.u64 w8, Value.int IntKind.u64 w9])] [Value.agg (Array.mk [Value.int IntKind.i64 n, Value.int IntKind.u64 w0, Value.int IntKind.u64 w1, Value.int IntKind.u64 w2, Value.int IntKind.u64 w3, Value.int IntKind.u64 w4, Value.int IntKind.u64 w5, Value.int IntKind.u64 w6, Value.int IntKind.u64 w7, Value.int IntKind.u64 w8, Value.int IntKind.u64 w9])] then bif ibits BinOp.andNot IntKind.u64 (ibits BinOp.or IntKind.u64 (ibits BinOp.or IntKind.u64 (IntKind.wrap IntKind.u64 x0) (IntKind.wrap IntKind.u64 x1)) (IntKind.wrap IntKind.u64 x2)) (m_all n) == Int.ofNat 0 then bif ibits BinOp.andNot IntKind.u64 (IntKind.wrap IntKind.u64 x3) (ibits BinOp.andNot IntKind.u64 (m_all n) (ibits BinOp.or IntKind.u64 (ibits BinOp.or IntKind.u64 (IntKind.wrap IntKind.u64 x0) (IntKind.wrap IntKind.u64 x1)) (IntKind.wrap IntKind.u64 x2))) == Int.ofNat 0 then bif ibits BinOp.andNot IntKind.u64 (IntKind.wrap IntKind.u64 x4) (ibits BinOp.andNot IntKind.u64 (m_all n) (ibits BinOp.or IntKind.u64 (ibits BinOp.or IntKind.u64 (IntKind.wrap IntKind.u64 x0) (IntKind.wrap IntKind.u64 x1)) (IntKind.wrap IntKind.u64 x2))) == Int.ofNat 0 then bif IntKind.wrap IntKind.u64 x3 == Int.ofNat 0 then CR.ret (Value.bool false) (AW.mk 0 Tr.nil Tr.nil) else bif IntKind.wrap IntKind.u64 x4 == Int.ofNat 0 then CR.ret (Value.bool false) (AW.mk 0 Tr.nil Tr.nil) else bif ibits BinOp.and IntKind.u64 (IntKind.wrap IntKind.u64 x0) (IntKind.wrap IntKind.u64 x1) == Int.ofNat 0 then bif ibits BinOp.and IntKind.u64 (IntKind.wrap IntKind.u64 x0) (IntKind.wrap IntKind.u64 x2) == Int.ofNat 0 then bif ibits BinOp.and IntKind.u64 (IntKind.wrap IntKind.u64 x1) (IntKind.wrap IntKind.u64 x2) == Int.ofNat 0 then bif m_same [Value.int IntKind.i64 n, Value.int IntKind.u64 w0, Value.int IntKind.u64 w1, Value.int IntKind.u64 w2, Value.int IntKind.u64 w3, Value.int IntKind.u64 w4, Value.int IntKind.u64 w5, Value.int IntKind.u64 w6, Value.int IntKind.u64 w7, Value.int IntKind.u64 w8, Value.int IntKind.u64 w9] [Value.int IntKind.i64 n, Value.int IntKind.u64 w0, Value.int IntKind.u64 w1, Value.int IntKind.u64 w2, Value.int IntKind.u64 w3, Value.int IntKind.u64 w4, Value.int IntKind.u64 w5, Value.int IntKind.u64 w6, Value.int IntKind.u64 w7, Value.int IntKind.u64 w8, Value.int IntKind.u64 w9] && m_w10 (ibits BinOp.or IntKind.u64 (ibits BinOp.or IntKind.u64 (IntKind.wrap IntKind.u64 x0) (IntKind.wrap IntKind.u64 x1)) (IntKind.wrap IntKind.u64 x2)) then bif q (ibits BinOp.or IntKind.u64 (ibits BinOp.or IntKind.u64 (IntKind.wrap IntKind.u64 x0) (IntKind.wrap IntKind.u64 x1)) (IntKind.wrap IntKind.u64 x2)) then bif m_same [Value.int IntKind.i64 n, Value.int IntKind.u64 w0, Value.int IntKind.u64 w1, Value.int IntKind.u64 w2, Value.int IntKind.u64 w3, Value.int IntKind.u64 w4, Value.int IntKind.u64 w5, Value.int IntKind.u64 w6, Value.int IntKind.u64 w7, Value.int IntKind.u64 w8, Value.int IntKind.u64 w9] [Value.int IntKind.i64 n, Value.int IntKind.u64 w0, Value.int IntKind.u64 w1, Value.int IntKind.u64 w2, Value.int IntKind.u64 w3, Value.int IntKind.u64 w4, Value.int IntKind.u64 w5, Value.int IntKind.u64 w6, Value.int IntKind.u64 w7, Value.int IntKind.u64 w8, Value.int IntKind.u64 w9] && m_w10 (ibits BinOp.or IntKind.u64 (IntKind.wrap IntKind.u64 x0) (IntKind.wrap IntKind.u64 x3)) then bif q (ibits BinOp.or IntKind.u64 (IntKind.wrap IntKind.u64 x0) (IntKind.wrap IntKind.u64 x3)) then bif m_same [Value.int IntKind.i64 n, Value.int IntKind.u64 w0, Value.int IntKind.u64 w1, Value.int IntKind.u64 w2, Value.int IntKind.u64 w3, Value.int IntKind.u64 w4, Value.int IntKind.u64 w5, Value.int IntKind.u64 w6, Value.int IntKind.u64 w7, Value.int IntKind.u64 w8, Value.int IntKind.u64 w9] [Value.int IntKind.i64 n, Value.int IntKind.u64 w0, Value.int IntKind.u64 w1, Value.int IntKind.u64 w2, Value.int IntKind.u64 w3, Value.int IntKind.u64 w4, Value.int IntKind.u64 w5, Value.int IntKind.u64 w6, Value.int IntKind.u64 w7, Value.int IntKind.u64 w8, Value.int IntKind.u64 w9] && m_w10 (ibits BinOp.or IntKind.u64 (IntKind.wrap IntKind.u64 x1) (IntKind.wrap IntKind.u64 x4)) then bif q (ibits BinOp.or IntKind.u64 (IntKind.wrap IntKind.u64 x1) (IntKind.wrap IntKind.u64 x4)) then bif m_popG (ibits BinOp.andNot IntKind.u64 (m_all n) (ibits BinOp.or IntKind.u64 (ibits BinOp.or IntKind.u64 (IntKind.wrap IntKind.u64 x0) (IntKind.wrap IntKind.u64 x1)) (IntKind.wrap IntKind.u64 x2))) then bif decide (m_pop (ibits BinOp.andNot IntKind.u64 (m_all n) (ibits BinOp.or IntKind.u64 (ibits BinOp.or IntKind.u64 (IntKind.wrap IntKind.u64 x0) (IntKind.wrap IntKind.u64 x1)) (IntKind.wrap IntKind.u64 x2))) ≤ seats) then bif m_popG (IntKind.wrap IntKind.u64 x3) then bif m_popG (IntKind.wrap IntKind.u64 x4) then bif m_popG (IntKind.wrap IntKind.u64 x2) then bif decide (IntKind.wrap IntKind.i64 (m_pop (IntKind.wrap IntKind.u64 x3) + m_pop (IntKind.wrap IntKind.u64 x4)) ≥ m_pop (IntKind.wrap IntKind.u64 x2)) then CR.ret (Value.bool true) (AW.mk 0 Tr.nil Tr.nil) else CR.ret (Value.bool false) (AW.mk 0 Tr.nil Tr.nil) else CR.fail 420 else CR.fail 420 else CR.fail 420 else CR.ret (Value.bool false) (AW.mk 0 Tr.nil Tr.nil) else CR.fail 420 else CR.ret (Value.bool false) (AW.mk 0 Tr.nil Tr.nil) else CR.fail 420 else CR.ret (Value.bool false) (AW.mk 0 Tr.nil Tr.nil) else CR.fail 420 else CR.ret (Value.bool false) (AW.mk 0 Tr.nil Tr.nil) else CR.fail 420 else bif m_same [Value.int IntKind.i64 n, Value.int IntKind.u64 w0, Value.int IntKind.u64 w1, Value.int IntKind.u64 w2, Value.int IntKind.u64 w3, Value.int IntKind.u64 w4, Value.int IntKind.u64 w5, Value.int IntKind.u64 w6, Value.int IntKind.u64 w7, Value.int IntKind.u64 w8, Value.int IntKind.u64 w9] [Value.int IntKind.i64 n, Value.int IntKind.u64 w0, Value.int IntKind.u64 w1, Value.int IntKind.u64 w2, Value.int IntKind.u64 w3, Value.int IntKind.u64 w4, Value.int IntKind.u64 w5, Value.int IntKind.u64 w6, Value.int IntKind.u64 w7, Value.int IntKind.u64 w8, Value.int IntKind.u64 w9] && m_w10 (ibits BinOp.or IntKind.u64 (ibits BinOp.or IntKind.u64 (IntKind.wrap IntKind.u64 x0) (IntKind.wrap IntKind.u64 x1)) (IntKind.wrap IntKind.u64 x2)) then bif q (ibits BinOp.or IntKind.u64 (ibits BinOp.or IntKind.u64 (IntKind.wrap IntKind.u64 x0) (IntKind.wrap IntKind.u64 x1)) (IntKind.wrap IntKind.u64 x2)) then bif m_same [Value.int IntKind.i64 n, Value.int IntKind.u64 w0, Value.int IntKind.u64 w1, Value.int IntKind.u64 w2, Value.int IntKind.u64 w3, Value.int IntKind.u64 w4, Value.int IntKind.u64 w5, Value.int IntKind.u64 w6, Value.int IntKind.u64 w7, Value.int IntKind.u64 w8, Value.int IntKind.u64 w9] [Value.int IntKind.i64 n, Value.int IntKind.u64 w0, Value.int IntKind.u64 w1, Value.int IntKind.u64 w2, Value.int IntKind.u64 w3, Value.int IntKind.u64 w4, Value.int IntKind.u64 w5, Value.int IntKind.u64 w6, Value.int IntKind.u64 w7, Value.int IntKind.u64 w8, Value.int IntKind.u64 w9] && m_w10 (ibits BinOp.or IntKind.u64 (IntKind.wrap IntKind.u64 x0) (IntKind.wrap IntKind.u64 x3)) then bif q (ibits BinOp.or IntKind.u64 (IntKind.wrap IntKind.u64 x0) (IntKind.wrap IntKind.u64 x3)) then bif m_same [Value.int IntKind.i64 n, Value.int IntKind.u64 w0, Value.int IntKind.u64 w1, Value.int IntKind.u64 w2, Value.int IntKind.u64 w3, Value.int IntKind.u64 w4, Value.int IntKind.u64 w5, Value.int IntKind.u64 w6, Value.int IntKind.u64 w7, Value.int IntKind.u64 w8, Value.int IntKind.u64 w9] [Value.int IntKind.i64 n, Value.int IntKind.u64 w0, Value.int IntKind.u64 w1, Value.int IntKind.u64 w2, Value.int IntKind.u64 w3, Value.int IntKind.u64 w4, Value.int IntKind.u64 w5, Value.int IntKind.u64 w6, Value.int IntKind.u64 w7, Value.int IntKind.u64 w8, Value.int IntKind.u64 w9] && m_w10 (ibits BinOp.or IntKind.u64 (IntKind.wrap IntKind.u64 x1) (IntKind.wrap IntKind.u64 x4)) then bif q (ibits BinOp.or IntKind.u64 (IntKind.wrap IntKind.u64 x1) (IntKind.wrap IntKind.u64 x4)) then CR.ret (Value.bool false) (AW.mk 0 Tr.nil Tr.nil) else CR.ret (Value.bool false) (AW.mk 0 Tr.nil Tr.nil) else CR.fail 420 else CR.ret (Value.bool false) (AW.mk 0 Tr.nil Tr.nil) else CR.fail 420 else CR.ret (Value.bool false) (AW.mk 0 Tr.nil Tr.nil) else CR.fail 420 else bif m_same [Value.int IntKind.i64 n, Value.int IntKind.u64 w0, Value.int IntKind.u64 w1, Value.int IntKind.u64 w2, Value.int IntKind.u64 w3, Value.int IntKind.u64 w4, Value.int IntKind.u64 w5, Value.int IntKind.u64 w6, Value.int IntKind.u64 w7, Value.int IntKind.u64 w8, Value.int IntKind.u64 w9] [Value.int IntKind.i64 n, Value.int IntKind.u64 w0, Value.int IntKind.u64 w1, Value.int IntKind.u64 w2, Value.int IntKind.u64 w3, Value.int IntKind.u64 w4, Value.int IntKind.u64 w5, Value.int IntKind.u64 w6, Value.int IntKind.u64 w7, Value.int IntKind.u64 w8, Value.int IntKind.u64 w9] && m_w10 (ibits BinOp.or IntKind.u64 (ibits BinOp.or IntKind.u64 (IntKind.wrap IntKind.u64 x0) (IntKind.wrap IntKind.u64 x1)) (IntKind.wrap IntKind.u64 x2)) then bif q (ibits BinOp.or IntKind.u64 (ibits BinOp.or IntKind.u64 (IntKind.wrap IntKind.u64 x0) (IntKind.wrap IntKind.u64 x1)) (IntKind.wrap IntKind.u64 x2)) then bif m_same [Value.int IntKind.i64 n, Value.int IntKind.u64 w0, Value.int IntKind.u64 w1, Value.int IntKind.u64 w2, Value.int IntKind.u64 w3, Value.int IntKind.u64 w4, Value.int IntKind.u64 w5, Value.int IntKind.u64 w6, Value.int IntKind.u64 w7, Value.int IntKind.u64 w8, Value.int IntKind.u64 w9] [Value.int IntKind.i64 n, Value.int IntKind.u64 w0, Value.int IntKind.u64 w1, Value.int IntKind.u64 w2, Value.int IntKind.u64 w3, Value.int IntKind.u64 w4, Value.int IntKind.u64 w5, Value.int IntKind.u64 w6, Value.int IntKind.u64 w7, Value.int IntKind.u64 w8, Value.int IntKind.u64 w9] && m_w10 (ibits BinOp.or IntKind.u64 (IntKind.wrap IntKind.u64 x0) (IntKind.wrap IntKind.u64 x3)) then bif q (ibits BinOp.or IntKind.u64 (IntKind.wrap IntKind.u64 x0) (IntKind.wrap IntKind.u64 x3)) then bif m_same [Value.int IntKind.i64 n, Value.int IntKind.u64 w0, Value.int IntKind.u64 w1, Value.int IntKind.u64 w2, Value.int IntKind.u64 w3, Value.int IntKind.u64 w4, Value.int IntKind.u64 w5, Value.int IntKind.u64 w6, Value.int IntKind.u64 w7, Value.int IntKind.u64 w8, Value.int IntKind.u64 w9] [Value.int IntKind.i64 n, Value.int IntKind.u64 w0, Value.int IntKind.u64 w1, Value.int IntKind.u64 w2, Value.int IntKind.u64 w3, Value.int IntKind.u64 w4, Value.int IntKind.u64 w5, Value.int IntKind.u64 w6, Value.int IntKind.u64 w7, Value.int IntKind.u64 w8, Value.int IntKind.u64 w9] && m_w10 (ibits BinOp.or IntKind.u64 (IntKind.wrap IntKind.u64 x1) (IntKind.wrap IntKind.u64 x4)) then bif q (ibits BinOp.or IntKind.u64 (IntKind.wrap IntKind.u64 x1) (IntKind.wrap IntKind.u64 x4)) then CR.ret (Value.bool false) (AW.mk 0 Tr.nil Tr.nil) else CR.ret (Value.bool false) (AW.mk 0 Tr.nil Tr.nil) else CR.fail 420 else CR.ret (Value.bool false) (AW.mk 0 Tr.nil Tr.nil) else CR.fail 420 else CR.ret (Value.bool false) (AW.mk 0 Tr.nil Tr.nil) else CR.fail 420 else bif m_same [Value.int IntKind.i64 n, Value.int IntKind.u64 w0, Value.int IntKind.u64 w1, Value.int IntKind.u64 w2, Value.int IntKind.u64 w3, Value.int IntKind.u64 w4, Value.int IntKind.u64 w5, Value.int IntKind.u64 w6, Value.int IntKind.u64 w7, Value.int IntKind.u64 w8, Value.int IntKind.u64 w9] [Value.int IntKind.i64 n, Value.int IntKind.u64 w0, Value.int IntKind.u64 w1, Value.int IntKind.u64 w2, Value.int IntKind.u64 w3, Value.int IntKind.u64 w4, Value.int IntKind.u64 w5, Value.int IntKind.u64 w6, Value.int IntKind.u64 w7, Value.int IntKind.u64 w8, Value.int IntKind.u64 w9] && m_w10 (ibits BinOp.or IntKind.u64 (ibits BinOp.or IntKind.u64 (IntKind.wrap IntKind.u64 x0) (IntKind.wrap IntKind.u64 x1)) (IntKind.wrap IntKind.u64 x2)) then bif q (ibits BinOp.or IntKind.u64 (ibits BinOp.or IntKind.u64 (IntKind.wrap IntKind.u64 x0) (IntKind.wrap IntKind.u64 x1)) (IntKind.wrap IntKind.u64 x2)) then bif m_same [Value.int IntKind.i64 n, Value.int IntKind.u64 w0, Value.int IntKind.u64 w1, Value.int IntKind.u64 w2, Value.int IntKind.u64 w3, Value.int IntKind.u64 w4, Value.int IntKind.u64 w5, Value.int IntKind.u64 w6, Value.int IntKind.u64 w7, Value.int IntKind.u64 w8, Value.int IntKind.u64 w9] [Value.int IntKind.i64 n, Value.int IntKind.u64 w0, Value.int IntKind.u64 w1, Value.int IntKind.u64 w2, Value.int IntKind.u64 w3, Value.int IntKind.u64 w4, Value.int IntKind.u64 w5, Value.int IntKind.u64 w6, Value.int IntKind.u64 w7, Value.int IntKind.u64 w8, Value.int IntKind.u64 w9] && m_w10 (ibits BinOp.or IntKind.u64 (IntKind.wrap IntKind.u64 x0) (IntKind.wrap IntKind.u64 x3)) then bif q (ibits BinOp.or IntKind.u64 (IntKind.wrap IntKind.u64 x0) (IntKind.wrap IntKind.u64 x3)) then bif m_same [Value.int IntKind.i64 n, Value.int IntKind.u64 w0, Value.int IntKind.u64 w1, Value.int IntKind.u64 w2, Value.int IntKind.u64 w3, Value.int IntKind.u64 w4, Value.int IntKind.u64 w5, Value.int IntKind.u64 w6, Value.int IntKind.u64 w7, Value.int IntKind.u64 w8, Value.int IntKind.u64 w9] [Value.int IntKind.i64 n, Value.int IntKind.u64 w0, Value.int IntKind.u64 w1, Value.int IntKind.u64 w2, Value.int IntKind.u64 w3, Value.int IntKind.u64 w4, Value.int IntKind.u64 w5, Value.int IntKind.u64 w6, Value.int IntKind.u64 w7, Value.int IntKind.u64 w8, Value.int IntKind.u64 w9] && m_w10 (ibits BinOp.or IntKind.u64 (IntKind.wrap IntKind.u64 x1) (IntKind.wrap IntKind.u64 x4)) then bif q (ibits BinOp.or IntKind.u64 (IntKind.wrap IntKind.u64 x1) (IntKind.wrap IntKind.u64 x4)) then CR.ret (Value.bool false) (AW.mk 0 Tr.nil Tr.nil) else CR.ret (Value.bool false) (AW.mk 0 Tr.nil Tr.nil) else CR.fail 420 else CR.ret (Value.bool false) (AW.mk 0 Tr.nil Tr.nil) else CR.fail 420 else CR.ret (Value.bool false) (AW.mk 0 Tr.nil Tr.nil) else CR.fail 420 else CR.ret (Value.bool false) (AW.mk 0 Tr.nil Tr.nil) else CR.ret (Value.bool false) (AW.mk 0 Tr.nil Tr.nil) else CR.ret (Value.bool false) (AW.mk 0 Tr.nil Tr.nil) else CR.fail 420 else CR.fail 420 := by kernel_rfl

end Go.Proofs

/- The reference's structures, run. -/
namespace Go.Proofs
open Go Go.Ev Go.Num
set_option linter.unusedVariables false
set_option linter.unusedSimpArgs false
set_option maxRecDepth 100000

noncomputable def eRQ (g : Value) (q : Int → Bool) : Ent := ent (fun args _ => match args with | [v, .int .i64 s] => m_same [v] [g] && m_w10 s | _ => false) (fun args _ => match args with | [_, .int .i64 s] => .bool (q s) | _ => undef)
noncomputable def tRs (g : Value) (m : Int) (q : Int → Bool) : Tbl := tcons 11 (eRQ g q) (tcons 28 (eI1 m_popG fun s => I (m_pop s)) (tcons 10 (entV [g] (I (m_all m))) fun _ => none))

noncomputable def cQu : Code := bodyOf S0 11
noncomputable def Qu_0 : Code := (lc cQu)
noncomputable def Qu_1 : Code := (lc (lc (rc cQu)))
noncomputable def Qu_2 : Code := (ic (ic (rc (lc (rc cQu)))))
noncomputable def Qu_3 : Code := (rc (rc cQu))
theorem Qu_eq : cQu = (.seq Qu_0 (.seq (.seq Qu_1 (.block 0 (.loop Qu_2))) Qu_3)) := by kernel_rfl
def lvQu : List Nat := [0, 1, 5]

theorem rsA (r : Mem) (b off len cap : Nat) (m seats : Int) (q : Int → Bool) (x0 x1 x2 x3 x4 : Int) : (lvlT (SC r) (tRs (RS b off len cap) m q) .nil 7 2).call 21 [RS b off len cap, I seats, .agg ⟨[I x0, I x1, I x2, I x3, I x4]⟩] emptyA fin =
    bif m_same [Value.slice (some (Addr.mk b off (some 0))) len cap] [Value.slice (some (Addr.mk b off (some 0))) len cap] then bif decide (x0 < 0) then CR.ret (Value.bool false) (AW.mk 0 Tr.nil Tr.nil) else bif decide (x0 > m_all m) then CR.ret (Value.bool false) (AW.mk 0 Tr.nil Tr.nil) else bif decide (x1 < 0) then CR.ret (Value.bool false) (AW.mk 0 Tr.nil Tr.nil) else bif decide (x1 > m_all m) then CR.ret (Value.bool false) (AW.mk 0 Tr.nil Tr.nil) else bif decide (x2 < 0) then CR.ret (Value.bool false) (AW.mk 0 Tr.nil Tr.nil) else bif decide (x2 > m_all m) then CR.ret (Value.bool false) (AW.mk 0 Tr.nil Tr.nil) else bif decide (x3 < 0) then CR.ret (Value.bool false) (AW.mk 0 Tr.nil Tr.nil) else bif decide (x3 > m_all m) then CR.ret (Value.bool false) (AW.mk 0 Tr.nil Tr.nil) else bif decide (x4 < 0) then CR.ret (Value.bool false) (AW.mk 0 Tr.nil Tr.nil) else bif decide (x4 > m_all m) then CR.ret (Value.bool false) (AW.mk 0 Tr.nil Tr.nil) else bif ibits BinOp.and IntKind.i64 x0 x1 != Int.ofNat 0 then CR.ret (Value.bool false) (AW.mk 0 Tr.nil Tr.nil) else bif ibits BinOp.and IntKind.i64 x0 x2 != Int.ofNat 0 then CR.ret (Value.bool false) (AW.mk 0 Tr.nil Tr.nil) else bif ibits BinOp.and IntKind.i64 x1 x2 != Int.ofNat 0 then CR.ret (Value.bool false) (AW.mk 0 Tr.nil Tr.nil) else bif m_same [Value.slice (some (Addr.mk b off (some 0))) len cap] [Value.slice (some (Addr.mk b off (some 0))) len cap] && m_w10 (ibits BinOp.or IntKind.i64 (ibits BinOp.or IntKind.i64 x0 x1) x2) then bif q (ibits BinOp.or IntKind.i64 (ibits BinOp.or IntKind.i64 x0 x1) x2) then bif m_popG (ibits BinOp.andNot IntKind.i64 (m_all m) (ibits BinOp.or IntKind.i64 (ibits BinOp.or IntKind.i64 x0 x1) x2)) then bif decide (m_pop (ibits BinOp.andNot IntKind.i64 (m_all m) (ibits BinOp.or IntKind.i64 (ibits BinOp.or IntKind.i64 x0 x1) x2)) > seats) then CR.ret (Value.bool false) (AW.mk 0 Tr.nil Tr.nil) else bif x3 == Int.ofNat 0 then CR.ret (Value.bool false) (AW.mk 0 Tr.nil Tr.nil) else bif x4 == Int.ofNat 0 then CR.ret (Value.bool false) (AW.mk 0 Tr.nil Tr.nil) else bif ibits BinOp.andNot IntKind.i64 (ibits BinOp.or IntKind.i64 x3 x4) (ibits BinOp.andNot IntKind.i64 (m_all m) (ibits BinOp.or IntKind.i64 (ibits BinOp.or IntKind.i64 x0 x1) x2)) != Int.ofNat 0 then CR.ret (Value.bool false) (AW.mk 0 Tr.nil Tr.nil) else bif m_same [Value.slice (some (Addr.mk b off (some 0))) len cap] [Value.slice (some (Addr.mk b off (some 0))) len cap] && m_w10 (ibits BinOp.or IntKind.i64 x0 x3) then bif q (ibits BinOp.or IntKind.i64 x0 x3) then bif m_same [Value.slice (some (Addr.mk b off (some 0))) len cap] [Value.slice (some (Addr.mk b off (some 0))) len cap] && m_w10 (ibits BinOp.or IntKind.i64 x1 x4) then bif q (ibits BinOp.or IntKind.i64 x1 x4) then bif m_popG x3 then bif m_popG x4 then bif m_popG x2 then bif decide (IntKind.wrap IntKind.i64 (m_pop x3 + m_pop x4) ≥ m_pop x2) then bif m_eqv (Value.int IntKind.i64 x2) (Value.int IntKind.i64 x2) then bif m_eqv (Value.int IntKind.i64 x2) (Value.int IntKind.i64 x2) then bif m_eqv (Value.int IntKind.i64 x2) (Value.int IntKind.i64 x2) then bif m_eqv (Value.int IntKind.i64 x4) (Value.int IntKind.i64 x4) then bif m_eqv (Value.int IntKind.i64 x4) (Value.int IntKind.i64 x4) then bif m_eqv (Value.int IntKind.i64 x3) (Value.int IntKind.i64 x3) then bif m_eqv (Value.int IntKind.i64 x4) (Value.int IntKind.i64 x4) then bif m_eqv (Value.int IntKind.i64 x1) (Value.int IntKind.i64 x1) then bif m_eqv (Value.int IntKind.i64 x3) (Value.int IntKind.i64 x3) then bif m_eqv (Value.int IntKind.i64 x0) (Value.int IntKind.i64 x0) then CR.ret (Value.bool true) (AW.mk 0 Tr.nil Tr.nil) else CR.fail 420 else CR.fail 420 else CR.fail 420 else CR.fail 420 else CR.fail 420 else CR.fail 420 else CR.fail 420 else CR.fail 420 else CR.fail 420 else CR.fail 420 else bif m_eqv (Value.int IntKind.i64 x2) (Value.int IntKind.i64 x2) then bif m_eqv (Value.int IntKind.i64 x2) (Value.int IntKind.i64 x2) then bif m_eqv (Value.int IntKind.i64 x2) (Value.int IntKind.i64 x2) then bif m_eqv (Value.int IntKind.i64 x4) (Value.int IntKind.i64 x4) then bif m_eqv (Value.int IntKind.i64 x4) (Value.int IntKind.i64 x4) then bif m_eqv (Value.int IntKind.i64 x3) (Value.int IntKind.i64 x3) then bif m_eqv (Value.int IntKind.i64 x4) (Value.int IntKind.i64 x4) then bif m_eqv (Value.int IntKind.i64 x1) (Value.int IntKind.i64 x1) then bif m_eqv (Value.int IntKind.i64 x3) (Value.int IntKind.i64 x3) then bif m_eqv (Value.int IntKind.i64 x0) (Value.int IntKind.i64 x0) then CR.ret (Value.bool false) (AW.mk 0 Tr.nil Tr.nil) else CR.fail 420 else CR.fail 420 else CR.fail 420 else CR.fail 420 else CR.fail 420 else CR.fail 420 else CR.fail 420 else CR.fail 420 else CR.fail 420 else CR.fail 420 else CR.fail 420 else CR.fail 420 else CR.fail 420 else bif m_eqv (Value.int IntKind.i64 x4) (Value.int IntKind.i64 x4) then bif m_eqv (Value.int IntKind.i64 x1) (Value.int IntKind.i64 x1) then bif m_eqv (Value.int IntKind.i64 x3) (Value.int IntKind.i64 x3) then bif m_eqv (Value.int IntKind.i64 x0) (Value.int IntKind.i64 x0) then CR.ret (Value.bool false) (AW.mk 0 Tr.nil Tr.nil) else CR.fail 420 else CR.fail 420 else CR.fail 420 else CR.fail 420 else CR.fail 420 else bif m_eqv (Value.int IntKind.i64 x3) (Value.int IntKind.i64 x3) then bif m_eqv (Value.int IntKind.i64 x0) (Value.int IntKind.i64 x0) then CR.ret (Value.bool false) (AW.mk 0 Tr.nil Tr.nil) else CR.fail 420 else CR.fail 420 else CR.fail 420 else CR.fail 420 else CR.ret (Value.bool false) (AW.mk 0 Tr.nil Tr.nil) else CR.fail 420 else CR.fail 420 := by kernel_rfl

theorem raA (r : Mem) (b off len cap : Nat) : (lvlT (SC r) (fun _ => none) .nil 1 2).call 10 [RS b off len cap] emptyA fin =
    CR.ret (Value.int IntKind.i64 (IntKind.wrap IntKind.i64 (IntKind.wrap IntKind.i64 (Int.ofNat 1 * Int.ofNat 2 ^ min (Int.toNat (Int.ofNat len)) 64) - Int.ofNat 1))) (AW.mk 0 Tr.nil Tr.nil) := by kernel_rfl

theorem quA (r : Mem) (b off len cap : Nat) (s : Int) (fs : FnsC) (K : OV → List Nat → OO → CR) (kx : Nat → KS) (kr : KS) : run (SC r) 51 26 1 (.seq Qu_0 Qu_1) fs none (rbK 0 lvQu [] K) kx kr (sc0 51 [RS b off len cap, I s]) (tr0 51 [RS b off len cap, I s]) [] emptyA =
    K [some (Value.slice (some (Addr.mk b off (some 0))) len cap), some (Value.int IntKind.i64 s), some (Value.int IntKind.i64 (Int.ofNat 0))] [] [] := by kernel_rfl

theorem quB (r : Mem) (b off len cap : Nat) (s i : Int) (fs : FnsC) (K : OV → List Nat → OO → CR) (KX : Nat → OV → List Nat → OO → CR) (KR : OV → List Nat → OO → CR) : run (SC r) 51 26 1 Qu_2 fs none (rbK 0 lvQu [] K) (fun i => rbK 0 [0] [] (KX i)) (rbK 0 [4] [] KR) [] (bT lvQu [some (RS b off len cap), some (I s), some (I i)] .nil) [] (mkA []) =
    bif decide (i < Int.ofNat len) then bif !decide (i < 0) then bif Int.tmod (Int.fdiv s (Int.ofNat 2 ^ min (Int.toNat i) 64)) (Int.ofNat 2) == Int.ofNat 1 then bif decide (0 ≤ i) then bif Nat.blt (Int.toNat i) len then Option.casesOn (r b (Nat.add off (Nat.mul (Int.toNat i) 1))) (CR.fail 423) fun val => bif isI IntKind.i64 val then bif ibits BinOp.and IntKind.i64 (ofI val) s != Int.ofNat 0 then KR [some (Value.bool false)] [] [] else K [some (Value.slice (some (Addr.mk b off (some 0))) len cap), some (Value.int IntKind.i64 s), some (Value.int IntKind.i64 (IntKind.wrap IntKind.i64 (i + Int.ofNat 1)))] [] [] else CR.fail 420 else CR.fail 420 else CR.fail 420 else K [some (Value.slice (some (Addr.mk b off (some 0))) len cap), some (Value.int IntKind.i64 s), some (Value.int IntKind.i64 (IntKind.wrap IntKind.i64 (i + Int.ofNat 1)))] [] [] else CR.fail 420 else KX 0 [some (Value.slice (some (Addr.mk b off (some 0))) len cap)] [] [] := by kernel_rfl

theorem quC (r : Mem) (b off len cap : Nat) (fs : FnsC) (K KR : OV → List Nat → OO → CR) (kx : Nat → KS) : run (SC r) 51 26 1 Qu_3 fs none (rbK 0 [4] [] K) kx (rbK 0 [4] [] KR) [] (bT [0] [some (RS b off len cap)] .nil) [] (mkA []) =
    KR [some (Value.bool true)] [] [] := by kernel_rfl

end Go.Proofs

/- ferry's reading of passengers, run. -/
namespace Go.Proofs
open Go Go.Ev Go.Num
set_option linter.unusedVariables false
set_option linter.unusedSimpArgs false
set_option maxRecDepth 100000

noncomputable def cFr : Code := bodyOf S0 24
noncomputable def Fr_0 : Code := (lc cFr)
noncomputable def Fr_1 : Code := (lc (rc cFr))
noncomputable def Fr_2 : Code := (lc (rc (rc cFr)))
noncomputable def Fr_3 : Code := (lc (rc (rc (rc cFr))))
noncomputable def Fr_4 : Code := (lc (lc (rc (rc (rc (rc cFr))))))
noncomputable def Fr_5 : Code := (ic (ic (rc (lc (rc (rc (rc (rc cFr))))))))
noncomputable def Fr_6 : Code := (rc (rc (rc (rc (rc cFr)))))
theorem Fr_eq : cFr = (.seq Fr_0 (.seq Fr_1 (.seq Fr_2 (.seq Fr_3 (.seq (.seq Fr_4 (.block 0 (.loop Fr_5))) Fr_6))))) := by kernel_rfl
def lvFr : List Nat := [4, 7, 24, 25, 26]
def resF : List Value := I 0 :: List.replicate 10 (U 0)
def m_sgG (v : Int) : Bool := decide (0 ≤ v) && decide (v < 64)
def m_sg (v : Int) : Int := 2 ^ v.toNat
noncomputable def tFr : Tbl := tcons 35 (eI1 m_sgG fun v => U (m_sg v)) fun _ => none
noncomputable def tFc (a0 : List Value) (e : Int) : Tbl := tcons 34 (entV a0 (I e)) fun _ => none

theorem fsA (r : Mem) (v : Int) : (lvlT (SC r) (fun _ => none) .nil 1 3).call 35 [I v] emptyA fin =
    bif !decide (v < 0) then CR.ret (Value.int IntKind.u64 (IntKind.wrap IntKind.u64 (Int.ofNat 1 * Int.ofNat 2 ^ min (Int.toNat v) 64))) (AW.mk 0 Tr.nil Tr.nil) else CR.fail 420 := by kernel_rfl

theorem frA (r : Mem) (n : Int) (b off len cap : Nat) (K : OV → List Nat → OO → CR) (kx : Nat → KS) (KR : OV → List Nat → OO → CR) : run (SC r) 117444339 54 1 (.seq Fr_0 (.seq Fr_1 (.seq Fr_2 (.seq Fr_3 Fr_4)))) (lvlT (SC r) (tFc [I n, RS2 b off len cap] 0) .nil 1 1) none (rbK 0 lvFr [.g, .g] K) kx (rbK 0 [4, 5] [] KR) (sc0 117444339 [I n, RS2 b off len cap]) (tr0 117444339 [I n, RS2 b off len cap]) [] emptyA =
    bif m_same [Value.int IntKind.i64 n, Value.slice (some (Addr.mk b off (some 0))) len cap] [Value.int IntKind.i64 n, Value.slice (some (Addr.mk b off (some 0))) len cap] then bif decide (n > 10) then KR [some (Value.pointer (some (Addr.mk 0 0 none))), some (Value.int IntKind.i64 (Int.ofNat 2))] [] [some (AObj.cells [Value.int IntKind.i64 (Int.ofNat 0), Value.int IntKind.u64 (Int.ofNat 0), Value.int IntKind.u64 (Int.ofNat 0), Value.int IntKind.u64 (Int.ofNat 0), Value.int IntKind.u64 (Int.ofNat 0), Value.int IntKind.u64 (Int.ofNat 0), Value.int IntKind.u64 (Int.ofNat 0), Value.int IntKind.u64 (Int.ofNat 0), Value.int IntKind.u64 (Int.ofNat 0), Value.int IntKind.u64 (Int.ofNat 0), Value.int IntKind.u64 (Int.ofNat 0)] 54 0 0)] else K [some (Value.pointer (some (Addr.mk 0 0 none))), some (Value.pointer (some (Addr.mk 1 0 none))), some (Value.slice (some (Addr.mk b off (some 0))) len cap), some (Value.int IntKind.i64 (Int.ofNat len)), some (Value.int IntKind.i64 (Int.ofNat 0))] [] [some (AObj.cells [Value.int IntKind.i64 (Int.ofNat 0), Value.int IntKind.u64 (Int.ofNat 0), Value.int IntKind.u64 (Int.ofNat 0), Value.int IntKind.u64 (Int.ofNat 0), Value.int IntKind.u64 (Int.ofNat 0), Value.int IntKind.u64 (Int.ofNat 0), Value.int IntKind.u64 (Int.ofNat 0), Value.int IntKind.u64 (Int.ofNat 0), Value.int IntKind.u64 (Int.ofNat 0), Value.int IntKind.u64 (Int.ofNat 0), Value.int IntKind.u64 (Int.ofNat 0)] 54 0 0), some (AObj.cells [Value.int IntKind.i64 n, Value.int IntKind.u64 (Int.ofNat 0), Value.int IntKind.u64 (Int.ofNat 0), Value.int IntKind.u64 (Int.ofNat 0), Value.int IntKind.u64 (Int.ofNat 0), Value.int IntKind.u64 (Int.ofNat 0), Value.int IntKind.u64 (Int.ofNat 0), Value.int IntKind.u64 (Int.ofNat 0), Value.int IntKind.u64 (Int.ofNat 0), Value.int IntKind.u64 (Int.ofNat 0), Value.int IntKind.u64 (Int.ofNat 0)] 54 1 0)] else CR.fail 420 := by kernel_rfl

theorem frZ (r : Mem) (n : Int) (K : OV → List Nat → OO → CR) (kx : Nat → KS) (KR : OV → List Nat → OO → CR) : run (SC r) 117444339 54 1 (.seq Fr_0 (.seq Fr_1 (.seq Fr_2 (.seq Fr_3 Fr_4)))) (lvlT (SC r) (tFc [I n, .slice none 0 0] 0) .nil 1 1) none (rbK 0 lvFr [.g, .g] K) kx (rbK 0 [4, 5] [] KR) (sc0 117444339 [I n, .slice none 0 0]) (tr0 117444339 [I n, .slice none 0 0]) [] emptyA =
    bif m_same [Value.int IntKind.i64 n, Value.slice none 0 0] [Value.int IntKind.i64 n, Value.slice none 0 0] then bif decide (n > 10) then KR [some (Value.pointer (some (Addr.mk 0 0 none))), some (Value.int IntKind.i64 (Int.ofNat 2))] [] [some (AObj.cells [Value.int IntKind.i64 (Int.ofNat 0), Value.int IntKind.u64 (Int.ofNat 0), Value.int IntKind.u64 (Int.ofNat 0), Value.int IntKind.u64 (Int.ofNat 0), Value.int IntKind.u64 (Int.ofNat 0), Value.int IntKind.u64 (Int.ofNat 0), Value.int IntKind.u64 (Int.ofNat 0), Value.int IntKind.u64 (Int.ofNat 0), Value.int IntKind.u64 (Int.ofNat 0), Value.int IntKind.u64 (Int.ofNat 0), Value.int IntKind.u64 (Int.ofNat 0)] 54 0 0)] else K [some (Value.pointer (some (Addr.mk 0 0 none))), some (Value.pointer (some (Addr.mk 1 0 none))), some (Value.slice none 0 0), some (Value.int IntKind.i64 (Int.ofNat 0)), some (Value.int IntKind.i64 (Int.ofNat 0))] [] [some (AObj.cells [Value.int IntKind.i64 (Int.ofNat 0), Value.int IntKind.u64 (Int.ofNat 0), Value.int IntKind.u64 (Int.ofNat 0), Value.int IntKind.u64 (Int.ofNat 0), Value.int IntKind.u64 (Int.ofNat 0), Value.int IntKind.u64 (Int.ofNat 0), Value.int IntKind.u64 (Int.ofNat 0), Value.int IntKind.u64 (Int.ofNat 0), Value.int IntKind.u64 (Int.ofNat 0), Value.int IntKind.u64 (Int.ofNat 0), Value.int IntKind.u64 (Int.ofNat 0)] 54 0 0), some (AObj.cells [Value.int IntKind.i64 n, Value.int IntKind.u64 (Int.ofNat 0), Value.int IntKind.u64 (Int.ofNat 0), Value.int IntKind.u64 (Int.ofNat 0), Value.int IntKind.u64 (Int.ofNat 0), Value.int IntKind.u64 (Int.ofNat 0), Value.int IntKind.u64 (Int.ofNat 0), Value.int IntKind.u64 (Int.ofNat 0), Value.int IntKind.u64 (Int.ofNat 0), Value.int IntKind.u64 (Int.ofNat 0), Value.int IntKind.u64 (Int.ofNat 0)] 54 1 0)] else CR.fail 420 := by kernel_rfl

theorem frB (r : Mem) (b off len cap : Nat) (i : Int) (c d : List Value) (K : OV → List Nat → OO → CR) (KX : Nat → OV → List Nat → OO → CR) (kr : KS) : run (SC r) 117444339 54 1 Fr_5 (lvlT (SC r) tFr .nil 1 1) none (rbK 0 lvFr [.g, .g] K) (fun i => rbK 0 [4, 7] [] (KX i)) kr [] (bT lvFr [some (P0 0), some (P0 1), some (RS2 b off len cap), some (I (len : Nat)), some (I i)] .nil) [] (mkA [some (.cells c 54 0 0), some (.cells d 54 1 0)]) =
    bif decide (i < Int.ofNat len) then bif decide (0 ≤ i) then bif Nat.blt (Int.toNat i) len then Option.casesOn (r b (Nat.add off (Nat.mul (Int.toNat i) 2))) (CR.fail 423) fun val => bif isI IntKind.i64 val then Option.casesOn (r b (Nat.succ (Nat.add off (Nat.mul (Int.toNat i) 2)))) (CR.fail 423) fun val_1 => bif isI IntKind.i64 val_1 then bif decide (0 ≤ ofI val) then bif Nat.blt (Int.toNat (ofI val)) 10 then Option.casesOn d[Nat.add 1 (Nat.mul (Int.toNat (ofI val)) 1)]? (CR.fail 423) fun val_2 => bif isI IntKind.u64 val_2 then bif m_sgG (ofI val_1) then bif decide (0 ≤ ofI val) then bif Nat.blt (Int.toNat (ofI val)) 10 then bif Nat.blt (Nat.add 1 (Nat.mul (Int.toNat (ofI val)) 1)) (List.length d) then Option.casesOn d[Nat.add 1 (Nat.mul (Int.toNat (ofI val)) 1)]? (CR.fail 423) fun val_3 => bif isI IntKind.u64 val_3 then bif m_eqv (Value.int IntKind.u64 (ofI val_3)) (Value.int IntKind.u64 (ofI val_2)) then Option.casesOn d[Nat.add 1 (Nat.mul (Int.toNat (ofI val)) 1)]? (CR.fail 423) fun val_4 => bif isI IntKind.u64 val_4 then bif m_eqv (Value.int IntKind.u64 (ofI val_4)) (Value.int IntKind.u64 (ofI val_2)) then bif decide (0 ≤ ofI val_1) then bif Nat.blt (Int.toNat (ofI val_1)) 10 then Option.casesOn (List.set d (Nat.add 1 (Nat.mul (Int.toNat (ofI val)) 1)) (Value.int IntKind.u64 (ibits BinOp.or IntKind.u64 (ofI val_2) (m_sg (ofI val_1)))))[Nat.add 1 (Nat.mul (Int.toNat (ofI val_1)) 1)]? (CR.fail 423) fun val_5 => bif isI IntKind.u64 val_5 then bif m_sgG (ofI val) then bif decide (0 ≤ ofI val_1) then bif Nat.blt (Int.toNat (ofI val_1)) 10 then bif Nat.blt (Nat.add 1 (Nat.mul (Int.toNat (ofI val_1)) 1)) (List.length (List.set d (Nat.add 1 (Nat.mul (Int.toNat (ofI val)) 1)) (Value.int IntKind.u64 (ibits BinOp.or IntKind.u64 (ofI val_2) (m_sg (ofI val_1)))))) then Option.casesOn (List.set d (Nat.add 1 (Nat.mul (Int.toNat (ofI val)) 1)) (Value.int IntKind.u64 (ibits BinOp.or IntKind.u64 (ofI val_2) (m_sg (ofI val_1)))))[Nat.add 1 (Nat.mul (Int.toNat (ofI val_1)) 1)]? (CR.fail 423) fun val_6 => bif isI IntKind.u64 val_6 then bif m_eqv (Value.int IntKind.u64 (ofI val_6)) (Value.int IntKind.u64 (ofI val_5)) then Option.casesOn (List.set d (Nat.add 1 (Nat.mul (Int.toNat (ofI val)) 1)) (Value.int IntKind.u64 (ibits BinOp.or IntKind.u64 (ofI val_2) (m_sg (ofI val_1)))))[Nat.add 1 (Nat.mul (Int.toNat (ofI val_1)) 1)]? (CR.fail 423) fun val_7 => bif isI IntKind.u64 val_7 then bif m_eqv (Value.int IntKind.u64 (ofI val_7)) (Value.int IntKind.u64 (ofI val_5)) then bif m_nns c && (m_nns (List.set (List.set d (Nat.add 1 (Nat.mul (Int.toNat (ofI val)) 1)) (Value.int IntKind.u64 (ibits BinOp.or IntKind.u64 (ofI val_2) (m_sg (ofI val_1))))) (Nat.add 1 (Nat.mul (Int.toNat (ofI val_1)) 1)) (Value.int IntKind.u64 (ibits BinOp.or IntKind.u64 (ofI val_5) (m_sg (ofI val))))) && true) then K [some (Value.pointer (some (Addr.mk 0 0 none))), some (Value.pointer (some (Addr.mk 1 0 none))), some (Value.slice (some (Addr.mk b off (some 0))) len cap), some (Value.int IntKind.i64 (Int.ofNat len)), some (Value.int IntKind.i64 (IntKind.wrap IntKind.i64 (i + Int.ofNat 1)))] [] [some (AObj.cells c 54 0 0), some (AObj.cells (List.set (List.set d (Nat.add 1 (Nat.mul (Int.toNat (ofI val)) 1)) (Value.int IntKind.u64 (ibits BinOp.or IntKind.u64 (ofI val_2) (m_sg (ofI val_1))))) (Nat.add 1 (Nat.mul (Int.toNat (ofI val_1)) 1)) (Value.int IntKind.u64 (ibits BinOp.or IntKind.u64 (ofI val_5) (m_sg (ofI val))))) 54 1 0)] else CR.fail 420 else CR.fail 420 else CR.fail 420 else CR.fail 420 else CR.fail 420 else CR.fail 420 else CR.fail 420 else CR.fail 420 else CR.fail 420 else CR.fail 420 else CR.fail 420 else CR.fail 420 else CR.fail 420 else CR.fail 420 else CR.fail 420 else CR.fail 420 else CR.fail 420 else CR.fail 420 else CR.fail 420 else CR.fail 420 else CR.fail 420 else CR.fail 420 else CR.fail 420 else CR.fail 420 else CR.fail 420 else CR.fail 420 else CR.fail 420 else bif m_nns c && (m_nns d && true) then KX 0 [some (Value.pointer (some (Addr.mk 0 0 none))), some (Value.pointer (some (Addr.mk 1 0 none)))] [] [some (AObj.cells c 54 0 0), some (AObj.cells d 54 1 0)] else CR.fail 420 := by kernel_rfl

theorem frN (r : Mem) (c d : List Value) (K : OV → List Nat → OO → CR) (KX : Nat → OV → List Nat → OO → CR) (kr : KS) : run (SC r) 117444339 54 1 Fr_5 (lvlT (SC r) tFr .nil 1 1) none (rbK 0 lvFr [.g, .g] K) (fun i => rbK 0 [4, 7] [] (KX i)) kr [] (bT lvFr [some (P0 0), some (P0 1), some (.slice none 0 0), some (I 0), some (I 0)] .nil) [] (mkA [some (.cells c 54 0 0), some (.cells d 54 1 0)]) =
    bif m_nns c && (m_nns d && true) then KX 0 [some (Value.pointer (some (Addr.mk 0 0 none))), some (Value.pointer (some (Addr.mk 1 0 none)))] [] [some (AObj.cells c 54 0 0), some (AObj.cells d 54 1 0)] else CR.fail 420 := by kernel_rfl

theorem frC (r : Mem) (n z0 z1 z2 z3 z4 z5 z6 z7 z8 z9 : Int) (fs : FnsC) (K KR : OV → List Nat → OO → CR) (kx : Nat → KS) : run (SC r) 117444339 54 1 Fr_6 fs none (rbK 0 [4, 5] [] K) kx (rbK 0 [4, 5] [] KR) [] (bT [4, 7] [some (P0 0), some (P0 1)] .nil) [] (mkA [some (.cells resF 54 0 0), some (.cells [I n, U z0, U z1, U z2, U z3, U z4, U z5, U z6, U z7, U z8, U z9] 54 1 0)]) =
    KR [some (Value.pointer (some (Addr.mk 0 0 none))), some (Value.int IntKind.i64 (Int.ofNat 0))] [] [some (AObj.cells [Value.int IntKind.i64 n, Value.int IntKind.u64 z0, Value.int IntKind.u64 z1, Value.int IntKind.u64 z2, Value.int IntKind.u64 z3, Value.int IntKind.u64 z4, Value.int IntKind.u64 z5, Value.int IntKind.u64 z6, Value.int IntKind.u64 z7, Value.int IntKind.u64 z8, Value.int IntKind.u64 z9] 54 0 0)] := by kernel_rfl

end Go.Proofs

/- ferry's reading of passengers: what the calls answer. -/
namespace Go.Proofs
open Go Go.Ev Go.Num
set_option linter.unusedVariables false
set_option linter.unusedSimpArgs false
set_option maxRecDepth 100000

theorem fsg_ok (r : Mem) (v : Int) (h : m_sgG v = true) : GrT Tryd.prog r 35 [I v] (U (m_sg v)) :=
  GrT.of (SC_ok r) TOk.nil .nil rfl ⟨1, 3, by
    simp only [m_sgG, Bool.and_eq_true, decide_eq_true_eq] at h
    rw [fsA, dF (show ¬ v < 0 by omega), Bool.not_false, cond_true]
    have e : IntKind.wrap IntKind.u64 (Int.ofNat 1 * Int.ofNat 2 ^ min (Int.toNat v) 64) = m_sg v := by
      have : ∀ j : Fin 64, IntKind.wrap IntKind.u64 (Int.ofNat 1 * Int.ofNat 2 ^ min j.val 64) = 2 ^ j.val := by decide
      exact this ⟨v.toNat, by omega⟩
    rw [e]; rfl⟩
theorem tFr_ok (r : Mem) : TOk (SC r) tFr := TOk.cons TOk.nil (eI1_ok fun v h => fsg_ok r v h)
theorem tFc_ok (r : Mem) (hm : ∀ b j u, tabM b j = some u → r b j = some u) (n : Int) (b off len cap : Nat) (z : Nat → Int) (hz : rowAt r b off (2 * len) z) (hl : len ≤ 1000000) (hok : ckG n z len = 0) : TOk (SC r) (tFc [I n, RS2 b off len cap] 0) := by
  have := partCheck_ok r hm n b off len cap z hz hl
  rw [hok] at this
  exact TOk.cons TOk.nil (entV_ok this rfl)

theorem pgC_set {n : Int} {ws : List Nat} (k w : Nat) : (pgC n ws).set (Nat.add 1 (Nat.mul k 1)) (.int .u64 (w : Int)) = pgC n (ws.set k w) := by
  rw [Nat.mul_eq, Nat.mul_one, Nat.add_eq, Nat.add_comm]
  show I n :: (ws.map fun (w : Nat) => U (w : Int)).set k _ = I n :: (ws.set k w).map _
  rw [List.map_set]
theorem pgC_len (n : Int) (ws : List Nat) : (pgC n ws).length = ws.length + 1 := by show (ws.map _).length + 1 = _; rw [List.length_map]
theorem list10 {l : List Nat} (h : l.length = 10) : ∃ a0 a1 a2 a3 a4 a5 a6 a7 a8 a9, l = [a0, a1, a2, a3, a4, a5, a6, a7, a8, a9] := by
  match l, h with
  | [a0, a1, a2, a3, a4, a5, a6, a7, a8, a9], _ => exact ⟨a0, a1, a2, a3, a4, a5, a6, a7, a8, a9, rfl⟩

def frO (n : Int) (z : Nat → Int) (k : Nat) : OO := [some (.cells resF 54 0 0), some (.cells (pgC n (nbN 10 z k)) 54 1 0)]
def frV (b off len cap k : Nat) : OV := [some (P0 0), some (P0 1), some (RS2 b off len cap), some (I (len : Nat)), some (I (k : Nat))]

theorem fread_ok (r : Mem) (hm : ∀ b j u, tabM b j = some u → r b j = some u) (n : Int) (hn10 : n ≤ 10) (b off len cap : Nat) (z : Nat → Int) (hz : rowAt r b off (2 * len) z) (hl : len ≤ 1000000) (hok : ckG n z len = 0) :
    GrT Tryd.prog r 24 [I n, RS2 b off len cap] (.tuple ⟨[.agg ⟨pgC n (nbN 10 z len)⟩, I 0]⟩) := by
  obtain ⟨hn1, hn2, hall⟩ := ckG_0 hok
  have h3 := okAll_at hall
  have hrf : m_nns resF = true := rfl
  have hN : ∀ k, (nbN 10 z k).length = 10 := nbN_len 10 z
  have hg : gnds (pgC n (nbN 10 z len)) = true := by
    show (true && gnds ((nbN 10 z len).map _)) = true
    generalize nbN 10 z len = l
    induction l with
    | nil => rfl
    | cons x l ih => show (true && gnds (l.map _)) = true; simpa using ih
  refine GrT.ofS (C := SC r) rfl rfl (by show (gnds (pgC n (nbN 10 z len)) && true) = true; rw [hg]; rfl) (callL (SC_ok r) (by kernel_rfl) ((bodySC r _).trans Fr_eq) (nt := 54) (by kernel_rfl) (rs := [.cell 4 54, .tmp 5]) (by kernel_rfl) 117444339 rfl (.step (.step (.step (.step .base)))) (tFc_ok r hm n b off len cap z hz hl hok) (tm := .nil) (L := 1) (d := 1) lvFr [.g, .g]
    (fun j vs ms os => ∃ k, k ≤ len ∧ j = len - k ∧ vs = frV b off len cap k ∧ ms = [] ∧ os = frO n z k)
    ⟨[4, 7], [], fun vs ms os => vs = [some (P0 0), some (P0 1)] ∧ ms = [] ∧ os = frO n z len⟩
    ⟨[4, 5], [], fun vs ms os => vs = [some (P0 0), some (I 0)] ∧ ms = [] ∧ os = [some (.cells (pgC n (nbN 10 z len)) 54 0 0)]⟩ ?_ ?_ ?_ ?_)
  · have hn := frA r n b off len cap
    rw [show m_same _ _ = true from same_rfl _] at hn
    simp only [cond_true, dF (show ¬ n > 10 by omega), cond_false] at hn
    exact (hn _ _ _).trans (qq_ok ⟨len, 0, Nat.zero_le _, rfl, rfl, rfl, rfl⟩)
  · rintro j vs ms os ⟨k, hk, rfl, rfl, rfl, rfl⟩
    refine ⟨tFr, tFr_ok r, .nil, 1, 1, 1, ?_⟩
    have hn := frB r b off len cap k resF (pgC n (nbN 10 z k))
    have hcn := pgC_nn n
    by_cases c : k < len
    · have c1 : (k : Int) < Int.ofNat len := by simp; omega
      have c2 : 0 ≤ (k : Int) := by omega
      have c3 : Nat.blt k len = true := Nat.ble_eq_true_of_le (by omega)
      have ho := h3 k c
      obtain ⟨x, y, hx1, hy1, hxy, hy10⟩ : ∃ x y : Nat, ea z k = x ∧ eb z k = y ∧ x < y ∧ y < 10 := ⟨(ea z k).toNat, (eb z k).toNat, by omega, by omega, by omega, by omega⟩
      have l0 : r b (Nat.add off (Nat.mul k 2)) = some (I (x : Nat)) := by
        have := hz (2 * k) (by omega)
        rw [show Nat.add off (Nat.mul k 2) = off + 2 * k by simp [Nat.mul_comm], ← hx1]
        exact this
      have l1 : r b (Nat.succ (Nat.add off (Nat.mul k 2))) = some (I (y : Nat)) := by
        have := hz (2 * k + 1) (by omega)
        rw [show Nat.succ (Nat.add off (Nat.mul k 2)) = off + (2 * k + 1) by simp [Nat.mul_comm]; omega, ← hy1]
        exact this
      have w1 : IntKind.wrap IntKind.i64 ((k : Int) + Int.ofNat 1) = ((k + 1 : Nat) : Int) := by rw [wrI (by simp; omega)]; simp
      have ii : ∀ x, isI IntKind.i64 (I x) = true := fun _ => rfl
      have oo : ∀ x, ofI (I x) = x := fun _ => rfl
      have iu : ∀ x, isI IntKind.u64 (U x) = true := fun _ => rfl
      have ou : ∀ x, ofI (U x) = x := fun _ => rfl
      have x0 : 0 ≤ (x : Int) := by omega
      have y0 : 0 ≤ (y : Int) := by omega
      have xm : Nat.blt x 10 = true := Nat.ble_eq_true_of_le (by omega)
      have ym : Nat.blt y 10 = true := Nat.ble_eq_true_of_le hy10
      have gx0 : m_sgG (x : Int) = true := by simp only [m_sgG, Bool.and_eq_true, decide_eq_true_eq]; omega
      have gy0 : m_sgG (y : Int) = true := by simp only [m_sgG, Bool.and_eq_true, decide_eq_true_eq]; omega
      have sx : m_sg (x : Int) = ((2 ^ x : Nat) : Int) := by unfold m_sg; simp
      have sy : m_sg (y : Int) = ((2 ^ y : Nat) : Int) := by unfold m_sg; simp
      have hNl := hN k
      have hNw := nbN_lt 10 z hn2 k fun i hi => h3 i (by omega)
      have ev : ∀ z : Int, m_eqv (.int .u64 z) (.int .u64 z) = true := fun z => by simp [m_eqv, veq]
      have hS : nbN 10 z (k + 1) = jnN (nbN 10 z k) x y := by rw [nbN, hx1, hy1]; simp
      have gx : (pgC n (nbN 10 z k))[Nat.add 1 (Nat.mul x 1)]? = some (U (((nbN 10 z k).getD x 0 : Nat) : Int)) := pgC_get (by omega)
      have bx : Nat.blt (Nat.add 1 (Nat.mul x 1)) (pgC n (nbN 10 z k)).length = true := Nat.ble_eq_true_of_le (by rw [pgC_len]; simp; omega)
      have s1 : ibits BinOp.or IntKind.u64 (((nbN 10 z k).getD x 0 : Nat) : Int) ((2 ^ y : Nat) : Int) = (((nbN 10 z k).getD x 0 ||| 2 ^ y : Nat) : Int) := or_nat (.inl rfl) (getD_lt hNw x) (bit16 (by omega))
      have t1 : (pgC n (nbN 10 z k)).set (Nat.add 1 (Nat.mul x 1)) (.int .u64 (((nbN 10 z k).getD x 0 ||| 2 ^ y : Nat) : Int)) = pgC n (orN (nbN 10 z k) x y) := pgC_set _ _
      have l2 : (orN (nbN 10 z k) x y).length = 10 := by rw [orN_len]; exact hNl
      have h2w := orN_lt hNw x (b := y) (by omega)
      have gy : (pgC n (orN (nbN 10 z k) x y))[Nat.add 1 (Nat.mul y 1)]? = some (U (((orN (nbN 10 z k) x y).getD y 0 : Nat) : Int)) := pgC_get (by omega)
      have by' : Nat.blt (Nat.add 1 (Nat.mul y 1)) (pgC n (orN (nbN 10 z k) x y)).length = true := Nat.ble_eq_true_of_le (by rw [pgC_len]; simp; omega)
      have s2 : ibits BinOp.or IntKind.u64 (((orN (nbN 10 z k) x y).getD y 0 : Nat) : Int) ((2 ^ x : Nat) : Int) = (((orN (nbN 10 z k) x y).getD y 0 ||| 2 ^ x : Nat) : Int) := or_nat (.inl rfl) (getD_lt h2w y) (bit16 (by omega))
      have t2 : (pgC n (orN (nbN 10 z k) x y)).set (Nat.add 1 (Nat.mul y 1)) (.int .u64 (((orN (nbN 10 z k) x y).getD y 0 ||| 2 ^ x : Nat) : Int)) = pgC n (jnN (nbN 10 z k) x y) := pgC_set _ _
      have hQ : ∃ j', j' < len - k ∧ ∃ k', k' ≤ len ∧ j' = len - k' ∧ frV b off len cap (k + 1) = frV b off len cap k' ∧ ([] : List Nat) = [] ∧ frO n z (k + 1) = frO n z k' := ⟨len - (k + 1), by omega, k + 1, c, rfl, rfl, rfl, rfl⟩
      unfold frO at hQ
      rw [hS] at hQ
      simp only [dT c1, dT c2, c3, cond_true, Int.toNat_natCast, l0, l1, ii, oo, iu, ou, dT x0, dT y0, xm, ym, gx0, gy0, sx, sy, gx, bx, ev, s1, t1, gy, by', s2, t2, w1, hcn, hrf, Bool.and_true] at hn
      exact (hn _ _ _).trans (qq_ok hQ)
    · have hkl : k = len := by omega
      have c1 : ¬ (k : Int) < Int.ofNat len := by simp; omega
      simp only [dF c1, cond_false, hcn, hrf, Bool.and_true, cond_true] at hn
      subst hkl
      exact (hn _ _ _).trans (qq_ok ⟨rfl, rfl, rfl⟩)
  · rintro vs ms os ⟨rfl, rfl, rfl⟩
    obtain ⟨a0, a1, a2, a3, a4, a5, a6, a7, a8, a9, h10⟩ := list10 (hN len)
    refine ⟨_, TOk.nil, .nil, 1, 1, 1, ?_⟩
    unfold frO
    rw [h10, show pgC n [a0, a1, a2, a3, a4, a5, a6, a7, a8, a9] = [I n, U (a0 : Nat), U (a1 : Nat), U (a2 : Nat), U (a3 : Nat), U (a4 : Nat), U (a5 : Nat), U (a6 : Nat), U (a7 : Nat), U (a8 : Nat), U (a9 : Nat)] from rfl]
    exact (frC r n a0 a1 a2 a3 a4 a5 a6 a7 a8 a9 _ _ _ _).trans (qq_ok ⟨rfl, rfl, rfl⟩)
  · rintro vs ms os ⟨rfl, rfl, rfl⟩
    obtain ⟨a0, a1, a2, a3, a4, a5, a6, a7, a8, a9, h10⟩ := list10 (hN len)
    rw [h10]
    exact ⟨.tuple ⟨[.agg ⟨pgC n [a0, a1, a2, a3, a4, a5, a6, a7, a8, a9]⟩, I 0]⟩, mkA [some (.cells (pgC n [a0, a1, a2, a3, a4, a5, a6, a7, a8, a9]) 54 0 0)], by kernel_rfl, rfl⟩

end Go.Proofs

/- Structures and quiet groups: what the calls answer. -/
namespace Go.Num
open Go.Proofs

def anN (a b : Nat) : Nat := (a &&& b) ^^^ a
theorem an_zero {a b : Nat} : anN a b = 0 ↔ a &&& b = a := by
  unfold anN
  constructor
  · intro h
    apply Nat.eq_of_testBit_eq
    intro i
    have := congrArg (fun x => Nat.testBit x i) h
    simp only [Nat.testBit_and, Nat.testBit_xor, Nat.zero_testBit] at this ⊢
    revert this
    cases a.testBit i <;> cases b.testBit i <;> simp
  · intro h; rw [h]; exact Nat.xor_self a
theorem sub_or {a b y : Nat} : (a ||| b) &&& y = a ||| b ↔ a &&& y = a ∧ b &&& y = b := by
  constructor
  · intro h
    constructor <;>
    · apply Nat.eq_of_testBit_eq
      intro i
      have := congrArg (fun x => Nat.testBit x i) h
      simp only [Nat.testBit_and, Nat.testBit_or] at this ⊢
      revert this
      cases a.testBit i <;> cases b.testBit i <;> cases y.testBit i <;> simp
  · rintro ⟨h1, h2⟩
    apply Nat.eq_of_testBit_eq; intro i
    have h3 := congrArg (fun x => Nat.testBit x i) h1
    have h4 := congrArg (fun x => Nat.testBit x i) h2
    simp only [Nat.testBit_and, Nat.testBit_or] at h3 h4 ⊢
    revert h3 h4
    cases a.testBit i <;> cases b.testBit i <;> cases y.testBit i <;> simp
theorem an_or {a b y : Nat} : anN (a ||| b) y = 0 ↔ anN a y = 0 ∧ anN b y = 0 := by rw [an_zero, an_zero, an_zero, sub_or]
theorem an_all {a m : Nat} : anN a (2 ^ m - 1) = 0 ↔ a < 2 ^ m := by
  rw [an_zero, Nat.and_two_pow_sub_one_eq_mod]
  constructor
  · intro h
    have := Nat.mod_lt a (Nat.two_pow_pos m)
    omega
  · exact Nat.mod_eq_of_lt
theorem an_lt {a b k : Nat} (h : a < 2 ^ k) : anN a b < 2 ^ k := Nat.xor_lt_two_pow (Nat.lt_of_le_of_lt Nat.and_le_left h) h
theorem all_lt (m : Nat) : 2 ^ m - 1 < 2 ^ m := by have := Nat.two_pow_pos m; omega
theorem an_in {a x m : Nat} (h : anN a (anN (2 ^ m - 1) x) = 0) : a < 2 ^ m := by
  rw [an_zero] at h
  have h1 : a ≤ anN (2 ^ m - 1) x := by rw [← h]; exact Nat.and_le_right
  have := an_lt (b := x) (all_lt m)
  omega

/-- Quiet: no element below k of s has a neighbour in s. -/
def quN (w : Nat → Nat) (s : Nat) : Nat → Bool
  | 0 => true
  | k + 1 => quN w s k && (!btN s k || w k &&& s == 0)
theorem quN_fo (w : Nat → Nat) (s : Nat) : ∀ k, (s &&& foE w s k == 0) = quN w s k
  | 0 => by simp [foE, quN]
  | k + 1 => by
    rw [foE, quN, ← quN_fo w s k, Nat.and_or_distrib_left]
    cases h : btN s k with
    | false => simp
    | true =>
      rw [if_pos rfl]
      rw [Bool.eq_iff_iff]
      simp only [beq_iff_eq, Nat.or_eq_zero_iff, Bool.and_eq_true, Bool.not_true, Bool.false_or, Nat.and_comm (w k) s]
theorem btN_high {s m k : Nat} (h : s < 2 ^ m) (hk : m ≤ k) : btN s k = false := by
  have : s < 2 ^ k := Nat.lt_of_lt_of_le h (Nat.pow_le_pow_right (by decide) hk)
  unfold btN
  rw [Nat.div_eq_of_lt this]
  rfl
theorem quN_cut {w w' : Nat → Nat} {s m : Nat} (hs : s < 2 ^ m) (hw : ∀ i, i < m → w i = w' i) : ∀ d, quN w s (m + d) = quN w' s m
  | 0 => by
    have : ∀ k, k ≤ m → quN w s k = quN w' s k := fun k => by
      induction k with
      | zero => intro _; rfl
      | succ k ih => intro hk; rw [quN, quN, ih (by omega), hw k (by omega)]
    exact this m (Nat.le_refl _)
  | d + 1 => by
    rw [show m + (d + 1) = m + d + 1 by omega, quN, quN_cut hs hw d, btN_high hs (by omega)]
    simp

/-- A structure. -/
def stN (A : Nat) (q : Nat → Bool) (seats : Int) (x0 x1 x2 x3 x4 : Nat) : Bool :=
  (x0 &&& x1 == 0) && (x0 &&& x2 == 0) && (x1 &&& x2 == 0) && q (x0 ||| x1 ||| x2) && decide ((popN 16 (anN A (x0 ||| x1 ||| x2)) : Int) ≤ seats) && !(x3 == 0) && !(x4 == 0) && (anN x3 (anN A (x0 ||| x1 ||| x2)) == 0) && (anN x4 (anN A (x0 ||| x1 ||| x2)) == 0) && q (x0 ||| x3) && q (x1 ||| x4) && decide (popN 16 x2 ≤ popN 16 x3 + popN 16 x4)
def inA (A : Nat) (x : Int) : Bool := decide (0 ≤ x) && decide (x ≤ A)
def stI (A : Nat) (q : Nat → Bool) (seats : Int) (x0 x1 x2 x3 x4 : Int) : Bool :=
  inA A x0 && inA A x1 && inA A x2 && inA A x3 && inA A x4 && stN A q seats x0.toNat x1.toNat x2.toNat x3.toNat x4.toNat

end Go.Num
namespace Go.Proofs
open Go Go.Ev Go.Num
set_option linter.unusedVariables false
set_option linter.unusedSimpArgs false
set_option maxRecDepth 100000

theorem wrapU' {a : Nat} (h : a < 18446744073709551616) : IntKind.wrap .u64 (a : Int) = (a : Int) := by rw [wrU]; omega
theorem bvU (a : Nat) (h : a < 18446744073709551616) : (BitVec.ofInt 64 (a : Int)).toNat = a := by
  rw [BitVec.ofInt_natCast, BitVec.toNat_ofNat]
  exact Nat.mod_eq_of_lt h
theorem ibO {k : IntKind} (hk : k = .u64 ∨ k = .i64) {a b : Nat} (ha : a < 18446744073709551616) (hb : b < 18446744073709551616) : ibits .or k (a : Int) (b : Int) = k.wrap ((a ||| b : Nat) : Int) ∧ ibits .and k (a : Int) (b : Int) = k.wrap ((a &&& b : Nat) : Int) ∧ ibits .andNot k (a : Int) (b : Int) = k.wrap ((anN a b : Nat) : Int) := by
  have hx : ∀ x y : BitVec 64, x &&& ~~~y = (x &&& y) ^^^ x := fun x y => by
    ext i hi
    simp
    cases x[i] <;> cases y[i] <;> rfl
  have e1 : (BitVec.ofInt 64 (a : Int) ||| BitVec.ofInt 64 (b : Int)).toNat = a ||| b := by rw [BitVec.toNat_or, bvU a ha, bvU b hb]
  have e2 : (BitVec.ofInt 64 (a : Int) &&& BitVec.ofInt 64 (b : Int)).toNat = a &&& b := by rw [BitVec.toNat_and, bvU a ha, bvU b hb]
  have e3 : (BitVec.ofInt 64 (a : Int) &&& ~~~(BitVec.ofInt 64 (b : Int))).toNat = anN a b := by rw [hx, BitVec.toNat_xor, BitVec.toNat_and, bvU a ha, bvU b hb]; rfl
  rcases hk with rfl | rfl
  · refine ⟨?_, ?_, ?_⟩
    · show IntKind.wrap .u64 ((BitVec.ofInt 64 (a : Int) ||| BitVec.ofInt 64 (b : Int)).toNat : Int) = _
      rw [e1]
    · show IntKind.wrap .u64 ((BitVec.ofInt 64 (a : Int) &&& BitVec.ofInt 64 (b : Int)).toNat : Int) = _
      rw [e2]
    · show IntKind.wrap .u64 ((BitVec.ofInt 64 (a : Int) &&& ~~~(BitVec.ofInt 64 (b : Int))).toNat : Int) = _
      rw [e3]
  · refine ⟨?_, ?_, ?_⟩
    · show IntKind.wrap .i64 ((BitVec.ofInt 64 (a : Int) ||| BitVec.ofInt 64 (b : Int)).toNat : Int) = _
      rw [e1]
    · show IntKind.wrap .i64 ((BitVec.ofInt 64 (a : Int) &&& BitVec.ofInt 64 (b : Int)).toNat : Int) = _
      rw [e2]
    · show IntKind.wrap .i64 ((BitVec.ofInt 64 (a : Int) &&& ~~~(BitVec.ofInt 64 (b : Int))).toNat : Int) = _
      rw [e3]
theorem uO {a b : Nat} (ha : a < 18446744073709551616) (hb : b < 18446744073709551616) : ibits .or .u64 (a : Int) (b : Int) = ((a ||| b : Nat) : Int) ∧ ibits .and .u64 (a : Int) (b : Int) = ((a &&& b : Nat) : Int) ∧ ibits .andNot .u64 (a : Int) (b : Int) = ((anN a b : Nat) : Int) := by
  have h64 : (18446744073709551616 : Nat) = 2 ^ 64 := by decide
  obtain ⟨h1, h2, h3⟩ := ibO (.inl rfl) ha hb
  refine ⟨h1.trans (wrapU' ?_), h2.trans (wrapU' ?_), h3.trans (wrapU' ?_)⟩
  · rw [h64] at *; exact Nat.or_lt_two_pow ha hb
  · rw [h64] at *; exact Nat.and_lt_two_pow _ hb
  · rw [h64] at *; exact an_lt ha
theorem iO {a b : Nat} (ha : a < 65536) (hb : b < 65536) : ibits .or .i64 (a : Int) (b : Int) = ((a ||| b : Nat) : Int) ∧ ibits .and .i64 (a : Int) (b : Int) = ((a &&& b : Nat) : Int) ∧ ibits .andNot .i64 (a : Int) (b : Int) = ((anN a b : Nat) : Int) := by
  obtain ⟨h1, h2, h3⟩ := ibO (.inr rfl) (show a < 18446744073709551616 by omega) (show b < 18446744073709551616 by omega)
  have g1 : a ||| b < 65536 := or16 ha hb
  have g2 : a &&& b < 65536 := Nat.and_lt_two_pow (n := 16) _ hb
  have g3 : anN a b < 65536 := an_lt (k := 16) ha
  exact ⟨h1.trans (wrI (by omega)), h2.trans (wrI (by omega)), h3.trans (wrI (by omega))⟩

/-- The reference's Quiet. -/
theorem rquiet_ok (r : Mem) (b off len cap : Nat) (w : Nat → Nat) (hr : ∀ k, k < len → r b (off + k) = some (I (w k : Nat))) (hw : ∀ k, k < len → w k < 65536) (hl : len ≤ 16) (s : Nat) (hs : s < 65536) :
    GrT Tryd.prog r 11 [RS b off len cap, I (s : Nat)] (.bool (quN w s len)) := by
  refine GrT.ofS (C := SC r) rfl rfl rfl (callL (SC_ok r) (by kernel_rfl) ((bodySC r _).trans Qu_eq) (nt := 26) (by kernel_rfl) (rs := [.tmp 4]) (by kernel_rfl) 51 rfl (.step .base) TOk.nil (tm := .nil) (L := 1) (d := 1) lvQu []
    (fun j vs ms os => ∃ k, k ≤ len ∧ j = len - k ∧ quN w s k = true ∧ vs = [some (RS b off len cap), some (I (s : Nat)), some (I (k : Nat))] ∧ ms = [] ∧ os = [])
    ⟨[0], [], fun vs ms os => quN w s len = true ∧ vs = [some (RS b off len cap)] ∧ ms = [] ∧ os = []⟩
    ⟨[4], [], fun vs ms os => vs = [some (.bool (quN w s len))] ∧ ms = [] ∧ os = []⟩ ?_ ?_ ?_ ?_)
  · exact (quA r b off len cap s _ _ _ _).trans (qq_ok ⟨len, 0, Nat.zero_le _, rfl, rfl, rfl, rfl, rfl⟩)
  · rintro j vs ms os ⟨k, hk, rfl, hq, rfl, rfl, rfl⟩
    refine ⟨_, TOk.nil, .nil, 1, 1, 1, ?_⟩
    have hn := quB r b off len cap s k
    by_cases c : k < len
    · have c1 : (k : Int) < Int.ofNat len := by simp; omega
      have c2 : 0 ≤ (k : Int) := by omega
      have c3 : Nat.blt k len = true := Nat.ble_eq_true_of_le c
      have c4 : ¬ (k : Int) < 0 := by omega
      have e2 : (Int.tmod (Int.fdiv (s : Nat) (Int.ofNat 2 ^ min k 64)) (Int.ofNat 2) == Int.ofNat 1) = btN s k := by
        rw [shr_nat s k (by omega)]
        unfold btN
        have : ∀ x : Nat, Int.tmod (x : Int) (Int.ofNat 2) = ((x % 2 : Nat) : Int) := fun x => by
          show Int.tmod (x : Int) 2 = _
          rw [Int.tmod_eq_emod_of_nonneg (by omega)]
          omega
        rw [this]
        rcases Nat.mod_two_eq_zero_or_one (s / 2 ^ k) with h | h <;> rw [h] <;> rfl
      have e3 : IntKind.wrap IntKind.i64 ((k : Int) + Int.ofNat 1) = ((k + 1 : Nat) : Int) := by rw [wrI (by simp; omega)]; simp
      have e1 : r b (Nat.add off (Nat.mul k 1)) = some (I (w k : Nat)) := by rw [Nat.mul_eq, Nat.mul_one]; exact hr k c
      have e4 : ibits .and .i64 ((w k : Nat) : Int) ((s : Nat) : Int) = ((w k &&& s : Nat) : Int) := (iO (hw k c) hs).2.1
      have hS : quN w s (k + 1) = (!btN s k || w k &&& s == 0) := by rw [quN, hq, Bool.true_and]
      simp only [dT c1, dT c2, dF c4, Bool.not_false, cond_true, Int.toNat_natCast, c3, e1, show isI IntKind.i64 (I (w k : Nat)) = true from rfl, show ofI (I (w k : Nat)) = ((w k : Nat) : Int) from rfl, e2, e3, e4] at hn
      cases hb : btN s k with
      | false =>
        rw [hb] at hS
        simp only [hb, cond_false] at hn
        exact (hn _ _ _ _).trans (qq_ok ⟨len - (k + 1), by omega, k + 1, c, rfl, by rw [hS]; rfl, rfl, rfl, rfl⟩)
      | true =>
        rw [hb] at hS
        by_cases e : w k &&& s = 0
        · simp only [hb, cond_true, e, show (((0 : Nat) : Int) != Int.ofNat 0) = false from rfl, cond_false] at hn
          exact (hn _ _ _ _).trans (qq_ok ⟨len - (k + 1), by omega, k + 1, c, rfl, by rw [hS, e]; rfl, rfl, rfl, rfl⟩)
        · have ne : (((w k &&& s : Nat) : Int) != Int.ofNat 0) = true := by simp only [bne_iff_ne, ne_eq]; intro h; exact e (by simpa using h)
          simp only [hb, cond_true, ne] at hn
          have hF : quN w s len = false := by
            have hS' : quN w s (k + 1) = false := by rw [hS]; simp [e]
            have : ∀ d, quN w s (k + 1 + d) = false := fun d => by
              induction d with
              | zero => exact hS'
              | succ d ih => rw [show k + 1 + (d + 1) = k + 1 + d + 1 by omega, quN, ih, Bool.false_and]
            have := this (len - (k + 1))
            rwa [show k + 1 + (len - (k + 1)) = len by omega] at this
          exact (hn _ _ _ _).trans (qq_ok ⟨by rw [hF], rfl, rfl⟩)
    · obtain rfl : k = len := by omega
      have c1 : ¬ (k : Int) < Int.ofNat k := by simp
      simp only [dF c1, cond_false] at hn
      exact (hn _ _ _ _).trans (qq_ok ⟨hq, rfl, rfl, rfl⟩)
  · rintro vs ms os ⟨hq, rfl, rfl, rfl⟩
    exact ⟨_, TOk.nil, .nil, 1, 1, 1, (quC r b off len cap _ _ _ _).trans (qq_ok ⟨by rw [hq], rfl, rfl⟩)⟩
  · rintro vs ms os ⟨rfl, rfl, rfl⟩
    exact ⟨_, mkA [], by kernel_rfl, rfl⟩

end Go.Proofs

/- Structures: what the program's calls answer. -/
namespace Go.Proofs
open Go Go.Ev Go.Num
set_option linter.unusedVariables false
set_option linter.unusedSimpArgs false
set_option maxRecDepth 100000

theorem pgC_gnd (n : Int) (ws : List Nat) : gnds (pgC n ws) = true := by
  show (true && gnds (ws.map fun (w : Nat) => U (w : Int))) = true
  rw [Bool.true_and]
  induction ws with
  | nil => rfl
  | cons x l ih => show (true && gnds (l.map _)) = true; rw [ih]; rfl
theorem ePW_ok (r : Mem) {f : Nat} {c : List Value} {v : Int → Value} (hc : gnds c = true) (h : ∀ s : Nat, s < 1024 → GrT Tryd.prog r f [.agg ⟨c⟩, U (s : Nat)] (v (s : Nat))) : EOk (SC r) f (ePW c v) := EOk.ent fun args A hg => by
  split at hg
  · rename_i l s
    simp only [Bool.and_eq_true] at hg
    have h1 := @of_decide_eq_true _ (Classical.propDecidable _) hg.1
    have h2 := of_decide_eq_true hg.2
    subst h1
    have := h s.toNat (by omega)
    rw [show ((s.toNat : Nat) : Int) = s by omega] at this
    exact this.ro (by simp [roVs, roV, gnd, hc]) A
  · cases hg

/-- Ten words, one by one. -/
theorem pgC10 (n : Int) {ws : List Nat} (h : ws.length = 10) : ∃ a0 a1 a2 a3 a4 a5 a6 a7 a8 a9 : Nat, ws = [a0, a1, a2, a3, a4, a5, a6, a7, a8, a9] ∧ pgC n ws = [I n, U a0, U a1, U a2, U a3, U a4, U a5, U a6, U a7, U a8, U a9] := by
  obtain ⟨a0, a1, a2, a3, a4, a5, a6, a7, a8, a9, rfl⟩ := list10 h
  exact ⟨a0, a1, a2, a3, a4, a5, a6, a7, a8, a9, rfl, rfl⟩

theorem isq_ok (r : Mem) (hm : ∀ b j u, tabM b j = some u → r b j = some u) (n : Int) (ws : List Nat) (hl : ws.length = 10) (hw : ∀ w ∈ ws, w < 65536) (s : Nat) (hs : s < 1024) :
    GrT Tryd.prog r 26 [.agg ⟨pgC n ws⟩, U (s : Nat)] (.bool (quN (fun i => ws.getD i 0) s 10)) := by
  have hf : EOk (SC r) 36 (ePW (pgC n ws) fun s => U (m_fo ws s)) := ePW_ok r (pgC_gnd n ws) fun s hs => by
    have := foes_ok r hm n ws hl hw s hs
    show GrT Tryd.prog r _ _ (U (m_fo ws (s : Nat)))
    unfold m_fo
    rw [Int.toNat_natCast]
    exact this
  have hfl : foE (fun i => ws.getD i 0) s 10 < 65536 := foE_lt s 10 fun i _ => getD_lt hw i
  have e1 : ibits .and .u64 ((s : Nat) : Int) (m_fo ws (s : Nat)) = ((s &&& foE (fun i => ws.getD i 0) s 10 : Nat) : Int) := by
    unfold m_fo
    rw [Int.toNat_natCast]
    exact (uO (by omega) (by omega)).2.1
  have e2 : (((s &&& foE (fun i => ws.getD i 0) s 10 : Nat) : Int) == Int.ofNat 0) = quN (fun i => ws.getD i 0) s 10 := by
    rw [← quN_fo, Bool.eq_iff_iff]
    simp
  have hw10 : m_w10 (s : Nat) = true := decide_eq_true ⟨by omega, by omega⟩
  generalize quN (fun i => ws.getD i 0) s 10 = v at e2 ⊢
  obtain ⟨a0, a1, a2, a3, a4, a5, a6, a7, a8, a9, _, hp⟩ := pgC10 n hl
  rw [hp] at hf ⊢
  refine GrT.of (SC_ok r) (show TOk (SC r) (tIq [I n, U a0, U a1, U a2, U a3, U a4, U a5, U a6, U a7, U a8, U a9] ws) from TOk.cons TOk.nil hf) .nil rfl ⟨1, 2, ?_⟩
  rw [iqA, show m_same _ _ = true from same_rfl _, hw10, e1, e2]
  cases v <;> rfl

theorem fsz_ok (r : Mem) (s : Int) (h : m_popG s = true) : GrT Tryd.prog r 38 [U s] (I (m_pop s)) :=
  GrT.of (SC_ok r) (TOk.cons TOk.nil (ePop_ok r)) .nil rfl ⟨1, 4, (fszA r s).trans (by rw [h]; rfl)⟩

theorem all_eq {m : Nat} (h : m ≤ 16) : m_all (m : Nat) = ((2 ^ m - 1 : Nat) : Int) := by
  have : ∀ j : Fin 17, (2 : Int) ^ j.val - 1 = ((2 ^ j.val - 1 : Nat) : Int) := by decide
  unfold m_all
  rw [Int.toNat_natCast]
  exact this ⟨m, by omega⟩
theorem fall_ok (r : Mem) (m : Nat) (hm : m ≤ 16) (ws : List Nat) (hl : ws.length = 10) : GrT Tryd.prog r 25 [.agg ⟨pgC (m : Nat) ws⟩] (U (m_all (m : Nat))) := by
  obtain ⟨a0, a1, a2, a3, a4, a5, a6, a7, a8, a9, _, hp⟩ := pgC10 (m : Nat) hl
  rw [hp]
  refine GrT.of (SC_ok r) TOk.nil .nil rfl ⟨1, 4, (alA r (m : Nat) a0 a1 a2 a3 a4 a5 a6 a7 a8 a9).trans ?_⟩
  have e : IntKind.wrap IntKind.u64 (IntKind.wrap IntKind.u64 (Int.ofNat 1 * Int.ofNat 2 ^ min (Int.toNat ((m : Nat) : Int)) 64) - Int.ofNat 1) = m_all (m : Nat) := by
    rw [all_eq hm, Int.toNat_natCast]
    have : ∀ j : Fin 17, IntKind.wrap IntKind.u64 (IntKind.wrap IntKind.u64 (Int.ofNat 1 * Int.ofNat 2 ^ min j.val 64) - Int.ofNat 1) = ((2 ^ j.val - 1 : Nat) : Int) := by decide
    exact this ⟨m, by omega⟩
  rw [dF (show ¬ ((m : Nat) : Int) < 0 by omega), Bool.not_false, cond_true, e]
  rfl
theorem rall_ok (r : Mem) (b off len cap : Nat) (hl : len ≤ 16) : GrT Tryd.prog r 10 [RS b off len cap] (I (m_all (len : Nat))) := by
  refine GrT.of (SC_ok r) TOk.nil .nil rfl ⟨1, 2, (raA r b off len cap).trans ?_⟩
  have e : IntKind.wrap IntKind.i64 (IntKind.wrap IntKind.i64 (Int.ofNat 1 * Int.ofNat 2 ^ min (Int.toNat (Int.ofNat len)) 64) - Int.ofNat 1) = m_all (len : Nat) := by
    rw [all_eq hl]
    have : ∀ j : Fin 17, IntKind.wrap IntKind.i64 (IntKind.wrap IntKind.i64 (Int.ofNat 1 * Int.ofNat 2 ^ min (Int.toNat (Int.ofNat j.val)) 64) - Int.ofNat 1) = ((2 ^ j.val - 1 : Nat) : Int) := by decide
    exact this ⟨len, by omega⟩
  rw [e]
  rfl

end Go.Proofs

/- Structures: what the calls answer. -/
namespace Go.Proofs
open Go Go.Ev Go.Num
set_option linter.unusedVariables false
set_option linter.unusedSimpArgs false
set_option maxRecDepth 100000

theorem z0 (n : Nat) : (((n : Nat) : Int) == Int.ofNat 0) = (n == 0) := by rw [Bool.eq_iff_iff]; simp
theorem z1 (n : Nat) : (((n : Nat) : Int) != Int.ofNat 0) = !(n == 0) := by rw [bne, z0]
theorem i64_small {x : Int} {X : Nat} (h1 : -9223372036854775808 ≤ x) (h2 : x < 9223372036854775808) (h : IntKind.wrap .u64 x = (X : Nat)) (hX : X < 1024) : x = X := by rw [wrU] at h; omega
def rng (x : Int) : Prop := -9223372036854775808 ≤ x ∧ x < 9223372036854775808
theorem wrX (x : Int) : ∃ X : Nat, IntKind.wrap .u64 x = (X : Nat) ∧ X < 18446744073709551616 := ⟨(x % 18446744073709551616).toNat, by rw [wrU]; omega, by omega⟩
theorem pop_small (s : Nat) : popN 16 s ≤ 16 := popN_le 16 s

theorem isstr_ok (r : Mem) (hm : ∀ b j u, tabM b j = some u → r b j = some u) (m : Nat) (hm10 : m ≤ 10) (ws : List Nat) (hl : ws.length = 10) (hw : ∀ w ∈ ws, w < 65536) (seats x0 x1 x2 x3 x4 : Int) (r0 : rng x0) (r1 : rng x1) (r2 : rng x2) (r3 : rng x3) (r4 : rng x4) :
    GrT Tryd.prog r 33 [.agg ⟨pgC (m : Nat) ws⟩, I seats, .agg ⟨[I x0, I x1, I x2, I x3, I x4]⟩] (.bool (stI (2 ^ m - 1) (fun s => quN (fun i => ws.getD i 0) s 10) seats x0 x1 x2 x3 x4)) := by
  have hA : 2 ^ m ≤ 1024 := Nat.pow_le_pow_right (n := 2) (by decide) hm10
  have hpos := Nat.two_pow_pos m
  have h64 : (18446744073709551616 : Nat) = 2 ^ 64 := by decide
  have hq : EOk (SC r) 26 (ePW (pgC (m : Nat) ws) fun s => .bool (quN (fun i => ws.getD i 0) s.toNat 10)) := ePW_ok r (pgC_gnd _ ws) fun s hs => by
    have := isq_ok r hm (m : Nat) ws hl hw s hs
    rw [Int.toNat_natCast]
    exact this
  have ha := fall_ok r m (by omega) ws hl
  generalize (fun (i : Nat) => ws.getD i 0) = w at hq ⊢
  obtain ⟨a0, a1, a2, a3, a4, a5, a6, a7, a8, a9, _, hp⟩ := pgC10 (m : Nat) hl
  rw [hp] at hq ha ⊢
  refine GrT.of (SC_ok r) (show TOk (SC r) (tIs (m : Nat) [U a0, U a1, U a2, U a3, U a4, U a5, U a6, U a7, U a8, U a9] fun s => quN w s.toNat 10) from TOk.cons (TOk.cons (TOk.cons TOk.nil (entV_ok ha rfl)) (eU1_ok fun a h => fsz_ok r a h)) hq) .nil rfl ⟨1, 3, ?_⟩
  have hn := isA r (m : Nat) seats a0 a1 a2 a3 a4 a5 a6 a7 a8 a9 (fun s => quN w s.toNat 10) x0 x1 x2 x3 x4
  rw [hn]
  clear hn hq ha hp
  have sm : ∀ l : List Value, m_same l l = true := same_rfl
  obtain ⟨X0, e0, l0⟩ := wrX x0
  obtain ⟨X1, e1, l1⟩ := wrX x1
  obtain ⟨X2, e2, l2⟩ := wrX x2
  obtain ⟨X3, e3, l3⟩ := wrX x3
  obtain ⟨X4, e4, l4⟩ := wrX x4
  have eA := all_eq (m := m) (by omega)
  have lA : 2 ^ m - 1 < 18446744073709551616 := by omega
  have l01 : X0 ||| X1 < 18446744073709551616 := by rw [h64] at *; exact Nat.or_lt_two_pow l0 l1
  have l012 : X0 ||| X1 ||| X2 < 18446744073709551616 := by rw [h64] at *; exact Nat.or_lt_two_pow l01 l2
  have ly : anN (2 ^ m - 1) (X0 ||| X1 ||| X2) < 18446744073709551616 := by
    have := an_lt (b := X0 ||| X1 ||| X2) (all_lt m)
    omega
  have wp : IntKind.wrap IntKind.i64 (((popN 16 X3 : Nat) : Int) + ((popN 16 X4 : Nat) : Int)) = ((popN 16 X3 + popN 16 X4 : Nat) : Int) := by
    have := pop_small X3
    have := pop_small X4
    rw [wrI (by omega)]
    omega
  have mp : ∀ x : Nat, m_pop ((x : Nat) : Int) = ((popN 16 x : Nat) : Int) := fun x => by unfold m_pop; rw [Int.toNat_natCast]
  have dg : ∀ a b : Nat, decide (((a : Nat) : Int) ≥ ((b : Nat) : Int)) = decide (b ≤ a) := fun a b => by rw [Bool.eq_iff_iff]; simp
  simp only [sm, Bool.true_and, cond_true, e0, e1, e2, e3, e4, eA, (uO l0 l1).1, (uO l01 l2).1, (uO l012 lA).2.2, (uO lA l012).2.2, (uO l3 ly).2.2, (uO l4 ly).2.2, z0, (uO l0 l1).2.1, (uO l0 l2).2.1, (uO l1 l2).2.1, (uO l0 l3).1, (uO l1 l4).1, Int.toNat_natCast, wp, mp, dg]
  by_cases hc : (anN (X0 ||| X1 ||| X2) (2 ^ m - 1) == 0) = true ∧ (anN X3 (anN (2 ^ m - 1) (X0 ||| X1 ||| X2)) == 0) = true ∧ (anN X4 (anN (2 ^ m - 1) (X0 ||| X1 ||| X2)) == 0) = true
  · obtain ⟨c0, c3, c4⟩ := hc
    have b012 : X0 ||| X1 ||| X2 < 2 ^ m := an_all.mp (by simpa using c0)
    have b3 : X3 < 2 ^ m := an_in (by simpa using c3)
    have b4 : X4 < 2 ^ m := an_in (by simpa using c4)
    have b0 : X0 < 2 ^ m := Nat.lt_of_le_of_lt (Nat.le_trans Nat.left_le_or Nat.left_le_or) b012
    have b1 : X1 < 2 ^ m := Nat.lt_of_le_of_lt (Nat.le_trans Nat.right_le_or Nat.left_le_or) b012
    have b2 : X2 < 2 ^ m := Nat.lt_of_le_of_lt Nat.right_le_or b012
    have b03 : X0 ||| X3 < 2 ^ m := Nat.or_lt_two_pow b0 b3
    have b14 : X1 ||| X4 < 2 ^ m := Nat.or_lt_two_pow b1 b4
    have by' := an_lt (b := X0 ||| X1 ||| X2) (all_lt m)
    obtain rfl := i64_small r0.1 r0.2 e0 (by omega)
    obtain rfl := i64_small r1.1 r1.2 e1 (by omega)
    obtain rfl := i64_small r2.1 r2.2 e2 (by omega)
    obtain rfl := i64_small r3.1 r3.2 e3 (by omega)
    obtain rfl := i64_small r4.1 r4.2 e4 (by omega)
    have g : ∀ x : Nat, x < 2 ^ m → m_w10 ((x : Nat) : Int) = true := fun x h => decide_eq_true ⟨by omega, by omega⟩
    have gp : ∀ x : Nat, x < 2 ^ m → m_popG ((x : Nat) : Int) = true := fun x h => decide_eq_true ⟨by omega, by omega⟩
    have gi : ∀ x : Nat, x < 2 ^ m → inA (2 ^ m - 1) ((x : Nat) : Int) = true := fun x h => by
      unfold inA
      rw [Bool.and_eq_true, decide_eq_true_eq, decide_eq_true_eq]
      omega
    unfold stI stN
    simp only [gi X0 b0, gi X1 b1, gi X2 b2, gi X3 b3, gi X4 b4, Int.toNat_natCast, g _ b012, g _ b03, g _ b14, gp _ by', gp _ b2, gp _ b3, gp _ b4, c0, c3, c4, cond_true, Bool.true_and, Bool.and_true]
    clear e0 e1 e2 e3 e4
    generalize (X3 == 0) = v1
    generalize (X4 == 0) = v2
    generalize (X0 &&& X1 == 0) = v3
    generalize (X0 &&& X2 == 0) = v4
    generalize (X1 &&& X2 == 0) = v5
    generalize quN w (X0 ||| X1 ||| X2) 10 = v6
    generalize quN w (X0 ||| X3) 10 = v7
    generalize quN w (X1 ||| X4) 10 = v8
    generalize decide (((popN 16 (anN (2 ^ m - 1) (X0 ||| X1 ||| X2)) : Nat) : Int) ≤ seats) = v9
    generalize decide (popN 16 X2 ≤ popN 16 X3 + popN 16 X4) = v10
    cases v1 <;> cases v2 <;> cases v3 <;> cases v4 <;> cases v5 <;> cases v6 <;> cases v7 <;> cases v8 <;> cases v9 <;> cases v10 <;> rfl
  · have hF : stI (2 ^ m - 1) (fun s => quN w s 10) seats x0 x1 x2 x3 x4 = false := by
      cases hs : stI (2 ^ m - 1) (fun s => quN w s 10) seats x0 x1 x2 x3 x4 with
      | false => rfl
      | true =>
        exfalso
        unfold stI stN inA at hs
        simp only [Bool.and_eq_true, decide_eq_true_eq] at hs
        have k0 : x0.toNat = X0 := by rw [wrU] at e0; omega
        have k1 : x1.toNat = X1 := by rw [wrU] at e1; omega
        have k2 : x2.toNat = X2 := by rw [wrU] at e2; omega
        have k3 : x3.toNat = X3 := by rw [wrU] at e3; omega
        have k4 : x4.toNat = X4 := by rw [wrU] at e4; omega
        rw [k0, k1, k2, k3, k4] at hs
        refine hc ⟨?_, ?_, ?_⟩
        · have : X0 ||| X1 ||| X2 < 2 ^ m := Nat.or_lt_two_pow (Nat.or_lt_two_pow (show X0 < 2 ^ m by omega) (show X1 < 2 ^ m by omega)) (show X2 < 2 ^ m by omega)
          simpa using an_all.mpr this
        · simp_all
        · simp_all
    rw [hF]
    generalize (anN (X0 ||| X1 ||| X2) (2 ^ m - 1) == 0) = c0 at hc
    generalize (anN X3 (anN (2 ^ m - 1) (X0 ||| X1 ||| X2)) == 0) = c3 at hc
    generalize (anN X4 (anN (2 ^ m - 1) (X0 ||| X1 ||| X2)) == 0) = c4 at hc
    cases c0 with
    | false => rfl
    | true =>
      cases c3 with
      | false => rfl
      | true =>
        cases c4 with
        | false => rfl
        | true => exact absurd ⟨rfl, rfl, rfl⟩ hc


theorem eRQ_ok (r : Mem) {b off len cap : Nat} {q : Int → Bool} (h : ∀ s : Nat, s < 1024 → GrT Tryd.prog r 11 [RS b off len cap, I (s : Nat)] (.bool (q (s : Nat)))) : EOk (SC r) 11 (eRQ (RS b off len cap) q) := EOk.ent fun args A hg => by
  split at hg
  · rename_i v s
    simp only [Bool.and_eq_true] at hg
    have h1 := @of_decide_eq_true _ (Classical.propDecidable _) hg.1
    have h2 := of_decide_eq_true hg.2
    cases h1
    have := h s.toNat (by omega)
    rw [show ((s.toNat : Nat) : Int) = s by omega] at this
    exact this.ro rfl A
  · cases hg
theorem rsz_ok (r : Mem) (a : Int) (h : m_popG a = true) : GrT Tryd.prog r 28 [I a] (I (m_pop a)) := by
  have h' := of_decide_eq_true h
  have := size_ok r a.toNat (by omega)
  rw [show ((a.toNat : Nat) : Int) = a by omega] at this
  exact this

theorem rstr_ok (r : Mem) (b off m cap : Nat) (hm10 : m ≤ 10) (w : Nat → Nat) (hr : ∀ k, k < m → r b (off + k) = some (I (w k : Nat))) (hw : ∀ k, k < m → w k < 65536) (seats x0 x1 x2 x3 x4 : Int) :
    GrT Tryd.prog r 21 [RS b off m cap, I seats, .agg ⟨[I x0, I x1, I x2, I x3, I x4]⟩] (.bool (stI (2 ^ m - 1) (fun s => quN w s m) seats x0 x1 x2 x3 x4)) := by
  have hA : 2 ^ m ≤ 1024 := Nat.pow_le_pow_right (n := 2) (by decide) hm10
  have hpos := Nat.two_pow_pos m
  have hq : EOk (SC r) 11 (eRQ (RS b off m cap) fun s => quN w s.toNat m) := eRQ_ok r fun s hs => by
    have := rquiet_ok r b off m cap w hr hw (by omega) s (by omega)
    rw [Int.toNat_natCast]
    exact this
  have ha := rall_ok r b off m cap (by omega)
  refine GrT.of (SC_ok r) (show TOk (SC r) (tRs (RS b off m cap) (m : Nat) fun s => quN w s.toNat m) from TOk.cons (TOk.cons (TOk.cons TOk.nil (entV_ok ha rfl)) (eI1_ok fun a h => rsz_ok r a h)) hq) .nil rfl ⟨7, 2, ?_⟩
  rw [rsA]
  clear hq ha
  have sm : ∀ l : List Value, m_same l l = true := same_rfl
  have eA := all_eq (m := m) (by omega)
  simp only [sm, Bool.true_and, cond_true, eA]
  by_cases c : x0 < 0
  · simp only [dT c, cond_true]
    rw [show stI (2 ^ m - 1) (fun s => quN w s m) seats x0 x1 x2 x3 x4 = false from by unfold stI; rw [show inA (2 ^ m - 1) x0 = false from by unfold inA; rw [dF (show ¬ 0 ≤ x0 by omega)]; rfl]; simp]
    rfl
  by_cases c' : x0 > ((2 ^ m - 1 : Nat) : Int)
  · simp only [dF c, cond_false, dT c', cond_true]
    rw [show stI (2 ^ m - 1) (fun s => quN w s m) seats x0 x1 x2 x3 x4 = false from by unfold stI; rw [show inA (2 ^ m - 1) x0 = false from by unfold inA; rw [dF (show ¬ x0 ≤ ((2 ^ m - 1 : Nat) : Int) by omega)]; simp]; simp]
    rfl
  simp only [dF c, cond_false, dF c']
  by_cases c : x1 < 0
  · simp only [dT c, cond_true]
    rw [show stI (2 ^ m - 1) (fun s => quN w s m) seats x0 x1 x2 x3 x4 = false from by unfold stI; rw [show inA (2 ^ m - 1) x1 = false from by unfold inA; rw [dF (show ¬ 0 ≤ x1 by omega)]; rfl]; simp]
    rfl
  by_cases c' : x1 > ((2 ^ m - 1 : Nat) : Int)
  · simp only [dF c, cond_false, dT c', cond_true]
    rw [show stI (2 ^ m - 1) (fun s => quN w s m) seats x0 x1 x2 x3 x4 = false from by unfold stI; rw [show inA (2 ^ m - 1) x1 = false from by unfold inA; rw [dF (show ¬ x1 ≤ ((2 ^ m - 1 : Nat) : Int) by omega)]; simp]; simp]
    rfl
  simp only [dF c, cond_false, dF c']
  by_cases c : x2 < 0
  · simp only [dT c, cond_true]
    rw [show stI (2 ^ m - 1) (fun s => quN w s m) seats x0 x1 x2 x3 x4 = false from by unfold stI; rw [show inA (2 ^ m - 1) x2 = false from by unfold inA; rw [dF (show ¬ 0 ≤ x2 by omega)]; rfl]; simp]
    rfl
  by_cases c' : x2 > ((2 ^ m - 1 : Nat) : Int)
  · simp only [dF c, cond_false, dT c', cond_true]
    rw [show stI (2 ^ m - 1) (fun s => quN w s m) seats x0 x1 x2 x3 x4 = false from by unfold stI; rw [show inA (2 ^ m - 1) x2 = false from by unfold inA; rw [dF (show ¬ x2 ≤ ((2 ^ m - 1 : Nat) : Int) by omega)]; simp]; simp]
    rfl
  simp only [dF c, cond_false, dF c']
  by_cases c : x3 < 0
  · simp only [dT c, cond_true]
    rw [show stI (2 ^ m - 1) (fun s => quN w s m) seats x0 x1 x2 x3 x4 = false from by unfold stI; rw [show inA (2 ^ m - 1) x3 = false from by unfold inA; rw [dF (show ¬ 0 ≤ x3 by omega)]; rfl]; simp]
    rfl
  by_cases c' : x3 > ((2 ^ m - 1 : Nat) : Int)
  · simp only [dF c, cond_false, dT c', cond_true]
    rw [show stI (2 ^ m - 1) (fun s => quN w s m) seats x0 x1 x2 x3 x4 = false from by unfold stI; rw [show inA (2 ^ m - 1) x3 = false from by unfold inA; rw [dF (show ¬ x3 ≤ ((2 ^ m - 1 : Nat) : Int) by omega)]; simp]; simp]
    rfl
  simp only [dF c, cond_false, dF c']
  by_cases c : x4 < 0
  · simp only [dT c, cond_true]
    rw [show stI (2 ^ m - 1) (fun s => quN w s m) seats x0 x1 x2 x3 x4 = false from by unfold stI; rw [show inA (2 ^ m - 1) x4 = false from by unfold inA; rw [dF (show ¬ 0 ≤ x4 by omega)]; rfl]; simp]
    rfl
  by_cases c' : x4 > ((2 ^ m - 1 : Nat) : Int)
  · simp only [dF c, cond_false, dT c', cond_true]
    rw [show stI (2 ^ m - 1) (fun s => quN w s m) seats x0 x1 x2 x3 x4 = false from by unfold stI; rw [show inA (2 ^ m - 1) x4 = false from by unfold inA; rw [dF (show ¬ x4 ≤ ((2 ^ m - 1 : Nat) : Int) by omega)]; simp]; simp]
    rfl
  simp only [dF c, cond_false, dF c']
  obtain ⟨X0, rfl⟩ : ∃ X : Nat, x0 = X := ⟨x0.toNat, by omega⟩
  obtain ⟨X1, rfl⟩ : ∃ X : Nat, x1 = X := ⟨x1.toNat, by omega⟩
  obtain ⟨X2, rfl⟩ : ∃ X : Nat, x2 = X := ⟨x2.toNat, by omega⟩
  obtain ⟨X3, rfl⟩ : ∃ X : Nat, x3 = X := ⟨x3.toNat, by omega⟩
  obtain ⟨X4, rfl⟩ : ∃ X : Nat, x4 = X := ⟨x4.toNat, by omega⟩
  have b0 : X0 < 2 ^ m := by omega
  have b1 : X1 < 2 ^ m := by omega
  have b2 : X2 < 2 ^ m := by omega
  have b3 : X3 < 2 ^ m := by omega
  have b4 : X4 < 2 ^ m := by omega
  have b01 : X0 ||| X1 < 2 ^ m := Nat.or_lt_two_pow b0 b1
  have b012 : X0 ||| X1 ||| X2 < 2 ^ m := Nat.or_lt_two_pow b01 b2
  have b34 : X3 ||| X4 < 2 ^ m := Nat.or_lt_two_pow b3 b4
  have b03 : X0 ||| X3 < 2 ^ m := Nat.or_lt_two_pow b0 b3
  have b14 : X1 ||| X4 < 2 ^ m := Nat.or_lt_two_pow b1 b4
  have by' := an_lt (b := X0 ||| X1 ||| X2) (all_lt m)
  have g : ∀ x : Nat, x < 2 ^ m → m_w10 ((x : Nat) : Int) = true := fun x h => decide_eq_true ⟨by omega, by omega⟩
  have gp : ∀ x : Nat, x < 2 ^ m → m_popG ((x : Nat) : Int) = true := fun x h => decide_eq_true ⟨by omega, by omega⟩
  have gi : ∀ x : Nat, x < 2 ^ m → inA (2 ^ m - 1) ((x : Nat) : Int) = true := fun x h => by
    unfold inA
    rw [Bool.and_eq_true, decide_eq_true_eq, decide_eq_true_eq]
    omega
  have i6 : ∀ x : Nat, x < 2 ^ m → x < 65536 := fun x h => by omega
  have lA : 2 ^ m - 1 < 65536 := by omega
  have wp : IntKind.wrap IntKind.i64 (((popN 16 X3 : Nat) : Int) + ((popN 16 X4 : Nat) : Int)) = ((popN 16 X3 + popN 16 X4 : Nat) : Int) := by
    have := pop_small X3
    have := pop_small X4
    rw [wrI (by omega)]
    omega
  have mp : ∀ x : Nat, m_pop ((x : Nat) : Int) = ((popN 16 x : Nat) : Int) := fun x => by unfold m_pop; rw [Int.toNat_natCast]
  have dg : ∀ a b : Nat, decide (((a : Nat) : Int) ≥ ((b : Nat) : Int)) = decide (b ≤ a) := fun a b => by rw [Bool.eq_iff_iff]; simp
  have ds : ∀ a : Int, decide (a > seats) = !decide (a ≤ seats) := fun a => by rw [Bool.eq_iff_iff]; simp
  have c34 : (anN (X3 ||| X4) (anN (2 ^ m - 1) (X0 ||| X1 ||| X2)) == 0) = ((anN X3 (anN (2 ^ m - 1) (X0 ||| X1 ||| X2)) == 0) && (anN X4 (anN (2 ^ m - 1) (X0 ||| X1 ||| X2)) == 0)) := by
    rw [Bool.eq_iff_iff]
    simp only [beq_iff_eq, Bool.and_eq_true]
    exact an_or
  unfold stI stN
  simp only [gi X0 b0, gi X1 b1, gi X2 b2, gi X3 b3, gi X4 b4, Int.toNat_natCast, (iO (i6 _ b0) (i6 _ b1)).1, (iO (i6 _ b01) (i6 _ b2)).1, (iO (i6 _ b0) (i6 _ b1)).2.1, (iO (i6 _ b0) (i6 _ b2)).2.1, (iO (i6 _ b1) (i6 _ b2)).2.1, (iO lA (i6 _ b012)).2.2, (iO (i6 _ b3) (i6 _ b4)).1, (iO (i6 _ b34) (i6 _ by')).2.2, (iO (i6 _ b0) (i6 _ b3)).1, (iO (i6 _ b1) (i6 _ b4)).1, z0, z1, g _ b012, g _ b03, g _ b14, gp _ by', gp _ b2, gp _ b3, gp _ b4, mp, wp, dg, ds, eqv_rfl, c34, cond_true, Bool.true_and, Bool.and_true]
  generalize (X3 == 0) = v1
  generalize (X4 == 0) = v2
  generalize (X0 &&& X1 == 0) = v3
  generalize (X0 &&& X2 == 0) = v4
  generalize (X1 &&& X2 == 0) = v5
  generalize quN w (X0 ||| X1 ||| X2) m = v6
  generalize quN w (X0 ||| X3) m = v7
  generalize quN w (X1 ||| X4) m = v8
  generalize decide (((popN 16 (anN (2 ^ m - 1) (X0 ||| X1 ||| X2)) : Nat) : Int) ≤ seats) = v9
  generalize decide (popN 16 X2 ≤ popN 16 X3 + popN 16 X4) = v10
  generalize (anN X3 (anN (2 ^ m - 1) (X0 ||| X1 ||| X2)) == 0) = v11
  generalize (anN X4 (anN (2 ^ m - 1) (X0 ||| X1 ||| X2)) == 0) = v12
  clear c34 dg ds mp wp
  cases v3
  · rfl
  cases v4
  · rfl
  cases v5
  · rfl
  cases v6
  · rfl
  cases v9
  · rfl
  cases v1
  · cases v2
    · cases v11
      · cases v7 <;> rfl
      · cases v12
        · cases v7 <;> rfl
        · cases v7
          · rfl
          · cases v8
            · rfl
            · cases v10 <;> rfl
    · rfl
  · rfl

end Go.Proofs

/- A row of pairs of the caller's, as memory. -/
namespace Go.Proofs
open Go Go.Ev Go.Num
set_option linter.unusedVariables false
set_option linter.unusedSimpArgs false
set_option maxRecDepth 100000

/-- A row of pairs of the caller's. -/
noncomputable def m_okL2 (c : List Value) (k len : Nat) : Bool := @decide (len ≤ 1000000 ∧ ∀ j, j < 2 * len → ∃ z : Int, c[k + j]? = some (I z)) (Classical.propDecidable _)
def zAt2 (c : List Value) (j : Nat) : Int := match c[j]? with
  | some (.int _ z) => z
  | _ => 0
theorem memW_tab {r : Mem} (hm : ∀ b j u, tabM b j = some u → r b j = some u) {γ : Gam} {W : World} (hR : Ro r γ W) : ∀ b j u, tabM b j = some u → memW W b j = some u := fun b j u h => by
  have hg : gnd u = true := by
    unfold tabM at h
    split at h
    · unfold memL u8s at h
      rw [List.getElem?_map] at h
      cases h1 : tab64[j]? with
      | none => rw [h1] at h; cases h
      | some x => rw [h1] at h; cases h; rfl
    · split at h
      · unfold memL u8s at h
        rw [List.getElem?_map] at h
        cases h1 : tab32[j]? with
        | none => rw [h1] at h; cases h
        | some x => rw [h1] at h; cases h; rfl
      · cases h
  obtain ⟨_, cc, e, fr, v', h1, h2, h3⟩ := hR b j u (hm b j u h)
  have := (h3 γ).eq_of_gnd hg
  subst this
  unfold memW
  rw [h1]
  simp only [h2, Option.bind_some]
  exact mark_gnd hg

/-- A row of pairs of the caller's, as memory that is read; more arguments behind it. -/
theorem own_mem {r : Mem} {γ : Gam} {A : AW} {W : World} (hw : WRel γ A W) (hR : Ro r γ W) {n : Int} {i k len cap : Nat} {c l : List Value} {e f z : Nat} (hget : A.heap.get i = some (.cells c e f z)) (hok : m_okL2 c k len = true) (hcap : Nat.beq cap unkE = false) (hl : gnds l = true)
    {args' : Array Value} (ha : VsRel γ (.int .i64 n :: .slice (some ⟨i, k, none⟩) len cap :: l) args'.toList) :
    ∃ b k', VsRel noG (I n :: RS2 b k' len 0 :: l) args'.toList ∧ rowAt (memW W) b k' (2 * len) (fun j => zAt2 c (k + j)) ∧ len ≤ 1000000 := by
  obtain ⟨h1, h2⟩ := @of_decide_eq_true _ (Classical.propDecidable _) hok
  obtain ⟨la⟩ := args'
  cases ha with
  | cons hn hrest =>
  cases hn
  cases hrest with
  | cons hv hrest =>
  obtain ⟨b, k', c', rfl, hrd⟩ := rd_world hw hR hv hcap
  refine ⟨b, k', .cons (.int _ _) (.cons (.sliceRo _ _ _ _ _ _ (by decide) (Nat.zero_le _)) ?_), fun j hj => ?_, h1⟩
  · rw [hrest.eq_of_gnds hl]
    exact VsRel.of_gnds noG l hl
  · obtain ⟨z, hz⟩ := h2 j hj
    have e1 : zAt2 c (k + j) = z := by unfold zAt2; rw [hz]
    show memW W b (k' + j) = some (I (zAt2 c (k + j)))
    rw [e1]
    refine hrd j _ ?_ rfl
    simp only [AW.rd, AW.cell, hget]
    exact hz

theorem natFK2 {i j : Nat} (h : i ≠ j) : Nat.beq i j = false := by
  cases e : Nat.beq i j with
  | false => rfl
  | true => exact absurd (Nat.eq_of_beq_eq_true e) h

abbrev Tab (r : Mem) : Prop := ∀ b j u, tabM b j = some u → r b j = some u


end Go.Proofs

/- Structures of passengers: what the calls answer. -/
namespace Go.Num
open Go.Proofs

theorem orN_get {ws : List Nat} {u v i : Nat} (hu : u < ws.length) : (orN ws u v).getD i 0 = if u = i then ws.getD u 0 ||| 2 ^ v else ws.getD i 0 := by
  unfold orN
  simp only [List.getD_eq_getElem?_getD, List.getElem?_set]
  by_cases c : u = i
  · subst c; rw [if_pos rfl, if_pos hu, if_pos rfl]; rfl
  · rw [if_neg c, if_neg c]
theorem nb_ext {M m : Nat} (hmM : m ≤ M) (z : Nat → Int) : ∀ k, (∀ i, i < k → 0 ≤ ea z i ∧ ea z i < eb z i ∧ eb z i < m) → ∀ i, i < m → (nbN M z k).getD i 0 = (nbN m z k).getD i 0
  | 0, _, i, hi => by
    rw [nbN, nbN, List.getD_eq_getElem?_getD, List.getD_eq_getElem?_getD, List.getElem?_replicate_of_lt (by omega), List.getElem?_replicate_of_lt hi]
  | k + 1, h, i, hi => by
    have ih := nb_ext hmM z k fun i hi => h i (by omega)
    obtain ⟨h1, h2, h3⟩ := h k (by omega)
    have hx : (ea z k).toNat < m := by omega
    have hy : (eb z k).toNat < m := by omega
    have l1 := nbN_len M z k
    have l2 := nbN_len m z k
    have st : ∀ (ws vs : List Nat) (x y : Nat), x < m → m ≤ ws.length → m ≤ vs.length → (∀ i, i < m → ws.getD i 0 = vs.getD i 0) → ∀ i, i < m → (orN ws x y).getD i 0 = (orN vs x y).getD i 0 := fun ws vs x y hx h1 h2 hh i hi => by
      rw [orN_get (ws := ws) (by omega), orN_get (ws := vs) (by omega), hh x hx, hh i hi]
    rw [nbN, nbN, jnN, jnN]
    exact st _ _ _ _ hy (by rw [orN_len]; omega) (by rw [orN_len]; omega) (st _ _ _ _ hx (by omega) (by omega) ih) i hi
theorem stI_congr {m : Nat} {q q' : Nat → Bool} (h : ∀ s, s < 2 ^ m → q s = q' s) (seats x0 x1 x2 x3 x4 : Int) : stI (2 ^ m - 1) q seats x0 x1 x2 x3 x4 = stI (2 ^ m - 1) q' seats x0 x1 x2 x3 x4 := by
  unfold stI
  have hpos := Nat.two_pow_pos m
  have gi : ∀ x : Int, inA (2 ^ m - 1) x = true → x.toNat < 2 ^ m := fun x h => by
    unfold inA at h
    rw [Bool.and_eq_true, decide_eq_true_eq, decide_eq_true_eq] at h
    omega
  cases c0 : inA (2 ^ m - 1) x0 with
  | false => simp
  | true =>
  cases c1 : inA (2 ^ m - 1) x1 with
  | false => simp
  | true =>
  cases c2 : inA (2 ^ m - 1) x2 with
  | false => simp
  | true =>
  cases c3 : inA (2 ^ m - 1) x3 with
  | false => simp
  | true =>
  cases c4 : inA (2 ^ m - 1) x4 with
  | false => simp
  | true =>
    unfold stN
    rw [h _ (Nat.or_lt_two_pow (Nat.or_lt_two_pow (gi _ c0) (gi _ c1)) (gi _ c2)), h _ (Nat.or_lt_two_pow (gi _ c0) (gi _ c3)), h _ (Nat.or_lt_two_pow (gi _ c1) (gi _ c4))]

end Go.Num
namespace Go.Proofs
open Go Go.Ev Go.Num
set_option linter.unusedVariables false
set_option linter.unusedSimpArgs false
set_option maxRecDepth 100000

theorem fiB (r : Mem) (n seats : Int) (V : Bool) (b off len cap : Nat) (w0 w1 w2 w3 w4 w5 w6 w7 w8 w9 x0 x1 x2 x3 x4 : Int) : (lvlT (SC r) (tcons 24 (entV [I n, RS2 b off len cap] (.tuple ⟨[.agg ⟨[I n, U w0, U w1, U w2, U w3, U w4, U w5, U w6, U w7, U w8, U w9]⟩, I 0]⟩)) (tcons 33 (entV [.agg ⟨[I n, U w0, U w1, U w2, U w3, U w4, U w5, U w6, U w7, U w8, U w9]⟩, I seats, .agg ⟨[I x0, I x1, I x2, I x3, I x4]⟩] (.bool V)) fun _ => none)) .nil 1 3).call 22 [I n, RS2 b off len cap, I seats, .agg ⟨[I x0, I x1, I x2, I x3, I x4]⟩] emptyA fin =
    bif m_same [Value.int IntKind.i64 n, Value.slice (some (Addr.mk b off (some 0))) len cap] [Value.int IntKind.i64 n, Value.slice (some (Addr.mk b off (some 0))) len cap] then bif m_same [Value.agg (Array.mk [Value.int IntKind.i64 n, Value.int IntKind.u64 w0, Value.int IntKind.u64 w1, Value.int IntKind.u64 w2, Value.int IntKind.u64 w3, Value.int IntKind.u64 w4, Value.int IntKind.u64 w5, Value.int IntKind.u64 w6, Value.int IntKind.u64 w7, Value.int IntKind.u64 w8, Value.int IntKind.u64 w9]), Value.int IntKind.i64 seats, Value.agg (Array.mk [Value.int IntKind.i64 x0, Value.int IntKind.i64 x1, Value.int IntKind.i64 x2, Value.int IntKind.i64 x3, Value.int IntKind.i64 x4])] [Value.agg (Array.mk [Value.int IntKind.i64 n, Value.int IntKind.u64 w0, Value.int IntKind.u64 w1, Value.int IntKind.u64 w2, Value.int IntKind.u64 w3, Value.int IntKind.u64 w4, Value.int IntKind.u64 w5, Value.int IntKind.u64 w6, Value.int IntKind.u64 w7, Value.int IntKind.u64 w8, Value.int IntKind.u64 w9]), Value.int IntKind.i64 seats, Value.agg (Array.mk [Value.int IntKind.i64 x0, Value.int IntKind.i64 x1, Value.int IntKind.i64 x2, Value.int IntKind.i64 x3, Value.int IntKind.i64 x4])] then bif V then CR.ret (Value.bool true) (AW.mk 0 Tr.nil Tr.nil) else CR.ret (Value.bool false) (AW.mk 0 Tr.nil Tr.nil) else CR.fail 420 else CR.fail 420 := by kernel_rfl

theorem fiN (r : Mem) (n seats : Int) (V : Bool) (w0 w1 w2 w3 w4 w5 w6 w7 w8 w9 x0 x1 x2 x3 x4 : Int) : (lvlT (SC r) (tcons 24 (entV [I n, .slice none 0 0] (.tuple ⟨[.agg ⟨[I n, U w0, U w1, U w2, U w3, U w4, U w5, U w6, U w7, U w8, U w9]⟩, I 0]⟩)) (tcons 33 (entV [.agg ⟨[I n, U w0, U w1, U w2, U w3, U w4, U w5, U w6, U w7, U w8, U w9]⟩, I seats, .agg ⟨[I x0, I x1, I x2, I x3, I x4]⟩] (.bool V)) fun _ => none)) .nil 1 3).call 22 [I n, .slice none 0 0, I seats, .agg ⟨[I x0, I x1, I x2, I x3, I x4]⟩] emptyA fin =
    bif m_same [Value.int IntKind.i64 n, Value.slice none 0 0] [Value.int IntKind.i64 n, Value.slice none 0 0] then bif m_same [Value.agg (Array.mk [Value.int IntKind.i64 n, Value.int IntKind.u64 w0, Value.int IntKind.u64 w1, Value.int IntKind.u64 w2, Value.int IntKind.u64 w3, Value.int IntKind.u64 w4, Value.int IntKind.u64 w5, Value.int IntKind.u64 w6, Value.int IntKind.u64 w7, Value.int IntKind.u64 w8, Value.int IntKind.u64 w9]), Value.int IntKind.i64 seats, Value.agg (Array.mk [Value.int IntKind.i64 x0, Value.int IntKind.i64 x1, Value.int IntKind.i64 x2, Value.int IntKind.i64 x3, Value.int IntKind.i64 x4])] [Value.agg (Array.mk [Value.int IntKind.i64 n, Value.int IntKind.u64 w0, Value.int IntKind.u64 w1, Value.int IntKind.u64 w2, Value.int IntKind.u64 w3, Value.int IntKind.u64 w4, Value.int IntKind.u64 w5, Value.int IntKind.u64 w6, Value.int IntKind.u64 w7, Value.int IntKind.u64 w8, Value.int IntKind.u64 w9]), Value.int IntKind.i64 seats, Value.agg (Array.mk [Value.int IntKind.i64 x0, Value.int IntKind.i64 x1, Value.int IntKind.i64 x2, Value.int IntKind.i64 x3, Value.int IntKind.i64 x4])] then bif V then CR.ret (Value.bool true) (AW.mk 0 Tr.nil Tr.nil) else CR.ret (Value.bool false) (AW.mk 0 Tr.nil Tr.nil) else CR.fail 420 else CR.fail 420 := by kernel_rfl

theorem fpcN (r : Mem) (n : Int) : (lvlT (SC r) (fun _ => none) .nil 2 3).call 34 [I n, .slice none 0 0] emptyA fin =
    bif decide (n < 1) then CR.ret (Value.int IntKind.i64 (Int.ofNat 1)) (AW.mk 0 Tr.nil Tr.nil) else bif decide (n > 16) then CR.ret (Value.int IntKind.i64 (Int.ofNat 1)) (AW.mk 0 Tr.nil Tr.nil) else CR.ret (Value.int IntKind.i64 (Int.ofNat 0)) (AW.mk 0 Tr.nil Tr.nil) := by kernel_rfl

def stF (m : Nat) (E : List (Nat × Nat)) (seats x0 x1 x2 x3 x4 : Int) : Bool := stI (2 ^ m - 1) (fun s => quN (fun i => (nbN 10 (zE E) E.length).getD i 0) s 10) seats x0 x1 x2 x3 x4

theorem nb10_lt {m : Nat} (hm : m ≤ 10) {E : List (Nat × Nat)} (hE : okAll (m : Int) (zE E) E.length = true) : ∀ w ∈ nbN 10 (zE E) E.length, w < 65536 :=
  nbN_lt 10 (zE E) (n := (m : Int)) (by omega) E.length fun i hi => okAll_at hE i hi

theorem fIs_ok (r : Mem) (hm : ∀ b j u, tabM b j = some u → r b j = some u) (m : Nat) (h1 : 1 ≤ m) (hm10 : m ≤ 10) (E : List (Nat × Nat)) (hE : okAll (m : Int) (zE E) E.length = true) (hl : E.length ≤ 1000000) (b off cap : Nat) (hz : rowAt r b off (2 * E.length) (zE E)) (seats x0 x1 x2 x3 x4 : Int) (r0 : rng x0) (r1 : rng x1) (r2 : rng x2) (r3 : rng x3) (r4 : rng x4) :
    GrT Tryd.prog r 22 [I (m : Nat), RS2 b off E.length cap, I seats, .agg ⟨[I x0, I x1, I x2, I x3, I x4]⟩] (.bool (stF m E seats x0 x1 x2 x3 x4)) := by
  have hck : ckG (m : Int) (zE E) E.length = 0 := by unfold ckG; rw [if_neg (by omega), if_pos hE]
  have hr := fread_ok r hm (m : Nat) (by omega) b off E.length cap (zE E) hz hl hck
  have hs := isstr_ok r hm m hm10 (nbN 10 (zE E) E.length) (nbN_len 10 _ _) (nb10_lt hm10 hE) seats x0 x1 x2 x3 x4 r0 r1 r2 r3 r4
  unfold stF
  generalize stI (2 ^ m - 1) _ seats x0 x1 x2 x3 x4 = V at hs ⊢
  obtain ⟨a0, a1, a2, a3, a4, a5, a6, a7, a8, a9, _, hp⟩ := pgC10 (m : Nat) (nbN_len 10 (zE E) E.length)
  rw [hp] at hr hs
  refine GrT.of (SC_ok r) (TOk.cons (TOk.cons TOk.nil (entV_ok hs rfl)) (entV_ok hr rfl)) .nil rfl ⟨1, 3, (fiB r (m : Nat) seats V b off E.length cap a0 a1 a2 a3 a4 a5 a6 a7 a8 a9 x0 x1 x2 x3 x4).trans ?_⟩
  rw [show m_same _ _ = true from same_rfl _, show m_same _ _ = true from same_rfl _]
  cases V <;> rfl

theorem freadN_ok (r : Mem) (m : Nat) (h1 : 1 ≤ m) (hm10 : m ≤ 10) (z : Nat → Int) :
    GrT Tryd.prog r 24 [I (m : Nat), .slice none 0 0] (.tuple ⟨[.agg ⟨pgC (m : Nat) (nbN 10 z 0)⟩, I 0]⟩) := by
  have hck : GrT Tryd.prog r 34 [I (m : Nat), .slice none 0 0] (I 0) := by
    refine GrT.of (SC_ok r) TOk.nil .nil rfl ⟨2, 3, (fpcN r (m : Nat)).trans ?_⟩
    rw [dF (show ¬ ((m : Nat) : Int) < 1 by omega), cond_false, dF (show ¬ ((m : Nat) : Int) > 16 by omega), cond_false]
    rfl
  refine GrT.ofS (C := SC r) rfl rfl (by show (gnds (pgC (m : Nat) (nbN 10 z 0)) && true) = true; rw [pgC_gnd]; rfl) (callL (SC_ok r) (by kernel_rfl) ((bodySC r _).trans Fr_eq) (nt := 54) (by kernel_rfl) (rs := [.cell 4 54, .tmp 5]) (by kernel_rfl) 117444339 rfl (.step (.step (.step (.step .base)))) (show TOk (SC r) (tFc [I (m : Nat), .slice none 0 0] 0) from TOk.cons TOk.nil (entV_ok hck rfl)) (tm := .nil) (L := 1) (d := 1) lvFr [.g, .g]
    (fun j vs ms os => vs = [some (P0 0), some (P0 1), some (.slice none 0 0), some (I 0), some (I 0)] ∧ ms = [] ∧ os = frO (m : Nat) z 0)
    ⟨[4, 7], [], fun vs ms os => vs = [some (P0 0), some (P0 1)] ∧ ms = [] ∧ os = frO (m : Nat) z 0⟩
    ⟨[4, 5], [], fun vs ms os => vs = [some (P0 0), some (I 0)] ∧ ms = [] ∧ os = [some (.cells (pgC (m : Nat) (nbN 10 z 0)) 54 0 0)]⟩ ?_ ?_ ?_ ?_)
  · have hn := frZ r (m : Nat)
    rw [show m_same _ _ = true from same_rfl _] at hn
    simp only [cond_true, dF (show ¬ ((m : Nat) : Int) > 10 by omega), cond_false] at hn
    exact (hn _ _ _).trans (qq_ok ⟨0, rfl, rfl, rfl⟩)
  · rintro j vs ms os ⟨rfl, rfl, rfl⟩
    refine ⟨tFr, tFr_ok r, .nil, 1, 1, 1, ?_⟩
    have hn := frN r resF (pgC (m : Nat) (nbN 10 z 0))
    simp only [pgC_nn, show m_nns resF = true from rfl, Bool.and_true, cond_true] at hn
    exact (hn _ _ _).trans (qq_ok ⟨rfl, rfl, rfl⟩)
  · rintro vs ms os ⟨rfl, rfl, rfl⟩
    exact ⟨_, TOk.nil, .nil, 1, 1, 1, (frC r (m : Nat) 0 0 0 0 0 0 0 0 0 0 _ _ _ _).trans (qq_ok ⟨rfl, rfl, rfl⟩)⟩
  · rintro vs ms os ⟨rfl, rfl, rfl⟩
    exact ⟨.tuple ⟨[.agg ⟨pgC (m : Nat) (nbN 10 z 0)⟩, I 0]⟩, mkA [some (.cells (pgC (m : Nat) (nbN 10 z 0)) 54 0 0)], by kernel_rfl, rfl⟩

theorem fIsN_ok (r : Mem) (hm : ∀ b j u, tabM b j = some u → r b j = some u) (m : Nat) (h1 : 1 ≤ m) (hm10 : m ≤ 10) (seats x0 x1 x2 x3 x4 : Int) (r0 : rng x0) (r1 : rng x1) (r2 : rng x2) (r3 : rng x3) (r4 : rng x4) :
    GrT Tryd.prog r 22 [I (m : Nat), .slice none 0 0, I seats, .agg ⟨[I x0, I x1, I x2, I x3, I x4]⟩] (.bool (stF m [] seats x0 x1 x2 x3 x4)) := by
  have hr := freadN_ok r m h1 hm10 (zE [])
  have hs := isstr_ok r hm m hm10 (nbN 10 (zE []) 0) (nbN_len 10 _ _) (fun w hw => by rw [nbN] at hw; rw [List.eq_of_mem_replicate hw]; decide) seats x0 x1 x2 x3 x4 r0 r1 r2 r3 r4
  show GrT _ _ _ _ (.bool (stI (2 ^ m - 1) (fun s => quN (fun i => (nbN 10 (zE []) 0).getD i 0) s 10) seats x0 x1 x2 x3 x4))
  generalize stI (2 ^ m - 1) _ seats x0 x1 x2 x3 x4 = V at hs ⊢
  obtain ⟨a0, a1, a2, a3, a4, a5, a6, a7, a8, a9, _, hp⟩ := pgC10 (m : Nat) (nbN_len 10 (zE []) 0)
  rw [hp] at hr hs
  refine GrT.of (SC_ok r) (TOk.cons (TOk.cons TOk.nil (entV_ok hs rfl)) (entV_ok hr rfl)) .nil rfl ⟨1, 3, (fiN r (m : Nat) seats V a0 a1 a2 a3 a4 a5 a6 a7 a8 a9 x0 x1 x2 x3 x4).trans ?_⟩
  rw [show m_same _ _ = true from same_rfl _, show m_same _ _ = true from same_rfl _]
  cases V <;> rfl

end Go.Proofs

/- Covers, run. -/
namespace Go.Proofs
open Go Go.Ev Go.Num
set_option linter.unusedVariables false
set_option linter.unusedSimpArgs false
set_option maxRecDepth 100000

noncomputable def tQz (n : Int) (sl : Value) (l : List Value) (q : Int → Bool) : Tbl := tcons 24 (entV [I n, sl] (.tuple ⟨[.agg ⟨I n :: l⟩, I 0]⟩)) (tcons 26 (ePW (I n :: l) fun s => .bool (q s)) (tcons 25 (entV [.agg ⟨I n :: l⟩] (U (m_all n))) fun _ => none))

noncomputable def cCo : Code := bodyOf S0 27
noncomputable def Co_0 : Code := (lc cCo)
noncomputable def Co_1 : Code := (lc (rc cCo))
noncomputable def Co_2 : Code := (lc (lc (rc (rc cCo))))
noncomputable def Co_3 : Code := (ic (rc (lc (rc (rc cCo)))))
noncomputable def Co_4 : Code := (rc (rc (rc cCo)))
theorem Co_eq : cCo = (.seq Co_0 (.seq Co_1 (.seq (.seq Co_2 (.block 0 (.rangeFunc (.tmp 9) #[10] (rgA Co_3) (rgB Co_3)))) Co_4))) := by kernel_rfl
noncomputable def cGr : Code := bodyOf S0 49
noncomputable def Gr_0 : Code := (lc cGr)
noncomputable def Gr_1 : Code := (ic (ic (rc cGr)))
theorem Gr_eq : cGr = (.seq Gr_0 (.block 0 (.loop Gr_1))) := by kernel_rfl
def lvCo : List Nat := [1, 3, 9]
abbrev fGr : Value := .func (.func 49) ⟨[]⟩ ⟨[P0 2]⟩
def enCo : En := ⟨[], bT lvCo [some (P0 0), some (P0 1), some fGr] .nil⟩
noncomputable def loopCo (st : LoopState) : AObj := .loop st none 1567 enCo 26 #[10] (rgA Co_3) (rgB Co_3) 3
noncomputable def osC5 (c : List Value) (s f : Int) : OO := [some (.cells c 54 0 0), some (.cells [U f] 51 1 0), some (.cells [U s] 51 2 0), some .defd, some (loopCo .ready)]
noncomputable def C5 (c : List Value) (s f : Int) : AW := ((mkA (osFo c s f)).new .defd).new (loopCo .ready)
noncomputable def K5 (c : List Value) (s f : Int) : AW := { mkA (osC5 c s f) with heap := (mkA (osC5 c s f)).heap.put 4 (some (loopCo .exhausted)) }
def lvGr : List Nat := [0, 1, 3]
def flGr : List Fl := [.g, .g, .g, .g, .l lvCo]
noncomputable def cRc : Code := bodyOf S0 13
noncomputable def Rc_0 : Code := (lc cRc)
noncomputable def Rc_1 : Code := (lc (rc cRc))
noncomputable def Rc_2 : Code := (lc (lc (rc (rc cRc))))
noncomputable def Rc_3 : Code := (ic (ic (rc (lc (rc (rc cRc))))))
noncomputable def Rc_4 : Code := (rc (rc (rc cRc)))
theorem Rc_eq : cRc = (.seq Rc_0 (.seq Rc_1 (.seq (.seq Rc_2 (.block 0 (.loop Rc_3))) Rc_4))) := by kernel_rfl
def lvRc : List Nat := [0, 3, 4]

theorem qzR (r : Mem) (n set : Int) (q : Int → Bool) (b off len cap : Nat) (w0 w1 w2 w3 w4 w5 w6 w7 w8 w9 : Int) : (lvlT (SC r) (tQz n (RS2 b off len cap) [U w0, U w1, U w2, U w3, U w4, U w5, U w6, U w7, U w8, U w9] q) .nil 1 3).call 9 [I n, RS2 b off len cap, I set] emptyA fin =
    bif m_same [Value.int IntKind.i64 n, Value.slice (some (Addr.mk b off (some 0))) len cap] [Value.int IntKind.i64 n, Value.slice (some (Addr.mk b off (some 0))) len cap] then bif decide (set < 0) then CR.ret (Value.tuple (Array.mk [Value.bool false, Value.int IntKind.i64 (Int.ofNat 1)])) (AW.mk 0 Tr.nil Tr.nil) else bif m_same [Value.agg (Array.mk [Value.int IntKind.i64 n, Value.int IntKind.u64 w0, Value.int IntKind.u64 w1, Value.int IntKind.u64 w2, Value.int IntKind.u64 w3, Value.int IntKind.u64 w4, Value.int IntKind.u64 w5, Value.int IntKind.u64 w6, Value.int IntKind.u64 w7, Value.int IntKind.u64 w8, Value.int IntKind.u64 w9])] [Value.agg (Array.mk [Value.int IntKind.i64 n, Value.int IntKind.u64 w0, Value.int IntKind.u64 w1, Value.int IntKind.u64 w2, Value.int IntKind.u64 w3, Value.int IntKind.u64 w4, Value.int IntKind.u64 w5, Value.int IntKind.u64 w6, Value.int IntKind.u64 w7, Value.int IntKind.u64 w8, Value.int IntKind.u64 w9])] then bif decide (set > IntKind.wrap IntKind.i64 (m_all n)) then CR.ret (Value.tuple (Array.mk [Value.bool false, Value.int IntKind.i64 (Int.ofNat 1)])) (AW.mk 0 Tr.nil Tr.nil) else bif m_same [Value.int IntKind.i64 n, Value.int IntKind.u64 w0, Value.int IntKind.u64 w1, Value.int IntKind.u64 w2, Value.int IntKind.u64 w3, Value.int IntKind.u64 w4, Value.int IntKind.u64 w5, Value.int IntKind.u64 w6, Value.int IntKind.u64 w7, Value.int IntKind.u64 w8, Value.int IntKind.u64 w9] [Value.int IntKind.i64 n, Value.int IntKind.u64 w0, Value.int IntKind.u64 w1, Value.int IntKind.u64 w2, Value.int IntKind.u64 w3, Value.int IntKind.u64 w4, Value.int IntKind.u64 w5, Value.int IntKind.u64 w6, Value.int IntKind.u64 w7, Value.int IntKind.u64 w8, Value.int IntKind.u64 w9] && m_w10 (IntKind.wrap IntKind.u64 set) then bif q (IntKind.wrap IntKind.u64 set) then CR.ret (Value.tuple (Array.mk [Value.bool true, Value.int IntKind.i64 (Int.ofNat 0)])) (AW.mk 0 Tr.nil Tr.nil) else CR.ret (Value.tuple (Array.mk [Value.bool false, Value.int IntKind.i64 (Int.ofNat 0)])) (AW.mk 0 Tr.nil Tr.nil) else CR.fail 420 else CR.fail 420 else CR.fail 420 := by kernel_rfl

theorem qzN (r : Mem) (n set : Int) (q : Int → Bool) (w0 w1 w2 w3 w4 w5 w6 w7 w8 w9 : Int) : (lvlT (SC r) (tQz n (.slice none 0 0) [U w0, U w1, U w2, U w3, U w4, U w5, U w6, U w7, U w8, U w9] q) .nil 1 3).call 9 [I n, .slice none 0 0, I set] emptyA fin =
    bif m_same [Value.int IntKind.i64 n, Value.slice none 0 0] [Value.int IntKind.i64 n, Value.slice none 0 0] then bif decide (set < 0) then CR.ret (Value.tuple (Array.mk [Value.bool false, Value.int IntKind.i64 (Int.ofNat 1)])) (AW.mk 0 Tr.nil Tr.nil) else bif m_same [Value.agg (Array.mk [Value.int IntKind.i64 n, Value.int IntKind.u64 w0, Value.int IntKind.u64 w1, Value.int IntKind.u64 w2, Value.int IntKind.u64 w3, Value.int IntKind.u64 w4, Value.int IntKind.u64 w5, Value.int IntKind.u64 w6, Value.int IntKind.u64 w7, Value.int IntKind.u64 w8, Value.int IntKind.u64 w9])] [Value.agg (Array.mk [Value.int IntKind.i64 n, Value.int IntKind.u64 w0, Value.int IntKind.u64 w1, Value.int IntKind.u64 w2, Value.int IntKind.u64 w3, Value.int IntKind.u64 w4, Value.int IntKind.u64 w5, Value.int IntKind.u64 w6, Value.int IntKind.u64 w7, Value.int IntKind.u64 w8, Value.int IntKind.u64 w9])] then bif decide (set > IntKind.wrap IntKind.i64 (m_all n)) then CR.ret (Value.tuple (Array.mk [Value.bool false, Value.int IntKind.i64 (Int.ofNat 1)])) (AW.mk 0 Tr.nil Tr.nil) else bif m_same [Value.int IntKind.i64 n, Value.int IntKind.u64 w0, Value.int IntKind.u64 w1, Value.int IntKind.u64 w2, Value.int IntKind.u64 w3, Value.int IntKind.u64 w4, Value.int IntKind.u64 w5, Value.int IntKind.u64 w6, Value.int IntKind.u64 w7, Value.int IntKind.u64 w8, Value.int IntKind.u64 w9] [Value.int IntKind.i64 n, Value.int IntKind.u64 w0, Value.int IntKind.u64 w1, Value.int IntKind.u64 w2, Value.int IntKind.u64 w3, Value.int IntKind.u64 w4, Value.int IntKind.u64 w5, Value.int IntKind.u64 w6, Value.int IntKind.u64 w7, Value.int IntKind.u64 w8, Value.int IntKind.u64 w9] && m_w10 (IntKind.wrap IntKind.u64 set) then bif q (IntKind.wrap IntKind.u64 set) then CR.ret (Value.tuple (Array.mk [Value.bool true, Value.int IntKind.i64 (Int.ofNat 0)])) (AW.mk 0 Tr.nil Tr.nil) else CR.ret (Value.tuple (Array.mk [Value.bool false, Value.int IntKind.i64 (Int.ofNat 0)])) (AW.mk 0 Tr.nil Tr.nil) else CR.fail 420 else CR.fail 420 else CR.fail 420 := by kernel_rfl

theorem coA (r : Mem) (n w0 w1 w2 w3 w4 w5 w6 w7 w8 w9 : Int) (q : Int → Bool) (K : OV → List Nat → OO → CR) (kx : Nat → KS) (kr : KS) : run (SC r) 1567 26 1 (.seq Co_0 (.seq Co_1 Co_2)) (lvlT (SC r) (tIs n [U w0, U w1, U w2, U w3, U w4, U w5, U w6, U w7, U w8, U w9] q) .nil 1 3) none (rbK 0 lvCo [.g, .g, .g] K) kx kr (sc0 1567 [.agg ⟨[I n, U w0, U w1, U w2, U w3, U w4, U w5, U w6, U w7, U w8, U w9]⟩]) (tr0 1567 [.agg ⟨[I n, U w0, U w1, U w2, U w3, U w4, U w5, U w6, U w7, U w8, U w9]⟩]) [] emptyA =
    bif m_same [Value.agg (Array.mk [Value.int IntKind.i64 n, Value.int IntKind.u64 w0, Value.int IntKind.u64 w1, Value.int IntKind.u64 w2, Value.int IntKind.u64 w3, Value.int IntKind.u64 w4, Value.int IntKind.u64 w5, Value.int IntKind.u64 w6, Value.int IntKind.u64 w7, Value.int IntKind.u64 w8, Value.int IntKind.u64 w9])] [Value.agg (Array.mk [Value.int IntKind.i64 n, Value.int IntKind.u64 w0, Value.int IntKind.u64 w1, Value.int IntKind.u64 w2, Value.int IntKind.u64 w3, Value.int IntKind.u64 w4, Value.int IntKind.u64 w5, Value.int IntKind.u64 w6, Value.int IntKind.u64 w7, Value.int IntKind.u64 w8, Value.int IntKind.u64 w9])] then bif m_same [Value.agg (Array.mk [Value.int IntKind.i64 n, Value.int IntKind.u64 w0, Value.int IntKind.u64 w1, Value.int IntKind.u64 w2, Value.int IntKind.u64 w3, Value.int IntKind.u64 w4, Value.int IntKind.u64 w5, Value.int IntKind.u64 w6, Value.int IntKind.u64 w7, Value.int IntKind.u64 w8, Value.int IntKind.u64 w9])] [Value.agg (Array.mk [Value.int IntKind.i64 n, Value.int IntKind.u64 w0, Value.int IntKind.u64 w1, Value.int IntKind.u64 w2, Value.int IntKind.u64 w3, Value.int IntKind.u64 w4, Value.int IntKind.u64 w5, Value.int IntKind.u64 w6, Value.int IntKind.u64 w7, Value.int IntKind.u64 w8, Value.int IntKind.u64 w9])] then K [some (Value.pointer (some (Addr.mk 0 0 none))), some (Value.pointer (some (Addr.mk 1 0 none))), some (Value.func (Fn.func 49) (Array.mk []) (Array.mk [Value.pointer (some (Addr.mk 2 0 none))]))] [] [some (AObj.cells [Value.int IntKind.i64 n, Value.int IntKind.u64 w0, Value.int IntKind.u64 w1, Value.int IntKind.u64 w2, Value.int IntKind.u64 w3, Value.int IntKind.u64 w4, Value.int IntKind.u64 w5, Value.int IntKind.u64 w6, Value.int IntKind.u64 w7, Value.int IntKind.u64 w8, Value.int IntKind.u64 w9] 54 0 0), some (AObj.cells [Value.int IntKind.u64 (m_all n)] 51 1 0), some (AObj.cells [Value.int IntKind.u64 (m_all n)] 51 2 0)] else CR.fail 420 else CR.fail 420 := by kernel_rfl

theorem grA (r : Mem) (s f : Int) (c : List Value) (fs : FnsC) (K : OV → List Nat → OO → CR) (kx : Nat → KS) (kr : KS) : run (SC r) 11 17 1 Gr_0 fs none (rbK 5 lvGr flGr K) kx kr (sc0 11 [fYe, P0 2]) (tr0 11 [fYe, P0 2]) [] (C5 c s f) =
    bif m_nns c && (m_nns [Value.int IntKind.u64 f] && (m_nns [Value.int IntKind.u64 s] && true)) then K [some (Value.func (Fn.yield 4) (Array.mk []) (Array.mk [])), some (Value.pointer (some (Addr.mk 2 0 none))), some (Value.int IntKind.u64 (Int.ofNat 0))] [] [some (AObj.cells c 54 0 0), some (AObj.cells [Value.int IntKind.u64 f] 51 1 0), some (AObj.cells [Value.int IntKind.u64 s] 51 2 0), some AObj.defd, some (AObj.loop LoopState.ready none 1567 (En.mk [] (Tr.node (Tr.node (Tr.node Tr.nil (some (Value.pointer (some (Addr.mk 1 0 none)))) Tr.nil) (some (Value.pointer (some (Addr.mk 0 0 none)))) (Tr.node (Tr.node Tr.nil (some (Value.func (Fn.func 49) (Array.mk []) (Array.mk [Value.pointer (some (Addr.mk 2 0 none))]))) Tr.nil) none Tr.nil)) none Tr.nil)) 26 (Array.mk [10]) (Code.region 3 #[Oper.mk (some 4) (Op.assign (Operand.tmp 10)) 51 "passengers.go:97" #[] none] false) (Code.block 1 (Code.seq (Code.region 4 #[Oper.mk (some 11) (Op.move (Operand.tmp 4)) 51 "passengers.go:98" #[] none, Oper.mk (some 12) (Op.call (Call.mk (Callee.value (Operand.func 38)) #[Operand.tmp 11] #[51])) 3 "passengers.go:98" #[Edge.mk 0 Ground.data] none, Oper.mk (some 13) (Op.load 51 (Operand.tmp 3)) 51 "passengers.go:98" #[] none, Oper.mk (some 14) (Op.call (Call.mk (Callee.value (Operand.func 38)) #[Operand.tmp 13] #[51])) 3 "passengers.go:98" #[Edge.mk 2 Ground.data, Edge.mk 1 Ground.chain] none, Oper.mk (some 15) (Op.binOp BinOp.lss 3 (Operand.tmp 12) (Operand.tmp 14) 3) 4 "passengers.go:98" #[Edge.mk 1 Ground.data, Edge.mk 3 Ground.data] none, Oper.mk (some 16) (Op.move (Operand.tmp 15)) 4 "passengers.go:98" #[Edge.mk 4 Ground.data, Edge.mk 3 Ground.chain] none, Oper.mk (some 17) (Op.load 54 (Operand.tmp 1)) 54 "passengers.go:98" #[Edge.mk 5 Ground.guard] (some (5, true)), Oper.mk (some 18) (Op.load 54 (Operand.tmp 1)) 54 "passengers.go:98" #[Edge.mk 5 Ground.guard] (some (5, true)), Oper.mk (some 19) (Op.call (Call.mk (Callee.value (Operand.func 25)) #[Operand.tmp 18] #[54])) 51 "passengers.go:98" #[Edge.mk 7 Ground.data, Edge.mk 5 Ground.chain, Edge.mk 5 Ground.guard] (some (5, true)), Oper.mk (some 20) (Op.move (Operand.tmp 4)) 51 "passengers.go:98" #[Edge.mk 5 Ground.guard] (some (5, true)), Oper.mk (some 21) (Op.binOp BinOp.andNot 51 (Operand.tmp 19) (Operand.tmp 20) 51) 51 "passengers.go:98" #[Edge.mk 8 Ground.data, Edge.mk 9 Ground.data, Edge.mk 5 Ground.guard] (some (5, true)), Oper.mk (some 22) (Op.call (Call.mk (Callee.value (Operand.func 26)) #[Operand.tmp 17, Operand.tmp 21] #[54, 51])) 4 "passengers.go:98" #[Edge.mk 6 Ground.data, Edge.mk 10 Ground.data, Edge.mk 8 Ground.chain, Edge.mk 5 Ground.guard] (some (5, true)), Oper.mk (some 23) (Op.pick (Operand.tmp 16) (Operand.tmp 22) (Operand.const (Value.bool false))) 4 "passengers.go:98" #[Edge.mk 5 Ground.data, Edge.mk 11 Ground.data] none] true) (Code.cond (Operand.tmp 23) (Code.region 5 #[Oper.mk (some 24) (Op.move (Operand.tmp 4)) 51 "passengers.go:99" #[] none, Oper.mk none (Op.store 51 (Operand.tmp 3) (Operand.tmp 24)) 0 "passengers.go:99" #[Edge.mk 0 Ground.data, Edge.mk 0 Ground.phase] none] false) Code.skip))) 3)] else CR.fail 420 := by kernel_rfl

theorem grB (r : Mem) (n w0 w1 w2 w3 w4 w5 w6 w7 w8 w9 : Int) (q : Int → Bool) (s f t : Int) (K : OV → List Nat → OO → CR) (KX : Nat → OV → List Nat → OO → CR) (KR : OV → List Nat → OO → CR) : run (SC r) 11 17 1 Gr_1 (lvlT (SC r) (tIs n [U w0, U w1, U w2, U w3, U w4, U w5, U w6, U w7, U w8, U w9] q) .nil 1 2) none (rbK 5 lvGr flGr K) (fun i => rbK 5 [] flGr (KX i)) (rbK 5 [] flGr KR) [] (bT lvGr [some fYe, some (P0 2), some (U t)] .nil) [] (mkA (osC5 [I n, U w0, U w1, U w2, U w3, U w4, U w5, U w6, U w7, U w8, U w9] s f)) =
    bif m_popG t then bif m_popG f then bif decide (m_pop t < m_pop f) then bif m_same [Value.agg (Array.mk [Value.int IntKind.i64 n, Value.int IntKind.u64 w0, Value.int IntKind.u64 w1, Value.int IntKind.u64 w2, Value.int IntKind.u64 w3, Value.int IntKind.u64 w4, Value.int IntKind.u64 w5, Value.int IntKind.u64 w6, Value.int IntKind.u64 w7, Value.int IntKind.u64 w8, Value.int IntKind.u64 w9])] [Value.agg (Array.mk [Value.int IntKind.i64 n, Value.int IntKind.u64 w0, Value.int IntKind.u64 w1, Value.int IntKind.u64 w2, Value.int IntKind.u64 w3, Value.int IntKind.u64 w4, Value.int IntKind.u64 w5, Value.int IntKind.u64 w6, Value.int IntKind.u64 w7, Value.int IntKind.u64 w8, Value.int IntKind.u64 w9])] then bif m_same [Value.int IntKind.i64 n, Value.int IntKind.u64 w0, Value.int IntKind.u64 w1, Value.int IntKind.u64 w2, Value.int IntKind.u64 w3, Value.int IntKind.u64 w4, Value.int IntKind.u64 w5, Value.int IntKind.u64 w6, Value.int IntKind.u64 w7, Value.int IntKind.u64 w8, Value.int IntKind.u64 w9] [Value.int IntKind.i64 n, Value.int IntKind.u64 w0, Value.int IntKind.u64 w1, Value.int IntKind.u64 w2, Value.int IntKind.u64 w3, Value.int IntKind.u64 w4, Value.int IntKind.u64 w5, Value.int IntKind.u64 w6, Value.int IntKind.u64 w7, Value.int IntKind.u64 w8, Value.int IntKind.u64 w9] && m_w10 (ibits BinOp.andNot IntKind.u64 (m_all n) t) then bif q (ibits BinOp.andNot IntKind.u64 (m_all n) t) then bif m_eqv (Value.agg (Array.mk [Value.int IntKind.i64 n, Value.int IntKind.u64 w0, Value.int IntKind.u64 w1, Value.int IntKind.u64 w2, Value.int IntKind.u64 w3, Value.int IntKind.u64 w4, Value.int IntKind.u64 w5, Value.int IntKind.u64 w6, Value.int IntKind.u64 w7, Value.int IntKind.u64 w8, Value.int IntKind.u64 w9])) (Value.agg (Array.mk [Value.int IntKind.i64 n, Value.int IntKind.u64 w0, Value.int IntKind.u64 w1, Value.int IntKind.u64 w2, Value.int IntKind.u64 w3, Value.int IntKind.u64 w4, Value.int IntKind.u64 w5, Value.int IntKind.u64 w6, Value.int IntKind.u64 w7, Value.int IntKind.u64 w8, Value.int IntKind.u64 w9])) then bif m_eqv (Value.agg (Array.mk [Value.int IntKind.i64 n, Value.int IntKind.u64 w0, Value.int IntKind.u64 w1, Value.int IntKind.u64 w2, Value.int IntKind.u64 w3, Value.int IntKind.u64 w4, Value.int IntKind.u64 w5, Value.int IntKind.u64 w6, Value.int IntKind.u64 w7, Value.int IntKind.u64 w8, Value.int IntKind.u64 w9])) (Value.agg (Array.mk [Value.int IntKind.i64 n, Value.int IntKind.u64 w0, Value.int IntKind.u64 w1, Value.int IntKind.u64 w2, Value.int IntKind.u64 w3, Value.int IntKind.u64 w4, Value.int IntKind.u64 w5, Value.int IntKind.u64 w6, Value.int IntKind.u64 w7, Value.int IntKind.u64 w8, Value.int IntKind.u64 w9])) then bif m_eqv (Value.agg (Array.mk [Value.int IntKind.i64 n, Value.int IntKind.u64 w0, Value.int IntKind.u64 w1, Value.int IntKind.u64 w2, Value.int IntKind.u64 w3, Value.int IntKind.u64 w4, Value.int IntKind.u64 w5, Value.int IntKind.u64 w6, Value.int IntKind.u64 w7, Value.int IntKind.u64 w8, Value.int IntKind.u64 w9])) (Value.agg (Array.mk [Value.int IntKind.i64 n, Value.int IntKind.u64 w0, Value.int IntKind.u64 w1, Value.int IntKind.u64 w2, Value.int IntKind.u64 w3, Value.int IntKind.u64 w4, Value.int IntKind.u64 w5, Value.int IntKind.u64 w6, Value.int IntKind.u64 w7, Value.int IntKind.u64 w8, Value.int IntKind.u64 w9])) then bif m_eqv (Value.int IntKind.u64 f) (Value.int IntKind.u64 f) then bif m_eqv (Value.int IntKind.u64 f) (Value.int IntKind.u64 f) then bif t != s then K [some (Value.func (Fn.yield 4) (Array.mk []) (Array.mk [])), some (Value.pointer (some (Addr.mk 2 0 none))), some (Value.int IntKind.u64 (ibits BinOp.and IntKind.u64 (IntKind.wrap IntKind.u64 (t - s)) s))] [] [some (AObj.cells [Value.int IntKind.i64 n, Value.int IntKind.u64 w0, Value.int IntKind.u64 w1, Value.int IntKind.u64 w2, Value.int IntKind.u64 w3, Value.int IntKind.u64 w4, Value.int IntKind.u64 w5, Value.int IntKind.u64 w6, Value.int IntKind.u64 w7, Value.int IntKind.u64 w8, Value.int IntKind.u64 w9] 54 0 0), some (AObj.cells [Value.int IntKind.u64 t] 51 1 0), some (AObj.cells [Value.int IntKind.u64 s] 51 2 0), some AObj.defd, some (AObj.loop LoopState.ready none 1567 (En.mk [] (Tr.node (Tr.node (Tr.node Tr.nil (some (Value.pointer (some (Addr.mk 1 0 none)))) Tr.nil) (some (Value.pointer (some (Addr.mk 0 0 none)))) (Tr.node (Tr.node Tr.nil (some (Value.func (Fn.func 49) (Array.mk []) (Array.mk [Value.pointer (some (Addr.mk 2 0 none))]))) Tr.nil) none Tr.nil)) none Tr.nil)) 26 (Array.mk [10]) (Code.region 3 #[Oper.mk (some 4) (Op.assign (Operand.tmp 10)) 51 "passengers.go:97" #[] none] false) (Code.block 1 (Code.seq (Code.region 4 #[Oper.mk (some 11) (Op.move (Operand.tmp 4)) 51 "passengers.go:98" #[] none, Oper.mk (some 12) (Op.call (Call.mk (Callee.value (Operand.func 38)) #[Operand.tmp 11] #[51])) 3 "passengers.go:98" #[Edge.mk 0 Ground.data] none, Oper.mk (some 13) (Op.load 51 (Operand.tmp 3)) 51 "passengers.go:98" #[] none, Oper.mk (some 14) (Op.call (Call.mk (Callee.value (Operand.func 38)) #[Operand.tmp 13] #[51])) 3 "passengers.go:98" #[Edge.mk 2 Ground.data, Edge.mk 1 Ground.chain] none, Oper.mk (some 15) (Op.binOp BinOp.lss 3 (Operand.tmp 12) (Operand.tmp 14) 3) 4 "passengers.go:98" #[Edge.mk 1 Ground.data, Edge.mk 3 Ground.data] none, Oper.mk (some 16) (Op.move (Operand.tmp 15)) 4 "passengers.go:98" #[Edge.mk 4 Ground.data, Edge.mk 3 Ground.chain] none, Oper.mk (some 17) (Op.load 54 (Operand.tmp 1)) 54 "passengers.go:98" #[Edge.mk 5 Ground.guard] (some (5, true)), Oper.mk (some 18) (Op.load 54 (Operand.tmp 1)) 54 "passengers.go:98" #[Edge.mk 5 Ground.guard] (some (5, true)), Oper.mk (some 19) (Op.call (Call.mk (Callee.value (Operand.func 25)) #[Operand.tmp 18] #[54])) 51 "passengers.go:98" #[Edge.mk 7 Ground.data, Edge.mk 5 Ground.chain, Edge.mk 5 Ground.guard] (some (5, true)), Oper.mk (some 20) (Op.move (Operand.tmp 4)) 51 "passengers.go:98" #[Edge.mk 5 Ground.guard] (some (5, true)), Oper.mk (some 21) (Op.binOp BinOp.andNot 51 (Operand.tmp 19) (Operand.tmp 20) 51) 51 "passengers.go:98" #[Edge.mk 8 Ground.data, Edge.mk 9 Ground.data, Edge.mk 5 Ground.guard] (some (5, true)), Oper.mk (some 22) (Op.call (Call.mk (Callee.value (Operand.func 26)) #[Operand.tmp 17, Operand.tmp 21] #[54, 51])) 4 "passengers.go:98" #[Edge.mk 6 Ground.data, Edge.mk 10 Ground.data, Edge.mk 8 Ground.chain, Edge.mk 5 Ground.guard] (some (5, true)), Oper.mk (some 23) (Op.pick (Operand.tmp 16) (Operand.tmp 22) (Operand.const (Value.bool false))) 4 "passengers.go:98" #[Edge.mk 5 Ground.data, Edge.mk 11 Ground.data] none] true) (Code.cond (Operand.tmp 23) (Code.region 5 #[Oper.mk (some 24) (Op.move (Operand.tmp 4)) 51 "passengers.go:99" #[] none, Oper.mk none (Op.store 51 (Operand.tmp 3) (Operand.tmp 24)) 0 "passengers.go:99" #[Edge.mk 0 Ground.data, Edge.mk 0 Ground.phase] none] false) Code.skip))) 3)] else KX 0 [] [] [some (AObj.cells [Value.int IntKind.i64 n, Value.int IntKind.u64 w0, Value.int IntKind.u64 w1, Value.int IntKind.u64 w2, Value.int IntKind.u64 w3, Value.int IntKind.u64 w4, Value.int IntKind.u64 w5, Value.int IntKind.u64 w6, Value.int IntKind.u64 w7, Value.int IntKind.u64 w8, Value.int IntKind.u64 w9] 54 0 0), some (AObj.cells [Value.int IntKind.u64 t] 51 1 0), some (AObj.cells [Value.int IntKind.u64 s] 51 2 0), some AObj.defd, some (AObj.loop LoopState.ready none 1567 (En.mk [] (Tr.node (Tr.node (Tr.node Tr.nil (some (Value.pointer (some (Addr.mk 1 0 none)))) Tr.nil) (some (Value.pointer (some (Addr.mk 0 0 none)))) (Tr.node (Tr.node Tr.nil (some (Value.func (Fn.func 49) (Array.mk []) (Array.mk [Value.pointer (some (Addr.mk 2 0 none))]))) Tr.nil) none Tr.nil)) none Tr.nil)) 26 (Array.mk [10]) (Code.region 3 #[Oper.mk (some 4) (Op.assign (Operand.tmp 10)) 51 "passengers.go:97" #[] none] false) (Code.block 1 (Code.seq (Code.region 4 #[Oper.mk (some 11) (Op.move (Operand.tmp 4)) 51 "passengers.go:98" #[] none, Oper.mk (some 12) (Op.call (Call.mk (Callee.value (Operand.func 38)) #[Operand.tmp 11] #[51])) 3 "passengers.go:98" #[Edge.mk 0 Ground.data] none, Oper.mk (some 13) (Op.load 51 (Operand.tmp 3)) 51 "passengers.go:98" #[] none, Oper.mk (some 14) (Op.call (Call.mk (Callee.value (Operand.func 38)) #[Operand.tmp 13] #[51])) 3 "passengers.go:98" #[Edge.mk 2 Ground.data, Edge.mk 1 Ground.chain] none, Oper.mk (some 15) (Op.binOp BinOp.lss 3 (Operand.tmp 12) (Operand.tmp 14) 3) 4 "passengers.go:98" #[Edge.mk 1 Ground.data, Edge.mk 3 Ground.data] none, Oper.mk (some 16) (Op.move (Operand.tmp 15)) 4 "passengers.go:98" #[Edge.mk 4 Ground.data, Edge.mk 3 Ground.chain] none, Oper.mk (some 17) (Op.load 54 (Operand.tmp 1)) 54 "passengers.go:98" #[Edge.mk 5 Ground.guard] (some (5, true)), Oper.mk (some 18) (Op.load 54 (Operand.tmp 1)) 54 "passengers.go:98" #[Edge.mk 5 Ground.guard] (some (5, true)), Oper.mk (some 19) (Op.call (Call.mk (Callee.value (Operand.func 25)) #[Operand.tmp 18] #[54])) 51 "passengers.go:98" #[Edge.mk 7 Ground.data, Edge.mk 5 Ground.chain, Edge.mk 5 Ground.guard] (some (5, true)), Oper.mk (some 20) (Op.move (Operand.tmp 4)) 51 "passengers.go:98" #[Edge.mk 5 Ground.guard] (some (5, true)), Oper.mk (some 21) (Op.binOp BinOp.andNot 51 (Operand.tmp 19) (Operand.tmp 20) 51) 51 "passengers.go:98" #[Edge.mk 8 Ground.data, Edge.mk 9 Ground.data, Edge.mk 5 Ground.guard] (some (5, true)), Oper.mk (some 22) (Op.call (Call.mk (Callee.value (Operand.func 26)) #[Operand.tmp 17, Operand.tmp 21] #[54, 51])) 4 "passengers.go:98" #[Edge.mk 6 Ground.data, Edge.mk 10 Ground.data, Edge.mk 8 Ground.chain, Edge.mk 5 Ground.guard] (some (5, true)), Oper.mk (some 23) (Op.pick (Operand.tmp 16) (Operand.tmp 22) (Operand.const (Value.bool false))) 4 "passengers.go:98" #[Edge.mk 5 Ground.data, Edge.mk 11 Ground.data] none] true) (Code.cond (Operand.tmp 23) (Code.region 5 #[Oper.mk (some 24) (Op.move (Operand.tmp 4)) 51 "passengers.go:99" #[] none, Oper.mk none (Op.store 51 (Operand.tmp 3) (Operand.tmp 24)) 0 "passengers.go:99" #[Edge.mk 0 Ground.data, Edge.mk 0 Ground.phase] none] false) Code.skip))) 3)] else CR.fail 420 else CR.fail 420 else CR.fail 420 else CR.fail 420 else CR.fail 420 else bif m_eqv (Value.agg (Array.mk [Value.int IntKind.i64 n, Value.int IntKind.u64 w0, Value.int IntKind.u64 w1, Value.int IntKind.u64 w2, Value.int IntKind.u64 w3, Value.int IntKind.u64 w4, Value.int IntKind.u64 w5, Value.int IntKind.u64 w6, Value.int IntKind.u64 w7, Value.int IntKind.u64 w8, Value.int IntKind.u64 w9])) (Value.agg (Array.mk [Value.int IntKind.i64 n, Value.int IntKind.u64 w0, Value.int IntKind.u64 w1, Value.int IntKind.u64 w2, Value.int IntKind.u64 w3, Value.int IntKind.u64 w4, Value.int IntKind.u64 w5, Value.int IntKind.u64 w6, Value.int IntKind.u64 w7, Value.int IntKind.u64 w8, Value.int IntKind.u64 w9])) then bif m_eqv (Value.agg (Array.mk [Value.int IntKind.i64 n, Value.int IntKind.u64 w0, Value.int IntKind.u64 w1, Value.int IntKind.u64 w2, Value.int IntKind.u64 w3, Value.int IntKind.u64 w4, Value.int IntKind.u64 w5, Value.int IntKind.u64 w6, Value.int IntKind.u64 w7, Value.int IntKind.u64 w8, Value.int IntKind.u64 w9])) (Value.agg (Array.mk [Value.int IntKind.i64 n, Value.int IntKind.u64 w0, Value.int IntKind.u64 w1, Value.int IntKind.u64 w2, Value.int IntKind.u64 w3, Value.int IntKind.u64 w4, Value.int IntKind.u64 w5, Value.int IntKind.u64 w6, Value.int IntKind.u64 w7, Value.int IntKind.u64 w8, Value.int IntKind.u64 w9])) then bif m_eqv (Value.agg (Array.mk [Value.int IntKind.i64 n, Value.int IntKind.u64 w0, Value.int IntKind.u64 w1, Value.int IntKind.u64 w2, Value.int IntKind.u64 w3, Value.int IntKind.u64 w4, Value.int IntKind.u64 w5, Value.int IntKind.u64 w6, Value.int IntKind.u64 w7, Value.int IntKind.u64 w8, Value.int IntKind.u64 w9])) (Value.agg (Array.mk [Value.int IntKind.i64 n, Value.int IntKind.u64 w0, Value.int IntKind.u64 w1, Value.int IntKind.u64 w2, Value.int IntKind.u64 w3, Value.int IntKind.u64 w4, Value.int IntKind.u64 w5, Value.int IntKind.u64 w6, Value.int IntKind.u64 w7, Value.int IntKind.u64 w8, Value.int IntKind.u64 w9])) then bif m_eqv (Value.int IntKind.u64 f) (Value.int IntKind.u64 f) then bif m_eqv (Value.int IntKind.u64 f) (Value.int IntKind.u64 f) then bif t != s then K [some (Value.func (Fn.yield 4) (Array.mk []) (Array.mk [])), some (Value.pointer (some (Addr.mk 2 0 none))), some (Value.int IntKind.u64 (ibits BinOp.and IntKind.u64 (IntKind.wrap IntKind.u64 (t - s)) s))] [] [some (AObj.cells [Value.int IntKind.i64 n, Value.int IntKind.u64 w0, Value.int IntKind.u64 w1, Value.int IntKind.u64 w2, Value.int IntKind.u64 w3, Value.int IntKind.u64 w4, Value.int IntKind.u64 w5, Value.int IntKind.u64 w6, Value.int IntKind.u64 w7, Value.int IntKind.u64 w8, Value.int IntKind.u64 w9] 54 0 0), some (AObj.cells [Value.int IntKind.u64 f] 51 1 0), some (AObj.cells [Value.int IntKind.u64 s] 51 2 0), some AObj.defd, some (AObj.loop LoopState.ready none 1567 (En.mk [] (Tr.node (Tr.node (Tr.node Tr.nil (some (Value.pointer (some (Addr.mk 1 0 none)))) Tr.nil) (some (Value.pointer (some (Addr.mk 0 0 none)))) (Tr.node (Tr.node Tr.nil (some (Value.func (Fn.func 49) (Array.mk []) (Array.mk [Value.pointer (some (Addr.mk 2 0 none))]))) Tr.nil) none Tr.nil)) none Tr.nil)) 26 (Array.mk [10]) (Code.region 3 #[Oper.mk (some 4) (Op.assign (Operand.tmp 10)) 51 "passengers.go:97" #[] none] false) (Code.block 1 (Code.seq (Code.region 4 #[Oper.mk (some 11) (Op.move (Operand.tmp 4)) 51 "passengers.go:98" #[] none, Oper.mk (some 12) (Op.call (Call.mk (Callee.value (Operand.func 38)) #[Operand.tmp 11] #[51])) 3 "passengers.go:98" #[Edge.mk 0 Ground.data] none, Oper.mk (some 13) (Op.load 51 (Operand.tmp 3)) 51 "passengers.go:98" #[] none, Oper.mk (some 14) (Op.call (Call.mk (Callee.value (Operand.func 38)) #[Operand.tmp 13] #[51])) 3 "passengers.go:98" #[Edge.mk 2 Ground.data, Edge.mk 1 Ground.chain] none, Oper.mk (some 15) (Op.binOp BinOp.lss 3 (Operand.tmp 12) (Operand.tmp 14) 3) 4 "passengers.go:98" #[Edge.mk 1 Ground.data, Edge.mk 3 Ground.data] none, Oper.mk (some 16) (Op.move (Operand.tmp 15)) 4 "passengers.go:98" #[Edge.mk 4 Ground.data, Edge.mk 3 Ground.chain] none, Oper.mk (some 17) (Op.load 54 (Operand.tmp 1)) 54 "passengers.go:98" #[Edge.mk 5 Ground.guard] (some (5, true)), Oper.mk (some 18) (Op.load 54 (Operand.tmp 1)) 54 "passengers.go:98" #[Edge.mk 5 Ground.guard] (some (5, true)), Oper.mk (some 19) (Op.call (Call.mk (Callee.value (Operand.func 25)) #[Operand.tmp 18] #[54])) 51 "passengers.go:98" #[Edge.mk 7 Ground.data, Edge.mk 5 Ground.chain, Edge.mk 5 Ground.guard] (some (5, true)), Oper.mk (some 20) (Op.move (Operand.tmp 4)) 51 "passengers.go:98" #[Edge.mk 5 Ground.guard] (some (5, true)), Oper.mk (some 21) (Op.binOp BinOp.andNot 51 (Operand.tmp 19) (Operand.tmp 20) 51) 51 "passengers.go:98" #[Edge.mk 8 Ground.data, Edge.mk 9 Ground.data, Edge.mk 5 Ground.guard] (some (5, true)), Oper.mk (some 22) (Op.call (Call.mk (Callee.value (Operand.func 26)) #[Operand.tmp 17, Operand.tmp 21] #[54, 51])) 4 "passengers.go:98" #[Edge.mk 6 Ground.data, Edge.mk 10 Ground.data, Edge.mk 8 Ground.chain, Edge.mk 5 Ground.guard] (some (5, true)), Oper.mk (some 23) (Op.pick (Operand.tmp 16) (Operand.tmp 22) (Operand.const (Value.bool false))) 4 "passengers.go:98" #[Edge.mk 5 Ground.data, Edge.mk 11 Ground.data] none] true) (Code.cond (Operand.tmp 23) (Code.region 5 #[Oper.mk (some 24) (Op.move (Operand.tmp 4)) 51 "passengers.go:99" #[] none, Oper.mk none (Op.store 51 (Operand.tmp 3) (Operand.tmp 24)) 0 "passengers.go:99" #[Edge.mk 0 Ground.data, Edge.mk 0 Ground.phase] none] false) Code.skip))) 3)] else KX 0 [] [] [some (AObj.cells [Value.int IntKind.i64 n, Value.int IntKind.u64 w0, Value.int IntKind.u64 w1, Value.int IntKind.u64 w2, Value.int IntKind.u64 w3, Value.int IntKind.u64 w4, Value.int IntKind.u64 w5, Value.int IntKind.u64 w6, Value.int IntKind.u64 w7, Value.int IntKind.u64 w8, Value.int IntKind.u64 w9] 54 0 0), some (AObj.cells [Value.int IntKind.u64 f] 51 1 0), some (AObj.cells [Value.int IntKind.u64 s] 51 2 0), some AObj.defd, some (AObj.loop LoopState.ready none 1567 (En.mk [] (Tr.node (Tr.node (Tr.node Tr.nil (some (Value.pointer (some (Addr.mk 1 0 none)))) Tr.nil) (some (Value.pointer (some (Addr.mk 0 0 none)))) (Tr.node (Tr.node Tr.nil (some (Value.func (Fn.func 49) (Array.mk []) (Array.mk [Value.pointer (some (Addr.mk 2 0 none))]))) Tr.nil) none Tr.nil)) none Tr.nil)) 26 (Array.mk [10]) (Code.region 3 #[Oper.mk (some 4) (Op.assign (Operand.tmp 10)) 51 "passengers.go:97" #[] none] false) (Code.block 1 (Code.seq (Code.region 4 #[Oper.mk (some 11) (Op.move (Operand.tmp 4)) 51 "passengers.go:98" #[] none, Oper.mk (some 12) (Op.call (Call.mk (Callee.value (Operand.func 38)) #[Operand.tmp 11] #[51])) 3 "passengers.go:98" #[Edge.mk 0 Ground.data] none, Oper.mk (some 13) (Op.load 51 (Operand.tmp 3)) 51 "passengers.go:98" #[] none, Oper.mk (some 14) (Op.call (Call.mk (Callee.value (Operand.func 38)) #[Operand.tmp 13] #[51])) 3 "passengers.go:98" #[Edge.mk 2 Ground.data, Edge.mk 1 Ground.chain] none, Oper.mk (some 15) (Op.binOp BinOp.lss 3 (Operand.tmp 12) (Operand.tmp 14) 3) 4 "passengers.go:98" #[Edge.mk 1 Ground.data, Edge.mk 3 Ground.data] none, Oper.mk (some 16) (Op.move (Operand.tmp 15)) 4 "passengers.go:98" #[Edge.mk 4 Ground.data, Edge.mk 3 Ground.chain] none, Oper.mk (some 17) (Op.load 54 (Operand.tmp 1)) 54 "passengers.go:98" #[Edge.mk 5 Ground.guard] (some (5, true)), Oper.mk (some 18) (Op.load 54 (Operand.tmp 1)) 54 "passengers.go:98" #[Edge.mk 5 Ground.guard] (some (5, true)), Oper.mk (some 19) (Op.call (Call.mk (Callee.value (Operand.func 25)) #[Operand.tmp 18] #[54])) 51 "passengers.go:98" #[Edge.mk 7 Ground.data, Edge.mk 5 Ground.chain, Edge.mk 5 Ground.guard] (some (5, true)), Oper.mk (some 20) (Op.move (Operand.tmp 4)) 51 "passengers.go:98" #[Edge.mk 5 Ground.guard] (some (5, true)), Oper.mk (some 21) (Op.binOp BinOp.andNot 51 (Operand.tmp 19) (Operand.tmp 20) 51) 51 "passengers.go:98" #[Edge.mk 8 Ground.data, Edge.mk 9 Ground.data, Edge.mk 5 Ground.guard] (some (5, true)), Oper.mk (some 22) (Op.call (Call.mk (Callee.value (Operand.func 26)) #[Operand.tmp 17, Operand.tmp 21] #[54, 51])) 4 "passengers.go:98" #[Edge.mk 6 Ground.data, Edge.mk 10 Ground.data, Edge.mk 8 Ground.chain, Edge.mk 5 Ground.guard] (some (5, true)), Oper.mk (some 23) (Op.pick (Operand.tmp 16) (Operand.tmp 22) (Operand.const (Value.bool false))) 4 "passengers.go:98" #[Edge.mk 5 Ground.data, Edge.mk 11 Ground.data] none] true) (Code.cond (Operand.tmp 23) (Code.region 5 #[Oper.mk (some 24) (Op.move (Operand.tmp 4)) 51 "passengers.go:99" #[] none, Oper.mk none (Op.store 51 (Operand.tmp 3) (Operand.tmp 24)) 0 "passengers.go:99" #[Edge.mk 0 Ground.data, Edge.mk 0 Ground.phase] none] false) Code.skip))) 3)] else CR.fail 420 else CR.fail 420 else CR.fail 420 else CR.fail 420 else CR.fail 420 else CR.fail 420 else CR.fail 420 else bif m_eqv (Value.int IntKind.u64 f) (Value.int IntKind.u64 f) then bif m_eqv (Value.int IntKind.u64 f) (Value.int IntKind.u64 f) then bif t != s then K [some (Value.func (Fn.yield 4) (Array.mk []) (Array.mk [])), some (Value.pointer (some (Addr.mk 2 0 none))), some (Value.int IntKind.u64 (ibits BinOp.and IntKind.u64 (IntKind.wrap IntKind.u64 (t - s)) s))] [] [some (AObj.cells [Value.int IntKind.i64 n, Value.int IntKind.u64 w0, Value.int IntKind.u64 w1, Value.int IntKind.u64 w2, Value.int IntKind.u64 w3, Value.int IntKind.u64 w4, Value.int IntKind.u64 w5, Value.int IntKind.u64 w6, Value.int IntKind.u64 w7, Value.int IntKind.u64 w8, Value.int IntKind.u64 w9] 54 0 0), some (AObj.cells [Value.int IntKind.u64 f] 51 1 0), some (AObj.cells [Value.int IntKind.u64 s] 51 2 0), some AObj.defd, some (AObj.loop LoopState.ready none 1567 (En.mk [] (Tr.node (Tr.node (Tr.node Tr.nil (some (Value.pointer (some (Addr.mk 1 0 none)))) Tr.nil) (some (Value.pointer (some (Addr.mk 0 0 none)))) (Tr.node (Tr.node Tr.nil (some (Value.func (Fn.func 49) (Array.mk []) (Array.mk [Value.pointer (some (Addr.mk 2 0 none))]))) Tr.nil) none Tr.nil)) none Tr.nil)) 26 (Array.mk [10]) (Code.region 3 #[Oper.mk (some 4) (Op.assign (Operand.tmp 10)) 51 "passengers.go:97" #[] none] false) (Code.block 1 (Code.seq (Code.region 4 #[Oper.mk (some 11) (Op.move (Operand.tmp 4)) 51 "passengers.go:98" #[] none, Oper.mk (some 12) (Op.call (Call.mk (Callee.value (Operand.func 38)) #[Operand.tmp 11] #[51])) 3 "passengers.go:98" #[Edge.mk 0 Ground.data] none, Oper.mk (some 13) (Op.load 51 (Operand.tmp 3)) 51 "passengers.go:98" #[] none, Oper.mk (some 14) (Op.call (Call.mk (Callee.value (Operand.func 38)) #[Operand.tmp 13] #[51])) 3 "passengers.go:98" #[Edge.mk 2 Ground.data, Edge.mk 1 Ground.chain] none, Oper.mk (some 15) (Op.binOp BinOp.lss 3 (Operand.tmp 12) (Operand.tmp 14) 3) 4 "passengers.go:98" #[Edge.mk 1 Ground.data, Edge.mk 3 Ground.data] none, Oper.mk (some 16) (Op.move (Operand.tmp 15)) 4 "passengers.go:98" #[Edge.mk 4 Ground.data, Edge.mk 3 Ground.chain] none, Oper.mk (some 17) (Op.load 54 (Operand.tmp 1)) 54 "passengers.go:98" #[Edge.mk 5 Ground.guard] (some (5, true)), Oper.mk (some 18) (Op.load 54 (Operand.tmp 1)) 54 "passengers.go:98" #[Edge.mk 5 Ground.guard] (some (5, true)), Oper.mk (some 19) (Op.call (Call.mk (Callee.value (Operand.func 25)) #[Operand.tmp 18] #[54])) 51 "passengers.go:98" #[Edge.mk 7 Ground.data, Edge.mk 5 Ground.chain, Edge.mk 5 Ground.guard] (some (5, true)), Oper.mk (some 20) (Op.move (Operand.tmp 4)) 51 "passengers.go:98" #[Edge.mk 5 Ground.guard] (some (5, true)), Oper.mk (some 21) (Op.binOp BinOp.andNot 51 (Operand.tmp 19) (Operand.tmp 20) 51) 51 "passengers.go:98" #[Edge.mk 8 Ground.data, Edge.mk 9 Ground.data, Edge.mk 5 Ground.guard] (some (5, true)), Oper.mk (some 22) (Op.call (Call.mk (Callee.value (Operand.func 26)) #[Operand.tmp 17, Operand.tmp 21] #[54, 51])) 4 "passengers.go:98" #[Edge.mk 6 Ground.data, Edge.mk 10 Ground.data, Edge.mk 8 Ground.chain, Edge.mk 5 Ground.guard] (some (5, true)), Oper.mk (some 23) (Op.pick (Operand.tmp 16) (Operand.tmp 22) (Operand.const (Value.bool false))) 4 "passengers.go:98" #[Edge.mk 5 Ground.data, Edge.mk 11 Ground.data] none] true) (Code.cond (Operand.tmp 23) (Code.region 5 #[Oper.mk (some 24) (Op.move (Operand.tmp 4)) 51 "passengers.go:99" #[] none, Oper.mk none (Op.store 51 (Operand.tmp 3) (Operand.tmp 24)) 0 "passengers.go:99" #[Edge.mk 0 Ground.data, Edge.mk 0 Ground.phase] none] false) Code.skip))) 3)] else KX 0 [] [] [some (AObj.cells [Value.int IntKind.i64 n, Value.int IntKind.u64 w0, Value.int IntKind.u64 w1, Value.int IntKind.u64 w2, Value.int IntKind.u64 w3, Value.int IntKind.u64 w4, Value.int IntKind.u64 w5, Value.int IntKind.u64 w6, Value.int IntKind.u64 w7, Value.int IntKind.u64 w8, Value.int IntKind.u64 w9] 54 0 0), some (AObj.cells [Value.int IntKind.u64 f] 51 1 0), some (AObj.cells [Value.int IntKind.u64 s] 51 2 0), some AObj.defd, some (AObj.loop LoopState.ready none 1567 (En.mk [] (Tr.node (Tr.node (Tr.node Tr.nil (some (Value.pointer (some (Addr.mk 1 0 none)))) Tr.nil) (some (Value.pointer (some (Addr.mk 0 0 none)))) (Tr.node (Tr.node Tr.nil (some (Value.func (Fn.func 49) (Array.mk []) (Array.mk [Value.pointer (some (Addr.mk 2 0 none))]))) Tr.nil) none Tr.nil)) none Tr.nil)) 26 (Array.mk [10]) (Code.region 3 #[Oper.mk (some 4) (Op.assign (Operand.tmp 10)) 51 "passengers.go:97" #[] none] false) (Code.block 1 (Code.seq (Code.region 4 #[Oper.mk (some 11) (Op.move (Operand.tmp 4)) 51 "passengers.go:98" #[] none, Oper.mk (some 12) (Op.call (Call.mk (Callee.value (Operand.func 38)) #[Operand.tmp 11] #[51])) 3 "passengers.go:98" #[Edge.mk 0 Ground.data] none, Oper.mk (some 13) (Op.load 51 (Operand.tmp 3)) 51 "passengers.go:98" #[] none, Oper.mk (some 14) (Op.call (Call.mk (Callee.value (Operand.func 38)) #[Operand.tmp 13] #[51])) 3 "passengers.go:98" #[Edge.mk 2 Ground.data, Edge.mk 1 Ground.chain] none, Oper.mk (some 15) (Op.binOp BinOp.lss 3 (Operand.tmp 12) (Operand.tmp 14) 3) 4 "passengers.go:98" #[Edge.mk 1 Ground.data, Edge.mk 3 Ground.data] none, Oper.mk (some 16) (Op.move (Operand.tmp 15)) 4 "passengers.go:98" #[Edge.mk 4 Ground.data, Edge.mk 3 Ground.chain] none, Oper.mk (some 17) (Op.load 54 (Operand.tmp 1)) 54 "passengers.go:98" #[Edge.mk 5 Ground.guard] (some (5, true)), Oper.mk (some 18) (Op.load 54 (Operand.tmp 1)) 54 "passengers.go:98" #[Edge.mk 5 Ground.guard] (some (5, true)), Oper.mk (some 19) (Op.call (Call.mk (Callee.value (Operand.func 25)) #[Operand.tmp 18] #[54])) 51 "passengers.go:98" #[Edge.mk 7 Ground.data, Edge.mk 5 Ground.chain, Edge.mk 5 Ground.guard] (some (5, true)), Oper.mk (some 20) (Op.move (Operand.tmp 4)) 51 "passengers.go:98" #[Edge.mk 5 Ground.guard] (some (5, true)), Oper.mk (some 21) (Op.binOp BinOp.andNot 51 (Operand.tmp 19) (Operand.tmp 20) 51) 51 "passengers.go:98" #[Edge.mk 8 Ground.data, Edge.mk 9 Ground.data, Edge.mk 5 Ground.guard] (some (5, true)), Oper.mk (some 22) (Op.call (Call.mk (Callee.value (Operand.func 26)) #[Operand.tmp 17, Operand.tmp 21] #[54, 51])) 4 "passengers.go:98" #[Edge.mk 6 Ground.data, Edge.mk 10 Ground.data, Edge.mk 8 Ground.chain, Edge.mk 5 Ground.guard] (some (5, true)), Oper.mk (some 23) (Op.pick (Operand.tmp 16) (Operand.tmp 22) (Operand.const (Value.bool false))) 4 "passengers.go:98" #[Edge.mk 5 Ground.data, Edge.mk 11 Ground.data] none] true) (Code.cond (Operand.tmp 23) (Code.region 5 #[Oper.mk (some 24) (Op.move (Operand.tmp 4)) 51 "passengers.go:99" #[] none, Oper.mk none (Op.store 51 (Operand.tmp 3) (Operand.tmp 24)) 0 "passengers.go:99" #[Edge.mk 0 Ground.data, Edge.mk 0 Ground.phase] none] false) Code.skip))) 3)] else CR.fail 420 else CR.fail 420 else CR.fail 420 else CR.fail 420 := by kernel_rfl

theorem coD (c : List Value) (s f : Int) (K : OV → List Nat → OO → CR) : rbK 0 [3] [] K [] (bT lvCo [some (P0 0), some (P0 1), some fGr] .nil) [3] (K5 c s f) =
    K [some (Value.pointer (some (Addr.mk 0 0 none)))] [1] [some (AObj.cells [Value.int IntKind.u64 f] 51 0 0), some AObj.defd] := by kernel_rfl

theorem coF (r : Mem) (f : Int) (fs : FnsC) (K KR : OV → List Nat → OO → CR) (kx : Nat → KS) : run (SC r) 1567 26 1 Co_4 fs none (rbK 0 [2] [] K) kx (rbK 0 [2] [] KR) [] (bT [3] [some (P0 0)] .nil) [1] (mkA [some (.cells [U f] 51 0 0), some .defd]) =
    KR [some (Value.int IntKind.u64 f)] [0] [some AObj.defd] := by kernel_rfl

theorem rkA (r : Mem) (b off len cap : Nat) (m : Int) (q : Int → Bool) (K : OV → List Nat → OO → CR) (kx : Nat → KS) (kr : KS) : run (SC r) 29 28 1 (.seq Rc_0 (.seq Rc_1 Rc_2)) (lvlT (SC r) (tRs (RS b off len cap) m q) .nil 1 1) none (rbK 0 lvRc [] K) kx kr (sc0 29 [RS b off len cap]) (tr0 29 [RS b off len cap]) [] emptyA =
    bif m_same [Value.slice (some (Addr.mk b off (some 0))) len cap] [Value.slice (some (Addr.mk b off (some 0))) len cap] then K [some (Value.slice (some (Addr.mk b off (some 0))) len cap), some (Value.int IntKind.i64 (m_all m)), some (Value.int IntKind.i64 (Int.ofNat 0))] [] [] else CR.fail 420 := by kernel_rfl

theorem rkB (r : Mem) (b off len cap : Nat) (m s f : Int) (q : Int → Bool) (K : OV → List Nat → OO → CR) (KX : Nat → OV → List Nat → OO → CR) (kr : KS) : run (SC r) 29 28 1 Rc_3 (lvlT (SC r) (tRs (RS b off len cap) m q) .nil 1 1) none (rbK 0 lvRc [] K) (fun i => rbK 0 [3] [] (KX i)) kr [] (bT lvRc [some (RS b off len cap), some (I f), some (I s)] .nil) [] (mkA []) =
    bif m_same [Value.slice (some (Addr.mk b off (some 0))) len cap] [Value.slice (some (Addr.mk b off (some 0))) len cap] then bif decide (s < m_all m) then bif m_same [Value.slice (some (Addr.mk b off (some 0))) len cap] [Value.slice (some (Addr.mk b off (some 0))) len cap] then bif m_same [Value.slice (some (Addr.mk b off (some 0))) len cap] [Value.slice (some (Addr.mk b off (some 0))) len cap] && m_w10 (ibits BinOp.andNot IntKind.i64 (m_all m) s) then bif q (ibits BinOp.andNot IntKind.i64 (m_all m) s) then bif m_popG s then bif m_popG f then bif decide (m_pop s < m_pop f) then K [some (Value.slice (some (Addr.mk b off (some 0))) len cap), some (Value.int IntKind.i64 s), some (Value.int IntKind.i64 (IntKind.wrap IntKind.i64 (s + Int.ofNat 1)))] [] [] else K [some (Value.slice (some (Addr.mk b off (some 0))) len cap), some (Value.int IntKind.i64 f), some (Value.int IntKind.i64 (IntKind.wrap IntKind.i64 (s + Int.ofNat 1)))] [] [] else CR.fail 420 else CR.fail 420 else K [some (Value.slice (some (Addr.mk b off (some 0))) len cap), some (Value.int IntKind.i64 f), some (Value.int IntKind.i64 (IntKind.wrap IntKind.i64 (s + Int.ofNat 1)))] [] [] else CR.fail 420 else CR.fail 420 else KX 0 [some (Value.int IntKind.i64 f)] [] [] else CR.fail 420 := by kernel_rfl

theorem rkC (r : Mem) (f : Int) (fs : FnsC) (K KR : OV → List Nat → OO → CR) (kx : Nat → KS) : run (SC r) 29 28 1 Rc_4 fs none (rbK 0 [2] [] K) kx (rbK 0 [2] [] KR) [] (bT [3] [some (I f)] .nil) [] (mkA []) =
    KR [some (Value.int IntKind.i64 f)] [] [] := by kernel_rfl

end Go.Proofs

/- Covers: what the calls answer. -/
namespace Go.Num
open Go.Proofs

/-- The first of the fewest, among those below k and all. -/
def cvN (A : Nat) (q : Nat → Bool) : Nat → Nat
  | 0 => A
  | k + 1 => if popN 16 k < popN 16 (cvN A q k) ∧ q (anN A k) = true then k else cvN A q k
theorem cv_le (A : Nat) (q : Nat → Bool) : ∀ k, popN 16 (cvN A q k) ≤ popN 16 A
  | 0 => Nat.le_refl _
  | k + 1 => by
    have := cv_le A q k
    rw [cvN]
    split
    · omega
    · exact this
theorem cv_last (A : Nat) (q : Nat → Bool) : cvN A q (A + 1) = cvN A q A := by
  have := cv_le A q A
  rw [cvN, if_neg (by omega)]
theorem cv_bound (A : Nat) (q : Nat → Bool) : ∀ k, k ≤ A + 1 → cvN A q k ≤ A
  | 0, _ => Nat.le_refl _
  | k + 1, h => by
    have := cv_bound A q k (by omega)
    rw [cvN]
    split
    · omega
    · exact this
theorem cv_congr {A : Nat} {q q' : Nat → Bool} (h : ∀ k, k ≤ A → q (anN A k) = q' (anN A k)) : ∀ k, k ≤ A + 1 → cvN A q k = cvN A q' k
  | 0, _ => rfl
  | k + 1, hk => by rw [cvN, cvN, cv_congr h k (by omega), h k (by omega)]

end Go.Num
namespace Go.Proofs
open Go Go.Ev Go.Num
set_option linter.unusedVariables false
set_option linter.unusedSimpArgs false
set_option maxRecDepth 100000

theorem rcover_ok (r : Mem) (b off m cap : Nat) (hm10 : m ≤ 10) (w : Nat → Nat) (hr : ∀ k, k < m → r b (off + k) = some (I (w k : Nat))) (hw : ∀ k, k < m → w k < 65536) :
    GrT Tryd.prog r 13 [RS b off m cap] (I (cvN (2 ^ m - 1) (fun s => quN w s m) (2 ^ m - 1) : Nat)) := by
  have hA : 2 ^ m ≤ 1024 := Nat.pow_le_pow_right (n := 2) (by decide) hm10
  have hpos := Nat.two_pow_pos m
  have sm : ∀ l : List Value, m_same l l = true := same_rfl
  have eA := all_eq (m := m) (by omega)
  have hq : EOk (SC r) 11 (eRQ (RS b off m cap) fun s => quN w s.toNat m) := eRQ_ok r fun s hs => by
    have := rquiet_ok r b off m cap w hr hw (by omega) s (by omega)
    rw [Int.toNat_natCast]
    exact this
  have ha := rall_ok r b off m cap (by omega)
  have ht : TOk (SC r) (tRs (RS b off m cap) (m : Nat) fun s => quN w s.toNat m) := TOk.cons (TOk.cons (TOk.cons TOk.nil (entV_ok ha rfl)) (eI1_ok fun a h => rsz_ok r a h)) hq
  generalize hAA : 2 ^ m - 1 = A at *
  refine GrT.ofS (C := SC r) rfl rfl rfl (callL (SC_ok r) (by kernel_rfl) ((bodySC r _).trans Rc_eq) (nt := 28) (by kernel_rfl) (rs := [.tmp 2]) (by kernel_rfl) 29 rfl (.step (.step .base)) ht (tm := .nil) (L := 1) (d := 1) lvRc []
    (fun j vs ms os => ∃ k, k ≤ A ∧ j = A - k ∧ vs = [some (RS b off m cap), some (I (cvN A (fun s => quN w s m) k : Nat)), some (I (k : Nat))] ∧ ms = [] ∧ os = [])
    ⟨[3], [], fun vs ms os => vs = [some (I (cvN A (fun s => quN w s m) A : Nat))] ∧ ms = [] ∧ os = []⟩
    ⟨[2], [], fun vs ms os => vs = [some (I (cvN A (fun s => quN w s m) A : Nat))] ∧ ms = [] ∧ os = []⟩ ?_ ?_ ?_ ?_)
  · have hn := rkA r b off m cap (m : Nat) fun s => quN w s.toNat m
    simp only [sm, cond_true, eA] at hn
    exact (hn _ _ _).trans (qq_ok ⟨A, 0, Nat.zero_le _, rfl, rfl, rfl, rfl⟩)
  · rintro j vs ms os ⟨k, hk, rfl, rfl, rfl, rfl⟩
    refine ⟨_, ht, .nil, 1, 1, 1, ?_⟩
    have hn := rkB r b off m cap (m : Nat) k (cvN A (fun s => quN w s m) k : Nat) fun s => quN w s.toNat m
    have hb := cv_bound A (fun s => quN w s m) k (by omega)
    by_cases c : k < A
    · have e3 : IntKind.wrap IntKind.i64 ((k : Int) + Int.ofNat 1) = ((k + 1 : Nat) : Int) := by rw [wrI (by simp; omega)]; simp
      have han : anN A k < 1024 := an_lt (k := 10) (show A < 2 ^ 10 by omega)
      have e4 := (iO (a := A) (b := k) (by omega) (by omega)).2.2
      have g1 : m_w10 ((anN A k : Nat) : Int) = true := decide_eq_true ⟨by omega, by omega⟩
      have g2 : m_popG ((k : Nat) : Int) = true := decide_eq_true ⟨by omega, by omega⟩
      have g3 : m_popG ((cvN A (fun s => quN w s m) k : Nat) : Int) = true := decide_eq_true ⟨by omega, by omega⟩
      have mp : ∀ x : Nat, m_pop ((x : Nat) : Int) = ((popN 16 x : Nat) : Int) := fun x => by unfold m_pop; rw [Int.toNat_natCast]
      have dl : ∀ a b : Nat, decide (((a : Nat) : Int) < ((b : Nat) : Int)) = decide (a < b) := fun a b => by rw [Bool.eq_iff_iff]; simp
      simp only [sm, eA, dl, decide_eq_true c, cond_true, Bool.true_and, e4, g1, g2, g3, mp, Int.toNat_natCast, e3] at hn
      have hS : cvN A (fun s => quN w s m) (k + 1) = if popN 16 k < popN 16 (cvN A (fun s => quN w s m) k) ∧ quN w (anN A k) m = true then k else cvN A (fun s => quN w s m) k := rfl
      have hQ : ∀ f : Nat, f = cvN A (fun s => quN w s m) (k + 1) → ∃ j', j' < A - k ∧ ∃ k', k' ≤ A ∧ j' = A - k' ∧ [some (RS b off m cap), some (I (f : Nat)), some (I ((k + 1 : Nat) : Int))] = [some (RS b off m cap), some (I (cvN A (fun s => quN w s m) k' : Nat)), some (I (k' : Nat))] ∧ ([] : List Nat) = [] ∧ ([] : OO) = [] := fun f hf => ⟨A - (k + 1), by omega, k + 1, c, rfl, by rw [hf], rfl, rfl⟩
      cases hq1 : quN w (anN A k) m with
      | false =>
        simp only [hq1, cond_false] at hn
        rw [hq1, if_neg (by simp)] at hS
        exact (hn _ _ _).trans (qq_ok (hQ _ hS.symm))
      | true =>
        simp only [hq1, cond_true] at hn
        by_cases c2 : popN 16 k < popN 16 (cvN A (fun s => quN w s m) k)
        · rw [decide_eq_true c2] at hn
          rw [hq1, if_pos ⟨c2, rfl⟩] at hS
          exact (hn _ _ _).trans (qq_ok (hQ _ hS.symm))
        · rw [decide_eq_false c2] at hn
          rw [if_neg (fun h => c2 h.1)] at hS
          exact (hn _ _ _).trans (qq_ok (hQ _ hS.symm))
    · obtain rfl : k = A := by omega
      simp only [sm, eA, cond_true, dF (show ¬ ((k : Nat) : Int) < ((k : Nat) : Int) by omega), cond_false] at hn
      exact (hn _ _ _).trans (qq_ok ⟨rfl, rfl, rfl⟩)
  · rintro vs ms os ⟨rfl, rfl, rfl⟩
    exact ⟨_, TOk.nil, .nil, 1, 1, 1, (rkC r _ _ _ _ _).trans (qq_ok ⟨rfl, rfl, rfl⟩)⟩
  · rintro vs ms os ⟨rfl, rfl, rfl⟩
    exact ⟨_, mkA [], by kernel_rfl, rfl⟩

theorem nx {m t : Nat} (hm : m ≤ 10) (h : t < 2 ^ m - 1) : (18446744073709551616 - (2 ^ m - 1 - t)) % 2 ^ m = t + 1 := by
  have : m = 0 ∨ m = 1 ∨ m = 2 ∨ m = 3 ∨ m = 4 ∨ m = 5 ∨ m = 6 ∨ m = 7 ∨ m = 8 ∨ m = 9 ∨ m = 10 := by omega
  rcases this with rfl | rfl | rfl | rfl | rfl | rfl | rfl | rfl | rfl | rfl | rfl <;> simp at h ⊢ <;> omega

theorem tIs_ok (r : Mem) (hm : ∀ b j u, tabM b j = some u → r b j = some u) (m : Nat) (hm10 : m ≤ 10) (ws : List Nat) (hl : ws.length = 10) (hw : ∀ w ∈ ws, w < 65536) {l : List Value} (hp : pgC (m : Nat) ws = I (m : Nat) :: l) (hro : roVs [.agg ⟨I (m : Nat) :: l⟩] = true) : TOk (SC r) (tIs (m : Nat) l fun s => quN (fun i => ws.getD i 0) s.toNat 10) := by
  have hq : EOk (SC r) 26 (ePW (pgC (m : Nat) ws) fun s => .bool (quN (fun i => ws.getD i 0) s.toNat 10)) := ePW_ok r (pgC_gnd _ ws) fun s hs => by
    have := isq_ok r hm (m : Nat) ws hl hw s hs
    rw [Int.toNat_natCast]
    exact this
  have ha := fall_ok r m (by omega) ws hl
  rw [hp] at hq ha
  exact TOk.cons (TOk.cons (TOk.cons TOk.nil (entV_ok ha hro)) (eU1_ok fun a h => fsz_ok r a h)) hq

theorem ve10 (n a0 a1 a2 a3 a4 a5 a6 a7 a8 a9 : Int) : m_eqv (.agg ⟨[I n, U a0, U a1, U a2, U a3, U a4, U a5, U a6, U a7, U a8, U a9]⟩) (.agg ⟨[I n, U a0, U a1, U a2, U a3, U a4, U a5, U a6, U a7, U a8, U a9]⟩) = true := by simp [m_eqv, veq, veqs]

theorem gr_ok (r : Mem) (hm : ∀ b j u, tabM b j = some u → r b j = some u) (m : Nat) (hm10 : m ≤ 10) (ws : List Nat) (hl : ws.length = 10) (hw : ∀ w ∈ ws, w < 65536) (A : Nat) (hA : A = 2 ^ m - 1) :
    SOk (SC r) 49 [fYe, P0 2] (C5 (pgC (m : Nat) ws) (A : Nat) (A : Nat)) fun v B => B = mkA (osC5 (pgC (m : Nat) ws) (A : Nat) (cvN A (fun s => quN (fun i => ws.getD i 0) s 10) (A + 1) : Nat)) := by
  have hA2 : 2 ^ m ≤ 1024 := Nat.pow_le_pow_right (n := 2) (by decide) hm10
  have hpos := Nat.two_pow_pos m
  have hnx : (C5 (pgC (m : Nat) ws) (A : Nat) (A : Nat)).next = 5 := rfl
  have sm : ∀ l : List Value, m_same l l = true := same_rfl
  have eA : m_all (m : Nat) = (A : Nat) := by rw [all_eq (by omega), hA]
  obtain ⟨a0, a1, a2, a3, a4, a5, a6, a7, a8, a9, _, hp⟩ := pgC10 (m : Nat) hl
  have ht := tIs_ok r hm m hm10 ws hl hw hp rfl
  have hcn := pgC_nn (m : Nat) ws
  generalize (fun (i : Nat) => ws.getD i 0) = w at *
  rw [hp] at hcn hnx ⊢
  refine callE (SC_ok r) (by kernel_rfl) ((bodySC r _).trans Gr_eq) (nt := 17) (by kernel_rfl) (rs := []) (by kernel_rfl) 11 rfl .base TOk.nil (tm := .nil) (L := 1) (d := 1) lvGr flGr
    (fun j vs ms os => ∃ t, t ≤ A ∧ j = A - t ∧ vs = [some fYe, some (P0 2), some (U (t : Nat))] ∧ ms = [] ∧ os = osC5 [I (m : Nat), U a0, U a1, U a2, U a3, U a4, U a5, U a6, U a7, U a8, U a9] (A : Nat) (cvN A (fun s => quN w s 10) t : Nat))
    ⟨[], flGr, fun vs ms os => vs = [] ∧ ms = [] ∧ os = osC5 [I (m : Nat), U a0, U a1, U a2, U a3, U a4, U a5, U a6, U a7, U a8, U a9] (A : Nat) (cvN A (fun s => quN w s 10) (A + 1) : Nat)⟩ ?_ ?_ ?_
  · rw [hnx]
    have hn := grA r (A : Nat) (A : Nat) [I (m : Nat), U a0, U a1, U a2, U a3, U a4, U a5, U a6, U a7, U a8, U a9]
    simp only [hcn, nn1, Bool.and_true, cond_true] at hn
    exact (hn _ _ _ _).trans (qq_ok ⟨A, 0, Nat.zero_le _, rfl, rfl, rfl, rfl⟩)
  · rintro j vs ms os ⟨t, htA, hj, rfl, rfl, rfl⟩
    refine ⟨_, ht, .nil, 1, 1, 2, ?_⟩
    rw [hnx]
    have hn := grB r (m : Nat) a0 a1 a2 a3 a4 a5 a6 a7 a8 a9 (fun s => quN w s.toNat 10) (A : Nat) (cvN A (fun s => quN w s 10) t : Nat) (t : Nat)
    have hb := cv_bound A (fun s => quN w s 10) t (by omega)
    have han : anN A t < 1024 := an_lt (k := 10) (show A < 2 ^ 10 by omega)
    have e4 := (uO (a := A) (b := t) (by omega) (by omega)).2.2
    have g1 : m_w10 ((anN A t : Nat) : Int) = true := decide_eq_true ⟨by omega, by omega⟩
    have g2 : m_popG ((t : Nat) : Int) = true := decide_eq_true ⟨by omega, by omega⟩
    have g3 : m_popG ((cvN A (fun s => quN w s 10) t : Nat) : Int) = true := decide_eq_true ⟨by omega, by omega⟩
    have mp : ∀ x : Nat, m_pop ((x : Nat) : Int) = ((popN 16 x : Nat) : Int) := fun x => by unfold m_pop; rw [Int.toNat_natCast]
    have dl : ∀ a b : Nat, decide (((a : Nat) : Int) < ((b : Nat) : Int)) = decide (a < b) := fun a b => by rw [Bool.eq_iff_iff]; simp
    have eu : ∀ z : Int, m_eqv (.int .u64 z) (.int .u64 z) = true := fun z => by simp [m_eqv, veq]
    simp only [sm, eA, dl, cond_true, Bool.true_and, e4, g1, g2, g3, mp, Int.toNat_natCast, hcn, nn1, Bool.and_true, ve10, eu] at hn
    have hS : cvN A (fun s => quN w s 10) (t + 1) = if popN 16 t < popN 16 (cvN A (fun s => quN w s 10) t) ∧ quN w (anN A t) 10 = true then t else cvN A (fun s => quN w s 10) t := rfl
    by_cases c : t = A
    · have ne : (((t : Nat) : Int) != ((A : Nat) : Int)) = false := by simp [c]
      have hx : ∀ f : Nat, f = cvN A (fun s => quN w s 10) (t + 1) → ([] : OV) = [] ∧ ([] : List Nat) = [] ∧ osC5 [I (m : Nat), U a0, U a1, U a2, U a3, U a4, U a5, U a6, U a7, U a8, U a9] (A : Nat) (f : Nat) = osC5 [I (m : Nat), U a0, U a1, U a2, U a3, U a4, U a5, U a6, U a7, U a8, U a9] (A : Nat) (cvN A (fun s => quN w s 10) (A + 1) : Nat) := fun f hf => ⟨rfl, rfl, by rw [hf, c]⟩
      simp only [ne, cond_false] at hn
      by_cases c2 : popN 16 t < popN 16 (cvN A (fun s => quN w s 10) t)
      · simp only [decide_eq_true c2, cond_true] at hn
        cases hq1 : quN w (anN A t) 10 with
        | true =>
          rw [hq1, if_pos ⟨c2, rfl⟩] at hS
          simp only [hq1, cond_true] at hn
          exact Eq.trans (hn _ _ _) (qq_ok (hx t hS.symm))
        | false =>
          rw [hq1, if_neg (by simp)] at hS
          simp only [hq1, cond_false] at hn
          exact Eq.trans (hn _ _ _) (qq_ok (hx _ hS.symm))
      · rw [if_neg (fun h => c2 h.1)] at hS
        simp only [decide_eq_false c2, cond_false] at hn
        exact Eq.trans (hn _ _ _) (qq_ok (hx _ hS.symm))
    · have ne : (((t : Nat) : Int) != ((A : Nat) : Int)) = true := by simp; omega
      have e5 : IntKind.wrap IntKind.u64 (((t : Nat) : Int) - ((A : Nat) : Int)) = ((18446744073709551616 - (A - t) : Nat) : Int) := by rw [wrU]; omega
      have e6 : ibits .and .u64 ((18446744073709551616 - (A - t) : Nat) : Int) ((A : Nat) : Int) = ((t + 1 : Nat) : Int) := by
        rw [(uO (by omega) (by omega)).2.1, hA, Nat.and_two_pow_sub_one_eq_mod, nx hm10 (by omega)]
      have hx : ∀ f : Nat, f = cvN A (fun s => quN w s 10) (t + 1) → ∃ j', j' < j ∧ ∃ t', t' ≤ A ∧ j' = A - t' ∧ [some fYe, some (P0 2), some (U ((t + 1 : Nat) : Int))] = [some fYe, some (P0 2), some (U (t' : Nat))] ∧ ([] : List Nat) = [] ∧ osC5 [I (m : Nat), U a0, U a1, U a2, U a3, U a4, U a5, U a6, U a7, U a8, U a9] (A : Nat) (f : Nat) = osC5 [I (m : Nat), U a0, U a1, U a2, U a3, U a4, U a5, U a6, U a7, U a8, U a9] (A : Nat) (cvN A (fun s => quN w s 10) t' : Nat) := fun f hf => ⟨A - (t + 1), by omega, t + 1, by omega, rfl, rfl, rfl, by rw [hf]⟩
      simp only [ne, cond_true, e5, e6] at hn
      by_cases c2 : popN 16 t < popN 16 (cvN A (fun s => quN w s 10) t)
      · simp only [decide_eq_true c2, cond_true] at hn
        cases hq1 : quN w (anN A t) 10 with
        | true =>
          rw [hq1, if_pos ⟨c2, rfl⟩] at hS
          simp only [hq1, cond_true] at hn
          exact Eq.trans (hn _ _ _) (qq_ok (hx t hS.symm))
        | false =>
          rw [hq1, if_neg (by simp)] at hS
          simp only [hq1, cond_false] at hn
          exact Eq.trans (hn _ _ _) (qq_ok (hx _ hS.symm))
      · rw [if_neg (fun h => c2 h.1)] at hS
        simp only [decide_eq_false c2, cond_false] at hn
        exact Eq.trans (hn _ _ _) (qq_ok (hx _ hS.symm))
  · rintro vs ms os ⟨rfl, rfl, rfl⟩
    exact ⟨.tuple ⟨[]⟩, mkA (osC5 [I (m : Nat), U a0, U a1, U a2, U a3, U a4, U a5, U a6, U a7, U a8, U a9] (A : Nat) (cvN A (fun s => quN w s 10) (A + 1) : Nat)), by kernel_rfl, rfl⟩


theorem cover_ok (r : Mem) (hm : ∀ b j u, tabM b j = some u → r b j = some u) (m : Nat) (hm10 : m ≤ 10) (ws : List Nat) (hl : ws.length = 10) (hw : ∀ w ∈ ws, w < 65536) :
    GrT Tryd.prog r 27 [.agg ⟨pgC (m : Nat) ws⟩] (U (cvN (2 ^ m - 1) (fun s => quN (fun i => ws.getD i 0) s 10) (2 ^ m - 1) : Nat)) := by
  have hcn := pgC_nn (m : Nat) ws
  have sm : ∀ l : List Value, m_same l l = true := same_rfl
  have eA := all_eq (m := m) (by omega)
  have hg := gr_ok r hm m hm10 ws hl hw (2 ^ m - 1) rfl
  rw [cv_last] at hg
  obtain ⟨a0, a1, a2, a3, a4, a5, a6, a7, a8, a9, _, hp⟩ := pgC10 (m : Nat) hl
  have ht := tIs_ok r hm m hm10 ws hl hw hp rfl
  generalize (fun (i : Nat) => ws.getD i 0) = w at *
  generalize 2 ^ m - 1 = A at *
  rw [hp] at hcn hg ⊢
  generalize cvN A (fun s => quN w s 10) A = f at *
  refine GrT.ofS (C := SC r) rfl rfl rfl (callRg (SC_ok r) (by kernel_rfl) ((bodySC r _).trans Co_eq) (nt := 26) (by kernel_rfl) (rs := [.tmp 2]) (by kernel_rfl) 1567 rfl (.step (.step .base)) ht (tm := .nil) (L := 1) (d := 3)
    ⟨lvCo, [.g, .g, .g], fun vs ms os => vs = [some (P0 0), some (P0 1), some fGr] ∧ ms = [] ∧ os = osFo [I (m : Nat), U a0, U a1, U a2, U a3, U a4, U a5, U a6, U a7, U a8, U a9] (A : Nat) (A : Nat)⟩
    ⟨[3], [], fun vs ms os => vs = [some (P0 0)] ∧ ms = [1] ∧ os = [some (.cells [U (f : Nat)] 51 0 0), some .defd]⟩
    ⟨[2], [], fun vs ms os => vs = [some (U (f : Nat))] ∧ ms = [0] ∧ os = [some .defd]⟩ ?_ ?_ ?_ ?_)
  · have hn := coA r (m : Nat) a0 a1 a2 a3 a4 a5 a6 a7 a8 a9 (fun s => quN w s.toNat 10)
    simp only [sm, eA, hcn, nn1, Bool.and_true, cond_true] at hn
    exact (hn _ _ _).trans (qq_ok ⟨rfl, rfl, rfl⟩)
  · rintro vs ms os ⟨rfl, rfl, rfl⟩
    refine ⟨49, [], [P0 2], _, rfl, by kernel_rfl, hg, ?_⟩
    rintro v A' rfl
    refine ⟨⟨enCo, [3], K5 [I (m : Nat), U a0, U a1, U a2, U a3, U a4, U a5, U a6, U a7, U a8, U a9] (A : Nat) (f : Nat)⟩, by kernel_rfl, ?_⟩
    have hn := coD [I (m : Nat), U a0, U a1, U a2, U a3, U a4, U a5, U a6, U a7, U a8, U a9] (A : Nat) (f : Nat)
    refine Eq.trans (hn fun vs ms os => qq (vs = [some (P0 0)] ∧ ms = [1] ∧ os = [some (.cells [U (f : Nat)] 51 0 0), some .defd])) ?_
    exact qq_ok ⟨rfl, rfl, rfl⟩
  · rintro vs ms os ⟨rfl, rfl, rfl⟩
    exact ⟨_, TOk.nil, .nil, 1, 1, 1, (coF r _ _ _ _ _).trans (qq_ok ⟨rfl, rfl, rfl⟩)⟩
  · rintro vs ms os ⟨rfl, rfl, rfl⟩
    exact ⟨_, _, rfl, rfl⟩

end Go.Proofs

/- Chapter 8: the example calls, run. -/
namespace Go.Proofs
open Go Go.Ev
set_option linter.unusedVariables false
set_option linter.unusedSimpArgs false
set_option maxRecDepth 100000

def mskV : Tr Nat := (.node (.node (.node (.node (.node (.node (.node .nil (some 7) .nil) none .nil) (some 1807) (.node (.node .nil (some 0) .nil) none .nil)) (some 4039) (.node (.node (.node .nil (some 0) .nil) (some 63) .nil) (some 61) (.node (.node .nil (some 0) .nil) (some 4083) .nil))) (some 16327) (.node (.node (.node (.node .nil (some 11) .nil) (some 5) .nil) none (.node (.node .nil (some 0) .nil) none .nil)) (some 51) (.node (.node (.node .nil (some 0) .nil) (some 123) .nil) (some 1055) (.node .nil (some 5) .nil)))) none (.node (.node (.node (.node (.node .nil (some 5) .nil) (some 65519) .nil) (some 243) (.node (.node .nil (some 0) .nil) (some 11) .nil)) (some 967) (.node (.node (.node .nil (some 0) .nil) none .nil) (some 7) (.node (.node .nil (some 0) .nil) (some 5) .nil))) (some 8135) (.node (.node (.node (.node .nil (some 0) .nil) (some 7) .nil) (some 2023) (.node (.node .nil (some 0) .nil) none .nil)) (some 29) (.node (.node (.node .nil (some 0) .nil) (some 31) .nil) (some 1842639) (.node .nil (some 5) .nil))))) none (.node (.node (.node (.node (.node (.node .nil (some 5) .nil) none .nil) (some 1991) (.node (.node .nil (some 0) .nil) (some 7) .nil)) (some 499) (.node (.node (.node .nil (some 0) .nil) none .nil) none (.node (.node .nil (some 0) .nil) (some 16778495) .nil))) (some 524231) (.node (.node (.node (.node .nil (some 5) .nil) (some 631) .nil) (some 2035) (.node (.node .nil (some 0) .nil) (some 13) .nil)) (some 243) (.node (.node (.node .nil (some 0) .nil) (some 15) .nil) (some 29) (.node .nil (some 5) .nil)))) none (.node (.node (.node (.node (.node .nil (some 5) .nil) (some 83) .nil) (some 8135) (.node (.node .nil (some 0) .nil) (some 5) .nil)) (some 5) (.node (.node (.node .nil (some 0) .nil) (some 127) .nil) (some 23) (.node (.node .nil (some 0) .nil) (some 11) .nil))) (some 8167) (.node (.node (.node (.node .nil (some 0) .nil) (some 5) .nil) (some 1935) (.node (.node .nil (some 0) .nil) (some 159) .nil)) (some 4095) (.node (.node (.node .nil (some 0) .nil) (some 19) .nil) (some 431) (.node .nil (some 115) .nil))))))
/-- The concrete evaluator. -/
noncomputable abbrev CC (r : Mem) : Cfg := Cfg.ofRo Tryd.prog r
theorem CC_ok (r : Mem) : (CC r).Ok := Cfg.ofRo_ok evMixed evNames r

end Go.Proofs

/- Chapter 8: the example calls answer true. -/
namespace Go.Proofs
open Go Go.Ev
set_option linter.unusedVariables false
set_option linter.unusedSimpArgs false
set_option maxRecDepth 100000

theorem awake8 : GrT Tryd.prog tabM 14 [] (.bool true) := GrT.of (CC_ok tabM) TOk.nil mskV rfl ⟨1000, 40, by kernel_rfl⟩

end Go.Proofs

