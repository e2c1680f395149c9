/- The same evaluator, a function's code turned into functions first. -/
import Derived.Test.YtdalaifnhppidaaDoorEvTab
namespace Go.Ev
open Go

structure Box (α : Type) where
 f : α

abbrev KV := Value → AW → CR
abbrev KS := List (Nat × Value) → Tr Value → List Nat → AW → CR

structure FnsC where
 call : Nat → List Value → AW → KV → CR
 yield : Nat → List Value → AW → KV → CR

def fnat {β : Type} (m : Nat) (c : Nat → β) : β :=
 match m with
 | 0 => c 0
 | m + 1 => c (Nat.succ m)

def fval {β : Type} (v : Value) (c : Value → β) : β :=
 match v with
 | .bool true => c (.bool true)
 | .bool false => c (.bool false)
 | .int k (.ofNat m) => fnat m fun m => c (.int k (.ofNat m))
 | .int k (.negSucc m) => fnat m fun m => c (.int k (.negSucc m))
 | v => c v

def fboo {β : Type} (v : Value) (c : Value → β) : β :=
 match v with
 | .bool true => c (.bool true)
 | .bool false => c (.bool false)
 | v => c v

def fany {β : Type} (sy : Bool) (v : Value) (c : Value → β) : β :=
 match sy with
 | true => fboo v c
 | false => fval v c

/-! ### operands -/

def trGet : Nat → Nat → Box (Tr Value → (Value → CR) → CR)
 | 0, _ => ⟨fun _ _ => .fail 202⟩
 | d + 1, k => match k with
  | 0 => ⟨fun t c => match t with | .node _ (some v) _ => c v | _ => .fail 202⟩
  | k + 1 => match Nat.beq (Nat.mod k 2) 0, trGet d (Nat.div k 2) with
   | true, ⟨g⟩ => ⟨fun t c => match t with | .node l _ _ => g l c | .nil => .fail 202⟩
   | false, ⟨g⟩ => ⟨fun t c => match t with | .node _ _ r => g r c | .nil => .fail 202⟩

def trPut : Nat → Nat → Box (Tr Value → Value → (Tr Value → CR) → CR)
 | 0, _ => ⟨fun t _ c => c t⟩
 | d + 1, k => match k with
  | 0 => ⟨fun t v c => match t with | .node l _ r => c (.node l (some v) r) | .nil => c (.node .nil (some v) .nil)⟩
  | k + 1 => match Nat.beq (Nat.mod k 2) 0, trPut d (Nat.div k 2) with
   | true, ⟨g⟩ => ⟨fun t v c => match t with | .node l x r => g l v fun l => c (.node l x r) | .nil => g .nil v fun l => c (.node l none .nil)⟩
   | false, ⟨g⟩ => ⟨fun t v c => match t with | .node l x r => g r v fun r => c (.node l x r) | .nil => g .nil v fun r => c (.node .nil none r)⟩

def scanK (t : Nat) (c : Value → CR) : List (Nat × Value) → CR
 | [] => .fail 202
 | (k, v) :: l => match Nat.beq k t with
  | true => c v
  | false => scanK t c l

def cOpd (m : Nat) : Operand → Box (List (Nat × Value) → Tr Value → (Value → CR) → CR)
 | .tmp t => match Nat.testBit m t with
  | true => match trGet (Nat.succ (Nat.log2 (Nat.succ t))) t with
   | ⟨g⟩ => ⟨fun _ b c => g b c⟩
  | false => ⟨fun s _ c => scanK t c s⟩
 | .const v => match gnd v with
  | true => ⟨fun _ _ c => c v⟩
  | false => ⟨fun _ _ _ => .fail 202⟩
 | .global g => ⟨fun _ _ c => c (.pointer (some ⟨g, 0, some 0⟩))⟩
 | .func f => ⟨fun _ _ c => c (.func (.func f) ⟨[]⟩ ⟨[]⟩)⟩

def cOpds (m : Nat) : List Operand → Box (List (Nat × Value) → Tr Value → (List Value → CR) → CR)
 | [] => ⟨fun _ _ c => c []⟩
 | x :: l => match cOpd m x, cOpds m l with
  | ⟨g⟩, ⟨h⟩ => ⟨fun s b c => g s b fun v => h s b fun vs => c (v :: vs)⟩

def orK (fs : FnsC) (r : OR) (k : KV) : CR :=
 match r with
 | .fail w => .fail w
 | .val v A => k v A
 | .call f args A => fs.call f args A k
 | .yield i args A => fs.yield i args A k

/-! ### operations on values that are not known: what is asked of them stands outermost -/

def guardK (b : Bool) (c : CR) : CR :=
 match b with
 | true => c
 | false => .fail 420

def asNat (n : Int) (c : Nat → CR) : CR := guardK (decide (0 ≤ n)) (c n.toNat)

def m_mulU (a b : Int) : Int :=
 match a with
 | .ofNat 0 => IntKind.wrap .u64 (0 * b)
 | .ofNat (m + 1) => IntKind.wrap .u64 (.ofNat (m + 1) * b)
 | .negSucc m => IntKind.wrap .u64 (.negSucc m * b)
theorem mulU_eq (a b : Int) : m_mulU a b = IntKind.wrap .u64 (a * b) := by
 unfold m_mulU
 split <;> rfl
def m_mulV (a b : Int) : Int :=
 match a with
 | .ofNat 0 => IntKind.wrap .u32 (0 * b)
 | .ofNat (m + 1) => IntKind.wrap .u32 (.ofNat (m + 1) * b)
 | .negSucc m => IntKind.wrap .u32 (.negSucc m * b)
theorem mulV_eq (a b : Int) : m_mulV a b = IntKind.wrap .u32 (a * b) := by
 unfold m_mulV
 split <;> rfl
def binK (C : Cfg) (fs : FnsC) (op : BinOp) (t : Nat) (ox oy : Operand) (x y : Value) (A : AW) (k : KV) : CR :=
 match x, y with
 | .int ka a, .int kb b => match op with
  | .quo => guardK (decide (ka = kb)) (guardK (!decide (b = 0)) (k (.int ka (ka.wrap (a.tdiv b))) A))
  | .rem => guardK (decide (ka = kb)) (guardK (!decide (b = 0)) (k (.int ka (a.tmod b)) A))
  | .shl => guardK (!decide (b < 0)) (k (.int ka (ka.wrap (a * 2 ^ (min b.toNat ka.bits)))) A)
  | .shr => guardK (!decide (b < 0)) (k (.int ka (a.fdiv (2 ^ (min b.toNat ka.bits)))) A)
  | .mul => match ka, kb with
   | .u64, .u64 => k (.int .u64 (m_mulU a b)) A
   | .u32, .u32 => k (.int .u32 (m_mulV a b)) A
   | _, _ => orK fs (doBin C op t ox oy x y A) k
  | _ => orK fs (doBin C op t ox oy x y A) k
 | .string a, .string b => match op with
  | .add => guardK (Nat.ble (Nat.add a.data.toList.length b.data.toList.length) 9223372036854775807) (k (.string ⟨⟨a.data.toList ++ b.data.toList⟩⟩) A)
  | _ => orK fs (doBin C op t ox oy x y A) k
 | _, _ => orK fs (doBin C op t ox oy x y A) k

def m_rune (s : ByteArray) (pos : Nat) : Nat := (Utf8.decode s pos).1
def m_width (s : ByteArray) (pos : Nat) : Nat := (Utf8.decode s pos).2

def nextK (x : Value) (isString : Bool) (A : AW) (k : KV) : CR :=
 match x, isString with
 | .pointer (some ⟨i, 0, none⟩), true => match A.heap.get i with
  | some (.siter s pos) => match Nat.blt pos s.size with
   | true => k (.tuple ⟨[.bool true, .int .i64 (.ofNat pos), .int .i32 (.ofNat (m_rune s pos))]⟩) { A with heap := A.heap.put i (some (.siter s (Nat.add pos (m_width s pos)))) }
   | false => k (.tuple ⟨[.bool false]⟩) A
  | _ => .fail 161
 | x, false => match doNext x false A with
  | .val v A' => k v A'
  | _ => .fail 166
 | _, _ => .fail 162

def indexAddrK (C : Cfg) (fs : FnsC) (t : Nat) (x ix : Value) (A : AW) (k : KV) : CR :=
 match x, ix with
 | .slice (some ⟨i, k0, s⟩) len _, .int _ n => match C.under t with
  | some (.slice e) => match C.tys.get e with
   | some inf => asNat n fun n => guardK (Nat.blt n len) (k (.pointer (some ⟨i, Nat.add k0 (Nat.mul n inf.size), s⟩)) A)
   | none => .fail 421
  | _ => .fail 422
 | .pointer (some ⟨i, k0, s⟩), .int _ n => match C.under t with
  | some (.array len e) => match C.tys.get e with
   | some inf => asNat n fun n => guardK (Nat.blt n len) (k (.pointer (some ⟨i, Nat.add k0 (Nat.mul n inf.size), s⟩)) A)
   | none => .fail 421
  | _ => .fail 422
 | _, _ => orK fs (doIndexAddr C t x ix A) k

def isI (k : IntKind) (v : Value) : Bool :=
 match v with
 | .int k' _ => decide (k' = k)
 | _ => false
def ofI (v : Value) : Int :=
 match v with
 | .int _ n => n
 | _ => 0
def isB (v : Value) : Bool :=
 match v with
 | .bool _ => true
 | _ => false
def ofB (v : Value) : Bool :=
 match v with
 | .bool b => b
 | _ => false
def isS (v : Value) : Bool :=
 match v with
 | .string _ => true
 | _ => false
def ofS (v : Value) : ByteArray :=
 match v with
 | .string s => s
 | _ => .empty

def isNilS (v : Value) : Bool :=
 match v with
 | .slice none 0 0 => true
 | _ => false
def isRoS (v : Value) : Bool :=
 match v with
 | .slice (some ⟨_, _, some 0⟩) _ _ => true
 | _ => false
def isES (v : Value) : Bool :=
 match v with
 | .slice (some ⟨0, 0, none⟩) 0 c => Nat.beq c unkE
 | _ => false
def isOwnS (v : Value) : Bool :=
 match v with
 | .slice (some ⟨_, _, none⟩) _ _ => true
 | _ => false
def isOwnJ (j : Nat) (v : Value) : Bool :=
 match v with
 | .slice (some ⟨i, 0, none⟩) _ _ => Nat.beq i j
 | _ => false
def blkOf (v : Value) : Nat :=
 match v with
 | .slice (some a) _ _ => a.block
 | _ => 0
def offOf (v : Value) : Nat :=
 match v with
 | .slice (some a) _ _ => a.off
 | _ => 0
def lnOf (v : Value) : Nat :=
 match v with
 | .slice _ l _ => l
 | _ => 0
def cpOf (v : Value) : Nat :=
 match v with
 | .slice _ _ c => c
 | _ => 0

def typed (d : TypeDesc) (v : Value) (c : Value → CR) : CR :=
 match d with
 | .int k => guardK (isI k v) (c (.int k (ofI v)))
 | .bool => guardK (isB v) (c (.bool (ofB v)))
 | .string => guardK (isS v) (c (.string (ofS v)))
 | .slice _ => match isNilS v with
  | true => c (.slice none 0 0)
  | false => match isRoS v with
   | true => c (.slice (some ⟨blkOf v, offOf v, some 0⟩) (lnOf v) (cpOf v))
   | false => match isES v with
    | true => c (.slice (some ⟨0, 0, none⟩) 0 unkE)
    | false => match isOwnS v with
     | true => c (.slice (some ⟨blkOf v, offOf v, none⟩) (lnOf v) (cpOf v))
     | false => .fail 424
 | _ => c v

/-- The same, slices being nil, or memory that is only read, or empty, if it is told. -/
def typedS (sh : Nat) (d : TypeDesc) (v : Value) (c : Value → CR) : CR :=
 match sh, d with
 | 1, .slice _ => guardK (isNilS v) (c (.slice none 0 0))
 | 2, .slice _ => guardK (isRoS v) (c (.slice (some ⟨blkOf v, offOf v, some 0⟩) (lnOf v) (cpOf v)))
 | 3, .slice _ => guardK (isES v) (c (.slice (some ⟨0, 0, none⟩) 0 unkE))
 | sh + 4, .slice e => match Nat.beq e (Nat.div sh 64) with
  | true => guardK (isOwnJ (Nat.mod sh 64) v) (c (.slice (some ⟨Nat.mod sh 64, 0, none⟩) (lnOf v) (cpOf v)))
  | false => typed d v c
 | _, _ => typed d v c

def leavesL (g : Nat → Option (List TypeDesc)) : List Field → Option (List TypeDesc)
 | [] => some []
 | f :: l => match g f.type, leavesL g l with
  | some a, some b => some (a ++ b)
  | _, _ => none

def leaves (C : Cfg) : Nat → Nat → Option (List TypeDesc)
 | 0, _ => none
 | d + 1, t => match C.under t with
  | some (.array n e) => match leaves C d e with
   | some l => some (List.replicate n l).flatten
   | none => none
  | some (.struct ⟨fs⟩) => leavesL (leaves C d) fs
  | some x => some [x]
  | none => none

def loadsK (g : Nat → Option Value) : List TypeDesc → Nat → (List Value → CR) → CR
 | [], _, c => c []
 | d :: l, k, c => match g k with
  | some v => typed d v fun v => loadsK g l (Nat.succ k) fun r => c (v :: r)
  | none => .fail 423

def AW.cell (A : AW) (i k : Nat) : Option Value :=
 match A.heap.get i with
 | some (.cells c _ _ _) => c[k]?
 | _ => none

def loadG (C : Cfg) (fs : FnsC) (t : Nat) (a : Value) (g : Nat → Option Value) (k0 : Nat) (A : AW) (k : KV) : CR :=
 match C.under t with
 | some d => match isAggD d with
  | true => match leaves C 20 t, C.tys.get t with
   | some ds, some inf => match Nat.beq ds.length inf.size, Nat.blt 0 inf.size with
    | true, true => loadsK g ds k0 fun l => k (.agg ⟨l⟩) A
    | _, _ => orK fs (doLoad C t a A) k
   | _, _ => orK fs (doLoad C t a A) k
  | false => match g k0 with
   | some v => typedS C.sh d v fun v => k v A
   | none => .fail 423
 | none => .fail 425

def loadK (C : Cfg) (fs : FnsC) (t : Nat) (a : Value) (A : AW) (k : KV) : CR :=
 match a with
 | .pointer (some ⟨i, k0, s⟩) => match s with
  | none => loadG C fs t (.pointer (some ⟨i, k0, none⟩)) (A.cell i) k0 A k
  | some m => loadG C fs t (.pointer (some ⟨i, k0, some m⟩)) (C.ro i) k0 A k
 | _ => .fail 426

def oneLoc (C : Cfg) (t : Nat) (x : Value) : Bool :=
 match C.tys.get t with
 | some inf => match x with
  | .agg _ => false
  | .tuple _ => false
  | _ => Nat.beq 1 inf.size
 | none => false

def putK (A : AW) (i k0 : Nat) (vs : List Value) (c : AW → CR) : CR :=
 match A.heap.get i with
 | some (.cells l e f z) => match ones vs with
  | true => match setAt l k0 vs with
   | some l' => c (A.only f i (.cells l' e f z))
   | none => .fail 450
  | false => .fail 451
 | _ => .fail 452

def makeSliceK (C : Cfg) (fs : FnsC) (t : Nat) (l c : Value) (A : AW) (k : KV) : CR :=
 match l, c with
 | .int _ l, .int _ c => match C.under t with
  | some (.slice e) => match C.tys.get e with
   | some inf => match inf.zero with
    | some z => match gnds (vcells z), Nat.ble inf.bytes 1000000, Nat.beq inf.size 0 with
     | true, true, false => asNat l fun l => asNat c fun c => guardK (Nat.ble l c) (guardK (Nat.ble c 1000000) (k (.slice (some ⟨A.next, 0, none⟩) l c) (A.new (.cells (zerosL (Nat.mul c inf.size) (vcells z)) e A.next inf.size))))
     | _, _, _ => .fail 456
    | none => .fail 457
   | none => .fail 458
  | _ => .fail 459
 | _, _ => orK fs (doMakeSlice C t l c A) k

def copyK (C : Cfg) (fs : FnsC) (ts : List TypeId) (args : List Value) (A : AW) (k : KV) : CR :=
 match ts, args with
 | t :: _, [.slice a dl cap, x] => match C.under t with
  | some (.slice e) => match C.tys.get e, lenOfV x with
   | some inf, some sl => match srcCells C A inf.size (Nat.min sl dl) x with
    | some cs => match a with
     | none => k (.int .i64 (.ofNat (Nat.min sl dl))) A
     | some ⟨i, k0, none⟩ => match Nat.beq cap unkE with
      | true => match Nat.beq dl 0, cs with
       | true, [] => k (.int .i64 (.ofNat (Nat.min sl dl))) A
       | _, _ => .fail 460
      | false => putK A i k0 cs fun A' => k (.int .i64 (.ofNat (Nat.min sl dl))) A'
     | some ⟨_, _, some _⟩ => .fail 461
    | none => .fail 462
   | _, _ => .fail 463
  | _ => .fail 464
 | _, _ => orK fs (doCopy C ts args A) k

def byteOf (v : Value) : UInt8 := UInt8.ofNat (ofI v).toNat

def bytesK (vs : List Value) (c : ByteArray → CR) : CR := guardK (vs.all (isI .u8)) (c ⟨⟨vs.map byteOf⟩⟩)

def runesK (vs : List Value) (c : ByteArray → CR) : CR := guardK (vs.all isR) (c ⟨⟨vs.map byteOf⟩⟩)

def convertK (C : Cfg) (fs : FnsC) (s d : Nat) (x : Value) (A : AW) (k : KV) : CR :=
 match x with
 | .slice (some ⟨i, k0, none⟩) len c => match C.under s, C.under d with
  | some (.slice e), some .string => match C.under e with
   | some (.int .u8) => match Nat.beq len 0 with
    | true => k (.string .empty) A
    | false => match Nat.beq c unkE with
     | true => .fail 470
     | false => match A.load i k0 len with
      | some vs => bytesK vs fun b => k (.string b) A
      | none => .fail 471
   | some (.int .i32) => match Nat.beq len 0 with
    | true => k (.string .empty) A
    | false => match Nat.beq c unkE with
     | true => .fail 480
     | false => match A.load i k0 len with
      | some vs => runesK vs fun b => k (.string b) A
      | none => .fail 481
   | _ => .fail 472
  | _, _ => .fail 473
 | _ => orK fs (doConvert C s d x A) k

def uStringK (C : Cfg) (fs : FnsC) (ts : List TypeId) (args : List Value) (A : AW) (k : KV) : CR :=
 match args with
 | [.pointer (some ⟨i, k0, none⟩), .int _ n] => asNat n fun n => match Nat.beq n 0 with
  | true => k (.string .empty) A
  | false => match A.heap.get i, ts with
   | some (.cells c e f _), pt :: _ => match C.under pt, C.tys.get e with
    | some (.pointer u), some inf => match Nat.beq e u, Nat.beq inf.size 1 with
     | true, true => guardK (Nat.ble n 9223372036854775807) (match takeAt c k0 n with
      | some vs => bytesK vs fun s => k (.string s) { A with heap := A.heap.strike (A.members f) }
      | none => .fail 474)
     | _, _ => .fail 475
    | _, _ => .fail 476
   | _, _ => .fail 477
 | _ => orK fs (doUString C ts args A) k

def sliceDataK (fs : FnsC) (args : List Value) (A : AW) (k : KV) : CR :=
 match args with
 | [.slice (some ⟨i, k0, none⟩) l c] => guardK (!Nat.beq l 0) (match Nat.beq c unk, Nat.beq c 0, Nat.beq c unkE with
  | true, _, false => k (.pointer (some ⟨i, k0, none⟩)) A
  | false, false, false => k (.pointer (some ⟨i, k0, none⟩)) A
  | _, _, _ => .fail 478)
 | _ => orK fs (doSliceData args A) k

def storeK (C : Cfg) (t : Nat) (a x : Value) (A : AW) (k : KV) : CR :=
 match a with
 | .pointer (some ⟨i, k0, none⟩) => match oneLoc C t x with
  | true => match A.heap.get i with
   | some (.cells c e f z) => guardK (Nat.blt k0 c.length) (k undef (A.only f i (.cells (c.set k0 x) e f z)))
   | _ => .fail 427
  | false => match C.tys.get t with
   | some inf => match Nat.beq (vcells x).length inf.size with
    | true => putK A i k0 (vcells x) (k undef)
    | false => .fail 454
   | none => .fail 455
 | _ => .fail 428

def bdK (o : Option Value) (d : Nat) (c : Nat → CR) : CR :=
 match o with
 | none => c d
 | some (.int _ n) => asNat n c
 | some _ => .fail 431

def cutK (sz : Nat) (a : Option Addr) (len cap l h : Nat) (hi : Bool) (A : AW) (k : KV) : CR :=
 match a with
 | none => guardK (Nat.beq cap 0) (guardK (Nat.ble l h) (guardK (Nat.ble h 0) (k (.slice none 0 0) A)))
 | some ⟨i, k0, none⟩ => match Nat.beq cap unkE, Nat.beq cap unk with
  | true, _ => match Nat.beq len 0, Nat.beq l 0, Nat.beq h 0 with
   | true, true, true => k (.slice (some ⟨i, k0, none⟩) 0 unkE) A
   | _, _, _ => .fail 432
  | false, false => guardK (Nat.ble l h) (guardK (Nat.ble h (Nat.min cap 1000000000000)) (guardK (Nat.ble cap (Nat.min cap 1000000000000)) (match Nat.beq cap l with
   | true => k (.slice (some ⟨i, k0, none⟩) (Nat.sub h l) (Nat.sub cap l)) A
   | false => k (.slice (some ⟨i, Nat.add k0 (Nat.mul l sz), none⟩) (Nat.sub h l) (Nat.sub cap l)) A)))
  | false, true => match hi with
   | _ => guardK (Nat.ble l h) (guardK (Nat.ble h len) (match Nat.beq l 0 with
    | true => k (.slice (some ⟨i, k0, none⟩) h unk) A
    | false => match Nat.blt l len with
     | true => match A.heap.get i with
      | some (.cells _ _ _ z) => match Nat.beq z sz with
       | true => k (.slice (some ⟨i, Nat.add k0 (Nat.mul l sz), none⟩) (Nat.sub h l) unk) A
       | false => .fail 433
      | _ => .fail 434
     | false => k (.slice (some ⟨i, k0, none⟩) 0 unkE) A))
 | some ⟨b, k0, some s⟩ => match Nat.beq cap unkE with
  | true => .fail 435
  | false => guardK (Nat.ble l h) (guardK (Nat.ble h cap) (match Nat.beq h l with
   | true => k (.slice (some ⟨0, 0, none⟩) 0 unkE) A
   | false => k (.slice (some ⟨b, Nat.add k0 (Nat.mul l sz), some s⟩) (Nat.sub h l) (Nat.sub cap l)) A))

def sliceCK (C : Cfg) (fs : FnsC) (t : Nat) (x : Value) (lo hi : Option Value) (A : AW) (k : KV) : CR :=
 match x with
 | .string s => match C.under t with
  | some .string => bdK lo 0 fun l => bdK hi s.data.toList.length fun h => guardK (Nat.ble l h) (guardK (Nat.ble h s.data.toList.length) (k (.string ⟨⟨(s.data.toList.drop l).take (Nat.sub h l)⟩⟩) A))
  | _ => .fail 436
 | .slice a len cap => match C.under t with
  | some (.slice e) => match C.tys.get e with
   | some inf => bdK lo 0 fun l => bdK hi len fun h => cutK inf.size a len cap l h hi.isSome A k
   | none => .fail 437
  | _ => .fail 438
 | _ => orK fs (doSliceAny C t x lo hi none A) k

def appUK (C : Cfg) (e sz i k0 len n : Nat) (new : List Value) (A : AW) (k : KV) : CR :=
 match Nat.beq n 0 with
 | true => k (.slice (some ⟨i, k0, none⟩) len unk) A
 | false => match A.heap.get i with
  | some (.cells c e' f z) => guardK (ones new) (guardK (Nat.beq e' e) (guardK (Nat.beq z sz) (match takeAt c k0 (Nat.mul len sz) with
   | some old => (match Nat.beq k0 0 with
    | true => k (.slice (some ⟨A.next, 0, none⟩) (Nat.add len n) unk) (A.grow C.sy f (Nat.mul len sz) (.cells (old ++ new) e' f z))
    | false => guardK (Nat.beq (Nat.mod k0 sz) 0) (k (.slice (some ⟨A.next, 0, none⟩) (Nat.add len n) unk) (A.grow true f (Nat.mul len sz) (.cells (old ++ new) e' f z))))
   | none => .fail 439)))
  | _ => .fail 440

def appK (C : Cfg) (fs : FnsC) (ts : List TypeId) (args : List Value) (A : AW) (k : KV) : CR :=
 match ts, args with
 | [t, tx], [.slice a len cap, x] => match C.under t, C.under tx with
  | some (.slice e), some dx => match C.tys.get e, lenOfV x with
   | some inf, some n => match isSrc dx, Nat.ble inf.bytes 1000000, inf.zero with
    | true, true, some z => match Nat.beq (vcells z).length inf.size with
     | true => guardK (Nat.ble (Nat.add len n) 1000000) (match srcCells C A inf.size n x with
      | some new => guardK (Nat.beq new.length (Nat.mul n inf.size)) (match a with
       | none => match Nat.beq n 0 with
        | true => k (.slice none 0 0) A
        | false => k (.slice (some ⟨A.next, 0, none⟩) n unk) (A.new (.cells new e A.next inf.size))
       | some ⟨i, k0, none⟩ => match Nat.beq cap unkE, Nat.beq cap unk with
        | true, _ => .fail 441
        | false, false => orK fs (appendK e inf.size i k0 len cap n new A) k
        | false, true => appUK C e inf.size i k0 len n new A k
       | some ⟨_, _, some _⟩ => .fail 442)
      | none => .fail 443)
     | false => .fail 444
    | _, _, _ => .fail 445
   | _, _ => .fail 446
  | _, _ => .fail 447
 | _, _ => .fail 448

def minK (C : Cfg) (fs : FnsC) (b : Builtin) (ts : Array TypeId) (ty : Nat) (args : List Value) (A : AW) (k : KV) : CR :=
 match b, args with
 | .min, [.int ka x, .int _ y] => k (.int ka (bif decide (y < x) then y else x)) A
 | .max, [.int ka x, .int _ y] => k (.int ka (bif decide (y > x) then y else x)) A
 | _, _ => orK fs (doBuiltin C b ts ty args A) k

def builtinK (C : Cfg) (fs : FnsC) (b : Builtin) (ts : Array TypeId) (ty : Nat) (args : List Value) (A : AW) (k : KV) : CR :=
 match b with
 | .append => appK C fs ts.toList args A k
 | .copy => copyK C fs ts.toList args A k
 | .unsafeString => match Nat.blt 0 ts.size with
  | true => uStringK C fs ts.toList args A k
  | false => .fail 479
 | .unsafeSliceData => sliceDataK fs args A k
 | .min => minK C fs .min ts ty args A k
 | .max => minK C fs .max ts ty args A k
 | b => orK fs (doBuiltin C b ts ty args A) k

def cOpdO (m : Nat) : Option Operand → Box (List (Nat × Value) → Tr Value → (Option Value → CR) → CR)
 | none => ⟨fun _ _ c => c none⟩
 | some x => match cOpd m x with | ⟨g⟩ => ⟨fun s b c => g s b fun v => c (some v)⟩

def atK (C : Cfg) (fs : FnsC) (t : Nat) (x ix : Value) (A : AW) (k : KV) : CR :=
 match x, ix with
 | .string s, .int _ n => match C.under t with
  | some .string => asNat n fun n => match s.data.toList[n]? with
   | some b => k (.int .u8 (.ofNat b.toNat)) A
   | none => .fail 429
  | _ => .fail 430
 | _, _ => orK fs (doIndex C t x ix A) k

/-! ### operations -/

/-! ### maps of which not all is known -/

def mapR (P : Program) (em : Bool) (kt : Nat) (es : List MapEntry) (k : Value) : Option (Option (Nat × Value)) :=
 match keysG es, gnd k, plain? P (Instr.checkKey em 10000 kt k), plain? P (Instr.findKey kt k es) with
 | true, true, some _, some r => some r
 | _, _, _, _ => none
def m_putG (P : Program) (kt : Nat) (es : List MapEntry) (k : Value) : Bool :=
 match mapR P false kt es k with
 | some (some (j, _)) => match es[j]? with
  | some e => Instr.sameBits 10000 e.key k
  | none => false
 | some none => true
 | none => false
def m_put (P : Program) (kt : Nat) (es : List MapEntry) (k v : Value) (clock : Nat) : List MapEntry :=
 match mapR P false kt es k with
 | some (some (j, _)) => setE k v es j
 | _ => es ++ [{ key := k, val := v, born := clock }]
def m_clk (P : Program) (kt : Nat) (es : List MapEntry) (k : Value) (clock : Nat) : Nat :=
 match mapR P false kt es k with
 | some (some _) => clock
 | _ => Nat.succ clock
def m_getG (P : Program) (kt : Nat) (es : List MapEntry) (k : Value) : Bool :=
 match mapR P (isNilL es) kt es k with
 | some _ => true
 | none => false
def m_has (P : Program) (kt : Nat) (es : List MapEntry) (k : Value) : Bool :=
 match mapR P (isNilL es) kt es k with
 | some (some _) => true
 | _ => false
def m_val (P : Program) (kt : Nat) (es : List MapEntry) (k : Value) : Value :=
 match mapR P (isNilL es) kt es k with
 | some (some (_, v)) => v
 | _ => undef

def mapUpdateK (C : Cfg) (fs : FnsC) (t : Nat) (m k v : Value) (A : AW) (c : KV) : CR :=
 match m with
 | .map (some i) => match A.heap.get i with
  | some (.map es clock) => match C.under t with
   | some (.map kt _) => guardK (m_putG C.P kt es k) (c undef { A with heap := A.heap.put i (some (.map (m_put C.P kt es k v clock) (m_clk C.P kt es k clock))) })
   | _ => .fail 490
  | _ => .fail 491
 | _ => orK fs (doMapUpdate C t m k v A) c

def okV (ok : Bool) (v : Value) (b : Bool) : Value :=
 match ok with
 | true => .tuple ⟨[v, .bool b]⟩
 | false => v
def lookupK (C : Cfg) (fs : FnsC) (t : Nat) (x k : Value) (ok : Bool) (A : AW) (c : KV) : CR :=
 match x with
 | .map (some i) => match A.heap.get i with
  | some (.map es _) => match C.under t with
   | some (.map kt et) => match C.under et, C.tys.get et with
    | some d, some inf => match inf.zero with
     | some z => match gnd z with
      | true => guardK (m_getG C.P kt es k) (match m_has C.P kt es k with
       | true => typed d (m_val C.P kt es k) fun v => c (okV ok v true) A
       | false => c (okV ok z false) A)
      | false => .fail 492
     | none => .fail 493
    | _, _ => .fail 494
   | _ => .fail 495
  | _ => .fail 496
 | _ => orK fs (doLookup C t x k ok A) c
abbrev OpC := FnsC → List (Nat × Value) → Tr Value → AW → KV → CR

def cGen (C : Cfg) (m : Nat) (o : Oper) : OpC := fun fs s b A k =>
 match avail m ⟨s, b⟩ o.op.operands.toList with
 | true => orK fs (doOp C (rho m ⟨s, b⟩) o A) k
 | false => .fail 202

def cOp (C : Cfg) (m : Nat) (o : Oper) : Box OpC :=
 match o.op with
 | .move x => match cOpd m x with | ⟨g⟩ => ⟨fun _ s b A k => g s b fun v => k v A⟩
 | .assign x => match cOpd m x with | ⟨g⟩ => ⟨fun _ s b A k => g s b fun v => k v A⟩
 | .load t a => match cOpd m a with | ⟨g⟩ => match C.sy with
  | true => ⟨fun fs s b A k => g s b fun v => loadK C fs t v A k⟩
  | false => ⟨fun fs s b A k => g s b fun v => orK fs (doLoad C t v A) k⟩
 | .store t a x => match cOpd m a, cOpd m x with | ⟨g⟩, ⟨h⟩ => match C.sy with
  | true => ⟨fun _ s b A k => g s b fun v => h s b fun w => storeK C t v w A k⟩
  | false => ⟨fun fs s b A k => g s b fun v => h s b fun w => orK fs (doStore C t v w A) k⟩
 | .nilCheck x => match cOpd m x with | ⟨g⟩ => ⟨fun fs s b A k => g s b fun v => orK fs (doNilCheck v A) k⟩
 | .binOp op t x y _ => match cOpd m x, cOpd m y with | ⟨g⟩, ⟨h⟩ => match C.sy with
  | true => ⟨fun fs s b A k => g s b fun v => h s b fun w => binK C fs op t x y v w A k⟩
  | false => ⟨fun fs s b A k => g s b fun v => h s b fun w => orK fs (doBin C op t x y v w A) k⟩
 | .unOp op _ x => match cOpd m x with | ⟨g⟩ => ⟨fun fs s b A k => g s b fun v => orK fs (doUn C op v A) k⟩
 | .convert c d x => match cOpd m x with | ⟨g⟩ => match C.sy with
  | true => ⟨fun fs s b A k => g s b fun v => convertK C fs c d v A k⟩
  | false => ⟨fun fs s b A k => g s b fun v => orK fs (doConvert C c d v A) k⟩
 | .makeInterface t x => match cOpd m x with | ⟨g⟩ => ⟨fun fs s b A k => g s b fun v => orK fs (doMakeInterface C t v A) k⟩
 | .fieldAddr t x f => match cOpd m x with | ⟨g⟩ => ⟨fun fs s b A k => g s b fun v => orK fs (doFieldAddr C t v f A) k⟩
 | .field t x f => match cOpd m x with | ⟨g⟩ => ⟨fun fs s b A k => g s b fun v => orK fs (doField C t v f A) k⟩
 | .indexAddr t x i => match cOpd m x, cOpd m i with | ⟨g⟩, ⟨h⟩ => match C.sy with
  | true => ⟨fun fs s b A k => g s b fun v => h s b fun w => indexAddrK C fs t v w A k⟩
  | false => ⟨fun fs s b A k => g s b fun v => h s b fun w => orK fs (doIndexAddr C t v w A) k⟩
 | .index t x i => match cOpd m x, cOpd m i with | ⟨g⟩, ⟨h⟩ => match C.sy with
  | true => ⟨fun fs s b A k => g s b fun v => h s b fun w => atK C fs t v w A k⟩
  | false => ⟨fun fs s b A k => g s b fun v => h s b fun w => orK fs (doIndex C t v w A) k⟩
 | .slice t x lo hi mx => match C.sy, mx with
  | true, none => match cOpd m x, cOpdO m lo, cOpdO m hi with | ⟨g⟩, ⟨gl⟩, ⟨gh⟩ => ⟨fun fs s b A k => g s b fun v => gl s b fun l => gh s b fun h => sliceCK C fs t v l h A k⟩
  | _, _ => ⟨cGen C m o⟩
 | .makeSlice t l c => match C.sy with
  | true => match cOpd m l, cOpd m c with | ⟨g⟩, ⟨h⟩ => ⟨fun fs s b A k => g s b fun v => h s b fun w => makeSliceK C fs t v w A k⟩
  | false => ⟨cGen C m o⟩
 | .next x q => match C.sy with
  | true => match cOpd m x with | ⟨g⟩ => ⟨fun _ s b A k => g s b fun v => nextK v q A k⟩
  | false => ⟨cGen C m o⟩
 | .lookup t x i ok => match C.sy with
  | true => match cOpd m x, cOpd m i with | ⟨g⟩, ⟨h⟩ => ⟨fun fs s b A k => g s b fun v => h s b fun w => lookupK C fs t v w ok A k⟩
  | false => ⟨cGen C m o⟩
 | .mapUpdate t x i y => match C.sy with
  | true => match cOpd m x, cOpd m i, cOpd m y with | ⟨g⟩, ⟨h⟩, ⟨q⟩ => ⟨fun fs s b A k => g s b fun v => h s b fun w => q s b fun u => mapUpdateK C fs t v w u A k⟩
  | false => ⟨cGen C m o⟩
 | .extract x i => match cOpd m x with | ⟨g⟩ => ⟨fun fs s b A k => g s b fun v => orK fs (doExtract v i A) k⟩
 | .call c => match c.callee with
  | .builtin bi => match cOpds m c.args.toList with | ⟨g⟩ => match C.sy with
   | true => ⟨fun fs s b A k => g s b fun vs => builtinK C fs bi c.argTypes o.type vs A k⟩
   | false => ⟨fun fs s b A k => g s b fun vs => orK fs (doBuiltin C bi c.argTypes o.type vs A) k⟩
  | .value (.func f) => match cOpds m c.args.toList, hasBody C f with
   | ⟨g⟩, true => ⟨fun fs s b A k => g s b fun vs => fs.call f vs A k⟩
   | _, false => ⟨cGen C m o⟩
  | _ => ⟨cGen C m o⟩
 | _ => ⟨cGen C m o⟩

def cPut (C : Cfg) (m n : Nat) : Option Nat → Box (List (Nat × Value) → Tr Value → Value → (List (Nat × Value) → Tr Value → CR) → CR)
 | none => ⟨fun s b _ c => c s b⟩
 | some t => match Nat.blt t n, Nat.testBit m t with
  | false, _ => ⟨fun _ _ _ _ => .fail 203⟩
  | true, true => match trPut (Nat.succ (Nat.log2 (Nat.succ t))) t with
   | ⟨g⟩ => ⟨fun s b v c => fany C.sy v fun v => g b v fun b => c s b⟩
  | true, false => ⟨fun s b v c => fany C.sy v fun v => c ((t, v) :: s) b⟩

abbrev RegC := FnsC → KS → KS

def cOps (C : Cfg) (m n : Nat) (all : List Oper) : List Oper → Box RegC
 | [] => ⟨fun _ k => k⟩
 | o :: rest => match cOps C m n all rest, cOp C m o, cPut C m n o.dst with
  | ⟨next⟩, ⟨h⟩, ⟨put⟩ => match o.guard with
   | none => ⟨fun fs k s b ms A => h fs s b A fun v A => put s b v fun s b => next fs k s b ms A⟩
   | some g => ⟨fun fs k s b ms A => match wantedE m all ⟨s, b⟩ (some g) with
    | none => .fail 200
    | some true => h fs s b A fun v A => put s b v fun s b => next fs k s b ms A
    | some false => put s b undef fun s b => next fs k s b ms A⟩

def plainReg (all : List Oper) : Bool := all.all fun o => quietOp o.op

def FnsC.ref (fs : FnsC) : Fns := ⟨fun f args A => fs.call f args A .ret, fun i args A => fs.yield i args A .ret⟩

def noC : FnsC := ⟨fun _ _ _ _ => .fail 281, fun _ _ _ _ => .fail 281⟩

/-! ### regions that draw their order, of values that are not known -/

abbrev RL := List (Nat × Oper × En × Value)
abbrev DK := En → AW → List Nat → List AW → RL → CR

def dGoK (C : Cfg) (m n : Nat) (all : List Oper) : List Oper → Nat → Box (FnsC → DK → DK)
 | [], _ => ⟨fun _ k => k⟩
 | o :: rest, i => match dGoK C m n all rest (Nat.succ i), cOp C m o, cPut C m n o.dst, stepOk o.op, quietOp o.op with
  | ⟨next⟩, ⟨h⟩, ⟨put⟩, true, true => ⟨fun fs k en A cs ws rs => match wantedE m all en o.guard with
   | none => .fail 283
   | some true => h fs en.scr en.base A fun v _ => put en.scr en.base v fun s b => next fs k ⟨s, b⟩ A cs ws ((i, o, en, v) :: rs)
   | some false => put en.scr en.base undef fun s b => next fs k ⟨s, b⟩ A cs ws rs⟩
  | ⟨next⟩, ⟨h⟩, ⟨put⟩, true, false => ⟨fun fs k en A cs ws rs => match wantedE m all en o.guard with
   | none => .fail 283
   | some true => h fs en.scr en.base A fun v A' => put en.scr en.base v fun s b => next fs k ⟨s, b⟩ A' (cs ++ [i]) (ws ++ [A']) rs
   | some false => put en.scr en.base undef fun s b => next fs k ⟨s, b⟩ A cs ws rs⟩
  | _, _, _, false, _ => ⟨fun _ _ _ _ _ _ _ => .fail 284⟩

def m_eqv (a b : Value) : Bool := veq a b

def sameK (C : Cfg) (al : Nat → Bool) (ms cs : List Nat) (m i : Nat) (o : Oper) (en : En) (v : Value) : List AW → Nat → CR → CR
 | [], _, c => c
 | A :: r, k, c => match possB (al) ms i k cs 0 true with
  | false => sameK C al ms cs m i o en v r (Nat.succ k) c
  | true => match cOp C m o with
   | ⟨h⟩ => h noC en.scr en.base A fun v' _ => guardK (m_eqv v' v) (sameK C al ms cs m i o en v r (Nat.succ k) c)

def readsK (C : Cfg) (al : Nat → Bool) (ms cs : List Nat) (m : Nat) (ws : List AW) : RL → CR → CR
 | [], c => c
 | (i, o, en, v) :: r, c => match stillX m en o with
  | true => readsK C al ms cs m ws r c
  | false => sameK C al ms cs m i o en v ws 0 (readsK C al ms cs m ws r c)

def drawEnd (C : Cfg) (all : List Oper) (m : Nat) (ms : List Nat) (kn : KS) : DK := fun en A cs ws rs =>
 guardK (pairB (isAl C m en all) (masksGo all []) cs && lookAll (isAl C m en all) all (masksGo all []) cs all 0) (match cs with
  | [] => kn en.scr en.base ms A
  | _ => readsK C (isAl C m en all) (masksGo all []) cs m ws rs (kn en.scr en.base ms A))

abbrev CodeC := FnsC → Option Nat → KS → (Nat → KS) → KS → KS

def cLoop (f : KS → KS) : Nat → KS
 | 0 => fun _ _ _ _ => .fail 230
 | L + 1 => f (cLoop f L)

def tailC (l : Nat) (kn : KS) (kx : Nat → KS) (kr : KS) : KS := fun s b ms A =>
 match rangeTail l ⟨s, b⟩ ms A with
 | .norm ⟨⟨s, b⟩, ms, A⟩ => kn s b ms A
 | .exit id ⟨⟨s, b⟩, ms, A⟩ => kx id s b ms A
 | .ret ⟨⟨s, b⟩, ms, A⟩ => kr s b ms A
 | .fail w => .fail w

def cCode (C : Cfg) (m n L : Nat) : Code → Box CodeC
 | .skip => ⟨fun _ _ kn _ _ => kn⟩
 | .label _ => ⟨fun _ _ kn _ _ => kn⟩
 | .ret => ⟨fun _ _ _ _ kr => kr⟩
 | .exit id => ⟨fun _ _ _ kx _ => kx id⟩
 | .region _ ops d => match d, staticB ops.toList, plainReg ops.toList with
  | false, _, _ => match cOps C m n ops.toList ops.toList with | ⟨g⟩ => ⟨fun fs _ kn _ _ _ b ms A => g fs kn [] b ms A⟩
  | true, true, true => match cOps C m n ops.toList ops.toList with | ⟨g⟩ => ⟨fun _ _ kn _ _ _ b ms A => g noC kn [] b ms A⟩
  | true, st, _ => match C.sy && st with
   | true => match dGoK C m n ops.toList ops.toList 0 with | ⟨g⟩ => ⟨fun fs _ kn _ _ _ b ms A => g fs (drawEnd C ops.toList m ms kn) ⟨[], b⟩ A [] [A] []⟩
   | false => ⟨fun fs _ kn _ _ _ b ms A => match evDrawA C fs.ref m n ops.toList ⟨⟨[], b⟩, ms, A⟩ with
    | .norm ⟨⟨s, b⟩, ms, A⟩ => kn s b ms A
    | .fail w => .fail w
    | _ => .fail 280⟩
 | .seq x y => match cCode C m n L x, cCode C m n L y with
  | ⟨f⟩, ⟨g⟩ => ⟨fun fs ro kn kx kr => f fs ro (g fs ro kn kx kr) kx kr⟩
 | .cond c x y => match cOpd m c, cCode C m n L x, cCode C m n L y with
  | ⟨h⟩, ⟨f⟩, ⟨g⟩ => ⟨fun fs ro kn kx kr s b ms A => h s b fun v => match v with
   | .bool true => f fs ro kn kx kr s b ms A
   | .bool false => g fs ro kn kx kr s b ms A
   | _ => .fail 231⟩
 | .block id c => match cCode C m n L c with
  | ⟨f⟩ => ⟨fun fs ro kn kx kr => f fs ro kn (fun j => match Nat.beq j id with | true => kn | false => kx j) kr⟩
 | .loop c => match cCode C m n L c with
  | ⟨f⟩ => ⟨fun fs ro _ kx kr => cLoop (fun k => f fs ro k kx kr) L⟩
 | .rangeFunc f params assign body => match cOpd m f with
  | ⟨h⟩ => ⟨fun fs ro kn kx kr s b ms A => h s b fun v => match v with
   | .func (.func g) ⟨first⟩ ⟨captured⟩ => match hasBody C g with
    | true => match rangeHead ro ⟨⟨s, b⟩, ms, A⟩ with
     | some (d, ms, A) => fs.call g (first ++ [.func (.yield A.next) ⟨[]⟩ ⟨[]⟩] ++ captured) (A.new (.loop .ready none m ⟨s, b⟩ n params assign body d)) fun _ A' => tailC A.next kn kx kr s b ms A'
     | none => .fail 213
    | false => .fail 214
   | _ => .fail 215⟩
 | .scope c => cCode C m n L c
 | _ => ⟨fun _ _ _ _ _ _ _ _ _ => .fail 232⟩

def finK (C : Cfg) (m : Nat) (rs : List ResultVar) (k : KV) : KS := fun s b ms A =>
 match takeMarks ms A with
 | some A => match resultsE C m ⟨s, b⟩ A rs with
  | some vs => k (oneOr vs) A
  | none => .fail 240
 | none => .fail 241

def cFun (C : Cfg) (ms : Tr Nat) (L : Nat) (f : Nat) : Box (FnsC → List Value → AW → KV → CR) :=
 match C.fns.get f with
 | some fn => match fn.body with
  | some c => match cCode C (maskFor ms f fn.ntmps) fn.ntmps L c with
   | ⟨g⟩ => ⟨fun fs args A k => match Nat.ble args.length fn.ntmps with
    | true => match setArgs (maskFor ms f fn.ntmps) args 0 ⟨[], .nil⟩ with
     | ⟨s, b⟩ => g fs none (finK C (maskFor ms f fn.ntmps) fn.results.toList k) (fun _ _ _ _ _ => .fail 242) (finK C (maskFor ms f fn.ntmps) fn.results.toList k) s b [] A
    | false => .fail 243⟩
  | none => ⟨fun _ _ _ _ => .fail 244⟩
 | none => ⟨fun _ _ _ _ => .fail 245⟩

def endC (i : Nat) (jump : Option Code) (k : KV) : KS := fun s b ms A =>
 match endR i jump ⟨⟨s, b⟩, ms, A⟩ with
 | .ret v A => k v A
 | .fail w => .fail w

def bodyC (C : Cfg) (L : Nat) (m n i : Nat) (body : Code) (fs : FnsC) (k : KV) : KS := fun s b ms A =>
 match beginR i ⟨⟨s, b⟩, ms, A⟩, cCode C m n L body with
 | some ⟨⟨s, b⟩, ms, A⟩, ⟨g⟩ => g fs (some i) (endC i none k) (fun id => endC i (some (.exit id)) k) (endC i (some .ret) k) s b ms A
 | none, _ => .fail 252

def yieldC (C : Cfg) (L : Nat) (fs : FnsC) (i : Nat) (args : List Value) (A : AW) (k : KV) : CR :=
 match A.heap.get i with
 | some (.loop _ _ m en n params assign body _) => match setPs m n params.toList args en, cCode C m n L assign with
  | some ⟨s, b⟩, ⟨g⟩ => g fs (some i) (bodyC C L m n i body fs k) (fun _ _ _ _ _ => .fail 253) (fun _ _ _ _ => .fail 253) s b [] A
  | none, _ => .fail 254
 | _ => .fail 255

def lvlC (C : Cfg) (ms : Tr Nat) (L : Nat) : Nat → FnsC
 | 0 => ⟨fun _ _ _ _ => .fail 260, fun _ _ _ _ => .fail 260⟩
 | d + 1 => ⟨fun f args A k => match cFun C ms L f with | ⟨g⟩ => g (lvlC C ms L d) args A k, fun i args A k => yieldC C L (lvlC C ms L d) i args A k⟩

end Go.Ev
