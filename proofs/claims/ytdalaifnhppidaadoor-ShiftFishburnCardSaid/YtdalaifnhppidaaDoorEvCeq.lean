/- What the compiled evaluator answers, the evaluator answers. -/
import Derived.Test.YtdalaifnhppidaaDoorEvC
namespace Go.Ev
open Go

def le (a b : CR) : Prop := ∀ v A, a = .ret v A → b = .ret v A

theorem le.refl (a : CR) : le a a := fun _ _ h => h
theorem le.trans {a b c : CR} (h : le a b) (k : le b c) : le a c := fun v A e => k v A (h v A e)
theorem le.fail (w : Nat) (b : CR) : le (.fail w) b := fun _ _ h => nomatch h

def bindCR (r : CR) (k : KV) : CR :=
 match r with
 | .ret v A => k v A
 | .fail w => .fail w

structure FLe (fs : FnsC) (fr : Fns) : Prop where
 call : ∀ f args A k, le (fs.call f args A k) (bindCR (fr.call f args A) k)
 yield : ∀ i args A k, le (fs.yield i args A k) (bindCR (fr.yield i args A) k)

theorem fval_eq {β : Type} (v : Value) (c : Value → β) : fval v c = c v := by
 have hn : ∀ (m : Nat) (c : Nat → β), fnat m c = c m := fun m c => by cases m <;> rfl
 unfold fval
 split
 ·rfl
 ·rfl
 ·exact hn _ _
 ·exact hn _ _
 ·rfl

theorem fany_eq {β : Type} (sy : Bool) (v : Value) (c : Value → β) : fany sy v c = c v := by
 cases sy with
 | false => exact fval_eq v c
 | true =>
  show fboo v c = c v
  unfold fboo
  split <;> rfl

theorem trGet_le : ∀ (d k : Nat) (t : Tr Value) (c : Value → CR), le ((trGet d k).f t c) (match t.get k with | some v => c v | none => .fail 202)
 | 0, _, _, _ => le.fail _ _
 | d + 1, 0, t, c => by
  cases t with
  | nil => exact le.fail _ _
  | node l v r => cases v <;> exact le.refl _
 | d + 1, k + 1, t, c => by
  have ih := trGet_le d (Nat.div k 2)
  simp only [trGet]
  generalize trGet d (Nat.div k 2) = g at ih
  obtain ⟨g⟩ := g
  cases hb : Nat.beq (Nat.mod k 2) 0 with
  | true =>
   cases t with
   | nil => exact le.fail _ _
   | node l v r => simp only [Tr.get, hb]; exact ih l c
  | false =>
   cases t with
   | nil => exact le.fail _ _
   | node l v r => simp only [Tr.get, hb]; exact ih r c

theorem trPut_eq : ∀ (d k : Nat) (t : Tr Value) (v : Value) (c : Tr Value → CR), (trPut d k).f t v c = c (Tr.set d t k (some v))
 | 0, _, _, _, _ => rfl
 | d + 1, 0, t, v, c => by cases t <;> rfl
 | d + 1, k + 1, t, v, c => by
  have ih := trPut_eq d (Nat.div k 2)
  simp only [trPut]
  generalize trPut d (Nat.div k 2) = g at ih
  obtain ⟨g⟩ := g
  cases hb : Nat.beq (Nat.mod k 2) 0 with
  | true => cases t <;> (simp only [Tr.set, hb, Tr.force_eq]; exact ih _ v _)
  | false => cases t <;> (simp only [Tr.set, hb, Tr.force_eq]; exact ih _ v _)

theorem scanK_eq (t : Nat) (c : Value → CR) : ∀ l, scanK t c l = match scan l t with | some v => c v | none => .fail 202
 | [] => rfl
 | (k, v) :: l => by
  simp only [scanK, scan]
  cases Nat.beq k t with
  | true => rfl
  | false => exact scanK_eq t c l

theorem cOpd_le (m : Nat) (x : Operand) (s : List (Nat × Value)) (b : Tr Value) (c : Value → CR) : le ((cOpd m x).f s b c) (match opd m ⟨s, b⟩ x with | some v => c v | none => .fail 202) := by
 cases x with
 | tmp t =>
  simp only [cOpd, opd, En.get]
  cases ht : Nat.testBit m t with
  | true =>
   have := trGet_le (Nat.succ (Nat.log2 (Nat.succ t))) t b c
   generalize trGet (Nat.succ (Nat.log2 (Nat.succ t))) t = g at this
   obtain ⟨g⟩ := g
   exact this
  | false => simp only [scanK_eq]; exact le.refl _
 | const v =>
  simp only [cOpd, opd]
  cases gnd v <;> exact le.refl _
 | global g => exact le.refl _
 | func f => exact le.refl _

theorem cOpd_use {m : Nat} {x : Operand} {s : List (Nat × Value)} {b : Tr Value} {c : Value → CR} {v0 : Value} {A0 : AW} (h : (cOpd m x).f s b c = .ret v0 A0) :
  opd m ⟨s, b⟩ x = some (rho m ⟨s, b⟩ x) ∧ c (rho m ⟨s, b⟩ x) = .ret v0 A0 := by
 have := cOpd_le m x s b c _ _ h
 unfold rho
 cases ho : opd m ⟨s, b⟩ x with
 | some v => rw [ho] at this; exact ⟨rfl, this⟩
 | none => rw [ho] at this; cases this

theorem cOpds_use {m : Nat} {s : List (Nat × Value)} {b : Tr Value} {v0 : Value} {A0 : AW} : ∀ {l : List Operand} {c : List Value → CR}, (cOpds m l).f s b c = .ret v0 A0 →
  avail m ⟨s, b⟩ l = true ∧ c (l.map (rho m ⟨s, b⟩)) = .ret v0 A0
 | [], _, h => ⟨rfl, h⟩
 | x :: l, c, h => by
  have ih := @cOpds_use m s b v0 A0 l
  have hx := @cOpd_use m x s b
  simp only [cOpds] at h
  generalize cOpd m x = g at h hx
  generalize cOpds m l = g' at h ih
  obtain ⟨g⟩ := g
  obtain ⟨g'⟩ := g'
  obtain ⟨h1, h2⟩ := hx h
  obtain ⟨h3, h4⟩ := ih h2
  exact ⟨by simp only [avail, h1, h3], h4⟩

def opR (C : Cfg) (fr : Fns) (m : Nat) (o : Oper) (s : List (Nat × Value)) (b : Tr Value) (A : AW) (k : KV) : CR :=
 match avail m ⟨s, b⟩ o.op.operands.toList with
 | false => .fail 202
 | true => match doOp C (rho m ⟨s, b⟩) o A with
  | .fail w => .fail w
  | .val v A => k v A
  | .call f args A => bindCR (fr.call f args A) k
  | .yield i args A => bindCR (fr.yield i args A) k

theorem orK_le {fs : FnsC} {fr : Fns} (hf : FLe fs fr) (r : OR) (k : KV) : le (orK fs r k) (match r with
  | .fail w => .fail w
  | .val v A => k v A
  | .call f args A => bindCR (fr.call f args A) k
  | .yield i args A => bindCR (fr.yield i args A) k) := by
 cases r with
 | fail w => exact le.refl _
 | val v A => exact le.refl _
 | call f args A => exact hf.call f args A k
 | yield i args A => exact hf.yield i args A k

theorem cGen_le {C : Cfg} {fs : FnsC} {fr : Fns} (hf : FLe fs fr) (m : Nat) (o : Oper) (s : List (Nat × Value)) (b : Tr Value) (A : AW) (k : KV) : le (cGen C m o fs s b A k) (opR C fr m o s b A k) := by
 unfold cGen opR
 cases avail m ⟨s, b⟩ o.op.operands.toList with
 | false => exact le.refl _
 | true => exact orK_le hf _ k

theorem opR_of {C : Cfg} {fs : FnsC} {fr : Fns} (hf : FLe fs fr) {m : Nat} {o : Oper} {s : List (Nat × Value)} {b : Tr Value} {A : AW} {k : KV} {v0 : Value} {A0 : AW} {r : OR}
  (ha : avail m ⟨s, b⟩ o.op.operands.toList = true) (hd : doOp C (rho m ⟨s, b⟩) o A = r) (h : orK fs r k = .ret v0 A0) : opR C fr m o s b A k = .ret v0 A0 := by
 unfold opR
 rw [ha]
 simp only [hd]
 exact orK_le hf r k _ _ h

/-! ### the operations on values that are not known -/

theorem guardK_use {b : Bool} {c : CR} {v : Value} {A : AW} (h : guardK b c = .ret v A) : b = true ∧ c = .ret v A := by
 unfold guardK at h
 split at h
 ·exact ⟨rfl, h⟩
 ·cases h

theorem asNat_use {n : Int} {c : Nat → CR} {v : Value} {A : AW} (h : asNat n c = .ret v A) : ∃ m : Nat, n = .ofNat m ∧ c m = .ret v A := by
 obtain ⟨h1, h2⟩ := guardK_use h
 have h0 : 0 ≤ n := of_decide_eq_true h1
 obtain ⟨m, rfl⟩ := Int.eq_ofNat_of_zero_le h0
 exact ⟨m, rfl, h2⟩

theorem binK_le (C : Cfg) (fs : FnsC) (op : BinOp) (t : Nat) (ox oy : Operand) (x y : Value) (A : AW) (k : KV) : le (binK C fs op t ox oy x y A k) (orK fs (doBin C op t ox oy x y A) k) := by
 intro v0 A0 h
 unfold binK at h
 split at h
 ·rename_i ka a kb b
  split at h
  ·obtain ⟨h1, h⟩ := guardK_use h
   obtain ⟨h2, h⟩ := guardK_use h
   have h2' : decide (b = 0) = false := by simpa using h2
   simp only [doBin, isShift, h1, intBin, h2']
   exact h
  ·obtain ⟨h1, h⟩ := guardK_use h
   obtain ⟨h2, h⟩ := guardK_use h
   have h2' : decide (b = 0) = false := by simpa using h2
   simp only [doBin, isShift, h1, intBin, h2']
   exact h
  ·obtain ⟨h2, h⟩ := guardK_use h
   have h2' : decide (b < 0) = false := by simpa using h2
   simp only [doBin, isShift, intShift, h2']
   exact h
  ·obtain ⟨h2, h⟩ := guardK_use h
   have h2' : decide (b < 0) = false := by simpa using h2
   simp only [doBin, isShift, intShift, h2']
   exact h
  ·split at h
   ·rw [mulU_eq] at h
    exact h
   ·rw [mulV_eq] at h
    exact h
   ·exact h
  ·exact h
 ·rename_i a b
  split at h
  ·obtain ⟨h1, h⟩ := guardK_use h
   obtain ⟨⟨l⟩⟩ := a
   obtain ⟨⟨l'⟩⟩ := b
   simp only at h1 h
   simp only [doBin, strBin, h1, bytesApp_eq]
   exact h
  ·exact h
 ·exact h

theorem indexAddrK_le (C : Cfg) (fs : FnsC) (t : Nat) (x ix : Value) (A : AW) (k : KV) : le (indexAddrK C fs t x ix A k) (orK fs (doIndexAddr C t x ix A) k) := by
 intro v0 A0 h
 unfold indexAddrK at h
 split at h
 ·rename_i s _ _ _ _
  split at h
  ·rename_i ht
   split at h
   ·rename_i hi
    obtain ⟨m, rfl, h'⟩ := asNat_use h
    obtain ⟨h1, h2⟩ := guardK_use h'
    cases s <;> (simp only [doIndexAddr, ht, hi, h1]; exact h2)
   ·cases h
  ·cases h
 ·rename_i s _ _
  split at h
  ·rename_i ht
   split at h
   ·rename_i hi
    obtain ⟨m, rfl, h'⟩ := asNat_use h
    obtain ⟨h1, h2⟩ := guardK_use h'
    cases s <;> (simp only [doIndexAddr, ht, hi, h1]; exact h2)
   ·cases h
  ·cases h
 ·exact h

theorem typed_use {d : TypeDesc} {v : Value} {c : Value → CR} {v0 : Value} {A0 : AW} (h : typed d v c = .ret v0 A0) : c v = .ret v0 A0 := by
 unfold typed at h
 split at h
 ·obtain ⟨h1, h⟩ := guardK_use h
  cases v <;> simp only [isI] at h1 <;> try cases h1
  have := of_decide_eq_true h1
  subst this
  exact h
 ·obtain ⟨h1, h⟩ := guardK_use h
  cases v <;> simp only [isB] at h1 <;> try cases h1
  exact h
 ·obtain ⟨h1, h⟩ := guardK_use h
  cases v <;> simp only [isS] at h1 <;> try cases h1
  exact h
 ·split at h
  ·rename_i h1
   unfold isNilS at h1
   split at h1
   ·exact h
   ·cases h1
  ·split at h
   ·rename_i h1
    unfold isRoS at h1
    split at h1
    ·exact h
    ·cases h1
   ·split at h
    ·rename_i h1
     unfold isES at h1
     split at h1
     ·rw [Nat.eq_of_beq_eq_true h1]; exact h
     ·cases h1
    ·split at h
     ·rename_i h1
      unfold isOwnS at h1
      split at h1
      ·exact h
      ·cases h1
     ·cases h
 ·exact h

theorem takeA0_all : ∀ (c : List Value) (n k : Nat) (r : List Value), r.length = n → (∀ j, j < n → c[k + j]? = r[j]?) → takeA0 c k n = some r
 | c, 0, k, r, hl, _ => by
  have : r = [] := List.eq_nil_of_length_eq_zero hl
  subst this
  cases c <;> cases k <;> rfl
 | [], n + 1, k, r, hl, h => by
  have := h 0 (by omega)
  rw [List.getElem?_eq_getElem (show 0 < r.length by omega)] at this
  simp at this
 | x :: l, n + 1, 0, r, hl, h => by
  cases r with
  | nil => simp at hl
  | cons y r =>
   have h0 := h 0 (by omega)
   simp at h0
   subst h0
   have ih := takeA0_all l n 0 r (by simpa using hl) fun j hj => by
    have := h (j + 1) (by omega)
    simpa using this
   simp only [takeA0, ih]
 | x :: l, n + 1, k + 1, r, hl, h => by
  have ih := takeA0_all l (n + 1) k r hl fun j hj => by
   have := h j hj
   rw [show k + 1 + j = k + j + 1 by omega, List.getElem?_cons_succ] at this
   exact this
  simp only [takeA0, ih]

theorem takeAt_all (c : List Value) (n k : Nat) (r : List Value) (hl : r.length = n) (h : ∀ j, j < n → c[k + j]? = r[j]?) : takeAt c k n = some r := by
 rw [takeAt_old]
 exact takeA0_all c n k r hl h

theorem takeF_all (f : Nat → Option Value) : ∀ (n k : Nat) (r : List Value), r.length = n → (∀ j, j < n → f (k + j) = r[j]?) → takeF f k n = some r
 | 0, k, r, hl, _ => by
  have : r = [] := List.eq_nil_of_length_eq_zero hl
  subst this
  rfl
 | n + 1, k, r, hl, h => by
  cases r with
  | nil => simp at hl
  | cons y r =>
   have h0 := h 0 (by omega)
   simp at h0
   have ih := takeF_all f n (k + 1) r (by simpa using hl) fun j hj => by
    have := h (j + 1) (by omega)
    rw [show k + (j + 1) = k + 1 + j by omega] at this
    simpa using this
   simp only [takeF, h0, ih]

theorem load_all {A : AW} {i k n : Nat} {r : List Value} (hn : 0 < n) (hl : r.length = n) (h : ∀ j, j < n → A.cell i (k + j) = r[j]?) : A.load i k n = some r := by
 have hc : ∃ c e f z, A.heap.get i = some (.cells c e f z) := by
  have h1 := h 0 hn
  rw [List.getElem?_eq_getElem (show 0 < r.length by omega)] at h1
  unfold AW.cell at h1
  split at h1
  ·rename_i hi; exact ⟨_, _, _, _, hi⟩
  ·cases h1
 obtain ⟨c, e, f, z, ho⟩ := hc
 unfold AW.load
 simp only [ho]
 refine takeAt_all c n k r hl fun j hj => ?_
 have := h j hj
 simpa only [AW.cell, ho] using this

theorem isNilS_eq {v : Value} (h : isNilS v = true) : v = .slice none 0 0 := by
 unfold isNilS at h
 split at h
 ·rfl
 ·cases h
theorem isRoS_eq {v : Value} (h : isRoS v = true) : v = .slice (some ⟨blkOf v, offOf v, some 0⟩) (lnOf v) (cpOf v) := by
 unfold isRoS at h
 split at h
 ·rfl
 ·cases h
theorem isES_eq {v : Value} (h : isES v = true) : v = .slice (some ⟨0, 0, none⟩) 0 unkE := by
 unfold isES at h
 split at h
 ·rw [Nat.eq_of_beq_eq_true h]
 ·cases h
theorem isOwnJ_eq {j : Nat} {v : Value} (h : isOwnJ j v = true) : v = .slice (some ⟨j, 0, none⟩) (lnOf v) (cpOf v) := by
 unfold isOwnJ at h
 split at h
 ·rw [← Nat.eq_of_beq_eq_true h]
  rfl
 ·cases h
theorem typedS_use {sh : Nat} {d : TypeDesc} {v : Value} {c : Value → CR} {v0 : Value} {A0 : AW} (h : typedS sh d v c = .ret v0 A0) : c v = .ret v0 A0 := by
 unfold typedS at h
 split at h
 ·obtain ⟨h1, h⟩ := guardK_use h
  rw [isNilS_eq h1]; exact h
 ·obtain ⟨h1, h⟩ := guardK_use h
  rw [isRoS_eq h1]; exact h
 ·obtain ⟨h1, h⟩ := guardK_use h
  rw [isES_eq h1]; exact h
 ·split at h
  ·obtain ⟨h1, h⟩ := guardK_use h
   rw [isOwnJ_eq h1]; exact h
  ·exact typed_use h
 ·exact typed_use h

theorem loadsK_use {g : Nat → Option Value} {v0 : Value} {A0 : AW} : ∀ {ds : List TypeDesc} {k : Nat} {c : List Value → CR}, loadsK g ds k c = .ret v0 A0 →
  ∃ r, r.length = ds.length ∧ (∀ j, j < ds.length → g (k + j) = r[j]?) ∧ c r = .ret v0 A0
 | [], k, c, h => ⟨[], rfl, fun j hj => by simp at hj, h⟩
 | d :: l, k, c, h => by
  simp only [loadsK] at h
  split at h
  ·rename_i v hv
   have h1 := typed_use h
   obtain ⟨r, q1, q2, q3⟩ := loadsK_use h1
   refine ⟨v :: r, by simp [q1], fun j hj => ?_, q3⟩
   cases j with
   | zero => simpa using hv
   | succ j =>
    have := q2 j (by simpa using hj)
    rw [show k + (j + 1) = Nat.succ k + j by omega]
    simpa using this
  ·cases h

theorem loadG_le {C : Cfg} {fs : FnsC} {t : Nat} {a : Value} {g : Nat → Option Value} {k0 : Nat} {A : AW} {k : KV}
  (hd : ∀ d, C.under t = some d → isAggD d = true → ∀ inf l, C.tys.get t = some inf → 0 < inf.size → l.length = inf.size → (∀ j, j < inf.size → g (k0 + j) = l[j]?) → doLoad C t a A = .val (.agg ⟨l⟩) A)
  (h1 : ∀ d, C.under t = some d → isAggD d = false → ∀ v, g k0 = some v → doLoad C t a A = .val v A) : le (loadG C fs t a g k0 A k) (orK fs (doLoad C t a A) k) := by
 intro v0 A0 h
 unfold loadG at h
 split at h
 ·rename_i d ht
  split at h
  ·rename_i hagg
   split at h
   ·rename_i ds inf hds hinf
    split at h
    ·rename_i b1 b2
     obtain ⟨r, q1, q2, q3⟩ := loadsK_use h
     have hn : ds.length = inf.size := Nat.eq_of_beq_eq_true b1
     rw [hd d ht hagg inf r hinf (blt_lt b2) (q1.trans hn) fun j hj => q2 j (by omega)]
     exact q3
    ·exact h
   ·exact h
  ·rename_i hagg
   split at h
   ·rename_i v hv
    rw [h1 d ht hagg v hv]
    exact typedS_use h
   ·cases h
 ·cases h

theorem loadK_le (C : Cfg) (fs : FnsC) (t : Nat) (a : Value) (A : AW) (k : KV) : le (loadK C fs t a A k) (orK fs (doLoad C t a A) k) := by
 unfold loadK
 split
 ·rename_i i k0 s
  cases s with
  | none =>
   refine loadG_le (fun d ht hagg inf l hinf hn hl hj => ?_) fun d ht hagg v hv => ?_
   ·simp only [doLoad, ht, hagg, hinf, load_all hn hl hj]
   ·have : A.load i k0 1 = some [v] := load_all (by omega) rfl fun j hj => by
     have : j = 0 := by omega
     subst this
     simpa using hv
    simp only [doLoad, ht, hagg, this]
  | some m =>
   refine loadG_le (fun d ht hagg inf l hinf hn hl hj => ?_) fun d ht hagg v hv => ?_
   ·simp only [doLoad, ht, hagg, hinf, takeF_all _ _ _ _ hl hj]
   ·simp only [doLoad, ht, hagg, hv]
 ·exact le.fail _ _

theorem setA0_one : ∀ (c : List Value) (k : Nat) (v : Value), k < c.length → setA0 c k [v] = some (c.set k v)
 | [], k, v, h => by simp at h
 | x :: l, 0, v, h => by simp [setA0]
 | x :: l, k + 1, v, h => by
  have := setA0_one l k v (by simpa using h)
  simp only [setA0, this, List.set_cons_succ]

theorem setAt_one (c : List Value) (k : Nat) (v : Value) (h : k < c.length) : setAt c k [v] = some (c.set k v) := by
 rw [setAt_old]
 exact setA0_one c k v h

theorem putK_use {A : AW} {i k0 : Nat} {vs : List Value} {c : AW → CR} {v0 : Value} {A0 : AW} (h : putK A i k0 vs c = .ret v0 A0) : ∃ A', A.store i k0 vs = some A' ∧ c A' = .ret v0 A0 := by
 unfold putK at h
 unfold AW.store
 split at h
 ·rename_i hi
  rw [hi]
  simp only
  split at h
  ·rename_i ho
   split at h
   ·rename_i hs
    simp only [ho, hs]
    exact ⟨_, rfl, h⟩
   ·cases h
  ·cases h
 ·cases h

theorem zerosL_zero (l : List Value) : zerosL 0 l = [] := by
 unfold zerosL
 split <;> rfl

theorem makeSliceK_le (C : Cfg) (fs : FnsC) (t : Nat) (l c : Value) (A : AW) (k : KV) : le (makeSliceK C fs t l c A k) (orK fs (doMakeSlice C t l c A) k) := by
 intro v0 A0 h
 unfold makeSliceK at h
 split at h
 ·split at h
  ·rename_i hu
   split at h
   ·rename_i inf hinf
    split at h
    ·rename_i z hz
     split at h
     ·rename_i hg hb hs
      obtain ⟨n, hn, hA⟩ := asNat_use h
      obtain ⟨m, hm, hB⟩ := asNat_use hA
      obtain ⟨h1, hD⟩ := guardK_use hB
      obtain ⟨h2, hE⟩ := guardK_use hD
      subst hn
      subst hm
      simp only [doMakeSlice, hu, hinf, hz, hg, hb, h1, h2]
      cases hm : Nat.beq (Nat.mul m inf.size) 0 with
      | false => exact hE
      | true =>
       have e : Nat.mul m inf.size = 0 := Nat.eq_of_beq_eq_true hm
       rw [e, zerosL_zero] at hE
       exact hE
     ·cases h
    ·cases h
   ·cases h
  ·cases h
 ·exact h

theorem copyK_le (C : Cfg) (fs : FnsC) (ts : List TypeId) (args : List Value) (A : AW) (k : KV) : le (copyK C fs ts args A k) (orK fs (doCopy C ts args A) k) := by
 intro v0 A0 h
 unfold copyK at h
 split at h
 ·split at h
  ·rename_i hu
   split at h
   ·rename_i inf sl hinf hl
    split at h
    ·rename_i cs hc
     simp only [doCopy, hu, hinf, hl, hc]
     split at h
     ·exact h
     ·split at h
      ·rename_i he
       simp only [he]
       split at h
       ·rename_i hd
        simp only [hd]
        exact h
       ·cases h
      ·rename_i he
       obtain ⟨A', h1, h2⟩ := putK_use h
       simp only [he, h1]
       exact h2
     ·cases h
    ·cases h
   ·cases h
  ·cases h
 ·exact h

theorem bytesL_all : ∀ (vs : List Value) (acc : ByteArray), vs.all (isI .u8) = true → bytesL vs acc = some ⟨⟨acc.data.toList ++ vs.map byteOf⟩⟩ := by
 intro vs
 induction vs with
 | nil => intro acc _; obtain ⟨⟨l⟩⟩ := acc; simp [bytesL]
 | cons v vs ih =>
  intro acc h
  simp only [List.all_cons, Bool.and_eq_true] at h
  obtain ⟨h1, h2⟩ := h
  cases v <;> simp only [isI] at h1 <;> first
   | (cases h1; done)
   | skip
  rename_i kd n
  have h1 := of_decide_eq_true h1
  subst h1
  simp only [bytesL, ih _ h2]
  obtain ⟨⟨l⟩⟩ := acc
  simp [ByteArray.push, byteOf, ofI]

theorem bytesK_use {vs : List Value} {c : ByteArray → CR} {v0 : Value} {A0 : AW} (h : bytesK vs c = .ret v0 A0) : ∃ b, bytesL vs .empty = some b ∧ c b = .ret v0 A0 := by
 obtain ⟨h1, h2⟩ := guardK_use h
 refine ⟨_, bytesL_all vs .empty h1, ?_⟩
 have : (ByteArray.empty.data.toList ++ vs.map byteOf) = vs.map byteOf := rfl
 rw [this]
 exact h2

theorem runesL_all : ∀ (vs : List Value) (acc : ByteArray), vs.all isR = true → runesL vs acc = some ⟨⟨acc.data.toList ++ vs.map byteOf⟩⟩ := by
 intro vs
 induction vs with
 | nil => intro acc _; obtain ⟨⟨l⟩⟩ := acc; simp [runesL]
 | cons v vs ih =>
  intro acc h
  simp only [List.all_cons, Bool.and_eq_true] at h
  obtain ⟨h1, h2⟩ := h
  cases v with
  | int kd n =>
   cases kd <;> first
    | (simp [isR] at h1; done)
    | skip
   simp only [runesL, h1, ih _ h2]
   obtain ⟨⟨l⟩⟩ := acc
   simp [ByteArray.push, byteOf, ofI]
  | _ => simp [isR] at h1

theorem runesK_use {vs : List Value} {c : ByteArray → CR} {v0 : Value} {A0 : AW} (h : runesK vs c = .ret v0 A0) : ∃ b, runesL vs .empty = some b ∧ c b = .ret v0 A0 := by
 obtain ⟨h1, h2⟩ := guardK_use h
 refine ⟨_, runesL_all vs .empty h1, ?_⟩
 have : (ByteArray.empty.data.toList ++ vs.map byteOf) = vs.map byteOf := rfl
 rw [this]
 exact h2

theorem convertK_le (C : Cfg) (fs : FnsC) (s d : Nat) (x : Value) (A : AW) (k : KV) : le (convertK C fs s d x A k) (orK fs (doConvert C s d x A) k) := by
 intro v0 A0 h
 unfold convertK at h
 split at h
 ·rename_i i k0 len c
  have hg : gnd (.slice (some ⟨i, k0, none⟩) len c) = false := rfl
  simp only [doConvert, hg, doBytesStr]
  split at h
  ·rename_i e hs hd
   simp only [hs, hd]
   split at h
   ·rename_i he
    simp only [he]
    split at h
    ·rename_i hz; simp only [hz]; exact h
    ·rename_i hz
     split at h
     ·cases h
     ·rename_i hE
      split at h
      ·rename_i vs hl
       obtain ⟨b, h1, h2⟩ := bytesK_use h
       simp only [hz, hE, hl, h1]
       exact h2
      ·cases h
   ·rename_i he
    simp only [he]
    split at h
    ·rename_i hz; simp only [hz]; exact h
    ·rename_i hz
     split at h
     ·cases h
     ·rename_i hE
      split at h
      ·rename_i vs hl
       obtain ⟨b, h1, h2⟩ := runesK_use h
       simp only [hz, hE, hl, h1]
       exact h2
      ·cases h
   ·cases h
  ·cases h
 ·exact h

theorem uStringK_le (C : Cfg) (fs : FnsC) (ts : List TypeId) (args : List Value) (A : AW) (k : KV) : le (uStringK C fs ts args A k) (orK fs (doUString C ts args A) k) := by
 intro v0 A0 h
 unfold uStringK at h
 split at h
 ·obtain ⟨n, hn, hA⟩ := asNat_use h
  subst hn
  simp only [doUString]
  split at hA
  ·rename_i hz; simp only [hz]; exact hA
  ·rename_i hz
   simp only [hz]
   split at hA
   ·rename_i c e f z pt tl hi
    simp only [hi]
    split at hA
    ·rename_i u inf hu hinf
     simp only [hu, hinf]
     split at hA
     ·rename_i h1 h2
      obtain ⟨h3, hB⟩ := guardK_use hA
      split at hB
      ·rename_i vs ht
       obtain ⟨b, h4, h5⟩ := bytesK_use hB
       simp only [ht, h1, h2, h3, h4]
       exact h5
      ·cases hB
     ·cases hA
    ·cases hA
   ·cases hA
 ·exact h

theorem sliceDataK_le (fs : FnsC) (args : List Value) (A : AW) (k : KV) : le (sliceDataK fs args A k) (orK fs (doSliceData args A) k) := by
 intro v0 A0 h
 unfold sliceDataK at h
 split at h
 ·rename_i i k0 l c
  obtain ⟨h1, hA⟩ := guardK_use h
  cases l with
  | zero => simp at h1
  | succ l =>
   simp only [doSliceData]
   split at hA
   ·rename_i h2 h3; simp only [h2, h3]; exact hA
   ·rename_i h2 h3 h4; simp only [h2, h3, h4]; exact hA
   ·cases hA
 ·exact h

theorem storeK_le (C : Cfg) (fs : FnsC) (t : Nat) (a x : Value) (A : AW) (k : KV) : le (storeK C t a x A k) (orK fs (doStore C t a x A) k) := by
 intro v0 A0 h
 unfold storeK at h
 split at h
 ·split at h
  ·rename_i hone
   split at h
   ·rename_i hi
    obtain ⟨h1, h⟩ := guardK_use h
    have hlt := blt_lt h1
    unfold oneLoc at hone
    split at hone
    ·rename_i inf hinf
     have hx : (∀ l, x ≠ .agg l) ∧ (∀ l, x ≠ .tuple l) ∧ Nat.beq 1 inf.size = true := by
      cases x <;> simp_all
     have hc : vcells x = [x] := by
      cases x <;> first | rfl | exact absurd rfl (hx.1 _)
     have ho : ones (vcells x) = true := by
      rw [hc]
      cases x <;> first | rfl | exact absurd rfl (hx.1 _) | exact absurd rfl (hx.2.1 _)
     simp only [doStore, hinf, hc, List.length_singleton, hx.2.2, AW.store, hi]
     rw [hc] at ho
     simp only [ho, setAt_one _ _ _ hlt]
     exact h
    ·cases hone
   ·cases h
  ·split at h
   ·rename_i inf hinf
    split at h
    ·rename_i hn
     obtain ⟨A', h1, h2⟩ := putK_use h
     simp only [doStore, hinf, hn, h1]
     exact h2
    ·cases h
   ·cases h
 ·cases h

theorem nextK_le (fs : FnsC) (x : Value) (q : Bool) (A : AW) (k : KV) : le (nextK x q A k) (orK fs (doNext x q A) k) := by
 intro v0 A0 h
 unfold nextK at h
 split at h
 ·unfold doNext
  split at h
  ·rename_i hi
   simp only [hi]
   split at h
   ·rename_i hlt
    simp only [hlt]
    exact h
   ·rename_i hlt
    simp only [hlt]
    exact h
  ·cases h
 ·split at h
  ·rename_i hd
   rw [hd]
   exact h
  ·cases h
 ·cases h

theorem atK_le (C : Cfg) (fs : FnsC) (t : Nat) (x ix : Value) (A : AW) (k : KV) : le (atK C fs t x ix A k) (orK fs (doIndex C t x ix A) k) := by
 intro v0 A0 h
 unfold atK at h
 split at h
 ·rename_i s kk n
  split at h
  ·rename_i ht
   obtain ⟨m, rfl, h'⟩ := asNat_use h
   split at h'
   ·rename_i b hb
    obtain ⟨⟨l⟩⟩ := s
    have hb' : byteAt m l = some b := by rw [byteAt_eq]; simpa using hb
    simp only [doIndex, strAt, ht, hb']
    exact h'
   ·cases h'
  ·cases h
 ·exact h

theorem bdK_use {o : Option Value} {d : Nat} {c : Nat → CR} {v : Value} {A : AW} (h : bdK o d c = .ret v A) : (bd o).ok = true ∧ gndO o = true ∧ c ((bd o).getD d) = .ret v A := by
 unfold bdK at h
 split at h
 ·exact ⟨rfl, rfl, h⟩
 ·obtain ⟨m, rfl, h'⟩ := asNat_use h
  exact ⟨rfl, rfl, h'⟩
 ·cases h

def cutR (sz : Nat) (a : Option Addr) (len cap l h : Nat) (A : AW) : OR :=
 match a with
 | some ⟨b, k0, some s⟩ => match Nat.beq cap unkE with
  | true => .fail 49
  | false => sliceR sz b k0 s cap l h cap A
 | a => match Nat.beq cap unkE with
  | true => emptyS a len l h none A
  | false => match Nat.beq cap unk with
   | false => sliceK sz a cap l h cap A
   | true => match a with
    | some ⟨i, k, none⟩ => sliceU sz i k len l h A
    | _ => .fail 43

theorem cutK_le {fs : FnsC} {sz : Nat} {a : Option Addr} {len cap l u : Nat} {q : Bool} {A : AW} {k : KV} {v0 : Value} {A0 : AW}
  (h : cutK sz a len cap l u q A k = .ret v0 A0) : orK fs (cutR sz a len cap l u A) k = .ret v0 A0 := by
 obtain _ | ⟨i, k0, _ | s⟩ := a
 ·simp only [cutK] at h
  obtain ⟨h1, ha⟩ := guardK_use h
  obtain ⟨h2, hb⟩ := guardK_use ha
  obtain ⟨h3, hd⟩ := guardK_use hb
  have hc := Nat.eq_of_beq_eq_true h1
  subst hc
  have e3 : Nat.ble 0 (Nat.min 0 1000000000000) = true := rfl
  simp only [cutR, show Nat.beq 0 unkE = false from rfl, show Nat.beq 0 unk = false from rfl, sliceK, h2, h3, e3]
  exact hd
 ·simp only [cutK] at h
  simp only [cutR]
  split at h
  ·rename_i b1
   split at h
   ·rename_i c1 c2 c3; simp only [b1, emptyS, c1, c2, c3]; exact h
   ·cases h
  ·rename_i b1 b2
   obtain ⟨h1, h⟩ := guardK_use h
   obtain ⟨h2, h⟩ := guardK_use h
   obtain ⟨h3, h⟩ := guardK_use h
   have h2' : Nat.ble u cap = true := Nat.ble_eq_true_of_le (Nat.le_trans (Nat.le_of_ble_eq_true h2) (Nat.min_le_left _ _))
   simp only [b1, b2, sliceK, h1, h2', h3]
   split at h
   ·rename_i h4; rw [h4]; exact h
   ·rename_i h4; rw [h4]; exact h
  ·rename_i b1 b2
   obtain ⟨h1, h⟩ := guardK_use h
   obtain ⟨h2, h⟩ := guardK_use h
   simp only [b1, b2, sliceU, h1, h2]
   split at h
   ·rename_i h4; rw [h4]; exact h
   ·rename_i h4
    rw [h4]
    simp only
    split at h
    ·rename_i h5
     rw [h5]
     simp only
     split at h
     ·rename_i hg
      rw [hg]
      simp only
      split at h
      ·rename_i h6; rw [h6]; exact h
      ·cases h
     ·cases h
    ·rename_i h5; rw [h5]; exact h
 ·simp only [cutK] at h
  simp only [cutR]
  split at h
  ·cases h
  ·rename_i b1
   obtain ⟨h1, h⟩ := guardK_use h
   obtain ⟨h2, h⟩ := guardK_use h
   have e3 : Nat.ble cap cap = true := Nat.ble_eq_true_of_le (Nat.le_refl _)
   simp only [b1, sliceR, h1, h2, e3]
   split at h
   ·rename_i h4; rw [h4]; exact h
   ·rename_i h4; rw [h4]; exact h

theorem doSlice_cut {C : Cfg} {t e : Nat} {inf : TypeInfo} {a : Option Addr} {len cap : Nat} {lo hi : Option Value} {A : AW} (ht : C.under t = some (.slice e)) (hi' : C.tys.get e = some inf) (b1 : (bd lo).ok = true) (b2 : (bd hi).ok = true) :
  doSlice C t (.slice a len cap) lo hi none A = cutR inf.size a len cap ((bd lo).getD 0) ((bd hi).getD len) A := by
 unfold doSlice
 rw [b1, b2]
 obtain _ | ⟨i, k0, _ | s⟩ := a
 ·simp only [ht, hi', show (bd none).ok = true from rfl]
  rfl
 ·simp only [ht, hi', show (bd none).ok = true from rfl]
  rfl
 ·simp only [ht, hi', show (bd none).ok = true from rfl]
  rfl

theorem sliceCK_le (C : Cfg) (fs : FnsC) (t : Nat) (x : Value) (lo hi : Option Value) (A : AW) (k : KV) : le (sliceCK C fs t x lo hi A k) (orK fs (doSliceAny C t x lo hi none A) k) := by
 intro v0 A0 h
 unfold sliceCK at h
 split at h
 ·rename_i s
  split at h
  ·rename_i ht
   obtain ⟨b1, g1, h⟩ := bdK_use h
   obtain ⟨b2, g2, h⟩ := bdK_use h
   obtain ⟨h1, h⟩ := guardK_use h
   obtain ⟨h2, h⟩ := guardK_use h
   obtain ⟨⟨l⟩⟩ := s
   simp only at h h1 h2
   simp only [doSliceAny, g1, g2, show gndO none = true from rfl, strCut, ht, b1, b2, h1, h2]
   cases hi with
   | none =>
    simp only [bytesDrop_eq]
    rw [show Nat.sub ((bd none).getD l.length) ((bd lo).getD 0) = (l.drop ((bd lo).getD 0)).length by simp [bd, Bd.getD], List.take_length] at h
    exact h
   | some u =>
    simp only [bytesTake_eq, bytesDrop_eq]
    exact h
  ·cases h
 ·rename_i a len cap
  split at h
  ·rename_i e ht
   split at h
   ·rename_i inf hinf
    obtain ⟨b1, g1, h⟩ := bdK_use h
    obtain ⟨b2, g2, h⟩ := bdK_use h
    have := cutK_le (fs := fs) h
    rw [show doSliceAny C t (.slice a len cap) lo hi none A = doSlice C t (.slice a len cap) lo hi none A from rfl, doSlice_cut ht hinf b1 b2]
    exact this
   ·cases h
  ·cases h
 ·exact h

theorem appUK_le {C : Cfg} {fs : FnsC} {e sz i k0 len n : Nat} {new : List Value} {A : AW} {k : KV} {v0 : Value} {A0 : AW} (h : appUK C e sz i k0 len n new A k = .ret v0 A0) : orK fs (appendU C.sy e sz i k0 len n new A) k = .ret v0 A0 := by
 unfold appUK at h
 unfold appendU
 split at h
 ·rename_i h1; rw [h1]; exact h
 ·rename_i h1
  rw [h1]
  split at h
  ·rename_i c e' f z hi
   obtain ⟨h3, h⟩ := guardK_use h
   obtain ⟨h4, h⟩ := guardK_use h
   obtain ⟨h5, h⟩ := guardK_use h
   split at h
   ·rename_i old ho
    simp only [h3, hi, h4, h5, ho]
    split at h
    ·rename_i hk; simp only [hk]; exact h
    ·rename_i hk
     obtain ⟨h6, h⟩ := guardK_use h
     simp only [hk, h6]
     exact h
   ·cases h
  ·cases h

theorem appK_le (C : Cfg) (fs : FnsC) (ts : List TypeId) (args : List Value) (A : AW) (k : KV) : le (appK C fs ts args A k) (orK fs (doAppend C ts args A) k) := by
 intro v0 A0 h
 unfold appK at h
 split at h
 ·split at h
  ·rename_i e dx ht htx
   split at h
   ·rename_i inf n hinf hn
    split at h
    ·rename_i z c1 c2 hz
     split at h
     ·rename_i c3
      obtain ⟨c4, h⟩ := guardK_use h
      split at h
      ·rename_i new hnew
       obtain ⟨c5, h⟩ := guardK_use h
       simp only [doAppend, ht, htx, hinf, hn, c1, c2, c4, hz, c3, hnew, c5]
       split at h
       ·simp only [appendN]
        split at h
        ·rename_i c6; rw [c6]; exact h
        ·rename_i c6; rw [c6]; exact h
       ·split at h
        ·cases h
        ·rename_i d1 d2; simp only [d1, d2]; exact h
        ·rename_i d1 d2; simp only [d1, d2]; exact appUK_le h
       ·cases h
      ·cases h
     ·cases h
    ·cases h
   ·cases h
  ·cases h
 ·cases h

theorem appKM_le (C : Cfg) (fs : FnsC) (ts : List TypeId) (args : List Value) (A : AW) (k : KV) : le (appK C fs ts args A k) (orK fs (doAppendM C ts args A) k) := by
 intro v0 A0 h
 unfold doAppendM
 split
 ·exfalso
  unfold appK at h
  simp only [lenOfV] at h
  repeat' (first | (cases h; done) | split at h)
  all_goals simp_all
 ·exact appK_le C fs ts args A k _ _ h

theorem minK_le (C : Cfg) (fs : FnsC) (b : Builtin) (ts : Array TypeId) (ty : Nat) (args : List Value) (A : AW) (k : KV) : le (minK C fs b ts ty args A k) (orK fs (doBuiltin C b ts ty args A) k) := by
 intro v0 A0 h
 unfold minK at h
 split at h
 ·rename_i ka x kb y
  have : doBuiltin C .min ts ty [.int ka x, .int kb y] A = .val (.int ka (bif decide (y < x) then y else x)) A := by
   have hr : Builtin.min_ ts ty ⟨[.int ka x, .int kb y]⟩ = pure (.int ka (if y < x then y else x)) := by simp [Builtin.min_, Builtin.min2]
   have e : (bif decide (y < x) then y else x) = if y < x then y else x := by by_cases c : y < x <;> simp [c]
   simp only [doBuiltin, gnds, gnd, Bool.and_self, plainV, hr, plain_pure, e]
  rw [this]
  exact h
 ·rename_i ka x kb y
  have : doBuiltin C .max ts ty [.int ka x, .int kb y] A = .val (.int ka (bif decide (y > x) then y else x)) A := by
   have hr : Builtin.max_ ts ty ⟨[.int ka x, .int kb y]⟩ = pure (.int ka (if y > x then y else x)) := by simp [Builtin.max_, Builtin.max2]
   have e : (bif decide (y > x) then y else x) = if y > x then y else x := by by_cases c : y > x <;> simp [c]
   simp only [doBuiltin, gnds, gnd, Bool.and_self, plainV, hr, plain_pure, e]
  rw [this]
  exact h
 ·exact h

theorem builtinK_le (C : Cfg) (fs : FnsC) (b : Builtin) (ts : Array TypeId) (ty : Nat) (args : List Value) (A : AW) (k : KV) : le (builtinK C fs b ts ty args A k) (orK fs (doBuiltin C b ts ty args A) k) := by
 unfold builtinK
 split
 ·exact appKM_le C fs ts.toList args A k
 ·exact copyK_le C fs ts.toList args A k
 ·cases hb : Nat.blt 0 ts.size with
  | true => simp only [doBuiltin, hb]; exact uStringK_le C fs ts.toList args A k
  | false => exact le.fail _ _
 ·exact sliceDataK_le fs args A k
 ·exact minK_le C fs .min ts ty args A k
 ·exact minK_le C fs .max ts ty args A k
 ·exact le.refl _

theorem cOpdO_use {m : Nat} {x : Option Operand} {s : List (Nat × Value)} {b : Tr Value} {c : Option Value → CR} {v0 : Value} {A0 : AW} (h : (cOpdO m x).f s b c = .ret v0 A0) :
  (∀ y, x = some y → ∃ v, opd m ⟨s, b⟩ y = some v) ∧ c (x.map (rho m ⟨s, b⟩)) = .ret v0 A0 := by
 cases x with
 | none => exact ⟨fun _ e => (nomatch e), h⟩
 | some y =>
  simp only [cOpdO] at h
  have hu := @cOpd_use m y s b (fun v => c (some v)) v0 A0
  generalize cOpd m y = g at h hu
  obtain ⟨g⟩ := g
  obtain ⟨h1, h2⟩ := hu h
  exact ⟨fun _ e => by cases e; exact ⟨_, h1⟩, h2⟩

theorem mapR_use {P : Program} {em : Bool} {kt : Nat} {es : List MapEntry} {k : Value} {r : Option (Nat × Value)} (h : mapR P em kt es k = some r) :
  keysG es = true ∧ gnd k = true ∧ plain? P (Instr.checkKey em 10000 kt k) = some () ∧ plain? P (Instr.findKey kt k es) = some r := by
 unfold mapR at h
 split at h
 ·rename_i h1 h2 h3 h4
  cases h
  exact ⟨h1, h2, h3, h4⟩
 ·cases h

theorem mapUpdateK_le (C : Cfg) (fs : FnsC) (t : Nat) (m key v : Value) (A : AW) (k : KV) : le (mapUpdateK C fs t m key v A k) (orK fs (doMapUpdate C t m key v A) k) := by
 intro v0 A0 h
 unfold mapUpdateK at h
 split at h
 ·rename_i i
  split at h
  ·rename_i es clock hi
   split at h
   ·rename_i kt et ht
    obtain ⟨h1, h⟩ := guardK_use h
    unfold m_putG at h1
    unfold m_put m_clk at h
    split at h1
    ·rename_i j w hm
     obtain ⟨q1, q2, q3, q4⟩ := mapR_use hm
     rw [hm] at h
     simp only at h
     split at h1
     ·rename_i e he
      simp only [doMapUpdate, ht, hi, q1, q2, q3, q4, he, h1]
      exact h
     ·cases h1
    ·rename_i hm
     obtain ⟨q1, q2, q3, q4⟩ := mapR_use hm
     rw [hm] at h
     simp only at h
     simp only [doMapUpdate, ht, hi, q1, q2, q3, q4]
     exact h
    ·cases h1
   ·cases h
  ·cases h
 ·exact h

theorem lookupK_le (C : Cfg) (fs : FnsC) (t : Nat) (x key : Value) (ok : Bool) (A : AW) (k : KV) : le (lookupK C fs t x key ok A k) (orK fs (doLookup C t x key ok A) k) := by
 intro v0 A0 h
 unfold lookupK at h
 split at h
 ·rename_i i
  split at h
  ·rename_i es clock hi
   split at h
   ·rename_i kt et ht
    split at h
    ·rename_i d inf hd hinf
     split at h
     ·rename_i z hz
      split at h
      ·rename_i hgz
       obtain ⟨h1, h⟩ := guardK_use h
       unfold m_getG at h1
       split at h1
       ·rename_i r hm
        obtain ⟨q1, q2, q3, q4⟩ := mapR_use hm
        unfold m_has m_val at h
        rw [hm] at h
        simp only [doLookup, ht, mapOf, hi, q1, q2, q3, q4]
        rcases r with _ | ⟨j, w⟩
        ·simp only [hinf, hz, hgz] at h ⊢
         cases ok <;> exact h
        ·simp only at h
         have h := typed_use h
         cases ok <;> exact h
       ·cases h1
      ·cases h
     ·cases h
    ·cases h
   ·cases h
  ·cases h
 ·exact h
theorem cOp_le {C : Cfg} {fs : FnsC} {fr : Fns} (hf : FLe fs fr) (m : Nat) (o : Oper) (s : List (Nat × Value)) (b : Tr Value) (A : AW) (k : KV) : le ((cOp C m o).f fs s b A k) (opR C fr m o s b A k) := by
 obtain ⟨dst, op, type, pos, after, guard⟩ := o
 have one : ∀ (x : Operand) (r : Value → OR), op.operands = #[x] → (∀ w, doOp C (rho m ⟨s, b⟩) ⟨dst, op, type, pos, after, guard⟩ A = r w ∨ w ≠ rho m ⟨s, b⟩ x) →
   le ((cOpd m x).f s b fun v => orK fs (r v) k) (opR C fr m ⟨dst, op, type, pos, after, guard⟩ s b A k) := fun x r hx hr v0 A0 h => by
  obtain ⟨h1, h2⟩ := cOpd_use h
  refine opR_of hf ?_ ((hr _).resolve_right fun h => h rfl) h2
  simp only [hx, avail, h1]
 have two : ∀ (x y : Operand) (r : Value → Value → OR), op.operands = #[x, y] → doOp C (rho m ⟨s, b⟩) ⟨dst, op, type, pos, after, guard⟩ A = r (rho m ⟨s, b⟩ x) (rho m ⟨s, b⟩ y) →
   le ((cOpd m x).f s b fun v => (cOpd m y).f s b fun w => orK fs (r v w) k) (opR C fr m ⟨dst, op, type, pos, after, guard⟩ s b A k) := fun x y r hx hr v0 A0 h => by
  obtain ⟨h1, h2⟩ := cOpd_use h
  obtain ⟨h3, h4⟩ := cOpd_use h2
  refine opR_of hf ?_ hr h4
  simp only [hx, avail, h1, h3]
 have one' : ∀ (x : Operand) (r : Value → OR), op.operands = #[x] → doOp C (rho m ⟨s, b⟩) ⟨dst, op, type, pos, after, guard⟩ A = r (rho m ⟨s, b⟩ x) →
   le ((cOpd m x).f s b fun v => orK fs (r v) k) (opR C fr m ⟨dst, op, type, pos, after, guard⟩ s b A k) := fun x r hx hr => one x r hx fun w => by
  by_cases hw : w = rho m ⟨s, b⟩ x
  ·subst hw; exact .inl hr
  ·exact .inr hw
 have one2 : ∀ (x : Operand) (r : Value → OR) (K : Value → CR), op.operands = #[x] → doOp C (rho m ⟨s, b⟩) ⟨dst, op, type, pos, after, guard⟩ A = r (rho m ⟨s, b⟩ x) → (∀ v, le (K v) (orK fs (r v) k)) →
   le ((cOpd m x).f s b fun v => K v) (opR C fr m ⟨dst, op, type, pos, after, guard⟩ s b A k) := fun x r K hx hr hK v0 A0 h => by
  obtain ⟨h1, h2⟩ := cOpd_use h
  refine opR_of hf ?_ hr (hK _ _ _ h2)
  simp only [hx, avail, h1]
 have two2 : ∀ (x y : Operand) (r : Value → Value → OR) (K : Value → Value → CR), op.operands = #[x, y] → doOp C (rho m ⟨s, b⟩) ⟨dst, op, type, pos, after, guard⟩ A = r (rho m ⟨s, b⟩ x) (rho m ⟨s, b⟩ y) → (∀ v w, le (K v w) (orK fs (r v w) k)) →
   le ((cOpd m x).f s b fun v => (cOpd m y).f s b fun w => K v w) (opR C fr m ⟨dst, op, type, pos, after, guard⟩ s b A k) := fun x y r K hx hr hK v0 A0 h => by
  obtain ⟨h1, h2⟩ := cOpd_use h
  obtain ⟨h3, h4⟩ := cOpd_use h2
  refine opR_of hf ?_ hr (hK _ _ _ _ h4)
  simp only [hx, avail, h1, h3]
 unfold cOp
 cases op <;> simp only <;> try exact cGen_le hf m _ s b A k
 case move x => exact one' x (fun v => .val v A) rfl rfl
 case assign x => exact one' x (fun v => .val v A) rfl rfl
 case load t a =>
  cases C.sy with
  | true => exact one2 a (fun v => doLoad C t v A) _ rfl rfl fun v => loadK_le C fs t v A k
  | false => exact one' a (fun v => doLoad C t v A) rfl rfl
 case store t a x =>
  cases C.sy with
  | true => exact two2 a x (fun v w => doStore C t v w A) _ rfl rfl fun v w => storeK_le C fs t v w A k
  | false => exact two a x (fun v w => doStore C t v w A) rfl rfl
 case nilCheck x => exact one' x (fun v => doNilCheck v A) rfl rfl
 case binOp bop t x y _ =>
  cases C.sy with
  | true => exact two2 x y (fun v w => doBin C bop t x y v w A) _ rfl rfl fun v w => binK_le C fs bop t x y v w A k
  | false => exact two x y (fun v w => doBin C bop t x y v w A) rfl rfl
 case unOp uop _ x => exact one' x (fun v => doUn C uop v A) rfl rfl
 case convert c d x =>
  cases C.sy with
  | true => exact one2 x (fun v => doConvert C c d v A) _ rfl rfl fun v => convertK_le C fs c d v A k
  | false => exact one' x (fun v => doConvert C c d v A) rfl rfl
 case makeInterface t x => exact one' x (fun v => doMakeInterface C t v A) rfl rfl
 case fieldAddr t x f => exact one' x (fun v => doFieldAddr C t v f A) rfl rfl
 case field t x f => exact one' x (fun v => doField C t v f A) rfl rfl
 case indexAddr t x i =>
  cases C.sy with
  | true => exact two2 x i (fun v w => doIndexAddr C t v w A) _ rfl rfl fun v w => indexAddrK_le C fs t v w A k
  | false => exact two x i (fun v w => doIndexAddr C t v w A) rfl rfl
 case index t x i =>
  cases C.sy with
  | true => exact two2 x i (fun v w => doIndex C t v w A) _ rfl rfl fun v w => atK_le C fs t v w A k
  | false => exact two x i (fun v w => doIndex C t v w A) rfl rfl
 case slice t x lo hi mx =>
  cases hsy : C.sy with
  | false => exact cGen_le hf m _ s b A k
  | true =>
   cases mx with
   | some _ => exact cGen_le hf m _ s b A k
   | none =>
    intro v0 A0 h
    have hx := @cOpd_use m x s b
    have hl := @cOpdO_use m lo s b
    have hh := @cOpdO_use m hi s b
    simp only at h
    generalize cOpd m x = gx at h hx
    generalize cOpdO m lo = gl at h hl
    generalize cOpdO m hi = gh at h hh
    obtain ⟨gx⟩ := gx
    obtain ⟨gl⟩ := gl
    obtain ⟨gh⟩ := gh
    obtain ⟨h1, h2⟩ := hx h
    obtain ⟨h3, h4⟩ := hl h2
    obtain ⟨h5, h6⟩ := hh h4
    refine opR_of hf ?_ ?_ (sliceCK_le C fs t _ _ _ A k _ _ h6)
    ·have : ∀ (l : List Operand), (∀ y ∈ l, ∃ v, opd m ⟨s, b⟩ y = some v) → avail m ⟨s, b⟩ l = true := fun l => by
      induction l with
      | nil => intro _; rfl
      | cons y l ih =>
       intro hl
       obtain ⟨v, hv⟩ := hl y (by simp)
       simp only [avail, hv]
       exact ih fun z hz => hl z (by simp [hz])
     refine this _ fun y hy => ?_
     simp [Op.operands] at hy
     rcases hy with rfl | hy | hy
     ·exact ⟨_, h1⟩
     ·exact h3 y hy
     ·exact h5 y hy
    ·rfl
 case makeSlice t x y =>
  cases C.sy with
  | true => exact two2 x y (fun v w => doMakeSlice C t v w A) _ rfl rfl fun v w => makeSliceK_le C fs t v w A k
  | false => exact cGen_le hf m _ s b A k
 case next x q =>
  cases C.sy with
  | true => exact one2 x (fun v => doNext v q A) _ rfl rfl fun v => nextK_le fs v q A k
  | false => exact cGen_le hf m _ s b A k
 case lookup t x i ok =>
  cases C.sy with
  | true => exact two2 x i (fun v w => doLookup C t v w ok A) _ rfl rfl fun v w => lookupK_le C fs t v w ok A k
  | false => exact cGen_le hf m _ s b A k
 case mapUpdate t x i y =>
  cases C.sy with
  | true =>
   intro v0 A0 h
   have hx := @cOpd_use m x s b
   have hl := @cOpd_use m i s b
   have hh := @cOpd_use m y s b
   simp only at h
   generalize cOpd m x = gx at h hx
   generalize cOpd m i = gl at h hl
   generalize cOpd m y = gh at h hh
   obtain ⟨gx⟩ := gx
   obtain ⟨gl⟩ := gl
   obtain ⟨gh⟩ := gh
   obtain ⟨h1, h2⟩ := hx h
   obtain ⟨h3, h4⟩ := hl h2
   obtain ⟨h5, h6⟩ := hh h4
   refine opR_of hf ?_ ?_ (mapUpdateK_le C fs t _ _ _ A k _ _ h6)
   ·simp only [Op.operands, avail, h1, h3, h5]
   ·rfl
  | false => exact cGen_le hf m _ s b A k
 case extract x i => exact one' x (fun v => doExtract v i A) rfl rfl
 case call c =>
  obtain ⟨callee, args, argTypes⟩ := c
  cases callee with
  | builtin bi =>
   intro v0 A0 h
   have hu := @cOpds_use m s b v0 A0 args.toList
   simp only at h
   generalize cOpds m args.toList = g at h hu
   obtain ⟨g⟩ := g
   cases hsy : C.sy with
   | true =>
    rw [hsy] at h
    obtain ⟨h1, h2⟩ := hu h
    refine opR_of hf ?_ ?_ (builtinK_le C fs bi argTypes type _ A k _ _ h2)
    ·simpa [Op.operands, Call.operands] using h1
    ·rfl
   | false =>
    rw [hsy] at h
    obtain ⟨h1, h2⟩ := hu h
    refine opR_of hf ?_ ?_ h2
    ·simpa [Op.operands, Call.operands] using h1
    ·rfl
  | value f =>
   cases f with
   | func f =>
    intro v0 A0 h
    have hu := @cOpds_use m s b v0 A0 args.toList
    simp only at h
    cases hb : hasBody C f with
    | false =>
     rw [hb] at h
     generalize cOpds m args.toList = g at h hu
     exact cGen_le hf m _ s b A k _ _ h
    | true =>
     rw [hb] at h
     generalize cOpds m args.toList = g at h hu
     obtain ⟨g⟩ := g
     obtain ⟨h1, h2⟩ := hu h
     have hd : doOp C (rho m ⟨s, b⟩) ⟨dst, .call ⟨.value (.func f), args, argTypes⟩, type, pos, after, guard⟩ A = .call f (args.toList.map (rho m ⟨s, b⟩)) A := by
      have hr : rho m ⟨s, b⟩ (.func f) = .func (.func f) ⟨[]⟩ ⟨[]⟩ := rfl
      simp only [doOp, doCall, hr, hb, List.nil_append, List.append_nil]
     refine opR_of hf ?_ hd h2
     have : avail m ⟨s, b⟩ (.func f :: args.toList) = true := by simp only [avail, opd, h1]
     simpa [Op.operands, Call.operands] using this
   | _ => exact cGen_le hf m _ s b A k
  | invoke r nm => exact cGen_le hf m _ s b A k

end Go.Ev
