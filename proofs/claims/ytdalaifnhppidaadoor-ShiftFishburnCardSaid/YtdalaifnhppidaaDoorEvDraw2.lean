/- A region that draws its order: what is checked once for all, and that the walk in the order of the text then answers for every order. -/
import Derived.Test.YtdalaifnhppidaaDoorEvAdopt
import Derived.Test.YtdalaifnhppidaaDoorEvStill
namespace Go.Ev
open Go

inductive Bef (all : List Oper) : Nat → Nat → Prop
 | edge {i : Nat} {o : Oper} {e : Edge} (ho : all[i]? = some o) (he : e ∈ o.after.toList) (hb : Region.binds .any e = true) : Bef all e.on i
 | trans {j i : Nat} {o : Oper} {e : Edge} (ho : all[i]? = some o) (he : e ∈ o.after.toList) (hb : Region.binds .any e = true) (h : Bef all j e.on) : Bef all j i

def maskOf (acc : List Nat) : List Edge → Nat
 | [] => 0
 | e :: r => match Region.binds .any e with
  | true => Nat.lor (Nat.lor (Nat.pow 2 e.on) (match acc[e.on]? with | some m => m | none => 0)) (maskOf acc r)
  | false => maskOf acc r

def masksGo : List Oper → List Nat → List Nat
 | [], acc => acc
 | o :: r, acc => masksGo r (acc ++ [maskOf acc o.after.toList])

def bitOf (ms : List Nat) (j i : Nat) : Bool :=
 match ms[i]? with
 | some m => Nat.testBit m j
 | none => false

theorem maskOf_bef {all : List Oper} {acc : List Nat} {i : Nat} {o : Oper} (ho : all[i]? = some o) (hacc : ∀ q m, acc[q]? = some m → ∀ j, Nat.testBit m j = true → Bef all j q) :
  ∀ (es : List Edge), (∀ e ∈ es, e ∈ o.after.toList) → ∀ j, Nat.testBit (maskOf acc es) j = true → Bef all j i := by
 intro es
 induction es with
 | nil => intro _ j h; simp [maskOf] at h
 | cons e r ih =>
  intro hes j h
  simp only [maskOf] at h
  split at h
  ·rename_i hb
   have hor : ∀ a b : Nat, Nat.lor a b = a ||| b := fun _ _ => rfl
   rw [hor, hor, Nat.testBit_or, Nat.testBit_or] at h
   simp only [Bool.or_eq_true] at h
   rcases h with (h | h) | h
   ·have hp : Nat.pow 2 e.on = 2 ^ e.on := rfl
    rw [hp, Nat.testBit_two_pow] at h
    have : e.on = j := by simpa using h
    subst this
    exact .edge ho (hes e (by simp)) hb
   ·split at h
    ·rename_i m hm
     exact .trans ho (hes e (by simp)) hb (hacc _ _ hm j h)
    ·simp at h
   ·exact ih (fun e' he' => hes e' (by simp [he'])) j h
  ·exact ih (fun e' he' => hes e' (by simp [he'])) j h

theorem masksGo_bef {all : List Oper} : ∀ (rest : List Oper) (acc : List Nat), all.drop acc.length = rest → (∀ q m, acc[q]? = some m → ∀ j, Nat.testBit m j = true → Bef all j q) →
  ∀ q m, (masksGo rest acc)[q]? = some m → ∀ j, Nat.testBit m j = true → Bef all j q := by
 intro rest
 induction rest with
 | nil => intro acc _ h; exact h
 | cons o rest ih =>
  intro acc hdrop h
  have hoi : all[acc.length]? = some o := by
   have : (all.drop acc.length)[0]? = some o := by rw [hdrop]; rfl
   simpa using this
  have hdrop' : all.drop (acc.length + 1) = rest := by
   have := congrArg List.tail hdrop
   simpa using this
  refine ih _ (by simpa using hdrop') fun q m hq j hj => ?_
  by_cases hql : q < acc.length
  ·rw [List.getElem?_append_left hql] at hq
   exact h q m hq j hj
  ·rw [List.getElem?_append_right (by omega)] at hq
   have hq0 : q = acc.length := by
    have := (List.getElem?_eq_some_iff.1 hq).1
    simp at this
    omega
   subst hq0
   simp at hq
   subst hq
   exact maskOf_bef hoi h _ (fun e he => he) j hj

theorem bitOf_bef {all : List Oper} {j i : Nat} (h : bitOf (masksGo all []) j i = true) : Bef all j i := by
 unfold bitOf at h
 split at h
 ·rename_i m hm
  exact masksGo_bef all [] (by simp) (by intro q m hq; simp at hq) i m hm j h
 ·cases h

def edgedB : List Oper → Nat → Bool
 | [], _ => true
 | o :: r, i => match o.after.toList.all fun e => !Region.binds .any e || Nat.blt e.on i with
  | true => edgedB r (Nat.succ i)
  | false => false

theorem edgedB_ok : ∀ {l : List Oper} {i : Nat}, edgedB l i = true → ∀ (j : Nat) (o : Oper), l[j]? = some o → ∀ e ∈ o.after.toList, Region.binds .any e = true → e.on < i + j := by
 intro l
 induction l with
 | nil => intro i _ j o h; simp at h
 | cons x l ih =>
  intro i h j o ho e he hb
  simp only [edgedB] at h
  split at h
  ·rename_i hx
   cases j with
   | zero =>
    simp at ho
    subst ho
    have := List.all_eq_true.1 hx e he
    simp only [hb, Bool.not_true, Bool.false_or] at this
    exact blt_lt this
   | succ j =>
    have := ih h j o (by simpa using ho) e he hb
    omega
  ·cases h

def looks (all : List Oper) (o : Oper) : List Nat :=
 (o.op.operands.toList.filterMap fun | .tmp t => some t | _ => none) ++
 (match o.guard with
  | some (g, _) => match all[g]? with
   | some x => x.dst.toList
   | none => []
  | none => [])

def apartB (ms : List Nat) (i : Nat) (ls : List Nat) (j : Nat) (d : Option Nat) : Bool :=
 match d with
 | none => true
 | some t => match Nat.beq i j with
  | true => true
  | false => match ls.contains t with
   | false => true
   | true => match Nat.blt j i with
    | true => bitOf ms j i
    | false => bitOf ms i j

def apartAll (ms : List Nat) (i : Nat) (ls : List Nat) : List Oper → Nat → Bool
 | [], _ => true
 | o :: r, j => match apartB ms i ls j o.dst with
  | true => apartAll ms i ls r (Nat.succ j)
  | false => false

def allApart (ms : List Nat) (all : List Oper) : List Oper → Nat → Bool
 | [], _ => true
 | o :: r, i => match apartAll ms i (looks all o) all 0 with
  | true => allApart ms all r (Nat.succ i)
  | false => false

theorem apartAll_ok {ms : List Nat} {i : Nat} {ls : List Nat} : ∀ {l : List Oper} {j0 : Nat}, apartAll ms i ls l j0 = true → ∀ (j : Nat) (o : Oper), l[j]? = some o → apartB ms i ls (j0 + j) o.dst = true := by
 intro l
 induction l with
 | nil => intro j0 _ j o h; simp at h
 | cons x l ih =>
  intro j0 h j o ho
  simp only [apartAll] at h
  split at h
  ·rename_i hx
   cases j with
   | zero => simp at ho; subst ho; exact hx
   | succ j =>
    have := ih h j o (by simpa using ho)
    rwa [show j0 + 1 + j = j0 + (j + 1) by omega] at this
  ·cases h

theorem allApart_ok {ms : List Nat} {all : List Oper} : ∀ {l : List Oper} {i0 : Nat}, allApart ms all l i0 = true → ∀ (i : Nat) (o : Oper), l[i]? = some o → apartAll ms (i0 + i) (looks all o) all 0 = true := by
 intro l
 induction l with
 | nil => intro i0 _ i o h; simp at h
 | cons x l ih =>
  intro i0 h i o ho
  simp only [allApart] at h
  split at h
  ·rename_i hx
   cases i with
   | zero => simp at ho; subst ho; exact hx
   | succ i =>
    have := ih h i o (by simpa using ho)
    rwa [show i0 + 1 + i = i0 + (i + 1) by omega] at this
  ·cases h

def freshB (t : Nat) : List Oper → Bool
 | [] => true
 | o :: r => match o.dst with
  | some d => match Nat.beq d t with
   | true => false
   | false => freshB t r
  | none => freshB t r

def uniqB : List Oper → Bool
 | [] => true
 | o :: r => match o.dst with
  | some d => match freshB d r with
   | true => uniqB r
   | false => false
  | none => uniqB r

theorem freshB_ok {t : Nat} : ∀ {l : List Oper}, freshB t l = true → ∀ o ∈ l, o.dst ≠ some t := by
 intro l
 induction l with
 | nil => intro _ o h; cases h
 | cons x l ih =>
  intro h o ho
  simp only [freshB] at h
  split at h
  ·rename_i d hd
   split at h
   ·cases h
   ·rename_i hne
    rcases List.mem_cons.1 ho with rfl | ho
    ·rw [hd]; intro e; cases e; simp at hne
    ·exact ih h o ho
  ·rename_i hd
   rcases List.mem_cons.1 ho with rfl | ho
   ·rw [hd]; simp
   ·exact ih h o ho

theorem uniqB_ok : ∀ {l : List Oper}, uniqB l = true → ∀ (i j : Nat) (o o' : Oper) (t : Nat), l[i]? = some o → l[j]? = some o' → o.dst = some t → o'.dst = some t → i = j := by
 intro l
 induction l with
 | nil => intro _ i j o o' t h; simp at h
 | cons x l ih =>
  intro h i j o o' t hi hj ht ht'
  have hrest : uniqB l = true := by
   simp only [uniqB] at h
   split at h
   ·split at h
    ·exact h
    ·cases h
   ·exact h
  have hx : x.dst = some t → ∀ o ∈ l, o.dst ≠ some t := fun hd => by
   simp only [uniqB, hd] at h
   split at h
   ·rename_i hf; exact freshB_ok hf
   ·cases h
  cases i with
  | zero =>
   simp at hi; subst hi
   cases j with
   | zero => rfl
   | succ j => exact absurd ht' (hx ht o' (List.mem_of_getElem? (by simpa using hj)))
  | succ i =>
   cases j with
   | zero => simp at hj; subst hj; exact absurd ht (hx ht' o (List.mem_of_getElem? (by simpa using hi)))
   | succ j => rw [ih hrest i j o o' t (by simpa using hi) (by simpa using hj) ht ht']

def staticB (all : List Oper) : Bool :=
 match edgedB all 0, uniqB all, allApart (masksGo all []) all all 0 with
 | true, true, true => true
 | _, _, _ => false

def isAl (C : Cfg) (m : Nat) (en : En) (all : List Oper) (i : Nat) : Bool :=
 match all[i]? with
 | some o => match alLike C m en all i o with
  | some _ => true
  | none => false
 | none => false

def afterB (al : Nat → Bool) (ms : List Nat) (a : Nat) : List Nat → Bool
 | [] => true
 | b :: r => match al b, bitOf ms a b with
  | false, false => false
  | _, _ => afterB al ms a r

def pairB (al : Nat → Bool) (ms : List Nat) : List Nat → Bool
 | [] => true
 | a :: r => match afterB al ms a r with
  | true => pairB al ms r
  | false => false

theorem afterB_ok {al : Nat → Bool} {ms : List Nat} {a : Nat} : ∀ {l : List Nat}, afterB al ms a l = true → ∀ b ∈ l, al b = false → bitOf ms a b = true := by
 intro l
 induction l with
 | nil => intro _ b hb; cases hb
 | cons x l ih =>
  intro h b hb hn
  simp only [afterB] at h
  have hrest : afterB al ms a l = true := by
   split at h
   ·cases h
   ·exact h
  rcases List.mem_cons.1 hb with rfl | hb
  ·cases hbit : bitOf ms a b with
   | true => rfl
   | false => rw [hn, hbit] at h; cases h
  ·exact ih hrest b hb hn

theorem pairB_ok {al : Nat → Bool} {ms : List Nat} : ∀ {l : List Nat}, pairB al ms l = true → ∀ (p q a b : Nat), p < q → l[p]? = some a → l[q]? = some b → al b = false → bitOf ms a b = true := by
 intro l
 induction l with
 | nil => intro _ p q a b _ ha; simp at ha
 | cons x l ih =>
  intro h p q a b hpq ha hb hn
  simp only [pairB] at h
  split at h
  ·rename_i hx
   cases q with
   | zero => omega
   | succ q =>
    cases p with
    | zero =>
     simp at ha
     subst ha
     exact afterB_ok hx b (List.mem_of_getElem? (by simpa using hb)) hn
    | succ p => exact ih h p q a b (by omega) (by simpa using ha) (by simpa using hb) hn
  ·cases h

def lookB (al : Nat → Bool) (all : List Oper) (ms : List Nat) (i : Nat) (ls : List Nat) : List Nat → List Nat → Bool
 | _, [] => true
 | pre, c :: r => match al c, (match all[c]? with | some o => o.dst | none => none) with
  | true, some d => match ls.contains d, pre.all (fun b => bitOf ms b i) with
   | true, false => false
   | _, _ => lookB al all ms i ls (c :: pre) r
  | _, _ => lookB al all ms i ls (c :: pre) r

theorem lookB_ok {al : Nat → Bool} {all : List Oper} {ms : List Nat} {i : Nat} {ls : List Nat} : ∀ {l pre : List Nat}, lookB al all ms i ls pre l = true → ∀ (q c d : Nat) (o : Oper), l[q]? = some c → al c = true → all[c]? = some o → o.dst = some d → d ∈ ls →
  (∀ b ∈ pre, bitOf ms b i = true) ∧ ∀ p b, p < q → l[p]? = some b → bitOf ms b i = true := by
 intro l
 induction l with
 | nil => intro pre _ q c d o hc; simp at hc
 | cons x l ih =>
  intro pre h q c d o hc hal ho hd hm
  have hrest : lookB al all ms i ls (x :: pre) l = true := by
   simp only [lookB] at h
   split at h
   ·split at h
    ·cases h
    ·exact h
   ·exact h
  cases q with
  | zero =>
   simp at hc
   subst hc
   refine ⟨fun b hb => ?_, fun p b hp => by omega⟩
   simp only [lookB, hal, ho, hd] at h
   have hcon : ls.contains d = true := by simpa using hm
   rw [hcon] at h
   cases hall : pre.all (fun b => bitOf ms b i) with
   | false => rw [hall] at h; cases h
   | true => exact List.all_eq_true.1 hall b hb
  | succ q =>
   obtain ⟨h1, h2⟩ := ih hrest q c d o (by simpa using hc) hal ho hd hm
   refine ⟨fun b hb => h1 b (List.mem_cons_of_mem _ hb), fun p b hp hb => ?_⟩
   cases p with
   | zero => simp at hb; subst hb; exact h1 x List.mem_cons_self
   | succ p => exact h2 p b (by omega) (by simpa using hb)

def lookAll (al : Nat → Bool) (all : List Oper) (ms cs : List Nat) : List Oper → Nat → Bool
 | [], _ => true
 | o :: r, i => match lookB al all ms i (looks all o) [] cs with
  | true => lookAll al all ms cs r (Nat.succ i)
  | false => false

theorem lookAll_ok {al : Nat → Bool} {all : List Oper} {ms cs : List Nat} : ∀ {l : List Oper} {i0 : Nat}, lookAll al all ms cs l i0 = true → ∀ (i : Nat) (o : Oper), l[i]? = some o → lookB al all ms (i0 + i) (looks all o) [] cs = true := by
 intro l
 induction l with
 | nil => intro i0 _ i o h; simp at h
 | cons x l ih =>
  intro i0 h i o ho
  simp only [lookAll] at h
  split at h
  ·rename_i hx
   cases i with
   | zero => simp at ho; subst ho; exact hx
   | succ i =>
    have := ih h i o (by simpa using ho)
    rwa [show i0 + 1 + i = i0 + (i + 1) by omega] at this
  ·cases h

mutual
def veq : Value → Value → Bool
 | .bool a, .bool b => a == b
 | .int j a, .int k b => decide (j = k) && decide (a = b)
 | .float j a, .float k b => decide (j = k) && decide (a = b)
 | .string a, .string b => decide (a = b)
 | .pointer a, .pointer b => decide (a = b)
 | .slice a l c, .slice a' l' c' => decide (a = a') && Nat.beq l l' && Nat.beq c c'
 | .map a, .map b => decide (a = b)
 | .func (.func f) ⟨a⟩ ⟨c⟩, .func (.func g) ⟨a'⟩ ⟨c'⟩ => Nat.beq f g && veqs a a' && veqs c c'
 | .func (.yield f) ⟨a⟩ ⟨c⟩, .func (.yield g) ⟨a'⟩ ⟨c'⟩ => Nat.beq f g && veqs a a' && veqs c c'
 | .nilFunc, .nilFunc => true
 | .iface t v, .iface t' v' => Nat.beq t t' && veq v v'
 | .nilIface, .nilIface => true
 | .agg ⟨a⟩, .agg ⟨b⟩ => veqs a b
 | .tuple ⟨a⟩, .tuple ⟨b⟩ => veqs a b
 | _, _ => false
def veqs : List Value → List Value → Bool
 | [], [] => true
 | v :: l, v' :: l' => veq v v' && veqs l l'
 | _, _ => false
end

mutual
theorem veq_eq : ∀ (v v' : Value), veq v v' = true → v = v'
 | .bool a, .bool b, h => by simp [veq] at h; rw [h]
 | .int j a, .int k b, h => by simp [veq] at h; rw [h.1, h.2]
 | .float j a, .float k b, h => by simp [veq] at h; rw [h.1, h.2]
 | .string a, .string b, h => by simp [veq] at h; rw [h]
 | .pointer a, .pointer b, h => by simp [veq] at h; rw [h]
 | .slice a l c, .slice a' l' c', h => by simp [veq] at h; rw [h.1.1, h.1.2, h.2]
 | .map a, .map b, h => by simp [veq] at h; rw [h]
 | .func (.func f) ⟨a⟩ ⟨c⟩, .func (.func g) ⟨a'⟩ ⟨c'⟩, h => by
  simp only [veq, Bool.and_eq_true] at h
  rw [Nat.eq_of_beq_eq_true h.1.1, veqs_eq a a' h.1.2, veqs_eq c c' h.2]
 | .func (.yield f) ⟨a⟩ ⟨c⟩, .func (.yield g) ⟨a'⟩ ⟨c'⟩, h => by
  simp only [veq, Bool.and_eq_true] at h
  rw [Nat.eq_of_beq_eq_true h.1.1, veqs_eq a a' h.1.2, veqs_eq c c' h.2]
 | .nilFunc, .nilFunc, _ => rfl
 | .iface t v, .iface t' v', h => by
  simp only [veq, Bool.and_eq_true] at h
  rw [Nat.eq_of_beq_eq_true h.1, veq_eq v v' h.2]
 | .nilIface, .nilIface, _ => rfl
 | .agg ⟨a⟩, .agg ⟨b⟩, h => by simp only [veq] at h; rw [veqs_eq a b h]
 | .tuple ⟨a⟩, .tuple ⟨b⟩, h => by simp only [veq] at h; rw [veqs_eq a b h]
theorem veqs_eq : ∀ (l l' : List Value), veqs l l' = true → l = l'
 | [], [], _ => rfl
 | v :: l, v' :: l', h => by
  simp only [veqs, Bool.and_eq_true] at h
  rw [veq_eq v v' h.1, veqs_eq l l' h.2]
end

def possB (al : Nat → Bool) (ms : List Nat) (i k : Nat) : List Nat → Nat → Bool → Bool
 | [], _, _ => true
 | c :: r, j, pre => match Nat.blt j k with
  | true => match bitOf ms i c with
   | true => false
   | false => possB al ms i k r (Nat.succ j) (pre && bitOf ms c i)
  | false => match bitOf ms c i, al c && !pre with
   | true, false => false
   | _, _ => possB al ms i k r (Nat.succ j) (pre && bitOf ms c i)

def sameB (C : Cfg) (al : Nat → Bool) (ms cs : List Nat) (m i : Nat) (o : Oper) (en : En) (v : Value) : List AW → Nat → Bool
 | [], _ => true
 | A :: r, k => match possB (al) ms i k cs 0 true with
  | false => sameB C al ms cs m i o en v r (Nat.succ k)
  | true => match doOp C (rho m en) o A with
   | .val v' _ => match veq v' v with
    | true => sameB C al ms cs m i o en v r (Nat.succ k)
    | false => false
   | _ => false

theorem sameB_ok {C : Cfg} {al : Nat → Bool} {ms cs : List Nat} {m i : Nat} {o : Oper} {en : En} {v : Value} (hq : quietOp o.op = true) : ∀ {ws : List AW} {k0 : Nat}, sameB C al ms cs m i o en v ws k0 = true →
  ∀ k A, ws[k]? = some A → possB (al) ms i (k0 + k) cs 0 true = true → doOp C (rho m en) o A = .val v A := by
 intro ws
 induction ws with
 | nil => intro k0 _ k A h; simp at h
 | cons A0 ws ih =>
  intro k0 h k A hk hp
  simp only [sameB] at h
  cases k with
  | zero =>
   simp at hk
   subst hk
   simp only [Nat.add_zero] at hp
   rw [hp] at h
   simp only at h
   split at h
   ·rename_i v' A' hd
    split at h
    ·rename_i hv
     rw [hd, veq_eq _ _ hv, quiet_same hq hd]
    ·cases h
   ·cases h
  | succ k =>
   have hrest : sameB C al ms cs m i o en v ws (k0 + 1) = true := by
    split at h
    ·exact h
    ·split at h
     ·split at h
      ·exact h
      ·cases h
     ·cases h
   exact ih hrest k A (by simpa using hk) (by rwa [show k0 + 1 + k = k0 + (k + 1) by omega])

def readsB (C : Cfg) (al : Nat → Bool) (ms cs : List Nat) (m : Nat) (ws : List AW) : List (Nat × Oper × En × Value) → Bool
 | [] => true
 | (i, o, en, v) :: r => match stillX m en o with
  | true => readsB C al ms cs m ws r
  | false => match sameB C al ms cs m i o en v ws 0 with
   | true => readsB C al ms cs m ws r
   | false => false

theorem readsB_ok {C : Cfg} {al : Nat → Bool} {ms cs : List Nat} {m : Nat} {ws : List AW} : ∀ {l : List (Nat × Oper × En × Value)}, readsB C al ms cs m ws l = true → ∀ i o en v, (i, o, en, v) ∈ l → stillX m en o = true ∨ sameB C al ms cs m i o en v ws 0 = true := by
 intro l
 induction l with
 | nil => intro _ i o en v h; cases h
 | cons x l ih =>
  obtain ⟨i0, o0, en0, v0⟩ := x
  intro h i o en v hm
  simp only [readsB] at h
  split at h
  ·rename_i hs
   rcases List.mem_cons.1 hm with he | hm
   ·cases he; exact .inl hs
   ·exact ih h i o en v hm
  ·split at h
   ·rename_i hs
    rcases List.mem_cons.1 hm with he | hm
    ·cases he; exact .inr hs
    ·exact ih h i o en v hm
   ·cases h

def readsWhy (C : Cfg) (al : Nat → Bool) (ms cs : List Nat) (m : Nat) (ws : List AW) : List (Nat × Oper × En × Value) → Nat
 | [] => 0
 | (i, o, en, v) :: r => match sameB C al ms cs m i o en v ws 0 with
  | true => readsWhy C al ms cs m ws r
  | false => Nat.add 1 i

def evDraw (C : Cfg) (fs : Fns) (m n : Nat) (all : List Oper) (s : St) : Out :=
 match staticB all with
 | true => match dGo C fs m n all all 0 ⟨s.en, s.A, [], [s.A], []⟩ with
  | some d => match (pairB (isAl C m d.en all) (masksGo all []) d.cs && lookAll (isAl C m d.en all) all (masksGo all []) d.cs all 0), (match d.cs with | [] => true | _ => readsB C (isAl C m d.en all) (masksGo all []) d.cs m d.ws d.rs) with
   | true, true => .norm ⟨d.en, s.marks, d.A⟩
   | _, _ => .fail (Nat.add (Nat.add (Nat.mul 100000000 n) (Nat.mul 1000 (Nat.add 220 d.cs.length))) (readsWhy C (isAl C m d.en all) (masksGo all []) d.cs m d.ws d.rs))
  | none => .fail (Nat.add 100000 (dWhy C fs m n all all 0 ⟨s.en, s.A, [], [s.A], []⟩))
 | false => .fail 222

end Go.Ev
