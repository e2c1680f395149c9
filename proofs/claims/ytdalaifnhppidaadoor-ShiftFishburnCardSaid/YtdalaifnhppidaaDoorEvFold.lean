/- The walk in the order of the text through a region that draws its order, and the facts that it leaves. -/
import Derived.Test.YtdalaifnhppidaaDoorEvDraw
namespace Go.Ev
open Go

structure DS where
 en : En
 A : AW
 cs : List Nat
 ws : List AW
 rs : List (Nat × Oper × En × Value)

def setEn (m n : Nat) (e : En) (d : Option Nat) (v : Value) : Option En :=
 match d with
 | none => some e
 | some t => match Nat.blt t n with
  | true => some (e.set m t v)
  | false => none

def dGo (C : Cfg) (fs : Fns) (m n : Nat) (all : List Oper) : List Oper → Nat → DS → Option DS
 | [], _, d => some d
 | o :: rest, i, d => match wantedE m all d.en o.guard with
  | none => none
  | some false => match setEn m n d.en o.dst undef with
   | some en => dGo C fs m n all rest (Nat.succ i) { d with en := en }
   | none => none
  | some true => match avail m d.en o.op.operands.toList with
   | false => none
   | true => match doOp C (rho m d.en) o d.A with
    | .val v A => match setEn m n d.en o.dst v with
     | some en => match quietOp o.op with
      | true => dGo C fs m n all rest (Nat.succ i) { d with en := en, rs := (i, o, d.en, v) :: d.rs }
      | false => dGo C fs m n all rest (Nat.succ i) { en := en, A := A, cs := d.cs ++ [i], ws := d.ws ++ [A], rs := d.rs }
     | none => none
    | .call f args A1 => match fs.call f args A1 with
     | .ret v A => match setEn m n d.en o.dst v with
      | some en => dGo C fs m n all rest (Nat.succ i) { en := en, A := A, cs := d.cs ++ [i], ws := d.ws ++ [A], rs := d.rs }
      | none => none
     | .fail _ => none
    | .yield r args A1 => match fs.yield r args A1 with
     | .ret v A => match setEn m n d.en o.dst v with
      | some en => dGo C fs m n all rest (Nat.succ i) { en := en, A := A, cs := d.cs ++ [i], ws := d.ws ++ [A], rs := d.rs }
      | none => none
     | .fail _ => none
    | .fail _ => none

def dWhy (C : Cfg) (fs : Fns) (m n : Nat) (all : List Oper) : List Oper → Nat → DS → Nat
 | [], _, _ => 0
 | o :: rest, i, d => match wantedE m all d.en o.guard with
  | none => 1
  | some false => match setEn m n d.en o.dst undef with
   | some en => dWhy C fs m n all rest (Nat.succ i) { d with en := en }
   | none => 2
  | some true => match avail m d.en o.op.operands.toList with
   | false => 3
   | true => match doOp C (rho m d.en) o d.A with
    | .val v A => match setEn m n d.en o.dst v with
     | some en => dWhy C fs m n all rest (Nat.succ i) { d with en := en, A := A }
     | none => 4
    | .call f args A1 => match fs.call f args A1 with
     | .ret v A => match setEn m n d.en o.dst v with
      | some en => dWhy C fs m n all rest (Nat.succ i) { d with en := en, A := A }
      | none => 5
     | .fail w => Nat.add 10000 w
    | .fail w => Nat.add 20000 w
    | .yield r args A1 => match fs.yield r args A1 with
     | .ret v A => match setEn m n d.en o.dst v with
      | some en => dWhy C fs m n all rest (Nat.succ i) { d with en := en, A := A }
      | none => 7
     | .fail w => Nat.add 30000 w

structure Later (d d' : DS) : Prop where
 cs : ∃ x, d'.cs = d.cs ++ x
 ws : ∃ y, d'.ws = d.ws ++ y
 rs : ∀ r ∈ d.rs, r ∈ d'.rs

theorem Later.refl (d : DS) : Later d d := ⟨⟨[], by simp⟩, ⟨[], by simp⟩, fun _ h => h⟩
theorem Later.trans {a b c : DS} (h : Later a b) (k : Later b c) : Later a c := by
 obtain ⟨x, hx⟩ := h.cs
 obtain ⟨x', hx'⟩ := k.cs
 obtain ⟨y, hy⟩ := h.ws
 obtain ⟨y', hy'⟩ := k.ws
 exact ⟨⟨x ++ x', by rw [hx', hx, List.append_assoc]⟩, ⟨y ++ y', by rw [hy', hy, List.append_assoc]⟩, fun r hr => k.rs r (h.rs r hr)⟩

theorem Later.csAt {d d' : DS} (h : Later d d') {k i : Nat} (hk : d.cs[k]? = some i) : d'.cs[k]? = some i := by
 obtain ⟨x, hx⟩ := h.cs
 rw [hx, List.getElem?_append_left (List.getElem?_eq_some_iff.1 hk).1]
 exact hk
theorem Later.wsAt {d d' : DS} (h : Later d d') {k : Nat} {A : AW} (hk : d.ws[k]? = some A) : d'.ws[k]? = some A := by
 obtain ⟨x, hx⟩ := h.ws
 rw [hx, List.getElem?_append_left (List.getElem?_eq_some_iff.1 hk).1]
 exact hk

theorem setEn_get {m n : Nat} {e e' : En} {d : Option Nat} {v : Value} (h : setEn m n e d v = some e') : (∀ t, d ≠ some t → e'.get m t = e.get m t) ∧ ∀ t, d = some t → t < n ∧ e'.get m t = some v := by
 cases d with
 | none => simp only [setEn, Option.some.injEq] at h; subst h; exact ⟨fun _ _ => rfl, fun _ h => by cases h⟩
 | some t =>
  simp only [setEn] at h
  split at h
  ·rename_i ht
   cases h
   refine ⟨fun u hu => ?_, fun u hu => ?_⟩
   ·rw [En.get_set, if_neg (fun e => hu (by rw [e]))]
   ·cases hu
    exact ⟨blt_lt ht, by rw [En.get_set, if_pos rfl]⟩
  ·cases h

def DS.wf (d : DS) : Prop := d.ws.length = d.cs.length + 1 ∧ d.ws[d.cs.length]? = some d.A

inductive Went (C : Cfg) (fs : Fns) (m : Nat) (all : List Oper) (dF : DS) (i : Nat) (o : Oper) (en : En) : Value → Prop
 | skip (h : wantedE m all en o.guard = some false) (hn : ∀ x ∈ dF.cs, x ≠ i) : Went C fs m all dF i o en undef
 | quiet {v : Value} (hw : wantedE m all en o.guard = some true) (ha : avail m en o.op.operands.toList = true) (hq : quietOp o.op = true) (hn : ∀ x ∈ dF.cs, x ≠ i) (hr : (i, o, en, v) ∈ dF.rs) {k : Nat} {A : AW} (hk : dF.ws[k]? = some A)
   (ho : doOp C (rho m en) o A = .val v A) : Went C fs m all dF i o en v
 | chain {v : Value} (hw : wantedE m all en o.guard = some true) (ha : avail m en o.op.operands.toList = true) {k : Nat} {A A' : AW} (hc : dF.cs[k]? = some i) (hk : dF.ws[k]? = some A) (hk' : dF.ws[k + 1]? = some A')
   (ho : doOp C (rho m en) o A = .val v A' ∨ (∃ f args A1, doOp C (rho m en) o A = .call f args A1 ∧ fs.call f args A1 = .ret v A') ∨ ∃ r args A1, doOp C (rho m en) o A = .yield r args A1 ∧ fs.yield r args A1 = .ret v A') : Went C fs m all dF i o en v

def FactAt (C : Cfg) (fs : Fns) (m n : Nat) (all : List Oper) (en0 : En) (dF : DS) (i : Nat) (o : Oper) : Prop :=
 ∃ en v, (∀ t, (∀ j o', i ≤ j → all[j]? = some o' → o'.dst ≠ some t) → dF.en.get m t = en.get m t) ∧
  (∀ t, (∀ j o', j < i → all[j]? = some o' → o'.dst ≠ some t) → en.get m t = en0.get m t) ∧
  (∀ d, o.dst = some d → d < n ∧ ((∀ j o', i < j → all[j]? = some o' → o'.dst ≠ some d) → dF.en.get m d = some v)) ∧
  Went C fs m all dF i o en v

theorem dGo_step {C : Cfg} {fs : Fns} {m n : Nat} {all : List Oper} {o : Oper} {rest : List Oper} {i : Nat} {d dF : DS} (h : dGo C fs m n all (o :: rest) i d = some dF) (hwf : d.wf) :
  ∃ d' v, dGo C fs m n all rest (i + 1) d' = some dF ∧ setEn m n d.en o.dst v = some d'.en ∧ d'.wf ∧ Later d d' ∧
   (d'.cs = d.cs ∨ d'.cs = d.cs ++ [i]) ∧ ∀ dF, Later d' dF → (d'.cs = d.cs → ∀ x ∈ dF.cs, x ≠ i) → Went C fs m all dF i o d.en v := by
 simp only [dGo] at h
 split at h
 ·cases h
 ·rename_i hw
  split at h
  ·rename_i en hen
   exact ⟨{ d with en := en }, undef, h, hen, hwf, ⟨⟨[], by simp⟩, ⟨[], by simp⟩, fun _ h => h⟩, .inl rfl, fun dF _ hn => .skip hw (hn rfl)⟩
  ·cases h
 ·rename_i hw
  split at h
  ·cases h
  ·rename_i ha
   have chain : ∀ {v : Value} {A : AW} {en : En}, setEn m n d.en o.dst v = some en → dGo C fs m n all rest (Nat.succ i) { en := en, A := A, cs := d.cs ++ [i], ws := d.ws ++ [A], rs := d.rs } = some dF →
     (doOp C (rho m d.en) o d.A = .val v A ∨ (∃ f args A1, doOp C (rho m d.en) o d.A = .call f args A1 ∧ fs.call f args A1 = .ret v A) ∨ ∃ r args A1, doOp C (rho m d.en) o d.A = .yield r args A1 ∧ fs.yield r args A1 = .ret v A) →
     ∃ d' v, dGo C fs m n all rest (i + 1) d' = some dF ∧ setEn m n d.en o.dst v = some d'.en ∧ d'.wf ∧ Later d d' ∧ (d'.cs = d.cs ∨ d'.cs = d.cs ++ [i]) ∧ ∀ dF, Later d' dF → (d'.cs = d.cs → ∀ x ∈ dF.cs, x ≠ i) → Went C fs m all dF i o d.en v := fun {v A en} hen hgo ho => by
    refine ⟨_, v, hgo, hen, ⟨by simp [hwf.1], by simp [← hwf.1]⟩, ⟨⟨[i], rfl⟩, ⟨[A], rfl⟩, fun _ h => h⟩, .inr rfl, fun dF' hl _ => ?_⟩
    refine .chain hw ha (k := d.cs.length) (hl.csAt (by simp)) (hl.wsAt (A := d.A) ?_) (hl.wsAt (A := A) ?_) ho
    ·simp only
     rw [List.getElem?_append_left (by rw [hwf.1]; omega)]
     exact hwf.2
    ·simp only
     rw [List.getElem?_append_right (by rw [hwf.1]; omega), hwf.1]
     simp
   split at h
   ·rename_i v A hd
    split at h
    ·rename_i en hen
     split at h
     ·rename_i hq
      have hA := quiet_same hq hd
      subst hA
      refine ⟨_, v, h, hen, hwf, ⟨⟨[], by simp⟩, ⟨[], by simp⟩, fun r hr => List.mem_cons_of_mem _ hr⟩, .inl rfl, fun dF' hl hn => ?_⟩
      exact .quiet hw ha hq (hn rfl) (hl.rs _ (List.mem_cons_self)) (hl.wsAt hwf.2) hd
     ·exact chain hen h (.inl hd)
    ·cases h
   ·rename_i f args A1 hd
    split at h
    ·rename_i v A hc
     split at h
     ·rename_i en hen
      exact chain hen h (.inr (.inl ⟨f, args, A1, hd, hc⟩))
     ·cases h
    ·cases h
   ·rename_i f args A1 hd
    split at h
    ·rename_i v A hc
     split at h
     ·rename_i en hen
      exact chain hen h (.inr (.inr ⟨f, args, A1, hd, hc⟩))
     ·cases h
    ·cases h
   ·cases h

theorem dGo_later {C : Cfg} {fs : Fns} {m n : Nat} {all : List Oper} : ∀ {rest : List Oper} {i : Nat} {d dF : DS}, dGo C fs m n all rest i d = some dF → d.wf → Later d dF ∧ dF.wf ∧ (∀ t, (∀ o ∈ rest, o.dst ≠ some t) → dF.en.get m t = d.en.get m t) ∧ ∀ x ∈ dF.cs, x ∈ d.cs ∨ (i ≤ x ∧ x < i + rest.length) := by
 intro rest
 induction rest with
 | nil => intro i d dF h hwf; simp only [dGo, Option.some.injEq] at h; subst h; exact ⟨.refl d, hwf, fun _ _ => rfl, fun x hx => .inl hx⟩
 | cons o rest ih =>
  intro i d dF h hwf
  obtain ⟨d', v, hgo, hen, hwf', hl, hcs, _⟩ := dGo_step h hwf
  obtain ⟨h1, h2, h3, h4⟩ := ih hgo hwf'
  refine ⟨hl.trans h1, h2, fun t ht => ?_, fun x hx => ?_⟩
  ·rw [h3 t fun o' ho' => ht o' (by simp [ho']), (setEn_get hen).1 t (ht o (by simp))]
  ·simp only [List.length_cons]
   rcases h4 x hx with hx | hx
   ·rcases hcs with hcs | hcs <;> rw [hcs] at hx
    ·exact .inl hx
    ·rcases List.mem_append.1 hx with hx | hx
     ·exact .inl hx
     ·simp at hx; exact .inr ⟨by omega, by omega⟩
   ·exact .inr ⟨by omega, by omega⟩

theorem dGo_fact {C : Cfg} {fs : Fns} {m n : Nat} {all : List Oper} {en0 : En} : ∀ {rest : List Oper} {i : Nat} {d dF : DS}, all.drop i = rest → dGo C fs m n all rest i d = some dF → d.wf → (∀ x ∈ d.cs, x < i) →
  (∀ t, (∀ j o', j < i → all[j]? = some o' → o'.dst ≠ some t) → d.en.get m t = en0.get m t) → ∀ j o, i ≤ j → all[j]? = some o → FactAt C fs m n all en0 dF j o := by
 intro rest
 induction rest with
 | nil =>
  intro i d dF hdrop h hwf _ hB j o hj ho
  have : all.length ≤ i := by
   have := congrArg List.length hdrop
   simp at this
   omega
  have := (List.getElem?_eq_some_iff.1 ho).1
  omega
 | cons o rest ih =>
  intro i d dF hdrop h hwf hlow hB j oj hj hoj
  have hoi : all[i]? = some o := by
   have : (all.drop i)[0]? = some o := by rw [hdrop]; rfl
   simpa using this
  have hdrop' : all.drop (i + 1) = rest := by
   have := congrArg List.tail hdrop
   simpa using this
  obtain ⟨d', v, hgo, hen, hwf', hl, hcs, hwent⟩ := dGo_step h hwf
  obtain ⟨g1, g2⟩ := setEn_get hen
  obtain ⟨hl2, _, henv, hcs2⟩ := dGo_later hgo hwf'
  have restdst : ∀ t, (∀ j' o', i < j' → all[j']? = some o' → o'.dst ≠ some t) → ∀ o' ∈ rest, o'.dst ≠ some t := fun t ht o' ho' => by
   obtain ⟨q, hq⟩ := List.getElem?_of_mem ho'
   refine ht (i + 1 + q) o' (by omega) ?_
   have : (all.drop (i + 1))[q]? = some o' := by rw [hdrop']; exact hq
   simpa using this
  by_cases hji : j = i
  ·subst hji
   rw [hoi] at hoj
   cases hoj
   refine ⟨d.en, v, fun t ht => ?_, hB, fun t hd => ⟨(g2 t hd).1, fun ht => ?_⟩, hwent dF hl2 fun he x hx => ?_⟩
   ·rw [henv t (restdst t fun j' o' h' ho' => ht j' o' (by omega) ho'), g1 t (ht j o (Nat.le_refl _) hoi)]
   ·rw [henv t (restdst t ht), (g2 t hd).2]
   ·rcases hcs2 x hx with hx | hx
    ·rw [he] at hx
     have := hlow x hx
     omega
    ·omega
  ·refine ih hdrop' hgo hwf' (fun x hx => ?_) (fun t ht => ?_) j oj (by omega) hoj
   ·rcases hcs with hcs | hcs <;> rw [hcs] at hx
    ·have := hlow x hx
     omega
    ·rcases List.mem_append.1 hx with hx | hx
     ·have := hlow x hx
      omega
     ·simp at hx
      omega
   rw [g1 t (ht i o (by omega) hoi)]
   exact hB t fun j' o' h' ho' => ht j' o' (by omega) ho'

theorem dGo_nodup {C : Cfg} {fs : Fns} {m n : Nat} {all : List Oper} : ∀ {rest : List Oper} {i : Nat} {d dF : DS}, dGo C fs m n all rest i d = some dF → d.wf → (∀ x ∈ d.cs, x < i) → d.cs.Nodup → dF.cs.Nodup := by
 intro rest
 induction rest with
 | nil => intro i d dF h _ _ hn; simp only [dGo, Option.some.injEq] at h; subst h; exact hn
 | cons o rest ih =>
  intro i d dF h hwf hlow hn
  obtain ⟨d', v, hgo, _, hwf', _, hcs, _⟩ := dGo_step h hwf
  rcases hcs with hcs | hcs
  ·exact ih hgo hwf' (fun x hx => by rw [hcs] at hx; have := hlow x hx; omega) (by rw [hcs]; exact hn)
  ·refine ih hgo hwf' (fun x hx => ?_) ?_
   ·rw [hcs] at hx
    rcases List.mem_append.1 hx with hx | hx
    ·have := hlow x hx; omega
    ·simp at hx; omega
   ·rw [hcs]
    refine List.nodup_append.2 ⟨hn, by simp, fun a ha b hb => ?_⟩
    simp at hb
    have := hlow a ha
    omega

end Go.Ev
