/- Code: regions in the order of the text, branches, blocks, loops; what they leave. -/
import Derived.Test.YtdalaifnhppidaaDoorEvStep
namespace Go.Ev
open Go
variable {β : Nat}

def opd (m : Nat) (e : En) : Operand → Option Value
 | .tmp t => e.get m t
 | .const v => match gnd v with
  | true => some v
  | false => none
 | .global g => some (.pointer (some ⟨g, 0, some 0⟩))
 | .func f => some (.func (.func f) ⟨[]⟩ ⟨[]⟩)

def rho (m : Nat) (e : En) (x : Operand) : Value :=
 match opd m e x with
 | some v => v
 | none => undef

def avail (m : Nat) (e : En) : List Operand → Bool
 | [] => true
 | x :: l => match opd m e x with
  | some _ => avail m e l
  | none => false

theorem opd_rel {γ : Gam} {m : Nat} {e : En} {a : Act} (h : TRel γ m e a.tmps) {x : Operand} {v : Value} (hv : opd m e x = some v) : VRel γ v (a.eval x) := by
 cases x with
 | tmp t =>
  obtain ⟨v', h1, h2⟩ := h t v hv
  have : a.eval (.tmp t) = v' := by simp [Act.eval, h1]
  rw [this]
  exact h2
 | const c =>
  simp only [opd] at hv
  split at hv
  ·rename_i hg; cases hv; exact VRel.of_gnd γ _ hg
  ·cases hv
 | global g => simp only [opd, Option.some.injEq] at hv; subst hv; exact .ptrRo g 0 0
 | func f => simp only [opd, Option.some.injEq] at hv; subst hv; exact .func (.func f) .nil .nil

theorem avail_rel {γ : Gam} {m : Nat} {e : En} {a : Act} (h : TRel γ m e a.tmps) : ∀ {l : List Operand}, avail m e l = true → ∀ x ∈ l, VRel γ (rho m e x) (a.eval x) := by
 intro l
 induction l with
 | nil => intro _ x hx; cases hx
 | cons y l ih =>
  intro ha x hx
  simp only [avail] at ha
  split at ha
  ·rename_i v hv
   rcases List.mem_cons.1 hx with rfl | hx
   ·have : rho m e x = v := by simp [rho, hv]
    rw [this]
    exact opd_rel h hv
   ·exact ih ha x hx
  ·cases ha

theorem TRel.put {γ : Gam} {m : Nat} {e : En} {tmps : Array Value} (h : TRel γ m e tmps) {t : Nat} (ht : t < tmps.size) {v v' : Value} (hv : VRel γ v v') : TRel γ m (e.set m t v) (tmps.setIfInBounds t v') := by
 intro j u hu
 rw [En.get_set] at hu
 by_cases hj : j = t
 ·rw [if_pos hj] at hu
  cases hu
  subst hj
  exact ⟨v', by simp [ht], hv⟩
 ·rw [if_neg hj] at hu
  obtain ⟨u', h1, h2⟩ := h j u hu
  exact ⟨u', by rw [Array.getElem?_setIfInBounds_ne (by omega)]; exact h1, h2⟩

structure St where
 en : En
 marks : List Nat
 A : AW

inductive Out where
 | fail (why : Nat)
 | norm (s : St)
 | exit (id : Nat) (s : St)
 | ret (s : St)

inductive CR where
 | fail (why : Nat)
 | ret (v : Value) (A : AW)

inductive DRel (β : Nat) (γ : Gam) (W : World) : List Nat → List Deferred → Prop
 | nil : DRel β γ W [] []
 | cons {i : Nat} {g : GI} {l : List Nat} {l' : List Deferred} (h : γ i = some g) (hl : DRel β γ W l l') : DRel β γ W (i :: l) ({ target := .collected g.blk, args := #[] } :: l')
 | dead {b : Nat} {l : List Nat} {l' : List Deferred} (hB : β ≤ b) (hb : W.heap[b]? = some (.deferred (some []))) (hu : ∀ i g, γ i = some g → g.blk ≠ b) (hd : ∀ d ∈ l', d.target ≠ .collected b) (hl : DRel β γ W l l') :
   DRel β γ W l ({ target := .collected b, args := #[] } :: l')

theorem DRel.mono {β : Nat} {γ γ' : Gam} {W W' : World} (he : Ext γ W γ' W') {l : List Nat} {l' : List Deferred} (h : DRel β γ W l l') : DRel β γ' W' l l' := by
 induction h with
 | nil => exact .nil
 | cons h _ ih => exact .cons (he.le _ _ h) ih
 | @dead b _ _ hB hb hu hd _ ih =>
  have hlt : b < W.heap.size := (Array.getElem?_eq_some_iff.1 hb).1
  refine .dead hB (by rw [he.block b hlt hu]; exact hb) (fun i g hg hbk => ?_) hd ih
  rcases he.new i g hg with h1 | ⟨_, h1 | ⟨j, x, hj, hx⟩⟩
  ·exact hu i g h1 hbk
  ·omega
  ·exact hu j x hj (hx.trans hbk)

theorem DRel.adopt {β : Nat} {γ : Gam} {W : World} {n : Nat} {g : GI} (hn : γ n = none) (hg : ∀ b, W.heap[b]? = some (.deferred (some [])) → g.blk = b → False) {l : List Nat} {l' : List Deferred} (h : DRel β γ W l l') : DRel β (γ.set n g) W l l' := by
 induction h with
 | nil => exact .nil
 | cons h _ ih => exact .cons (Gam.le_set _ hn _ _ h) ih
 | @dead b _ _ hB hb hu hd _ ih =>
  refine .dead hB hb (fun i x hx => ?_) hd ih
  rcases Gam.set_cases hx with ⟨rfl, rfl⟩ | ⟨_, hx⟩
  ·exact fun e => hg b hb e
  ·exact hu i x hx

theorem DRel.take {β : Nat} {γ : Gam} {W : World} {b : Nat} {O : Obj} (_hb : ∀ i g, γ i = some g → g.blk ≠ b) {l : List Nat} {l' : List Deferred} (hd : ∀ d ∈ l', d.target ≠ .collected b) (h : DRel β γ W l l') : DRel β γ (setB W b O) l l' := by
 induction h with
 | nil => exact .nil
 | cons h _ ih => exact .cons h (ih fun d hm => hd d (List.mem_cons_of_mem _ hm))
 | @dead c _ _ hB hc hu hd' _ ih =>
  have hne : c ≠ b := fun e => hd _ (List.mem_cons_self ..) (by rw [e])
  exact .dead hB (by rw [setB_other _ hne]; exact hc) hu hd' (ih fun d hm => hd d (List.mem_cons_of_mem _ hm))

structure SRel (β : Nat) (γ : Gam) (m n : Nat) (s : St) (a : Act) (W : World) : Prop where
 tm : TRel γ m s.en a.tmps
 size : a.tmps.size = n
 df : DRel β γ W s.marks a.defers
 w : WRel γ s.A W

def Out.ok : Out → Bool
 | .fail _ => false
 | _ => true

def Good (β : Nat) (γ : Gam) (W : World) (m n : Nat) (o : Out) (Q : Exit → Act → World → Prop) : Prop :=
 match o with
 | .fail _ => True
 | .norm s => ∀ γ' a' W', SRel β γ' m n s a' W' → Ext γ W γ' W' → Q .normal a' W'
 | .exit id s => ∀ γ' a' W', SRel β γ' m n s a' W' → Ext γ W γ' W' → Q (.exit id) a' W'
 | .ret s => ∀ γ' a' W', SRel β γ' m n s a' W' → Ext γ W γ' W' → Q .ret a' W'

theorem Good.later {γ γ' : Gam} {W W' : World} {m n : Nat} {o : Out} {Q : Exit → Act → World → Prop} (h : Good β γ W m n o Q) (he : Ext γ W γ' W') : Good β γ' W' m n o Q := by
 cases o with
 | fail n => trivial
 | norm s => exact fun γ2 a2 W2 hs h2 => h γ2 a2 W2 hs (he.trans h2)
 | exit id s => exact fun γ2 a2 W2 hs h2 => h γ2 a2 W2 hs (he.trans h2)
 | ret s => exact fun γ2 a2 W2 hs h2 => h γ2 a2 W2 hs (he.trans h2)

structure Wide (F : Fence) : Prop where
 fn : ∀ f, F.fn f
 depth : F.depth = none
 alive : F.alive = false

theorem Wide.room {F : Fence} (h : Wide F) (n : Nat) : F.room n := fun d hd => by rw [h.depth] at hd; cases hd

theorem Wide.calls {F : Fence} (h : Wide F) {k : Nat} {P : Program} {f : FuncId} {args : Array Value} {w : World} {R : Ending → World → Prop} (hc : Calls P f args w R) : CallsIn F k P f args w R := by
 have ht : ∀ m : Machine, m.fenced P F := fun m g _ => ⟨fun e => absurd (h.alive ▸ e) (by decide), Or.inl (h.fn _), fun _ _ => h.fn _, h.room _⟩
 have he : Machine.fenced P F = Machine.fenced P Fence.wide := funext fun m => propext ⟨fun _ => fenced_wide P m, fun _ => ht m⟩
 refine ⟨h.fn _, fun cs _ => ?_⟩
 obtain ⟨e, w', fr, r, s, x⟩ := (callsIn_wide (n := 0)).2 hc |>.2 cs (room_wide _)
 exact ⟨e, w', fr, r, by rw [he]; exact s, x⟩

structure Fns where
 call : Nat → List Value → AW → CR
 yield : Nat → List Value → AW → CR

def Ends (γ : Gam) (W : World) (v : Value) (A' : AW) (e : Ending) (W' : World) : Prop := ∃ v' γ', e = .returned v' ∧ VRel γ' v v' ∧ WRel γ' A' W' ∧ Ext γ W γ' W'

structure Fns.Ok (C : Cfg) (fs : Fns) : Prop where
 call : ∀ γ A W f args args' v A', fs.call f args A = .ret v A' → WRel γ A W → Ro C.ro γ W → VsRel γ args (Array.toList args') → ∀ F, Wide F → ∀ k, CallsIn F k C.P f args' W (Ends γ W v A')
 yield : ∀ γ A W i g args args' v A', fs.yield i args A = .ret v A' → WRel γ A W → Ro C.ro γ W → γ i = some g → VsRel γ args (Array.toList args') →
  ∃ f tmps assign body, (Instr.yield g.blk args').run C.P W = .ok (.round g.blk f tmps assign body) W ∧ ∀ F, Wide F → ∀ k, RoundIn F k C.P g.blk f tmps assign body W (Ends γ W v A')

def setD (m n : Nat) (s : St) (d : Option Nat) (v : Value) (A : AW) : Option St :=
 match d with
 | none => some { s with A := A }
 | some t => match Nat.blt t n with
  | true => some { s with en := s.en.set m t v, A := A }
  | false => none

theorem setD_rel {γ γ' : Gam} {m n : Nat} {s s' : St} {a : Act} {W W' : World} (h : SRel β γ m n s a W) {d : Option Nat} {v v' : Value} {A : AW} (hs : setD m n s d v A = some s') (he : Ext γ W γ' W') (hv : VRel γ' v v') (hw : WRel γ' A W') :
  SRel β γ' m n s' (a.put d v') W' := by
 cases d with
 | none => simp only [setD, Option.some.injEq] at hs; subst hs; exact ⟨h.tm.mono he.le, h.size, h.df.mono he, hw⟩
 | some t =>
  simp only [setD] at hs
  split at hs
  ·rename_i ht
   cases hs
   have htn := blt_lt ht
   exact ⟨(h.tm.mono he.le).put (by rw [h.size]; exact htn) hv, by simp [Act.put, h.size], h.df.mono he, hw⟩
  ·cases hs

def wantedE (m : Nat) (all : List Oper) (e : En) (g : Option (Nat × Bool)) : Option Bool :=
 match g with
 | none => some true
 | some (j, want) => match all[j]? with
  | some o => match o.dst with
   | some d => match e.get m d with
    | some (.bool b) => some (b == want)
    | some _ => some false
    | none => none
   | none => some false
  | none => some false

theorem wantedE_ok {γ : Gam} {m : Nat} {ops : Array Oper} {e : En} {a : Act} (h : TRel γ m e a.tmps) (o : Oper) {b : Bool} (hb : wantedE m ops.toList e o.guard = some b) : Region.wanted o (yielded ops a.tmps) = b := by
 unfold wantedE at hb
 unfold Region.wanted
 split at hb
 ·rename_i hg; simp only [hg]; exact Option.some.inj hb
 ·rename_i j want hg
  simp only [hg, yielded]
  split at hb
  ·rename_i o' ho
   have ho' : ops[j]? = some o' := by simpa using ho
   simp only [ho', Option.bind_some]
   split at hb
   ·rename_i d hd
    simp only [hd, Option.bind_some]
    split at hb
    ·rename_i b' hget
     obtain ⟨v', h1, h2⟩ := h d _ hget
     cases h2
     simp only [h1]
     simpa using hb
    ·rename_i v hnb hget
     obtain ⟨v', h1, h2⟩ := h d _ hget
     simp only [h1]
     cases hb
     cases h2 <;> first | rfl | exact absurd rfl (hnb _)
    ·cases hb
   ·rename_i hd
    cases hb
    simp [hd]
  ·rename_i ho
   cases hb
   have ho' : ops[j]? = none := by simpa using ho
   simp [ho']

def evOps (C : Cfg) (fs : Fns) (m n : Nat) (all : List Oper) : List Oper → St → Out
 | [], s => .norm s
 | o :: rest, s => match wantedE m all s.en o.guard with
  | none => .fail 200
  | some false => match setD m n s o.dst undef s.A with
   | some s' => evOps C fs m n all rest s'
   | none => .fail 201
  | some true => match avail m s.en o.op.operands.toList with
   | false => .fail 202
   | true => match doOp C (rho m s.en) o s.A with
    | .fail w => .fail w
    | .val v A => match setD m n s o.dst v A with
     | some s' => evOps C fs m n all rest s'
     | none => .fail 203
    | .call f args A => match fs.call f args A with
     | .fail w => .fail w
     | .ret v A => match setD m n s o.dst v A with
      | some s' => evOps C fs m n all rest s'
      | none => .fail 204
    | .yield i args A => match fs.yield i args A with
     | .fail w => .fail w
     | .ret v A => match setD m n s o.dst v A with
      | some s' => evOps C fs m n all rest s'
      | none => .fail 205

theorem not_defer {C : Cfg} {ρ : Operand → Value} {o : Oper} {A : AW} (h : ∀ w, doOp C ρ o A ≠ .fail w) : ∀ c, o.op ≠ .defer c := fun c hc => by
 obtain ⟨dst, op, type, pos, after, guard⟩ := o
 simp only at hc
 subst hc
 exact h 191 rfl

theorem oper_ok' {C : Cfg} (hC : C.Ok) {fs : Fns} (hf : fs.Ok C) {F : Fence} (hF : Wide F) (k : Nat) {γ : Gam} {A : AW} {a : Act} {W : World} (hw : WRel γ A W) (hR : Ro C.ro γ W) (o : Oper) {ρ : Operand → Value}
  (hρ : ∀ x ∈ o.op.operands, VRel γ (ρ x) (a.eval x)) {next : Act → World → Prop} {Q : Exit → Act → World → Prop} {v : Value} {A' : AW}
  (hr : doOp C ρ o A = .val v A' ∨ (∃ f args A1, doOp C ρ o A = .call f args A1 ∧ fs.call f args A1 = .ret v A') ∨ ∃ i args A1, doOp C ρ o A = .yield i args A1 ∧ fs.yield i args A1 = .ret v A')
  (hn : ∀ v' γ' W', VRel γ' v v' → WRel γ' A' W' → Ext γ W γ' W' → next (a.put o.dst v') W') : o.wpIn F k C.P a W next Q := by
 have hop := doOp_ok hC hw hR o (ρ := ρ) (ρ' := a.eval) hρ
 have hnd : ∀ c, o.op ≠ .defer c := not_defer (fun w hw => by rcases hr with h | ⟨_, _, _, h, _⟩ | ⟨_, _, _, h, _⟩ <;> rw [h] at hw <;> cases hw)
 refine ⟨fun f _ => hF.fn f, ?_⟩
 rw [Oper.semAt_eq _ _ _ hnd]
 rcases hr with h | ⟨f, args, A1, h, hc⟩ | ⟨i, args, A1, h, hc⟩
 ·rw [h] at hop
  obtain ⟨v', γ', W', hrun, hv, hw, he⟩ := hop
  rcases hrun with hrun | ⟨hrun, rfl⟩
  ·rw [hrun]; exact hn v' γ' W' hv hw he
  ·rw [hrun]; exact hn undef γ' W' hv hw he
 ·rw [h] at hop
  obtain ⟨args', hrun, hargs, hw⟩ := hop
  rw [hrun]
  refine ⟨fun hd => by rw [hF.depth] at hd; simp at hd, ?_⟩
  refine (hf.call γ A1 W f args args' v A' hc hw hR hargs F hF (k - 1)).mono fun e W' he => ?_
  obtain ⟨v', γ', rfl, hv, hw', hx⟩ := he
  exact hn v' γ' W' hv hw' hx
 ·rw [h] at hop
  obtain ⟨g, hg, args', hrun, hargs, hw⟩ := hop
  obtain ⟨f', tmps, assign, body, hy, hround⟩ := hf.yield γ A1 W i g args args' v A' hc hw hR hg hargs
  rw [hrun _ _ hy]
  refine ⟨fun hd => by rw [hF.depth] at hd; simp at hd, ?_⟩
  refine (hround F hF (k - 1)).mono fun e W' he => ?_
  obtain ⟨v', γ', rfl, hv, hw', hx⟩ := he
  exact hn v' γ' W' hv hw' hx

theorem oper_ok {C : Cfg} (hC : C.Ok) {fs : Fns} (hf : fs.Ok C) {F : Fence} (hF : Wide F) (k : Nat) {γ : Gam} {m n : Nat} {s : St} {a : Act} {W : World} (hs : SRel β γ m n s a W) (hR : Ro C.ro γ W) (o : Oper)
  (hav : avail m s.en o.op.operands.toList = true) {next : Act → World → Prop} {Q : Exit → Act → World → Prop} {v : Value} {A' : AW}
  (hr : doOp C (rho m s.en) o s.A = .val v A' ∨ (∃ f args A, doOp C (rho m s.en) o s.A = .call f args A ∧ fs.call f args A = .ret v A') ∨ ∃ i args A, doOp C (rho m s.en) o s.A = .yield i args A ∧ fs.yield i args A = .ret v A')
  (hn : ∀ v' γ' W', VRel γ' v v' → WRel γ' A' W' → Ext γ W γ' W' → next (a.put o.dst v') W') : o.wpIn F k C.P a W next Q :=
 oper_ok' hC hf hF k hs.w hR o (fun x hx => avail_rel hs.tm hav x (by simpa using hx)) hr hn

theorem ops_ok {C : Cfg} (hC : C.Ok) {fs : Fns} (hf : fs.Ok C) {F : Fence} (hF : Wide F) (k : Nat) {m n : Nat} {ops : Array Oper} {Q : Exit → Act → World → Prop} : ∀ (rest : List Oper) (i : Nat), ops.toList.drop i = rest →
  ∀ {γ : Gam} {s : St} {a : Act} {W : World}, SRel β γ m n s a W → Ro C.ro γ W → (evOps C fs m n ops.toList rest s).ok = true → Good β γ W m n (evOps C fs m n ops.toList rest s) Q → wpOpsIn F k C.P ops Q (List.range' i rest.length) a W := by
 intro rest
 induction rest with
 | nil =>
  intro i _ γ s a W hs _ _ hg
  exact hg γ a W hs (Ext.refl _ _)
 | cons o rest ih =>
  intro i hi γ s a W hs hR hok hg
  have hoi : ops[i]? = some o := by
   have : (ops.toList.drop i)[0]? = some o := by rw [hi]; rfl
   simpa using this
  have hdrop : ops.toList.drop (i + 1) = rest := by
   have := congrArg List.tail hi
   simpa using this
  simp only [List.length_cons, List.range'_succ, wpOpsIn, hoi]
  simp only [evOps] at hok hg
  split at hok
  ·cases hok
  ·rename_i hwant
   rw [hwant] at hg
   rw [wantedE_ok hs.tm o hwant]
   simp only at hg
   simp only [Bool.false_eq_true, if_false]
   split at hok
   ·rename_i s' hset
    rw [hset] at hg
    exact ⟨fun f _ => hF.fn f, ih (i + 1) hdrop (setD_rel hs hset (Ext.refl _ _) (.tuple .nil) hs.w) hR hok hg⟩
   ·cases hok
  ·rename_i hwant
   rw [hwant] at hg
   rw [wantedE_ok hs.tm o hwant]
   simp only at hg
   simp only [if_true]
   split at hok
   ·cases hok
   ·rename_i hav
    rw [hav] at hg
    simp only at hg
    have cont : ∀ {v : Value} {A' : AW} {s' : St}, setD m n s o.dst v A' = some s' → (evOps C fs m n ops.toList rest s').ok = true → Good β γ W m n (evOps C fs m n ops.toList rest s') Q →
      ∀ v' γ' W', VRel γ' v v' → WRel γ' A' W' → Ext γ W γ' W' → wpOpsIn F k C.P ops Q (List.range' (i + 1) rest.length) (a.put o.dst v') W' :=
     fun hset hok' hg' v' γ' W' hv hw he => ih (i + 1) hdrop (setD_rel hs hset he hv hw) (hR.ext he) hok' (hg'.later he)
    cases hd : doOp C (rho m s.en) o s.A with
    | fail w => rw [hd] at hok; cases hok
    | val v A' =>
     rw [hd] at hok hg
     simp only at hok hg
     split at hok
     ·rename_i s' hset
      rw [hset] at hg
      exact oper_ok hC hf hF k hs hR o hav (.inl hd) (cont hset hok hg)
     ·cases hok
    | call f args A' =>
     rw [hd] at hok hg
     simp only at hok hg
     split at hok
     ·cases hok
     ·rename_i v A2 hc
      rw [hc] at hg
      simp only at hg
      split at hok
      ·rename_i s' hset
       rw [hset] at hg
       exact oper_ok hC hf hF k hs hR o hav (.inr (.inl ⟨f, args, A', hd, hc⟩)) (cont hset hok hg)
      ·cases hok
    | yield i' args A' =>
     rw [hd] at hok hg
     simp only at hok hg
     split at hok
     ·cases hok
     ·rename_i v A2 hc
      rw [hc] at hg
      simp only at hg
      split at hok
      ·rename_i s' hset
       rw [hset] at hg
       exact oper_ok hC hf hF k hs hR o hav (.inr (.inr ⟨i', args, A', hd, hc⟩)) (cont hset hok hg)
      ·cases hok

end Go.Ev
