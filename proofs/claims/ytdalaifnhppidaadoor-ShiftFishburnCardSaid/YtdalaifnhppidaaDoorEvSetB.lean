/- Regions in which one step has a set of answers. -/
import Derived.Test.YtdalaifnhppidaaDoorEvSet
namespace Go.Ev
open Go
variable {β : Nat}
set_option linter.unusedVariables false
set_option linter.unusedSimpArgs false

def StepE (C : Cfg) (m n : Nat) (o : Oper) (en : En) (A : AW) (S : Value → AW → Prop) : Prop :=
 ∀ F, Wide F → ∀ (β k : Nat) (γ : Gam) (ms : List Nat) (a : Act) (W : World) (next : Act → World → Prop) (Q : Exit → Act → World → Prop), SRel β γ m n ⟨en, ms, A⟩ a W → Ro C.ro γ W →
  (∀ v A' v' γ' W', S v A' → VRel γ' v v' → WRel γ' A' W' → Ext γ W γ' W' → next (a.put o.dst v') W') → o.wpIn F k C.P a W next Q

theorem StepE.val {C : Cfg} (hC : C.Ok) {m n : Nat} {o : Oper} {en : En} {A : AW} {v : Value} {A' : AW} (hav : avail m en o.op.operands.toList = true) (hd : doOp C (rho m en) o A = .val v A') : StepE C m n o en A fun u B => u = v ∧ B = A' :=
 fun _ hF _ k _ _ _ _ _ _ hs hR hn => oper_ok' (fs := lvlU C (fun _ => none) .nil 0 0) hC (lvlU_ok hC TOk.nil .nil 0 0) hF k hs.w hR o (fun x hx => avail_rel hs.tm hav x (by simpa using hx)) (.inl hd) fun v' γ' W' => hn v A' v' γ' W' ⟨rfl, rfl⟩

theorem StepE.call {C : Cfg} (hC : C.Ok) {m n : Nat} {o : Oper} {en : En} {A : AW} {f : Nat} {args : List Value} {A1 : AW} {S : Value → AW → Prop}
  (hav : avail m en o.op.operands.toList = true) (hd : doOp C (rho m en) o A = .call f args A1) (hN : SOk C f args A1 S) : StepE C m n o en A S := by
 intro F hF β k γ ms a W next Q hs hR hn
 have hw := hs.w
 have hop := doOp_ok hC hw hR o (ρ := rho m en) (ρ' := a.eval) (fun x hx => avail_rel hs.tm hav x (by simpa using hx))
 have hnd : ∀ c, o.op ≠ .defer c := not_defer (fun w hw => by rw [hd] at hw; cases hw)
 refine ⟨fun f _ => hF.fn f, ?_⟩
 rw [Oper.semAt_eq _ _ _ hnd]
 rw [hd] at hop
 obtain ⟨args', hrun, hargs, hw⟩ := hop
 rw [hrun]
 refine ⟨fun hd => by rw [hF.depth] at hd; simp at hd, ?_⟩
 refine (hN F hF (k - 1) γ W args' hw hR hargs).mono fun e W' he => ?_
 obtain ⟨v, A', hS, v', γ', rfl, hv, hw', hx⟩ := he
 exact hn v A' v' γ' W' hS hv hw' hx

theorem StepE.next {C : Cfg} {m n : Nat} {dst : Option Tmp} {x : Operand} {ty : TypeId} {pos : String} {after : Array Edge} {guard : Option (Nat × Bool)} {en : En} {A : AW} {i mm since last clock : Nat} {seen : List Nat} {es : List MapEntry}
  (hx : opd m en x = some (.pointer (some ⟨i, 0, none⟩))) (hi : A.heap.get i = some (.miter mm since seen last)) (hm : A.heap.get mm = some (.map es clock)) (hsame : nextSame es since seen last = true) :
  StepE C m n ⟨dst, .next x false, ty, pos, after, guard⟩ en A (nextS A i mm since seen es clock) := by
 intro F hF β k γ ms a W next Q hs hR hn
 have hv := opd_rel hs.tm hx
 refine ⟨fun f _ => hF.fn f, ?_⟩
 rw [Oper.semAt_eq _ _ _ (fun c h => by cases h)]
 generalize hav : a.eval x = v0 at hv
 cases hv with
 | ptr kk hg =>
 rename_i g
 obtain ⟨g', hg', ho⟩ := hs.w.obj _ _ hi
 rw [hg] at hg'
 cases hg'
 cases ho with
 | miter h0 hgm hb =>
 rename_i gm
 obtain ⟨g', hg', hom⟩ := hs.w.obj _ _ hm
 rw [hgm] at hg'
 cases hg'
 cases hom with
 | map hbm he =>
 rw [show g.off + 0 = 0 from h0] at hav
 obtain ⟨left', h1, h2⟩ := next_run (P := C.P) ty hb hbm he hsame
 show Oper.uponIn F k C.P _ a next Q (Sem.run C.P (do pure (Next.value (← Instr.next (a.eval x) false ty))) W)
 rw [hav, Sem.run_bind]
 obtain ⟨hlen, hnth⟩ := h1.nth
 obtain ⟨W1, hW1, hout⟩ := next_out (P := C.P) (W := W) (since := since) (clock := clock) (seen := seen) left' hb
 have hw1 : WRel γ A W1 := by
  rcases hW1 with h | h
  ·rw [h]; exact hs.w
  ·rw [h]; exact hs.w.drew
 have hx1 : Ext γ W γ W1 := by
  rcases hW1 with h | h
  ·rw [h]; exact Ext.refl _ _
  ·rw [h]; exact Ext.drew γ W
 have hb1 : W1.heap[g.blk]? = some (.mapIter (some gm.blk) since seen.toArray last) := by
  rcases hW1 with h | h
  ·rw [h]; exact hb
  ·rw [h]; exact hb
 rcases hout with ⟨hl, hrun⟩ | ⟨j, e', hj, hrun⟩
 ·rw [h2.trans hrun]
  refine hn _ A _ γ W1 (.inl ⟨?_, rfl, rfl⟩) (.tuple (.cons (.bool false) .nil)) hw1 hx1
  rw [hl] at hlen
  exact List.eq_nil_of_length_eq_zero hlen
 ·rw [h2.trans hrun]
  obtain ⟨e, hmem, hr⟩ := hnth j e' hj
  obtain ⟨q1, q2⟩ := setObj_rel hw1 (x' := .miter mm since (seen ++ [e.born]) clock) (O := .mapIter (some gm.blk) since (seen ++ [e.born]).toArray clock) hi hg (by intros; simp) (by intros; simp) (.miter h0 hgm (setB_same _ (lt_of_heap hb1)))
  rw [hr.born]
  exact hn _ _ _ γ _ (.inr ⟨e, hmem, rfl, rfl⟩) (.tuple (.cons (.bool true) (.cons hr.key (.cons hr.val .nil)))) q1 (hx1.trans q2)

theorem ops_pre {C : Cfg} (hC : C.Ok) {fs : Fns} (hf : fs.Ok C) {F : Fence} (hF : Wide F) (k : Nat) {m n : Nat} {ops : Array Oper} {Q : Exit → Act → World → Prop} {s1 : St} {js : List Nat} : ∀ (pre : List Oper) (i : Nat) (tl : List Oper), ops.toList.drop i = pre ++ tl →
  ∀ {γ : Gam} {s : St} {a : Act} {W : World}, SRel β γ m n s a W → Ro C.ro γ W → evOps C fs m n ops.toList pre s = .norm s1 → (∀ γ' a' W', SRel β γ' m n s1 a' W' → Ext γ W γ' W' → wpOpsIn F k C.P ops Q js a' W') →
   wpOpsIn F k C.P ops Q (List.range' i pre.length ++ js) a W := by
 intro pre
 induction pre with
 | nil =>
  intro i tl _ γ s a W hs _ hok hg
  simp only [evOps, Out.norm.injEq] at hok
  subst hok
  exact hg γ a W hs (Ext.refl _ _)
 | cons o pre ih =>
  intro i tl hi γ s a W hs hR hok hg
  have hoi : ops[i]? = some o := by
   have : (ops.toList.drop i)[0]? = some o := by rw [hi]; rfl
   simpa using this
  have hdrop : ops.toList.drop (i + 1) = pre ++ tl := by
   have := congrArg List.tail hi
   simpa using this
  simp only [List.length_cons, List.range'_succ, List.cons_append, wpOpsIn, hoi]
  simp only [evOps] at hok
  split at hok
  ·cases hok
  ·rename_i hwant
   rw [wantedE_ok hs.tm o hwant]
   simp only [Bool.false_eq_true, if_false]
   split at hok
   ·rename_i s' hset
    exact ⟨fun f _ => hF.fn f, ih (i + 1) tl hdrop (setD_rel hs hset (Ext.refl _ _) (.tuple .nil) hs.w) hR hok hg⟩
   ·cases hok
  ·rename_i hwant
   rw [wantedE_ok hs.tm o hwant]
   simp only [if_true]
   split at hok
   ·cases hok
   ·rename_i hav
    have cont : ∀ {v : Value} {A' : AW} {s' : St}, setD m n s o.dst v A' = some s' → evOps C fs m n ops.toList pre s' = .norm s1 →
      ∀ v' γ' W', VRel γ' v v' → WRel γ' A' W' → Ext γ W γ' W' → wpOpsIn F k C.P ops Q (List.range' (i + 1) pre.length ++ js) (a.put o.dst v') W' :=
     fun hset hok' v' γ' W' hv hw he => ih (i + 1) tl hdrop (setD_rel hs hset he hv hw) (hR.ext he) hok' fun γ2 a2 W2 h2 he2 => hg γ2 a2 W2 h2 (he.trans he2)
    cases hd : doOp C (rho m s.en) o s.A with
    | fail w => rw [hd] at hok; cases hok
    | val v A' =>
     rw [hd] at hok
     simp only at hok
     split at hok
     ·rename_i s' hset
      exact oper_ok hC hf hF k hs hR o hav (.inl hd) (cont hset hok)
     ·cases hok
    | call f args A' =>
     rw [hd] at hok
     simp only at hok
     split at hok
     ·cases hok
     ·rename_i v A2 hc
      split at hok
      ·rename_i s' hset
       exact oper_ok hC hf hF k hs hR o hav (.inr (.inl ⟨f, args, A', hd, hc⟩)) (cont hset hok)
      ·cases hok
    | yield i' args A' =>
     rw [hd] at hok
     simp only at hok
     split at hok
     ·cases hok
     ·rename_i v A2 hc
      split at hok
      ·rename_i s' hset
       exact oper_ok hC hf hF k hs hR o hav (.inr (.inr ⟨i', args, A', hd, hc⟩)) (cont hset hok)
      ·cases hok

def preK (C : Cfg) (m n : Nat) (c : Code) (p : Nat) (fs : FnsC) (k : KS) : KS := match c with
 | .region _ ops false => (cOps C m n ops.toList (ops.toList.take p)).f fs k
 | _ => fun _ _ _ _ => .fail 290
def opAt (c : Code) (p : Nat) : Option Oper := match c with
 | .region _ ops false => (ops.toList.drop p).head?
 | _ => none
def tailK (C : Cfg) (m n : Nat) (c : Code) (p : Nat) (fs : FnsC) (k : KS) (v : Value) : KS := match c with
 | .region _ ops false => match ops.toList.drop p with
  | o :: rest => fun s b ms A => (cPut C m n o.dst).f s b v fun s b => (cOps C m n ops.toList rest).f fs k s b ms A
  | [] => fun _ _ _ _ => .fail 291
 | _ => fun _ _ _ _ => .fail 290

def callAt (C : Cfg) (m : Nat) (c : Code) (p : Nat) (en : En) (A : AW) : Option (Nat × List Value × AW) := match opAt c p with
 | some o => match o.guard, avail m en o.op.operands.toList, doOp C (rho m en) o A with
  | none, true, .call f args A' => some (f, args, A')
  | _, _, _ => none
 | none => none
def nextAt (m : Nat) (c : Code) (p : Nat) (en : En) (i : Nat) : Bool := match opAt c p with
 | some o => match o.guard, o.op with
  | none, .next x false => match opd m en x with
   | some (.pointer (some ⟨j, 0, none⟩)) => Nat.beq j i
   | _ => false
  | _, _ => false
 | none => false
def entryAt (m : Nat) (c : Code) (p : Nat) (en : En) (i : Nat) : Bool := match opAt c p with
 | some o => match o.guard, o.op with
  | none, .entry x => avail m en [x] && (match rho m en x with
   | .pointer (some ⟨j, 0, none⟩) => Nat.beq j i
   | _ => false)
  | _, _ => false
 | none => false

section
variable {C : Cfg} {m n : Nat} {F : Fence} {k : Nat} {γ0 : Gam} {W0 : World}

theorem Reach.regionP (hC : C.Ok) (hF : Wide F) {t : Tbl} (ht : TOk C t) {tm : Tr Nat} {L d : Nat} {c : Code} {p : Nat} {o : Oper} (ho : opAt c p = some o) (hgd : o.guard = none) {s s1 : List (Nat × Value)} {b b1 : Tr Value} {ms ms1 : List Nat} {A A1 : AW} {S : Value → AW → Prop} {Q : Exit → St → Prop}
  (hpre : preK C m n c p (lvlT C t tm L d) (qn (· = ⟨⟨s1, b1⟩, ms1, A1⟩)) [] b ms A = .ret undef ⟨0, .nil, .nil⟩) (hstep : StepE C m n o ⟨s1, b1⟩ A1 S)
  (hk : ∀ v A', S v A' → tailK C m n c p (lvlT C t tm L d) (qn (Q .normal)) v s1 b1 ms1 A' = .ret undef ⟨0, .nil, .nil⟩) : Reach C m n F k γ0 W0 c ⟨⟨s, b⟩, ms, A⟩ Q := by
 unfold opAt at ho
 split at ho
 case h_2 => cases ho
 rename_i id ops
 intro γ a W hs hb
 have hs0 := dropScr_rel hs
 have hf := lvlU_ok hC ht tm L d
 have hle := lvlT_le (C := C) t tm L d
 refine wpIn_region ?_
 obtain ⟨rest, hrest⟩ : ∃ rest, ops.toList.drop p = o :: rest := by
  cases hd : ops.toList.drop p with
  | nil => rw [hd] at ho; cases ho
  | cons x l => rw [hd] at ho; cases ho; exact ⟨l, rfl⟩
 have hlen : ops.size = p + (rest.length + 1) := by
  have := congrArg List.length hrest
  simp only [List.length_drop, Array.length_toList, List.length_cons] at this
  omega
 have hpl : (ops.toList.take p).length = p := by simp; omega
 have hrange : List.range ops.size = List.range' 0 (ops.toList.take p).length ++ (p :: List.range' (p + 1) rest.length) := by
  rw [hpl, List.range_eq_range', hlen, ← List.range'_succ]
  have := List.range'_append (s := 0) (m := p) (n := rest.length + 1) (step := 1)
  simp only [Nat.zero_add, Nat.one_mul] at this
  exact this.symm
 rw [hrange]
 have hq1 := cOps_le (C := C) hle m n ops.toList (fun _ _ _ _ _ => .fail 0) (fun _ _ _ _ => .fail 0) (ops.toList.take p) (qn (· = ⟨⟨s1, b1⟩, ms1, A1⟩)) [] b ms A _ _ hpre
 have hev : evOps C (lvlU C t tm L d) m n ops.toList (ops.toList.take p) ⟨⟨[], b⟩, ms, A⟩ = .norm ⟨⟨s1, b1⟩, ms1, A1⟩ := by
  cases he : evOps C (lvlU C t tm L d) m n ops.toList (ops.toList.take p) ⟨⟨[], b⟩, ms, A⟩ with
  | fail w => rw [he] at hq1; cases hq1
  | exit id st => rw [he] at hq1; cases hq1
  | ret st => rw [he] at hq1; cases hq1
  | norm st =>
   obtain ⟨⟨s', b'⟩, ms', A'⟩ := st
   rw [he] at hq1
   rw [qn_use hq1]
 refine ops_pre hC hf hF k (ops.toList.take p) 0 (o :: rest) (by rw [← hrest]; simp) hs0 hb.ro hev fun γ1 a1 W1 hs1 he1 => ?_
 have hoi : ops[p]? = some o := by
  have : (ops.toList.drop p)[0]? = some o := by rw [hrest]; rfl
  simpa using this
 have hdrop : ops.toList.drop (p + 1) = rest := by
  have := congrArg List.tail hrest
  simpa using this
 have hwant : wantedE m ops.toList ⟨s1, b1⟩ o.guard = some true := by rw [hgd]; rfl
 simp only [wpOpsIn, hoi]
 rw [wantedE_ok hs1.tm o hwant]
 simp only [if_true]
 refine hstep F hF _ k γ1 ms1 a1 W1 _ _ hs1 (hb.ro.ext he1) fun v A' v' γ' W' hS hv hw he => ?_
 have ht1 := hk v A' hS
 simp only [tailK, hrest] at ht1
 obtain ⟨e, h1, h2⟩ := cPut_use ht1
 have hset := setD_of (m := m) (n := n) (s := ⟨⟨s1, b1⟩, ms1, A1⟩) (A := A') h1
 have hq2 := cOps_le (C := C) hle m n ops.toList (fun _ _ _ _ _ => .fail 0) (fun _ _ _ _ => .fail 0) rest (qn (Q .normal)) e.scr e.base ms1 A' _ _ h2
 cases hev2 : evOps C (lvlU C t tm L d) m n ops.toList rest ⟨e, ms1, A'⟩ with
 | fail w => rw [hev2] at hq2; cases hq2
 | exit id st => rw [hev2] at hq2; cases hq2
 | ret st => rw [hev2] at hq2; cases hq2
 | norm st =>
  rw [hev2] at hq2
  obtain ⟨⟨s', b'⟩, ms', A2⟩ := st
  refine ops_ok hC hf hF k (ops := ops) rest (p + 1) hdrop (setD_rel hs1 hset he hv hw) ((hb.ro.ext he1).ext he) (by rw [hev2]; rfl) ?_
  rw [hev2]
  exact fun γ2 a2 W2 hs2 he2 => ⟨_, γ2, qn_use hq2, hs2, ⟨hb.ext.trans (he1.trans (he.trans he2)), hb.ro.ext (he1.trans (he.trans he2))⟩⟩

theorem Reach.callP (hC : C.Ok) (hF : Wide F) {t : Tbl} (ht : TOk C t) {tm : Tr Nat} {L d : Nat} {c : Code} (p : Nat) {s s1 : List (Nat × Value)} {b b1 : Tr Value} {ms ms1 : List Nat} {A A1 A2 : AW} {f : Nat} {args : List Value} {S : Value → AW → Prop} {Q : Exit → St → Prop}
  (hpre : preK C m n c p (lvlT C t tm L d) (qn (· = ⟨⟨s1, b1⟩, ms1, A1⟩)) [] b ms A = .ret undef ⟨0, .nil, .nil⟩) (hcall : callAt C m c p ⟨s1, b1⟩ A1 = some (f, args, A2)) (hN : SOk C f args A2 S)
  (hk : ∀ v A', S v A' → tailK C m n c p (lvlT C t tm L d) (qn (Q .normal)) v s1 b1 ms1 A' = .ret undef ⟨0, .nil, .nil⟩) : Reach C m n F k γ0 W0 c ⟨⟨s, b⟩, ms, A⟩ Q := by
 unfold callAt at hcall
 split at hcall
 ·rename_i o ho
  split at hcall
  ·rename_i hg hav hd
   cases hcall
   exact Reach.regionP hC hF ht ho hg hpre (StepE.call hC hav hd hN) hk
  ·cases hcall
 ·cases hcall

theorem Reach.nextP (hC : C.Ok) (hF : Wide F) {t : Tbl} (ht : TOk C t) {tm : Tr Nat} {L d : Nat} {c : Code} (p : Nat) {s s1 : List (Nat × Value)} {b b1 : Tr Value} {ms ms1 : List Nat} {A A1 : AW} {i mm since last clock : Nat} {seen : List Nat} {es : List MapEntry} {Q : Exit → St → Prop}
  (hpre : preK C m n c p (lvlT C t tm L d) (qn (· = ⟨⟨s1, b1⟩, ms1, A1⟩)) [] b ms A = .ret undef ⟨0, .nil, .nil⟩) (hat : nextAt m c p ⟨s1, b1⟩ i = true)
  (hi : A1.heap.get i = some (.miter mm since seen last)) (hm : A1.heap.get mm = some (.map es clock)) (hsame : nextSame es since seen last = true)
  (hk : ∀ v A', nextS A1 i mm since seen es clock v A' → tailK C m n c p (lvlT C t tm L d) (qn (Q .normal)) v s1 b1 ms1 A' = .ret undef ⟨0, .nil, .nil⟩) : Reach C m n F k γ0 W0 c ⟨⟨s, b⟩, ms, A⟩ Q := by
 unfold nextAt at hat
 split at hat
 ·rename_i o ho
  split at hat
  ·rename_i x hg hop
   split at hat
   ·rename_i j hx
    have := Nat.eq_of_beq_eq_true hat
    subst this
    obtain ⟨dst, op, ty, pos, after, guard⟩ := o
    simp only at hop hg
    subst hop
    exact Reach.regionP hC hF ht ho hg hpre (StepE.next hx hi hm hsame) hk
   ·cases hat
  ·cases hat
 ·cases hat

theorem Reach.entryP (hC : C.Ok) (hF : Wide F) {t : Tbl} (ht : TOk C t) {tm : Tr Nat} {L d : Nat} {c : Code} (p : Nat) {s s1 : List (Nat × Value)} {b b1 : Tr Value} {ms ms1 : List Nat} {A A1 : AW} {i mm since clock stamp : Nat} {seen : List Nat} {es : List MapEntry} {e : MapEntry} {Q : Exit → St → Prop}
  (hpre : preK C m n c p (lvlT C t tm L d) (qn (· = ⟨⟨s1, b1⟩, ms1, A1⟩)) [] b ms A = .ret undef ⟨0, .nil, .nil⟩) (hat : entryAt m c p ⟨s1, b1⟩ i = true)
  (hi : A1.heap.get i = some (.miter mm since seen clock)) (hm : A1.heap.get mm = some (.map es clock)) (hl : seen.getLast? = some stamp) (hf : es.find? (fun e => Nat.beq e.born stamp) = some e)
  (hk : tailK C m n c p (lvlT C t tm L d) (qn (Q .normal)) (.tuple ⟨[e.key, e.val]⟩) s1 b1 ms1 A1 = .ret undef ⟨0, .nil, .nil⟩) : Reach C m n F k γ0 W0 c ⟨⟨s, b⟩, ms, A⟩ Q := by
 unfold entryAt at hat
 split at hat
 ·rename_i o ho
  split at hat
  ·rename_i x hg hop
   simp only [Bool.and_eq_true] at hat
   obtain ⟨hav, hat⟩ := hat
   split at hat
   ·rename_i j hx
    have := Nat.eq_of_beq_eq_true hat
    subst this
    obtain ⟨dst, op, ty, pos, after, guard⟩ := o
    simp only at hop hg
    subst hop
    refine Reach.regionP hC hF ht ho hg hpre (StepE.val hC (v := .tuple ⟨[e.key, e.val]⟩) (A' := A1) ?_ ?_) fun v A' ⟨h1, h2⟩ => ?_
    ·exact hav
    ·show doEntry (rho m ⟨s1, b1⟩ x) A1 = _
     rw [hx]
     unfold doEntry
     simp only [hi, hm, hl, hf, Nat.beq_refl]
    ·subst h1 h2
     exact hk
   ·cases hat
  ·cases hat
 ·cases hat

end

end Go.Ev
