/- Regions in which one step has a set of answers. -/
import Derived.Test.YtcgambmcjlighaaDoorEvSet
namespace Go.Ev
open Go
variable {β : Nat}
set_option linter.unusedVariables false
set_option linter.unusedSimpArgs false

def StepE (C : Cfg) (m n : Nat) (o : Oper) (en : En) (A : AW) (S : Value → AW → Prop) : Prop :=
 ∀ F, Wide F → ∀ (β k : Nat) (γ : Gam) (ms : List Nat) (a : Act) (W : World) (next : Act → World → Prop) (Q : Exit → Act → World → Prop), SRel β γ m n ⟨en, ms, A⟩ a W → Ro C.ro γ W →
  (∀ v A' v' γ' W', S v A' → VRel γ' v v' → WRel γ' A' W' → Ext γ W γ' W' → next (a.put o.dst v') W') → o.wpIn F k C.P a W next Q

theorem StepE.val {C : Cfg} (hC : C.Ok) {m n : Nat} {o : Oper} {en : En} {A : AW} {v : Value} {A' : AW} (hav : avail m en o.op.operands.toList = true) (hd : doOp C (rho m en) o A = .val v A') : StepE C m n o en A fun u B => u = v ∧ B = A' :=
 fun _ hF _ k _ _ _ _ _ _ hs hR hn => oper_ok' (fs := lvlU C (fun _ => none) .nil 0 0) hC (lvlU_ok hC TOk.nil .nil 0 0) hF k hs.w hR o (fun x hx => avail_rel hs.tm hav x (by simpa using hx)) (.inl hd) fun v' γ' W' => hn v A' v' γ' W' ⟨rfl, rfl⟩

theorem StepE.call {C : Cfg} (hC : C.Ok) {m n : Nat} {o : Oper} {en : En} {A : AW} {f : Nat} {args : List Value} {A1 : AW} {S : Value → AW → Prop}
  (hav : avail m en o.op.operands.toList = true) (hd : doOp C (rho m en) o A = .call f args A1) (hN : SOk C f args A1 S) : StepE C m n o en A S := by
 intro F hF β k γ ms a W next Q hs hR hn
 have hw := hs.w
 have hop := doOp_ok hC hw hR o (ρ := rho m en) (ρ' := a.eval) (fun x hx => avail_rel hs.tm hav x (by simpa using hx))
 have hnd : ∀ c, o.op ≠ .defer c := not_defer (fun w hw => by rw [hd] at hw; cases hw)
 refine ⟨fun f _ => hF.fn f, ?_⟩
 rw [Oper.semAt_eq _ _ _ hnd]
 rw [hd] at hop
 obtain ⟨args', hrun, hargs, hw⟩ := hop
 rw [hrun]
 refine ⟨fun hd => by rw [hF.depth] at hd; simp at hd, ?_⟩
 refine (hN F hF (k - 1) γ W args' hw hR hargs).mono fun e W' he => ?_
 obtain ⟨v, A', hS, v', γ', rfl, hv, hw', hx⟩ := he
 exact hn v A' v' γ' W' hS hv hw' hx

theorem StepE.next {C : Cfg} {m n : Nat} {dst : Option Tmp} {x : Operand} {ty : TypeId} {pos : String} {after : Array Edge} {guard : Option (Nat × Bool)} {en : En} {A : AW} {i mm since last clock : Nat} {seen : List Nat} {es : List MapEntry}
  (hx : opd m en x = some (.pointer (some ⟨i, 0, none⟩))) (hi : A.heap.get i = some (.miter mm since seen last)) (hm : A.heap.get mm = some (.map es clock)) (hsame : nextSame es since seen last = true) :
  StepE C m n ⟨dst, .next x false, ty, pos, after, guard⟩ en A (nextS A i mm since seen es clock) := by
 intro F hF β k γ ms a W next Q hs hR hn
 have hv := opd_rel hs.tm hx
 refine ⟨fun f _ => hF.fn f, ?_⟩
 rw [Oper.semAt_eq _ _ _ (fun c h => by cases h)]
 generalize hav : a.eval x = v0 at hv
 cases hv with
 | ptr kk hg =>
 rename_i g
 obtain ⟨g', hg', ho⟩ := hs.w.obj _ _ hi
 rw [hg] at hg'
 cases hg'
 cases ho with
 | miter h0 hgm hb =>
 rename_i gm
 obtain ⟨g', hg', hom⟩ := hs.w.obj _ _ hm
 rw [hgm] at hg'
 cases hg'
 cases hom with
 | map hbm he =>
 rw [show g.off + 0 = 0 from h0] at hav
 obtain ⟨left', h1, h2⟩ := next_run (P := C.P) ty hb hbm he hsame
 show Oper.uponIn F k C.P _ a next Q (Sem.run C.P (do pure (Next.value (← Instr.next (a.eval x) false ty))) W)
 rw [hav, Sem.run_bind]
 obtain ⟨hlen, hnth⟩ := h1.nth
 obtain ⟨W1, hW1, hout⟩ := next_out (P := C.P) (W := W) (since := since) (clock := clock) (seen := seen) left' hb
 have hw1 : WRel γ A W1 := by
  rcases hW1 with h | h
  ·rw [h]; exact hs.w
  ·rw [h]; exact hs.w.drew
 have hx1 : Ext γ W γ W1 := by
  rcases hW1 with h | h
  ·rw [h]; exact Ext.refl _ _
  ·rw [h]; exact Ext.drew γ W
 have hb1 : W1.heap[g.blk]? = some (.mapIter (some gm.blk) since seen.toArray last) := by
  rcases hW1 with h | h
  ·rw [h]; exact hb
  ·rw [h]; exact hb
 rcases hout with ⟨hl, hrun⟩ | ⟨j, e', hj, hrun⟩
 ·rw [h2.trans hrun]
  refine hn _ A _ γ W1 (.inl ⟨?_, rfl, rfl⟩) (.tuple (.cons (.bool false) .nil)) hw1 hx1
  rw [hl] at hlen
  exact List.eq_nil_of_length_eq_zero hlen
 ·rw [h2.trans hrun]
  obtain ⟨e, hmem, hr⟩ := hnth j e' hj
  obtain ⟨q1, q2⟩ := setObj_rel hw1 (x' := .miter mm since (seen ++ [e.born]) clock) (O := .mapIter (some gm.blk) since (seen ++ [e.born]).toArray clock) hi hg (by intros; simp) (by intros; simp) (.miter h0 hgm (setB_same _ (lt_of_heap hb1)))
  rw [hr.born]
  exact hn _ _ _ γ _ (.inr ⟨e, hmem, rfl, rfl⟩) (.tuple (.cons (.bool true) (.cons hr.key (.cons hr.val .nil)))) q1 (hx1.trans q2)

theorem ops_pre {C : Cfg} (hC : C.Ok) {fs : Fns} (hf : fs.Ok C) {F : Fence} (hF : Wide F) (k : Nat) {m n : Nat} {ops : Array Oper} {Q : Exit → Act → World → Prop} {s1 : St} {js : List Nat} : ∀ (pre : List Oper) (i : Nat) (tl : List Oper), ops.toList.drop i = pre ++ tl →
  ∀ {γ : Gam} {s : St} {a : Act} {W : World}, SRel β γ m n s a W → Ro C.ro γ W → evOps C fs m n ops.toList pre s = .norm s1 → (∀ γ' a' W', SRel β γ' m n s1 a' W' → Ext γ W γ' W' → wpOpsIn F k C.P ops Q js a' W') →
   wpOpsIn F k C.P ops Q (List.range' i pre.length ++ js) a W := by
 intro pre
 induction pre with
 | nil =>
  intro i tl _ γ s a W hs _ hok hg
  simp only [evOps, Out.norm.injEq] at hok
  subst hok
  exact hg γ a W hs (Ext.refl _ _)
 | cons o pre ih =>
  intro i tl hi γ s a W hs hR hok hg
  have hoi : ops[i]? = some o := by
   have : (ops.toList.drop i)[0]? = some o := by rw [hi]; rfl
   simpa using this
  have hdrop : ops.toList.drop (i + 1) = pre ++ tl := by
   have := congrArg List.tail hi
   simpa using this
  simp only [List.length_cons, List.range'_succ, List.cons_append, wpOpsIn, hoi]
  simp only [evOps] at hok
  split at hok
  ·cases hok
  ·rename_i hwant
   rw [wantedE_ok hs.tm o hwant]
   simp only [Bool.false_eq_true, if_false]
   split at hok
   ·rename_i s' hset
    exact ⟨fun f _ => hF.fn f, ih (i + 1) tl hdrop (setD_rel hs hset (Ext.refl _ _) (.tuple .nil) hs.w) hR hok hg⟩
   ·cases hok
  ·rename_i hwant
   rw [wantedE_ok hs.tm o hwant]
   simp only [if_true]
   split at hok
   ·cases hok
   ·rename_i hav
    have cont : ∀ {v : Value} {A' : AW} {s' : St}, setD m n s o.dst v A' = some s' → evOps C fs m n ops.toList pre s' = .norm s1 →
      ∀ v' γ' W', VRel γ' v v' → WRel γ' A' W' → Ext γ W γ' W' → wpOpsIn F k C.P ops Q (List.range' (i + 1) pre.length ++ js) (a.put o.dst v') W' :=
     fun hset hok' v' γ' W' hv hw he => ih (i + 1) tl hdrop (setD_rel hs hset he hv hw) (hR.ext he) hok' fun γ2 a2 W2 h2 he2 => hg γ2 a2 W2 h2 (he.trans he2)
    cases hd : doOp C (rho m s.en) o s.A with
    | fail w => rw [hd] at hok; cases hok
    | val v A' =>
     rw [hd] at hok
     simp only at hok
     split at hok
     ·rename_i s' hset
      exact oper_ok hC hf hF k hs hR o hav (.inl hd) (cont hset hok)
     ·cases hok
    | call f args A' =>
     rw [hd] at hok
     simp only at hok
     split at hok
     ·cases hok
     ·rename_i v A2 hc
      split at hok
      ·rename_i s' hset
       exact oper_ok hC hf hF k hs hR o hav (.inr (.inl ⟨f, args, A', hd, hc⟩)) (cont hset hok)
      ·cases hok
    | yield i' args A' =>
     rw [hd] at hok
     simp only at hok
     split at hok
     ·cases hok
     ·rename_i v A2 hc
      split at hok
      ·rename_i s' hset
       exact oper_ok hC hf hF k hs hR o hav (.inr (.inr ⟨i', args, A', hd, hc⟩)) (cont hset hok)
      ·cases hok

def preK (C : Cfg) (m n : Nat) (c : Code) (p : Nat) (fs : FnsC) (k : KS) : KS := match c with
 | .region _ ops false => (cOps C m n ops.toList (ops.toList.take p)).f fs k
 | _ => fun _ _ _ _ => .fail 290
def opAt (c : Code) (p : Nat) : Option Oper := match c with
 | .region _ ops false => (ops.toList.drop p).head?
 | _ => none
def tailK (C : Cfg) (m n : Nat) (c : Code) (p : Nat) (fs : FnsC) (k : KS) (v : Value) : KS := match c with
 | .region _ ops false => match ops.toList.drop p with
  | o :: rest => fun s b ms A => (cPut C m n o.dst).f s b v fun s b => (cOps C m n ops.toList rest).f fs k s b ms A
  | [] => fun _ _ _ _ => .fail 291
 | _ => fun _ _ _ _ => .fail 290

section
variable {C : Cfg} {m n : Nat} {F : Fence} {k : Nat} {γ0 : Gam} {W0 : World}

end

end Go.Ev
