/- Code, calls and rounds, to a depth and to so many rounds of a loop. -/
import Derived.Test.YtdalaifnhppidaaDoorEvDraw3
import Derived.Scope
namespace Go.Ev
open Go
variable {β : Nat}

def evLoop (body : St → Out) : Nat → St → Out
 | 0, _ => .fail 230
 | k + 1, s => match body s with
  | .norm s' => evLoop body k s'
  | .fail w => .fail w
  | .exit id s' => .exit id s'
  | .ret s' => .ret s'

def dropScr (s : St) : St := { s with en := { scr := [], base := s.en.base } }

def evCode (C : Cfg) (fs : Fns) (m n : Nat) (ro : Option Nat) (L : Nat) : Code → St → Out
 | .skip, s => .norm s
 | .label _, s => .norm s
 | .ret, s => .ret s
 | .exit id, s => .exit id s
 | .region _ ops d, s => match d with
  | false => evOps C fs m n ops.toList ops.toList (dropScr s)
  | true => evDrawA C fs m n ops.toList (dropScr s)
 | .seq a b, s => match evCode C fs m n ro L a s with
  | .norm s' => evCode C fs m n ro L b s'
  | .fail w => .fail w
  | .exit id s' => .exit id s'
  | .ret s' => .ret s'
 | .cond c a b, s => match opd m s.en c with
  | some (.bool true) => evCode C fs m n ro L a s
  | some (.bool false) => evCode C fs m n ro L b s
  | _ => .fail 231
 | .block id c, s => match evCode C fs m n ro L c s with
  | .exit j s' => match Nat.beq j id with
   | true => .norm s'
   | false => .exit j s'
  | .norm s' => .norm s'
  | .fail w => .fail w
  | .ret s' => .ret s'
 | .loop c, s => evLoop (evCode C fs m n ro L c) L s
 | .rangeFunc f params assign body, s => evRange C fs m n ro f params assign body s
 | .scope c, s => evCode C fs m n ro L c s
 | _, _ => .fail 232

theorem wpIn_scope {F : Fence} {n : Nat} {P : Program} {Q : Exit → Act → World → Prop} {a : Act} {w : World} {c : Code} (h : c.wpIn F n P (Exit.noGoto Q) a w) : (Code.scope c).wpIn F n P Q a w := by
 intro b k cs hro hb hr
 have st : ∀ k, step P (lone (b.atR a (.code (.scope c) :: k)) cs w) = .next (lone (b.atR a (.code c :: .inScope c :: k)) cs w) := fun k => step_lone_go (by simp [stepG, stepG.exec, Frame.atR])
 have st' : ∀ a w, step P (lone (b.atR a (.inScope c :: k)) cs w) = .next (lone (b.atR a k) cs w) := fun a w => step_lone_go (by simp [stepG, stepG.exec, Frame.atR])
 have h0 : (lone (b.atR a (.code (.scope c) :: k)) cs w).fenced P F := fenced_calm hb hr rfl
 obtain ⟨e, a₁, w₁, hq, harr⟩ := h b (.inScope c :: k) cs hro hb hr
 cases e with
 | normal => exact ⟨.normal, a₁, w₁, hq, .head h0 (st k) (StepsIn.trans harr (.one (fenced_calm hb hr rfl) (st' _ _)))⟩
 | exit id =>
  have hx : exitTo id (.inScope c :: k) = exitTo id k := by simp [exitTo]
  exact ⟨.exit id, a₁, w₁, hq, fun k' hk => .head h0 (st k) (harr.1 k' (by rw [hx]; exact hk)),
   fun hr' hk => let ⟨k₁, h1, h2⟩ := harr.2 hr' (by rw [hx]; exact hk); ⟨k₁, h1, .head h0 (st k) h2⟩⟩
 | goto l => exact hq.elim
 | ret => exact ⟨_, a₁, w₁, hq, .of_steps (.one h0 (st k)) harr⟩
 | panic ch => exact ⟨_, a₁, w₁, hq, .of_steps (.one h0 (st k)) harr⟩
 | outgrown => exact ⟨_, a₁, w₁, hq, .of_steps (.one h0 (st k)) harr⟩

theorem dropScr_rel {γ : Gam} {m n : Nat} {s : St} {a : Act} {W : World} (h : SRel β γ m n s a W) : SRel β γ m n (dropScr s) a W := by
 refine ⟨fun t v hv => h.tm t v ?_, h.size, h.df, h.w⟩
 unfold En.get dropScr at hv
 unfold En.get
 cases ht : Nat.testBit m t with
 | true => rw [ht] at hv; exact hv
 | false => rw [ht] at hv; simp [scan] at hv

theorem code_ok {C : Cfg} (hC : C.Ok) {fs : Fns} (hf : fs.Ok C) {m n : Nat} {ro : Option Nat} (L : Nat) : ∀ (c : Code) {F : Fence}, Wide F → ∀ (k : Nat) {γ : Gam} {s : St} {a : Act} {W : World} {Q : Exit → Act → World → Prop},
  RoRel γ ro F.round → SRel β γ m n s a W → Ro C.ro γ W → (evCode C fs m n ro L c s).ok = true → Good β γ W m n (evCode C fs m n ro L c s) Q → c.wpIn F k C.P Q a W := by
 intro c
 induction c with
 | skip => intro F hF k γ s a W Q _ hs _ _ hg; exact wpIn_skip (hg γ a W hs (Ext.refl _ _))
 | label l => intro F hF k γ s a W Q _ hs _ _ hg; exact wpIn_label (hg γ a W hs (Ext.refl _ _))
 | ret => intro F hF k γ s a W Q _ hs _ _ hg; exact wpIn_ret (hg γ a W hs (Ext.refl _ _))
 | exit id => intro F hF k γ s a W Q _ hs _ _ hg; exact wpIn_exit (hg γ a W hs (Ext.refl _ _))
 | region id ops d =>
  intro F hF k γ s a W Q hro hs hR hok hg
  cases d with
  | false =>
   simp only [evCode] at hok hg
   refine wpIn_region ?_
   have := ops_ok hC hf hF k (ops := ops) (Q := Q) ops.toList 0 (by simp) (dropScr_rel hs) hR hok hg
   rwa [← List.range_eq_range', show ops.toList.length = ops.size by simp] at this
  | true =>
   simp only [evCode] at hok hg
   exact draw_ok hC hf hF k (dropScr_rel hs) hR hok hg
 | seq x y ihx ihy =>
  intro F hF k γ s a W Q hro hs hR hok hg
  simp only [evCode] at hok hg
  refine wpIn_seq ?_
  cases hx : evCode C fs m n ro L x s with
  | fail w => rw [hx] at hok; cases hok
  | norm s' =>
   rw [hx] at hok hg
   simp only at hok hg
   refine ihx hF k hro hs hR (by rw [hx]; rfl) ?_
   rw [hx]
   exact fun γ' a' W' hs' he => ihy hF k (hro.mono he.le) hs' (hR.ext he) hok (hg.later he)
  | exit id s' =>
   rw [hx] at hg
   refine ihx hF k hro hs hR (by rw [hx]; rfl) ?_
   rw [hx]
   exact fun γ' a' W' hs' he => hg γ' a' W' hs' he
  | ret s' =>
   rw [hx] at hg
   refine ihx hF k hro hs hR (by rw [hx]; rfl) ?_
   rw [hx]
   exact fun γ' a' W' hs' he => hg γ' a' W' hs' he
 | cond c x y ihx ihy =>
  intro F hF k γ s a W Q hro hs hR hok hg
  simp only [evCode] at hok hg
  split at hok
  ·rename_i hc
   rw [hc] at hg
   have hr := opd_rel hs.tm hc
   generalize hv : a.eval c = v at hr
   cases hr
   exact wpIn_cond_true hv (ihx hF k hro hs hR hok hg)
  ·rename_i hc
   rw [hc] at hg
   have hr := opd_rel hs.tm hc
   generalize hv : a.eval c = v at hr
   cases hr
   exact wpIn_cond_false hv (ihy hF k hro hs hR hok hg)
  ·cases hok
 | block id c ih =>
  intro F hF k γ s a W Q hro hs hR hok hg
  simp only [evCode] at hok hg
  refine wpIn_block ?_
  cases hx : evCode C fs m n ro L c s with
  | fail w => rw [hx] at hok; cases hok
  | norm s' =>
   rw [hx] at hg
   refine ih hF k hro hs hR (by rw [hx]; rfl) ?_
   rw [hx]
   exact fun γ' a' W' hs' he => hg γ' a' W' hs' he
  | exit j s' =>
   rw [hx] at hok hg
   simp only at hok hg
   refine ih hF k hro hs hR (by rw [hx]; rfl) ?_
   rw [hx]
   intro γ' a' W' hs' he
   simp only [Exit.inBlock]
   split at hok
   ·rename_i hj
    rw [hj] at hg
    rw [if_pos (Nat.eq_of_beq_eq_true hj)]
    exact hg γ' a' W' hs' he
   ·rename_i hj
    rw [hj] at hg
    rw [if_neg (Nat.ne_of_beq_eq_false hj)]
    exact hg γ' a' W' hs' he
  | ret s' =>
   rw [hx] at hg
   refine ih hF k hro hs hR (by rw [hx]; rfl) ?_
   rw [hx]
   exact fun γ' a' W' hs' he => hg γ' a' W' hs' he
 | loop c ih =>
  intro F hF k γ s a W Q hro hs hR hok hg
  simp only [evCode] at hok hg
  refine wpIn_loop_rounds L ?_
  have key : ∀ (K : Nat) {γ : Gam} {s : St} {a : Act} {W : World}, RoRel γ ro F.round → SRel β γ m n s a W → Ro C.ro γ W → (evLoop (evCode C fs m n ro L c) K s).ok = true → Good β γ W m n (evLoop (evCode C fs m n ro L c) K s) Q → Code.roundsIn F k C.P c Q K a W := by
   intro K
   induction K with
   | zero => intro γ s a W _ _ _ hok; cases hok
   | succ K ihK =>
    intro γ s a W hro hs hR hok hg
    rw [roundsIn_succ]
    simp only [evLoop] at hok hg
    cases hx : evCode C fs m n ro L c s with
    | fail w => rw [hx] at hok; cases hok
    | norm s' =>
     rw [hx] at hok hg
     simp only at hok hg
     refine ih hF k hro hs hR (by rw [hx]; rfl) ?_
     rw [hx]
     exact fun γ' a' W' hs' he => ihK (hro.mono he.le) hs' (hR.ext he) hok (hg.later he)
    | exit id s' =>
     rw [hx] at hg
     refine ih hF k hro hs hR (by rw [hx]; rfl) ?_
     rw [hx]
     exact fun γ' a' W' hs' he => hg γ' a' W' hs' he
    | ret s' =>
     rw [hx] at hg
     refine ih hF k hro hs hR (by rw [hx]; rfl) ?_
     rw [hx]
     exact fun γ' a' W' hs' he => hg γ' a' W' hs' he
  exact key L hro hs hR hok hg
 | rangeFunc f params assign body _ _ =>
  intro F hF k γ s a W Q hro hs hR hok hg
  simp only [evCode] at hok hg
  exact range_ok hC hf hF k hro hs hR hok hg
 | scope c ih =>
  intro F hF k γ s a W Q hro hs hR hok hg
  simp only [evCode] at hok hg
  refine wpIn_scope (ih hF k hro hs hR hok ?_)
  generalize evCode C fs m n ro L c s = o at hg
  cases o with
  | fail w => trivial
  | norm s' => exact fun γ' a' W' h1 h2 => hg γ' a' W' h1 h2
  | exit id s' => exact fun γ' a' W' h1 h2 => hg γ' a' W' h1 h2
  | ret s' => exact fun γ' a' W' h1 h2 => hg γ' a' W' h1 h2
 | goto l => intro F hF k γ s a W Q _ _ _ hok; cases hok
 | refuse w => intro F hF k γ s a W Q _ _ _ hok; cases hok

/-! ### A call -/

def setArgs (m : Nat) : List Value → Nat → En → En
 | [], _, e => e
 | v :: l, i, e => setArgs m l (Nat.succ i) (e.set m i v)

theorem setArgs_rel {γ : Gam} {m : Nat} : ∀ {l l' : List Value} {i : Nat} {e : En} {tmps : Array Value}, VsRel γ l l' → (∀ j v, l'[j]? = some v → tmps[i + j]? = some v) → TRel γ m e tmps → TRel γ m (setArgs m l i e) tmps
 | _, _, _, _, _, .nil, _, h => h
 | _, _, i, e, tmps, .cons (v := v) (v' := v') hv hl, ht, h => by
  refine setArgs_rel (i := i + 1) (e := e.set m i v) hl (fun j u hj => by have := ht (j + 1) u (by simpa using hj); rwa [show i + (j + 1) = i + 1 + j by omega] at this) ?_
  intro t u hu
  rw [En.get_set] at hu
  by_cases hti : t = i
  ·rw [if_pos hti] at hu
   cases hu
   subst hti
   exact ⟨v', ht 0 v' rfl, hv⟩
  ·rw [if_neg hti] at hu
   exact h t u hu

theorem doLoad_rel {C : Cfg} (hC : C.Ok) {γ : Gam} {A A' : AW} {W : World} (hw : WRel γ A W) (hR : Ro C.ro γ W) (t : Nat) {a a' v : Value} (ha : VRel γ a a') (h : doLoad C t a A = .val v A') :
  ∃ v', (do loadVar t (← asAddr a') : Sem Value).run C.P W = .ok v' W ∧ VRel γ v v' := by
 unfold doLoad at h
 split at h
 ·rename_i i k
  cases ha with
  | ptr k hg =>
   rename_i g
   split at h
   ·rename_i d hd
    split at h
    ·rename_i hagg
     split at h
     ·rename_i inf hinf
      split at h
      ·rename_i l hl
       cases h
       obtain ⟨g', r', hg', hr, hrel⟩ := load_rel (P := C.P) hw hl
       rw [hg] at hg'
       cases hg'
       refine ⟨.agg ⟨r'⟩, ?_, .agg hrel⟩
       simp only [asAddr, loadVar, Sem.run_bind, Sem.run_pure, Result.andThen_ok, run_isAgg (hC.under hd), hagg, if_true, run_sizeOf' (hC.ty _ _ hinf), hr]
      ·cases h
     ·cases h
    ·rename_i hagg
     split at h
     ·rename_i v' hl
      cases h
      obtain ⟨g', v', hg', hcell, hrel⟩ := load1_rel hw hl
      rw [hg] at hg'
      cases hg'
      refine ⟨v', ?_, hrel⟩
      simp only [asAddr, loadVar, Sem.run_bind, Sem.run_pure, Result.andThen_ok, run_isAgg (hC.under hd), hagg, Bool.false_eq_true, if_false, run_load, hcell]
     ·cases h
   ·cases h
 ·cases ha with
  | ptrRo b k s =>
   split at h
   ·rename_i d hd
    split at h
    ·rename_i hagg
     split at h
     ·rename_i inf hinf
      split at h
      ·rename_i l hl
       cases h
       obtain ⟨r', hr, hrel⟩ := ro_rel (P := C.P) hR hl
       refine ⟨.agg ⟨r'⟩, ?_, .agg hrel⟩
       simp only [asAddr, loadVar, Sem.run_bind, Sem.run_pure, Result.andThen_ok, run_isAgg (hC.under hd), hagg, if_true, run_sizeOf' (hC.ty _ _ hinf), hr]
      ·cases h
     ·cases h
    ·rename_i hagg
     split at h
     ·rename_i v' hl
      cases h
      obtain ⟨v', hcell, hrel⟩ := ro1_rel hR hl
      refine ⟨v', ?_, hrel⟩
      simp only [asAddr, loadVar, Sem.run_bind, Sem.run_pure, Result.andThen_ok, run_isAgg (hC.under hd), hagg, Bool.false_eq_true, if_false, run_load, hcell]
     ·cases h
   ·cases h
 ·cases h

def resultsE (C : Cfg) (m : Nat) (e : En) (A : AW) : List ResultVar → Option (List Value)
 | [] => some []
 | r :: l => match (match r with
   | .tmp t => e.get m t
   | .cell a t => match e.get m a with
    | some v => match doLoad C t v A with
     | .val u _ => some u
     | _ => none
    | none => none), resultsE C m e A l with
  | some v, some vs => some (v :: vs)
  | _, _ => none

def takeMarks : List Nat → AW → Option AW
 | [], A => some A
 | i :: l, A => match A.heap.get i with
  | some .defd => takeMarks l { A with heap := A.heap.put i none }
  | _ => none

def oneOr : List Value → Value
 | [v] => v
 | l => .tuple ⟨l⟩

def finish (C : Cfg) (m : Nat) (rs : List ResultVar) (s : St) : CR :=
 match takeMarks s.marks s.A with
 | some A => match resultsE C m s.en A rs with
  | some vs => .ret (oneOr vs) A
  | none => .fail 240
 | none => .fail 241

def maskFor (ms : Tr Nat) (f n : Nat) : Nat :=
 match ms.get f with
 | some m => m
 | none => Nat.sub (Nat.pow 2 n) 1

def callF (C : Cfg) (ms : Tr Nat) (L : Nat) (fs : Fns) (f : Nat) (args : List Value) (A : AW) : CR :=
 match C.fns.get f with
 | some fn => match fn.body with
  | some c => match Nat.ble args.length fn.ntmps with
   | true => match evCode C fs (maskFor ms f fn.ntmps) fn.ntmps none L c ⟨setArgs (maskFor ms f fn.ntmps) args 0 ⟨[], .nil⟩, [], A⟩ with
    | .norm s => finish C (maskFor ms f fn.ntmps) fn.results.toList s
    | .ret s => finish C (maskFor ms f fn.ntmps) fn.results.toList s
    | .exit _ _ => .fail 242
    | .fail w => .fail w
   | false => .fail 243
  | none => .fail 244
 | none => .fail 245

theorem WRel.drop {γ : Gam} {A : AW} {W W' : World} (h : WRel γ A W) {i : Nat} {g : GI} {x : AObj} {O : Obj} (hi : A.heap.get i = some x) (hg : γ i = some g) (hx : ∀ c e f z, x ≠ .cells c e f z) (hW : W' = setB W g.blk O) :
  WRel γ { A with heap := A.heap.put i none } W' ∧ Ext γ W γ W' := by
 subst hW
 have hget : ∀ j, (A.heap.put i none).get j = if j = i then none else A.heap.get j := fun j => Tr.get_put _ _ _ _
 have hback : ∀ j y, (A.heap.put i none).get j = some y → j ≠ i ∧ A.heap.get j = some y := fun j y hj => by
  rw [hget] at hj
  by_cases hji : j = i
  ·rw [if_pos hji] at hj; cases hj
  ·rw [if_neg hji] at hj; exact ⟨hji, hj⟩
 refine ⟨⟨fun j y hj => ?_, fun j g' hj => by rw [setB_size]; exact h.lt j g' hj, h.fresh, fun j k y z gj gk hj hk => h.sep j k y z gj gk (hback j y hj).2 (hback k z hk).2,
  fun j c e f z hj => h.mem j c e f z (hback j _ hj).2, fun j c e f z hj => h.famlt j c e f z (hback j _ hj).2, h.famfresh⟩, Ext.setB _ hg⟩
 obtain ⟨hji, hy⟩ := hback j y hj
 obtain ⟨g', hg', hr⟩ := h.obj j y hy
 refine ⟨g', hg', hr.mono γ.le_refl (setB_other _ fun e => ?_)⟩
 rcases h.sep j i y x g' g hy hi hg' hg e with he | ⟨_, _, _, _, _, _, _, _, he, _⟩
 ·exact hji he
 ·exact hx _ _ _ _ he

theorem run_takeDeferred {P : Program} {W : World} {b : Nat} (h : W.heap[b]? = some (.deferred (some []))) : (Instr.takeDeferred b).run P W = .ok [] (setB W b (.deferred none)) := by
 have h1 : (getObj b).run P W = .ok (.deferred (some [])) W := by simp [getObj, Sem.run, h]
 have h2 : (setObj b (.deferred none)).run P W = .ok () (setB W b (.deferred none)) := by simp [setObj, Sem.run, h, setB]
 simp [Instr.takeDeferred, h1, h2]

theorem results_ok {C : Cfg} (hC : C.Ok) {γ : Gam} {m : Nat} {e : En} {A : AW} {tmps : Array Value} {W : World} (ht : TRel γ m e tmps) (hw : WRel γ A W) (hR : Ro C.ro γ W) : ∀ {rs : List ResultVar} {vs : List Value}, resultsE C m e A rs = some vs →
  ∃ vs', (List.mapM (fun (r : ResultVar) => (match r with
   | .tmp t => pure (tmps.getD t undef)
   | .cell a t => do loadVar t (← asAddr (tmps.getD a undef)) : Sem Value)) rs).run C.P W = .ok vs' W ∧ VsRel γ vs vs' := by
 intro rs
 induction rs with
 | nil => intro vs h; simp only [resultsE, Option.some.injEq] at h; subst h; exact ⟨[], rfl, .nil⟩
 | cons r rs ih =>
  intro vs h
  simp only [resultsE] at h
  split at h
  ·rename_i v vs0 h1 h2
   cases h
   obtain ⟨vs', hr, hrel⟩ := ih h2
   have hone : ∃ v', ((match r with
     | .tmp t => pure (tmps.getD t undef)
     | .cell a t => do loadVar t (← asAddr (tmps.getD a undef)) : Sem Value)).run C.P W = .ok v' W ∧ VRel γ v v' := by
    cases r with
    | tmp t =>
     obtain ⟨v', e1, e2⟩ := ht t v h1
     exact ⟨v', by simp [e1], e2⟩
    | cell a t =>
     simp only at h1
     split at h1
     ·rename_i u hu
      split at h1
      ·rename_i w A' hd
       cases h1
       obtain ⟨u', e1, e2⟩ := ht a u hu
       obtain ⟨v', hrun, hv⟩ := doLoad_rel hC hw hR t e2 hd
       refine ⟨v', ?_, hv⟩
       have : tmps.getD a undef = u' := by simp [e1]
       simp only [this]
       exact hrun
      ·cases h1
     ·cases h1
   obtain ⟨v', hv', hvr⟩ := hone
   refine ⟨v' :: vs', ?_, .cons hvr hrel⟩
   simp only [List.mapM_cons, Sem.run_bind, hv', Result.andThen_ok, hr, Sem.run_pure]
  ·cases h


theorem WRel.setDead {γ : Gam} {A : AW} {W : World} (h : WRel γ A W) {b : Nat} {O : Obj} (hb : ∀ i g, γ i = some g → g.blk ≠ b) : WRel γ A (setB W b O) := by
 refine ⟨fun j y hj => ?_, fun j g' hj => by rw [setB_size]; exact h.lt j g' hj, h.fresh, h.sep, h.mem, h.famlt, h.famfresh⟩
 obtain ⟨g', hg', hr⟩ := h.obj j y hj
 exact ⟨g', hg', hr.mono γ.le_refl (setB_other _ (hb j g' hg'))⟩

theorem Ro.setDead {r : Mem} {γ : Gam} {W : World} (h : Ro r γ W) {b : Nat} {O : Obj} (hb : W.heap[b]? = some (.deferred (some []))) : Ro r γ (setB W b O) := ⟨fun b' k v hv => by
 obtain ⟨hno, cc, e, fr, v', h1, h2⟩ := h.rd b' k v hv
 have hne : b' ≠ b := fun e => by subst e; rw [hb] at h1; cases h1
 exact ⟨hno, cc, e, fr, v', by rw [setB_other _ hne]; exact h1, h2⟩, fun b' hv => by
 obtain ⟨hno, cc, e, fr, h1, h2⟩ := h.wr b' hv
 have hne : b' ≠ b := fun e => by subst e; rw [hb] at h1; cases h1
 exact ⟨hno, cc, e, fr, by rw [setB_other _ hne]; exact h1, h2⟩⟩

theorem Ext.setDead {γ γ0 : Gam} {W W0 : World} (h : Ext γ0 W0 γ W) {b : Nat} {O : Obj} (hb : W0.heap.size ≤ b) : Ext γ0 W0 γ (Go.Ev.setB W b O) :=
 ⟨h.le, h.new, by rw [setB_size]; exact h.size, fun b' hlt hno => by rw [setB_other _ (by omega)]; exact h.block b' hlt hno, h.os, h.tape, h.output, h.drawn⟩

theorem marks_ok {C : Cfg} {F : Fence} (k : Nat) {fn : Func} {tmps : Array Value} {R : Ending → World → Prop} {γ0 : Gam} {W0 : World} {γ : Gam} {A' : AW} : ∀ {D : List Deferred} {l : List Nat} {A : AW} {W : World}, DRel W0.heap.size γ W l D → WRel γ A W → Ro C.ro γ W → Ext γ0 W0 γ W → takeMarks l A = some A' →
  (∀ W', WRel γ A' W' → Ro C.ro γ W' → Ext γ0 W0 γ W' → ∃ v, (results fn tmps).run C.P W' = .ok v W' ∧ R (.returned v) W') → LeavesInM F k C.P fn tmps R D .returning W := by
 intro D
 induction D with
 | nil =>
  intro l A W hd hw hRo he h hR
  cases hd
  simp only [takeMarks, Option.some.injEq] at h
  subst h
  exact hR W hw hRo he
 | cons d D ih =>
  intro l A W hd hw hRo he h hR
  cases hd with
  | cons hg hl =>
   rename_i i g l'
   simp only [takeMarks] at h
   split at h
   ·rename_i hi
    obtain ⟨g', hg', ho⟩ := hw.obj _ _ hi
    rw [hg] at hg'
    cases hg'
    cases ho with
    | defd hb =>
     obtain ⟨q1, q2⟩ := hw.drop (O := .deferred none) hi hg (by intros; simp) rfl
     exact ⟨by simp, .inl ⟨g.blk, _, rfl, run_takeDeferred hb, ih (hl.mono q2) q1 (hRo.ext q2) (he.trans q2) h hR⟩⟩
   ·cases h
  | dead hB hb hu hd' hl =>
   rename_i b
   exact ⟨by simp, .inl ⟨b, _, rfl, run_takeDeferred hb, ih (hl.take hu hd') (hw.setDead hu) (hRo.setDead hb) (he.setDead hB) h hR⟩⟩

theorem finish_ok {C : Cfg} (hC : C.Ok) {F : Fence} (k : Nat) {fn : Func} {m n : Nat} {γ γ0 : Gam} {s : St} {a : Act} {W W0 : World} {v : Value} {A' : AW} (hs : SRel W0.heap.size γ m n s a W) (hR : Ro C.ro γ W) (he : Ext γ0 W0 γ W)
  (h : finish C m fn.results.toList s = .ret v A') : LeavesInM F k C.P fn a.tmps (Ends γ0 W0 v A') a.defers .returning W := by
 unfold finish at h
 split at h
 ·rename_i A1 hm
  split at h
  ·rename_i vs hvs
   cases h
   refine marks_ok k hs.df hs.w hR he hm fun W' hw' hR' hx => ?_
   obtain ⟨vs', hr, hrel⟩ := results_ok hC hs.tm hw' hR' hvs
   refine ⟨if h : (⟨vs'⟩ : Array Value).size = 1 then (⟨vs'⟩ : Array Value)[0] else .tuple ⟨vs'⟩, ?_, ?_⟩
   ·unfold results
    rw [Array.mapM_eq_mapM_toList]
    simp only [Sem.run_bind, Sem.run_map]
    exact (congrArg (fun (r : Result (List Value)) => ((r.andThen fun a w' => .ok a.toArray w').andThen fun (a : Array Value) w' => Sem.run C.P (pure (if h : a.size = 1 then a[0] else Value.tuple a)) w')) hr).trans rfl
   ·refine ⟨_, γ, rfl, ?_, hw', hx⟩
    cases hrel with
    | nil => exact .tuple .nil
    | cons h1 hl => cases hl with
     | nil => exact h1
     | cons h2 hl => exact .tuple (.cons h1 (.cons h2 hl))
  ·cases h
 ·cases h

theorem callF_ok {C : Cfg} (hC : C.Ok) (ms : Tr Nat) (L : Nat) {fs : Fns} (hf : fs.Ok C) {γ : Gam} {A : AW} {W : World} {f : Nat} {args : List Value} {args' : Array Value} {v : Value} {A' : AW}
  (h : callF C ms L fs f args A = .ret v A') (hw : WRel γ A W) (hR : Ro C.ro γ W) (ha : VsRel γ args args'.toList) {F : Fence} (hF : Wide F) (hro : F.round = none) (k : Nat) : CallsIn F k C.P f args' W (Ends γ W v A') := by
 unfold callF at h
 split at h
 ·rename_i fn hfn
  split at h
  ·rename_i c hc
   split at h
   ·rename_i hle
    refine callsIn_of_wp_marks (hC.fn _ _ hfn) hc (hF.fn f) ?_ hro
    have hlen : args'.size = args.length := by have := ha.length; simpa using this
    have hle' : args.length ≤ fn.ntmps := ble_le hle
    have hs0 : SRel W.heap.size γ (maskFor ms f fn.ntmps) fn.ntmps ⟨setArgs (maskFor ms f fn.ntmps) args 0 ⟨[], .nil⟩, [], A⟩ { tmps := args' ++ Array.replicate (fn.ntmps - args'.size) undef, defers := [] } W := by
     refine ⟨setArgs_rel ha (fun j u hj => ?_) (fun t u hu => ?_), ?_, .nil, hw⟩
     ·have hjl : j < args'.size := by
       have := (List.getElem?_eq_some_iff.1 hj).1
       simpa using this
      rw [Nat.zero_add, Array.getElem?_append_left hjl]
      simpa using hj
     ·unfold En.get at hu
      split at hu
      ·simp [Tr.get] at hu
      ·simp [scan] at hu
     ·simp
      omega
    have hro' : RoRel γ none F.round := by rw [hro]; exact .none
    have main : ∀ o : Out, evCode C fs (maskFor ms f fn.ntmps) fn.ntmps none L c ⟨setArgs (maskFor ms f fn.ntmps) args 0 ⟨[], .nil⟩, [], A⟩ = o → o.ok = true → Good W.heap.size γ W (maskFor ms f fn.ntmps) fn.ntmps o (bodyPostM F k C.P fn (Ends γ W v A')) →
      c.wpIn F k C.P (bodyPostM F k C.P fn (Ends γ W v A')) { tmps := args' ++ Array.replicate (fn.ntmps - args'.size) undef, defers := [] } W := fun o ho hok hg => by
     subst ho
     exact code_ok hC hf L c hF k hro' hs0 hR hok hg
    split at h
    ·rename_i s hev
     refine main _ hev rfl ?_
     intro γ' a' W' hs' he
     exact finish_ok hC k hs' (hR.ext he) he h
    ·rename_i s hev
     refine main _ hev rfl ?_
     intro γ' a' W' hs' he
     exact finish_ok hC k hs' (hR.ext he) he h
    ·cases h
    ·cases h
   ·cases h
  ·cases h
 ·cases h

end Go.Ev
