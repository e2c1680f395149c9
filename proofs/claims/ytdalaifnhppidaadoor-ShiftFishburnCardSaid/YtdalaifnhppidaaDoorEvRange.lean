/- A range over a function. -/
import Derived.Test.YtdalaifnhppidaaDoorEvCode
namespace Go.Ev
open Go
variable {β : Nat}

inductive RoRel (γ : Gam) : Option Nat → Option Nat → Prop
 | none : RoRel γ none none
 | some {i : Nat} {g : GI} (h : γ i = some g) : RoRel γ (some i) (some g.blk)

theorem RoRel.mono {γ γ' : Gam} (hle : γ.le γ') {a b : Option Nat} (h : RoRel γ a b) : RoRel γ' a b := by
 cases h with
 | none => exact .none
 | some h => exact .some (hle _ _ h)

def rangeHead (ro : Option Nat) (s : St) : Option (Nat × List Nat × AW) :=
 match ro with
 | none => some (s.A.next, s.A.next :: s.marks, s.A.new .defd)
 | some i => match s.A.heap.get i with
  | some (.loop _ _ _ _ _ _ _ _ d) => some (d, s.marks, s.A)
  | _ => none

def rangeTail (l : Nat) (en : En) (marks : List Nat) (A : AW) : Out :=
 match A.heap.get l with
 | some (.loop st pend m n k ps as bd d) => match st with
  | .busy => .fail 210
  | _ => match pend with
   | none => .norm ⟨en, marks, { A with heap := A.heap.put l (some (.loop .exhausted none m n k ps as bd d)) }⟩
   | some .ret => .ret ⟨en, marks, { A with heap := A.heap.put l (some (.loop .exhausted (some .ret) m n k ps as bd d)) }⟩
   | some (.exit id) => .exit id ⟨en, marks, { A with heap := A.heap.put l (some (.loop .exhausted (some (.exit id)) m n k ps as bd d)) }⟩
   | some _ => .fail 211
 | _ => .fail 212

def evRange (C : Cfg) (fs : Fns) (m n : Nat) (ro : Option Nat) (f : Operand) (params : Array Tmp) (assign body : Code) (s : St) : Out :=
 match opd m s.en f with
 | some (.func (.func g) ⟨first⟩ ⟨captured⟩) => match hasBody C g with
  | true => match rangeHead ro s with
   | some (d, marks, A) => match fs.call g (first ++ [.func (.yield A.next) ⟨[]⟩ ⟨[]⟩] ++ captured) (A.new (.loop .ready none m s.en n params assign body d)) with
    | .ret _ A' => rangeTail A.next s.en marks A'
    | .fail w => .fail w
   | none => .fail 213
  | false => .fail 214
 | _ => .fail 215

theorem run_getLoop {P : Program} {W : World} {l : Nat} {r : Loop} (h : W.heap[l]? = some (.loop r)) : (Instr.getLoop l).run P W = .ok r W := by
 have : (getObj l).run P W = .ok (.loop r) W := by simp [getObj, Sem.run, h]
 simp [Instr.getLoop, this]

theorem run_setLoop {P : Program} {W : World} {l : Nat} {r : Loop} (o : Obj) (h : W.heap[l]? = some (.loop r)) : (setObj l o).run P W = .ok () (setB W l o) := by
 simp [setObj, Sem.run, h, setB]

theorem rangeHead_ok {P : Program} {γ : Gam} {ro : Option Nat} {r : Option Nat} {s : St} {W : World} {D : List Deferred} (hw : WRel γ s.A W) (hro : RoRel γ ro r) (hdr : DRel β γ W s.marks D) {d : Nat} {marks : List Nat} {A : AW}
  (h : rangeHead ro s = some (d, marks, A)) (fn : FuncId) (tmps : Array Value) (params : Array Tmp) (assign body : Code) :
  ∃ γ' W' mark gd, (∀ w, (Instr.enterLoop fn tmps params assign body r).run P W = .ok (w, mark) (W'.alloc (.loop { state := .ready, pending := none, fn, tmps, params, assign, body, defers := gd.blk })) ↔ w = W'.heap.size) ∧
   γ' d = some gd ∧ WRel γ' A W' ∧ Ext γ W γ' W' ∧ DRel β γ' W' marks (mark ++ D) := by
 unfold rangeHead at h
 split at h
 ·cases h
  cases hro
  obtain ⟨q1, q2⟩ := hw.alloc .defd (.deferred (some [])) 0 0 (.defd (heap_alloc_new _ _)) (by intros; simp_all)
  refine ⟨_, _, [{ target := .collected W.heap.size, args := #[] }], (gi W.heap.size 0 0), fun w => ?_, Gam.set_same _ _ _, q1, q2, .cons (g := (gi W.heap.size 0 0)) (Gam.set_same _ _ _) (hdr.mono q2)⟩
  simp [Instr.enterLoop, eq_comm]
 ·rename_i i
  cases hro with
  | some hg =>
   rename_i g
   split at h
   ·rename_i hi
    cases h
    obtain ⟨g', hg', ho⟩ := hw.obj _ _ hi
    rw [hg] at hg'
    cases hg'
    cases ho with
    | loop hb h1 h2 h3 h4 h5 h6 h7 h8 h9 =>
     rename_i r gd
     refine ⟨γ, W, [], gd, fun w => ?_, h8, hw, Ext.refl _ _, hdr⟩
     simp [Instr.enterLoop, run_getLoop hb, h9, eq_comm]
   ·cases h

theorem rangeTail_ok {C : Cfg} {F : Fence} (k : Nat) {γ : Gam} {m n : Nat} {l : Nat} {g : GI} {en : En} {marks : List Nat} {A : AW} {a : Act} {W : World} {Q : Exit → Act → World → Prop} (hs : SRel β γ m n ⟨en, marks, A⟩ a W) (hg : γ l = some g)
  (hok : (rangeTail l en marks A).ok = true) (hgood : Good β γ W m n (rangeTail l en marks A) Q) :
  ∃ jump w₄, (Instr.endLoop g.blk).run C.P W = .ok jump w₄ ∧ (match jump with | none => Q .normal a w₄ | some c => c.wpIn F k C.P Q a w₄) := by
 unfold rangeTail at hok hgood
 split at hok
 ·rename_i st pend m' en' n' ps as bd d hl
  rw [hl] at hgood
  obtain ⟨g', hg', ho⟩ := hs.w.obj _ _ hl
  rw [hg] at hg'
  cases hg'
  cases ho with
  | loop hb h1 h2 h3 h4 h5 h6 h7 h8 h9 =>
   rename_i r gd
   split at hok
   ·cases hok
   ·rename_i hnb
    have hst : r.state ≠ LoopState.busy := by
     rw [h1]
     exact hnb
    have hend : (Instr.endLoop g.blk).run C.P W = .ok pend (setB W g.blk (.loop { r with state := .exhausted })) := by
     simp [Instr.endLoop, run_getLoop hb, hst, run_setLoop _ hb, h2]
    obtain ⟨q1, q2⟩ := setObj_rel hs.w (x' := .loop .exhausted pend m' en' n' ps as bd d) (O := .loop { r with state := .exhausted }) hl hg (by intros; simp) (by intros; simp)
     (.loop (setB_same _ (lt_of_heap hb)) rfl h2 h3 h4 h5 h6 h7 h8 h9)
    have hs' : SRel β γ m n ⟨en, marks, { A with heap := A.heap.put l (some (.loop .exhausted pend m' en' n' ps as bd d)) }⟩ a (setB W g.blk (.loop { r with state := .exhausted })) := ⟨hs.tm, hs.size, hs.df.mono q2, q1⟩
    refine ⟨_, _, hend, ?_⟩
    cases st <;> first
     | exact absurd rfl hnb
     | (cases pend with
       | none => exact hgood γ a _ hs' q2
       | some c =>
        cases c <;> simp only at hok hgood ⊢ <;> first
         | exact wpIn_ret (hgood γ a _ hs' q2)
         | exact wpIn_exit (hgood γ a _ hs' q2)
         | cases hok)
 ·cases hok

theorem range_ok {C : Cfg} (hC : C.Ok) {fs : Fns} (hf : fs.Ok C) {F : Fence} (hF : Wide F) (k : Nat) {m n : Nat} {ro : Option Nat} {f : Operand} {params : Array Tmp} {assign body : Code} {Q : Exit → Act → World → Prop}
  {γ : Gam} {s : St} {a : Act} {W : World} (hro : RoRel γ ro F.round) (hs : SRel β γ m n s a W) (hR : Ro C.ro γ W) (hok : (evRange C fs m n ro f params assign body s).ok = true) (hg : Good β γ W m n (evRange C fs m n ro f params assign body s) Q) :
  (Code.rangeFunc f params assign body).wpIn F k C.P Q a W := by
 refine wpIn_rangeFunc fun fn hfn => ?_
 unfold evRange at hok hg
 split at hok
 ·rename_i g first captured hfv
  rw [hfv] at hg
  simp only at hg
  split at hok
  ·rename_i hbody
   rw [hbody] at hg
   simp only at hg
   split at hok
   ·rename_i d marks A hhead
    rw [hhead] at hg
    simp only at hg
    split at hok
    ·rename_i v A' hcall
     rw [hcall] at hg
     simp only at hg
     have hfr := opd_rel hs.tm hfv
     generalize hfe : a.eval f = fv' at hfr
     cases hfr with
     | func hfn' ha hc =>
      rename_i f' a' c'
      cases hfn'
      obtain ⟨γ1, W1, mark, gd, henter, hgd, hw1, he1, hd1⟩ := rangeHead_ok (P := C.P) hs.w hro hs.df hhead fn a.tmps params assign body
      obtain ⟨q1, q2⟩ := hw1.alloc (.loop .ready none m s.en n params assign body d) (.loop { state := .ready, pending := none, fn, tmps := a.tmps, params, assign, body, defers := gd.blk }) 0 0
       (.loop (heap_alloc_new _ _) rfl rfl ((hs.tm.mono he1.le).mono (Gam.le_set _ (hw1.fresh _ (Nat.le_refl _)))) hs.size rfl rfl rfl (Gam.le_set _ (hw1.fresh _ (Nat.le_refl _)) _ _ hgd) rfl) (by intros; simp_all)
      have hl2 : (γ1.set A.next (gi W1.heap.size 0 0)) A.next = some (gi W1.heap.size 0 0) := Gam.set_same _ _ _
      have hle2 := Gam.le_trans he1.le q2.le
      refine ⟨W1.heap.size, mark, (W1.alloc (.loop { state := .ready, pending := none, fn, tmps := a.tmps, params, assign, body, defers := gd.blk })), { target := .fn (.func g) c', args := a' ++ #[.func (.yield W1.heap.size) #[] #[]] }, (W1.alloc (.loop { state := .ready, pending := none, fn, tmps := a.tmps, params, assign, body, defers := gd.blk })), g, a' ++ #[.func (.yield W1.heap.size) #[] #[]] ++ c', (W1.alloc (.loop { state := .ready, pending := none, fn, tmps := a.tmps, params, assign, body, defers := gd.blk })), (henter _).2 rfl, ?_, fun f' _ => hF.fn f', ?_, fun hd => by rw [hF.depth] at hd; simp at hd, ?_⟩
      ·simp [resolve, hfe, Deferred.ofValue, show ∀ v, a.eval (.const v) = v from fun _ => rfl]
      ·exact callFunc_ok hC hbody _ _
      ·have hargs : VsRel (γ1.set A.next (gi W1.heap.size 0 0)) (first ++ [Value.func (.yield A.next) ⟨[]⟩ ⟨[]⟩] ++ captured) (a' ++ #[Value.func (.yield W1.heap.size) #[] #[]] ++ c').toList := by
        simp only [Array.toList_append]
        exact ((ha.mono hle2).append (.cons (.func (.yield hl2) .nil .nil) .nil)).append (hc.mono hle2)
       refine (hf.call _ _ _ _ _ _ _ _ hcall q1 (hR.ext (he1.trans q2)) hargs F hF (k - 1)).mono fun e W3 he => ?_
       obtain ⟨v', γ3, rfl, hv, hw3, hx3⟩ := he
       have hx : Ext γ W γ3 W3 := (he1.trans q2).trans hx3
       have hs3 : SRel β γ3 m n ⟨s.en, marks, A'⟩ { a with defers := mark ++ a.defers } W3 := ⟨hs.tm.mono hx.le, hs.size, (hd1.mono q2).mono hx3, hw3⟩
       exact rangeTail_ok k hs3 (hx3.le _ _ hl2) hok (hg.later hx)
    ·cases hok
   ·cases hok
  ·cases hok
 ·cases hok

end Go.Ev
