/- A round of a range over a function; calls to a depth; what a call's answer says of the world. -/
import Derived.Test.YtdalaifnhppidaaDoorEvAll
import Derived.RangeFuncCalls
namespace Go.Ev
open Go
variable {β : Nat}

def setPs (m n : Nat) : List Tmp → List Value → En → Option En
 | [], [], e => some e
 | t :: l, v :: vs, e => match Nat.blt t n with
  | true => setPs m n l vs (e.set m t v)
  | false => none
 | _, _, _ => none

theorem setPs_rel {γ : Gam} {m n : Nat} : ∀ {ps : List Tmp} {l l' : List Value} {e e' : En} {tmps : Array Value}, setPs m n ps l e = some e' → VsRel γ l l' → tmps.size = n → TRel γ m e tmps →
  TRel γ m e' ((ps.zip l').foldl (fun tmps (t, a) => tmps.setIfInBounds t a) tmps) ∧ ((ps.zip l').foldl (fun (tmps : Array Value) (t, a) => tmps.setIfInBounds t a) tmps).size = n ∧ l'.length = ps.length := by
 intro ps
 induction ps with
 | nil =>
  intro l l' e e' tmps h hv hn ht
  cases hv with
  | nil => simp only [setPs, Option.some.injEq] at h; subst h; exact ⟨ht, hn, rfl⟩
  | cons _ _ => cases h
 | cons t ps ih =>
  intro l l' e e' tmps h hv hn ht
  cases hv with
  | nil => cases h
  | cons h1 hl =>
   simp only [setPs] at h
   split at h
   ·rename_i htn
    obtain ⟨q1, q2, q3⟩ := ih h hl (tmps := tmps.setIfInBounds t _) (by simpa using hn) (ht.put (by rw [hn]; exact blt_lt htn) h1)
    exact ⟨q1, q2, by simp [q3]⟩
   ·cases h

def endR (i : Nat) (jump : Option Code) (s : St) : CR :=
 match s.A.heap.get i with
 | some (.loop _ _ m en n ps as bd d) => .ret (.bool jump.isNone) { s.A with heap := s.A.heap.put i (some (.loop (match jump with | none => .ready | some _ => .done) jump m en n ps as bd d)) }
 | _ => .fail 251

def beginR (i : Nat) (s : St) : Option St :=
 match s.A.heap.get i with
 | some (.loop .ready pend m en n ps as bd d) => some { s with A := { s.A with heap := s.A.heap.put i (some (.loop .busy pend m en n ps as bd d)) } }
 | _ => none

def yieldF (C : Cfg) (L : Nat) (fs : Fns) (i : Nat) (args : List Value) (A : AW) : CR :=
 match A.heap.get i with
 | some (.loop _ _ m en n params assign body _) => match setPs m n params.toList args en with
  | some e0 => match evCode C fs m n (some i) L assign ⟨e0, [], A⟩ with
   | .norm s => match beginR i s with
    | some s1 => match evCode C fs m n (some i) L body s1 with
     | .norm s2 => endR i none s2
     | .exit id s2 => endR i (some (.exit id)) s2
     | .ret s2 => endR i (some .ret) s2
     | .fail w => .fail w
    | none => .fail 252
   | .fail w => .fail w
   | _ => .fail 253
  | none => .fail 254
 | _ => .fail 255

theorem Wide.inRound {F : Fence} (h : Wide F) (l : Nat) : Wide (F.inRound l) := ⟨h.fn, h.depth, h.alive⟩

theorem beginR_ok {P : Program} {γ : Gam} {m n i : Nat} {g : GI} {s s1 : St} {a : Act} {W : World} (hs : SRel β γ m n s a W) (hg : γ i = some g) (h : beginR i s = some s1) :
  ∃ W', (Instr.beginRound g.blk).run P W = .ok () W' ∧ SRel β γ m n s1 a W' ∧ Ext γ W γ W' := by
 unfold beginR at h
 split at h
 ·rename_i pend m' en' n' ps as bd d hl
  cases h
  obtain ⟨g', hg', ho⟩ := hs.w.obj _ _ hl
  rw [hg] at hg'
  cases hg'
  cases ho with
  | loop hb h1 h2 h3 h4 h5 h6 h7 h8 h9 =>
   rename_i r gd
   obtain ⟨q1, q2⟩ := setObj_rel hs.w (x' := .loop .busy pend m' en' n' ps as bd d) (O := .loop { r with state := .busy }) hl hg (by intros; simp) (by intros; simp)
    (.loop (setB_same _ (lt_of_heap hb)) rfl h2 h3 h4 h5 h6 h7 h8 h9)
   refine ⟨setB W g.blk (.loop { r with state := .busy }), ?_, ⟨hs.tm, hs.size, hs.df.mono q2, q1⟩, q2⟩
   simp [Instr.beginRound, run_getLoop hb, run_setLoop _ hb, h1]
 ·cases h

theorem endR_ok {P : Program} {γ γ0 : Gam} {m n i : Nat} {g : GI} {jump : Option Code} {s : St} {a : Act} {W W0 : World} {v : Value} {A' : AW} (hs : SRel β γ m n s a W) (he : Ext γ0 W0 γ W) (hg : γ i = some g) (h : endR i jump s = .ret v A') :
  ∃ v' W', (Instr.endRound g.blk jump).run P W = .ok v' W' ∧ Ends γ0 W0 v A' (.returned v') W' := by
 unfold endR at h
 split at h
 ·rename_i st pend m' en' n' ps as bd d hl
  cases h
  obtain ⟨g', hg', ho⟩ := hs.w.obj _ _ hl
  rw [hg] at hg'
  cases hg'
  cases ho with
  | loop hb h1 h2 h3 h4 h5 h6 h7 h8 h9 =>
   rename_i r gd
   obtain ⟨q1, q2⟩ := setObj_rel hs.w (x' := .loop (match jump with | none => .ready | some _ => .done) jump m' en' n' ps as bd d) (O := .loop { r with state := if jump.isNone then .ready else .done, pending := jump }) hl hg (by intros; simp) (by intros; simp)
    (.loop (setB_same _ (lt_of_heap hb)) (by cases jump <;> rfl) rfl h3 h4 h5 h6 h7 h8 h9)
   refine ⟨.bool jump.isNone, setB W g.blk (.loop { r with state := if jump.isNone then .ready else .done, pending := jump }), ?_, _, γ, rfl, .bool _, q1, he.trans q2⟩
   simp [Instr.endRound, run_getLoop hb, run_setLoop _ hb]
 ·cases h

theorem yieldF_ok {C : Cfg} (hC : C.Ok) (L : Nat) {fs : Fns} (hf : fs.Ok C) {γ : Gam} {A : AW} {W : World} {i : Nat} {g : GI} {args : List Value} {args' : Array Value} {v : Value} {A' : AW}
  (h : yieldF C L fs i args A = .ret v A') (hw : WRel γ A W) (hR : Ro C.ro γ W) (hg : γ i = some g) (ha : VsRel γ args args'.toList) :
  ∃ f tmps assign body, (Instr.yield g.blk args').run C.P W = .ok (.round g.blk f tmps assign body) W ∧ ∀ F, Wide F → ∀ k, RoundIn F k C.P g.blk f tmps assign body W (Ends γ W v A') := by
 unfold yieldF at h
 split at h
 ·rename_i st pend m en n params assign body d hl
  obtain ⟨g', hg', ho⟩ := hw.obj _ _ hl
  rw [hg] at hg'
  cases hg'
  cases ho with
  | loop hb h1 h2 h3 h4 h5 h6 h7 h8 h9 =>
   rename_i r gd
   split at h
   ·rename_i e0 he0
    obtain ⟨q1, q2, q3⟩ := setPs_rel he0 ha h4 h3
    refine ⟨r.fn, (r.params.zip args').foldl (fun tmps (t, a) => tmps.setIfInBounds t a) r.tmps, r.assign, r.body, ?_, fun F hF k => ?_⟩
    ·have hsz : args'.size = r.params.size := by rw [h5]; simpa using q3
     simp [Instr.yield, run_getLoop hb, hsz]
    ·rw [h6, h7]
     have hfold : (r.params.zip args').foldl (fun tmps (t, a) => tmps.setIfInBounds t a) r.tmps = (params.toList.zip args'.toList).foldl (fun tmps (t, a) => tmps.setIfInBounds t a) r.tmps := by
      rw [h5, ← Array.foldl_toList, Array.toList_zip]
     rw [hfold]
     refine roundIn_of_wpIn (hF.fn _) ?_
     have hs0 : SRel 0 γ m n ⟨e0, [], A⟩ { tmps := (params.toList.zip args'.toList).foldl (fun tmps (t, a) => tmps.setIfInBounds t a) r.tmps, defers := [] } W := ⟨q1, q2, .nil, hw⟩
     have hro : RoRel γ (some i) (F.inRound g.blk).round := by rw [Fence.inRound_round]; exact .some hg
     split at h
     ·rename_i s hev
      refine code_ok hC hf L assign (hF.inRound _) k hro hs0 hR (by rw [hev]; rfl) ?_
      rw [hev]
      intro γ1 a1 W1 hs1 hx1
      split at h
      ·rename_i s1 hbeg
       obtain ⟨W2, hrun, hs2, hx2⟩ := beginR_ok (P := C.P) hs1 (hx1.le _ _ hg) hbeg
       refine ⟨W2, hrun, ?_⟩
       have hg2 := (hx1.trans hx2).le _ _ hg
       have hro2 := hro.mono (hx1.trans hx2).le
       split at h
       ·rename_i s2 hev2
        refine code_ok hC hf L body (hF.inRound _) k hro2 hs2 (hR.ext (hx1.trans hx2)) (by rw [hev2]; rfl) ?_
        rw [hev2]
        exact fun γ3 a3 W3 hs3 hx3 => endR_ok hs3 ((hx1.trans hx2).trans hx3) (hx3.le _ _ hg2) h
       ·rename_i id s2 hev2
        refine code_ok hC hf L body (hF.inRound _) k hro2 hs2 (hR.ext (hx1.trans hx2)) (by rw [hev2]; rfl) ?_
        rw [hev2]
        exact fun γ3 a3 W3 hs3 hx3 => endR_ok hs3 ((hx1.trans hx2).trans hx3) (hx3.le _ _ hg2) h
       ·rename_i s2 hev2
        refine code_ok hC hf L body (hF.inRound _) k hro2 hs2 (hR.ext (hx1.trans hx2)) (by rw [hev2]; rfl) ?_
        rw [hev2]
        exact fun γ3 a3 W3 hs3 hx3 => endR_ok hs3 ((hx1.trans hx2).trans hx3) (hx3.le _ _ hg2) h
       ·cases h
      ·cases h
     ·cases h
     ·cases h
   ·cases h
 ·cases h

def lvl (C : Cfg) (ms : Tr Nat) (L : Nat) : Nat → Fns
 | 0 => ⟨fun _ _ _ => .fail 260, fun _ _ _ => .fail 260⟩
 | d + 1 => ⟨fun f args A => callF C ms L (lvl C ms L d) f args A, fun i args A => yieldF C L (lvl C ms L d) i args A⟩

theorem lvl_ok {C : Cfg} (hC : C.Ok) (ms : Tr Nat) (L : Nat) : ∀ d, (lvl C ms L d).Ok C := by
 intro d
 induction d with
 | zero => exact ⟨fun _ _ _ _ _ _ _ _ h => (nomatch h), fun _ _ _ _ _ _ _ _ _ h => (nomatch h)⟩
 | succ d ih =>
  refine ⟨fun γ A W f args args' v A' h hw hR ha F hF k => ?_, fun γ A W i g args args' v A' h hw hR hg ha => yieldF_ok hC L ih h hw hR hg ha⟩
  have hF0 : Wide { F with round := none } := ⟨hF.fn, hF.depth, hF.alive⟩
  exact callF_ok hC ms L ih h hw hR ha hF0 rfl k

theorem lvl_calls {C : Cfg} (hC : C.Ok) (ms : Tr Nat) (L d : Nat) {γ : Gam} {A : AW} {W : World} {f : Nat} {args : List Value} {args' : Array Value} {v : Value} {A' : AW}
  (h : (lvl C ms L d).call f args A = .ret v A') (hw : WRel γ A W) (hR : Ro C.ro γ W) (ha : VsRel γ args args'.toList) : Calls C.P f args' W (Ends γ W v A') :=
 callsIn_wide.1 ((lvl_ok hC ms L d).call γ A W f args args' v A' h hw hR ha Fence.wide ⟨fun _ => trivial, rfl, rfl⟩ 0)

end Go.Ev
