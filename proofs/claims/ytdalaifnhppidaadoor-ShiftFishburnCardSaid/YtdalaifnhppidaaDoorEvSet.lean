/- Calls and steps with a set of answers: what a walk over a map draws. -/
import Derived.Test.YtdalaifnhppidaaDoorEvRen
namespace Go.Ev
open Go
variable {β : Nat}
set_option linter.unusedVariables false
set_option linter.unusedSimpArgs false

def SEnds (γ : Gam) (W : World) (S : Value → AW → Prop) (e : Ending) (W' : World) : Prop := ∃ v A', S v A' ∧ Ends γ W v A' e W'

def SOk (C : Cfg) (f : Nat) (args : List Value) (A : AW) (S : Value → AW → Prop) : Prop :=
 ∀ F, Wide F → ∀ k γ W args', WRel γ A W → Ro C.ro γ W → VsRel γ args (Array.toList args') → CallsIn F k C.P f args' W (SEnds γ W S)

theorem SOk.one {C : Cfg} {f : Nat} {args : List Value} {A : AW} {v : Value} {A' : AW} (h : SOk C f args A fun u B => u = v ∧ B = A') : ∀ F, Wide F → ∀ k γ W args', WRel γ A W → Ro C.ro γ W → VsRel γ args (Array.toList args') → CallsIn F k C.P f args' W (Ends γ W v A') :=
 fun F hF k γ W args' hw hR ha => (h F hF k γ W args' hw hR ha).mono fun e W' ⟨_, _, ⟨rfl, rfl⟩, he⟩ => he

theorem finish_okS {C : Cfg} (hC : C.Ok) {F : Fence} (k : Nat) {fn : Func} {m n : Nat} {γ γ0 : Gam} {s : St} {a : Act} {W W0 : World} {v : Value} {A' : AW} {S : Value → AW → Prop} (hS : S v A') (hs : SRel W0.heap.size γ m n s a W) (hR : Ro C.ro γ W) (he : Ext γ0 W0 γ W)
  (h : finish C m fn.results.toList s = .ret v A') : LeavesInM F k C.P fn a.tmps (SEnds γ0 W0 S) a.defers .returning W := by
 unfold finish at h
 split at h
 ·rename_i A1 hm
  split at h
  ·rename_i vs hvs
   cases h
   refine marks_ok k hs.df hs.w hR he hm fun W' hw' hR' hx => ?_
   obtain ⟨vs', hr, hrel⟩ := results_ok hC hs.tm hw' hR' hvs
   refine ⟨if h : (⟨vs'⟩ : Array Value).size = 1 then (⟨vs'⟩ : Array Value)[0] else .tuple ⟨vs'⟩, ?_, ?_⟩
   ·unfold results
    rw [Array.mapM_eq_mapM_toList]
    simp only [Sem.run_bind, Sem.run_map]
    exact (congrArg (fun (r : Result (List Value)) => ((r.andThen fun a w' => .ok a.toArray w').andThen fun (a : Array Value) w' => Sem.run C.P (pure (if h : a.size = 1 then a[0] else Value.tuple a)) w')) hr).trans rfl
   ·refine ⟨_, _, hS, _, γ, rfl, ?_, hw', hx⟩
    cases hrel with
    | nil => exact .tuple .nil
    | cons h1 hl => cases hl with
     | nil => exact h1
     | cons h2 hl => exact .tuple (.cons h1 (.cons h2 hl))
  ·cases h
 ·cases h

theorem call_reachS {C : Cfg} (hC : C.Ok) {f : Nat} {fn : Func} {c : Code} (hfn : C.fns.get f = some fn) (hc : fn.body = some c) {args : List Value} {A : AW} {S : Value → AW → Prop} (mk : Nat) (hle : Nat.ble args.length fn.ntmps = true)
  (h : ∀ γ W F k, WRel γ A W → Wide F → F.round = none → Reach C mk fn.ntmps F k γ W c ⟨setArgs mk args 0 ⟨[], .nil⟩, [], A⟩ fun ex st => (ex = .normal ∨ ex = .ret) ∧ ∃ st1 v A', Ren C mk fn.ntmps γ W st st1 ∧ finish C mk fn.results.toList st1 = .ret v A' ∧ S v A') : SOk C f args A S := by
 intro F hF k γ W args' hw hR ha
 have hF0 : Wide { F with round := none } := ⟨hF.fn, hF.depth, hF.alive⟩
 have main : CallsIn { F with round := none } k C.P f args' W (SEnds γ W S) := by
  refine callsIn_of_wp_marks (hC.fn _ _ hfn) hc (hF.fn f) ?_ rfl
  have hlen : args'.size = args.length := by have := ha.length; simpa using this
  have hle' : args.length ≤ fn.ntmps := ble_le hle
  have hs0 : SRel W.heap.size γ mk fn.ntmps ⟨setArgs mk args 0 ⟨[], .nil⟩, [], A⟩ { tmps := args' ++ Array.replicate (fn.ntmps - args'.size) undef, defers := [] } W := by
   refine ⟨setArgs_rel ha (fun j u hj => ?_) (fun t u hu => ?_), ?_, .nil, hw⟩
   ·have hjl : j < args'.size := by
     have := (List.getElem?_eq_some_iff.1 hj).1
     simpa using this
    rw [Nat.zero_add, Array.getElem?_append_left hjl]
    simpa using hj
   ·unfold En.get at hu
    split at hu
    ·simp [Tr.get] at hu
    ·simp [scan] at hu
   ·simp
    omega
  refine wpIn_mono (h _ _ _ k hw hF0 rfl γ _ W hs0 ⟨Ext.refl γ W, hR⟩) fun ex a' W' ⟨st', γ', ⟨hx, st1, v, A', hr, hfin, hS⟩, r, b⟩ => ?_
  obtain ⟨γ1, r1, b1⟩ := hr γ' a' W' r b
  rcases hx with rfl | rfl
  ·exact finish_okS hC k hS r1 b1.ro b1.ext hfin
  ·exact finish_okS hC k hS r1 b1.ro b1.ext hfin
 exact main

def StepS (C : Cfg) (m n : Nat) (o : Oper) (b : Tr Value) (A : AW) (S : Value → AW → Prop) : Prop :=
 ∀ F, Wide F → ∀ (β k : Nat) (γ : Gam) (ms : List Nat) (a : Act) (W : World) (next : Act → World → Prop) (Q : Exit → Act → World → Prop), SRel β γ m n ⟨⟨[], b⟩, ms, A⟩ a W → Ro C.ro γ W →
  (∀ v A' v' γ' W', S v A' → VRel γ' v v' → WRel γ' A' W' → Ext γ W γ' W' → next (a.put o.dst v') W') → o.wpIn F k C.P a W next Q

theorem StepS.call {C : Cfg} (hC : C.Ok) {m n : Nat} {o : Oper} {b : Tr Value} {A : AW} {f : Nat} {args : List Value} {A1 : AW} {S : Value → AW → Prop}
  (hav : avail m ⟨[], b⟩ o.op.operands.toList = true) (hd : doOp C (rho m ⟨[], b⟩) o A = .call f args A1) (hN : SOk C f args A1 S) : StepS C m n o b A S := by
 intro F hF β k γ ms a W next Q hs hR hn
 have hw := hs.w
 have hop := doOp_ok hC hw hR o (ρ := rho m ⟨[], b⟩) (ρ' := a.eval) (fun x hx => avail_rel hs.tm hav x (by simpa using hx))
 have hnd : ∀ c, o.op ≠ .defer c := not_defer (fun w hw => by rw [hd] at hw; cases hw)
 refine ⟨fun f _ => hF.fn f, ?_⟩
 rw [Oper.semAt_eq _ _ _ hnd]
 rw [hd] at hop
 obtain ⟨args', hrun, hargs, hw⟩ := hop
 rw [hrun]
 refine ⟨fun hd => by rw [hF.depth] at hd; simp at hd, ?_⟩
 refine (hN F hF (k - 1) γ W args' hw hR hargs).mono fun e W' he => ?_
 obtain ⟨v, A', hS, v', γ', rfl, hv, hw', hx⟩ := he
 exact hn v A' v' γ' W' hS hv hw' hx

def nextS (A : AW) (i mm since : Nat) (seen : List Nat) (es : List MapEntry) (clock : Nat) (v : Value) (A' : AW) : Prop :=
 (nextLeft es seen = [] ∧ v = .tuple ⟨[.bool false]⟩ ∧ A' = A) ∨ ∃ e ∈ nextLeft es seen, v = .tuple ⟨[.bool true, e.key, e.val]⟩ ∧ A' = { A with heap := A.heap.put i (some (.miter mm since (seen ++ [e.born]) clock)) }

theorem EsRel.nth {γ : Gam} {l l' : List MapEntry} (h : EsRel γ l l') : l.length = l'.length ∧ ∀ (j : Nat) (e' : MapEntry), l'[j]? = some e' → ∃ e, e ∈ l ∧ ERel γ e e' := by
 induction h with
 | nil => exact ⟨rfl, fun j e' h => by simp at h⟩
 | cons h _ ih =>
  rename_i a a' l l' _
  refine ⟨by simp [ih.1], fun j e' hj => ?_⟩
  cases j with
  | zero => simp at hj; subst hj; exact ⟨a, List.mem_cons_self .., h⟩
  | succ j =>
   obtain ⟨e, he, hr⟩ := ih.2 j e' (by simpa using hj)
   exact ⟨e, List.mem_cons_of_mem _ he, hr⟩

theorem run_choose {P : Program} {α : Type} {W : World} {n : Nat} (hn : 0 < n) (f : Nat → Sem α) : ∃ j, j < n ∧ ∃ W1, (W1 = W ∨ W1 = W.drew) ∧ ((choose (.mapNext n) : Sem Nat) >>= f).run P W = (f j).run P W1 := by
 have e : ((choose (.mapNext n) : Sem Nat) >>= f) = Sem.choose (.mapNext n) f := rfl
 rw [e, Sem.run]
 by_cases h : n ≤ 1
 ·refine ⟨0, hn, W, .inl rfl, ?_⟩
  rw [if_pos (show (Question.mapNext n).forced = true from decide_eq_true h)]
 ·refine ⟨(W.tape W.drawn (.mapNext n)) % n, Nat.mod_lt _ hn, W.drew, .inr rfl, ?_⟩
  rw [if_neg (show ¬ (Question.mapNext n).forced = true from fun q => h (of_decide_eq_true q))]
  rfl

theorem next_out {P : Program} {W : World} {r b since clock last : Nat} {seen : List Nat} {seen' : Array Nat} (left' : List MapEntry) (hb : W.heap[r]? = some (.mapIter (some b) since seen' last)) : ∃ W1, (W1 = W ∨ W1 = W.drew) ∧
  ((left' = [] ∧ (do
    match ((if left'.isEmpty then [none] else []) ++ left'.map some)[← choose (.mapNext ((if left'.isEmpty then [none] else []) ++ left'.map (some : MapEntry → Option MapEntry)).length)]? with
    | some (some e) =>
     setObj r (.mapIter (some b) since (seen ++ [e.born]).toArray clock)
     pure (.tuple #[.bool true, e.key, e.val])
    | some none => pure (.tuple #[.bool false])
    | none => stuck "Next: no such candidate" : Sem Value).run P W = .ok (.tuple #[.bool false]) W1) ∨
   ∃ (j : Nat) (e : MapEntry), left'[j]? = some e ∧ (do
    match ((if left'.isEmpty then [none] else []) ++ left'.map some)[← choose (.mapNext ((if left'.isEmpty then [none] else []) ++ left'.map (some : MapEntry → Option MapEntry)).length)]? with
    | some (some e) =>
     setObj r (.mapIter (some b) since (seen ++ [e.born]).toArray clock)
     pure (.tuple #[.bool true, e.key, e.val])
    | some none => pure (.tuple #[.bool false])
    | none => stuck "Next: no such candidate" : Sem Value).run P W = .ok (.tuple #[.bool true, e.key, e.val]) (setB W1 r (.mapIter (some b) since (seen ++ [e.born]).toArray clock))) := by
 obtain ⟨j, hj, W1, hW1, hrun⟩ := run_choose (P := P) (W := W) (n := ((if left'.isEmpty then [none] else []) ++ left'.map (some : MapEntry → Option MapEntry)).length) (by cases left' <;> simp) (fun j => (match ((if left'.isEmpty then [none] else []) ++ left'.map some)[j]? with
    | some (some e) => do
     setObj r (.mapIter (some b) since (seen ++ [e.born]).toArray clock)
     pure (.tuple #[.bool true, e.key, e.val])
    | some none => pure (.tuple #[.bool false])
    | none => stuck "Next: no such candidate" : Sem Value))
 refine ⟨W1, hW1, ?_⟩
 have hb1 : W1.heap[r]? = some (.mapIter (some b) since seen' last) := by rcases hW1 with rfl | rfl <;> exact hb
 cases left' with
 | nil =>
  refine .inl ⟨rfl, hrun.trans ?_⟩
  have : j = 0 := by simpa using hj
  subst this
  rfl
 | cons e0 l0 =>
  have hj' : j < (e0 :: l0).length := by simpa using hj
  refine .inr ⟨j, (e0 :: l0)[j], List.getElem?_eq_getElem hj', hrun.trans ?_⟩
  have hc : ((if (e0 :: l0).isEmpty then [none] else []) ++ (e0 :: l0).map (some : MapEntry → Option MapEntry))[j]? = some (some (e0 :: l0)[j]) := by
   simp only [List.isEmpty_cons, Bool.false_eq_true, if_false, List.nil_append, List.getElem?_map, List.getElem?_eq_getElem hj', Option.map_some]
  rw [hc]
  simp [setObj, Sem.run, hb1, setB]

theorem StepS.next {C : Cfg} {m n : Nat} {dst : Option Tmp} {x : Operand} {ty : TypeId} {pos : String} {after : Array Edge} {guard : Option (Nat × Bool)} {b : Tr Value} {A : AW} {i mm since last clock : Nat} {seen : List Nat} {es : List MapEntry}
  (hx : opd m ⟨[], b⟩ x = some (.pointer (some ⟨i, 0, none⟩))) (hi : A.heap.get i = some (.miter mm since seen last)) (hm : A.heap.get mm = some (.map es clock)) (hsame : nextSame es since seen last = true) :
  StepS C m n ⟨dst, .next x false, ty, pos, after, guard⟩ b A (nextS A i mm since seen es clock) := by
 intro F hF β k γ ms a W next Q hs hR hn
 have hv := opd_rel hs.tm hx
 refine ⟨fun f _ => hF.fn f, ?_⟩
 rw [Oper.semAt_eq _ _ _ (fun c h => by cases h)]
 generalize hav : a.eval x = v0 at hv
 cases hv with
 | ptr kk hg =>
 rename_i g
 obtain ⟨g', hg', ho⟩ := hs.w.obj _ _ hi
 rw [hg] at hg'
 cases hg'
 cases ho with
 | miter h0 hgm hb =>
 rename_i gm
 obtain ⟨g', hg', hom⟩ := hs.w.obj _ _ hm
 rw [hgm] at hg'
 cases hg'
 cases hom with
 | map hbm he =>
 rw [show g.off + 0 = 0 from h0] at hav
 obtain ⟨left', h1, h2⟩ := next_run (P := C.P) ty hb hbm he hsame
 show Oper.uponIn F k C.P _ a next Q (Sem.run C.P (do pure (Next.value (← Instr.next (a.eval x) false ty))) W)
 rw [hav, Sem.run_bind]
 obtain ⟨hlen, hnth⟩ := h1.nth
 obtain ⟨W1, hW1, hout⟩ := next_out (P := C.P) (W := W) (since := since) (clock := clock) (seen := seen) left' hb
 have hw1 : WRel γ A W1 := by
  rcases hW1 with h | h
  ·rw [h]; exact hs.w
  ·rw [h]; exact hs.w.drew
 have hx1 : Ext γ W γ W1 := by
  rcases hW1 with h | h
  ·rw [h]; exact Ext.refl _ _
  ·rw [h]; exact Ext.drew γ W
 have hb1 : W1.heap[g.blk]? = some (.mapIter (some gm.blk) since seen.toArray last) := by
  rcases hW1 with h | h
  ·rw [h]; exact hb
  ·rw [h]; exact hb
 rcases hout with ⟨hl, hrun⟩ | ⟨j, e', hj, hrun⟩
 ·rw [h2.trans hrun]
  refine hn _ A _ γ W1 (.inl ⟨?_, rfl, rfl⟩) (.tuple (.cons (.bool false) .nil)) hw1 hx1
  rw [hl] at hlen
  exact List.eq_nil_of_length_eq_zero hlen
 ·rw [h2.trans hrun]
  obtain ⟨e, hmem, hr⟩ := hnth j e' hj
  obtain ⟨q1, q2⟩ := setObj_rel hw1 (x' := .miter mm since (seen ++ [e.born]) clock) (O := .mapIter (some gm.blk) since (seen ++ [e.born]).toArray clock) hi hg (by intros; simp) (by intros; simp) (.miter h0 hgm (setB_same _ (lt_of_heap hb1)))
  rw [hr.born]
  exact hn _ _ _ γ _ (.inr ⟨e, hmem, rfl, rfl⟩) (.tuple (.cons (.bool true) (.cons hr.key (.cons hr.val .nil)))) q1 (hx1.trans q2)

section
variable {C : Cfg} {m n : Nat} {F : Fence} {k : Nat} {γ0 : Gam} {W0 : World}

theorem Reach.rangeS (hC : C.Ok) (hF : Wide F) (hro : F.round = none) {f : Operand} {params : Array Tmp} {assign body : Code} {en : En} {ms : List Nat} {A : AW} {g : Nat} {first captured : List Value} {S : Value → AW → Prop} {Q : Exit → St → Prop}
  (hfv : opd m en f = some (.func (.func g) ⟨first⟩ ⟨captured⟩)) (hbody : hasBody C g = true)
  (hN : SOk C g (first ++ [.func (.yield (A.new .defd).next) ⟨[]⟩ ⟨[]⟩] ++ captured) ((A.new .defd).new (.loop .ready none m en n params assign body A.next)) S)
  (hk : ∀ v A', S v A' → ∃ st', rangeTail (A.new .defd).next en (A.next :: ms) A' = .norm st' ∧ Q .normal st') : Reach C m n F k γ0 W0 (.rangeFunc f params assign body) ⟨en, ms, A⟩ Q := by
 intro γ a W hs hb
 refine wpIn_rangeFunc fun fn hfn => ?_
 have hfr := opd_rel hs.tm hfv
 generalize hfe : a.eval f = fv' at hfr
 cases hfr with
 | func hfn' ha hc =>
  rename_i f' a' c'
  cases hfn'
  have hro' : RoRel γ none F.round := by rw [hro]; exact .none
  obtain ⟨γ1, W1, mark, gd, henter, hgd, hw1, he1, hd1⟩ := rangeHead_ok (P := C.P) hs.w hro' hs.df (d := A.next) (marks := A.next :: ms) (A := A.new .defd) rfl fn a.tmps params assign body
  obtain ⟨q1, q2⟩ := hw1.alloc (.loop .ready none m en n params assign body A.next) (.loop { state := .ready, pending := none, fn, tmps := a.tmps, params, assign, body, defers := gd.blk }) 0 0
   (.loop (heap_alloc_new _ _) rfl rfl ((hs.tm.mono he1.le).mono (Gam.le_set _ (hw1.fresh _ (Nat.le_refl _)))) hs.size rfl rfl rfl (Gam.le_set _ (hw1.fresh _ (Nat.le_refl _)) _ _ hgd) rfl) (by intros; simp_all)
  have hl2 : (γ1.set (A.new .defd).next (gi W1.heap.size 0 0)) (A.new .defd).next = some (gi W1.heap.size 0 0) := Gam.set_same _ _ _
  have hle2 := Gam.le_trans he1.le q2.le
  refine ⟨W1.heap.size, mark, (W1.alloc (.loop { state := .ready, pending := none, fn, tmps := a.tmps, params, assign, body, defers := gd.blk })), { target := .fn (.func g) c', args := a' ++ #[.func (.yield W1.heap.size) #[] #[]] }, (W1.alloc (.loop { state := .ready, pending := none, fn, tmps := a.tmps, params, assign, body, defers := gd.blk })), g, a' ++ #[.func (.yield W1.heap.size) #[] #[]] ++ c', (W1.alloc (.loop { state := .ready, pending := none, fn, tmps := a.tmps, params, assign, body, defers := gd.blk })), (henter _).2 rfl, ?_, fun f' _ => hF.fn f', ?_, fun hd => by rw [hF.depth] at hd; simp at hd, ?_⟩
  ·simp [resolve, hfe, Deferred.ofValue, show ∀ v, a.eval (.const v) = v from fun _ => rfl]
  ·exact callFunc_ok hC hbody _ _
  ·have hargs : VsRel (γ1.set (A.new .defd).next (gi W1.heap.size 0 0)) (first ++ [Value.func (.yield (A.new .defd).next) ⟨[]⟩ ⟨[]⟩] ++ captured) (a' ++ #[Value.func (.yield W1.heap.size) #[] #[]] ++ c').toList := by
    simp only [Array.toList_append]
    exact ((ha.mono hle2).append (.cons (.func (.yield hl2) .nil .nil) .nil)).append (hc.mono hle2)
   refine (hN F hF (k - 1) _ _ _ q1 (hb.ro.ext (he1.trans q2)) hargs).mono fun e W3 he => ?_
   obtain ⟨v, A', hS, v', γ3, rfl, hv, hw3, hx3⟩ := he
   have hx : Ext γ W γ3 W3 := (he1.trans q2).trans hx3
   have hs3 : SRel W0.heap.size γ3 m n ⟨en, A.next :: ms, A'⟩ { a with defers := mark ++ a.defers } W3 := ⟨hs.tm.mono hx.le, hs.size, (hd1.mono q2).mono hx3, hw3⟩
   obtain ⟨st', ht, hq⟩ := hk v A' hS
   have hgood : Good W0.heap.size γ3 W3 m n (rangeTail (A.new .defd).next en (A.next :: ms) A') (fun ex a' W' => ∃ st' γ', Q ex st' ∧ SRel W0.heap.size γ' m n st' a' W' ∧ Base C γ0 W0 γ' W') := by
    rw [ht]
    exact fun γ4 a4 W4 hs4 hx4 => ⟨st', γ4, hq, hs4, ⟨hb.ext.trans (hx.trans hx4), hb.ro.ext (hx.trans hx4)⟩⟩
   exact rangeTail_ok k hs3 (hx3.le _ _ hl2) (by rw [ht]; rfl) hgood

end

end Go.Ev
