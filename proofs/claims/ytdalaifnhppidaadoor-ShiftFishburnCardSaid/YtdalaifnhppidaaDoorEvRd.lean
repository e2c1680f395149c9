/- Rounds of ranges over functions as pieces of their own: code in a round's frame between canonical states; a region that yields; a range over a function that may be left. -/
import Derived.Test.YtdalaifnhppidaaDoorEvCanP
import Derived.Test.YtdalaifnhppidaaDoorEvSetB
namespace Go.Ev
open Go
set_option linter.unusedVariables false
set_option linter.unusedSimpArgs false

def YOk (C : Cfg) (i : Nat) (args : List Value) (A : AW) (S : Value → AW → Prop) : Prop :=
 ∀ F, Wide F → ∀ k γ W (args' : Array Value) g, WRel γ A W → Ro C.ro γ W → γ i = some g → VsRel γ args (Array.toList args') →
  ∃ f tmps assign body, (Instr.yield g.blk args').run C.P W = .ok (.round g.blk f tmps assign body) W ∧ RoundIn F k C.P g.blk f tmps assign body W (SEnds γ W S)

theorem StepE.yield {C : Cfg} (hC : C.Ok) {m n : Nat} {o : Oper} {en : En} {A : AW} {i : Nat} {args : List Value} {A1 : AW} {S : Value → AW → Prop}
  (hav : avail m en o.op.operands.toList = true) (hd : doOp C (rho m en) o A = .yield i args A1) (hN : YOk C i args A1 S) : StepE C m n o en A S := by
 intro F hF β k γ ms a W next Q hs hR hn
 have hw := hs.w
 have hop := doOp_ok hC hw hR o (ρ := rho m en) (ρ' := a.eval) (fun x hx => avail_rel hs.tm hav x (by simpa using hx))
 have hnd : ∀ c, o.op ≠ .defer c := not_defer (fun w hw => by rw [hd] at hw; cases hw)
 refine ⟨fun f _ => hF.fn f, ?_⟩
 rw [Oper.semAt_eq _ _ _ hnd]
 rw [hd] at hop
 obtain ⟨g, hg, args', hrun, hargs, hw⟩ := hop
 obtain ⟨f', tmps, assign, body, hy, hround⟩ := hN F hF (k - 1) γ W args' g hw hR hg hargs
 rw [hrun _ _ hy]
 refine ⟨fun hd => by rw [hF.depth] at hd; simp at hd, ?_⟩
 refine hround.mono fun e W' he => ?_
 obtain ⟨v, A', hS, v', γ', rfl, hv, hw', hx⟩ := he
 exact hn v A' v' γ' W' hS hv hw' hx

def opsL (c : Code) : List Oper := match c with
 | .region _ ops false => ops.toList
 | _ => []

def yieldAt (C : Cfg) (m : Nat) (c : Code) (p : Nat) (en : En) (A : AW) : Option (Nat × List Value × AW) := match opAt c p with
 | some o => match wantedE m (opsL c) en o.guard, avail m en o.op.operands.toList, doOp C (rho m en) o A with
  | some true, true, .yield i args A' => some (i, args, A')
  | _, _, _ => none
 | none => none

def callAtG (C : Cfg) (m : Nat) (c : Code) (p : Nat) (en : En) (A : AW) : Option (Nat × List Value × AW) := match opAt c p with
 | some o => match wantedE m (opsL c) en o.guard, avail m en o.op.operands.toList, doOp C (rho m en) o A with
  | some true, true, .call f args A' => some (f, args, A')
  | _, _, _ => none
 | none => none

section
variable {C : Cfg} {m n : Nat} {F : Fence} {k : Nat} {γ0 : Gam} {W0 : World} {n0 : Nat} {ro : Option Nat}

theorem Reach.segKr (hC : C.Ok) {t : Tbl} (ht : TOk C t) {tm : Tr Nat} {L L' d : Nat} (hF : Wide F) (hro : RoRel γ0 ro F.round) {c : Code} {kn : KS} {kx : Nat → KS} {kr : KS} {s : List (Nat × Value)} {b : Tr Value} {ms : List Nat} {A : AW}
  (h : run C m n L c (lvlT C t tm L' d) ro kn kx kr s b ms A = okR) : Reach C m n F k γ0 W0 c ⟨⟨s, b⟩, ms, A⟩ fun ex st => match ex with
   | .normal => kn st.en.scr st.en.base st.marks st.A = okR
   | .exit id => kx id st.en.scr st.en.base st.marks st.A = okR
   | .ret => kr st.en.scr st.en.base st.marks st.A = okR
   | _ => False := by
 intro γ a W hs hb
 have hle := cCode_le (C := C) (m := m) (n := n) (L := L) c (lvlT_le (C := C) t tm L' d) ro kn kx kr s b ms A _ _ h
 have hro' : RoRel γ ro F.round := hro.mono hb.ext.le
 refine code_ok hC (lvlU_ok hC ht tm L' d) L c hF k hro' hs hb.ro ?_ ?_
 ·cases ho : evCode C (lvlU C t tm L' d) m n ro L c ⟨⟨s, b⟩, ms, A⟩ with
  | fail w => rw [ho] at hle; cases hle
  | norm st => rfl
  | exit id st => rfl
  | ret st => rfl
 ·cases ho : evCode C (lvlU C t tm L' d) m n ro L c ⟨⟨s, b⟩, ms, A⟩ with
  | fail w => trivial
  | norm st =>
   obtain ⟨⟨s', b'⟩, ms', A'⟩ := st
   rw [ho] at hle
   exact fun γ' a' W' hs' he => ⟨⟨⟨s', b'⟩, ms', A'⟩, γ', hle, hs', ⟨hb.ext.trans he, hb.ro.ext he⟩⟩
  | exit id st =>
   obtain ⟨⟨s', b'⟩, ms', A'⟩ := st
   rw [ho] at hle
   exact fun γ' a' W' hs' he => ⟨⟨⟨s', b'⟩, ms', A'⟩, γ', hle, hs', ⟨hb.ext.trans he, hb.ro.ext he⟩⟩
  | ret st =>
   obtain ⟨⟨s', b'⟩, ms', A'⟩ := st
   rw [ho] at hle
   exact fun γ' a' W' hs' he => ⟨⟨⟨s', b'⟩, ms', A'⟩, γ', hle, hs', ⟨hb.ext.trans he, hb.ro.ext he⟩⟩

noncomputable def Outs.ats (n0 : Nat) : List (Nat × Outs) → Nat → KS
 | [] => fun _ _ _ _ _ => .fail 0
 | [(id, o)] => Outs.at n0 id o
 | (id, o) :: l => fun i s T ms A => bif Nat.beq i id then o.ask n0 s T ms A else Outs.ats n0 l i s T ms A

theorem Outs.ats_use (h0 : ∀ i, n0 ≤ i → γ0 i = none) {i : Nat} {s : List (Nat × Value)} {T : Tr Value} {ms : List Nat} {A : AW} : ∀ {l : List (Nat × Outs)}, Outs.ats n0 l i s T ms A = okR → ∃ o, (i, o) ∈ l ∧ Is C m n γ0 W0 o ⟨⟨s, T⟩, ms, A⟩
 | [], h => nomatch h
 | [(id, o)], h => by
  obtain ⟨h1, h2⟩ := Outs.at_use (C := C) (m := m) (n := n) (W0 := W0) h0 h
  subst h1
  exact ⟨o, List.mem_cons_self .., h2⟩
 | (id, o) :: p :: l, h => by
  unfold Outs.ats at h
  cases hb : Nat.beq i id with
  | true =>
   rw [hb] at h
   have := Nat.eq_of_beq_eq_true hb
   subst this
   exact ⟨o, List.mem_cons_self .., Outs.ask_use h0 h⟩
  | false =>
   rw [hb] at h
   obtain ⟨o', h1, h2⟩ := Outs.ats_use h0 (l := p :: l) h
   exact ⟨o', List.mem_cons_of_mem _ h1, h2⟩

theorem Reach.segR (hC : C.Ok) {t : Tbl} (ht : TOk C t) {tm : Tr Nat} {L L' d : Nat} (hF : Wide F) (hro : RoRel γ0 ro F.round) (h0 : ∀ i, n0 ≤ i → γ0 i = none) {c : Code} {s : List (Nat × Value)} {b : Tr Value} {ms : List Nat} {A : AW} {on : Outs} {ox : Nat → Outs} {orr : Outs} (l : List (Nat × Outs)) (hl : ∀ p ∈ l, ox p.1 = p.2)
  (h : run C m n L c (lvlT C t tm L' d) ro (on.ask n0) (Outs.ats n0 l) (orr.ask n0) s b ms A = okR) : Reach C m n F k γ0 W0 c ⟨⟨s, b⟩, ms, A⟩ (CanQ C m n γ0 W0 on ox orr) := by
 refine Reach.mono (Reach.segKr hC ht hF hro h) fun ex st hx => ?_
 cases ex with
 | normal => exact Outs.ask_use h0 hx
 | exit i =>
  obtain ⟨o, h1, h2⟩ := Outs.ats_use (C := C) (m := m) (n := n) (W0 := W0) h0 hx
  show Is C m n γ0 W0 (ox i) st
  rw [hl _ h1]
  exact h2
 | ret => exact Outs.ask_use h0 hx
 | _ => exact hx

theorem Reach.regionK (hC : C.Ok) (hF : Wide F) {t : Tbl} (ht : TOk C t) {tm : Tr Nat} {L d : Nat} {c : Code} {p : Nat} {o : Oper} (ho : opAt c p = some o) {s s1 : List (Nat × Value)} {b b1 : Tr Value} (hgd : wantedE m (opsL c) ⟨s1, b1⟩ o.guard = some true) {ms ms1 : List Nat} {A A1 : AW} {S : Value → AW → Prop} {kn : KS}
  (hpre : preK C m n c p (lvlT C t tm L d) (qn (· = ⟨⟨s1, b1⟩, ms1, A1⟩)) [] b ms A = okR) (hstep : StepE C m n o ⟨s1, b1⟩ A1 S)
  (hk : ∀ v A', S v A' → tailK C m n c p (lvlT C t tm L d) kn v s1 b1 ms1 A' = okR) : Reach C m n F k γ0 W0 c ⟨⟨s, b⟩, ms, A⟩ (fun ex st => ex = .normal ∧ kn st.en.scr st.en.base st.marks st.A = okR) := by
 unfold opAt at ho
 split at ho
 case h_2 => cases ho
 rename_i id ops
 intro γ a W hs hb
 have hs0 := dropScr_rel hs
 have hf := lvlU_ok hC ht tm L d
 have hle := lvlT_le (C := C) t tm L d
 refine wpIn_region ?_
 obtain ⟨rest, hrest⟩ : ∃ rest, ops.toList.drop p = o :: rest := by
  cases hd : ops.toList.drop p with
  | nil => rw [hd] at ho; cases ho
  | cons x l => rw [hd] at ho; cases ho; exact ⟨l, rfl⟩
 have hlen : ops.size = p + (rest.length + 1) := by
  have := congrArg List.length hrest
  simp only [List.length_drop, Array.length_toList, List.length_cons] at this
  omega
 have hpl : (ops.toList.take p).length = p := by simp; omega
 have hrange : List.range ops.size = List.range' 0 (ops.toList.take p).length ++ (p :: List.range' (p + 1) rest.length) := by
  rw [hpl, List.range_eq_range', hlen, ← List.range'_succ]
  have := List.range'_append (s := 0) (m := p) (n := rest.length + 1) (step := 1)
  simp only [Nat.zero_add, Nat.one_mul] at this
  exact this.symm
 rw [hrange]
 have hq1 := cOps_le (C := C) hle m n ops.toList (fun _ _ _ _ _ => .fail 0) (fun _ _ _ _ => .fail 0) (ops.toList.take p) (qn (· = ⟨⟨s1, b1⟩, ms1, A1⟩)) [] b ms A _ _ hpre
 have hev : evOps C (lvlU C t tm L d) m n ops.toList (ops.toList.take p) ⟨⟨[], b⟩, ms, A⟩ = .norm ⟨⟨s1, b1⟩, ms1, A1⟩ := by
  cases he : evOps C (lvlU C t tm L d) m n ops.toList (ops.toList.take p) ⟨⟨[], b⟩, ms, A⟩ with
  | fail w => rw [he] at hq1; cases hq1
  | exit id st => rw [he] at hq1; cases hq1
  | ret st => rw [he] at hq1; cases hq1
  | norm st =>
   obtain ⟨⟨s', b'⟩, ms', A'⟩ := st
   rw [he] at hq1
   rw [qn_use hq1]
 refine ops_pre hC hf hF k (ops.toList.take p) 0 (o :: rest) (by rw [← hrest]; simp) hs0 hb.ro hev fun γ1 a1 W1 hs1 he1 => ?_
 have hoi : ops[p]? = some o := by
  have : (ops.toList.drop p)[0]? = some o := by rw [hrest]; rfl
  simpa using this
 have hdrop : ops.toList.drop (p + 1) = rest := by
  have := congrArg List.tail hrest
  simpa using this
 have hwant : wantedE m ops.toList ⟨s1, b1⟩ o.guard = some true := hgd
 simp only [wpOpsIn, hoi]
 rw [wantedE_ok hs1.tm o hwant]
 simp only [if_true]
 refine hstep F hF _ k γ1 ms1 a1 W1 _ _ hs1 (hb.ro.ext he1) fun v A' v' γ' W' hS hv hw he => ?_
 have ht1 := hk v A' hS
 simp only [tailK, hrest] at ht1
 obtain ⟨e, h1, h2⟩ := cPut_use ht1
 have hset := setD_of (m := m) (n := n) (s := ⟨⟨s1, b1⟩, ms1, A1⟩) (A := A') h1
 have hq2 := cOps_le (C := C) hle m n ops.toList (fun _ _ _ _ _ => .fail 0) (fun _ _ _ _ => .fail 0) rest kn e.scr e.base ms1 A' _ _ h2
 cases hev2 : evOps C (lvlU C t tm L d) m n ops.toList rest ⟨e, ms1, A'⟩ with
 | fail w => rw [hev2] at hq2; cases hq2
 | exit id st => rw [hev2] at hq2; cases hq2
 | ret st => rw [hev2] at hq2; cases hq2
 | norm st =>
  rw [hev2] at hq2
  obtain ⟨⟨s', b'⟩, ms', A2⟩ := st
  refine ops_ok hC hf hF k (ops := ops) rest (p + 1) hdrop (setD_rel hs1 hset he hv hw) ((hb.ro.ext he1).ext he) (by rw [hev2]; rfl) ?_
  rw [hev2]
  exact fun γ2 a2 W2 hs2 he2 => ⟨⟨⟨s', b'⟩, ms', A2⟩, γ2, ⟨rfl, hq2⟩, hs2, ⟨hb.ext.trans (he1.trans (he.trans he2)), hb.ro.ext (he1.trans (he.trans he2))⟩⟩


theorem Reach.yieldK (hC : C.Ok) (hF : Wide F) {t : Tbl} (ht : TOk C t) {tm : Tr Nat} {L d : Nat} {c : Code} (p : Nat) {s s1 : List (Nat × Value)} {b b1 : Tr Value} {ms ms1 : List Nat} {A A1 A2 : AW} {i : Nat} {args : List Value} {S : Value → AW → Prop} {kn : KS}
  (hpre : preK C m n c p (lvlT C t tm L d) (qn (· = ⟨⟨s1, b1⟩, ms1, A1⟩)) [] b ms A = okR) (hy : yieldAt C m c p ⟨s1, b1⟩ A1 = some (i, args, A2)) (hN : YOk C i args A2 S)
  (hk : ∀ v A', S v A' → tailK C m n c p (lvlT C t tm L d) kn v s1 b1 ms1 A' = okR) : Reach C m n F k γ0 W0 c ⟨⟨s, b⟩, ms, A⟩ (fun ex st => ex = .normal ∧ kn st.en.scr st.en.base st.marks st.A = okR) := by
 unfold yieldAt at hy
 split at hy
 ·rename_i o ho
  split at hy
  ·rename_i hg hav hd
   cases hy
   exact Reach.regionK hC hF ht ho hg hpre (StepE.yield hC hav hd hN) hk
  ·cases hy
 ·cases hy

theorem Reach.yieldC (hC : C.Ok) (hF : Wide F) (h0 : ∀ i, n0 ≤ i → γ0 i = none) {t : Tbl} (ht : TOk C t) {tm : Tr Nat} {L d : Nat} {c : Code} (p : Nat) {s s1 : List (Nat × Value)} {b b1 : Tr Value} {ms ms1 : List Nat} {A A1 A2 : AW} {i : Nat} {args : List Value} {S : Value → AW → Prop} {on : Outs} {ox : Nat → Outs} {orr : Outs}
  (hpre : preK C m n c p (lvlT C t tm L d) (qn (· = ⟨⟨s1, b1⟩, ms1, A1⟩)) [] b ms A = okR) (hy : yieldAt C m c p ⟨s1, b1⟩ A1 = some (i, args, A2)) (hN : YOk C i args A2 S)
  (hk : ∀ v A', S v A' → tailK C m n c p (lvlT C t tm L d) (on.ask n0) v s1 b1 ms1 A' = okR) : Reach C m n F k γ0 W0 c ⟨⟨s, b⟩, ms, A⟩ (CanQ C m n γ0 W0 on ox orr) :=
 Reach.mono (Reach.yieldK hC hF ht p hpre hy hN hk) fun ex st ⟨h, hq⟩ => by subst h; exact Outs.ask_use h0 hq

theorem Reach.rangeR (hC : C.Ok) (hF : Wide F) (hro : RoRel γ0 ro F.round) {f : Operand} {params : Array Tmp} {assign body : Code} {en : En} {ms marks : List Nat} {A A1 : AW} {d g : Nat} {first captured : List Value} {S : Value → AW → Prop} {Q : Exit → St → Prop}
  (hhead : rangeHead ro ⟨en, ms, A⟩ = some (d, marks, A1)) (hfv : opd m en f = some (.func (.func g) ⟨first⟩ ⟨captured⟩)) (hbody : hasBody C g = true)
  (hN : SOk C g (first ++ [.func (.yield A1.next) ⟨[]⟩ ⟨[]⟩] ++ captured) (A1.new (.loop .ready none m en n params assign body d)) S)
  (hk : ∀ v A', S v A' → match rangeTail A1.next en marks A' with | .norm st' => Q .normal st' | .exit id st' => Q (.exit id) st' | .ret st' => Q .ret st' | .fail _ => False) : Reach C m n F k γ0 W0 (.rangeFunc f params assign body) ⟨en, ms, A⟩ Q := by
 intro γ a W hs hb
 refine wpIn_rangeFunc fun fn hfn => ?_
 have hfr := opd_rel hs.tm hfv
 generalize hfe : a.eval f = fv' at hfr
 cases hfr with
 | func hfn' ha hc =>
  rename_i f' a' c'
  cases hfn'
  have hro' : RoRel γ ro F.round := hro.mono hb.ext.le
  obtain ⟨γ1, W1, mark, gd, henter, hgd, hw1, he1, hd1⟩ := rangeHead_ok (P := C.P) hs.w hro' hs.df hhead fn a.tmps params assign body
  obtain ⟨q1, q2⟩ := hw1.alloc (.loop .ready none m en n params assign body d) (.loop { state := .ready, pending := none, fn, tmps := a.tmps, params, assign, body, defers := gd.blk }) 0 0
   (.loop (heap_alloc_new _ _) rfl rfl ((hs.tm.mono he1.le).mono (Gam.le_set _ (hw1.fresh _ (Nat.le_refl _)))) hs.size rfl rfl rfl (Gam.le_set _ (hw1.fresh _ (Nat.le_refl _)) _ _ hgd) rfl) (by intros; simp_all)
  have hl2 : (γ1.set A1.next (gi W1.heap.size 0 0)) A1.next = some (gi W1.heap.size 0 0) := Gam.set_same _ _ _
  have hle2 := Gam.le_trans he1.le q2.le
  refine ⟨W1.heap.size, mark, (W1.alloc (.loop { state := .ready, pending := none, fn, tmps := a.tmps, params, assign, body, defers := gd.blk })), { target := .fn (.func g) c', args := a' ++ #[.func (.yield W1.heap.size) #[] #[]] }, (W1.alloc (.loop { state := .ready, pending := none, fn, tmps := a.tmps, params, assign, body, defers := gd.blk })), g, a' ++ #[.func (.yield W1.heap.size) #[] #[]] ++ c', (W1.alloc (.loop { state := .ready, pending := none, fn, tmps := a.tmps, params, assign, body, defers := gd.blk })), (henter _).2 rfl, ?_, fun f' _ => hF.fn f', ?_, fun hd => by rw [hF.depth] at hd; simp at hd, ?_⟩
  ·simp [resolve, hfe, Deferred.ofValue, show ∀ v, a.eval (.const v) = v from fun _ => rfl]
  ·exact callFunc_ok hC hbody _ _
  ·have hargs : VsRel (γ1.set A1.next (gi W1.heap.size 0 0)) (first ++ [Value.func (.yield A1.next) ⟨[]⟩ ⟨[]⟩] ++ captured) (a' ++ #[Value.func (.yield W1.heap.size) #[] #[]] ++ c').toList := by
    simp only [Array.toList_append]
    exact ((ha.mono hle2).append (.cons (.func (.yield hl2) .nil .nil) .nil)).append (hc.mono hle2)
   refine (hN F hF (k - 1) _ _ _ q1 (hb.ro.ext (he1.trans q2)) hargs).mono fun e W3 he => ?_
   obtain ⟨v, A', hS, v', γ3, rfl, hv, hw3, hx3⟩ := he
   have hx : Ext γ W γ3 W3 := (he1.trans q2).trans hx3
   have hs3 : SRel W0.heap.size γ3 m n ⟨en, marks, A'⟩ { a with defers := mark ++ a.defers } W3 := ⟨hs.tm.mono hx.le, hs.size, (hd1.mono q2).mono hx3, hw3⟩
   have ht := hk v A' hS
   have hgood : Good W0.heap.size γ3 W3 m n (rangeTail A1.next en marks A') (fun ex a' W' => ∃ st' γ', Q ex st' ∧ SRel W0.heap.size γ' m n st' a' W' ∧ Base C γ0 W0 γ' W') := by
    revert ht
    cases rangeTail A1.next en marks A' with
    | fail w => intro h; cases h
    | norm st => exact fun hq γ4 a4 W4 hs4 hx4 => ⟨st, γ4, hq, hs4, ⟨hb.ext.trans (hx.trans hx4), hb.ro.ext (hx.trans hx4)⟩⟩
    | exit id st => exact fun hq γ4 a4 W4 hs4 hx4 => ⟨st, γ4, hq, hs4, ⟨hb.ext.trans (hx.trans hx4), hb.ro.ext (hx.trans hx4)⟩⟩
    | ret st => exact fun hq γ4 a4 W4 hs4 hx4 => ⟨st, γ4, hq, hs4, ⟨hb.ext.trans (hx.trans hx4), hb.ro.ext (hx.trans hx4)⟩⟩
   refine rangeTail_ok k hs3 (hx3.le _ _ hl2) ?_ hgood
   revert ht
   cases rangeTail A1.next en marks A' <;> intro h <;> first | rfl | cases h

def tailRK (l : Nat) (en : En) (marks : List Nat) (kn : KS) (kx : Nat → KS) (kr : KS) (A : AW) : CR := match rangeTail l en marks A with
 | .norm st => kn st.en.scr st.en.base st.marks st.A
 | .exit id st => kx id st.en.scr st.en.base st.marks st.A
 | .ret st => kr st.en.scr st.en.base st.marks st.A
 | .fail w => .fail w

theorem Reach.rangeC (hC : C.Ok) (hF : Wide F) (hro : RoRel γ0 ro F.round) (h0 : ∀ i, n0 ≤ i → γ0 i = none) {f : Operand} {params : Array Tmp} {assign body : Code} {en : En} {ms marks : List Nat} {A A1 : AW} {d g : Nat} {first captured : List Value} {S : Value → AW → Prop} {on : Outs} {ox : Nat → Outs} {orr : Outs} (l : List (Nat × Outs)) (hl : ∀ p ∈ l, ox p.1 = p.2)
  (hhead : rangeHead ro ⟨en, ms, A⟩ = some (d, marks, A1)) (hfv : opd m en f = some (.func (.func g) ⟨first⟩ ⟨captured⟩)) (hbody : hasBody C g = true)
  (hN : SOk C g (first ++ [.func (.yield A1.next) ⟨[]⟩ ⟨[]⟩] ++ captured) (A1.new (.loop .ready none m en n params assign body d)) S)
  (hk : ∀ v A', S v A' → tailRK A1.next en marks (on.ask n0) (Outs.ats n0 l) (orr.ask n0) A' = okR) : Reach C m n F k γ0 W0 (.rangeFunc f params assign body) ⟨en, ms, A⟩ (CanQ C m n γ0 W0 on ox orr) := by
 refine Reach.rangeR hC hF hro hhead hfv hbody hN fun v A' hS => ?_
 have h := hk v A' hS
 unfold tailRK at h
 revert h
 cases rangeTail A1.next en marks A' with
 | fail w => intro h; cases h
 | norm st => exact fun h => Outs.ask_use h0 h
 | ret st => exact fun h => Outs.ask_use h0 h
 | exit id st =>
  intro h
  obtain ⟨o, h1, h2⟩ := Outs.ats_use (C := C) (m := m) (n := n) (W0 := W0) h0 h
  show Is C m n γ0 W0 (ox id) _
  rw [hl _ h1]
  exact h2

def Post (kn : KS) (kx : Nat → KS) (kr : KS) : Exit → St → Prop
 | .normal, st => kn st.en.scr st.en.base st.marks st.A = okR
 | .exit id, st => kx id st.en.scr st.en.base st.marks st.A = okR
 | .ret, st => kr st.en.scr st.en.base st.marks st.A = okR
 | _, _ => False

theorem Reach.segP (hC : C.Ok) {t : Tbl} (ht : TOk C t) {tm : Tr Nat} {L L' d : Nat} (hF : Wide F) (hro : RoRel γ0 ro F.round) {c : Code} {kn : KS} {kx : Nat → KS} {kr : KS} {s : List (Nat × Value)} {b : Tr Value} {ms : List Nat} {A : AW}
  (h : run C m n L c (lvlT C t tm L' d) ro kn kx kr s b ms A = okR) : Reach C m n F k γ0 W0 c ⟨⟨s, b⟩, ms, A⟩ (Post kn kx kr) :=
 Reach.mono (Reach.segKr hC ht hF hro h) fun ex st h => by cases ex <;> first | exact h | exact h.elim

inductive Fst (C : Cfg) (m n L : Nat) (fs : FnsC) (ro : Option Nat) : Code → Code → KS → (Nat → KS) → KS → KS → Prop
 | here {c : Code} {kn : KS} {kx : Nat → KS} {kr : KS} : Fst C m n L fs ro c c kn kx kr kn
 | seq {c x y : Code} {kn : KS} {kx : Nat → KS} {kr k' : KS} (h : Fst C m n L fs ro c x (run C m n L y fs ro kn kx kr) kx kr k') : Fst C m n L fs ro c (.seq x y) kn kx kr k'
 | block {c x : Code} {id : Nat} {kn : KS} {kx : Nat → KS} {kr k' : KS} (h : Fst C m n L fs ro c x kn (fun j => match Nat.beq j id with | true => kn | false => kx j) kr k') : Fst C m n L fs ro c (.block id x) kn kx kr k'

theorem Reach.first (hC : C.Ok) {t : Tbl} (ht : TOk C t) {tm : Tr Nat} {L L' d : Nat} (hF : Wide F) (hro : RoRel γ0 ro F.round) {c x : Code} {kn : KS} {kx : Nat → KS} {kr k' : KS} (h : Fst C m n L (lvlT C t tm L' d) ro c x kn kx kr k') :
  ∀ {st : St}, Reach C m n F k γ0 W0 c st (fun ex st => ex = .normal ∧ k' st.en.scr st.en.base st.marks st.A = okR) → Reach C m n F k γ0 W0 x st (Post kn kx kr) := by
 induction h with
 | here => intro st h; exact Reach.mono h fun ex st ⟨h, hq⟩ => by subst h; exact hq
 | seq h ih =>
  intro st h1
  refine Reach.seq (Reach.mono (ih h1) fun ex st hq => ?_)
  cases ex with
  | normal => exact Reach.segP hC ht hF hro hq
  | _ => exact hq
 | block h ih =>
  rename_i x id kn kx kr k'
  intro st h1
  refine Reach.block (Reach.mono (ih h1) fun ex st hq => ?_)
  cases ex with
  | exit j =>
   simp only
   have hq : (match Nat.beq j id with | true => kn | false => kx j) st.en.scr st.en.base st.marks st.A = okR := hq
   by_cases e : j = id
   ·rw [if_pos e]
    rw [show Nat.beq j id = true from by rw [e]; exact Nat.beq_refl id] at hq
    exact hq
   ·rw [if_neg e]
    rw [natF e] at hq
    exact hq
  | _ => exact hq

theorem Reach.afterR (hC : C.Ok) {t : Tbl} (ht : TOk C t) {tm : Tr Nat} {L L' d : Nat} (hF : Wide F) (hro : RoRel γ0 ro F.round) (h0 : ∀ i, n0 ≤ i → γ0 i = none) {p q x : Code} (hA : After p q x) {on o1 : Outs} {ox : Nat → Outs} {orr : Outs} (l : List (Nat × Outs)) (hl : ∀ p ∈ l, ox p.1 = p.2)
  (hq : ∀ vs ms os, o1.Q vs ms os → Reach C m n F k γ0 W0 q (St.of o1.lv vs ms os) (CanQ C m n γ0 W0 on ox orr)) : ∀ {s : List (Nat × Value)} {b : Tr Value} {ms : List Nat} {A : AW},
  run C m n L p (lvlT C t tm L' d) ro (o1.ask n0) (Outs.ats n0 l) (orr.ask n0) s b ms A = okR → Reach C m n F k γ0 W0 x ⟨⟨s, b⟩, ms, A⟩ (CanQ C m n γ0 W0 on ox orr) := by
 have ext : ∀ {i : Nat} {st : St}, Outs.ats n0 l i st.en.scr st.en.base st.marks st.A = okR → CanQ C m n γ0 W0 on ox orr (.exit i) st := fun h => by
  obtain ⟨o, h1, h2⟩ := Outs.ats_use (C := C) (m := m) (n := n) (W0 := W0) h0 h
  show Is C m n γ0 W0 (ox _) _
  rw [hl _ h1]
  exact h2
 induction hA with
 | base => intro s b ms A h; exact Reach.seqC (Reach.segR hC ht hF hro h0 l hl h) hq
 | step hA ih =>
  intro s b ms A h
  refine Reach.seq (Reach.mono (Reach.segKr hC ht hF hro h) fun ex st hx => ?_)
  cases ex with
  | normal => exact ih hq hx
  | exit id => exact ext hx
  | ret => exact Outs.ask_use h0 hx
  | _ => exact hx

theorem Reach.after3R (hC : C.Ok) {t : Tbl} (ht : TOk C t) {tm : Tr Nat} {L L' d : Nat} (hF : Wide F) (hro : RoRel γ0 ro F.round) (h0 : ∀ i, n0 ≤ i → γ0 i = none) {p q y x : Code} (hA : After3 p q y x) {on o1 o2 : Outs} {ox : Nat → Outs} {orr : Outs} (l : List (Nat × Outs)) (hl : ∀ p ∈ l, ox p.1 = p.2)
  (hq : ∀ vs ms os, o1.Q vs ms os → Reach C m n F k γ0 W0 q (St.of o1.lv vs ms os) (CanQ C m n γ0 W0 o2 ox orr))
  (hy : ∀ vs ms os, o2.Q vs ms os → Reach C m n F k γ0 W0 y (St.of o2.lv vs ms os) (CanQ C m n γ0 W0 on ox orr)) : ∀ {s : List (Nat × Value)} {b : Tr Value} {ms : List Nat} {A : AW},
  run C m n L p (lvlT C t tm L' d) ro (o1.ask n0) (Outs.ats n0 l) (orr.ask n0) s b ms A = okR → Reach C m n F k γ0 W0 x ⟨⟨s, b⟩, ms, A⟩ (CanQ C m n γ0 W0 on ox orr) := by
 have ext : ∀ {on : Outs} {i : Nat} {st : St}, Outs.ats n0 l i st.en.scr st.en.base st.marks st.A = okR → CanQ C m n γ0 W0 on ox orr (.exit i) st := fun h => by
  obtain ⟨o, h1, h2⟩ := Outs.ats_use (C := C) (m := m) (n := n) (W0 := W0) h0 h
  show Is C m n γ0 W0 (ox _) _
  rw [hl _ h1]
  exact h2
 induction hA with
 | base => intro s b ms A h; exact Reach.seqC (Reach.seqC (Reach.segR hC ht hF hro h0 l hl h) hq) hy
 | flat => intro s b ms A h; exact Reach.seqC (Reach.segR hC ht hF hro h0 l hl h) fun vs ms os ho => Reach.seqC (hq vs ms os ho) hy
 | step hA ih =>
  intro s b ms A h
  refine Reach.seq (Reach.mono (Reach.segKr hC ht hF hro h) fun ex st hx => ?_)
  cases ex with
  | normal => exact ih hq hy hx
  | exit id => exact ext hx
  | ret => exact Outs.ask_use h0 hx
  | _ => exact hx

def RenA (C : Cfg) (γ0 : Gam) (W0 : World) (A A1 : AW) : Prop := ∀ γ W D, WRel γ A W → Base C γ0 W0 γ W → DRel W0.heap.size γ W [] D → ∃ γ1, WRel γ1 A1 W ∧ Base C γ0 W0 γ1 W ∧ DRel W0.heap.size γ1 W [] D

theorem RenA.refl (A : AW) : RenA C γ0 W0 A A := fun γ W D h hb hd => ⟨γ, h, hb, hd⟩

def Cn (n0 : Nat) (fl : List Fl) (A : AW) (os : OO) : Prop := rb n0 [] fl .nil [] A = some ([], [], os) ∧ gdAs fl os = true

theorem Cn.ren (h0 : ∀ i, n0 ≤ i → γ0 i = none) {fl : List Fl} {A : AW} {os : OO} (h : Cn n0 fl A os) : RenA C γ0 W0 A (mkA os) := fun γ W D hw hb hd => by
 obtain ⟨γ1, hs, hb1⟩ := Ren.rb (C := C) (m := 0) (n := 0) (γ0 := γ0) (W0 := W0) h0 (s := []) (T := .nil) h.1 h.2 γ ⟨#[], D⟩ W ⟨fun t v hv => by
  simp only [En.get] at hv
  split at hv
  ·simp [Tr.get] at hv
  ·simp [scan] at hv, rfl, hd, hw⟩ hb
 exact ⟨γ1, hs.w, hb1, hs.df⟩

def oldV (A : AW) : Value → Bool
 | .func (.yield i) ⟨[]⟩ ⟨[]⟩ => (A.heap.get i).isSome
 | .pointer (some ⟨i, _, none⟩) => (A.heap.get i).isSome
 | v => nn v

theorem oldV_ok {A : AW} (hw : WRel γ0 A W0) {γ γ1 : Gam} (h : γ0.le γ) (h1 : γ0.le γ1) {v v' : Value} (hv : oldV A v = true) (hr : VRel γ v v') : VRel γ1 v v' := by
 have key : ∀ i, (A.heap.get i).isSome = true → ∃ g, γ0 i = some g := fun i hi => by
  cases hg : A.heap.get i with
  | none => rw [hg] at hi; cases hi
  | some o => obtain ⟨g, hg, _⟩ := hw.obj i o hg; exact ⟨g, hg⟩
 unfold oldV at hv
 split at hv
 ·rename_i i
  obtain ⟨g, hg⟩ := key i hv
  cases hr with
  | func hf ha hc =>
   rename_i f' a' c'
   cases hf with
   | yield hy =>
    rw [h _ _ hg] at hy
    cases hy
    generalize ha' : a'.toList = la at ha
    generalize hc' : c'.toList = lc at hc
    cases ha
    cases hc
    refine .func (.yield (h1 _ _ hg)) ?_ ?_
    ·rw [ha']; exact .nil
    ·rw [hc']; exact .nil
 ·rename_i i k
  obtain ⟨g, hg⟩ := key i hv
  cases hr with
  | ptr k hp =>
   rw [h _ _ hg] at hp
   cases hp
   exact .ptr k (h1 _ _ hg)
 ·exact hr.of_nn hv

theorem Ren.world {A : AW} (hw : WRel γ0 A W0) {lv : List Nat} {vs : OV} {s : List (Nat × Value)} {T : Tr Value} {A1 A2 : AW} (hv : lv.map T.get = vs) (ho : ∀ v, some v ∈ vs → oldV A v = true) (hr : RenA C γ0 W0 A1 A2) : Ren C m n γ0 W0 ⟨⟨s, T⟩, [], A1⟩ ⟨⟨[], bT lv vs .nil⟩, [], A2⟩ := fun γ a W hs hb => by
 obtain ⟨γ1, hw1, hb1, hd1⟩ := hr γ W a.defers hs.w hb hs.df
 refine ⟨γ1, ⟨fun t v hv' => ?_, hs.size, hd1, hw1⟩, hb1⟩
 ·simp only [En.get] at hv'
  split at hv'
  ·rename_i hbit
   rcases bT_get hv' with hv' | ⟨k, k1, k2⟩
   ·simp [Tr.get] at hv'
   ·have e0 := k2
    rw [← hv, List.getElem?_map, k1] at e0
    simp only [Option.map_some, Option.some.injEq] at e0
    obtain ⟨x, hx, hr⟩ := hs.tm t v (by simp only [En.get, hbit]; exact e0)
    refine ⟨x, hx, oldV_ok hw hb.ext.le hb1.ext.le (ho v (List.mem_of_getElem? k2)) hr⟩
  ·simp [scan] at hv'

end

def begK (i : Nat) (k : KS) : KS := fun s b ms A => match A.heap.get i with
 | some (.loop .ready pend m en n ps as bd d) => k s b ms { A with heap := A.heap.put i (some (.loop .busy pend m en n ps as bd d)) }
 | _ => .fail 252

theorem YOk.of {C : Cfg} (hC : C.Ok) {i : Nat} {args : List Value} {A : AW} {S : Value → AW → Prop} {st : LoopState} {pend : Option Code} {m n : Nat} {en : En} {params : Array Tmp} {assign body : Code} {d : Nat} (hl : A.heap.get i = some (.loop st pend m en n params assign body d))
  {s0 : List (Nat × Value)} {b0 : Tr Value} (he0 : setPs m n params.toList args en = some ⟨s0, b0⟩) {t : Tbl} (ht : TOk C t) {tm : Tr Nat} {L L' d' : Nat} (o1 on : Outs) (ox : Nat → Outs) (orr : Outs)
  (hpre : run C m n L assign (lvlT C t tm L' d') (some i) (begK i (o1.ask A.next)) (fun _ _ _ _ _ => .fail 0) (fun _ _ _ _ => .fail 0) s0 b0 [] A = okR)
  (hbody : ∀ F k γ W, Wide F → RoRel γ (some i) F.round → (∀ j, A.next ≤ j → γ j = none) → ∀ vs ms os, o1.Q vs ms os → Reach C m n F k γ W body (St.of o1.lv vs ms os) (CanQ C m n γ W on ox orr))
  (hn : ∀ vs ms os, on.Q vs ms os → ∃ v A', endR i none (St.of on.lv vs ms os) = .ret v A' ∧ S v A')
  (hx : ∀ id vs ms os, (ox id).Q vs ms os → ∃ v A', endR i (some (.exit id)) (St.of (ox id).lv vs ms os) = .ret v A' ∧ S v A')
  (hr : ∀ vs ms os, orr.Q vs ms os → ∃ v A', endR i (some .ret) (St.of orr.lv vs ms os) = .ret v A' ∧ S v A') : YOk C i args A S := by
 intro F hF k γ W args' g hw hR hg ha
 obtain ⟨g', hg', ho⟩ := hw.obj _ _ hl
 rw [hg] at hg'
 cases hg'
 cases ho with
 | loop hb h1 h2 h3 h4 h5 h6 h7 h8 h9 =>
 rename_i r gd
 obtain ⟨q1, q2, q3⟩ := setPs_rel he0 ha h4 h3
 refine ⟨r.fn, (r.params.zip args').foldl (fun tmps (t, a) => tmps.setIfInBounds t a) r.tmps, r.assign, r.body, ?_, ?_⟩
 ·have hsz : args'.size = r.params.size := by rw [h5]; simpa using q3
  simp [Instr.yield, run_getLoop hb, hsz]
 ·rw [h6, h7]
  have hfold : (r.params.zip args').foldl (fun tmps (t, a) => tmps.setIfInBounds t a) r.tmps = (params.toList.zip args'.toList).foldl (fun tmps (t, a) => tmps.setIfInBounds t a) r.tmps := by
   rw [h5, ← Array.foldl_toList, Array.toList_zip]
  rw [hfold]
  refine roundIn_of_wpIn (hF.fn _) ?_
  have hs0 : SRel W.heap.size γ m n ⟨⟨s0, b0⟩, [], A⟩ { tmps := (params.toList.zip args'.toList).foldl (fun tmps (t, a) => tmps.setIfInBounds t a) r.tmps, defers := [] } W := ⟨q1, q2, .nil, hw⟩
  have hro : RoRel γ (some i) (F.inRound g.blk).round := by rw [Fence.inRound_round]; exact .some hg
  have hF' := hF.inRound g.blk
  have hbase : Base C γ W γ W := ⟨Ext.refl _ _, hR⟩
  refine wpIn_mono (Reach.segKr hC ht (k := k) hF' hro hpre γ _ W hs0 hbase) fun ex a1 W1 ⟨s1, γ1, hk, hs1, hb1⟩ => ?_
  cases ex with
  | normal =>
   show ∃ w₂, (Instr.beginRound g.blk).run C.P W1 = .ok () w₂ ∧ _
   simp only [begK] at hk
   split at hk
   ·rename_i pend' m' en' n' ps as bd d2 hl1
    obtain ⟨W2, hrun, hs2, hx2⟩ := beginR_ok (P := C.P) (s1 := { s1 with A := { s1.A with heap := s1.A.heap.put i (some (.loop .busy pend' m' en' n' ps as bd d2)) } }) hs1 (hb1.ext.le _ _ hg) (by unfold beginR; rw [hl1])
    refine ⟨W2, hrun, ?_⟩
    have hb2 : Base C γ W γ1 W2 := ⟨hb1.ext.trans hx2, hb1.ro.ext hx2⟩
    have his : Is C m n γ W o1 { s1 with A := { s1.A with heap := s1.A.heap.put i (some (.loop .busy pend' m' en' n' ps as bd d2)) } } := Outs.ask_use (fun j hj => hw.fresh j hj) hk
    refine wpIn_mono (Reach.is his (fun vs ms os hq => hbody (F.inRound g.blk) k γ W hF' hro (fun j hj => hw.fresh j hj) vs ms os hq) γ1 a1 W2 hs2 hb2) fun ex2 a3 W3 ⟨s3, γ3, hq3, hs3, hb3⟩ => ?_
    have fin : ∀ (jump : Option Code) (o : Outs), Is C m n γ W o s3 → (∀ vs ms os, o.Q vs ms os → ∃ v A', endR i jump (St.of o.lv vs ms os) = .ret v A' ∧ S v A') → ∃ v w', (Instr.endRound g.blk jump).run C.P W3 = .ok v w' ∧ SEnds γ W S (.returned v) w' := fun jump o ⟨vs, ms, os, hren, hq⟩ hend => by
     obtain ⟨γ4, hs4, hb4⟩ := hren γ3 a3 W3 hs3 hb3
     obtain ⟨v, A', he, hS⟩ := hend vs ms os hq
     obtain ⟨v', W', hrun', hends⟩ := endR_ok (P := C.P) hs4 hb4.ext (hb4.ext.le _ _ hg) he
     exact ⟨v', W', hrun', v, A', hS, hends⟩
    cases ex2 with
    | normal => exact fin none on hq3 hn
    | exit id => exact fin _ (ox id) hq3 (hx id)
    | ret => exact fin _ orr hq3 hr
    | _ => exact hq3.elim
   ·cases hk
  | exit id => cases hk
  | ret => cases hk
  | _ => exact hk.elim

theorem callG {C : Cfg} (hC : C.Ok) {f : Nat} {c : Code} (hb : hasBody C f = true) (hc : bodyOf C f = c) {nt : Nat} (hn : ntm C f = nt) {rs : List ResultVar} (hr : resOf C f = rs) {args : List Value} {A : AW} {S : Value → AW → Prop} (mk : Nat) (hle : Nat.ble args.length nt = true)
  (h : ∀ γ W F k, WRel γ A W → Wide F → RoRel γ none F.round → (∀ i, A.next ≤ i → γ i = none) → Reach C mk nt F k γ W c ⟨⟨sc0 mk args, tr0 mk args⟩, [], A⟩ fun ex st => (ex = .normal ∨ ex = .ret) ∧ ∃ st1 v A', Ren C mk nt γ W st st1 ∧ finish C mk rs st1 = .ret v A' ∧ S v A') : SOk C f args A S := by
 obtain ⟨fn, h1, h2, h3, h4⟩ : ∃ fn, C.fns.get f = some fn ∧ fn.body = some (bodyOf C f) ∧ fn.ntmps = ntm C f ∧ fn.results.toList = resOf C f := by
  unfold hasBody at hb
  unfold bodyOf ntm resOf
  split at hb
  ·rename_i fn hfn
   split at hb
   ·rename_i c hc
    exact ⟨fn, hfn, by simp only [hfn, hc], by simp only [hfn], by simp only [hfn]⟩
   ·cases hb
  ·cases hb
 have hn' : fn.ntmps = nt := h3.trans hn
 refine call_reachS hC h1 h2 mk (by rw [hn']; exact hle) fun γ W F k hw hF hro => ?_
 rw [hc, hn', h4, hr]
 exact h γ W F k hw hF (by rw [hro]; exact .none) hw.fresh

theorem callO {C : Cfg} (hC : C.Ok) {f : Nat} {c : Code} (hb : hasBody C f = true) (hc : bodyOf C f = c) {nt : Nat} (hn : ntm C f = nt) {rs : List ResultVar} (hr : resOf C f = rs) {args : List Value} {A : AW} {S : Value → AW → Prop} (mk : Nat) (hle : Nat.ble args.length nt = true) (oe : Outs)
  (hend : ∀ vs ms os, oe.Q vs ms os → ∃ v A', finish C mk rs (St.of oe.lv vs ms os) = .ret v A' ∧ S v A')
  (h : ∀ γ W F k, WRel γ A W → Wide F → RoRel γ none F.round → (∀ i, A.next ≤ i → γ i = none) → Reach C mk nt F k γ W c ⟨⟨sc0 mk args, tr0 mk args⟩, [], A⟩ (CanQ C mk nt γ W oe (fun _ => Outs.no) oe)) : SOk C f args A S := by
 refine callG hC hb hc hn hr mk hle fun γ W F k hw hF hro h0 => Reach.mono (h γ W F k hw hF hro h0) fun ex st hq => ?_
 have fin : Is C mk nt γ W oe st → ∃ st1 v A', Ren C mk nt γ W st st1 ∧ finish C mk rs st1 = .ret v A' ∧ S v A' := fun ⟨vs, ms, os, hr, hq⟩ => by
  obtain ⟨v, A', h1, h2⟩ := hend vs ms os hq
  exact ⟨_, v, A', hr, h1, h2⟩
 cases ex with
 | normal => exact ⟨.inl rfl, fin hq⟩
 | ret => exact ⟨.inr rfl, fin hq⟩
 | exit id => obtain ⟨_, _, _, _, hf⟩ := hq; exact hf.elim
 | _ => exact hq.elim

noncomputable def asks (Q : St → Prop) : KS := fun s b ms A => qq (Q ⟨⟨s, b⟩, ms, A⟩)

end Go.Ev
