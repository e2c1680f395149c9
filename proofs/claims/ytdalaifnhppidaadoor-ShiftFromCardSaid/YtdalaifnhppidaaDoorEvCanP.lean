/- A function in two pieces, with a canonical state between them. -/
import Derived.Test.YtdalaifnhppidaaDoorEvCanR
import Derived.Test.YtdalaifnhppidaaDoorEvSet
namespace Go.Ev
open Go
set_option linter.unusedVariables false
set_option linter.unusedSimpArgs false

theorem callP {C : Cfg} (hC : C.Ok) {f : Nat} {c : Code} (hb : hasBody C f = true) (hc : bodyOf C f = c) {nt : Nat} (hn : ntm C f = nt) {rs : List ResultVar} (hr : resOf C f = rs) {args : List Value} {A : AW} {S : Value → AW → Prop} (mk : Nat) (hle : Nat.ble args.length nt = true)
  {p q : Code} (hA : After p q c) {t : Tbl} (ht : TOk C t) {tm : Tr Nat} {L d : Nat} (o1 oe : Outs)
  (hpre : run C mk nt L p (lvlT C t tm L d) none (o1.ask A.next) (fun _ => Outs.no.ask A.next) (oe.ask A.next) (sc0 mk args) (tr0 mk args) [] A = okR)
  (hend : ∀ vs ms os, o1.Q vs ms os → ∃ t, TOk C t ∧ ∃ tm L L' d, run C mk nt L q (lvlT C t tm L' d) none (oe.ask A.next) (fun _ => Outs.no.ask A.next) (oe.ask A.next) [] (bT o1.lv vs .nil) ms (mkA os) = okR)
  (hfin : ∀ vs ms os, oe.Q vs ms os → ∃ v A', finish C mk rs (St.of oe.lv vs ms os) = .ret v A' ∧ S v A') : SOk C f args A S := by
 obtain ⟨fn, h1, h2, h3, h4⟩ : ∃ fn, C.fns.get f = some fn ∧ fn.body = some (bodyOf C f) ∧ fn.ntmps = ntm C f ∧ fn.results.toList = resOf C f := by
  unfold hasBody at hb
  unfold bodyOf ntm resOf
  split at hb
  ·rename_i fn hfn
   split at hb
   ·rename_i c hc
    exact ⟨fn, hfn, by simp only [hfn, hc], by simp only [hfn], by simp only [hfn]⟩
   ·cases hb
  ·cases hb
 have hn' : fn.ntmps = nt := h3.trans hn
 refine callC hC h1 h2 mk (by rw [hn']; exact hle) oe (fun vs ms os hq => by rw [h4, hr]; exact hfin vs ms os hq) fun γ W F k hw hF hro h0 => ?_
 rw [hc, hn']
 refine Reach.after hC ht hF hro h0 hA (o1 := o1) (fun vs ms os hq => ?_) hpre
 obtain ⟨t, ht, tm, L, L', d, h⟩ := hend vs ms os hq
 exact Reach.segC hC ht hF hro h0 h


theorem Outs.no_use {γ0 : Gam} {m n : Nat} {W0 : World} {C : Cfg} {n0 : Nat} (h0 : ∀ i, n0 ≤ i → γ0 i = none) {s : List (Nat × Value)} {T : Tr Value} {ms : List Nat} {A : AW} (h : Outs.no.ask n0 s T ms A = okR) : False := by
 obtain ⟨_, _, _, _, hf⟩ := Outs.ask_use (C := C) (m := m) (n := n) (W0 := W0) h0 h
 exact hf

theorem Reach.segN {C : Cfg} {m n : Nat} {F : Fence} {k : Nat} {γ0 : Gam} {W0 : World} {n0 : Nat} (hC : C.Ok) {t : Tbl} (ht : TOk C t) {tm : Tr Nat} {L L' d : Nat} (hF : Wide F) (hro : F.round = none) (h0 : ∀ i, n0 ≤ i → γ0 i = none) {c : Code} {s : List (Nat × Value)} {b : Tr Value} {ms : List Nat} {A : AW} {on : Outs} {ox : Nat → Outs} {orr : Outs}
  (h : run C m n L c (lvlT C t tm L' d) none (on.ask n0) (fun _ => Outs.no.ask n0) (orr.ask n0) s b ms A = okR) : Reach C m n F k γ0 W0 c ⟨⟨s, b⟩, ms, A⟩ (CanQ C m n γ0 W0 on ox orr) := by
 refine Reach.mono (Reach.segK hC ht hF hro h) fun ex st hx => ?_
 cases ex with
 | normal => exact Outs.ask_use h0 hx
 | exit i => exact (Outs.no_use (C := C) (m := m) (n := n) (W0 := W0) h0 hx).elim
 | ret => exact Outs.ask_use h0 hx
 | _ => exact hx

theorem Reach.segI {C : Cfg} {m n : Nat} {F : Fence} {k : Nat} {γ0 : Gam} {W0 : World} {n0 : Nat} (hC : C.Ok) {t : Tbl} (ht : TOk C t) {tm : Tr Nat} {L L' d : Nat} (hF : Wide F) (hro : F.round = none) (h0 : ∀ i, n0 ≤ i → γ0 i = none) {id : Nat} {o2 : Outs} {c : Code} {s : List (Nat × Value)} {b : Tr Value} {ms : List Nat} {A : AW} {on : Outs} {ox : Nat → Outs} {orr : Outs} (hid : ox id = o2)
  (h : run C m n L c (lvlT C t tm L' d) none (on.ask n0) (o2.at n0 id) (orr.ask n0) s b ms A = okR) : Reach C m n F k γ0 W0 c ⟨⟨s, b⟩, ms, A⟩ (CanQ C m n γ0 W0 on ox orr) := by
 refine Reach.mono (Reach.segK hC ht hF hro h) fun ex st hx => ?_
 cases ex with
 | normal => exact Outs.ask_use h0 hx
 | exit i =>
  obtain ⟨rfl, hi⟩ := Outs.at_use h0 hx
  show Is C m n γ0 W0 (ox i) st
  rw [hid]
  exact hi
 | ret => exact Outs.ask_use h0 hx
 | _ => exact hx

theorem callLL {C : Cfg} (hC : C.Ok) {f : Nat} {c : Code} (hb : hasBody C f = true) (hc : bodyOf C f = c) {nt : Nat} (hn : ntm C f = nt) {rs : List ResultVar} (hr : resOf C f = rs) {args : List Value} {A : AW} {S : Value → AW → Prop} (mk : Nat) (hle : Nat.ble args.length nt = true)
  {p a b x e q : Code} {id bb id2 : Nat} (hA : After3 p (.block id (.loop (.seq a (.seq (.block bb (.seq b (.block id2 (.loop x)))) e)))) q c) {t : Tbl} (ht : TOk C t) {tm : Tr Nat} {L d : Nat}
  (lv : List Nat) (fl : List Fl) (I : Nat → OV → List Nat → OO → Prop) (o2 oe : Outs) (oa : Nat → Outs) (lvi : List Nat) (fli : List Fl) (J : Nat → Nat → OV → List Nat → OO → Prop) (oi : Nat → Outs)
  (hpre : run C mk nt L p (lvlT C t tm L d) none (Outs.ask A.next ⟨lv, fl, fun vs ms os => ∃ j, I j vs ms os⟩) (fun _ => Outs.no.ask A.next) (oe.ask A.next) (sc0 mk args) (tr0 mk args) [] A = okR)
  (ha : ∀ j vs ms os, I j vs ms os → ∃ t, TOk C t ∧ ∃ tm L L' d, run C mk nt L a (lvlT C t tm L' d) none ((oa j).ask A.next) (o2.at A.next id) (oe.ask A.next) [] (bT lv vs .nil) ms (mkA os) = okR)
  (hbb : ∀ j vs ms os, (oa j).Q vs ms os → ∃ t, TOk C t ∧ ∃ tm L L' d, run C mk nt L b (lvlT C t tm L' d) none (Outs.ask A.next ⟨lvi, fli, fun vs ms os => ∃ i, J j i vs ms os⟩) (fun _ => Outs.no.ask A.next) (oe.ask A.next) [] (bT (oa j).lv vs .nil) ms (mkA os) = okR)
  (hx : ∀ j i vs ms os, J j i vs ms os → ∃ t, TOk C t ∧ ∃ tm L L' d, run C mk nt L x (lvlT C t tm L' d) none (Outs.ask A.next ⟨lvi, fli, fun vs ms os => ∃ i', i' < i ∧ J j i' vs ms os⟩) ((oi j).at A.next id2) (oe.ask A.next) [] (bT lvi vs .nil) ms (mkA os) = okR)
  (he : ∀ j vs ms os, (oi j).Q vs ms os → ∃ t, TOk C t ∧ ∃ tm L L' d, run C mk nt L e (lvlT C t tm L' d) none (Outs.ask A.next ⟨lv, fl, fun vs ms os => ∃ j', j' < j ∧ I j' vs ms os⟩) (fun _ => Outs.no.ask A.next) (oe.ask A.next) [] (bT (oi j).lv vs .nil) ms (mkA os) = okR)
  (hend : ∀ vs ms os, o2.Q vs ms os → ∃ t, TOk C t ∧ ∃ tm L L' d, run C mk nt L q (lvlT C t tm L' d) none (oe.ask A.next) (fun _ => Outs.no.ask A.next) (oe.ask A.next) [] (bT o2.lv vs .nil) ms (mkA os) = okR)
  (hfin : ∀ vs ms os, oe.Q vs ms os → ∃ v A', finish C mk rs (St.of oe.lv vs ms os) = .ret v A' ∧ S v A') : SOk C f args A S := by
 obtain ⟨fn, h1, h2, h3, h4⟩ : ∃ fn, C.fns.get f = some fn ∧ fn.body = some (bodyOf C f) ∧ fn.ntmps = ntm C f ∧ fn.results.toList = resOf C f := by
  unfold hasBody at hb
  unfold bodyOf ntm resOf
  split at hb
  ·rename_i fn hfn
   split at hb
   ·rename_i c hc
    exact ⟨fn, hfn, by simp only [hfn, hc], by simp only [hfn], by simp only [hfn]⟩
   ·cases hb
  ·cases hb
 have hn' : fn.ntmps = nt := h3.trans hn
 refine callC hC h1 h2 mk (by rw [hn']; exact hle) oe (fun vs ms os hq => by rw [h4, hr]; exact hfin vs ms os hq) fun γ W F k hw hF hro h0 => ?_
 rw [hc, hn']
 refine Reach.after3 hC ht hF hro h0 hA (o1 := ⟨lv, fl, fun vs ms os => ∃ j, I j vs ms os⟩) (o2 := o2) (fun vs ms os ⟨j, hI⟩ => Reach.blockC (Reach.loopC (lv := lv) (fl := fl) (I := I) (fun j vs ms os hI => ?_) hI)) (fun vs ms os hq => ?_) hpre
 ·obtain ⟨t1, ht1, tm1, L1, L1', d1, hra⟩ := ha j vs ms os hI
  refine Reach.seqC (o1 := oa j) (Reach.segI hC ht1 hF hro h0 (o2 := o2) (if_pos rfl) hra) fun vs ms os hq => ?_
  refine Reach.seqC (o1 := oi j) (Reach.blockC ?_) fun vs ms os hq => ?_
  ·obtain ⟨t2, ht2, tm2, L2, L2', d2, hrb⟩ := hbb j vs ms os hq
   refine Reach.seqC (o1 := ⟨lvi, fli, fun vs ms os => ∃ i, J j i vs ms os⟩) (Reach.segN hC ht2 hF hro h0 hrb) fun vs ms os ⟨i, hJ⟩ => ?_
   exact Reach.blockC (Reach.loopC (lv := lvi) (fl := fli) (I := J j) (fun i vs ms os hJ => by
    obtain ⟨t3, ht3, tm3, L3, L3', d3, hrx⟩ := hx j i vs ms os hJ
    exact Reach.segI hC ht3 hF hro h0 (o2 := oi j) (if_pos rfl) hrx) hJ)
  ·obtain ⟨t4, ht4, tm4, L4, L4', d4, hre⟩ := he j vs ms os hq
   exact Reach.segN hC ht4 hF hro h0 hre
 ·obtain ⟨t5, ht5, tm5, L5, L5', d5, h⟩ := hend vs ms os hq
  exact Reach.segN hC ht5 hF hro h0 h


theorem callE {C : Cfg} (hC : C.Ok) {f : Nat} {c : Code} (hb : hasBody C f = true) (hc : bodyOf C f = c) {nt : Nat} (hn : ntm C f = nt) {rs : List ResultVar} (hr : resOf C f = rs) {args : List Value} {A : AW} {S : Value → AW → Prop} (mk : Nat) (hle : Nat.ble args.length nt = true)
  {p x : Code} {id : Nat} (hA : After p (.block id (.loop x)) c) {t : Tbl} (ht : TOk C t) {tm : Tr Nat} {L d : Nat} (lv : List Nat) (fl : List Fl) (I : Nat → OV → List Nat → OO → Prop) (oe : Outs)
  (hpre : run C mk nt L p (lvlT C t tm L d) none (Outs.ask A.next ⟨lv, fl, fun vs ms os => ∃ j, I j vs ms os⟩) (fun _ => Outs.no.ask A.next) (oe.ask A.next) (sc0 mk args) (tr0 mk args) [] A = okR)
  (hloop : ∀ j vs ms os, I j vs ms os → ∃ t, TOk C t ∧ ∃ tm L L' d, run C mk nt L x (lvlT C t tm L' d) none (Outs.ask A.next ⟨lv, fl, fun vs ms os => ∃ j', j' < j ∧ I j' vs ms os⟩) (oe.at A.next id) (oe.ask A.next) [] (bT lv vs .nil) ms (mkA os) = okR)
  (hfin : ∀ vs ms os, oe.Q vs ms os → ∃ v A', finish C mk rs (St.of oe.lv vs ms os) = .ret v A' ∧ S v A') : SOk C f args A S := by
 obtain ⟨fn, h1, h2, h3, h4⟩ : ∃ fn, C.fns.get f = some fn ∧ fn.body = some (bodyOf C f) ∧ fn.ntmps = ntm C f ∧ fn.results.toList = resOf C f := by
  unfold hasBody at hb
  unfold bodyOf ntm resOf
  split at hb
  ·rename_i fn hfn
   split at hb
   ·rename_i c hc
    exact ⟨fn, hfn, by simp only [hfn, hc], by simp only [hfn], by simp only [hfn]⟩
   ·cases hb
  ·cases hb
 have hn' : fn.ntmps = nt := h3.trans hn
 refine callC hC h1 h2 mk (by rw [hn']; exact hle) oe (fun vs ms os hq => by rw [h4, hr]; exact hfin vs ms os hq) fun γ W F k hw hF hro h0 => ?_
 rw [hc, hn']
 exact Reach.after hC ht hF hro h0 hA (o1 := ⟨lv, fl, fun vs ms os => ∃ j, I j vs ms os⟩) (fun vs ms os ⟨j, hI⟩ => Reach.loopS hC hF hro h0 fl I (fun j vs ms os hI => hloop j vs ms os hI) hI) hpre


theorem callRg {C : Cfg} (hC : C.Ok) {f : Nat} {c : Code} (hb : hasBody C f = true) (hc : bodyOf C f = c) {nt : Nat} (hn : ntm C f = nt) {rs : List ResultVar} (hr : resOf C f = rs) {args : List Value} {A : AW} {S : Value → AW → Prop} (mk : Nat) (hle : Nat.ble args.length nt = true)
  {p e : Code} {id : Nat} {f0 : Operand} {params : Array Tmp} {assign body : Code} (hA : After3 p (.block id (.rangeFunc f0 params assign body)) e c) {t : Tbl} (ht : TOk C t) {tm : Tr Nat} {L d : Nat} (o1 o2 oe : Outs)
  (hpre : run C mk nt L p (lvlT C t tm L d) none (o1.ask A.next) (fun _ => Outs.no.ask A.next) (oe.ask A.next) (sc0 mk args) (tr0 mk args) [] A = okR)
  (hx : ∀ vs ms os, o1.Q vs ms os → ∃ g first captured, ∃ S : Value → AW → Prop, opd mk ⟨[], bT o1.lv vs .nil⟩ f0 = some (.func (.func g) ⟨first⟩ ⟨captured⟩) ∧ hasBody C g = true ∧
   SOk C g (first ++ [.func (.yield ((mkA os).new .defd).next) ⟨[]⟩ ⟨[]⟩] ++ captured) (((mkA os).new .defd).new (.loop .ready none mk ⟨[], bT o1.lv vs .nil⟩ nt params assign body (mkA os).next)) S ∧
   ∀ v A', S v A' → ∃ st', rangeTail ((mkA os).new .defd).next ⟨[], bT o1.lv vs .nil⟩ ((mkA os).next :: ms) A' = .norm st' ∧ o2.ask A.next st'.en.scr st'.en.base st'.marks st'.A = okR)
  (hend : ∀ vs ms os, o2.Q vs ms os → ∃ t, TOk C t ∧ ∃ tm L L' d, run C mk nt L e (lvlT C t tm L' d) none (oe.ask A.next) (fun _ => Outs.no.ask A.next) (oe.ask A.next) [] (bT o2.lv vs .nil) ms (mkA os) = okR)
  (hfin : ∀ vs ms os, oe.Q vs ms os → ∃ v A', finish C mk rs (St.of oe.lv vs ms os) = .ret v A' ∧ S v A') : SOk C f args A S := by
 obtain ⟨fn, h1, h2, h3, h4⟩ : ∃ fn, C.fns.get f = some fn ∧ fn.body = some (bodyOf C f) ∧ fn.ntmps = ntm C f ∧ fn.results.toList = resOf C f := by
  unfold hasBody at hb
  unfold bodyOf ntm resOf
  split at hb
  ·rename_i fn hfn
   split at hb
   ·rename_i c hc
    exact ⟨fn, hfn, by simp only [hfn, hc], by simp only [hfn], by simp only [hfn]⟩
   ·cases hb
  ·cases hb
 have hn' : fn.ntmps = nt := h3.trans hn
 refine callC hC h1 h2 mk (by rw [hn']; exact hle) oe (fun vs ms os hq => by rw [h4, hr]; exact hfin vs ms os hq) fun γ W F k hw hF hro h0 => ?_
 rw [hc, hn']
 refine Reach.after3 hC ht hF hro h0 hA (o1 := o1) (o2 := o2) (fun vs ms os hq => Reach.blockC ?_) (fun vs ms os hq => ?_) hpre
 ·obtain ⟨g, first, captured, S', q1, q2, q3, q4⟩ := hx vs ms os hq
  refine Reach.rangeS hC hF hro q1 q2 q3 fun v A' hS => ?_
  obtain ⟨st', r1, r2⟩ := q4 v A' hS
  exact ⟨st', r1, Outs.ask_use h0 r2⟩
 ·obtain ⟨t, ht, tm, L, L', d, h⟩ := hend vs ms os hq
  exact Reach.segN hC ht hF hro h0 h


theorem callLM {C : Cfg} (hC : C.Ok) {f : Nat} {c : Code} (hb : hasBody C f = true) (hc : bodyOf C f = c) {nt : Nat} (hn : ntm C f = nt) {rs : List ResultVar} (hr : resOf C f = rs) {args : List Value} {A : AW} {S : Value → AW → Prop} (mk : Nat) (hle : Nat.ble args.length nt = true)
  {p a b x e2 e q : Code} {id bb id2 : Nat} (hA : After3 p (.block id (.loop (.seq a (.seq (.block bb (.seq (.seq b (.block id2 (.loop x))) e2)) e)))) q c) {t : Tbl} (ht : TOk C t) {tm : Tr Nat} {L d : Nat}
  (lv : List Nat) (fl : List Fl) (I : Nat → OV → List Nat → OO → Prop) (o2 oe : Outs) (oa : Nat → Outs) (lvi : List Nat) (fli : List Fl) (J : Nat → Nat → OV → List Nat → OO → Prop) (oi ob : Nat → Outs)
  (hpre : run C mk nt L p (lvlT C t tm L d) none (Outs.ask A.next ⟨lv, fl, fun vs ms os => ∃ j, I j vs ms os⟩) (fun _ => Outs.no.ask A.next) (oe.ask A.next) (sc0 mk args) (tr0 mk args) [] A = okR)
  (ha : ∀ j vs ms os, I j vs ms os → ∃ t, TOk C t ∧ ∃ tm L L' d, run C mk nt L a (lvlT C t tm L' d) none ((oa j).ask A.next) (o2.at A.next id) (oe.ask A.next) [] (bT lv vs .nil) ms (mkA os) = okR)
  (hbb : ∀ j vs ms os, (oa j).Q vs ms os → ∃ t, TOk C t ∧ ∃ tm L L' d, run C mk nt L b (lvlT C t tm L' d) none (Outs.ask A.next ⟨lvi, fli, fun vs ms os => ∃ i, J j i vs ms os⟩) (fun _ => Outs.no.ask A.next) (oe.ask A.next) [] (bT (oa j).lv vs .nil) ms (mkA os) = okR)
  (hx : ∀ j i vs ms os, J j i vs ms os → ∃ t, TOk C t ∧ ∃ tm L L' d, run C mk nt L x (lvlT C t tm L' d) none (Outs.ask A.next ⟨lvi, fli, fun vs ms os => ∃ i', i' < i ∧ J j i' vs ms os⟩) ((oi j).at A.next id2) (oe.ask A.next) [] (bT lvi vs .nil) ms (mkA os) = okR)
  (he2 : ∀ j vs ms os, (oi j).Q vs ms os → ∃ t, TOk C t ∧ ∃ tm L L' d, run C mk nt L e2 (lvlT C t tm L' d) none ((ob j).ask A.next) (fun _ => Outs.no.ask A.next) (oe.ask A.next) [] (bT (oi j).lv vs .nil) ms (mkA os) = okR)
  (he : ∀ j vs ms os, (ob j).Q vs ms os → ∃ t, TOk C t ∧ ∃ tm L L' d, run C mk nt L e (lvlT C t tm L' d) none (Outs.ask A.next ⟨lv, fl, fun vs ms os => ∃ j', j' < j ∧ I j' vs ms os⟩) (fun _ => Outs.no.ask A.next) (oe.ask A.next) [] (bT (ob j).lv vs .nil) ms (mkA os) = okR)
  (hend : ∀ vs ms os, o2.Q vs ms os → ∃ t, TOk C t ∧ ∃ tm L L' d, run C mk nt L q (lvlT C t tm L' d) none (oe.ask A.next) (fun _ => Outs.no.ask A.next) (oe.ask A.next) [] (bT o2.lv vs .nil) ms (mkA os) = okR)
  (hfin : ∀ vs ms os, oe.Q vs ms os → ∃ v A', finish C mk rs (St.of oe.lv vs ms os) = .ret v A' ∧ S v A') : SOk C f args A S := by
 obtain ⟨fn, h1, h2, h3, h4⟩ : ∃ fn, C.fns.get f = some fn ∧ fn.body = some (bodyOf C f) ∧ fn.ntmps = ntm C f ∧ fn.results.toList = resOf C f := by
  unfold hasBody at hb
  unfold bodyOf ntm resOf
  split at hb
  ·rename_i fn hfn
   split at hb
   ·rename_i c hc
    exact ⟨fn, hfn, by simp only [hfn, hc], by simp only [hfn], by simp only [hfn]⟩
   ·cases hb
  ·cases hb
 have hn' : fn.ntmps = nt := h3.trans hn
 refine callC hC h1 h2 mk (by rw [hn']; exact hle) oe (fun vs ms os hq => by rw [h4, hr]; exact hfin vs ms os hq) fun γ W F k hw hF hro h0 => ?_
 rw [hc, hn']
 refine Reach.after3 hC ht hF hro h0 hA (o1 := ⟨lv, fl, fun vs ms os => ∃ j, I j vs ms os⟩) (o2 := o2) (fun vs ms os ⟨j, hI⟩ => Reach.blockC (Reach.loopC (lv := lv) (fl := fl) (I := I) (fun j vs ms os hI => ?_) hI)) (fun vs ms os hq => ?_) hpre
 ·obtain ⟨t1, ht1, tm1, L1, L1', d1, hra⟩ := ha j vs ms os hI
  refine Reach.seqC (o1 := oa j) (Reach.segI hC ht1 hF hro h0 (o2 := o2) (if_pos rfl) hra) fun vs ms os hq => ?_
  refine Reach.seqC (o1 := ob j) (Reach.blockC ?_) fun vs ms os hq => ?_
  ·obtain ⟨t2, ht2, tm2, L2, L2', d2, hrb⟩ := hbb j vs ms os hq
   refine Reach.seqC (o1 := oi j) (Reach.seqC (o1 := ⟨lvi, fli, fun vs ms os => ∃ i, J j i vs ms os⟩) (Reach.segN hC ht2 hF hro h0 hrb) fun vs ms os ⟨i, hJ⟩ => ?_) fun vs ms os hq => ?_
   ·exact Reach.blockC (Reach.loopC (lv := lvi) (fl := fli) (I := J j) (fun i vs ms os hJ => by
     obtain ⟨t3, ht3, tm3, L3, L3', d3, hrx⟩ := hx j i vs ms os hJ
     exact Reach.segI hC ht3 hF hro h0 (o2 := oi j) (if_pos rfl) hrx) hJ)
   ·obtain ⟨t6, ht6, tm6, L6, L6', d6, hr6⟩ := he2 j vs ms os hq
    exact Reach.segN hC ht6 hF hro h0 hr6
  ·obtain ⟨t4, ht4, tm4, L4, L4', d4, hre⟩ := he j vs ms os hq
   exact Reach.segN hC ht4 hF hro h0 hre
 ·obtain ⟨t5, ht5, tm5, L5, L5', d5, h⟩ := hend vs ms os hq
  exact Reach.segN hC ht5 hF hro h0 h

end Go.Ev
