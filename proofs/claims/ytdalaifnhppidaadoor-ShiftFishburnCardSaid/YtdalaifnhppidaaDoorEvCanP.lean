/- A function in two pieces, with a canonical state between them. -/
import Derived.Test.YtdalaifnhppidaaDoorEvCanR
import Derived.Test.YtdalaifnhppidaaDoorEvSet
namespace Go.Ev
open Go
set_option linter.unusedVariables false
set_option linter.unusedSimpArgs false

theorem callP {C : Cfg} (hC : C.Ok) {f : Nat} {c : Code} (hb : hasBody C f = true) (hc : bodyOf C f = c) {nt : Nat} (hn : ntm C f = nt) {rs : List ResultVar} (hr : resOf C f = rs) {args : List Value} {A : AW} {S : Value → AW → Prop} (mk : Nat) (hle : Nat.ble args.length nt = true)
  {p q : Code} (hA : After p q c) {t : Tbl} (ht : TOk C t) {tm : Tr Nat} {L d : Nat} (o1 oe : Outs)
  (hpre : run C mk nt L p (lvlT C t tm L d) none (o1.ask A.next) (fun _ => Outs.no.ask A.next) (oe.ask A.next) (sc0 mk args) (tr0 mk args) [] A = okR)
  (hend : ∀ vs ms os, o1.Q vs ms os → ∃ t, TOk C t ∧ ∃ tm L L' d, run C mk nt L q (lvlT C t tm L' d) none (oe.ask A.next) (fun _ => Outs.no.ask A.next) (oe.ask A.next) [] (bT o1.lv vs .nil) ms (mkA os) = okR)
  (hfin : ∀ vs ms os, oe.Q vs ms os → ∃ v A', finish C mk rs (St.of oe.lv vs ms os) = .ret v A' ∧ S v A') : SOk C f args A S := by
 obtain ⟨fn, h1, h2, h3, h4⟩ : ∃ fn, C.fns.get f = some fn ∧ fn.body = some (bodyOf C f) ∧ fn.ntmps = ntm C f ∧ fn.results.toList = resOf C f := by
  unfold hasBody at hb
  unfold bodyOf ntm resOf
  split at hb
  ·rename_i fn hfn
   split at hb
   ·rename_i c hc
    exact ⟨fn, hfn, by simp only [hfn, hc], by simp only [hfn], by simp only [hfn]⟩
   ·cases hb
  ·cases hb
 have hn' : fn.ntmps = nt := h3.trans hn
 refine callC hC h1 h2 mk (by rw [hn']; exact hle) oe (fun vs ms os hq => by rw [h4, hr]; exact hfin vs ms os hq) fun γ W F k hw hF hro h0 => ?_
 rw [hc, hn']
 refine Reach.after hC ht hF hro h0 hA (o1 := o1) (fun vs ms os hq => ?_) hpre
 obtain ⟨t, ht, tm, L, L', d, h⟩ := hend vs ms os hq
 exact Reach.segC hC ht hF hro h0 h


theorem Outs.no_use {γ0 : Gam} {m n : Nat} {W0 : World} {C : Cfg} {n0 : Nat} (h0 : ∀ i, n0 ≤ i → γ0 i = none) {s : List (Nat × Value)} {T : Tr Value} {ms : List Nat} {A : AW} (h : Outs.no.ask n0 s T ms A = okR) : False := by
 obtain ⟨_, _, _, _, hf⟩ := Outs.ask_use (C := C) (m := m) (n := n) (W0 := W0) h0 h
 exact hf

end Go.Ev
