/- What the claim is proved with, part 2: the evaluator and the contracts of the calls. -/
import Derived.Test.YtcgambmcjlighaaDoorPack1
import Derived.Test.YtcgambmcjlighaaDoorEvCanR
import Derived.Test.YtcgambmcjlighaaDoorEvOwn
import Derived.Test.YtcgambmcjlighaaDoorEvRd
import Derived.Test.YtcgambmcjlighaaDoorEvCanP
set_option linter.unusedVariables false
set_option linter.unusedSimpArgs false
set_option maxRecDepth 100000
namespace Go.Proofs
open Go Go.Ev Go.Num
theorem htz_ok (r : Mem) (hm : ∀ b j u, tabM b j = some u → r b j = some u) (s : Nat) (h0 : s ≠ 0) (h : s < 65536) : GrT Tryd.prog r 83 [U (s : Nat)] (I (tzN 64 s : Nat)) :=
 GrT.of (SC_ok r) TOk.nil .nil rfl ⟨2, 4, by
  rw [htzA]
  have c1 : ((s : Int) == Int.ofNat 0) = false := by simp; omega
  have e1 : IntKind.wrap IntKind.u64 (Int.ofNat 0 - (s : Int)) = ((2 ^ 64 - s : Nat) : Int) := by rw [wrU]; simp; omega
  have e2 : ibits BinOp.and IntKind.u64 (s : Int) ((2 ^ 64 - s : Nat) : Int) = ((s &&& (2 ^ 64 - s) : Nat) : Int) := (uO (by omega) (by omega)).2.1
  have ht := tz_16 h h0
  have hc := htzC_all ⟨tzN 64 s, ht⟩
  rw [c1, cond_false, e1, e2, low_pow 64 s (by omega) h0]
  generalize tzN 64 s = t at ht hc
  unfold htzC at hc
  rw [Bool.and_eq_true, Bool.and_eq_true] at hc
  obtain ⟨d1, d2, d3⟩ := hc
  change decide (0 ≤ htzI t) = true at d1
  change (bif decide (0 ≤ htzI t) then bif Nat.blt (Int.toNat (htzI t)) 64 then Option.casesOn (r 0 (Nat.add 0 (Nat.mul (Int.toNat (htzI t)) 1))) (CR.fail 423) fun val => bif isI IntKind.u8 val then CR.ret (Value.int IntKind.i64 (IntKind.wrap IntKind.i64 (ofI val))) (AW.mk 0 Tr.nil Tr.nil) else CR.fail 420 else CR.fail 420 else CR.fail 420) = _
  rw [d1, cond_true, d2, cond_true]
  split at d3
  ·rename_i z hz
   rw [hm _ _ _ hz]
   have hz' : z = (t : Int) := of_decide_eq_true d3
   subst hz'
   show CR.ret (Value.int IntKind.i64 (IntKind.wrap IntKind.i64 (t : Int))) _ = _
   rw [wrI (by omega)]
   rfl
  ·exact nomatch d3⟩
theorem tHw_ok (r : Mem) (hm : ∀ b j u, tabM b j = some u → r b j = some u) : TOk (SC r) tHw := TOk.cons TOk.nil (eU1_ok fun a ha => by
 have h := of_decide_eq_true ha
 have := htz_ok r hm a.toNat (by omega) (by omega)
 rw [show ((a.toNat : Nat) : Int) = a by omega] at this
 exact this)
theorem hskipTo {J : Nat → OO → Prop} {s : Nat} (hskip : ∀ v os, v < 16 → s.testBit v = false → J v os → J (v + 1) os) {os : OO} : ∀ d v, J v os → (∀ i, v ≤ i → i < v + d → s.testBit i = false) → v + d ≤ 16 → J (v + d) os
 | 0, v, h, _, _ => h
 | d + 1, v, h, hb, hd => by
  rw [show v + (d + 1) = v + 1 + d by omega]
  exact hskipTo hskip d (v + 1) (hskip v os (by omega) (hb v (Nat.le_refl _) (by omega)) h) (fun i h1 h2 => hb i (by omega) (by omega)) (by omega)
theorem heach_iter (r : Mem) (hm : ∀ b j u, tabM b j = some u → r b j = some u) {l p : Nat} {fl : List Fl} {s : Nat} (hs : s < 65536) {J : Nat → OO → Prop} {E : OO → Prop} {os0 : OO}
  (hbox : ∃ e f z, (mkA os0).heap.get p = some (.cells [U (s : Nat)] e f z))
  (hskip : ∀ v os, v < 16 → s.testBit v = false → J v os → J (v + 1) os)
  (hY : ∀ v os, v < 16 → s.testBit v = true → J v os → YOk (SC r) l [I (v : Nat)] (mkA os) fun w A' => ∃ os', Cn (mkA os0).next fl A' os' ∧ ((w = .bool true ∧ J (v + 1) os') ∨ (w = .bool false ∧ E os')))
  (hE : ∀ os, J 16 os → E os) (h0 : J 0 os0) (hl : oldV (mkA os0) (fY l) = true) :
  SOk (SC r) 63 [fY l, P0 p] (mkA os0) fun v A' => ∃ os, A' = mkA os ∧ E os := by
 obtain ⟨be, bf, bz, hbox⟩ := hbox
 refine callG (SC_ok r) (by kernel_rfl) ((bodySC r _).trans Hw_eq) (nt := 16) (by kernel_rfl) (rs := []) (by kernel_rfl) 11 rfl fun γ W F k hw hF hro hfr => ?_
 have ht := TOk.nil (C := SC r)
 have hte := tHw_ok r hm
 have old : ∀ t : Nat, ∀ v, some v ∈ [some (fY l), some (U (t : Nat))] → oldV (mkA os0) v = true := fun t v hv => by
  simp only [List.mem_cons, Option.some.injEq, List.not_mem_nil, or_false] at hv
  rcases hv with rfl | rfl
  ·exact hl
  ·rfl
 refine Go.Ev.Reach.seq (Go.Ev.Reach.mono (Go.Ev.Reach.segP (kn := asks fun st => ∃ sx T, st = ⟨⟨sx, T⟩, [], mkA os0⟩ ∧ lvHw.map T.get = [some (fY l), some (U (s : Nat))]) (kx := fun _ _ _ _ _ => .fail 0) (kr := fun _ _ _ _ => .fail 0) (SC_ok r) ht (tm := .nil) (L := 1) (L' := 1) (d := 1) hF hro ?_) fun ex st hq => ?_)
 ·have hn := hwA r l p (mkA os0)
  simp only [hbox, List.getElem?_cons_zero, show isI IntKind.u64 (U (s : Nat)) = true from rfl, show ofI (U (s : Nat)) = ((s : Nat) : Int) from rfl, cond_true] at hn
  exact (hn _ _ _ _).trans (qq_ok ⟨_, _, rfl, rfl⟩)
 ·cases ex with
  | normal =>
   obtain ⟨sx0, T0, e, hT⟩ : ∃ sx T, st = ⟨⟨sx, T⟩, [], mkA os0⟩ ∧ lvHw.map T.get = [some (fY l), some (U (s : Nat))] := qq_use hq
   subst e
   refine Go.Ev.Reach.block (Go.Ev.Reach.loop (I := fun j st => ∃ v os, j = 16 - v ∧ v ≤ 16 ∧ J v os ∧ Ren (SC r) 11 16 γ W st ⟨⟨[], tHb l (hiN s v : Nat)⟩, [], mkA os⟩) (fun j st ⟨v, os, hj, hv, hJ, hren⟩ => Go.Ev.Reach.pre hren ?_) (j := 16) ⟨0, os0, rfl, by decide, h0, by
    rw [hi_zero]
    exact Ren.world hw (lv := lvHw) (vs := [some (fY l), some (U (s : Nat))]) hT (old _) (RenA.refl _)⟩)
   have hhi : hiN s v < 65536 := Nat.lt_of_le_of_lt (hi_le s v) hs
   refine Go.Ev.Reach.seq (Go.Ev.Reach.mono (Go.Ev.Reach.segP (kn := asks fun st => hiN s v ≠ 0 ∧ ∃ sx, st = ⟨⟨sx, tHb l (hiN s v : Nat)⟩, [], mkA os⟩) (kx := fun i => match i with | 0 => asks fun st => hiN s v = 0 ∧ ∃ sx T, st = ⟨⟨sx, T⟩, [], mkA os⟩ | _ => fun _ _ _ _ => .fail 0) (kr := fun _ _ _ _ => .fail 0) (SC_ok r) ht (tm := .nil) (L := 1) (L' := 1) (d := 1) hF hro ?_) fun ex st hq => ?_)
   ·have hn := hwB r l (hiN s v : Nat) (mkA os)
    by_cases c : hiN s v = 0
    ·have ne : (((hiN s v : Nat) : Int) != Int.ofNat 0) = false := by simp [c]
     simp only [ne, cond_false] at hn
     exact (hn _ _ _ _).trans (qq_ok ⟨c, _, _, rfl⟩)
    ·have ne : (((hiN s v : Nat) : Int) != Int.ofNat 0) = true := by simp [c]
     simp only [ne, cond_true] at hn
     exact (hn _ _ _ _).trans (qq_ok ⟨c, _, rfl⟩)
   ·cases ex with
    | exit i =>
     cases i with
     | zero =>
      obtain ⟨c, sx, T, e⟩ : hiN s v = 0 ∧ ∃ sx T, st = ⟨⟨sx, T⟩, [], mkA os⟩ := qq_use hq
      subst e
      have hE' : E os := hE os (by
       have := hskipTo hskip (16 - v) v hJ (fun i h1 _ => hi_none c h1) (by omega)
       rwa [show v + (16 - v) = 16 by omega] at this)
      exact ⟨.inl rfl, _, .tuple ⟨[]⟩, mkA os, Ren.world hw (lv := []) (vs := []) rfl (fun v hv => nomatch hv) (RenA.refl _), rfl, os, rfl, hE'⟩
     | succ i => cases hq
    | normal =>
     obtain ⟨c, sx, e⟩ : hiN s v ≠ 0 ∧ ∃ sx, st = ⟨⟨sx, tHb l (hiN s v : Nat)⟩, [], mkA os⟩ := qq_use hq
     subst e
     obtain ⟨n1, n2, n3, n4, n5⟩ := hi_next (b := 64) (s := s) (v := v) (by omega) c
     have ht16 := tz_16 hhi c
     have e6 : m_tw ((hiN s v : Nat) : Int) = ((tzN 64 (hiN s v) : Nat) : Int) := by unfold m_tw; rw [Int.toNat_natCast]
     have hJt : J (tzN 64 (hiN s v)) os := by
      have := hskipTo hskip (tzN 64 (hiN s v) - v) v hJ (fun i h1 h2 => n4 i h1 (by omega)) (by omega)
      rwa [show v + (tzN 64 (hiN s v) - v) = tzN 64 (hiN s v) by omega] at this
     have e7 : ibits .and .u64 ((hiN s v : Nat) : Int) (IntKind.wrap .u64 (((hiN s v : Nat) : Int) - Int.ofNat 1)) = ((hiN s (tzN 64 (hiN s v) + 1) : Nat) : Int) := by
      have : IntKind.wrap .u64 (((hiN s v : Nat) : Int) - Int.ofNat 1) = ((hiN s v - 1 : Nat) : Int) := by rw [wrU]; simp; omega
      rw [this, (uO (by omega) (by omega)).2.1, n5]
     generalize htz : tzN 64 (hiN s v) = t at *
     let Pn : St → Prop := fun st => ∃ sx A', st = ⟨⟨sx, tHb l (hiN s (t + 1) : Nat)⟩, [], A'⟩ ∧ ∃ os', Cn (mkA os0).next fl A' os' ∧ J (t + 1) os'
     let Pr : St → Prop := fun st => ∃ sx T A', st = ⟨⟨sx, T⟩, [], A'⟩ ∧ ∃ os', Cn (mkA os0).next fl A' os' ∧ E os'
     refine Go.Ev.Reach.mono (Go.Ev.Reach.first (kn := asks Pn) (kx := fun _ _ _ _ _ => .fail 0) (kr := asks Pr) (SC_ok r) hte (tm := .nil) (L := 1) (L' := 1) (d := 2) hF hro (.seq (.block (.seq .here))) (Go.Ev.Reach.yieldK (SC_ok r) hF hte (tm := .nil) (L := 1) (d := 2) 3 (s1 := [(13, I (t : Nat)), (12, U (hiN s v : Nat)), (11, fY l)]) (b1 := tHb l (hiN s v : Nat)) (ms1 := []) (A1 := mkA os) (A2 := mkA os) (i := l) (args := [I (t : Nat)]) ?_ (by kernel_rfl) (hY t os ht16 n3 hJt) fun w A' hS => ?_)) fun ex st' hq => ?_
     ·have hn := hwC r l (hiN s v : Nat) (mkA os)
      have c2 : m_twG ((hiN s v : Nat) : Int) = true := decide_eq_true ⟨by omega, by omega⟩
      simp only [c2, cond_true, e6] at hn
      exact (hn _).trans (qn_ok rfl)
     ·obtain ⟨os', hcn, hv⟩ := hS
      rcases hv with ⟨rfl, hJ'⟩ | ⟨rfl, hE'⟩
      ·have hn := hwD r l (hiN s v : Nat) (t : Nat) true A'
       simp only [cond_true, e7] at hn
       exact (hn _ _ _ _).trans (qq_ok ⟨_, _, rfl, os', hcn, hJ'⟩)
      ·have hn := hwD r l (hiN s v : Nat) (t : Nat) false A'
       simp only [cond_false] at hn
       exact (hn _ _ _ _).trans (qq_ok ⟨_, _, _, rfl, os', hcn, hE'⟩)
     ·cases ex with
      | normal =>
       obtain ⟨sx, A', e, os', hcn, hJ'⟩ : Pn st' := qq_use hq
       subst e
       exact ⟨16 - (t + 1), by omega, t + 1, os', rfl, by omega, hJ', Ren.world hw (lv := lvHw) (vs := [some (fY l), some (U (hiN s (t + 1) : Nat))]) rfl (old _) (hcn.ren hfr)⟩
      | ret =>
       obtain ⟨sx, T, A', e, os', hcn, hE'⟩ : Pr st' := qq_use hq
       subst e
       exact ⟨.inr rfl, _, .tuple ⟨[]⟩, mkA os', Ren.world hw (lv := []) (vs := []) rfl (fun v hv => nomatch hv) (hcn.ren hfr), rfl, os', rfl, hE'⟩
      | exit i => cases hq
      | _ => exact hq.elim
    | ret => cases hq
    | _ => exact hq.elim
  | exit i => cases hq
  | ret => cases hq
  | _ => exact hq.elim
end Go.Proofs
namespace Go.Num
def oN1 (x : Nat) : Nat := ((x / 2) &&& 6148914691236517205) + (x &&& 6148914691236517205)
def oN2 (x : Nat) : Nat := ((x / 4) &&& 3689348814741910323) + (x &&& 3689348814741910323)
def oN3 (x : Nat) : Nat := (x / 16 + x) &&& 1085102592571150095
def oN4 (x : Nat) : Nat := x + x / 256
def oN5 (x : Nat) : Nat := x + x / 65536
def oN6 (x : Nat) : Nat := x + x / 4294967296
def c1 (x : Nat) : Nat := ((x / 2) &&& 85) + (x &&& 85)
def c2 (x : Nat) : Nat := ((x / 4) &&& 51) + (x &&& 51)
def c3 (x : Nat) : Nat := (x / 16 + x) &&& 15
end Go.Num
namespace Go.Proofs
open Go Go.Ev Go.Num
end Go.Proofs
namespace Go.Proofs
open Go Go.Ev Go.Num
noncomputable def cHr : Code := bodyOf S0 22
noncomputable def Hr_0 : Code := (lc cHr)
noncomputable def Hr_1 : Code := (lc (rc cHr))
noncomputable def Hr_2 : Code := (lc (rc (rc cHr)))
noncomputable def Hr_3 : Code := (lc (lc (rc (rc (rc cHr)))))
noncomputable def Hr_4 : Code := (ic (ic (rc (lc (rc (rc (rc cHr)))))))
noncomputable def Hr_5 : Code := (rc (rc (rc (rc cHr))))
theorem Hr_eq : cHr = (.seq Hr_0 (.seq Hr_1 (.seq Hr_2 (.seq (.seq Hr_3 (.block 0 (.loop Hr_4))) Hr_5)))) := by kernel_rfl
def lvHr : List Nat := [4, 7, 20, 21, 22]
def resH : List Value := I 0 :: List.replicate 16 (U 0) ++ [.slice none 0 0]
def tHr : Tbl := tcons 36 (eI1 m_vG fun v => U (m_bit v)) fun _ => none
noncomputable def tHc (a0 : List Value) (e : Int) : Tbl := tcons 35 (entV a0 (I e)) fun _ => none
theorem hsnA (r : Mem) (v : Int) : (lvlT (SC r) (fun _ => none) .nil 1 3).call 36 [I v] emptyA fin =
    bif !decide (v < 0) then .ret (U (IntKind.wrap .u64 (Int.ofNat 1 * Int.ofNat 2 ^ min (Int.toNat v) 64))) (AW.mk 0 .nil .nil) else .fail 420 := by kernel_rfl
theorem hrA (r : Mem) (n e : Int) (b off len cap : Nat) (K : OV → List Nat → OO → CR) (kx : Nat → KS) (KR : OV → List Nat → OO → CR) : run (SC r) 7341811 61 1 (.seq Hr_0 (.seq Hr_1 (.seq Hr_2 Hr_3))) (lvlT (SC r) (tHc [I n, RS2 b off len cap] e) .nil 1 1) none (rbK 0 lvHr [.t, .t] K) kx (rbK 0 [4, 5] [.t] KR) (sc0 7341811 [I n, RS2 b off len cap]) (tr0 7341811 [I n, RS2 b off len cap]) [] emptyA =
    bif m_same [I n, .slice (some ⟨b, off, some 0⟩) len cap] [I n, .slice (some ⟨b, off, some 0⟩) len cap] then bif e != Int.ofNat 0 then KR [some (.pointer (some ⟨0, 0, none⟩)), some (I e)] [] [some (.cells [I (Int.ofNat 0), U (Int.ofNat 0), U (Int.ofNat 0), U (Int.ofNat 0), U (Int.ofNat 0), U (Int.ofNat 0), U (Int.ofNat 0), U (Int.ofNat 0), U (Int.ofNat 0), U (Int.ofNat 0), U (Int.ofNat 0), U (Int.ofNat 0), U (Int.ofNat 0), U (Int.ofNat 0), U (Int.ofNat 0), U (Int.ofNat 0), U (Int.ofNat 0), .slice none 0 0] 59 0 0)] else K [some (.pointer (some ⟨0, 0, none⟩)), some (.pointer (some ⟨1, 0, none⟩)), some (.slice (some ⟨b, off, some 0⟩) len cap), some (I (Int.ofNat len)), some (I (Int.ofNat 0))] [] [some (.cells [I (Int.ofNat 0), U (Int.ofNat 0), U (Int.ofNat 0), U (Int.ofNat 0), U (Int.ofNat 0), U (Int.ofNat 0), U (Int.ofNat 0), U (Int.ofNat 0), U (Int.ofNat 0), U (Int.ofNat 0), U (Int.ofNat 0), U (Int.ofNat 0), U (Int.ofNat 0), U (Int.ofNat 0), U (Int.ofNat 0), U (Int.ofNat 0), U (Int.ofNat 0), .slice none 0 0] 59 0 0), some (.cells [I n, U (Int.ofNat 0), U (Int.ofNat 0), U (Int.ofNat 0), U (Int.ofNat 0), U (Int.ofNat 0), U (Int.ofNat 0), U (Int.ofNat 0), U (Int.ofNat 0), U (Int.ofNat 0), U (Int.ofNat 0), U (Int.ofNat 0), U (Int.ofNat 0), U (Int.ofNat 0), U (Int.ofNat 0), U (Int.ofNat 0), U (Int.ofNat 0), .slice none 0 0] 59 1 0)] else .fail 420 := by kernel_rfl
theorem hrB1 (r : Mem) (n : Int) (b off len cap : Nat) (i : Int) (z0 z1 z2 z3 z4 z5 z6 z7 z8 z9 z10 z11 z12 z13 z14 z15 : Int) (kn : KS) (KX : Nat → OV → List Nat → OO → CR) (kr : KS) : run (SC r) 7341811 61 1 Hr_4 (lvlT (SC r) tHr .nil 1 1) none kn (fun i => rbK 0 lvHr [.t, .t] (KX i)) kr [] (bT lvHr [some (P0 0), some (P0 1), some (RS2 b off len cap), some (I (len : Nat)), some (I i)] .nil) [] (mkA [some (.cells resH 59 0 0), some (.cells [I n, U z0, U z1, U z2, U z3, U z4, U z5, U z6, U z7, U z8, U z9, U z10, U z11, U z12, U z13, U z14, U z15, .slice none 0 0] 59 1 0)]) =
    bif decide (i < Int.ofNat len) then bif decide (0 ≤ i) then bif Nat.blt (Int.toNat i) len then Option.casesOn (r b (Nat.add off (Nat.mul (Int.toNat i) 2))) (.fail 423) fun val => bif isI IntKind.i64 val then Option.casesOn (r b (Nat.succ (Nat.add off (Nat.mul (Int.toNat i) 2)))) (.fail 423) fun val_1 => bif isI IntKind.i64 val_1 then bif decide (0 ≤ ofI val) then bif Nat.blt (Int.toNat (ofI val)) 16 then Option.casesOn [I n, U z0, U z1, U z2, U z3, U z4, U z5, U z6, U z7, U z8, U z9, U z10, U z11, U z12, U z13, U z14, U z15, .slice (some ⟨5, 0, none⟩) 1 unk][Nat.add 1 (Nat.mul (Int.toNat (ofI val)) 1)]? (.fail 423) fun val_2 => bif isI IntKind.u64 val_2 then bif m_vG (ofI val_1) then bif decide (0 ≤ ofI val) then bif Nat.blt (Int.toNat (ofI val)) 16 then bif Nat.blt (Nat.add 1 (Nat.mul (Int.toNat (ofI val)) 1)) (List.length [I n, U z0, U z1, U z2, U z3, U z4, U z5, U z6, U z7, U z8, U z9, U z10, U z11, U z12, U z13, U z14, U z15, .slice (some ⟨5, 0, none⟩) 1 unk]) then bif m_eqv (I (ofI val_1)) (I (ofI val_1)) then Option.casesOn [I n, U z0, U z1, U z2, U z3, U z4, U z5, U z6, U z7, U z8, U z9, U z10, U z11, U z12, U z13, U z14, U z15, .slice (some ⟨5, 0, none⟩) 1 unk][Nat.add 1 (Nat.mul (Int.toNat (ofI val)) 1)]? (.fail 423) fun val_3 => bif isI IntKind.u64 val_3 then bif m_eqv (U (ofI val_3)) (U (ofI val_2)) then Option.casesOn [I n, U z0, U z1, U z2, U z3, U z4, U z5, U z6, U z7, U z8, U z9, U z10, U z11, U z12, U z13, U z14, U z15, .slice (some ⟨5, 0, none⟩) 1 unk][Nat.add 1 (Nat.mul (Int.toNat (ofI val)) 1)]? (.fail 423) fun val_4 => bif isI IntKind.u64 val_4 then bif m_eqv (U (ofI val_4)) (U (ofI val_2)) then bif m_eqv (I (ofI val)) (I (ofI val)) then bif m_eqv (I (ofI val)) (I (ofI val)) then bif decide (0 ≤ ofI val_1) then bif Nat.blt (Int.toNat (ofI val_1)) 16 then Option.casesOn (List.set [I n, U z0, U z1, U z2, U z3, U z4, U z5, U z6, U z7, U z8, U z9, U z10, U z11, U z12, U z13, U z14, U z15, .slice (some ⟨5, 0, none⟩) 1 unk] (Nat.add 1 (Nat.mul (Int.toNat (ofI val)) 1)) (U (ibits BinOp.or IntKind.u64 (ofI val_2) (m_bit (ofI val_1)))))[Nat.add 1 (Nat.mul (Int.toNat (ofI val_1)) 1)]? (.fail 423) fun val_5 => bif isI IntKind.u64 val_5 then bif m_vG (ofI val) then bif decide (0 ≤ ofI val_1) then bif Nat.blt (Int.toNat (ofI val_1)) 16 then bif Nat.blt (Nat.add 1 (Nat.mul (Int.toNat (ofI val_1)) 1)) (List.length (List.set [I n, U z0, U z1, U z2, U z3, U z4, U z5, U z6, U z7, U z8, U z9, U z10, U z11, U z12, U z13, U z14, U z15, .slice (some ⟨5, 0, none⟩) 1 unk] (Nat.add 1 (Nat.mul (Int.toNat (ofI val)) 1)) (U (ibits BinOp.or IntKind.u64 (ofI val_2) (m_bit (ofI val_1)))))) then bif m_eqv (I (ofI val)) (I (ofI val)) then Option.casesOn (List.set [I n, U z0, U z1, U z2, U z3, U z4, U z5, U z6, U z7, U z8, U z9, U z10, U z11, U z12, U z13, U z14, U z15, .slice (some ⟨5, 0, none⟩) 1 unk] (Nat.add 1 (Nat.mul (Int.toNat (ofI val)) 1)) (U (ibits BinOp.or IntKind.u64 (ofI val_2) (m_bit (ofI val_1)))))[Nat.add 1 (Nat.mul (Int.toNat (ofI val_1)) 1)]? (.fail 423) fun val_6 => bif isI IntKind.u64 val_6 then bif m_eqv (U (ofI val_6)) (U (ofI val_5)) then Option.casesOn (List.set [I n, U z0, U z1, U z2, U z3, U z4, U z5, U z6, U z7, U z8, U z9, U z10, U z11, U z12, U z13, U z14, U z15, .slice (some ⟨5, 0, none⟩) 1 unk] (Nat.add 1 (Nat.mul (Int.toNat (ofI val)) 1)) (U (ibits BinOp.or IntKind.u64 (ofI val_2) (m_bit (ofI val_1)))))[Nat.add 1 (Nat.mul (Int.toNat (ofI val_1)) 1)]? (.fail 423) fun val_7 => bif isI IntKind.u64 val_7 then bif m_eqv (U (ofI val_7)) (U (ofI val_5)) then bif m_eqv (I (ofI val_1)) (I (ofI val_1)) then bif m_eqv (I (ofI val_1)) (I (ofI val_1)) then kn [(59, I (IntKind.wrap .i64 (i + Int.ofNat 1)))] (.node (.node (.node (.node .nil (some (.pointer (some ⟨1, 0, none⟩))) .nil) none .nil) none (.node (.node .nil (some (.pointer (some ⟨2, 0, none⟩))) .nil) none (.node (.node .nil (some (I (Int.ofNat len))) .nil) none .nil))) none (.node (.node .nil (some (.pointer (some ⟨0, 0, none⟩))) (.node (.node .nil (some (.slice (some ⟨b, off, some 0⟩) len cap)) .nil) none .nil)) none (.node (.node .nil (some (.pointer (some ⟨3, 0, none⟩))) .nil) none (.node (.node .nil (some (I (IntKind.wrap .i64 (i + Int.ofNat 1)))) .nil) none .nil)))) [] (AW.mk 6 (.node (.node (.node .nil (some (.cells [I (ofI val), I (ofI val_1)] 80 3 0)) .nil) (some (.cells (List.set (List.set [I n, U z0, U z1, U z2, U z3, U z4, U z5, U z6, U z7, U z8, U z9, U z10, U z11, U z12, U z13, U z14, U z15, .slice (some ⟨5, 0, none⟩) 1 unk] (Nat.add 1 (Nat.mul (Int.toNat (ofI val)) 1)) (U (ibits BinOp.or IntKind.u64 (ofI val_2) (m_bit (ofI val_1))))) (Nat.add 1 (Nat.mul (Int.toNat (ofI val_1)) 1)) (U (ibits BinOp.or IntKind.u64 (ofI val_5) (m_bit (ofI val))))) 59 1 0)) (.node .nil (some (.cells [I (ofI val), I (ofI val_1)] 80 5 2)) .nil)) (some (.cells [I (Int.ofNat 0), U (Int.ofNat 0), U (Int.ofNat 0), U (Int.ofNat 0), U (Int.ofNat 0), U (Int.ofNat 0), U (Int.ofNat 0), U (Int.ofNat 0), U (Int.ofNat 0), U (Int.ofNat 0), U (Int.ofNat 0), U (Int.ofNat 0), U (Int.ofNat 0), U (Int.ofNat 0), U (Int.ofNat 0), U (Int.ofNat 0), U (Int.ofNat 0), .slice none 0 0] 59 0 0)) (.node (.node .nil (some (.cells [I (ofI val), I (ofI val_1)] 80 4 2)) .nil) (some (.cells [I (ofI val), I (ofI val_1)] 52 2 0)) .nil)) .nil) else .fail 420 else .fail 420 else .fail 420 else .fail 420 else .fail 420 else .fail 420 else .fail 420 else .fail 420 else .fail 420 else .fail 420 else .fail 420 else .fail 420 else .fail 420 else .fail 420 else .fail 420 else .fail 420 else .fail 420 else .fail 420 else .fail 420 else .fail 420 else .fail 420 else .fail 420 else .fail 420 else .fail 420 else .fail 420 else .fail 420 else .fail 420 else .fail 420 else .fail 420 else .fail 420 else .fail 420 else .fail 420 else KX 0 [some (.pointer (some ⟨0, 0, none⟩)), some (.pointer (some ⟨1, 0, none⟩)), some (.slice (some ⟨b, off, some 0⟩) len cap), some (I (Int.ofNat len)), some (I i)] [] [some (.cells [I (Int.ofNat 0), U (Int.ofNat 0), U (Int.ofNat 0), U (Int.ofNat 0), U (Int.ofNat 0), U (Int.ofNat 0), U (Int.ofNat 0), U (Int.ofNat 0), U (Int.ofNat 0), U (Int.ofNat 0), U (Int.ofNat 0), U (Int.ofNat 0), U (Int.ofNat 0), U (Int.ofNat 0), U (Int.ofNat 0), U (Int.ofNat 0), U (Int.ofNat 0), .slice none 0 0] 59 0 0), some (.cells [I n, U z0, U z1, U z2, U z3, U z4, U z5, U z6, U z7, U z8, U z9, U z10, U z11, U z12, U z13, U z14, U z15, .slice none 0 0] 59 1 0)] := by kernel_rfl
theorem hrB2 (r : Mem) (n : Int) (b off len cap : Nat) (i : Int) (z0 z1 z2 z3 z4 z5 z6 z7 z8 z9 z10 z11 z12 z13 z14 z15 : Int) (m : Nat) (c : List Value) (kn : KS) (KX : Nat → OV → List Nat → OO → CR) (kr : KS) : run (SC r) 7341811 61 1 Hr_4 (lvlT (SC r) tHr .nil 1 1) none kn (fun i => rbK 0 lvHr [.t, .t] (KX i)) kr [] (bT lvHr [some (P0 0), some (P0 1), some (RS2 b off len cap), some (I (len : Nat)), some (I i)] .nil) [] (mkA [some (.cells resH 59 0 0), some (.cells [I n, U z0, U z1, U z2, U z3, U z4, U z5, U z6, U z7, U z8, U z9, U z10, U z11, U z12, U z13, U z14, U z15, .slice (some ⟨2, 0, none⟩) m unk] 59 1 0), some (.cells c 80 2 2)]) =
    bif decide (i < Int.ofNat len) then bif decide (0 ≤ i) then bif Nat.blt (Int.toNat i) len then Option.casesOn (r b (Nat.add off (Nat.mul (Int.toNat i) 2))) (.fail 423) fun val => bif isI IntKind.i64 val then Option.casesOn (r b (Nat.succ (Nat.add off (Nat.mul (Int.toNat i) 2)))) (.fail 423) fun val_1 => bif isI IntKind.i64 val_1 then bif Nat.ble (Nat.add m 1) 1000000 then Option.casesOn (takeAt c 0 (Nat.mul m 2)) (.fail 439) fun val_2 => bif decide (0 ≤ ofI val) then bif Nat.blt (Int.toNat (ofI val)) 16 then Option.casesOn [I n, U z0, U z1, U z2, U z3, U z4, U z5, U z6, U z7, U z8, U z9, U z10, U z11, U z12, U z13, U z14, U z15, .slice (some ⟨6, 0, none⟩) (Nat.add m 1) unk][Nat.add 1 (Nat.mul (Int.toNat (ofI val)) 1)]? (.fail 423) fun val_3 => bif isI IntKind.u64 val_3 then bif m_vG (ofI val_1) then bif decide (0 ≤ ofI val) then bif Nat.blt (Int.toNat (ofI val)) 16 then bif Nat.blt (Nat.add 1 (Nat.mul (Int.toNat (ofI val)) 1)) (List.length [I n, U z0, U z1, U z2, U z3, U z4, U z5, U z6, U z7, U z8, U z9, U z10, U z11, U z12, U z13, U z14, U z15, .slice (some ⟨6, 0, none⟩) (Nat.add m 1) unk]) then bif m_eqv (I (ofI val_1)) (I (ofI val_1)) then Option.casesOn [I n, U z0, U z1, U z2, U z3, U z4, U z5, U z6, U z7, U z8, U z9, U z10, U z11, U z12, U z13, U z14, U z15, .slice (some ⟨6, 0, none⟩) (Nat.add m 1) unk][Nat.add 1 (Nat.mul (Int.toNat (ofI val)) 1)]? (.fail 423) fun val_4 => bif isI IntKind.u64 val_4 then bif m_eqv (U (ofI val_4)) (U (ofI val_3)) then Option.casesOn [I n, U z0, U z1, U z2, U z3, U z4, U z5, U z6, U z7, U z8, U z9, U z10, U z11, U z12, U z13, U z14, U z15, .slice (some ⟨6, 0, none⟩) (Nat.add m 1) unk][Nat.add 1 (Nat.mul (Int.toNat (ofI val)) 1)]? (.fail 423) fun val_5 => bif isI IntKind.u64 val_5 then bif m_eqv (U (ofI val_5)) (U (ofI val_3)) then bif m_eqv (I (ofI val)) (I (ofI val)) then bif m_eqv (I (ofI val)) (I (ofI val)) then bif decide (0 ≤ ofI val_1) then bif Nat.blt (Int.toNat (ofI val_1)) 16 then Option.casesOn (List.set [I n, U z0, U z1, U z2, U z3, U z4, U z5, U z6, U z7, U z8, U z9, U z10, U z11, U z12, U z13, U z14, U z15, .slice (some ⟨6, 0, none⟩) (Nat.add m 1) unk] (Nat.add 1 (Nat.mul (Int.toNat (ofI val)) 1)) (U (ibits BinOp.or IntKind.u64 (ofI val_3) (m_bit (ofI val_1)))))[Nat.add 1 (Nat.mul (Int.toNat (ofI val_1)) 1)]? (.fail 423) fun val_6 => bif isI IntKind.u64 val_6 then bif m_vG (ofI val) then bif decide (0 ≤ ofI val_1) then bif Nat.blt (Int.toNat (ofI val_1)) 16 then bif Nat.blt (Nat.add 1 (Nat.mul (Int.toNat (ofI val_1)) 1)) (List.length (List.set [I n, U z0, U z1, U z2, U z3, U z4, U z5, U z6, U z7, U z8, U z9, U z10, U z11, U z12, U z13, U z14, U z15, .slice (some ⟨6, 0, none⟩) (Nat.add m 1) unk] (Nat.add 1 (Nat.mul (Int.toNat (ofI val)) 1)) (U (ibits BinOp.or IntKind.u64 (ofI val_3) (m_bit (ofI val_1)))))) then bif m_eqv (I (ofI val)) (I (ofI val)) then Option.casesOn (List.set [I n, U z0, U z1, U z2, U z3, U z4, U z5, U z6, U z7, U z8, U z9, U z10, U z11, U z12, U z13, U z14, U z15, .slice (some ⟨6, 0, none⟩) (Nat.add m 1) unk] (Nat.add 1 (Nat.mul (Int.toNat (ofI val)) 1)) (U (ibits BinOp.or IntKind.u64 (ofI val_3) (m_bit (ofI val_1)))))[Nat.add 1 (Nat.mul (Int.toNat (ofI val_1)) 1)]? (.fail 423) fun val_7 => bif isI IntKind.u64 val_7 then bif m_eqv (U (ofI val_7)) (U (ofI val_6)) then Option.casesOn (List.set [I n, U z0, U z1, U z2, U z3, U z4, U z5, U z6, U z7, U z8, U z9, U z10, U z11, U z12, U z13, U z14, U z15, .slice (some ⟨6, 0, none⟩) (Nat.add m 1) unk] (Nat.add 1 (Nat.mul (Int.toNat (ofI val)) 1)) (U (ibits BinOp.or IntKind.u64 (ofI val_3) (m_bit (ofI val_1)))))[Nat.add 1 (Nat.mul (Int.toNat (ofI val_1)) 1)]? (.fail 423) fun val_8 => bif isI IntKind.u64 val_8 then bif m_eqv (U (ofI val_8)) (U (ofI val_6)) then bif m_eqv (I (ofI val_1)) (I (ofI val_1)) then bif m_eqv (I (ofI val_1)) (I (ofI val_1)) then kn [(59, I (IntKind.wrap .i64 (i + Int.ofNat 1)))] (.node (.node (.node (.node .nil (some (.pointer (some ⟨1, 0, none⟩))) .nil) none .nil) none (.node (.node .nil (some (.pointer (some ⟨3, 0, none⟩))) .nil) none (.node (.node .nil (some (I (Int.ofNat len))) .nil) none .nil))) none (.node (.node .nil (some (.pointer (some ⟨0, 0, none⟩))) (.node (.node .nil (some (.slice (some ⟨b, off, some 0⟩) len cap)) .nil) none .nil)) none (.node (.node .nil (some (.pointer (some ⟨4, 0, none⟩))) .nil) none (.node (.node .nil (some (I (IntKind.wrap .i64 (i + Int.ofNat 1)))) .nil) none .nil)))) [] (AW.mk 7 (.node (.node (.node .nil (some (.cells [I (ofI val), I (ofI val_1)] 52 3 0)) .nil) (some (.cells (List.set (List.set [I n, U z0, U z1, U z2, U z3, U z4, U z5, U z6, U z7, U z8, U z9, U z10, U z11, U z12, U z13, U z14, U z15, .slice (some ⟨6, 0, none⟩) (Nat.add m 1) unk] (Nat.add 1 (Nat.mul (Int.toNat (ofI val)) 1)) (U (ibits BinOp.or IntKind.u64 (ofI val_3) (m_bit (ofI val_1))))) (Nat.add 1 (Nat.mul (Int.toNat (ofI val_1)) 1)) (U (ibits BinOp.or IntKind.u64 (ofI val_6) (m_bit (ofI val))))) 59 1 0)) (.node .nil (some (.cells [I (ofI val), I (ofI val_1)] 80 5 2)) .nil)) (some (.cells [I (Int.ofNat 0), U (Int.ofNat 0), U (Int.ofNat 0), U (Int.ofNat 0), U (Int.ofNat 0), U (Int.ofNat 0), U (Int.ofNat 0), U (Int.ofNat 0), U (Int.ofNat 0), U (Int.ofNat 0), U (Int.ofNat 0), U (Int.ofNat 0), U (Int.ofNat 0), U (Int.ofNat 0), U (Int.ofNat 0), U (Int.ofNat 0), U (Int.ofNat 0), .slice none 0 0] 59 0 0)) (.node (.node .nil (some (.cells [I (ofI val), I (ofI val_1)] 80 4 0)) .nil) none (.node .nil (some (.cells (val_2 ++ [I (ofI val), I (ofI val_1)]) 80 2 2)) .nil))) (.node .nil none (.node .nil (some [6]) .nil))) else .fail 420 else .fail 420 else .fail 420 else .fail 420 else .fail 420 else .fail 420 else .fail 420 else .fail 420 else .fail 420 else .fail 420 else .fail 420 else .fail 420 else .fail 420 else .fail 420 else .fail 420 else .fail 420 else .fail 420 else .fail 420 else .fail 420 else .fail 420 else .fail 420 else .fail 420 else .fail 420 else .fail 420 else .fail 420 else .fail 420 else .fail 420 else .fail 420 else .fail 420 else .fail 420 else .fail 420 else .fail 420 else .fail 420 else bif true && (true && (m_nns c && true)) then KX 0 [some (.pointer (some ⟨0, 0, none⟩)), some (.pointer (some ⟨1, 0, none⟩)), some (.slice (some ⟨b, off, some 0⟩) len cap), some (I (Int.ofNat len)), some (I i)] [] [some (.cells [I (Int.ofNat 0), U (Int.ofNat 0), U (Int.ofNat 0), U (Int.ofNat 0), U (Int.ofNat 0), U (Int.ofNat 0), U (Int.ofNat 0), U (Int.ofNat 0), U (Int.ofNat 0), U (Int.ofNat 0), U (Int.ofNat 0), U (Int.ofNat 0), U (Int.ofNat 0), U (Int.ofNat 0), U (Int.ofNat 0), U (Int.ofNat 0), U (Int.ofNat 0), .slice none 0 0] 59 0 0), some (.cells [I n, U z0, U z1, U z2, U z3, U z4, U z5, U z6, U z7, U z8, U z9, U z10, U z11, U z12, U z13, U z14, U z15, .slice (some ⟨2, 0, none⟩) m unk] 59 1 0), some (.cells c 80 2 2)] else .fail 420 := by kernel_rfl
end Go.Proofs
namespace Go.Proofs
open Go Go.Ev Go.Num
def m_hg (n : Int) (zs : List Int) (e : Value) : List Value := I n :: (zs.map U ++ [e])
theorem hg_lit (n z0 z1 z2 z3 z4 z5 z6 z7 z8 z9 z10 z11 z12 z13 z14 z15 : Int) (e : Value) : [I n, U z0, U z1, U z2, U z3, U z4, U z5, U z6, U z7, U z8, U z9, U z10, U z11, U z12, U z13, U z14, U z15, e] = m_hg n [z0, z1, z2, z3, z4, z5, z6, z7, z8, z9, z10, z11, z12, z13, z14, z15] e := rfl
theorem hg_get {n : Int} {zs : List Int} {e : Value} {k : Nat} (h : k < zs.length) : (m_hg n zs e)[Nat.add 1 (Nat.mul k 1)]? = some (U (zs.getD k 0)) := by
 rw [show Nat.add 1 (Nat.mul k 1) = k + 1 by simp [Nat.add_comm], List.getD_eq_getElem?_getD, List.getElem?_eq_getElem h]
 simp only [m_hg, List.getElem?_cons_succ, Option.getD_some]
 rw [List.getElem?_append_left (by simpa using h), List.getElem?_map, List.getElem?_eq_getElem h]
 rfl
theorem hg_set {n : Int} {zs : List Int} {e : Value} {k : Nat} (h : k < zs.length) (z : Int) : (m_hg n zs e).set (Nat.add 1 (Nat.mul k 1)) (U z) = m_hg n (zs.set k z) e := by
 rw [show Nat.add 1 (Nat.mul k 1) = k + 1 by simp [Nat.add_comm]]
 simp [m_hg, List.map_set, List.set_append, h]
theorem hg_len (n : Int) (zs : List Int) (e : Value) : (m_hg n zs e).length = zs.length + 2 := by simp [m_hg]
def m_ed (z : Nat → Int) (k : Nat) : List Value := (List.range (2 * k)).map fun j => I (z j)
theorem ed_len (z : Nat → Int) (k : Nat) : (m_ed z k).length = 2 * k := by simp [m_ed]
theorem ed_succ (z : Nat → Int) (k : Nat) : m_ed z k ++ [I (ea z k), I (eb z k)] = m_ed z (k + 1) := by
 unfold m_ed
 rw [show 2 * (k + 1) = 2 * k + 1 + 1 by omega, List.range_succ, List.range_succ]
 simp [ea, eb]
theorem takeAt_all (c : List Value) (n : Nat) (h : c.length = n) : takeAt c 0 n = some c := by
 rw [takeAt_old]
 subst h
 induction c with
 | nil => rfl
 | cons x c ih => simp only [takeA0, List.length_cons, ih]
theorem ed_nn (z : Nat → Int) (k : Nat) : m_nns (m_ed z k) = true := by
 unfold m_nns m_ed
 generalize List.range (2 * k) = l
 induction l with
 | nil => rfl
 | cons x l ih => simp only [List.map_cons, nns, ih, Bool.and_true]; rfl
theorem hsn_ok (r : Mem) (v : Int) (h : m_vG v = true) : GrT Tryd.prog r 36 [I v] (U (m_bit v)) :=
 GrT.of (SC_ok r) TOk.nil .nil rfl ⟨1, 3, by
  simp only [m_vG, Bool.and_eq_true, decide_eq_true_eq] at h
  rw [hsnA, dF (show ¬ v < 0 by omega), Bool.not_false, cond_true]
  obtain ⟨i, rfl⟩ : ∃ i : Nat, v = i := ⟨v.toNat, by omega⟩
  have hi : i < 16 := by omega
  have e : IntKind.wrap IntKind.u64 (Int.ofNat 1 * Int.ofNat 2 ^ min (Int.toNat (i : Int)) 64) = m_bit (i : Int) := by
   have : ∀ j : Fin 16, IntKind.wrap IntKind.u64 (Int.ofNat 1 * Int.ofNat 2 ^ min (Int.toNat ((j.val : Nat) : Int)) 64) = m_bit ((j.val : Nat) : Int) := by decide
   exact this ⟨i, hi⟩
  rw [e]; rfl⟩
theorem tHr_ok (r : Mem) : TOk (SC r) tHr := TOk.cons TOk.nil (eI1_ok fun v h => hsn_ok r v h)
def hrOs (n : Int) (z : Nat → Int) : Nat → OO
 | 0 => [some (.cells resH 59 0 0), some (.cells (m_hg n (nbz z 0) (.slice none 0 0)) 59 1 0)]
 | k + 1 => [some (.cells resH 59 0 0), some (.cells (m_hg n (nbz z (k + 1)) (.slice (some ⟨2, 0, none⟩) (k + 1) unk)) 59 1 0), some (.cells (m_ed z (k + 1)) 80 2 2)]
def hrVs (b off len cap : Nat) (k : Nat) : OV := [some (P0 0), some (P0 1), some (RS2 b off len cap), some (I (len : Nat)), some (I (k : Nat))]
theorem of_okAt {n : Int} {z : Nat → Int} {k : Nat} (h : 0 ≤ ea z k ∧ ea z k < eb z k ∧ eb z k < n ∧ n ≤ 16) : ∃ x y : Nat, ea z k = x ∧ eb z k = y ∧ x < y ∧ y < 16 := ⟨(ea z k).toNat, (eb z k).toNat, by omega, by omega, by omega, by omega⟩
theorem hr_round1 (r : Mem) (n : Int) (b off len cap : Nat) (z : Nat → Int) (hz : rowAt r b off (2 * len) z) (hl : len ≤ 1000000) (k : Nat) (hk0 : k = 0) (hk : k < len) (ho : 0 ≤ ea z k ∧ ea z k < eb z k ∧ eb z k < n ∧ n ≤ 16) (Q : OV → List Nat → OO → Prop) (hQ : Q (hrVs b off len cap (k + 1)) [] (hrOs n z (k + 1))) (KX : Nat → OV → List Nat → OO → CR) (kr : KS) :
  run (SC r) 7341811 61 1 Hr_4 (lvlT (SC r) tHr .nil 1 1) none (Outs.ask 0 ⟨lvHr, [.t, .t], Q⟩) (fun i => rbK 0 lvHr [.t, .t] (KX i)) kr [] (bT lvHr (hrVs b off len cap k) .nil) [] (mkA (hrOs n z k)) = okR := by
 have c1 : (k : Int) < Int.ofNat len := by simp; omega
 have c2 : 0 ≤ (k : Int) := by omega
 have c3 : Nat.blt k len = true := Nat.ble_eq_true_of_le (by omega)
 have hx := of_okAt ho
 obtain ⟨x, y, hx1, hy1, hxy, hy16⟩ := hx
 have l0 : r b (Nat.add off (Nat.mul k 2)) = some (I (x : Nat)) := by
  have := hz (2 * k) (by omega)
  rw [show Nat.add off (Nat.mul k 2) = off + 2 * k by simp [Nat.mul_comm], ← hx1]
  exact this
 have l1 : r b (Nat.succ (Nat.add off (Nat.mul k 2))) = some (I (y : Nat)) := by
  have := hz (2 * k + 1) (by omega)
  rw [show Nat.succ (Nat.add off (Nat.mul k 2)) = off + (2 * k + 1) by simp [Nat.mul_comm]; omega, ← hy1]
  exact this
 have w : IntKind.wrap IntKind.i64 ((k : Int) + Int.ofNat 1) = ((k + 1 : Nat) : Int) := by rw [wrI (by simp; omega)]; simp
 have ii : ∀ x, isI IntKind.i64 (I x) = true := fun _ => rfl
 have oo : ∀ x, ofI (I x) = x := fun _ => rfl
 have x0 : 0 ≤ ((x : Nat) : Int) := by omega
 have y0 : 0 ≤ ((y : Nat) : Int) := by omega
 have x16 : Nat.blt x 16 = true := Nat.ble_eq_true_of_le (by omega)
 have y16 : Nat.blt y 16 = true := Nat.ble_eq_true_of_le (by omega)
 have vx : m_vG ((x : Nat) : Int) = true := by simp only [m_vG, Bool.and_eq_true, decide_eq_true_eq]; omega
 have vy : m_vG ((y : Nat) : Int) = true := by simp only [m_vG, Bool.and_eq_true, decide_eq_true_eq]; omega
 have vv : ∀ z : Int, m_eqv (.int .i64 z) (.int .i64 z) = true := fun z => by simp [m_eqv, veq]
 have hl16 : ∀ zs : List Int, zs.length = 16 → ∀ e : Value, ∀ i, i < 16 → Nat.blt (Nat.add 1 (Nat.mul i 1)) (m_hg n zs e).length = true := fun zs hzs e i hi => Nat.ble_eq_true_of_le (by rw [hg_len, hzs]; simp; omega)
 have ez : jnZ (nbz z k) x y = nbz z (k + 1) := by rw [nbz, hx1, hy1]; simp
 have gx : ∀ e, (m_hg n (nbz z k) e)[Nat.add 1 (Nat.mul x 1)]? = some (U ((nbz z k).getD x 0)) := fun e => hg_get (by rw [nbz_len]; omega)
 have gl : ∀ e, Nat.blt (Nat.add 1 (Nat.mul x 1)) (m_hg n (nbz z k) e).length = true := fun e => hl16 _ (nbz_len z k) e x (by omega)
 have gs : ∀ e (u : Int), (m_hg n (nbz z k) e).set (Nat.add 1 (Nat.mul x 1)) (.int .u64 u) = m_hg n ((nbz z k).set x u) e := fun e u => hg_set (by rw [nbz_len]; omega) u
 have gy : ∀ e (u : Int), (m_hg n ((nbz z k).set x u) e)[Nat.add 1 (Nat.mul y 1)]? = some (U (((nbz z k).set x u).getD y 0)) := fun e u => hg_get (by rw [List.length_set, nbz_len]; omega)
 have gl2 : ∀ e (u : Int), Nat.blt (Nat.add 1 (Nat.mul y 1)) (m_hg n ((nbz z k).set x u) e).length = true := fun e u => hl16 _ (by rw [List.length_set, nbz_len]) e y (by omega)
 have gs2 : ∀ e (u v : Int), (m_hg n ((nbz z k).set x u) e).set (Nat.add 1 (Nat.mul y 1)) (.int .u64 v) = m_hg n (((nbz z k).set x u).set y v) e := fun e u v => hg_set (by rw [List.length_set, nbz_len]; omega) v
 obtain ⟨z0, z1, z2, z3, z4, z5, z6, z7, z8, z9, z10, z11, z12, z13, z14, z15, hz16⟩ := list16 (nbz_len z k)
 have hOs : hrOs n z k = [some (.cells resH 59 0 0), some (.cells (m_hg n (nbz z k) (.slice none 0 0)) 59 1 0)] := by rw [hk0]; rfl
 have hn := hrB1 r n b off len cap k z0 z1 z2 z3 z4 z5 z6 z7 z8 z9 z10 z11 z12 z13 z14 z15 (Outs.ask 0 ⟨lvHr, [.t, .t], Q⟩) KX kr
 simp only [dT c1, dT c2, c3, cond_true, Int.toNat_natCast, l0, l1, ii, oo, dT x0, dT y0, x16, y16, vx, vy, vv, w, hg_lit, ← hz16, gx, gl, isI_u, ofI_u, veq_u, gs, gy, gl2, gs2, bit_of] at hn
 have es : ((nbz z k).set x (ibits BinOp.or IntKind.u64 ((nbz z k).getD x 0) (bit y))).set y (ibits BinOp.or IntKind.u64 (((nbz z k).set x (ibits BinOp.or IntKind.u64 ((nbz z k).getD x 0) (bit y))).getD y 0) (bit x)) = nbz z (k + 1) := ez
 rw [es] at hn
 rw [hOs]
 refine Eq.trans hn ?_
 obtain ⟨y0, y1, y2, y3, y4, y5, y6, y7, y8, y9, y10, y11, y12, y13, y14, y15, hy16'⟩ := list16 (nbz_len z (k + 1))
 rw [hrOs, hy16'] at hQ
 rw [hy16']
 subst hk0
 have hQ' : Q (hrVs b off len cap 1) [] [some (.cells resH 59 0 0), some (.cells [I n, U y0, U y1, U y2, U y3, U y4, U y5, U y6, U y7, U y8, U y9, U y10, U y11, U y12, U y13, U y14, U y15, .slice (some ⟨2, 0, none⟩) 1 unk] 59 1 0), some (.cells [I (x : Nat), I (y : Nat)] 80 2 2)] := by
  have e : m_ed z 1 = [I (x : Nat), I (y : Nat)] := by rw [← hx1, ← hy1]; rfl
  rw [← e]
  exact hQ
 exact Eq.trans (by kernel_rfl) (qq_ok hQ')
theorem hr_round2 (r : Mem) (n : Int) (b off len cap : Nat) (z : Nat → Int) (hz : rowAt r b off (2 * len) z) (hl : len < 1000000) (k' k : Nat) (hk0 : k = k' + 1) (hk : k < len) (ho : 0 ≤ ea z k ∧ ea z k < eb z k ∧ eb z k < n ∧ n ≤ 16) (Q : OV → List Nat → OO → Prop) (hQ : Q (hrVs b off len cap (k + 1)) [] (hrOs n z (k + 1))) (KX : Nat → OV → List Nat → OO → CR) (kr : KS) :
  run (SC r) 7341811 61 1 Hr_4 (lvlT (SC r) tHr .nil 1 1) none (Outs.ask 0 ⟨lvHr, [.t, .t], Q⟩) (fun i => rbK 0 lvHr [.t, .t] (KX i)) kr [] (bT lvHr (hrVs b off len cap k) .nil) [] (mkA (hrOs n z k)) = okR := by
 have c1 : (k : Int) < Int.ofNat len := by simp; omega
 have c2 : 0 ≤ (k : Int) := by omega
 have c3 : Nat.blt k len = true := Nat.ble_eq_true_of_le (by omega)
 have hx := of_okAt ho
 obtain ⟨x, y, hx1, hy1, hxy, hy16⟩ := hx
 have l0 : r b (Nat.add off (Nat.mul k 2)) = some (I (x : Nat)) := by
  have := hz (2 * k) (by omega)
  rw [show Nat.add off (Nat.mul k 2) = off + 2 * k by simp [Nat.mul_comm], ← hx1]
  exact this
 have l1 : r b (Nat.succ (Nat.add off (Nat.mul k 2))) = some (I (y : Nat)) := by
  have := hz (2 * k + 1) (by omega)
  rw [show Nat.succ (Nat.add off (Nat.mul k 2)) = off + (2 * k + 1) by simp [Nat.mul_comm]; omega, ← hy1]
  exact this
 have w : IntKind.wrap IntKind.i64 ((k : Int) + Int.ofNat 1) = ((k + 1 : Nat) : Int) := by rw [wrI (by simp; omega)]; simp
 have ii : ∀ x, isI IntKind.i64 (I x) = true := fun _ => rfl
 have oo : ∀ x, ofI (I x) = x := fun _ => rfl
 have x0 : 0 ≤ ((x : Nat) : Int) := by omega
 have y0 : 0 ≤ ((y : Nat) : Int) := by omega
 have x16 : Nat.blt x 16 = true := Nat.ble_eq_true_of_le (by omega)
 have y16 : Nat.blt y 16 = true := Nat.ble_eq_true_of_le (by omega)
 have vx : m_vG ((x : Nat) : Int) = true := by simp only [m_vG, Bool.and_eq_true, decide_eq_true_eq]; omega
 have vy : m_vG ((y : Nat) : Int) = true := by simp only [m_vG, Bool.and_eq_true, decide_eq_true_eq]; omega
 have vv : ∀ z : Int, m_eqv (.int .i64 z) (.int .i64 z) = true := fun z => by simp [m_eqv, veq]
 have hl16 : ∀ zs : List Int, zs.length = 16 → ∀ e : Value, ∀ i, i < 16 → Nat.blt (Nat.add 1 (Nat.mul i 1)) (m_hg n zs e).length = true := fun zs hzs e i hi => Nat.ble_eq_true_of_le (by rw [hg_len, hzs]; simp; omega)
 have ez : jnZ (nbz z k) x y = nbz z (k + 1) := by rw [nbz, hx1, hy1]; simp
 have gx : ∀ e, (m_hg n (nbz z k) e)[Nat.add 1 (Nat.mul x 1)]? = some (U ((nbz z k).getD x 0)) := fun e => hg_get (by rw [nbz_len]; omega)
 have gl : ∀ e, Nat.blt (Nat.add 1 (Nat.mul x 1)) (m_hg n (nbz z k) e).length = true := fun e => hl16 _ (nbz_len z k) e x (by omega)
 have gs : ∀ e (u : Int), (m_hg n (nbz z k) e).set (Nat.add 1 (Nat.mul x 1)) (.int .u64 u) = m_hg n ((nbz z k).set x u) e := fun e u => hg_set (by rw [nbz_len]; omega) u
 have gy : ∀ e (u : Int), (m_hg n ((nbz z k).set x u) e)[Nat.add 1 (Nat.mul y 1)]? = some (U (((nbz z k).set x u).getD y 0)) := fun e u => hg_get (by rw [List.length_set, nbz_len]; omega)
 have gl2 : ∀ e (u : Int), Nat.blt (Nat.add 1 (Nat.mul y 1)) (m_hg n ((nbz z k).set x u) e).length = true := fun e u => hl16 _ (by rw [List.length_set, nbz_len]) e y (by omega)
 have gs2 : ∀ e (u v : Int), (m_hg n ((nbz z k).set x u) e).set (Nat.add 1 (Nat.mul y 1)) (.int .u64 v) = m_hg n (((nbz z k).set x u).set y v) e := fun e u v => hg_set (by rw [List.length_set, nbz_len]; omega) v
 obtain ⟨z0, z1, z2, z3, z4, z5, z6, z7, z8, z9, z10, z11, z12, z13, z14, z15, hz16⟩ := list16 (nbz_len z k)
 have hOs : hrOs n z k = [some (.cells resH 59 0 0), some (.cells (m_hg n (nbz z k) (.slice (some ⟨2, 0, none⟩) k unk)) 59 1 0), some (.cells (m_ed z k) 80 2 2)] := by rw [hk0]; rfl
 have hn := hrB2 r n b off len cap k z0 z1 z2 z3 z4 z5 z6 z7 z8 z9 z10 z11 z12 z13 z14 z15 k (m_ed z k) (Outs.ask 0 ⟨lvHr, [.t, .t], Q⟩) KX kr
 have m1 : Nat.ble (Nat.add k 1) 1000000 = true := Nat.ble_eq_true_of_le (by simp; omega)
 have tk : takeAt (m_ed z k) 0 (Nat.mul k 2) = some (m_ed z k) := takeAt_all _ _ (by rw [ed_len]; simp [Nat.mul_comm])
 simp only [dT c1, dT c2, c3, cond_true, Int.toNat_natCast, l0, l1, ii, oo, dT x0, dT y0, x16, y16, vx, vy, vv, w, m1, tk, hg_lit, ← hz16, gx, gl, isI_u, ofI_u, veq_u, gs, gy, gl2, gs2, bit_of] at hn
 have es : ((nbz z k).set x (ibits BinOp.or IntKind.u64 ((nbz z k).getD x 0) (bit y))).set y (ibits BinOp.or IntKind.u64 (((nbz z k).set x (ibits BinOp.or IntKind.u64 ((nbz z k).getD x 0) (bit y))).getD y 0) (bit x)) = nbz z (k + 1) := ez
 rw [es] at hn
 rw [hOs]
 refine Eq.trans hn ?_
 obtain ⟨y0, y1, y2, y3, y4, y5, y6, y7, y8, y9, y10, y11, y12, y13, y14, y15, hy16'⟩ := list16 (nbz_len z (k + 1))
 rw [hrOs, hy16'] at hQ
 rw [hy16']
 have ee := ed_succ z k
 rw [hx1, hy1] at ee
 have nn1 := ed_nn z (k + 1)
 rw [← ee] at hQ nn1
 refine Eq.trans (b := guardK (m_nns (m_ed z k ++ [I (x : Nat), I (y : Nat)]) && true) (qq (Q (hrVs b off len cap (k + 1)) [] [some (.cells resH 59 0 0), some (.cells (m_hg n [y0, y1, y2, y3, y4, y5, y6, y7, y8, y9, y10, y11, y12, y13, y14, y15] (.slice (some ⟨2, 0, none⟩) (k + 1) unk)) 59 1 0), some (.cells (m_ed z k ++ [I (x : Nat), I (y : Nat)]) 80 2 2)]))) (by kernel_rfl) ?_
 rw [nn1]
 exact qq_ok hQ
end Go.Proofs
namespace Go.Proofs
open Go Go.Ev Go.Num
theorem ck_valid {n : Int} {z : Nat → Int} {len : Nat} (h : ckG n z len = 0) : 1 ≤ n ∧ n ≤ 16 ∧ okAll n z len = true := by
 unfold ckG at h
 split at h
 ·cases h
 ·split at h
  ·rename_i h1 h2; exact ⟨by omega, by omega, h2⟩
  ·cases h
def vRd (n : Int) (z : Nat → Int) (len : Nat) : Value := .tuple ⟨[.agg ⟨m_hg n (nbz z len) (match len with | 0 => .slice none 0 0 | k + 1 => .slice (some ⟨1, 0, none⟩) (k + 1) unk)⟩, I 0]⟩
def aRd (n : Int) (z : Nat → Int) : Nat → AW
 | 0 => mkA [some (.cells (m_hg n (nbz z 0) (.slice none 0 0)) 59 0 0)]
 | k + 1 => mkA [some (.cells (m_hg n (nbz z (k + 1)) (.slice (some ⟨1, 0, none⟩) (k + 1) unk)) 59 0 0), some (.cells (m_ed z (k + 1)) 80 1 2)]
theorem hrC1 (r : Mem) (n : Int) (b off len cap : Nat) (i : Int) (z0 z1 z2 z3 z4 z5 z6 z7 z8 z9 z10 z11 z12 z13 z14 z15 : Int) (fs : FnsC) (K : OV → List Nat → OO → CR) (kn : KS) (kx : Nat → KS) : run (SC r) 7341811 61 1 Hr_5 fs none kn kx (rbK 0 [4, 5] [.t] K) [] (bT lvHr [some (P0 0), some (P0 1), some (RS2 b off len cap), some (I (len : Nat)), some (I i)] .nil) [] (mkA [some (.cells resH 59 0 0), some (.cells [I n, U z0, U z1, U z2, U z3, U z4, U z5, U z6, U z7, U z8, U z9, U z10, U z11, U z12, U z13, U z14, U z15, .slice none 0 0] 59 1 0)]) =
    K [some (.pointer (some ⟨0, 0, none⟩)), some (I (Int.ofNat 0))] [] [some (.cells [I n, U z0, U z1, U z2, U z3, U z4, U z5, U z6, U z7, U z8, U z9, U z10, U z11, U z12, U z13, U z14, U z15, .slice none 0 0] 59 0 0)] := by kernel_rfl
theorem hrC2 (r : Mem) (n : Int) (b off len cap : Nat) (i : Int) (z0 z1 z2 z3 z4 z5 z6 z7 z8 z9 z10 z11 z12 z13 z14 z15 : Int) (m : Nat) (c : List Value) (fs : FnsC) (K : OV → List Nat → OO → CR) (kn : KS) (kx : Nat → KS) : run (SC r) 7341811 61 1 Hr_5 fs none kn kx (rbK 0 [4, 5] [.t] K) [] (bT lvHr [some (P0 0), some (P0 1), some (RS2 b off len cap), some (I (len : Nat)), some (I i)] .nil) [] (mkA [some (.cells resH 59 0 0), some (.cells [I n, U z0, U z1, U z2, U z3, U z4, U z5, U z6, U z7, U z8, U z9, U z10, U z11, U z12, U z13, U z14, U z15, .slice (some ⟨2, 0, none⟩) m unk] 59 1 0), some (.cells c 80 2 2)]) =
    bif true && (m_nns c && true) then K [some (.pointer (some ⟨0, 0, none⟩)), some (I (Int.ofNat 0))] [] [some (.cells [I n, U z0, U z1, U z2, U z3, U z4, U z5, U z6, U z7, U z8, U z9, U z10, U z11, U z12, U z13, U z14, U z15, .slice (some ⟨1, 0, none⟩) m unk] 59 0 0), some (.cells c 80 1 2)] else .fail 420 := by kernel_rfl
theorem tHc_ok (r : Mem) (hm : ∀ b j u, tabM b j = some u → r b j = some u) (n : Int) (b off len cap : Nat) (z : Nat → Int) (hz : rowAt r b off (2 * len) z) (hl : len ≤ 1000000) : TOk (SC r) (tHc [I n, RS2 b off len cap] (ckG n z len)) :=
 TOk.cons TOk.nil (entV_ok (partCheck_ok r hm n b off len cap z hz hl) rfl)
theorem hread_ok (r : Mem) (hm : ∀ b j u, tabM b j = some u → r b j = some u) (n : Int) (b off len cap : Nat) (z : Nat → Int) (hz : rowAt r b off (2 * len) z) (hl : len < 1000000) (hok : ckG n z len = 0) :
  SOk (SC r) 22 [I n, RS2 b off len cap] emptyA fun v A => v = vRd n z len ∧ A = aRd n z len := by
 obtain ⟨hn1, hn2, hall⟩ := ck_valid hok
 have h3 := okAll_at hall
 refine callL (SC_ok r) (by kernel_rfl) ((bodySC r _).trans Hr_eq) (nt := 61) (by kernel_rfl) (rs := [.cell 4 59, .tmp 5]) (by kernel_rfl) 7341811 rfl (.step (.step (.step .base))) (t := tHc [I n, RS2 b off len cap] (ckG n z len)) (tHc_ok r hm n b off len cap z hz (by omega)) (tm := .nil) (L := 1) (d := 1) lvHr [.t, .t]
  (fun j vs ms os => ∃ k, k ≤ len ∧ j = len - k ∧ vs = hrVs b off len cap k ∧ ms = [] ∧ os = hrOs n z k)
  ⟨lvHr, [.t, .t], fun vs ms os => vs = hrVs b off len cap len ∧ ms = [] ∧ os = hrOs n z len⟩
  ⟨[4, 5], [.t], fun vs ms os => vs = [some (P0 0), some (I 0)] ∧ ms = [] ∧ finish (SC r) 7341811 [.cell 4 59, .tmp 5] (St.of [4, 5] vs ms os) = .ret (vRd n z len) (aRd n z len)⟩ ?_ ?_ ?_ ?_
 ·refine (hrA r n (ckG n z len) b off len cap _ _ _).trans ?_
  rw [show m_same _ _ = true from same_rfl _, cond_true, hok]
  exact qq_ok ⟨len, 0, Nat.zero_le _, rfl, rfl, rfl, rfl⟩
 ·rintro j vs ms os ⟨k, hk, rfl, rfl, rfl, rfl⟩
  refine ⟨tHr, tHr_ok r, .nil, 1, 1, 1, ?_⟩
  by_cases c : k < len
  ·have ho : 0 ≤ ea z k ∧ ea z k < eb z k ∧ eb z k < n ∧ n ≤ 16 := ⟨(h3 k c).1, (h3 k c).2.1, (h3 k c).2.2, hn2⟩
   have hQ : ∃ j', j' < len - k ∧ ∃ k', k' ≤ len ∧ j' = len - k' ∧ hrVs b off len cap (k + 1) = hrVs b off len cap k' ∧ ([] : List Nat) = [] ∧ hrOs n z (k + 1) = hrOs n z k' := ⟨len - (k + 1), by omega, k + 1, c, rfl, rfl, rfl, rfl⟩
   cases k with
   | zero => exact hr_round1 r n b off len cap z hz (by omega) 0 rfl c ho (fun vs ms os => ∃ j', j' < len - 0 ∧ ∃ k', k' ≤ len ∧ j' = len - k' ∧ vs = hrVs b off len cap k' ∧ ms = [] ∧ os = hrOs n z k') hQ _ _
   | succ k' => exact hr_round2 r n b off len cap z hz hl k' (k' + 1) rfl c ho (fun vs ms os => ∃ j', j' < len - (k' + 1) ∧ ∃ k', k' ≤ len ∧ j' = len - k' ∧ vs = hrVs b off len cap k' ∧ ms = [] ∧ os = hrOs n z k') hQ _ _
  ·have hkl : k = len := by omega
   subst hkl
   have c1 : ¬ (k : Int) < Int.ofNat k := by simp
   have hn' := ed_nn z k
   obtain ⟨z0, z1, z2, z3, z4, z5, z6, z7, z8, z9, z10, z11, z12, z13, z14, z15, hz16⟩ := list16 (nbz_len z k)
   cases k with
   | zero =>
    have hn := hrB1 r n b off 0 cap (0 : Nat) z0 z1 z2 z3 z4 z5 z6 z7 z8 z9 z10 z11 z12 z13 z14 z15
    simp only [dF c1, cond_false] at hn
    simp only [hrOs, hz16]
    exact (hn _ _ _).trans (qq_ok ⟨rfl, rfl, rfl⟩)
   | succ k' =>
    have hn := hrB2 r n b off (k' + 1) cap (k' + 1 : Nat) z0 z1 z2 z3 z4 z5 z6 z7 z8 z9 z10 z11 z12 z13 z14 z15 (k' + 1) (m_ed z (k' + 1))
    simp only [dF c1, cond_false, hn', Bool.and_true, cond_true] at hn
    simp only [hrOs, hz16]
    exact (hn _ _ _).trans (qq_ok ⟨rfl, rfl, rfl⟩)
 ·rintro vs ms os ⟨rfl, rfl, rfl⟩
  have hn' := ed_nn z len
  obtain ⟨z0, z1, z2, z3, z4, z5, z6, z7, z8, z9, z10, z11, z12, z13, z14, z15, hz16⟩ := list16 (nbz_len z len)
  refine ⟨_, TOk.nil, .nil, 1, 1, 1, ?_⟩
  cases len with
  | zero =>
   simp only [hrOs, hz16]
   exact (hrC1 r n b off 0 cap (0 : Nat) z0 z1 z2 z3 z4 z5 z6 z7 z8 z9 z10 z11 z12 z13 z14 z15 _ _ _ _).trans (qq_ok ⟨rfl, rfl, by simp only [vRd, aRd, hz16]; kernel_rfl⟩)
  | succ k' =>
   simp only [hrOs, hz16]
   have hn := hrC2 r n b off (k' + 1) cap (k' + 1 : Nat) z0 z1 z2 z3 z4 z5 z6 z7 z8 z9 z10 z11 z12 z13 z14 z15 (k' + 1) (m_ed z (k' + 1))
   simp only [hn', Bool.and_true, cond_true] at hn
   exact (hn _ _ _ _).trans (qq_ok ⟨rfl, rfl, by simp only [vRd, aRd, hz16]; kernel_rfl⟩)
 ·rintro vs ms os ⟨rfl, rfl, h⟩
  exact ⟨_, _, h, rfl, rfl⟩
end Go.Proofs
namespace Go.Proofs
open Go Go.Ev Go.Num
noncomputable def m_okL2 (c : List Value) (k len : Nat) : Bool := @decide (len ≤ 1000000 ∧ ∀ j, j < 2 * len → ∃ z : Int, c[k + j]? = some (I z)) (Classical.propDecidable _)
def zAt2 (c : List Value) (j : Nat) : Int := match c[j]? with
 | some (.int _ z) => z
 | _ => 0
theorem memW_tab {r : Mem} (hm : ∀ b j u, tabM b j = some u → r b j = some u) {γ : Gam} {W : World} (hR : Ro r γ W) : ∀ b j u, tabM b j = some u → memW W b j = some u := fun b j u h => by
 have hg : gnd u = true := by
  unfold tabM at h
  split at h
  ·unfold memL u8s at h
   rw [List.getElem?_map] at h
   cases h1 : tab64[j]? with
   | none => rw [h1] at h; cases h
   | some x => rw [h1] at h; cases h; rfl
  ·split at h
   ·unfold memL u8s at h
    rw [List.getElem?_map] at h
    cases h1 : tab32[j]? with
    | none => rw [h1] at h; cases h
    | some x => rw [h1] at h; cases h; rfl
   ·cases h
 obtain ⟨_, cc, e, fr, v', h1, h2, h3⟩ := hR b j u (hm b j u h)
 have := (h3 γ).eq_of_gnd hg
 subst this
 unfold memW
 rw [h1]
 simp only [h2, Option.bind_some]
 exact mark_gnd hg
theorem own_mem {r : Mem} {γ : Gam} {A : AW} {W : World} (hw : WRel γ A W) (hR : Ro r γ W) {n : Int} {i k len cap : Nat} {c l : List Value} {e f z : Nat} (hget : A.heap.get i = some (.cells c e f z)) (hok : m_okL2 c k len = true) (hcap : Nat.beq cap unkE = false) (hl : gnds l = true)
  {args' : Array Value} (ha : VsRel γ (.int .i64 n :: .slice (some ⟨i, k, none⟩) len cap :: l) args'.toList) :
  ∃ b k', VsRel noG (I n :: RS2 b k' len 0 :: l) args'.toList ∧ rowAt (memW W) b k' (2 * len) (fun j => zAt2 c (k + j)) ∧ len ≤ 1000000 := by
 obtain ⟨h1, h2⟩ := @of_decide_eq_true _ (Classical.propDecidable _) hok
 obtain ⟨la⟩ := args'
 cases ha with
 | cons hn hrest =>
 cases hn
 cases hrest with
 | cons hv hrest =>
 obtain ⟨b, k', c', rfl, hrd⟩ := rd_world hw hR hv hcap
 refine ⟨b, k', .cons (.int _ _) (.cons (.sliceRo _ _ _ _ _ _ (by decide) (Nat.zero_le _)) ?_), fun j hj => ?_, h1⟩
 ·rw [hrest.eq_of_gnds hl]
  exact VsRel.of_gnds noG l hl
 ·obtain ⟨z, hz⟩ := h2 j hj
  have e1 : zAt2 c (k + j) = z := by unfold zAt2; rw [hz]
  show memW W b (k' + j) = some (I (zAt2 c (k + j)))
  rw [e1]
  refine hrd j _ ?_ rfl
  simp only [AW.rd, AW.cell, hget]
  exact hz
theorem natFK2 {i j : Nat} (h : i ≠ j) : Nat.beq i j = false := by
 cases e : Nat.beq i j with
 | false => rfl
 | true => exact absurd (Nat.eq_of_beq_eq_true e) h
abbrev Tab (r : Mem) : Prop := ∀ b j u, tabM b j = some u → r b j = some u
end Go.Proofs
namespace Go.Proofs
open Go Go.Ev Go.Num
theorem addB_nat (ws : List Nat) (i b : Nat) (hw : ∀ w ∈ ws, w < 65536) (hb : b < 16) : addB (ws.map fun (w : Nat) => (w : Int)) i (bit b) = (orN ws i b).map fun (w : Nat) => (w : Int) := by
 have e : (ws.map fun (w : Nat) => (w : Int)).getD i 0 = ((ws.getD i 0 : Nat) : Int) := by
  rw [List.getD_eq_getElem?_getD, List.getD_eq_getElem?_getD, List.getElem?_map]
  cases ws[i]? <;> rfl
 have e2 : bit b = ((2 ^ b : Nat) : Int) := by unfold bit; simp
 unfold addB orN orB
 rw [e, e2, or_nat (.inl rfl) (getD_lt hw i) (bit16 hb), List.map_set]
theorem nbz_nat (z : Nat → Int) {n : Int} (hn : n ≤ 16) : ∀ k, (∀ i, i < k → 0 ≤ ea z i ∧ ea z i < eb z i ∧ eb z i < n) → nbz z k = (nbN 16 z k).map fun (w : Nat) => (w : Int)
 | 0, _ => by simp [nbz, nbN]
 | k + 1, h => by
  obtain ⟨b1, b2, b3⟩ := h k (by omega)
  have hw := nbN_lt 16 z hn k fun i hi => h i (by omega)
  rw [nbz, nbN, nbz_nat z hn k fun i hi => h i (by omega), jnZ, jnN, addB_nat _ _ _ hw (by omega), addB_nat _ _ _ (orN_lt hw _ (by omega)) (by omega)]
end Go.Proofs
namespace Go.Proofs
open Go Go.Ev Go.Num
noncomputable def eOf1 (m len : Nat) (c g : List Value) : Ent := ⟨fun args A => match args with
  | [.int .i64 n, .slice (some ⟨i, k, none⟩) l cap] => match A.heap.get i with
   | some (.cells c' _ _ _) => m_same [.int .i64 n, .slice (some ⟨0, k, none⟩) l cap, .agg ⟨c'⟩] [.int .i64 m, .slice (some ⟨0, 0, none⟩) len unk, .agg ⟨c⟩]
   | _ => false
  | _ => false, fun _ _ => true, fun _ A => .slice (some ⟨A.next, 0, none⟩) m m, fun _ A => A.new (.cells g 3 A.next 1), fun _ _ => undef, fun _ A => A⟩
noncomputable def eOf0 (m : Nat) (g : List Value) : Ent := ⟨fun args _ => m_same args [I (m : Nat), .slice none 0 0], fun _ _ => true, fun _ A => .slice (some ⟨A.next, 0, none⟩) m m, fun _ A => A.new (.cells g 3 A.next 1), fun _ _ => undef, fun _ A => A⟩
noncomputable def eTm1 (a0 : List Value) (m len : Nat) (c : List Value) : Ent := ⟨fun args _ => m_same args a0, fun _ _ => true, fun _ A => .tuple ⟨[I (m : Nat), .slice (some ⟨A.next, 0, none⟩) len unk]⟩, fun _ A => A.new (.cells c 52 A.next 2), fun _ _ => undef, fun _ A => A⟩
theorem zAt2_E (E : List (Nat × Nat)) {j : Nat} (h : j < 2 * E.length) : zAt2 (pcE E) (0 + j) = zE E j := by
 unfold zAt2
 rw [Nat.zero_add, pcE_get E j h]
theorem okL2_E (E : List (Nat × Nat)) (h : E.length ≤ 1000000) : m_okL2 (pcE E) 0 E.length = true := @decide_eq_true _ (Classical.propDecidable _) ⟨h, fun j hj => ⟨_, by rw [Nat.zero_add]; exact pcE_get E j hj⟩⟩
theorem rowE {r : Mem} {b k : Nat} {E : List (Nat × Nat)} (h : rowAt r b k (2 * E.length) (fun j => zAt2 (pcE E) (0 + j))) : rowAt r b k (2 * E.length) (zE E) := fun j hj => by
 have := h j hj
 simp only at this
 rw [this, zAt2_E E hj]
theorem own_ws {r : Mem} {γ : Gam} {A : AW} {W : World} (hw : WRel γ A W) (hR : Ro r γ W) {i m : Nat} (hm : m ≤ 16) {ws : List Nat} (hlw : ws.length = m) {e f z : Nat} (hget : A.heap.get i = some (.cells (m_ws ws) e f z)) {l : List Value} (hl : gnds l = true) {args' : Array Value} (ha : VsRel γ (.slice (some ⟨i, 0, none⟩) m m :: l) args'.toList) :
  ∃ b k', VsRel noG (RS b k' m 0 :: l) args'.toList ∧ ∀ k, k < m → memW W b (k' + k) = some (I (ws.getD k 0 : Nat)) := by
 obtain ⟨la⟩ := args'
 cases ha with
 | cons hv hrest =>
 obtain ⟨b, k', c', rfl, hrd⟩ := rd_world hw hR hv (natFK2 (by unfold unkE; omega))
 refine ⟨b, k', .cons (.sliceRo _ _ _ _ _ _ (by decide) (Nat.zero_le _)) ?_, fun j hj => ?_⟩
 ·rw [hrest.eq_of_gnds hl]
  exact VsRel.of_gnds noG l hl
 ·refine hrd j _ ?_ rfl
  simp only [AW.rd, AW.cell, hget]
  have := ws_get (ws := ws) (k := j) (by omega)
  rw [Nat.mul_eq, Nat.mul_one, Nat.add_eq] at this
  exact this
theorem ofV_row {m : Nat} (h : m ≤ 16) : ofV 0 (.slice (some ⟨0, 0, none⟩) m m) = true := by simp [ofV, of1]
theorem eOf1_ok (r : Mem) {m : Nat} (h1 : 1 ≤ m) (hm16 : m ≤ 16) {E : List (Nat × Nat)} (hE : okAll (m : Int) (zE E) E.length = true) (hl : E.length ≤ 1000000) : EOk (SC r) 6 (eOf1 m E.length (pcE E) (m_ws (nbN m (zE E) E.length))) := fun args A hgd F hF k γ W args' hw hR ha => by
 refine ⟨fun hcc => ?_, fun h => nomatch h⟩
 clear hcc
 dsimp only [eOf1] at hgd ⊢
 split at hgd
 ·rename_i n i k0 l cap
  split at hgd
  ·rename_i c' e f z hget
   have hs := @of_decide_eq_true _ (Classical.propDecidable _) hgd
   simp only [List.cons.injEq, Value.int.injEq, Value.slice.injEq, Option.some.injEq, Addr.mk.injEq, Value.agg.injEq, Array.mk.injEq, and_true, true_and] at hs
   obtain ⟨rfl, ⟨rfl, rfl, rfl⟩, rfl⟩ := hs
   obtain ⟨b, k', p1, p2, p3⟩ := own_mem hw hR hget (okL2_E E hl) rfl rfl ha
   have h := of_ok (memW W) m h1 (by omega) b k' E.length 0 _ (rowE p2) p3 hE
   exact h.ends (γ := γ) (A := A) (ofV_row (by omega)) (ws_gnd _) hF hw (memW_ro W) p1 ha
  ·cases hgd
 ·cases hgd
theorem oN1 : (lvlT (SC fun _ _ => none) (fun _ => none) .nil 20 3).call 6 [I 1, .slice none 0 0] emptyA finM = .ret (.slice (some ⟨0, 0, none⟩) 1 1) (rowA (m_ws (List.replicate 1 0)) 3 1) := by kernel_rfl
theorem oN2 : (lvlT (SC fun _ _ => none) (fun _ => none) .nil 20 3).call 6 [I 2, .slice none 0 0] emptyA finM = .ret (.slice (some ⟨0, 0, none⟩) 2 2) (rowA (m_ws (List.replicate 2 0)) 3 1) := by kernel_rfl
theorem oN3 : (lvlT (SC fun _ _ => none) (fun _ => none) .nil 20 3).call 6 [I 3, .slice none 0 0] emptyA finM = .ret (.slice (some ⟨0, 0, none⟩) 3 3) (rowA (m_ws (List.replicate 3 0)) 3 1) := by kernel_rfl
theorem oN4 : (lvlT (SC fun _ _ => none) (fun _ => none) .nil 20 3).call 6 [I 4, .slice none 0 0] emptyA finM = .ret (.slice (some ⟨0, 0, none⟩) 4 4) (rowA (m_ws (List.replicate 4 0)) 3 1) := by kernel_rfl
theorem oN5 : (lvlT (SC fun _ _ => none) (fun _ => none) .nil 20 3).call 6 [I 5, .slice none 0 0] emptyA finM = .ret (.slice (some ⟨0, 0, none⟩) 5 5) (rowA (m_ws (List.replicate 5 0)) 3 1) := by kernel_rfl
theorem oN6 : (lvlT (SC fun _ _ => none) (fun _ => none) .nil 20 3).call 6 [I 6, .slice none 0 0] emptyA finM = .ret (.slice (some ⟨0, 0, none⟩) 6 6) (rowA (m_ws (List.replicate 6 0)) 3 1) := by kernel_rfl
theorem oN7 : (lvlT (SC fun _ _ => none) (fun _ => none) .nil 20 3).call 6 [I 7, .slice none 0 0] emptyA finM = .ret (.slice (some ⟨0, 0, none⟩) 7 7) (rowA (m_ws (List.replicate 7 0)) 3 1) := by kernel_rfl
theorem oN8 : (lvlT (SC fun _ _ => none) (fun _ => none) .nil 20 3).call 6 [I 8, .slice none 0 0] emptyA finM = .ret (.slice (some ⟨0, 0, none⟩) 8 8) (rowA (m_ws (List.replicate 8 0)) 3 1) := by kernel_rfl
theorem oN9 : (lvlT (SC fun _ _ => none) (fun _ => none) .nil 20 3).call 6 [I 9, .slice none 0 0] emptyA finM = .ret (.slice (some ⟨0, 0, none⟩) 9 9) (rowA (m_ws (List.replicate 9 0)) 3 1) := by kernel_rfl
theorem oN10 : (lvlT (SC fun _ _ => none) (fun _ => none) .nil 20 3).call 6 [I 10, .slice none 0 0] emptyA finM = .ret (.slice (some ⟨0, 0, none⟩) 10 10) (rowA (m_ws (List.replicate 10 0)) 3 1) := by kernel_rfl
theorem oN11 : (lvlT (SC fun _ _ => none) (fun _ => none) .nil 20 3).call 6 [I 11, .slice none 0 0] emptyA finM = .ret (.slice (some ⟨0, 0, none⟩) 11 11) (rowA (m_ws (List.replicate 11 0)) 3 1) := by kernel_rfl
theorem oN12 : (lvlT (SC fun _ _ => none) (fun _ => none) .nil 20 3).call 6 [I 12, .slice none 0 0] emptyA finM = .ret (.slice (some ⟨0, 0, none⟩) 12 12) (rowA (m_ws (List.replicate 12 0)) 3 1) := by kernel_rfl
theorem oN13 : (lvlT (SC fun _ _ => none) (fun _ => none) .nil 20 3).call 6 [I 13, .slice none 0 0] emptyA finM = .ret (.slice (some ⟨0, 0, none⟩) 13 13) (rowA (m_ws (List.replicate 13 0)) 3 1) := by kernel_rfl
theorem oN14 : (lvlT (SC fun _ _ => none) (fun _ => none) .nil 20 3).call 6 [I 14, .slice none 0 0] emptyA finM = .ret (.slice (some ⟨0, 0, none⟩) 14 14) (rowA (m_ws (List.replicate 14 0)) 3 1) := by kernel_rfl
theorem oN15 : (lvlT (SC fun _ _ => none) (fun _ => none) .nil 20 3).call 6 [I 15, .slice none 0 0] emptyA finM = .ret (.slice (some ⟨0, 0, none⟩) 15 15) (rowA (m_ws (List.replicate 15 0)) 3 1) := by kernel_rfl
theorem oN16 : (lvlT (SC fun _ _ => none) (fun _ => none) .nil 20 3).call 6 [I 16, .slice none 0 0] emptyA finM = .ret (.slice (some ⟨0, 0, none⟩) 16 16) (rowA (m_ws (List.replicate 16 0)) 3 1) := by kernel_rfl
theorem ofN_ok {m : Nat} (h1 : 1 ≤ m) (h2 : m ≤ 16) : GrM Tryd.prog (fun _ _ => none) 6 [I (m : Nat), .slice none 0 0] (.slice (some ⟨0, 0, none⟩) m m) (rowA (m_ws (nbN m (zE []) 0)) 3 1) := by
 have : m = 1 ∨ m = 2 ∨ m = 3 ∨ m = 4 ∨ m = 5 ∨ m = 6 ∨ m = 7 ∨ m = 8 ∨ m = 9 ∨ m = 10 ∨ m = 11 ∨ m = 12 ∨ m = 13 ∨ m = 14 ∨ m = 15 ∨ m = 16 := by omega
 rcases this with rfl | rfl | rfl | rfl | rfl | rfl | rfl | rfl | rfl | rfl | rfl | rfl | rfl | rfl | rfl | rfl
 ·exact GrM.of (SC_ok fun _ _ => none) TOk.nil .nil ⟨20, 3, oN1⟩
 ·exact GrM.of (SC_ok fun _ _ => none) TOk.nil .nil ⟨20, 3, oN2⟩
 ·exact GrM.of (SC_ok fun _ _ => none) TOk.nil .nil ⟨20, 3, oN3⟩
 ·exact GrM.of (SC_ok fun _ _ => none) TOk.nil .nil ⟨20, 3, oN4⟩
 ·exact GrM.of (SC_ok fun _ _ => none) TOk.nil .nil ⟨20, 3, oN5⟩
 ·exact GrM.of (SC_ok fun _ _ => none) TOk.nil .nil ⟨20, 3, oN6⟩
 ·exact GrM.of (SC_ok fun _ _ => none) TOk.nil .nil ⟨20, 3, oN7⟩
 ·exact GrM.of (SC_ok fun _ _ => none) TOk.nil .nil ⟨20, 3, oN8⟩
 ·exact GrM.of (SC_ok fun _ _ => none) TOk.nil .nil ⟨20, 3, oN9⟩
 ·exact GrM.of (SC_ok fun _ _ => none) TOk.nil .nil ⟨20, 3, oN10⟩
 ·exact GrM.of (SC_ok fun _ _ => none) TOk.nil .nil ⟨20, 3, oN11⟩
 ·exact GrM.of (SC_ok fun _ _ => none) TOk.nil .nil ⟨20, 3, oN12⟩
 ·exact GrM.of (SC_ok fun _ _ => none) TOk.nil .nil ⟨20, 3, oN13⟩
 ·exact GrM.of (SC_ok fun _ _ => none) TOk.nil .nil ⟨20, 3, oN14⟩
 ·exact GrM.of (SC_ok fun _ _ => none) TOk.nil .nil ⟨20, 3, oN15⟩
 ·exact GrM.of (SC_ok fun _ _ => none) TOk.nil .nil ⟨20, 3, oN16⟩
theorem eOf0_ok (r : Mem) {m : Nat} (h1 : 1 ≤ m) (hm16 : m ≤ 16) : EOk (SC r) 6 (eOf0 m (m_ws (nbN m (zE []) 0))) := fun args A hgd F hF k γ W args' hw hR ha => by
 refine ⟨fun hcc => ?_, fun h => nomatch h⟩
 have hs := @of_decide_eq_true _ (Classical.propDecidable _) hgd
 subst hs
 have := (ofN_ok h1 hm16).ends (args := [I (m : Nat), .slice none 0 0]) (γ := γ) (A := A) (ofV_row (by omega)) (ws_gnd _) hF hw (fun b j u h => nomatch h) (k := k) (args' := args') ?_ ha
 ·exact this
 ·rw [ha.eq_of_gnds rfl]
  exact VsRel.of_gnds noG _ rfl
theorem eTm1_ok (r : Mem) {a0 : List Value} (hro : roVs a0 = true) {m : Nat} {p : Nat × Nat} {l : List (Nat × Nat)} (h : SOk (SC r) 5 a0 emptyA fun v A => v = vTa m (p :: l) ∧ A = mkA (oL (p :: l))) : EOk (SC r) 5 (eTm1 a0 m (l.length + 1) (pcE (p :: l))) := fun args A hgd F hF k γ W args' hw hR ha => by
 refine ⟨fun hcc => ?_, fun h => nomatch h⟩
 have hs := @of_decide_eq_true _ (Classical.propDecidable _) hgd
 subst hs
 have hg : GrM Tryd.prog r 5 args (vTa m (p :: l)) (rowA (pcE (p :: l)) 52 2) := GrM.ofS (C := SC r) rfl rfl h
 have hof : ofV 0 (vTa m (p :: l)) = true := by simp [vTa, vL, ofV, of1, gnd]
 exact hg.ends (γ := γ) (A := A) hof (pcE_gnd _) hF hw (hR.noG noG fun _ => rfl) (ha.of_ros hro) ha
theorem tm0_ok (r : Mem) {a0 : List Value} {m : Nat} (h : SOk (SC r) 5 a0 emptyA fun v A => v = vTa m [] ∧ A = mkA (oL [])) : GrT Tryd.prog r 5 a0 (.tuple ⟨[I (m : Nat), .slice none 0 0]⟩) :=
 GrT.ofS (C := SC r) rfl rfl rfl fun F hF k γ W args' hw hR ha => (h F hF k γ W args' hw hR ha).mono fun e W' ⟨u, B, ⟨h, _⟩, he⟩ => ⟨u, B, h, he⟩
end Go.Proofs
namespace Go.Proofs
open Go Go.Ev Go.Num
def wS (E : List (Nat × Nat)) (i : Nat) : Nat := (nbN 16 (zE E) E.length).getD i 0
theorem getD_map (ws : List Nat) (i : Nat) : (ws.map fun (w : Nat) => (w : Int)).getD i 0 = ((ws.getD i 0 : Nat) : Int) := by
 rw [List.getD_eq_getElem?_getD, List.getD_eq_getElem?_getD, List.getElem?_map]
 cases ws[i]? <;> rfl
theorem wS_lt {m : Nat} (hm16 : m ≤ 16) {E : List (Nat × Nat)} (hE : okAll (m : Int) (zE E) E.length = true) (i : Nat) : wS E i < 65536 := getD_lt (nbN_lt 16 (zE E) (n := (m : Int)) (by omega) E.length fun i hi => okAll_at hE i hi) i
def wR (m : Nat) (E : List (Nat × Nat)) (i : Nat) : Nat := (nbN m (zE E) E.length).getD i 0
theorem wR_eq {m : Nat} (hm16 : m ≤ 16) {E : List (Nat × Nat)} (hE : okAll (m : Int) (zE E) E.length = true) (i : Nat) (hi : i < m) : wS E i = wR m E i := nb_ext hm16 (zE E) E.length (fun i hi => okAll_at hE i hi) i hi
abbrev XE := Option (Nat × List Value)
noncomputable def gX (m : Nat) (x : XE) (args : List Value) (A : AW) : Bool := match args with
 | [.int .i64 n, .slice (some ⟨i, k, none⟩) l cap] => match x with
  | some (len, c) => match A.heap.get i with
   | some (.cells c' _ _ _) => m_same [.int .i64 n, .slice (some ⟨0, k, none⟩) l cap, .agg ⟨c'⟩] [I (m : Nat), .slice (some ⟨0, 0, none⟩) len unk, .agg ⟨c⟩]
   | _ => false
  | none => false
 | [.int .i64 n, .slice none 0 0] => match x with
  | none => m_same [.int .i64 n] [I (m : Nat)]
  | some _ => false
 | _ => false
noncomputable def gG (m : Nat) (g : List Value) (args : List Value) (A : AW) : Bool := match args with
 | [.slice (some ⟨i, k, none⟩) l cap] => match A.heap.get i with
  | some (.cells c' _ _ _) => m_same [.slice (some ⟨0, k, none⟩) l cap, .agg ⟨c'⟩] [.slice (some ⟨0, 0, none⟩) m m, .agg ⟨g⟩]
  | _ => false
 | _ => false
noncomputable abbrev m_sm (l : List Value) : Bool := m_same l l
def XOk (m : Nat) (E : List (Nat × Nat)) (x : XE) : Prop := (x = none ∧ E = []) ∨ x = some (E.length, pcE E)
theorem gX_use {r : Mem} (hm : Tab r) {m : Nat} {E : List (Nat × Nat)} (hL : E.length ≤ 1000000) {x : XE} (hx : XOk m E x) {a b : Value} {l : List Value} (hl : gnds l = true) {A : AW} (hg : gX m x [a, b] A = true) {γ : Gam} {W : World} (hw : WRel γ A W) (hR : Ro r γ W) {args' : Array Value} (ha : VsRel γ (a :: b :: l) args'.toList) :
  ∃ sl, VsRel noG (I (m : Nat) :: sl :: l) args'.toList ∧ ((sl = .slice none 0 0 ∧ E = []) ∨ ∃ b0 off, sl = RS2 b0 off E.length 0 ∧ rowAt (memW W) b0 off (2 * E.length) (zE E)) := by
 unfold gX at hg
 split at hg
 ·rename_i n i k l' cap heq
  simp only [List.cons.injEq, and_true] at heq
  obtain ⟨rfl, rfl⟩ := heq
  split at hg
  ·rename_i len c
   split at hg
   ·rename_i c' e f z hget
    have hs := @of_decide_eq_true _ (Classical.propDecidable _) hg
    simp only [List.cons.injEq, Value.int.injEq, Value.slice.injEq, Option.some.injEq, Addr.mk.injEq, Value.agg.injEq, Array.mk.injEq, and_true, true_and] at hs
    obtain ⟨rfl, ⟨rfl, rfl, rfl⟩, rfl⟩ := hs
    rcases hx with ⟨h, _⟩ | h
    ·cases h
    ·simp only [Option.some.injEq, Prod.mk.injEq] at h
     obtain ⟨rfl, rfl⟩ := h
     obtain ⟨b0, k', p1, p2, p3⟩ := own_mem hw hR hget (okL2_E E hL) rfl hl ha
     exact ⟨_, p1, .inr ⟨b0, k', rfl, rowE p2⟩⟩
   ·cases hg
  ·cases hg
 ·rename_i n heq
  simp only [List.cons.injEq, and_true] at heq
  obtain ⟨rfl, rfl⟩ := heq
  split at hg
  ·have hs := @of_decide_eq_true _ (Classical.propDecidable _) hg
   simp only [List.cons.injEq, Value.int.injEq, and_true, true_and] at hs
   subst hs
   rcases hx with ⟨_, h⟩ | h
   ·refine ⟨.slice none 0 0, ?_, .inl ⟨rfl, h⟩⟩
    have hgn : gnds (I (m : Nat) :: .slice none 0 0 :: l) = true := by
     show (gnd (I (m : Nat)) && (gnd (.slice none 0 0) && gnds l)) = true
     rw [hl]; rfl
    rw [ha.eq_of_gnds hgn]
    exact VsRel.of_gnds noG _ hgn
   ·cases h
  ·cases hg
 ·cases hg
theorem gX_two {m : Nat} {x : XE} {args : List Value} {A : AW} (hg : gX m x args A = true) : ∃ a b, args = [a, b] := by
 unfold gX at hg
 split at hg
 ·exact ⟨_, _, rfl⟩
 ·exact ⟨_, _, rfl⟩
 ·cases hg
abbrev gR (m : Nat) (E : List (Nat × Nat)) : List Value := m_ws (nbN m (zE E) E.length)
theorem gG_use {r : Mem} {m : Nat} (hm16 : m ≤ 16) {ws : List Nat} (hlw : ws.length = m) {a : Value} {l : List Value} (hl : gnds l = true) {A : AW} (hg : gG m (m_ws ws) [a] A = true) {γ : Gam} {W : World} (hw : WRel γ A W) (hR : Ro r γ W) {args' : Array Value} (ha : VsRel γ (a :: l) args'.toList) :
  ∃ b k', VsRel noG (RS b k' m 0 :: l) args'.toList ∧ ∀ k, k < m → memW W b (k' + k) = some (I (ws.getD k 0 : Nat)) := by
 unfold gG at hg
 split at hg
 ·rename_i i k l' cap heq
  simp only [List.cons.injEq, and_true] at heq
  subst heq
  split at hg
  ·rename_i c' e f z hget
   have hs := @of_decide_eq_true _ (Classical.propDecidable _) hg
   simp only [List.cons.injEq, Value.slice.injEq, Option.some.injEq, Addr.mk.injEq, Value.agg.injEq, Array.mk.injEq, and_true, true_and] at hs
   obtain ⟨⟨rfl, rfl, rfl⟩, rfl⟩ := hs
   exact own_ws hw hR hm16 hlw hget hl ha
  ·cases hg
 ·cases hg
theorem gG_one {m : Nat} {g : List Value} {args : List Value} {A : AW} (hg : gG m g args A = true) : ∃ a, args = [a] := by
 unfold gG at hg
 split at hg
 ·exact ⟨_, rfl⟩
 ·cases hg
theorem own_c {r : Mem} {γ : Gam} {A : AW} {W : World} (hw : WRel γ A W) (hR : Ro r γ W) {i len cap : Nat} (hcap : Nat.beq cap unkE = false) {c : List Value} {e f z : Nat} (hget : A.heap.get i = some (.cells c e f z)) {v' : Value} (hv : VRel γ (.slice (some ⟨i, 0, none⟩) len cap) v') :
  ∃ b k', VRel noG (RS b k' len 0) v' ∧ ∀ j u, c[j]? = some u → gnd u = true → memW W b (k' + j) = some u := by
 obtain ⟨b, k', c', rfl, hrd⟩ := rd_world hw hR hv hcap
 refine ⟨b, k', .sliceRo _ _ _ _ _ _ (by decide) (Nat.zero_le _), fun j u hu hg => hrd j u ?_ hg⟩
 simp only [AW.rd, AW.cell, hget]
 rw [Nat.add_eq, Nat.zero_add]
 exact hu
theorem own2 {r : Mem} {γ : Gam} {A : AW} {W : World} (hw : WRel γ A W) (hR : Ro r γ W) {i j n1 c1 n2 c2 : Nat} (h1 : Nat.beq c1 unkE = false) (h2 : Nat.beq c2 unkE = false) {ci cj : List Value} {e f z e' f' z' : Nat} (hi : A.heap.get i = some (.cells ci e f z)) (hj : A.heap.get j = some (.cells cj e' f' z')) {args' : Array Value} (ha : VsRel γ [.slice (some ⟨i, 0, none⟩) n1 c1, .slice (some ⟨j, 0, none⟩) n2 c2] args'.toList) :
  ∃ b k b' k', VsRel noG [RS b k n1 0, RS b' k' n2 0] args'.toList ∧ (∀ x u, ci[x]? = some u → gnd u = true → memW W b (k + x) = some u) ∧ ∀ x u, cj[x]? = some u → gnd u = true → memW W b' (k' + x) = some u := by
 obtain ⟨la⟩ := args'
 cases ha with
 | cons hv hrest =>
 cases hrest with
 | cons hv2 hrest =>
 cases hrest
 obtain ⟨b, k, p1, p2⟩ := own_c hw hR h1 hi hv
 obtain ⟨b', k', q1, q2⟩ := own_c hw hR h2 hj hv2
 exact ⟨b, k, b', k', .cons p1 (.cons q1 .nil), p2, q2⟩
end Go.Proofs
namespace Go.Proofs
open Go Go.Ev Go.Num
def hG (n : Int) (w : Nat → Int) (e : Value) : List Value := [I n, U (w 0), U (w 1), U (w 2), U (w 3), U (w 4), U (w 5), U (w 6), U (w 7), U (w 8), U (w 9), U (w 10), U (w 11), U (w 12), U (w 13), U (w 14), U (w 15), e]
def oHg (c : List Value) (i : Nat) : Option AObj := some (.cells c 59 i 0)
def oHs (x : Int) (i : Nat) : Option AObj := some (.cells [U x] 55 i 0)
def oIn (x : Int) (i : Nat) : Option AObj := some (.cells [I x] 3 i 0)
abbrev fHc (i : Nat) : Value := .func (.func 63) ⟨[]⟩ ⟨[P0 i]⟩
theorem GrT.nns {C : Cfg} {f : Nat} {args : List Value} {v : Value} (h : GrT C.P C.ro f args v) (ha : Go.Ev.nns args = true) (A : AW) : POk C f args A v :=
 ⟨h.1, fun F hF k _ W args' _ hR hr => h.2 F hF k W args' (hR.noG noG fun _ => rfl) (VsRel.of_nns hr ha)⟩
def EdV (e : Value) : Prop := e = .slice none 0 0 ∨ ∃ b off len cap, e = .slice (some ⟨b, off, some 0⟩) len cap
theorem EdV.nn {e : Value} (h : EdV e) : Go.Ev.nn e = true := by
 rcases h with rfl | ⟨b, off, len, cap, rfl⟩ <;> rfl
abbrev wG (w : Nat → Nat) (i : Nat) : Int := ((w i : Nat) : Int)
theorem hG_get (n : Int) (w : Nat → Int) (e : Value) : ∀ i, i < 16 → (hG n w e)[Nat.add 1 (Nat.mul i 1)]? = some (U (w i))
 | 0, _ => rfl | 1, _ => rfl | 2, _ => rfl | 3, _ => rfl | 4, _ => rfl | 5, _ => rfl | 6, _ => rfl | 7, _ => rfl
 | 8, _ => rfl | 9, _ => rfl | 10, _ => rfl | 11, _ => rfl | 12, _ => rfl | 13, _ => rfl | 14, _ => rfl | 15, _ => rfl
 | i + 16, h => absurd h (by omega)
theorem hG_nn (n : Int) (w : Nat → Int) {e : Value} (h : EdV e) : m_nns (hG n w e) = true := by
 rcases h with rfl | ⟨b, off, len, cap, rfl⟩ <;> rfl
theorem aInc {a : Nat} (h : a < 1000000) : IntKind.wrap IntKind.i64 (((a : Nat) : Int) + Int.ofNat 1) = ((a + 1 : Nat) : Int) := by rw [wrI (by simp; omega)]; simp
theorem bitN (v : Nat) : m_bit ((v : Nat) : Int) = ((2 ^ v : Nat) : Int) := by unfold m_bit; rw [Int.toNat_natCast]; simp
theorem vG_of {v : Nat} (h : v < 16) : m_vG ((v : Nat) : Int) = true := by simp only [m_vG, Bool.and_eq_true, decide_eq_true_eq]; omega
theorem eSi_ok (r : Mem) : EOk (SC r) 36 (eI1 m_vG fun v => U (m_bit v)) := eI1_ok fun v h => hsn_ok r v h
theorem shlI {b : Nat} (h : b < 17) : IntKind.wrap IntKind.i64 (Int.ofNat 1 * Int.ofNat 2 ^ min b 64) = ((2 ^ b : Nat) : Int) := by
 have h1 : 2 ^ b ≤ 65536 := Nat.pow_le_pow_right (n := 2) (by decide) (show b ≤ 16 by omega)
 rw [Nat.min_eq_left (by omega), show (Int.ofNat 1 * Int.ofNat 2 ^ b : Int) = ((2 ^ b : Nat) : Int) by simp]
 generalize 2 ^ b = x at *
 exact wrI (by omega)
theorem bitR {x k : Nat} (hk : k ≤ 16) : (Int.tmod (Int.fdiv ((x : Nat) : Int) (Int.ofNat 2 ^ min k 64)) (Int.ofNat 2) == Int.ofNat 1) = x.testBit k := by
 rw [shr_nat x k (by omega), ← bt_bit]
 unfold btN
 have : ∀ x : Nat, Int.tmod (x : Int) (Int.ofNat 2) = ((x % 2 : Nat) : Int) := fun x => by
  show Int.tmod (x : Int) 2 = _
  rw [Int.tmod_eq_emod_of_nonneg (by omega)]
  omega
 rw [this]
 rcases Nat.mod_two_eq_zero_or_one (x / 2 ^ k) with h | h <;> rw [h] <;> rfl
theorem inc1 {a : Nat} (h : a < 1000000) : IntKind.wrap IntKind.i64 (((a : Nat) : Int) + Int.ofNat 1) = ((a + 1 : Nat) : Int) := by rw [wrI (by simp; omega)]; simp
noncomputable abbrev eG (n : Int) (w : Nat → Int) (k : Nat) : List Value := hG n w (.slice (some ⟨1, 0, none⟩) (k + 1) unk)
noncomputable abbrev wA1 (n : Int) (w : Nat → Int) : AW := mkA [some (.cells (hG n w (.slice none 0 0)) 59 0 0)]
noncomputable abbrev wA2 (n : Int) (w : Nat → Int) (k : Nat) (c : List Value) : AW := mkA [some (.cells (eG n w k) 59 0 0), some (.cells c 80 1 2)]
noncomputable def tHo1 (n : Int) (b off cap : Nat) (w : Nat → Int) : Tbl := tcons 22 (entAt [I n, RS2 b off 0 cap] emptyA (.tuple ⟨[.agg ⟨hG n w (.slice none 0 0)⟩, I 0]⟩) (wA1 n w)) fun _ => none
noncomputable def tHo2 (n : Int) (b off cap k : Nat) (w : Nat → Int) (c : List Value) : Tbl := tcons 22 (entAt [I n, RS2 b off (k + 1) cap] emptyA (.tuple ⟨[.agg ⟨eG n w k⟩, I 0]⟩) (wA2 n w k c)) fun _ => none
noncomputable def tHoN (n : Int) (w : Nat → Int) : Tbl := tcons 22 (entV [I n, .slice none 0 0] (.tuple ⟨[.agg ⟨hG n w (.slice none 0 0)⟩, I 0]⟩)) fun _ => none
theorem hrN (r : Mem) (n : Int) : (lvlT (SC r) (tHc [I n, .slice none 0 0] 0) .nil 1 3).call 22 [I n, .slice none 0 0] emptyA fin =
    bif m_same [I n, .slice none 0 0] [I n, .slice none 0 0] then .ret (.tuple ⟨[.agg ⟨[I n, U (Int.ofNat 0), U (Int.ofNat 0), U (Int.ofNat 0), U (Int.ofNat 0), U (Int.ofNat 0), U (Int.ofNat 0), U (Int.ofNat 0), U (Int.ofNat 0), U (Int.ofNat 0), U (Int.ofNat 0), U (Int.ofNat 0), U (Int.ofNat 0), U (Int.ofNat 0), U (Int.ofNat 0), U (Int.ofNat 0), U (Int.ofNat 0), .slice none 0 0]⟩, I (Int.ofNat 0)]⟩) (AW.mk 0 .nil .nil) else .fail 420 := by kernel_rfl
theorem hpN (r : Mem) (n : Int) : (lvlT (SC r) (fun _ => none) .nil 2 3).call 35 [I n, .slice none 0 0] emptyA fin =
    bif decide (n < 1) then .ret (I (Int.ofNat 1)) (AW.mk 0 .nil .nil) else bif decide (n > 16) then .ret (I (Int.ofNat 1)) (AW.mk 0 .nil .nil) else .ret (I (Int.ofNat 0)) (AW.mk 0 .nil .nil) := by kernel_rfl
theorem hG_zs (n : Int) (w : Nat → Int) (e : Value) : hG n w e = I n :: ([w 0, w 1, w 2, w 3, w 4, w 5, w 6, w 7, w 8, w 9, w 10, w 11, w 12, w 13, w 14, w 15].map U ++ [e]) := rfl
theorem m_hG (n : Int) {zs : List Int} (h : zs.length = 16) (e : Value) : m_hg n zs e = hG n (fun i => zs.getD i 0) e := by
 obtain ⟨z0, z1, z2, z3, z4, z5, z6, z7, z8, z9, z10, z11, z12, z13, z14, z15, rfl⟩ := list16 h
 rfl
theorem nbz_wS {m : Nat} (hm16 : m ≤ 16) {E : List (Nat × Nat)} (hE : okAll (m : Int) (zE E) E.length = true) : (fun i => (nbz (zE E) E.length).getD i 0) = wG (wS E) := by
 funext i
 rw [nbz_nat (zE E) (n := (m : Int)) (by omega) E.length fun i hi => okAll_at hE i hi, getD_map]
 rfl
theorem ck_ok {m : Nat} (h1 : 1 ≤ m) (hm16 : m ≤ 16) {E : List (Nat × Nat)} (hE : okAll (m : Int) (zE E) E.length = true) : ckG (m : Int) (zE E) E.length = 0 := by unfold ckG; rw [if_neg (by omega), if_pos hE]
theorem wS_nil (i : Nat) : wS [] i = 0 := by
 unfold wS
 rw [show (nbN 16 (zE []) ([] : List (Nat × Nat)).length) = List.replicate 16 0 from rfl, List.getD_eq_getElem?_getD, List.getElem?_replicate]
 split <;> rfl
theorem hreadN (r : Mem) {m : Nat} (h1 : 1 ≤ m) (hm16 : m ≤ 16) : GrT Tryd.prog r 22 [I (m : Nat), .slice none 0 0] (.tuple ⟨[.agg ⟨hG (m : Nat) (wG (wS [])) (.slice none 0 0)⟩, I 0]⟩) := by
 have hp : GrT Tryd.prog r 35 [I (m : Nat), .slice none 0 0] (I 0) := GrT.of (SC_ok r) TOk.nil .nil rfl ⟨2, 3, by
  rw [hpN, dF (show ¬ ((m : Nat) : Int) < 1 by omega), dF (show ¬ ((m : Nat) : Int) > 16 by omega), cond_false, cond_false]
  rfl⟩
 have hz : ∀ i, wG (wS []) i = 0 := fun i => by unfold wG; rw [wS_nil]; rfl
 refine GrT.of (SC_ok r) (show TOk (SC r) (tHc [I (m : Nat), .slice none 0 0] 0) from TOk.cons TOk.nil (entV_ok hp rfl)) .nil rfl ⟨1, 3, ?_⟩
 rw [hrN, show m_same [I (m : Nat), .slice none 0 0] [I (m : Nat), .slice none 0 0] = true from same_rfl _, cond_true]
 unfold hG
 simp only [hz]
 rfl
end Go.Proofs
namespace Go.Num
open Go.Proofs
theorem or_bit1 (r u i : Nat) : (r ||| 2 ^ u).testBit i = (r.testBit i || decide (u = i)) := by rw [Nat.testBit_or, Nat.testBit_two_pow]
theorem or_up {r u : Nat} (h : r.testBit u = false) : r < r ||| 2 ^ u := by
 have h1 : r ≤ r ||| 2 ^ u := Nat.left_le_or
 have h2 : r ≠ r ||| 2 ^ u := fun e => by
  have := or_bit1 r u u
  rw [← e, h] at this
  simp at this
 omega
def upd (d : Nat → Nat) (u x : Nat) : Nat → Nat := fun i => if i = u then x else d i
theorem upd_eq (d : Nat → Nat) (u x : Nat) : upd d u x u = x := if_pos rfl
theorem upd_ne (d : Nat → Nat) {u i : Nat} (x : Nat) (h : i ≠ u) : upd d u x i = d i := if_neg h
structure Fr (w : Nat → Nat) (r : Nat) (d b p : Nat → Nat) : Prop where
 back : ∀ v, r.testBit v = true → (d v = 0 ∧ b v = v) ∨ (∃ n, d v = n + 1 ∧ r.testBit (b v) = true ∧ d (b v) = n ∧ (w (b v)).testBit v = true)
 root : ∀ v, r.testBit v = true → p v ≤ v ∧ p (b v) = p v ∧ (d v = 0 → p v = v)
 none : ∀ v, r.testBit v = false → d v = 0
def Closed (w : Nat → Nat) (r : Nat) : Prop := ∀ v, r.testBit v = true → ∀ u, (w v).testBit u = true → r.testBit u = true
def Near (w : Nat → Nat) (d p : Nat → Nat) (v : Nat) : Prop := ∀ u, (w v).testBit u = true → d u ≤ d v + 1 ∧ p u = p v
structure FoO (w : Nat → Nat) (m i r : Nat) (d b p : Nat → Nat) : Prop where
 fr : Fr w r d b p
 lt : r < 2 ^ m
 done : ∀ j, j < i → r.testBit j = true
 cl : Closed w r
 near : ∀ v, r.testBit v = true → Near w d p v
structure FoQ (w : Nat → Nat) (m i r0 r : Nat) (q : List Nat) (d b p : Nat → Nat) : Prop where
 fr : Fr w r d b p
 lt : r < 2 ^ m
 sub : ∀ v, r0.testBit v = true → r.testBit v = true
 cl0 : Closed w r0
 less : ∀ j, j < i → r0.testBit j = true
 new : r.testBit i = true
 qin : ∀ v ∈ q, r.testBit v = true ∧ r0.testBit v = false
 own : ∀ v, r.testBit v = true → r0.testBit v = false → p v = i
 done : ∀ v, r.testBit v = true → v ∉ q → (∀ u, (w v).testBit u = true → r.testBit u = true) ∧ Near w d p v
 sort : q.Pairwise fun x y => d x ≤ d y
 level : ∀ x t, q = x :: t → ∀ v, r.testBit v = true → r0.testBit v = false → d v ≤ d x + 1
theorem fo_init (w : Nat → Nat) (m : Nat) : FoO w m 0 0 (fun _ => 0) (fun _ => 0) fun _ => 0 := by
 have z : ∀ k, (0 : Nat).testBit k = true → False := fun k h => by rw [Nat.zero_testBit] at h; exact nomatch h
 exact ⟨⟨fun v h => (z v h).elim, fun v h => (z v h).elim, fun _ _ => rfl⟩, Nat.two_pow_pos m, fun j h => absurd h (by omega), fun v h => (z v h).elim, fun v h => (z v h).elim⟩
theorem fo_skip {w : Nat → Nat} {m i r : Nat} {d b p : Nat → Nat} (h : FoO w m i r d b p) (hi : r.testBit i = true) : FoO w m (i + 1) r d b p :=
 ⟨h.fr, h.lt, fun j hj => by
  by_cases c : j = i
  ·rw [c]; exact hi
  ·exact h.done j (by omega), h.cl, h.near⟩
theorem fo_start {w : Nat → Nat} {m i r : Nat} {d b p : Nat → Nat} (h : FoO w m i r d b p) (him : i < m) (hi : r.testBit i = false) : FoQ w m i r (r ||| 2 ^ i) [i] d (upd b i i) (upd p i i) := by
 have hb : ∀ v, (r ||| 2 ^ i).testBit v = true → r.testBit v = true ∨ v = i := fun v hv => by
  rw [or_bit1, Bool.or_eq_true, decide_eq_true_eq] at hv
  rcases hv with h | h
  ·exact .inl h
  ·exact .inr h.symm
 have hs : ∀ v, r.testBit v = true → (r ||| 2 ^ i).testBit v = true := fun v hv => by rw [or_bit1, hv]; rfl
 have hni : ∀ v, r.testBit v = true → v ≠ i := fun v hv e => by rw [e, hi] at hv; exact nomatch hv
 have hni2 : (r ||| 2 ^ i).testBit i = true := by rw [or_bit1]; simp
 have hd : d i = 0 := h.fr.none i hi
 refine ⟨⟨fun v hv => ?_, fun v hv => ?_, fun v hv => ?_⟩, ?_, hs, h.cl, h.done, hni2, ?_, ?_, ?_, ?_, ?_⟩
 ·rcases hb v hv with c | rfl
  ·rw [upd_ne b i (hni v c)]
   rcases h.fr.back v c with c1 | ⟨n, c1, c2, c3, c4⟩
   ·exact .inl c1
   ·exact .inr ⟨n, c1, hs _ c2, c3, c4⟩
  ·exact .inl ⟨hd, upd_eq b v v⟩
 ·rcases hb v hv with c | rfl
  ·obtain ⟨c1, c2, c3⟩ := h.fr.root v c
   rw [upd_ne b i (hni v c), upd_ne p i (hni v c)]
   have : b v ≠ i := by
    rcases h.fr.back v c with c1 | ⟨n, _, c2, _, _⟩
    ·rw [c1.2]; exact hni v c
    ·exact hni _ c2
   rw [upd_ne p i this]
   exact ⟨c1, c2, c3⟩
  ·rw [upd_eq, upd_eq, upd_eq]
   exact ⟨Nat.le_refl _, rfl, fun _ => rfl⟩
 ·exact h.fr.none v (by rw [or_bit1, Bool.or_eq_false_iff] at hv; exact hv.1)
 ·exact Nat.or_lt_two_pow h.lt (Nat.pow_lt_pow_right (by decide) him)
 ·intro v hv
  rw [List.mem_singleton] at hv
  subst hv
  exact ⟨hni2, hi⟩
 ·intro v h1 h2
  rcases hb v h1 with c | rfl
  ·rw [c] at h2; exact nomatch h2
  ·exact upd_eq p v v
 ·intro v h1 h2
  rcases hb v h1 with c | rfl
  ·refine ⟨fun u hu => hs _ (h.cl v c u hu), fun u hu => ?_⟩
   rw [upd_ne p i (hni v c), upd_ne p i (hni u (h.cl v c u hu))]
   exact h.near v c u hu
  ·exact absurd (List.mem_singleton.2 rfl) h2
 ·exact List.pairwise_singleton _ _
 ·intro x t e v h1 h2
  simp only [List.cons.injEq] at e
  rcases hb v h1 with c | rfl
  ·rw [c] at h2; exact nomatch h2
  ·omega
theorem fo_push {w : Nat → Nat} {m i r0 r : Nat} {x : Nat} {t : List Nat} {d b p : Nat → Nat} (h : FoQ w m i r0 r (x :: t) d b p) {u : Nat} (hum : u < m) (hu : (w x).testBit u = true) (hr : r.testBit u = false) : FoQ w m i r0 (r ||| 2 ^ u) (x :: t ++ [u]) (upd d u (d x + 1)) (upd b u x) (upd p u i) := by
 have hb : ∀ v, (r ||| 2 ^ u).testBit v = true → r.testBit v = true ∨ v = u := fun v hv => by
  rw [or_bit1, Bool.or_eq_true, decide_eq_true_eq] at hv
  rcases hv with h | h
  ·exact .inl h
  ·exact .inr h.symm
 have hs : ∀ v, r.testBit v = true → (r ||| 2 ^ u).testBit v = true := fun v hv => by rw [or_bit1, hv]; rfl
 have hn : ∀ v, r.testBit v = true → v ≠ u := fun v hv e => by rw [e, hr] at hv; exact nomatch hv
 have hnu : (r ||| 2 ^ u).testBit u = true := by rw [or_bit1]; simp
 have hx := h.qin x (List.mem_cons_self ..)
 have hxu := hn x hx.1
 have hr0 : r0.testBit u = false := by
  cases c : r0.testBit u with
  | false => rfl
  | true => rw [h.sub u c] at hr; exact nomatch hr
 have hq : ∀ v ∈ x :: t, v ≠ u := fun v hv => hn v (h.qin v hv).1
 refine ⟨⟨fun v hv => ?_, fun v hv => ?_, fun v hv => ?_⟩, ?_, fun v hv => hs v (h.sub v hv), h.cl0, h.less, hs i h.new, ?_, ?_, ?_, ?_, ?_⟩
 ·rcases hb v hv with c | rfl
  ·rw [upd_ne b x (hn v c), upd_ne d _ (hn v c)]
   rcases h.fr.back v c with c1 | ⟨n, c1, c2, c3, c4⟩
   ·exact .inl c1
   ·exact .inr ⟨n, c1, hs _ c2, by rw [upd_ne d _ (hn _ c2)]; exact c3, c4⟩
  ·rw [upd_eq, upd_eq]
   exact .inr ⟨d x, rfl, hs x hx.1, upd_ne d _ hxu, hu⟩
 ·rcases hb v hv with c | rfl
  ·obtain ⟨c1, c2, c3⟩ := h.fr.root v c
   rw [upd_ne b x (hn v c), upd_ne p i (hn v c), upd_ne d _ (hn v c)]
   have : b v ≠ u := by
    rcases h.fr.back v c with c1 | ⟨n, _, c2, _, _⟩
    ·rw [c1.2]; exact hn v c
    ·exact hn _ c2
   rw [upd_ne p i this]
   exact ⟨c1, c2, c3⟩
  ·rw [upd_eq, upd_eq, upd_eq, upd_ne p i hxu]
   refine ⟨?_, h.own x hx.1 hx.2, fun e => absurd e (by omega)⟩
   rcases Nat.lt_or_ge v i with c | c
   ·rw [h.less v c] at hr0; exact nomatch hr0
   ·exact c
 ·rw [or_bit1, Bool.or_eq_false_iff, decide_eq_false_iff_not] at hv
  rw [upd_ne d _ (fun e => hv.2 e.symm)]
  exact h.fr.none v hv.1
 ·exact Nat.or_lt_two_pow h.lt (Nat.pow_lt_pow_right (by decide) hum)
 ·intro v hv
  rw [List.mem_append, List.mem_singleton] at hv
  rcases hv with hv | rfl
  ·exact ⟨hs v (h.qin v hv).1, (h.qin v hv).2⟩
  ·exact ⟨hnu, hr0⟩
 ·intro v h1 h2
  rcases hb v h1 with c | rfl
  ·rw [upd_ne p i (hn v c)]; exact h.own v c h2
  ·exact upd_eq p v i
 ·intro v h1 h2
  rw [List.mem_append, List.mem_singleton] at h2
  rcases hb v h1 with c | rfl
  ·obtain ⟨c1, c2⟩ := h.done v c fun e => h2 (.inl e)
   refine ⟨fun y hy => hs _ (c1 y hy), fun y hy => ?_⟩
   rw [upd_ne p i (hn v c), upd_ne p i (hn y (c1 y hy)), upd_ne d _ (hn v c), upd_ne d _ (hn y (c1 y hy))]
   exact c2 y hy
  ·exact absurd (.inr rfl) h2
 ·rw [List.pairwise_append]
  refine ⟨?_, List.pairwise_singleton _ _, ?_⟩
  ·refine List.Pairwise.imp_of_mem ?_ h.sort
   intro a c ha hc hac
   rw [upd_ne d _ (hq a ha), upd_ne d _ (hq c hc)]
   exact hac
  ·intro a ha c hc
   rw [List.mem_singleton] at hc
   subst hc
   rw [upd_ne d _ (hq a ha), upd_eq]
   exact h.level x t rfl a (h.qin a ha).1 (h.qin a ha).2
 ·intro x' t' e v h1 h2
  simp only [List.cons_append, List.cons.injEq] at e
  obtain ⟨rfl, _⟩ := e
  rw [upd_ne d _ hxu]
  rcases hb v h1 with c | rfl
  ·rw [upd_ne d _ (hn v c)]; exact h.level x t rfl v c h2
  ·rw [upd_eq]; exact Nat.le_refl _
theorem fo_pop {w : Nat → Nat} {m i r0 r : Nat} (hw : Nbs w m) {x : Nat} {t : List Nat} {d b p : Nat → Nat} (h : FoQ w m i r0 r (x :: t) d b p) (ha : ∀ u, (w x).testBit u = true → r.testBit u = true) : FoQ w m i r0 r t d b p := by
 have hx := h.qin x (List.mem_cons_self ..)
 refine ⟨h.fr, h.lt, h.sub, h.cl0, h.less, h.new, fun v hv => h.qin v (List.mem_cons_of_mem _ hv), h.own, fun v hv hq => ?_, (List.pairwise_cons.1 h.sort).2, fun x' t' e v h1 h2 => ?_⟩
 ·by_cases c : v = x
  ·subst c
   refine ⟨ha, fun u hu => ?_⟩
   have h0 : r0.testBit u = false := by
    cases c : r0.testBit u with
    | false => rfl
    | true =>
     have := h.cl0 u c v (hw.sym v u hu)
     rw [hx.2] at this
     exact nomatch this
   exact ⟨h.level v t rfl u (ha u hu) h0, by rw [h.own u (ha u hu) h0, h.own v hx.1 hx.2]⟩
  ·exact h.done v hv fun e => by
    rw [List.mem_cons] at e
    rcases e with e | e
    ·exact c e
    ·exact hq e
 ·have h3 := h.level x t rfl v h1 h2
  have h4 := (List.pairwise_cons.1 h.sort).1 x' (by rw [e]; exact List.mem_cons_self ..)
  omega
theorem fo_end {w : Nat → Nat} {m i r0 r : Nat} {d b p : Nat → Nat} (h : FoQ w m i r0 r [] d b p) : FoO w m (i + 1) r d b p :=
 ⟨h.fr, h.lt, fun j hj => by
  by_cases c : j = i
  ·rw [c]; exact h.new
  ·exact h.sub j (h.less j (by omega)), fun v hv => (h.done v hv (fun e => nomatch e)).1, fun v hv => (h.done v hv (fun e => nomatch e)).2⟩
structure FoE (w : Nat → Nat) (m : Nat) (d b p : Nat → Nat) : Prop where
 back : ∀ v, v < m → (d v = 0 ∧ b v = v) ∨ (∃ n, d v = n + 1 ∧ b v < m ∧ d (b v) = n ∧ (w (b v)).testBit v = true)
 root : ∀ v, v < m → p v ≤ v ∧ p (b v) = p v ∧ (d v = 0 → p v = v)
 near : ∀ v, v < m → Near w d p v
theorem fo_all {w : Nat → Nat} {m r : Nat} {d b p : Nat → Nat} (h : FoO w m m r d b p) : FoE w m d b p := by
 have hlt : ∀ v, r.testBit v = true → v < m := fun v hv => by
  rcases Nat.lt_or_ge v m with c | c
  ·exact c
  ·rw [high h.lt c] at hv; exact nomatch hv
 refine ⟨fun v hv => ?_, fun v hv => h.fr.root v (h.done v hv), fun v hv => h.near v (h.done v hv)⟩
 rcases h.fr.back v (h.done v hv) with c | ⟨n, c1, c2, c3, c4⟩
 ·exact .inl c
 ·exact .inr ⟨n, c1, hlt _ c2, c3, c4⟩
/-! ### the reference's two sides -/
inductive Wk (w : Nat → Nat) (i : Nat) : Nat → Bool → Prop
 | base : Wk w i i false
 | step {k u : Nat} {c : Bool} : Wk w i k c → (w k).testBit u = true → Wk w i u (!c)
def Rt (w : Nat → Nat) (i : Nat) : Prop := ∀ j c, Wk w i j c → i ≤ j
structure SdE (w : Nat → Nat) (m l r : Nat) : Prop where
 cov : ∀ i, i < m → l.testBit i = true ∨ r.testBit i = true
 llt : l < 2 ^ m
 rlt : r < 2 ^ m
 cl : ∀ k, l.testBit k = true → ∀ u, (w k).testBit u = true → r.testBit u = true
 cr : ∀ k, r.testBit k = true → ∀ u, (w k).testBit u = true → l.testBit u = true
 sl : ∀ k, l.testBit k = true → ∃ i, i < m ∧ Rt w i ∧ Wk w i k false
 sr : ∀ k, r.testBit k = true → ∃ i, i < m ∧ Rt w i ∧ Wk w i k true
theorem fo_walk {w : Nat → Nat} {m : Nat} (hw : Nbs w m) {d b p : Nat → Nat} (h : FoE w m d b p) : ∀ n v, v < m → d v = n → ∀ i c, Wk w i v c → (∃ c', Wk w i (p v) c') ∧ d (p v) = 0 ∧ p v < m
 | 0, v, hv, hd, i, c, hk => by
  have := (h.root v hv).2.2 hd
  rw [this]
  exact ⟨⟨c, hk⟩, hd, hv⟩
 | n + 1, v, hv, hd, i, c, hk => by
  rcases h.back v hv with c1 | ⟨k, c1, c2, c3, c4⟩
  ·omega
  ·have := fo_walk hw h n (b v) c2 (by omega) i _ (hk.step (hw.sym _ _ c4))
   rw [(h.root v hv).2.1] at this
   exact this
theorem rt_zero {w : Nat → Nat} {m : Nat} (hw : Nbs w m) {d b p : Nat → Nat} (h : FoE w m d b p) {i : Nat} (hi : i < m) (hr : Rt w i) : d i = 0 := by
 obtain ⟨⟨c, h1⟩, h2, h3⟩ := fo_walk hw h (d i) i hi rfl i _ .base
 have h4 := hr _ _ h1
 have h5 := (h.root i hi).1
 rw [show p i = i by omega] at h2
 exact h2
def NoLv (w : Nat → Nat) (m : Nat) (d : Nat → Nat) : Prop := ∀ v u, v < m → (w v).testBit u = true → d v ≠ d u
theorem nl_par {w : Nat → Nat} {m : Nat} (hw : Nbs w m) {d b p : Nat → Nat} (h : FoE w m d b p) (hn : NoLv w m d) {i : Nat} (hi : i < m) {k : Nat} {c : Bool} (hk : Wk w i k c) : k < m ∧ (d k + d i) % 2 = if c = true then 1 else 0 := by
 induction hk with
 | base => exact ⟨hi, by simp; omega⟩
 | step h1 h2 ih =>
  rename_i k u c
  obtain ⟨hkm, ih⟩ := ih
  have hum := (hw.low k u h2).2
  have e1 := (h.near k hkm u h2).1
  have e2 := (h.near u hum k (hw.sym k u h2)).1
  have e3 := hn k u hkm h2
  refine ⟨hum, ?_⟩
  cases c <;> simp at ih ⊢ <;> omega
theorem sd_two {w : Nat → Nat} {m : Nat} (hw : Nbs w m) {d b p : Nat → Nat} (h : FoE w m d b p) (hn : NoLv w m d) {l r : Nat} (hs : SdE w m l r) : l &&& r = 0 ∧ ∀ k, k < m → l.testBit k = decide (d k % 2 = 0) := by
 have hl : ∀ k, l.testBit k = true → d k % 2 = 0 := fun k hk => by
  obtain ⟨i, hi, h1, h2⟩ := hs.sl k hk
  have h3 := (nl_par hw h hn hi h2).2
  have h4 := rt_zero hw h hi h1
  simp at h3; omega
 have hr : ∀ k, r.testBit k = true → d k % 2 = 1 := fun k hk => by
  obtain ⟨i, hi, h1, h2⟩ := hs.sr k hk
  have h3 := (nl_par hw h hn hi h2).2
  have h4 := rt_zero hw h hi h1
  simp at h3; omega
 refine ⟨and_zero.2 fun v h1 => ?_, fun k hk => ?_⟩
 ·cases c : r.testBit v with
  | false => rfl
  | true => have := hl v h1; have := hr v c; omega
 ·by_cases c : d k % 2 = 0
  ·rw [decide_eq_true c]
   rcases hs.cov k hk with c1 | c1
   ·exact c1
   ·have := hr k c1; omega
  ·rw [decide_eq_false c]
   cases c1 : l.testBit k with
   | false => rfl
   | true => exact absurd (hl k c1) c
theorem sd_odd {w : Nat → Nat} {m : Nat} (hw : Nbs w m) {d b p : Nat → Nat} (h : FoE w m d b p) {l r : Nat} (hs : SdE w m l r) {v u : Nat} (hv : v < m) (hvu : (w v).testBit u = true) (hd : d v = d u) : l &&& r ≠ 0 := fun h0 => by
 have h0 := and_zero.1 h0
 have hum := (hw.low v u hvu).2
 have opp : ∀ a c, a < m → (w a).testBit c = true → l.testBit c = !l.testBit a := fun a c ha hac => by
  cases e : l.testBit a with
  | true =>
   have h1 := hs.cl a e c hac
   cases e2 : l.testBit c with
   | false => rfl
   | true => rw [h0 c e2] at h1; exact nomatch h1
  | false =>
   have h1 : r.testBit a = true := by
    rcases hs.cov a ha with c1 | c1
    ·rw [e] at c1; exact nomatch c1
    ·exact c1
   exact hs.cr a h1 c hac
 have par : ∀ n a, a < m → d a = n → l.testBit a = if n % 2 = 0 then l.testBit (p a) else !l.testBit (p a) := fun n => by
  induction n with
  | zero => intro a ha e; rw [(h.root a ha).2.2 e]; simp
  | succ n ih =>
   intro a ha e
   rcases h.back a ha with c1 | ⟨k, c1, c2, c3, c4⟩
   ·omega
   ·have h1 := ih (b a) c2 (by omega)
    rw [(h.root a ha).2.1] at h1
    rw [opp (b a) a c2 c4, h1]
    by_cases c : n % 2 = 0
    ·rw [if_pos c, if_neg (by omega)]
    ·rw [if_neg c, if_pos (by omega), Bool.not_not]
 have h1 := par _ v hv rfl
 have h2 := par _ u hum rfl
 rw [(h.near v hv u hvu).2, ← hd, ← h1] at h2
 rw [opp v u hv hvu] at h2
 cases e : l.testBit v <;> rw [e] at h2 <;> exact nomatch h2
def sdK (w : Nat → Nat) (k : Nat) (s : Nat × Nat) : Nat × Nat :=
 let r := if s.1.testBit k = true ∧ anN (w k) s.2 ≠ 0 then s.2 ||| w k else s.2
 (if r.testBit k = true ∧ anN (w k) s.1 ≠ 0 then s.1 ||| w k else s.1, r)
def sdP (w : Nat → Nat) (s : Nat × Nat) : Nat → Nat × Nat
 | 0 => s
 | k + 1 => sdK w k (sdP w s k)
def sdC (w : Nat → Nat) (m : Nat) : Nat → Nat × Nat → Nat × Nat
 | 0, s => s
 | f + 1, s => if sdP w s m = s then s else sdC w m f (sdP w s m)
def sdI (w : Nat → Nat) (m : Nat) : Nat → Nat × Nat
 | 0 => (0, 0)
 | i + 1 => if (sdI w m i).1.testBit i = true ∨ (sdI w m i).2.testBit i = true then sdI w m i else sdC w m 1000000 ((sdI w m i).1 ||| 2 ^ i, (sdI w m i).2)
theorem or_an {a b : Nat} (h : anN b a ≠ 0) : a < a ||| b := by
 have h1 : a ≤ a ||| b := Nat.left_le_or
 have h2 : a ≠ a ||| b := fun e => h (by
  rw [an_zero, in_bit]
  intro v hv
  rw [e, Nat.testBit_or, hv, Bool.or_true])
 omega
theorem or_an0 {a b : Nat} (h : anN b a = 0) : ∀ v, b.testBit v = true → a.testBit v = true := in_bit.1 (an_zero.1 h)
theorem ite_ind {p : Prop} [Decidable p] {P : Nat → Prop} {a b : Nat} (h1 : P a) (h2 : P b) : P (if p then a else b) := by split <;> assumption
theorem sdK_le (w : Nat → Nat) (k : Nat) (s : Nat × Nat) : s.1 ≤ (sdK w k s).1 ∧ s.2 ≤ (sdK w k s).2 := by
 unfold sdK
 constructor
 ·exact ite_ind (P := fun x => s.1 ≤ x) Nat.left_le_or (Nat.le_refl _)
 ·exact ite_ind (P := fun x => s.2 ≤ x) Nat.left_le_or (Nat.le_refl _)
theorem sdP_le (w : Nat → Nat) (s : Nat × Nat) : ∀ k, s.1 ≤ (sdP w s k).1 ∧ s.2 ≤ (sdP w s k).2
 | 0 => ⟨Nat.le_refl _, Nat.le_refl _⟩
 | k + 1 => by
  have h1 := sdP_le w s k
  have h2 := sdK_le w k (sdP w s k)
  exact ⟨Nat.le_trans h1.1 h2.1, Nat.le_trans h1.2 h2.2⟩
theorem pairE {s t : Nat × Nat} (h1 : s.1 = t.1) (h2 : s.2 = t.2) : s = t := Prod.ext h1 h2
theorem sdP_same {w : Nat → Nat} {s : Nat × Nat} {m : Nat} (h : sdP w s m = s) : ∀ k, k ≤ m → sdP w s k = s := fun k hk => by
 have mono : ∀ d, (sdP w s k).1 ≤ (sdP w s (k + d)).1 ∧ (sdP w s k).2 ≤ (sdP w s (k + d)).2 := fun d => by
  induction d with
  | zero => exact ⟨Nat.le_refl _, Nat.le_refl _⟩
  | succ d ih =>
   have h2 := sdK_le w (k + d) (sdP w s (k + d))
   exact ⟨Nat.le_trans ih.1 h2.1, Nat.le_trans ih.2 h2.2⟩
 have h1 := mono (m - k)
 rw [show k + (m - k) = m by omega, h] at h1
 have h2 := sdP_le w s k
 exact pairE (by omega) (by omega)
structure SdS (w : Nat → Nat) (m : Nat) (s : Nat × Nat) : Prop where
 llt : s.1 < 2 ^ m
 rlt : s.2 < 2 ^ m
 sl : ∀ k, s.1.testBit k = true → ∃ i, i < m ∧ Rt w i ∧ Wk w i k false
 sr : ∀ k, s.2.testBit k = true → ∃ i, i < m ∧ Rt w i ∧ Wk w i k true
theorem sdK_ok {w : Nat → Nat} {m : Nat} (hw : Nbs w m) (hwl : ∀ i, w i < 2 ^ m) {k : Nat} {s : Nat × Nat} (h : SdS w m s) : SdS w m (sdK w k s) := by
 have hr : SdS w m (s.1, if s.1.testBit k = true ∧ anN (w k) s.2 ≠ 0 then s.2 ||| w k else s.2) := by
  by_cases c : s.1.testBit k = true ∧ anN (w k) s.2 ≠ 0
  ·rw [if_pos c]
   refine ⟨h.llt, Nat.or_lt_two_pow h.rlt (hwl k), h.sl, fun v hv => ?_⟩
   have hv : (s.2 ||| w k).testBit v = true := hv
   rw [Nat.testBit_or, Bool.or_eq_true] at hv
   rcases hv with hv | hv
   ·exact h.sr v hv
   ·obtain ⟨i, h1, h2, h3⟩ := h.sl k c.1
    exact ⟨i, h1, h2, h3.step hv⟩
  ·rw [if_neg c]; exact h
 unfold sdK
 generalize (if s.1.testBit k = true ∧ anN (w k) s.2 ≠ 0 then s.2 ||| w k else s.2) = r at *
 show SdS w m (if r.testBit k = true ∧ anN (w k) s.1 ≠ 0 then s.1 ||| w k else s.1, r)
 by_cases c : r.testBit k = true ∧ anN (w k) s.1 ≠ 0
 ·rw [if_pos c]
  refine ⟨Nat.or_lt_two_pow h.llt (hwl k), hr.rlt, fun v hv => ?_, hr.sr⟩
  have hv : (s.1 ||| w k).testBit v = true := hv
  rw [Nat.testBit_or, Bool.or_eq_true] at hv
  rcases hv with hv | hv
  ·exact h.sl v hv
  ·obtain ⟨i, h1, h2, h3⟩ := hr.sr k c.1
   exact ⟨i, h1, h2, h3.step hv⟩
 ·rw [if_neg c]; exact hr
theorem sdP_ok {w : Nat → Nat} {m : Nat} (hw : Nbs w m) (hwl : ∀ i, w i < 2 ^ m) {s : Nat × Nat} (h : SdS w m s) : ∀ k, SdS w m (sdP w s k)
 | 0 => h
 | k + 1 => sdK_ok hw hwl (sdP_ok hw hwl h k)
def SdCl (w : Nat → Nat) (s : Nat × Nat) : Prop := (∀ k, s.1.testBit k = true → ∀ u, (w k).testBit u = true → s.2.testBit u = true) ∧ (∀ k, s.2.testBit k = true → ∀ u, (w k).testBit u = true → s.1.testBit u = true)
theorem sdP_cl {w : Nat → Nat} {m : Nat} (hw : Nbs w m) {s : Nat × Nat} (h : sdP w s m = s) : SdCl w s := by
 have hs := sdP_same h
 have hk : ∀ k, k < m → sdK w k s = s := fun k hk => by
  have h1 := hs (k + 1) (by omega)
  rw [sdP, hs k (by omega)] at h1
  exact h1
 have h2 : ∀ k, k < m → (if s.1.testBit k = true ∧ anN (w k) s.2 ≠ 0 then s.2 ||| w k else s.2) = s.2 := fun k c => congrArg Prod.snd (hk k c)
 have h1 : ∀ k, k < m → (if s.2.testBit k = true ∧ anN (w k) s.1 ≠ 0 then s.1 ||| w k else s.1) = s.1 := fun k c => by
  have := congrArg Prod.fst (hk k c)
  unfold sdK at this
  rw [h2 k c] at this
  exact this
 constructor
 ·intro k hk' u hu
  have hkm := (hw.low k u hu).1
  by_cases c : anN (w k) s.2 = 0
  ·exact or_an0 c u hu
  ·have h3 := h2 k hkm
   rw [if_pos ⟨hk', c⟩] at h3
   have := or_an c
   omega
 ·intro k hk' u hu
  have hkm := (hw.low k u hu).1
  by_cases c : anN (w k) s.1 = 0
  ·exact or_an0 c u hu
  ·have h3 := h1 k hkm
   rw [if_pos ⟨hk', c⟩] at h3
   have := or_an c
   omega
theorem sdC_ok {w : Nat → Nat} {m : Nat} (hm : m ≤ 16) (hw : Nbs w m) (hwl : ∀ i, w i < 2 ^ m) : ∀ f s, SdS w m s → 200000 ≤ f + s.1 + s.2 → SdS w m (sdC w m f s) ∧ SdCl w (sdC w m f s) ∧ s.1 ≤ (sdC w m f s).1 ∧ s.2 ≤ (sdC w m f s).2 ∧ (∀ v, s.1.testBit v = true → (sdC w m f s).1.testBit v = true) ∧ (∀ v, s.2.testBit v = true → (sdC w m f s).2.testBit v = true)
 | 0, s, h, hf => by
  have hA : 2 ^ m ≤ 65536 := Nat.pow_le_pow_right (n := 2) (by decide) hm
  have := h.llt
  have := h.rlt
  omega
 | f + 1, s, h, hf => by
  rw [sdC]
  by_cases c : sdP w s m = s
  ·rw [if_pos c]
   exact ⟨h, sdP_cl hw c, Nat.le_refl _, Nat.le_refl _, fun _ h => h, fun _ h => h⟩
  ·rw [if_neg c]
   have h1 := sdP_le w s m
   have h2 : ¬ ((sdP w s m).1 = s.1 ∧ (sdP w s m).2 = s.2) := fun e => c (pairE e.1 e.2)
   obtain ⟨i1, i2, i3, i4, i5, i6⟩ := sdC_ok hm hw hwl f (sdP w s m) (sdP_ok hw hwl h m) (by omega)
   have sub : ∀ k, (∀ v, s.1.testBit v = true → (sdP w s k).1.testBit v = true) ∧ (∀ v, s.2.testBit v = true → (sdP w s k).2.testBit v = true) := fun k => by
    induction k with
    | zero => exact ⟨fun _ h => h, fun _ h => h⟩
    | succ k ih =>
     constructor
     ·intro v hv
      have := ih.1 v hv
      exact ite_ind (P := fun x => Nat.testBit x v = true) (by rw [Nat.testBit_or, this]; rfl) this
     ·intro v hv
      have := ih.2 v hv
      exact ite_ind (P := fun x => Nat.testBit x v = true) (by rw [Nat.testBit_or, this]; rfl) this
   exact ⟨i1, i2, by omega, by omega, fun v hv => i5 v ((sub m).1 v hv), fun v hv => i6 v ((sub m).2 v hv)⟩
theorem wk_out {w : Nat → Nat} {m : Nat} (hw : Nbs w m) {s : Nat × Nat} (hc : SdCl w s) {i : Nat} (hi : ¬ (s.1.testBit i = true ∨ s.2.testBit i = true)) {k : Nat} {c : Bool} (h : Wk w i k c) : ¬ (s.1.testBit k = true ∨ s.2.testBit k = true) := by
 induction h with
 | base => exact hi
 | step h1 h2 ih =>
  rename_i k u c
  intro e
  rcases e with e | e
  ·exact ih (.inr (hc.1 u e k (hw.sym k u h2)))
  ·exact ih (.inl (hc.2 u e k (hw.sym k u h2)))
theorem sdI_ok {w : Nat → Nat} {m : Nat} (hm : m ≤ 16) (hw : Nbs w m) (hwl : ∀ i, w i < 2 ^ m) : ∀ i, i ≤ m → SdS w m (sdI w m i) ∧ SdCl w (sdI w m i) ∧ ∀ j, j < i → (sdI w m i).1.testBit j = true ∨ (sdI w m i).2.testBit j = true
 | 0, _ => by
  have z : ∀ k, (0 : Nat).testBit k = true → False := fun k h => by rw [Nat.zero_testBit] at h; exact nomatch h
  exact ⟨⟨Nat.two_pow_pos m, Nat.two_pow_pos m, fun k h => (z k h).elim, fun k h => (z k h).elim⟩, ⟨fun k h => (z k h).elim, fun k h => (z k h).elim⟩, fun j h => absurd h (by omega)⟩
 | i + 1, hi => by
  obtain ⟨h1, h2, h3⟩ := sdI_ok hm hw hwl i (by omega)
  rw [sdI]
  by_cases c : (sdI w m i).1.testBit i = true ∨ (sdI w m i).2.testBit i = true
  ·rw [if_pos c]
   refine ⟨h1, h2, fun j hj => ?_⟩
   by_cases e : j = i
   ·rw [e]; exact c
   ·exact h3 j (by omega)
  ·rw [if_neg c]
   have hrt : Rt w i := fun j c' hk => by
    have := wk_out hw h2 c hk
    rcases Nat.lt_or_ge j i with e | e
    ·exact absurd (h3 j e) this
    ·exact e
   have hS : SdS w m ((sdI w m i).1 ||| 2 ^ i, (sdI w m i).2) := ⟨Nat.or_lt_two_pow h1.llt (Nat.pow_lt_pow_right (by decide) (by omega)), h1.rlt, fun k hk => by
    have hk : ((sdI w m i).1 ||| 2 ^ i).testBit k = true := hk
    rw [or_bit1, Bool.or_eq_true, decide_eq_true_eq] at hk
    rcases hk with hk | rfl
    ·exact h1.sl k hk
    ·exact ⟨i, by omega, hrt, .base⟩, h1.sr⟩
   obtain ⟨i1, i2, _, _, i5, i6⟩ := sdC_ok hm hw hwl 1000000 _ hS (by omega)
   refine ⟨i1, i2, fun j hj => ?_⟩
   by_cases e : j = i
   ·subst e
    exact .inl (i5 j (by show ((sdI w m j).1 ||| 2 ^ j).testBit j = true; rw [or_bit1]; simp))
   ·rcases h3 j (by omega) with h | h
    ·exact .inl (i5 j (by show ((sdI w m i).1 ||| 2 ^ i).testBit j = true; rw [or_bit1, h]; rfl))
    ·exact .inr (i6 j h)
theorem sdI_end {w : Nat → Nat} {m : Nat} (hm : m ≤ 16) (hw : Nbs w m) (hwl : ∀ i, w i < 2 ^ m) : SdE w m (sdI w m m).1 (sdI w m m).2 := by
 obtain ⟨h1, h2, h3⟩ := sdI_ok hm hw hwl m (Nat.le_refl _)
 exact ⟨h3, h1.llt, h1.rlt, h2.1, h2.2, h1.sl, h1.sr⟩
end Go.Num
namespace Go.Proofs
open Go Go.Ev Go.Num
noncomputable def cFo : Code := bodyOf S0 39
noncomputable def Fo_0 : Code := (lc cFo)
noncomputable def Fo_1 : Code := (lc (rc cFo))
noncomputable def Fo_2 : Code := (lc (rc (rc cFo)))
noncomputable def Fo_3 : Code := (lc (lc (rc (rc (rc cFo)))))
noncomputable def Fo_4 : Code := (lc (ic (ic (rc (lc (rc (rc (rc cFo))))))))
noncomputable def Fo_5 : Code := (lc (rc (ic (ic (rc (lc (rc (rc (rc cFo)))))))))
noncomputable def Fo_6 : Code := (lc (ic (lc (rc (rc (ic (ic (rc (lc (rc (rc (rc cFo))))))))))))
noncomputable def Fo_7 : Code := (lc (rc (ic (lc (rc (rc (ic (ic (rc (lc (rc (rc (rc cFo)))))))))))))
noncomputable def Fo_8 : Code := (lc (rc (rc (ic (lc (rc (rc (ic (ic (rc (lc (rc (rc (rc cFo))))))))))))))
noncomputable def Fo_9 : Code := (lc (rc (rc (rc (ic (lc (rc (rc (ic (ic (rc (lc (rc (rc (rc cFo)))))))))))))))
noncomputable def Fo_10 : Code := (lc (rc (rc (rc (rc (ic (lc (rc (rc (ic (ic (rc (lc (rc (rc (rc cFo))))))))))))))))
noncomputable def Fo_11 : Code := (lc (ic (ic (rc (rc (rc (rc (rc (ic (lc (rc (rc (ic (ic (rc (lc (rc (rc (rc cFo)))))))))))))))))))
noncomputable def Fo_12 : Code := (lc (ic (lc (rc (ic (ic (rc (rc (rc (rc (rc (ic (lc (rc (rc (ic (ic (rc (lc (rc (rc (rc cFo))))))))))))))))))))))
noncomputable def Fo_13 : Code := (lc (rc (ic (lc (rc (ic (ic (rc (rc (rc (rc (rc (ic (lc (rc (rc (ic (ic (rc (lc (rc (rc (rc cFo)))))))))))))))))))))))
noncomputable def Fo_14 : Code := (ic (rc (rc (ic (lc (rc (ic (ic (rc (rc (rc (rc (rc (ic (lc (rc (rc (ic (ic (rc (lc (rc (rc (rc cFo))))))))))))))))))))))))
noncomputable def Fo_15 : Code := (rc (rc (ic (ic (rc (rc (rc (rc (rc (ic (lc (rc (rc (ic (ic (rc (lc (rc (rc (rc cFo))))))))))))))))))))
noncomputable def Fo_16 : Code := (rc (rc (rc (ic (ic (rc (lc (rc (rc (rc cFo))))))))))
noncomputable def Fo_17 : Code := (rc (rc (rc (rc cFo))))
noncomputable def k_f1 : Code := rgA Fo_14
noncomputable def k_f2 : Code := rgB Fo_14
theorem Fo_eq : cFo = (.seq Fo_0 (.seq Fo_1 (.seq Fo_2 (.seq (.seq Fo_3 (.block 0 (.loop (.seq Fo_4 (.seq Fo_5 (.seq (.block 1 (.seq Fo_6 (.seq Fo_7 (.seq Fo_8 (.seq Fo_9 (.seq Fo_10 (.block 2 (.loop (.seq Fo_11 (.seq (.block 3 (.seq Fo_12 (.seq Fo_13 (.block 4 (.rangeFunc (.tmp 41) #[42] k_f1 k_f2))))) Fo_15)))))))))) Fo_16)))))) Fo_17)))) := by kernel_rfl
noncomputable def Fo_b : Code := ic k_f2
theorem Fb_eq : k_f2 = .block 5 Fo_b := by kernel_rfl
def oFs (c : List Value) (i : Nat) : Option AObj := some (.cells c 85 i 0)
def oQu (j off len cap : Nat) (i : Nat) : Option AObj := some (.cells [.slice (some ⟨j, off, none⟩) len cap] 23 i 0)
def oRi (c : List Value) (i : Nat) : Option AObj := some (.cells c 3 i 1)
def fL (d b : Nat → Nat) : List Value := [I (d 0 : Nat), I (d 1 : Nat), I (d 2 : Nat), I (d 3 : Nat), I (d 4 : Nat), I (d 5 : Nat), I (d 6 : Nat), I (d 7 : Nat), I (d 8 : Nat), I (d 9 : Nat), I (d 10 : Nat), I (d 11 : Nat), I (d 12 : Nat), I (d 13 : Nat), I (d 14 : Nat), I (d 15 : Nat), I (b 0 : Nat), I (b 1 : Nat), I (b 2 : Nat), I (b 3 : Nat), I (b 4 : Nat), I (b 5 : Nat), I (b 6 : Nat), I (b 7 : Nat), I (b 8 : Nat), I (b 9 : Nat), I (b 10 : Nat), I (b 11 : Nat), I (b 12 : Nat), I (b 13 : Nat), I (b 14 : Nat), I (b 15 : Nat)]
def zr32 : List Value := [I 0, I 0, I 0, I 0, I 0, I 0, I 0, I 0, I 0, I 0, I 0, I 0, I 0, I 0, I 0, I 0, I 0, I 0, I 0, I 0, I 0, I 0, I 0, I 0, I 0, I 0, I 0, I 0, I 0, I 0, I 0, I 0]
def lvF : List Nat := [1, 2, 3, 4, 10, 11]
def flF : List Fl := [.g, .g, .g, .t]
def vF (n i : Int) : OV := [some (P0 0), some (P0 1), some (P0 2), some (P0 3), some (I n), some (I i)]
def oF (g c : List Value) (s : Int) : OO := [oHg g 0, oFs zr32 1, oFs c 2, oHs s 3]
def lvG : List Nat := [1, 2, 3, 4, 6, 10, 11]
def flG : List Fl := [.g, .g, .g, .t, .t, .g]
def vG (n i : Int) : OV := [some (P0 0), some (P0 1), some (P0 2), some (P0 3), some (P0 4), some (I n), some (I i)]
def oG (g c : List Value) (s : Int) (off len cap : Nat) (d : List Value) : OO := [oHg g 0, oFs zr32 1, oFs c 2, oHs s 3, oQu 5 off len cap 4, oRi d 5]
def lvH : List Nat := [1, 2, 3, 4, 6, 7, 10, 11, 41]
def flH : List Fl := [.g, .g, .g, .t, .t, .t, .t, .g]
def vH (n i : Int) : OV := [some (P0 0), some (P0 1), some (P0 2), some (P0 3), some (P0 4), some (P0 5), some (I n), some (I i), some (fHc 6)]
def oH (g c : List Value) (s : Int) (off len cap : Nat) (d : List Value) (x t : Int) : OO := [oHg g 0, oFs zr32 1, oFs c 2, oHs s 3, oQu 7 off len cap 4, oIn x 5, oHs t 6, oRi d 7]
noncomputable def rF (n i : Int) (st : LoopState) (pend : Option Code) : AObj := .loop st pend 9223378633924550143 ⟨[], bT lvH (vH n i) .nil⟩ 66 #[42] k_f1 k_f2 8
noncomputable def oJA (g c : List Value) (s : Int) (off len cap : Nat) (d : List Value) (x t n i : Int) (st : LoopState) : OO := oH g c s off len cap d x t ++ [some .defd, some (rF n i st none)]
def o7 (y : Option Int) : Option AObj := match y with | none => none | some y => oRi [I y] 7
noncomputable def oJB (y : Option Int) (k : Nat) (g c : List Value) (s : Int) (len : Nat) (x t n i : Int) (st : LoopState) : OO := [oHg g 0, oFs zr32 1, oFs c 2, oHs s 3, oQu k 0 len unk 4, oIn x 5, oHs t 6, o7 y, some .defd, some (rF n i st none)]
def flJ : List Fl := [.g, .g, .g, .t, .t, .t, .t, .g, .t, .l lvH]
def lvJ : List Nat := [3, 4, 6, 7, 8]
def vJ (v : Int) : OV := [some (P0 2), some (P0 3), some (P0 4), some (P0 5), some (I v)]
noncomputable def tSi : Tbl := tcons 36 (eI1 m_vG fun v => U (m_bit v)) fun _ => none
theorem foA (r : Mem) (n : Int) (w : Nat → Int) (e : Value) (K : OV → List Nat → OO → CR) (kx : Nat → KS) (kr : KS) : run (SC r) 9223378633924550143 66 1 (.seq Fo_0 (.seq Fo_1 (.seq Fo_2 Fo_3))) (lvlT (SC r) (fun _ => none) .nil 1 2) none (rbK 0 lvF flF K) kx kr (sc0 9223378633924550143 [.agg ⟨hG n w e⟩]) (tr0 9223378633924550143 [.agg ⟨hG n w e⟩]) [] emptyA =
    bif m_nns (hG n w (e)) && true then K [some (P0 0), some (P0 1), some (P0 2), some (P0 3), some (I n), some (I (Int.ofNat 0))] [] [some (.cells (hG n w (e)) 59 0 0), some (.cells zr32 85 1 0), some (.cells zr32 85 2 0), some (.cells [U (Int.ofNat 0)] 55 3 0)] else .fail 420 := by kernel_rfl
theorem foB (r : Mem) (g c : List Value) (s n i : Int) (K : OV → List Nat → OO → CR) (KX : Nat → OV → List Nat → OO → CR) (kr : KS) : run (SC r) 9223378633924550143 66 1 (.seq Fo_4 Fo_5) (lvlT (SC r) (fun _ => none) .nil 1 2) none (rbK 0 lvF flF K) (fun j => rbK 0 [2, 3] [.g, .g] (KX j)) kr [] (bT lvF (vF n i) .nil) [] (mkA (oF g c s)) =
    bif decide (i < n) then bif m_nns g && (true && (m_nns c && (true && true))) then K [some (P0 0), some (P0 1), some (P0 2), some (P0 3), some (I n), some (I i)] [] [some (.cells g 59 0 0), some (.cells zr32 85 1 0), some (.cells c 85 2 0), some (.cells [U s] 55 3 0)] else .fail 420 else bif true && (m_nns c && true) then KX 0 [some (P0 0), some (P0 1)] [] [some (.cells zr32 85 0 0), some (.cells c 85 1 0)] else .fail 420 := by kernel_rfl
theorem foC (r : Mem) (g c : List Value) (s n i : Int) (K : OV → List Nat → OO → CR) (KX : Nat → OV → List Nat → OO → CR) (kr : KS) : run (SC r) 9223378633924550143 66 1 (.seq Fo_6 (.seq Fo_7 (.seq Fo_8 (.seq Fo_9 Fo_10)))) (lvlT (SC r) tSi .nil 1 2) none (rbK 0 lvG flG K) (fun j => rbK 0 lvF flF (KX j)) kr [] (bT lvF (vF n i) .nil) [] (mkA (oF g c s)) =
    bif !decide (i < 0) then bif ibits BinOp.and IntKind.u64 (Int.fdiv s (Int.ofNat 2 ^ min (Int.toNat i) 64)) (Int.ofNat 1) == Int.ofNat 1 then bif m_nns g && (true && (m_nns c && (true && true))) then KX 1 [some (P0 0), some (P0 1), some (P0 2), some (P0 3), some (I n), some (I i)] [] [some (.cells g 59 0 0), some (.cells zr32 85 1 0), some (.cells c 85 2 0), some (.cells [U s] 55 3 0)] else .fail 420 else bif m_vG i then bif m_eqv (U s) (U s) then bif m_eqv (U s) (U s) then bif decide (0 ≤ i) then bif Nat.blt (Int.toNat i) 16 then bif Nat.blt (Nat.add 16 (Nat.mul (Int.toNat i) 1)) (List.length c) then bif m_nns g && (true && (m_nns (List.set c (Nat.add 16 (Nat.mul (Int.toNat i) 1)) (I i)) && (true && (true && (m_nns [I i] && true))))) then K [some (P0 0), some (P0 1), some (P0 2), some (P0 3), some (P0 4), some (I n), some (I i)] [] [some (.cells g 59 0 0), some (.cells zr32 85 1 0), some (.cells (List.set c (Nat.add 16 (Nat.mul (Int.toNat i) 1)) (I i)) 85 2 0), some (.cells [U (ibits BinOp.or IntKind.u64 s (m_bit i))] 55 3 0), some (.cells [.slice (some ⟨5, 0, none⟩) 1 1] 23 4 0), some (.cells [I i] 3 5 1)] else .fail 420 else .fail 420 else .fail 420 else .fail 420 else .fail 420 else .fail 420 else .fail 420 else .fail 420 := by kernel_rfl
theorem foD (r : Mem) (g c : List Value) (s n i : Int) (off len cap : Nat) (d : List Value) (K : OV → List Nat → OO → CR) (KX : Nat → OV → List Nat → OO → CR) (kr : KS) : run (SC r) 9223378633924550143 66 1 Fo_11 (lvlT (SC r) (fun _ => none) .nil 1 2) none (rbK 0 lvG flG K) (fun j => rbK 0 lvF flF (KX j)) kr [] (bT lvG (vG n i) .nil) [] (mkA (oG g c s off len cap d)) =
    bif decide (Int.ofNat len > 0) then bif m_nns g && (true && (m_nns c && (true && (true && (m_nns d && true))))) then K [some (P0 0), some (P0 1), some (P0 2), some (P0 3), some (P0 4), some (I n), some (I i)] [] [some (.cells g 59 0 0), some (.cells zr32 85 1 0), some (.cells c 85 2 0), some (.cells [U s] 55 3 0), some (.cells [.slice (some ⟨5, off, none⟩) len cap] 23 4 0), some (.cells d 3 5 1)] else .fail 420 else bif m_nns g && (true && (m_nns c && (true && true))) then KX 2 [some (P0 0), some (P0 1), some (P0 2), some (P0 3), some (I n), some (I i)] [] [some (.cells g 59 0 0), some (.cells zr32 85 1 0), some (.cells c 85 2 0), some (.cells [U s] 55 3 0)] else .fail 420 := by kernel_rfl
theorem foE (r : Mem) (n : Int) (w : Nat → Int) (e : Value) (c : List Value) (s i : Int) (off len cap : Nat) (d : List Value) (K : OV → List Nat → OO → CR) (kx : Nat → KS) (kr : KS) : run (SC r) 9223378633924550143 66 1 (.seq Fo_12 Fo_13) (lvlT (SC r) (fun _ => none) .nil 1 3) none (rbK 0 lvH flH K) kx kr [] (bT lvG (vG n i) .nil) [] (mkA (oG (hG n w e) c s off (len + 1) cap d)) =
    Option.casesOn d[Nat.add off 0]? (.fail 423) fun val => bif isI IntKind.i64 val then bif decide (0 ≤ ofI val) then bif Nat.blt (Int.toNat (ofI val)) 16 then Option.casesOn (hG n w (e))[Nat.add 1 (Nat.mul (Int.toNat (ofI val)) 1)]? (.fail 423) fun val_1 => bif isI IntKind.u64 val_1 then bif m_eqv (U s) (U s) then Option.casesOn (hG n w (e))[Nat.add 1 (Nat.mul (Int.toNat (ofI val)) 1)]? (.fail 423) fun val_2 => bif isI IntKind.u64 val_2 then bif m_eqv (U (ofI val_2)) (U (ofI val_1)) then bif m_eqv (I (ofI val)) (I (ofI val)) then bif m_nns (hG n w (e)) && (true && (m_nns c && (true && (true && (true && (true && (m_nns d && true))))))) then K [some (P0 0), some (P0 1), some (P0 2), some (P0 3), some (P0 4), some (P0 5), some (I n), some (I i), some (.func (Fn.func 63) ⟨[]⟩ ⟨[P0 6]⟩)] [] [some (.cells (hG n w (e)) 59 0 0), some (.cells zr32 85 1 0), some (.cells c 85 2 0), some (.cells [U s] 55 3 0), some (.cells [.slice (some ⟨7, off, none⟩) (len + 1) cap] 23 4 0), some (.cells [I (ofI val)] 3 5 0), some (.cells [U (ibits BinOp.andNot IntKind.u64 (ofI val_1) s)] 55 6 0), some (.cells d 3 7 1)] else .fail 420 else .fail 420 else .fail 420 else .fail 420 else .fail 420 else .fail 420 else .fail 420 else .fail 420 else .fail 420 := by kernel_rfl
theorem foFA (r : Mem) (g c : List Value) (s : Int) (off len cap : Nat) (d : List Value) (x t n i v : Int) (fs : FnsC) (K : OV → List Nat → OO → CR) (kx : Nat → KS) (kr : KS) : run (SC r) 9223378633924550143 66 1 k_f1 fs (some 9) (begK 9 (rbK 10 lvJ flJ K)) kx kr [] (bT (lvH ++ [42]) (vH n i ++ [some (I v)]) .nil) [] (mkA (oJA g c s off len cap d x t n i .ready)) =
    bif m_nns g && (true && (m_nns c && (true && (true && (true && (true && (m_nns d && (true && (true && true))))))))) then K [some (P0 2), some (P0 3), some (P0 4), some (P0 5), some (I v)] [] [some (.cells g 59 0 0), some (.cells zr32 85 1 0), some (.cells c 85 2 0), some (.cells [U s] 55 3 0), some (.cells [.slice (some ⟨7, off, none⟩) len cap] 23 4 0), some (.cells [I x] 3 5 0), some (.cells [U t] 55 6 0), some (.cells d 3 7 1), some .defd, some (rF n i LoopState.busy none)] else .fail 420 := by kernel_rfl
theorem foFB (r : Mem) (g c : List Value) (s : Int) (len : Nat) (d : List Value) (x t n i v : Int) (fs : FnsC) (K : OV → List Nat → OO → CR) (kx : Nat → KS) (kr : KS) : run (SC r) 9223378633924550143 66 1 k_f1 fs (some 9) (begK 9 (rbK 11 lvJ (flJ ++ [.g]) K)) kx kr [] (bT (lvH ++ [42]) (vH n i ++ [some (I v)]) .nil) [] (mkA (oJB none 10 g c s len x t n i .ready ++ [oRi d 10])) =
    bif m_nns g && (true && (m_nns c && (true && (true && (true && (true && (true && (true && (m_nns d && true))))))))) then K [some (P0 2), some (P0 3), some (P0 4), some (P0 5), some (I v)] [] [some (.cells g 59 0 0), some (.cells zr32 85 1 0), some (.cells c 85 2 0), some (.cells [U s] 55 3 0), some (.cells [.slice (some ⟨10, 0, none⟩) len unk] 23 4 0), some (.cells [I x] 3 5 0), some (.cells [U t] 55 6 0), none, some .defd, some (rF n i LoopState.busy none), some (.cells d 3 10 1)] else .fail 420 := by kernel_rfl
theorem foFBy (r : Mem) (y : Int) (g c : List Value) (s : Int) (len : Nat) (d : List Value) (x t n i v : Int) (fs : FnsC) (K : OV → List Nat → OO → CR) (kx : Nat → KS) (kr : KS) : run (SC r) 9223378633924550143 66 1 k_f1 fs (some 9) (begK 9 (rbK 11 lvJ (flJ ++ [.g]) K)) kx kr [] (bT (lvH ++ [42]) (vH n i ++ [some (I v)]) .nil) [] (mkA (oJB (some y) 10 g c s len x t n i .ready ++ [oRi d 10])) =
    bif m_nns g && (true && (m_nns c && (true && (true && (true && (true && (m_nns [I y] && (true && (true && (m_nns d && true)))))))))) then K [some (P0 2), some (P0 3), some (P0 4), some (P0 5), some (I v)] [] [some (.cells g 59 0 0), some (.cells zr32 85 1 0), some (.cells c 85 2 0), some (.cells [U s] 55 3 0), some (.cells [.slice (some ⟨10, 0, none⟩) len unk] 23 4 0), some (.cells [I x] 3 5 0), some (.cells [U t] 55 6 0), some (.cells [I y] 3 7 1), some .defd, some (rF n i LoopState.busy none), some (.cells d 3 10 1)] else .fail 420 := by kernel_rfl
theorem foGA (r : Mem) (g c : List Value) (s : Int) (off len : Nat) (d : List Value) (x t n i v : Int) (K : OV → List Nat → OO → CR) (kx : Nat → KS) (kr : KS) : run (SC r) 9223378633924550143 66 1 Fo_b (lvlT (SC r) tSi .nil 1 2) (some 9) (rbK 10 [] flJ K) kx kr [] (bT lvJ (vJ v) .nil) [] (mkA (oJA g c s off len unk d x t n i .busy)) =
    bif m_vG v then bif m_eqv (U s) (U s) then bif m_eqv (U s) (U s) then bif decide (0 ≤ x) then bif Nat.blt (Int.toNat x) 16 then Option.casesOn c[Nat.add 0 (Nat.mul (Int.toNat x) 1)]? (.fail 423) fun val => bif isI IntKind.i64 val then bif decide (0 ≤ v) then bif Nat.blt (Int.toNat v) 16 then bif Nat.blt (Nat.add 16 (Nat.mul (Int.toNat v) 1)) (List.length c) then bif decide (0 ≤ v) then bif Nat.blt (Int.toNat v) 16 then bif Nat.blt (Nat.add 0 (Nat.mul (Int.toNat v) 1)) (List.length (List.set c (Nat.add 16 (Nat.mul (Int.toNat v) 1)) (I x))) then Option.casesOn c[Nat.add 0 (Nat.mul (Int.toNat x) 1)]? (.fail 423) fun val_1 => bif isI IntKind.i64 val_1 then bif m_eqv (I (ofI val_1)) (I (ofI val)) then bif m_eqv (I x) (I x) then bif m_eqv (I x) (I x) then bif Nat.ble (Nat.add len 1) 1000000 then Option.casesOn (takeAt d off (Nat.mul len 1)) (.fail 439) fun val_2 => bif Nat.beq off 0 then bif m_nns g && (true && (m_nns (List.set (List.set c (Nat.add 16 (Nat.mul (Int.toNat v) 1)) (I x)) (Nat.add 0 (Nat.mul (Int.toNat v) 1)) (I (IntKind.wrap .i64 (ofI val + Int.ofNat 1)))) && (true && (true && (true && (true && (true && (true && (m_nns (val_2 ++ [I v]) && true))))))))) then K [] [] [some (.cells g 59 0 0), some (.cells zr32 85 1 0), some (.cells (List.set (List.set c (Nat.add 16 (Nat.mul (Int.toNat v) 1)) (I x)) (Nat.add 0 (Nat.mul (Int.toNat v) 1)) (I (IntKind.wrap .i64 (ofI val + Int.ofNat 1)))) 85 2 0), some (.cells [U (ibits BinOp.or IntKind.u64 s (m_bit v))] 55 3 0), some (.cells [.slice (some ⟨10, 0, none⟩) (Nat.add len 1) unk] 23 4 0), some (.cells [I x] 3 5 0), some (.cells [U t] 55 6 0), none, some .defd, some (rF n i LoopState.busy none), some (.cells (val_2 ++ [I v]) 3 10 1)] else .fail 420 else bif Nat.beq (Nat.mod off 1) 0 then bif m_nns g && (true && (m_nns (List.set (List.set c (Nat.add 16 (Nat.mul (Int.toNat v) 1)) (I x)) (Nat.add 0 (Nat.mul (Int.toNat v) 1)) (I (IntKind.wrap .i64 (ofI val + Int.ofNat 1)))) && (true && (true && (true && (true && (true && (true && (m_nns (val_2 ++ [I v]) && true))))))))) then K [] [] [some (.cells g 59 0 0), some (.cells zr32 85 1 0), some (.cells (List.set (List.set c (Nat.add 16 (Nat.mul (Int.toNat v) 1)) (I x)) (Nat.add 0 (Nat.mul (Int.toNat v) 1)) (I (IntKind.wrap .i64 (ofI val + Int.ofNat 1)))) 85 2 0), some (.cells [U (ibits BinOp.or IntKind.u64 s (m_bit v))] 55 3 0), some (.cells [.slice (some ⟨10, 0, none⟩) (Nat.add len 1) unk] 23 4 0), some (.cells [I x] 3 5 0), some (.cells [U t] 55 6 0), none, some .defd, some (rF n i LoopState.busy none), some (.cells (val_2 ++ [I v]) 3 10 1)] else .fail 420 else .fail 420 else .fail 420 else .fail 420 else .fail 420 else .fail 420 else .fail 420 else .fail 420 else .fail 420 else .fail 420 else .fail 420 else .fail 420 else .fail 420 else .fail 420 else .fail 420 else .fail 420 else .fail 420 else .fail 420 else .fail 420 := by kernel_rfl
theorem foG1 (r : Mem) (g c : List Value) (s : Int) (y : Int) (x t n i v : Int) (K : OV → List Nat → OO → CR) (kx : Nat → KS) (kr : KS) : run (SC r) 9223378633924550143 66 1 Fo_b (lvlT (SC r) tSi .nil 1 2) (some 9) (rbK 10 [] flJ K) kx kr [] (bT lvJ (vJ v) .nil) [] (mkA (oJA g c s 0 1 1 [I y] x t n i .busy)) =
    bif m_vG v then bif m_eqv (U s) (U s) then bif m_eqv (U s) (U s) then bif decide (0 ≤ x) then bif Nat.blt (Int.toNat x) 16 then Option.casesOn c[Nat.add 0 (Nat.mul (Int.toNat x) 1)]? (.fail 423) fun val => bif isI IntKind.i64 val then bif decide (0 ≤ v) then bif Nat.blt (Int.toNat v) 16 then bif Nat.blt (Nat.add 16 (Nat.mul (Int.toNat v) 1)) (List.length c) then bif decide (0 ≤ v) then bif Nat.blt (Int.toNat v) 16 then bif Nat.blt (Nat.add 0 (Nat.mul (Int.toNat v) 1)) (List.length (List.set c (Nat.add 16 (Nat.mul (Int.toNat v) 1)) (I x))) then Option.casesOn c[Nat.add 0 (Nat.mul (Int.toNat x) 1)]? (.fail 423) fun val_1 => bif isI IntKind.i64 val_1 then bif m_eqv (I (ofI val_1)) (I (ofI val)) then bif m_eqv (I x) (I x) then bif m_eqv (I x) (I x) then bif m_nns g && (true && (m_nns (List.set (List.set c (Nat.add 16 (Nat.mul (Int.toNat v) 1)) (I x)) (Nat.add 0 (Nat.mul (Int.toNat v) 1)) (I (IntKind.wrap .i64 (ofI val + Int.ofNat 1)))) && (true && (true && (true && (true && (m_nns [I y] && (true && (true && (m_nns [I y, I v] && true)))))))))) then K [] [] [some (.cells g 59 0 0), some (.cells zr32 85 1 0), some (.cells (List.set (List.set c (Nat.add 16 (Nat.mul (Int.toNat v) 1)) (I x)) (Nat.add 0 (Nat.mul (Int.toNat v) 1)) (I (IntKind.wrap .i64 (ofI val + Int.ofNat 1)))) 85 2 0), some (.cells [U (ibits BinOp.or IntKind.u64 s (m_bit v))] 55 3 0), some (.cells [.slice (some ⟨10, 0, none⟩) 2 unk] 23 4 0), some (.cells [I x] 3 5 0), some (.cells [U t] 55 6 0), some (.cells [I y] 3 7 1), some .defd, some (rF n i LoopState.busy none), some (.cells [I y, I v] 3 10 1)] else .fail 420 else .fail 420 else .fail 420 else .fail 420 else .fail 420 else .fail 420 else .fail 420 else .fail 420 else .fail 420 else .fail 420 else .fail 420 else .fail 420 else .fail 420 else .fail 420 else .fail 420 else .fail 420 else .fail 420 := by kernel_rfl
theorem foGB (r : Mem) (g c : List Value) (s : Int) (len : Nat) (d : List Value) (x t n i v : Int) (K : OV → List Nat → OO → CR) (kx : Nat → KS) (kr : KS) : run (SC r) 9223378633924550143 66 1 Fo_b (lvlT (SC r) tSi .nil 1 2) (some 9) (rbK 11 [] (flJ ++ [.g]) K) kx kr [] (bT lvJ (vJ v) .nil) [] (mkA (oJB none 10 g c s len x t n i .busy ++ [oRi d 10])) =
    bif m_vG v then bif m_eqv (U s) (U s) then bif m_eqv (U s) (U s) then bif decide (0 ≤ x) then bif Nat.blt (Int.toNat x) 16 then Option.casesOn c[Nat.add 0 (Nat.mul (Int.toNat x) 1)]? (.fail 423) fun val => bif isI IntKind.i64 val then bif decide (0 ≤ v) then bif Nat.blt (Int.toNat v) 16 then bif Nat.blt (Nat.add 16 (Nat.mul (Int.toNat v) 1)) (List.length c) then bif decide (0 ≤ v) then bif Nat.blt (Int.toNat v) 16 then bif Nat.blt (Nat.add 0 (Nat.mul (Int.toNat v) 1)) (List.length (List.set c (Nat.add 16 (Nat.mul (Int.toNat v) 1)) (I x))) then Option.casesOn c[Nat.add 0 (Nat.mul (Int.toNat x) 1)]? (.fail 423) fun val_1 => bif isI IntKind.i64 val_1 then bif m_eqv (I (ofI val_1)) (I (ofI val)) then bif m_eqv (I x) (I x) then bif m_eqv (I x) (I x) then bif Nat.ble (Nat.add len 1) 1000000 then Option.casesOn (takeAt d 0 (Nat.mul len 1)) (.fail 439) fun val_2 => bif m_nns g && (true && (m_nns (List.set (List.set c (Nat.add 16 (Nat.mul (Int.toNat v) 1)) (I x)) (Nat.add 0 (Nat.mul (Int.toNat v) 1)) (I (IntKind.wrap .i64 (ofI val + Int.ofNat 1)))) && (true && (true && (true && (true && (true && (true && (m_nns (val_2 ++ [I v]) && true))))))))) then K [] [] [some (.cells g 59 0 0), some (.cells zr32 85 1 0), some (.cells (List.set (List.set c (Nat.add 16 (Nat.mul (Int.toNat v) 1)) (I x)) (Nat.add 0 (Nat.mul (Int.toNat v) 1)) (I (IntKind.wrap .i64 (ofI val + Int.ofNat 1)))) 85 2 0), some (.cells [U (ibits BinOp.or IntKind.u64 s (m_bit v))] 55 3 0), some (.cells [.slice (some ⟨11, 0, none⟩) (Nat.add len 1) unk] 23 4 0), some (.cells [I x] 3 5 0), some (.cells [U t] 55 6 0), none, some .defd, some (rF n i LoopState.busy none), none, some (.cells (val_2 ++ [I v]) 3 11 1)] else .fail 420 else .fail 420 else .fail 420 else .fail 420 else .fail 420 else .fail 420 else .fail 420 else .fail 420 else .fail 420 else .fail 420 else .fail 420 else .fail 420 else .fail 420 else .fail 420 else .fail 420 else .fail 420 else .fail 420 else .fail 420 := by kernel_rfl
theorem foGBy (r : Mem) (y : Int) (g c : List Value) (s : Int) (len : Nat) (d : List Value) (x t n i v : Int) (K : OV → List Nat → OO → CR) (kx : Nat → KS) (kr : KS) : run (SC r) 9223378633924550143 66 1 Fo_b (lvlT (SC r) tSi .nil 1 2) (some 9) (rbK 11 [] (flJ ++ [.g]) K) kx kr [] (bT lvJ (vJ v) .nil) [] (mkA (oJB (some y) 10 g c s len x t n i .busy ++ [oRi d 10])) =
    bif m_vG v then bif m_eqv (U s) (U s) then bif m_eqv (U s) (U s) then bif decide (0 ≤ x) then bif Nat.blt (Int.toNat x) 16 then Option.casesOn c[Nat.add 0 (Nat.mul (Int.toNat x) 1)]? (.fail 423) fun val => bif isI IntKind.i64 val then bif decide (0 ≤ v) then bif Nat.blt (Int.toNat v) 16 then bif Nat.blt (Nat.add 16 (Nat.mul (Int.toNat v) 1)) (List.length c) then bif decide (0 ≤ v) then bif Nat.blt (Int.toNat v) 16 then bif Nat.blt (Nat.add 0 (Nat.mul (Int.toNat v) 1)) (List.length (List.set c (Nat.add 16 (Nat.mul (Int.toNat v) 1)) (I x))) then Option.casesOn c[Nat.add 0 (Nat.mul (Int.toNat x) 1)]? (.fail 423) fun val_1 => bif isI IntKind.i64 val_1 then bif m_eqv (I (ofI val_1)) (I (ofI val)) then bif m_eqv (I x) (I x) then bif m_eqv (I x) (I x) then bif Nat.ble (Nat.add len 1) 1000000 then Option.casesOn (takeAt d 0 (Nat.mul len 1)) (.fail 439) fun val_2 => bif m_nns g && (true && (m_nns (List.set (List.set c (Nat.add 16 (Nat.mul (Int.toNat v) 1)) (I x)) (Nat.add 0 (Nat.mul (Int.toNat v) 1)) (I (IntKind.wrap .i64 (ofI val + Int.ofNat 1)))) && (true && (true && (true && (true && (m_nns [I y] && (true && (true && (m_nns (val_2 ++ [I v]) && true)))))))))) then K [] [] [some (.cells g 59 0 0), some (.cells zr32 85 1 0), some (.cells (List.set (List.set c (Nat.add 16 (Nat.mul (Int.toNat v) 1)) (I x)) (Nat.add 0 (Nat.mul (Int.toNat v) 1)) (I (IntKind.wrap .i64 (ofI val + Int.ofNat 1)))) 85 2 0), some (.cells [U (ibits BinOp.or IntKind.u64 s (m_bit v))] 55 3 0), some (.cells [.slice (some ⟨11, 0, none⟩) (Nat.add len 1) unk] 23 4 0), some (.cells [I x] 3 5 0), some (.cells [U t] 55 6 0), some (.cells [I y] 3 7 1), some .defd, some (rF n i LoopState.busy none), none, some (.cells (val_2 ++ [I v]) 3 11 1)] else .fail 420 else .fail 420 else .fail 420 else .fail 420 else .fail 420 else .fail 420 else .fail 420 else .fail 420 else .fail 420 else .fail 420 else .fail 420 else .fail 420 else .fail 420 else .fail 420 else .fail 420 else .fail 420 else .fail 420 else .fail 420 := by kernel_rfl
theorem foTA (r : Mem) (g c : List Value) (s : Int) (off len cap : Nat) (d : List Value) (x t n i : Int) (K : OV → List Nat → OO → CR) (kx : Nat → KS) (kr : KS) : tailRK 9 ⟨[], bT lvH (vH n i) .nil⟩ [8] (rbK 0 lvG flG K) kx kr (mkA (oJA g c s off len cap d x t n i .ready)) =
    bif m_nns g && (true && (m_nns c && (true && (true && (m_nns d && true))))) then K [some (P0 0), some (P0 1), some (P0 2), some (P0 3), some (P0 4), some (I n), some (I i)] [] [some (.cells g 59 0 0), some (.cells zr32 85 1 0), some (.cells c 85 2 0), some (.cells [U s] 55 3 0), some (.cells [.slice (some ⟨5, off, none⟩) len cap] 23 4 0), some (.cells d 3 5 1)] else .fail 420 := by kernel_rfl
theorem foTB (r : Mem) (g c : List Value) (s : Int) (len : Nat) (d : List Value) (x t n i : Int) (K : OV → List Nat → OO → CR) (kx : Nat → KS) (kr : KS) : tailRK 9 ⟨[], bT lvH (vH n i) .nil⟩ [8] (rbK 0 lvG flG K) kx kr (mkA (oJB none 10 g c s len x t n i .ready ++ [oRi d 10])) =
    bif m_nns g && (true && (m_nns c && (true && (true && (m_nns d && true))))) then K [some (P0 0), some (P0 1), some (P0 2), some (P0 3), some (P0 4), some (I n), some (I i)] [] [some (.cells g 59 0 0), some (.cells zr32 85 1 0), some (.cells c 85 2 0), some (.cells [U s] 55 3 0), some (.cells [.slice (some ⟨5, 0, none⟩) len unk] 23 4 0), some (.cells d 3 5 1)] else .fail 420 := by kernel_rfl
theorem foTBy (r : Mem) (y : Int) (g c : List Value) (s : Int) (len : Nat) (d : List Value) (x t n i : Int) (K : OV → List Nat → OO → CR) (kx : Nat → KS) (kr : KS) : tailRK 9 ⟨[], bT lvH (vH n i) .nil⟩ [8] (rbK 0 lvG flG K) kx kr (mkA (oJB (some y) 10 g c s len x t n i .ready ++ [oRi d 10])) =
    bif m_nns g && (true && (m_nns c && (true && (true && (m_nns d && true))))) then K [some (P0 0), some (P0 1), some (P0 2), some (P0 3), some (P0 4), some (I n), some (I i)] [] [some (.cells g 59 0 0), some (.cells zr32 85 1 0), some (.cells c 85 2 0), some (.cells [U s] 55 3 0), some (.cells [.slice (some ⟨5, 0, none⟩) len unk] 23 4 0), some (.cells d 3 5 1)] else .fail 420 := by kernel_rfl
theorem foU (r : Mem) (g c : List Value) (s n i : Int) (off len cap : Nat) (d : List Value) (K : OV → List Nat → OO → CR) (kx : Nat → KS) (kr : KS) : run (SC r) 9223378633924550143 66 1 Fo_15 (lvlT (SC r) (fun _ => none) .nil 1 2) none (rbK 0 lvG flG K) kx kr [] (bT lvG (vG n i) .nil) [] (mkA (oG g c s off (len + 1) cap d)) =
    bif Nat.beq cap 9223372036854775809 then .fail 432 else bif Nat.beq cap unk then bif Nat.ble (len + 1) (len + 1) then bif Nat.blt 1 (len + 1) then bif m_nns g && (true && (m_nns c && (true && (true && (m_nns d && true))))) then K [some (P0 0), some (P0 1), some (P0 2), some (P0 3), some (P0 4), some (I n), some (I i)] [] [some (.cells g 59 0 0), some (.cells zr32 85 1 0), some (.cells c 85 2 0), some (.cells [U s] 55 3 0), some (.cells [.slice (some ⟨5, (Nat.add off 1), none⟩) (Nat.sub (len + 1) 1) unk] 23 4 0), some (.cells d 3 5 1)] else .fail 420 else bif m_nns g && (true && (m_nns c && (true && (true && (m_nns d && true))))) then K [some (P0 0), some (P0 1), some (P0 2), some (P0 3), some (P0 4), some (I n), some (I i)] [] [some (.cells g 59 0 0), some (.cells zr32 85 1 0), some (.cells c 85 2 0), some (.cells [U s] 55 3 0), some (.cells [.slice (some ⟨5, off, none⟩) 0 9223372036854775809] 23 4 0), some (.cells d 3 5 1)] else .fail 420 else .fail 420 else bif Nat.ble (len + 1) (Nat.min cap 1000000000000) then bif Nat.ble cap (Nat.min cap 1000000000000) then bif Nat.beq cap 1 then bif m_nns g && (true && (m_nns c && (true && (true && (m_nns d && true))))) then K [some (P0 0), some (P0 1), some (P0 2), some (P0 3), some (P0 4), some (I n), some (I i)] [] [some (.cells g 59 0 0), some (.cells zr32 85 1 0), some (.cells c 85 2 0), some (.cells [U s] 55 3 0), some (.cells [.slice (some ⟨5, off, none⟩) (Nat.sub (len + 1) 1) (Nat.sub cap 1)] 23 4 0), some (.cells d 3 5 1)] else .fail 420 else bif m_nns g && (true && (m_nns c && (true && (true && (m_nns d && true))))) then K [some (P0 0), some (P0 1), some (P0 2), some (P0 3), some (P0 4), some (I n), some (I i)] [] [some (.cells g 59 0 0), some (.cells zr32 85 1 0), some (.cells c 85 2 0), some (.cells [U s] 55 3 0), some (.cells [.slice (some ⟨5, (Nat.add off 1), none⟩) (Nat.sub (len + 1) 1) (Nat.sub cap 1)] 23 4 0), some (.cells d 3 5 1)] else .fail 420 else .fail 420 else .fail 420 := by kernel_rfl
theorem foV (r : Mem) (g c : List Value) (s n i : Int) (fs : FnsC) (K : OV → List Nat → OO → CR) (kx : Nat → KS) (kr : KS) : run (SC r) 9223378633924550143 66 1 Fo_16 fs none (rbK 0 lvF flF K) kx kr [] (bT lvF (vF n i) .nil) [] (mkA (oF g c s)) =
    bif m_nns g && (true && (m_nns c && (true && true))) then K [some (P0 0), some (P0 1), some (P0 2), some (P0 3), some (I n), some (I (IntKind.wrap .i64 (i + Int.ofNat 1)))] [] [some (.cells g 59 0 0), some (.cells zr32 85 1 0), some (.cells c 85 2 0), some (.cells [U s] 55 3 0)] else .fail 420 := by kernel_rfl
theorem foZ (r : Mem) (d b : Nat → Nat) (fs : FnsC) (K KR : OV → List Nat → OO → CR) (kx : Nat → KS) : run (SC r) 9223378633924550143 66 1 Fo_17 fs none (rbK 0 [2] [.g] K) kx (rbK 0 [2] [.g] KR) [] (bT [2, 3] [some (P0 0), some (P0 1)] .nil) [] (mkA [oFs zr32 0, oFs (fL d b) 1]) =
    KR [some (P0 0)] [] [some (.cells (fL d b) 85 0 0)] := by kernel_rfl
end Go.Proofs
namespace Go.Proofs
open Go Go.Ev Go.Num
noncomputable def cIE : Code := bodyOf S0 52
noncomputable def IE_0 : Code := (lc cIE)
noncomputable def IE_1 : Code := (lc (lc (rc cIE)))
noncomputable def IE_2 : Code := (ic (ic (rc (lc (rc cIE)))))
noncomputable def IE_3 : Code := (rc (rc cIE))
theorem IE_eq : cIE = (.seq IE_0 (.seq (.seq IE_1 (.block 0 (.loop IE_2))) IE_3)) := by kernel_rfl
def oEd2 (x y : Int) (i : Nat) : Option AObj := some (.cells [I x, I y] 80 i 0)
abbrev fLe (i : Nat) : Value := .func (.func 53) ⟨[]⟩ ⟨[P0 i]⟩
def oLe (g : List Value) (d b : Nat → Nat) : OO := [oHg g 0, oFs (fL d b) 1, oEd2 0 0 2]
def lvIE : List Nat := [0, 1, 7, 8]
def vIE (b off len cap : Nat) (k : Int) : OV := [some (RS2 b off len cap), some (fLe 1), some (I (len : Nat)), some (I k)]
noncomputable def eIx (sl : Value) (x : Int) (g : List Value) (d b : Nat → Nat) : Ent := entAt [sl, fLe 1] (mkA (oLe g d b)) (I x) (mkA (oLe g d b))
noncomputable def tLe (sl : Value) (x : Int) (g : List Value) (d b : Nat → Nat) : Tbl := tcons 52 (eIx sl x g d b) fun _ => none
theorem ieA (r : Mem) (g : List Value) (d b : Nat → Nat) (b0 off len cap : Nat) (fs : FnsC) (K : OV → List Nat → OO → CR) (kx : Nat → KS) (kr : KS) : run (SC r) 435 19 1 (.seq IE_0 IE_1) fs none (rbK 3 lvIE [.g, .g, .g] K) kx kr (sc0 435 [RS2 b0 off len cap, fLe 1]) (tr0 435 [RS2 b0 off len cap, fLe 1]) [] (mkA (oLe g d b)) =
    bif m_nns g && (m_nns (fL d b) && true) then K [some (.slice (some ⟨b0, off, some 0⟩) len cap), some (.func (Fn.func 53) ⟨[]⟩ ⟨[P0 1]⟩), some (I (Int.ofNat len)), some (I (Int.ofNat 0))] [] [some (.cells g 59 0 0), some (.cells (fL d b) 85 1 0), some (.cells [I (Int.ofNat 0), I (Int.ofNat 0)] 80 2 0)] else .fail 420 := by kernel_rfl
theorem ieB (r : Mem) (g : List Value) (d b : Nat → Nat) (b0 off len cap : Nat) (k : Int) (K : OV → List Nat → OO → CR) (KX : Nat → OV → List Nat → OO → CR) (KR : OV → List Nat → OO → CR) : run (SC r) 435 19 1 IE_2 (lvlT (SC r) (fun _ => none) .nil 1 3) none (rbK 3 lvIE [.g, .g, .g] K) (fun i => rbK 3 [] [.g, .g, .g] (KX i)) (rbK 3 [4] [.g, .g, .g] KR) [] (bT lvIE (vIE b0 off len cap k) .nil) [] (mkA (oLe g d b)) =
    bif decide (k < Int.ofNat len) then bif decide (0 ≤ k) then bif Nat.blt (Int.toNat k) len then Option.casesOn (r b0 (Nat.add off (Nat.mul (Int.toNat k) 2))) (.fail 423) fun val => bif isI IntKind.i64 val then Option.casesOn (r b0 (Nat.succ (Nat.add off (Nat.mul (Int.toNat k) 2)))) (.fail 423) fun val_1 => bif isI IntKind.i64 val_1 then bif decide (0 ≤ ofI val) then bif Nat.blt (Int.toNat (ofI val)) 16 then Option.casesOn (fL d b)[Nat.add 0 (Nat.mul (Int.toNat (ofI val)) 1)]? (.fail 423) fun val => bif isI IntKind.i64 val then bif decide (0 ≤ ofI val_1) then bif Nat.blt (Int.toNat (ofI val_1)) 16 then Option.casesOn (fL d b)[Nat.add 0 (Nat.mul (Int.toNat (ofI val_1)) 1)]? (.fail 423) fun val_2 => bif isI IntKind.i64 val_2 then bif ofI val == ofI val_2 then bif m_nns g && (m_nns (fL d b) && true) then KR [some (I k)] [] [some (.cells g 59 0 0), some (.cells (fL d b) 85 1 0), some (.cells [I (Int.ofNat 0), I (Int.ofNat 0)] 80 2 0)] else .fail 420 else bif m_nns g && (m_nns (fL d b) && true) then K [some (.slice (some ⟨b0, off, some 0⟩) len cap), some (.func (Fn.func 53) ⟨[]⟩ ⟨[P0 1]⟩), some (I (Int.ofNat len)), some (I (IntKind.wrap .i64 (k + Int.ofNat 1)))] [] [some (.cells g 59 0 0), some (.cells (fL d b) 85 1 0), some (.cells [I (Int.ofNat 0), I (Int.ofNat 0)] 80 2 0)] else .fail 420 else .fail 420 else .fail 420 else .fail 420 else .fail 420 else .fail 420 else .fail 420 else .fail 420 else .fail 420 else .fail 420 else .fail 420 else bif m_nns g && (m_nns (fL d b) && true) then KX 0 [] [] [some (.cells g 59 0 0), some (.cells (fL d b) 85 1 0), some (.cells [I (Int.ofNat 0), I (Int.ofNat 0)] 80 2 0)] else .fail 420 := by kernel_rfl
theorem ieC (r : Mem) (g : List Value) (d b : Nat → Nat) (fs : FnsC) (K : OV → List Nat → OO → CR) (kx : Nat → KS) (KR : OV → List Nat → OO → CR) : run (SC r) 435 19 1 IE_3 fs none (rbK 3 [4] [.g, .g, .g] K) kx (rbK 3 [4] [.g, .g, .g] KR) [] (bT [] [] .nil) [] (mkA (oLe g d b)) =
    bif m_nns g && (m_nns (fL d b) && true) then KR [some (I (Int.negSucc 0))] [] [some (.cells g 59 0 0), some (.cells (fL d b) 85 1 0), some (.cells [I (Int.ofNat 0), I (Int.ofNat 0)] 80 2 0)] else .fail 420 := by kernel_rfl
theorem ieN (r : Mem) (g : List Value) (d b : Nat → Nat) (K : Value → AW → CR) : (lvlT (SC r) (fun _ => none) .nil 1 3).call 52 [.slice none 0 0, fLe 1] (mkA (oLe g d b)) K =
    K (I (Int.negSucc 0)) (AW.mk 3 (.node (.node .nil (some (.cells (fL d b) 85 1 0)) .nil) (some (.cells g 59 0 0)) (.node .nil (some (.cells [I (Int.ofNat 0), I (Int.ofNat 0)] 80 2 0)) .nil)) .nil) := by kernel_rfl
theorem leN (r : Mem) (n : Int) (w : Nat → Int) (d b : Nat → Nat) : (lvlT (SC r) (tLe (.slice none 0 0) (-1) (hG n w (.slice none 0 0)) d b) .nil 1 2).call 40 [.agg ⟨hG n w (.slice none 0 0)⟩, .agg ⟨fL d b⟩] emptyA fin =
    bif m_at [.slice none 0 0, .func (Fn.func 53) ⟨[]⟩ ⟨[P0 1]⟩] [.slice none 0 0, .func (Fn.func 53) ⟨[]⟩ ⟨[P0 1]⟩] (AW.mk 3 (.node (.node .nil (some (.cells (fL d b) 85 1 0)) .nil) (some (.cells (hG n w (.slice none 0 0)) 59 0 0)) (.node .nil (some (.cells [I (Int.ofNat 0), I (Int.ofNat 0)] 80 2 0)) .nil)) .nil) (AW.mk 3 (.node (.node .nil (some (.cells (fL d b) 85 1 0)) .nil) (some (.cells (hG n w (.slice none 0 0)) 59 0 0)) (.node .nil (some (.cells [I (Int.ofNat 0), I (Int.ofNat 0)] 80 2 0)) .nil)) .nil) then .ret (.tuple ⟨[.agg ⟨[I (Int.ofNat 0), I (Int.ofNat 0)]⟩, .bool false]⟩) (AW.mk 0 .nil .nil) else .fail 420 := by kernel_rfl
theorem leR (r : Mem) (n : Int) (w : Nat → Int) (d b : Nat → Nat) (b0 off len cap : Nat) (x : Int) : (lvlT (SC r) (tLe (.slice (some ⟨b0, off, some 0⟩) len cap) x (hG n w (.slice (some ⟨b0, off, some 0⟩) len cap)) d b) .nil 1 2).call 40 [.agg ⟨hG n w (.slice (some ⟨b0, off, some 0⟩) len cap)⟩, .agg ⟨fL d b⟩] emptyA fin =
    bif m_at [.slice (some ⟨b0, off, some 0⟩) len cap, .func (Fn.func 53) ⟨[]⟩ ⟨[P0 1]⟩] [.slice (some ⟨b0, off, some 0⟩) len cap, .func (Fn.func 53) ⟨[]⟩ ⟨[P0 1]⟩] (AW.mk 3 (.node (.node .nil (some (.cells (fL d b) 85 1 0)) .nil) (some (.cells (hG n w (.slice (some ⟨b0, off, some 0⟩) len cap)) 59 0 0)) (.node .nil (some (.cells [I (Int.ofNat 0), I (Int.ofNat 0)] 80 2 0)) .nil)) .nil) (AW.mk 3 (.node (.node .nil (some (.cells (fL d b) 85 1 0)) .nil) (some (.cells (hG n w (.slice (some ⟨b0, off, some 0⟩) len cap)) 59 0 0)) (.node .nil (some (.cells [I (Int.ofNat 0), I (Int.ofNat 0)] 80 2 0)) .nil)) .nil) then bif decide (x < 0) then .ret (.tuple ⟨[.agg ⟨[I (Int.ofNat 0), I (Int.ofNat 0)]⟩, .bool false]⟩) (AW.mk 0 .nil .nil) else bif decide (0 ≤ x) then bif Nat.blt (Int.toNat x) len then Option.casesOn (r b0 (Nat.add off (Nat.mul (Int.toNat x) 2))) (.fail 423) fun val => bif isI IntKind.i64 val then Option.casesOn (r b0 (Nat.succ (Nat.add off (Nat.mul (Int.toNat x) 2)))) (.fail 423) fun val_1 => bif isI IntKind.i64 val_1 then .ret (.tuple ⟨[.agg ⟨[I (ofI val), I (ofI val_1)]⟩, .bool true]⟩) (AW.mk 0 .nil .nil) else .fail 420 else .fail 420 else .fail 420 else .fail 420 else .fail 420 := by kernel_rfl
end Go.Proofs
namespace Go.Proofs
open Go Go.Ev Go.Num
noncomputable def cSi : Code := bodyOf S0 27
noncomputable def Si_0 : Code := (lc cSi)
noncomputable def Si_1 : Code := (lc (rc cSi))
noncomputable def Si_2 : Code := (lc (rc (rc cSi)))
noncomputable def Si_3 : Code := (lc (rc (rc (rc cSi))))
noncomputable def Si_4 : Code := (lc (lc (rc (rc (rc (rc cSi))))))
noncomputable def Si_5 : Code := (ic (ic (rc (lc (rc (rc (rc (rc cSi))))))))
noncomputable def Si_6 : Code := (rc (rc (rc (rc (rc cSi)))))
theorem Si_eq : cSi = (.seq Si_0 (.seq Si_1 (.seq Si_2 (.seq Si_3 (.seq (.seq Si_4 (.block 0 (.loop Si_5))) Si_6))))) := by kernel_rfl
noncomputable def cOd : Code := bodyOf S0 28
noncomputable def Od_0 : Code := (lc cOd)
noncomputable def Od_1 : Code := (lc (rc cOd))
noncomputable def Od_2 : Code := (lc (rc (rc cOd)))
noncomputable def Od_3 : Code := (lc (rc (rc (rc cOd))))
noncomputable def Od_4 : Code := (lc (rc (rc (rc (rc cOd)))))
noncomputable def Od_5 : Code := (lc (rc (rc (rc (rc (rc cOd))))))
noncomputable def Od_6 : Code := (ic (ic (lc (rc (rc (rc (rc (rc (rc cOd)))))))))
noncomputable def Od_7 : Code := (rc (rc (rc (rc (rc (rc (rc cOd)))))))
theorem Od_eq : cOd = (.seq Od_0 (.seq Od_1 (.seq Od_2 (.seq Od_3 (.seq Od_4 (.seq Od_5 (.seq (.block 0 (.loop Od_6)) Od_7))))))) := by kernel_rfl
noncomputable def cRv : Code := bodyOf S0 41
noncomputable def Rv_0 : Code := (lc cRv)
noncomputable def Rv_1 : Code := (ic (ic (rc cRv)))
theorem Rv_eq : cRv = (.seq Rv_0 (.block 0 (.loop Rv_1))) := by kernel_rfl
def lvSi : List Nat := [4, 7, 19, 20]
def vSi (side n i : Int) : OV := [some (P0 0), some (U side), some (I n), some (I i)]
noncomputable def tSd (g : List Value) (d b : Nat → Nat) (x y : Int) (ok : Bool) : Tbl := tcons 39 (entV [.agg ⟨g⟩] (.agg ⟨fL d b⟩)) (tcons 40 (entV [.agg ⟨g⟩, .agg ⟨fL d b⟩] (.tuple ⟨[.agg ⟨[I x, I y]⟩, .bool ok]⟩)) fun _ => none)
abbrev rowQ (i k : Nat) : Value := .slice (some ⟨i, 0, none⟩) k unk
def lvOd : List Nat := [4, 7, 8, 9, 10]
def vOdN (v u : Int) : OV := [some (P0 0), some (.slice none 0 0), some (.slice none 0 0), some (I v), some (I u)]
def vOdR (k : Nat) (v u : Int) : OV := [some (P0 0), some (rowQ 1 k), some (rowQ 2 k), some (I v), some (I u)]
def oOd (d b : Nat → Nat) : OO := [oFs (fL d b) 0]
def oOdR (d b : Nat → Nat) (c1 c2 : List Value) : OO := [oFs (fL d b) 0, oRi c1 1, oRi c2 2]
def oOz (c1 c2 : List Value) : OO := [oRi c1 0, oRi c2 1]
def m_grG (n : Int) : Bool := decide (3 ≤ n ∧ n ≤ 31 ∧ n % 2 = 1)
def m_zr (n : Int) : List Value := List.replicate n.toNat (I 0)
noncomputable def eGr : Ent := ⟨fun args _ => match args with | [.slice none 0 0, .int .i64 n] => m_grG n | _ => false, fun _ _ => true, fun _ A => .slice (some ⟨A.next, 0, none⟩) 0 unk, fun args A => match args with | [_, .int .i64 n] => A.new (.cells (m_zr n) 3 A.next 1) | _ => A, fun _ _ => undef, fun _ A => A⟩
noncomputable def tRv (k : Nat) (c1 c2 c3 : List Value) : Tbl := tcons 41 (entAt [rowQ 1 k] (mkA (oOz c1 c2)) (.tuple ⟨[]⟩) (mkA (oOz c1 c3))) (tcons 54 eGr fun _ => none)
theorem siAN (r : Mem) (n : Int) (w : Nat → Int) (d b : Nat → Nat) (x y : Int) (ok : Bool) (K : OV → List Nat → OO → CR) (kx : Nat → KS) (KR : OV → List Nat → OO → CR) : run (SC r) 1573343 35 1 (.seq Si_0 (.seq Si_1 (.seq Si_2 (.seq Si_3 Si_4)))) (lvlT (SC r) (tSd (hG n w (.slice none 0 0)) d b x y ok) .nil 1 2) none (rbK 0 lvSi [.g] K) kx (rbK 0 [2, 3] [] KR) (sc0 1573343 [.agg ⟨hG n w (.slice none 0 0)⟩]) (tr0 1573343 [.agg ⟨hG n w (.slice none 0 0)⟩]) [] emptyA =
    bif m_same [.agg ⟨(hG n w (.slice none 0 0))⟩] [.agg ⟨(hG n w (.slice none 0 0))⟩] then bif m_same [.agg ⟨(hG n w (.slice none 0 0))⟩, .agg ⟨(fL d b)⟩] [.agg ⟨(hG n w (.slice none 0 0))⟩, .agg ⟨(fL d b)⟩] then bif ok then KR [some (U (Int.ofNat 0)), some (.bool false)] [] [] else K [some (P0 0), some (U (Int.ofNat 0)), some (I n), some (I (Int.ofNat 0))] [] [some (.cells (fL d b) 85 0 0)] else .fail 420 else .fail 420 := by kernel_rfl
theorem siAR (r : Mem) (n : Int) (w : Nat → Int) (b0 off len cap : Nat) (d b : Nat → Nat) (x y : Int) (ok : Bool) (K : OV → List Nat → OO → CR) (kx : Nat → KS) (KR : OV → List Nat → OO → CR) : run (SC r) 1573343 35 1 (.seq Si_0 (.seq Si_1 (.seq Si_2 (.seq Si_3 Si_4)))) (lvlT (SC r) (tSd (hG n w (.slice (some ⟨b0, off, some 0⟩) len cap)) d b x y ok) .nil 1 2) none (rbK 0 lvSi [.g] K) kx (rbK 0 [2, 3] [] KR) (sc0 1573343 [.agg ⟨hG n w (.slice (some ⟨b0, off, some 0⟩) len cap)⟩]) (tr0 1573343 [.agg ⟨hG n w (.slice (some ⟨b0, off, some 0⟩) len cap)⟩]) [] emptyA =
    bif m_same [.agg ⟨(hG n w (.slice (some ⟨b0, off, some 0⟩) len cap))⟩] [.agg ⟨(hG n w (.slice (some ⟨b0, off, some 0⟩) len cap))⟩] then bif m_same [.agg ⟨(hG n w (.slice (some ⟨b0, off, some 0⟩) len cap))⟩, .agg ⟨(fL d b)⟩] [.agg ⟨(hG n w (.slice (some ⟨b0, off, some 0⟩) len cap))⟩, .agg ⟨(fL d b)⟩] then bif ok then KR [some (U (Int.ofNat 0)), some (.bool false)] [] [] else K [some (P0 0), some (U (Int.ofNat 0)), some (I n), some (I (Int.ofNat 0))] [] [some (.cells (fL d b) 85 0 0)] else .fail 420 else .fail 420 := by kernel_rfl
theorem siB (r : Mem) (d b : Nat → Nat) (side n i : Int) (K : OV → List Nat → OO → CR) (KX : Nat → OV → List Nat → OO → CR) (kr : KS) : run (SC r) 1573343 35 1 Si_5 (lvlT (SC r) tSi .nil 1 2) none (rbK 0 lvSi [.g] K) (fun j => rbK 0 [7] [] (KX j)) kr [] (bT lvSi (vSi side n i) .nil) [] (mkA (oOd d b)) =
    bif decide (i < n) then bif decide (0 ≤ i) then bif Nat.blt (Int.toNat i) 16 then Option.casesOn (fL d b)[Nat.add 0 (Nat.mul (Int.toNat i) 1)]? (.fail 423) fun val => bif isI IntKind.i64 val then bif Int.tmod (ofI val) (Int.ofNat 2) == Int.ofNat 0 then bif m_vG i then K [some (P0 0), some (U (ibits BinOp.or IntKind.u64 side (m_bit i))), some (I n), some (I (IntKind.wrap .i64 (i + Int.ofNat 1)))] [] [some (.cells (fL d b) 85 0 0)] else .fail 420 else K [some (P0 0), some (U side), some (I n), some (I (IntKind.wrap .i64 (i + Int.ofNat 1)))] [] [some (.cells (fL d b) 85 0 0)] else .fail 420 else .fail 420 else .fail 420 else KX 0 [some (U side)] [] [] := by kernel_rfl
theorem siC (r : Mem) (side : Int) (fs : FnsC) (K KR : OV → List Nat → OO → CR) (kx : Nat → KS) : run (SC r) 1573343 35 1 Si_6 fs none (rbK 0 [2, 3] [] K) kx (rbK 0 [2, 3] [] KR) [] (bT [7] [some (U side)] .nil) [] (mkA []) =
    KR [some (U side), some (.bool true)] [] [] := by kernel_rfl
theorem odA1N (r : Mem) (n : Int) (w : Nat → Int) (d b : Nat → Nat) (x y : Int) (ok : Bool) (K : OV → List Nat → OO → CR) (kx : Nat → KS) (KR : OV → List Nat → OO → CR) : run (SC r) 2047 52 1 (.seq Od_0 (.seq Od_1 (.seq Od_2 (.seq Od_3 (.seq Od_4 Od_5))))) (lvlT (SC r) (tSd (hG n w (.slice none 0 0)) d b x y ok) .nil 1 2) none (rbK 0 lvOd [.g, .g, .g] K) kx (rbK 0 [2, 3] [.g] KR) (sc0 2047 [.agg ⟨hG n w (.slice none 0 0)⟩]) (tr0 2047 [.agg ⟨hG n w (.slice none 0 0)⟩]) [] emptyA =
    bif m_same [.agg ⟨(hG n w (.slice none 0 0))⟩] [.agg ⟨(hG n w (.slice none 0 0))⟩] then bif m_same [.agg ⟨(hG n w (.slice none 0 0))⟩, .agg ⟨(fL d b)⟩] [.agg ⟨(hG n w (.slice none 0 0))⟩, .agg ⟨(fL d b)⟩] then bif ok then K [some (P0 0), some (.slice none 0 0), some (.slice none 0 0), some (I x), some (I y)] [] [some (.cells (fL d b) 85 0 0)] else KR [some (.slice none 0 0), some (.bool false)] [] [] else .fail 420 else .fail 420 := by kernel_rfl
theorem odA1R (r : Mem) (n : Int) (w : Nat → Int) (b0 off len cap : Nat) (d b : Nat → Nat) (x y : Int) (ok : Bool) (K : OV → List Nat → OO → CR) (kx : Nat → KS) (KR : OV → List Nat → OO → CR) : run (SC r) 2047 52 1 (.seq Od_0 (.seq Od_1 (.seq Od_2 (.seq Od_3 (.seq Od_4 Od_5))))) (lvlT (SC r) (tSd (hG n w (.slice (some ⟨b0, off, some 0⟩) len cap)) d b x y ok) .nil 1 2) none (rbK 0 lvOd [.g, .g, .g] K) kx (rbK 0 [2, 3] [.g] KR) (sc0 2047 [.agg ⟨hG n w (.slice (some ⟨b0, off, some 0⟩) len cap)⟩]) (tr0 2047 [.agg ⟨hG n w (.slice (some ⟨b0, off, some 0⟩) len cap)⟩]) [] emptyA =
    bif m_same [.agg ⟨(hG n w (.slice (some ⟨b0, off, some 0⟩) len cap))⟩] [.agg ⟨(hG n w (.slice (some ⟨b0, off, some 0⟩) len cap))⟩] then bif m_same [.agg ⟨(hG n w (.slice (some ⟨b0, off, some 0⟩) len cap))⟩, .agg ⟨(fL d b)⟩] [.agg ⟨(hG n w (.slice (some ⟨b0, off, some 0⟩) len cap))⟩, .agg ⟨(fL d b)⟩] then bif ok then K [some (P0 0), some (.slice none 0 0), some (.slice none 0 0), some (I x), some (I y)] [] [some (.cells (fL d b) 85 0 0)] else KR [some (.slice none 0 0), some (.bool false)] [] [] else .fail 420 else .fail 420 := by kernel_rfl
theorem odB1 (r : Mem) (d b : Nat → Nat) (v u : Int) (fs : FnsC) (K : OV → List Nat → OO → CR) (KX : Nat → OV → List Nat → OO → CR) (kr : KS) : run (SC r) 2047 52 1 Od_6 fs none (rbK 0 lvOd [.g, .g, .g] K) (fun j => rbK 0 [7, 8, 9] [.g, .g] (KX j)) kr [] (bT lvOd (vOdN v u) .nil) [] (mkA (oOd d b)) =
    bif v != u then bif decide (0 ≤ v) then bif Nat.blt (Int.toNat v) 16 then Option.casesOn (fL d b)[Nat.add 16 (Nat.mul (Int.toNat v) 1)]? (.fail 423) fun val => bif isI IntKind.i64 val then bif decide (0 ≤ u) then bif Nat.blt (Int.toNat u) 16 then Option.casesOn (fL d b)[Nat.add 16 (Nat.mul (Int.toNat u) 1)]? (.fail 423) fun val_1 => bif isI IntKind.i64 val_1 then K [some (P0 0), some (.slice (some ⟨1, 0, none⟩) 1 unk), some (.slice (some ⟨2, 0, none⟩) 1 unk), some (I (ofI val)), some (I (ofI val_1))] [] [some (.cells (fL d b) 85 0 0), some (.cells [I v] 3 1 1), some (.cells [I u] 3 2 1)] else .fail 420 else .fail 420 else .fail 420 else .fail 420 else .fail 420 else .fail 420 else KX 0 [some (.slice none 0 0), some (.slice none 0 0), some (I v)] [] [] := by kernel_rfl
theorem odB2 (r : Mem) (d b : Nat → Nat) (k : Nat) (c1 c2 : List Value) (v u : Int) (fs : FnsC) (K : OV → List Nat → OO → CR) (KX : Nat → OV → List Nat → OO → CR) (kr : KS) : run (SC r) 2047 52 1 Od_6 fs none (rbK 0 lvOd [.g, .g, .g] K) (fun j => rbK 0 [7, 8, 9] [.g, .g] (KX j)) kr [] (bT lvOd (vOdR k v u) .nil) [] (mkA (oOdR d b c1 c2)) =
    bif v != u then bif Nat.ble (Nat.add k 1) 1000000 then Option.casesOn (takeAt c1 0 (Nat.mul k 1)) (.fail 439) fun val => bif Nat.ble (Nat.add k 1) 1000000 then Option.casesOn (takeAt c2 0 (Nat.mul k 1)) (.fail 439) fun val_1 => bif decide (0 ≤ v) then bif Nat.blt (Int.toNat v) 16 then Option.casesOn (fL d b)[Nat.add 16 (Nat.mul (Int.toNat v) 1)]? (.fail 423) fun val_2 => bif isI IntKind.i64 val_2 then bif decide (0 ≤ u) then bif Nat.blt (Int.toNat u) 16 then Option.casesOn (fL d b)[Nat.add 16 (Nat.mul (Int.toNat u) 1)]? (.fail 423) fun val_3 => bif isI IntKind.i64 val_3 then bif m_nns (fL d b) && (m_nns (val ++ [I v]) && (m_nns (val_1 ++ [I u]) && true)) then K [some (P0 0), some (.slice (some ⟨1, 0, none⟩) (Nat.add k 1) unk), some (.slice (some ⟨2, 0, none⟩) (Nat.add k 1) unk), some (I (ofI val_2)), some (I (ofI val_3))] [] [some (.cells (fL d b) 85 0 0), some (.cells (val ++ [I v]) 3 1 1), some (.cells (val_1 ++ [I u]) 3 2 1)] else .fail 420 else .fail 420 else .fail 420 else .fail 420 else .fail 420 else .fail 420 else .fail 420 else .fail 420 else .fail 420 else bif m_nns c1 && (m_nns c2 && true) then KX 0 [some (.slice (some ⟨0, 0, none⟩) k unk), some (.slice (some ⟨1, 0, none⟩) k unk), some (I v)] [] [some (.cells c1 3 0 1), some (.cells c2 3 1 1)] else .fail 420 := by kernel_rfl
theorem odC (r : Mem) (k : Nat) (c1 c2 c3 : List Value) (v : Int) (K : OV → List Nat → OO → CR) (kx : Nat → KS) (KR : OV → List Nat → OO → CR) : run (SC r) 2047 52 4 Od_7 (lvlT (SC r) (tRv (k + 1) c1 c2 c3) .nil 4 4) none (rbK 0 [2, 3] [.g] K) kx (rbK 0 [2, 3] [.g] KR) [] (bT [7, 8, 9] [some (rowQ 0 (k + 1)), some (rowQ 1 (k + 1)), some (I v)] .nil) [] (mkA (oOz c1 c2)) =
    bif m_at [.slice (some ⟨1, 0, none⟩) (k + 1) unk] [.slice (some ⟨1, 0, none⟩) (k + 1) unk] (AW.mk 2 (.node (.node .nil (some (.cells c2 3 1 1)) .nil) (some (.cells c1 3 0 1)) .nil) .nil) (AW.mk 2 (.node (.node .nil (some (.cells c2 3 1 1)) .nil) (some (.cells c1 3 0 1)) .nil) .nil) then bif decide (IntKind.wrap .i64 (Int.ofNat 0 + Int.ofNat (k + 1)) < 0) then .fail 191 else bif decide (IntKind.wrap .i64 (IntKind.wrap .i64 (Int.ofNat 0 + Int.ofNat (k + 1)) + Int.ofNat 1) < 0) then .fail 191 else bif decide (IntKind.wrap .i64 (IntKind.wrap .i64 (IntKind.wrap .i64 (Int.ofNat 0 + Int.ofNat (k + 1)) + Int.ofNat 1) + Int.ofNat (k + 1)) < 0) then .fail 191 else bif m_grG (IntKind.wrap .i64 (IntKind.wrap .i64 (IntKind.wrap .i64 (Int.ofNat 0 + Int.ofNat (k + 1)) + Int.ofNat 1) + Int.ofNat (k + 1))) then bif Nat.ble (Nat.add 0 (k + 1)) 1000000 then Option.casesOn (takeAt c1 0 (Nat.mul (k + 1) 1)) (.fail 443) fun val => bif Nat.beq (List.length val) (Nat.mul (k + 1) 1) then bif ones val then Option.casesOn (takeAt (m_zr (IntKind.wrap .i64 (IntKind.wrap .i64 (IntKind.wrap .i64 (Int.ofNat 0 + Int.ofNat (k + 1)) + Int.ofNat 1) + Int.ofNat (k + 1)))) 0 0) (.fail 439) fun val_1 => bif Nat.ble (Nat.add (Nat.add 0 (k + 1)) 1) 1000000 then Option.casesOn (takeAt (val_1 ++ val) 0 (Nat.mul (Nat.add 0 (k + 1)) 1)) (.fail 439) fun val => bif Nat.ble (Nat.add (Nat.add (Nat.add 0 (k + 1)) 1) (k + 1)) 1000000 then Option.casesOn (takeAt c3 0 (Nat.mul (k + 1) 1)) (.fail 443) fun val_2 => bif Nat.beq (List.length val_2) (Nat.mul (k + 1) 1) then bif ones val_2 then Option.casesOn (takeAt (val ++ [I v]) 0 (Nat.mul (Nat.add (Nat.add 0 (k + 1)) 1) 1)) (.fail 439) fun val => bif m_nns (val ++ val_2) && true then KR [some (.slice (some ⟨0, 0, none⟩) (Nat.add (Nat.add (Nat.add 0 (k + 1)) 1) (k + 1)) unk), some (.bool true)] [] [some (.cells (val ++ val_2) 3 0 1)] else .fail 420 else .fail 420 else .fail 420 else .fail 420 else .fail 420 else .fail 420 else .fail 420 else .fail 420 else .fail 420 else .fail 420 := by kernel_rfl
theorem rvA (r : Mem) (k : Nat) (c1 c2 : List Value) (fs : FnsC) (K : OV → List Nat → OO → CR) (kx : Nat → KS) (kr : KS) : run (SC r) 13 28 1 Rv_0 fs none (rbK 2 [0, 2, 3] [.g, .g] K) kx kr (sc0 13 [rowQ 1 k]) (tr0 13 [rowQ 1 k]) [] (mkA (oOz c1 c2)) =
    bif m_nns c1 && (m_nns c2 && true) then K [some (.slice (some ⟨1, 0, none⟩) k unk), some (I (Int.ofNat 0)), some (I (IntKind.wrap .i64 (Int.ofNat k - Int.ofNat 1)))] [] [some (.cells c1 3 0 1), some (.cells c2 3 1 1)] else .fail 420 := by kernel_rfl
theorem rvB (r : Mem) (k : Nat) (c1 c2 : List Value) (i j : Int) (fs : FnsC) (K : OV → List Nat → OO → CR) (KX : Nat → OV → List Nat → OO → CR) (kr : KS) : run (SC r) 13 28 1 Rv_1 fs none (rbK 2 [0, 2, 3] [.g, .g] K) (fun i => rbK 2 [] [.g, .g] (KX i)) kr [] (bT [0, 2, 3] [some (rowQ 1 k), some (I i), some (I j)] .nil) [] (mkA (oOz c1 c2)) =
    bif decide (i < j) then bif decide (0 ≤ j) then bif Nat.blt (Int.toNat j) k then Option.casesOn c2[Nat.add 0 (Nat.mul (Int.toNat j) 1)]? (.fail 423) fun val => bif isI IntKind.i64 val then bif decide (0 ≤ i) then bif Nat.blt (Int.toNat i) k then Option.casesOn c2[Nat.add 0 (Nat.mul (Int.toNat i) 1)]? (.fail 423) fun val_1 => bif isI IntKind.i64 val_1 then bif decide (0 ≤ i) then bif Nat.blt (Int.toNat i) k then bif Nat.blt (Nat.add 0 (Nat.mul (Int.toNat i) 1)) (List.length c2) then bif decide (0 ≤ j) then bif Nat.blt (Int.toNat j) k then bif Nat.blt (Nat.add 0 (Nat.mul (Int.toNat j) 1)) (List.length (List.set c2 (Nat.add 0 (Nat.mul (Int.toNat i) 1)) (I (ofI val)))) then Option.casesOn c2[Nat.add 0 (Nat.mul (Int.toNat i) 1)]? (.fail 423) fun val_2 => bif isI IntKind.i64 val_2 then bif m_eqv (I (ofI val_2)) (I (ofI val_1)) then Option.casesOn c2[Nat.add 0 (Nat.mul (Int.toNat j) 1)]? (.fail 423) fun val_3 => bif isI IntKind.i64 val_3 then bif m_eqv (I (ofI val_3)) (I (ofI val)) then bif m_nns c1 && (m_nns (List.set (List.set c2 (Nat.add 0 (Nat.mul (Int.toNat i) 1)) (I (ofI val))) (Nat.add 0 (Nat.mul (Int.toNat j) 1)) (I (ofI val_1))) && true) then K [some (.slice (some ⟨1, 0, none⟩) k unk), some (I (IntKind.wrap .i64 (i + Int.ofNat 1))), some (I (IntKind.wrap .i64 (j - Int.ofNat 1)))] [] [some (.cells c1 3 0 1), some (.cells (List.set (List.set c2 (Nat.add 0 (Nat.mul (Int.toNat i) 1)) (I (ofI val))) (Nat.add 0 (Nat.mul (Int.toNat j) 1)) (I (ofI val_1))) 3 1 1)] else .fail 420 else .fail 420 else .fail 420 else .fail 420 else .fail 420 else .fail 420 else .fail 420 else .fail 420 else .fail 420 else .fail 420 else .fail 420 else .fail 420 else .fail 420 else .fail 420 else .fail 420 else .fail 420 else .fail 420 else bif m_nns c1 && (m_nns c2 && true) then KX 0 [] [] [some (.cells c1 3 0 1), some (.cells c2 3 1 1)] else .fail 420 := by kernel_rfl
end Go.Proofs
namespace Go.Proofs
open Go Go.Ev Go.Num
theorem fL_get (d b : Nat → Nat) : ∀ x, x < 16 → (fL d b)[Nat.add 0 (Nat.mul x 1)]? = some (I (d x : Nat))
 | 0, _ => rfl | 1, _ => rfl | 2, _ => rfl | 3, _ => rfl | 4, _ => rfl | 5, _ => rfl | 6, _ => rfl | 7, _ => rfl | 8, _ => rfl | 9, _ => rfl | 10, _ => rfl | 11, _ => rfl | 12, _ => rfl | 13, _ => rfl | 14, _ => rfl | 15, _ => rfl
 | x + 16, h => absurd h (by omega)
theorem fL_setB (d b : Nat → Nat) (x : Nat) : ∀ v, v < 16 → (fL d b).set (Nat.add 16 (Nat.mul v 1)) (I (x : Nat)) = fL d (upd b v x)
 | 0, _ => rfl | 1, _ => rfl | 2, _ => rfl | 3, _ => rfl | 4, _ => rfl | 5, _ => rfl | 6, _ => rfl | 7, _ => rfl | 8, _ => rfl | 9, _ => rfl | 10, _ => rfl | 11, _ => rfl | 12, _ => rfl | 13, _ => rfl | 14, _ => rfl | 15, _ => rfl
 | x + 16, h => absurd h (by omega)
theorem fL_setD (d b : Nat → Nat) (x : Nat) : ∀ v, v < 16 → (fL d b).set (Nat.add 0 (Nat.mul v 1)) (I (x : Nat)) = fL (upd d v x) b
 | 0, _ => rfl | 1, _ => rfl | 2, _ => rfl | 3, _ => rfl | 4, _ => rfl | 5, _ => rfl | 6, _ => rfl | 7, _ => rfl | 8, _ => rfl | 9, _ => rfl | 10, _ => rfl | 11, _ => rfl | 12, _ => rfl | 13, _ => rfl | 14, _ => rfl | 15, _ => rfl
 | x + 16, h => absurd h (by omega)
theorem fL_nn (d b : Nat → Nat) : m_nns (fL d b) = true := rfl
theorem fL_len (d b : Nat → Nat) : (fL d b).length = 32 := rfl
theorem oq_nx (g c : List Value) (s : Int) (off len cap : Nat) (d : List Value) (x t n i : Int) (st : LoopState) : (mkA (oJA g c s off len cap d x t n i st)).next = 10 := by kernel_rfl
theorem oqb_nx (y : Option Int) (g c : List Value) (s : Int) (len : Nat) (d : List Value) (x t n i : Int) (st : LoopState) : (mkA (oJB y 10 g c s len x t n i st ++ [oRi d 10])).next = 11 := by cases y <;> kernel_rfl
theorem oB_cn {g c d : List Value} (hg : m_nns g = true) (hc : m_nns c = true) (hd : m_nns d = true) (y : Option Int) (s : Int) (len : Nat) (x t n i : Int) : Cn 10 flJ (mkA (oJB y 10 g c s len x t n i .ready ++ [oRi d 10])) (oJB y 10 g c s len x t n i .ready ++ [oRi d 10]) := by
 cases y with
 | none => exact ⟨by kernel_rfl, by
   show (m_nns g && (true && (m_nns c && (true && (true && (true && (true && (true && (true && (true && (m_nns d && true))))))))))) = true
   rw [hg, hc, hd]; rfl⟩
 | some y => exact ⟨by kernel_rfl, by
   show (m_nns g && (true && (m_nns c && (true && (true && (true && (true && (true && (true && (true && (m_nns d && true))))))))))) = true
   rw [hg, hc, hd]; rfl⟩
noncomputable def oJC (y : Option Int) (g c : List Value) (s : Int) (len : Nat) (d : List Value) (x t n i : Int) (st : LoopState) : OO := oJB y 11 g c s len x t n i st ++ [none, oRi d 11]
theorem oC_cn {g c d : List Value} (hg : m_nns g = true) (hc : m_nns c = true) (hd : m_nns d = true) (y : Option Int) (s : Int) (len : Nat) (x t n i : Int) : Cn 10 flJ (mkA (oJC y g c s len d x t n i .ready)) (oJB y 10 g c s len x t n i .ready ++ [oRi d 10]) := ⟨by cases y <;> kernel_rfl, (oB_cn hg hc hd y s len x t n i).2⟩
theorem oB_end (y : Option Int) (g c d : List Value) (s : Int) (len : Nat) (x t n i : Int) : endR 9 none (St.of [] [] [] (oJB y 10 g c s len x t n i .busy ++ [oRi d 10])) = .ret (.bool true) (mkA (oJB y 10 g c s len x t n i .ready ++ [oRi d 10])) := by cases y <;> kernel_rfl
theorem oC_end (y : Option Int) (g c d : List Value) (s : Int) (len : Nat) (x t n i : Int) : endR 9 none (St.of [] [] [] (oJC y g c s len d x t n i .busy)) = .ret (.bool true) (mkA (oJC y g c s len d x t n i .ready)) := by cases y <;> kernel_rfl
theorem ws_at (a : List Nat) (x : Nat) (t : List Nat) : (m_ws (a ++ x :: t))[Nat.add a.length 0]? = some (I (x : Nat)) := by
 unfold m_ws
 rw [Nat.add_eq, Nat.add_zero, List.getElem?_map, List.getElem?_append_right (Nat.le_refl _), Nat.sub_self]
 rfl
theorem ws_take (a q : List Nat) : takeAt (m_ws (a ++ q)) a.length (Nat.mul q.length 1) = some (m_ws q) := Go.Ev.takeAt_all _ _ _ _ (by rw [ws_len]; simp) fun j _ => by
 unfold m_ws
 rw [List.map_append, List.getElem?_append_right (by simp), List.length_map, Nat.add_sub_cancel_left]
theorem ws_app (q : List Nat) (v : Nat) : m_ws q ++ [I (v : Nat)] = m_ws (q ++ [v]) := by unfold m_ws; rw [List.map_append]; rfl
theorem tSi_ok (r : Mem) : TOk (SC r) tSi := TOk.cons TOk.nil (eSi_ok r)
theorem bitV {x k : Nat} (hx : x < 65536) (hk : k ≤ 16) : (ibits BinOp.and IntKind.u64 (Int.fdiv ((x : Nat) : Int) (Int.ofNat 2 ^ min k 64)) (Int.ofNat 1) == Int.ofNat 1) = x.testBit k := by
 rw [shr_nat x k (by omega)]
 have hle : x / 2 ^ k ≤ x := Nat.div_le_self _ _
 rw [show (Int.ofNat 1 : Int) = ((1 : Nat) : Int) from rfl, (uO (by omega) (by decide)).2.1, Nat.and_one_is_mod, ← bt_bit]
 unfold btN
 rcases Nat.mod_two_eq_zero_or_one (x / 2 ^ k) with h | h <;> rw [h] <;> rfl
structure WkAt (w : Nat → Nat) (m i r0 : Nat) (x : Nat) (t : List Nat) (r : Nat) (v : Nat) (r' : Nat) (q' : List Nat) (d b p : Nat → Nat) : Prop where
 q : FoQ w m i r0 r' q' d b p
 hd : ∃ u, q' = x :: u
 up : ∀ u, r.testBit u = true → r'.testBit u = true
 old : ∀ u, u < v → (anN (w x) r).testBit u = true → r'.testBit u = true
 new : ∀ u, v ≤ u → (anN (w x) r).testBit u = true → r'.testBit u = false
 dep : ∀ u, d u ≤ r'
 le : 2 * (65536 - r') + q'.length ≤ 2 * (65536 - r) + (x :: t).length
theorem wk_init {w : Nat → Nat} {m i r0 x : Nat} {t : List Nat} {r : Nat} {d b p : Nat → Nat} (h : FoQ w m i r0 r (x :: t) d b p) (hd : ∀ u, d u ≤ r) : WkAt w m i r0 x t r 0 r (x :: t) d b p :=
 ⟨h, ⟨t, rfl⟩, fun _ h => h, fun u h => absurd h (by omega), fun u _ h => by rw [an_bit, Bool.and_eq_true, Bool.not_eq_true'] at h; exact h.2, hd, Nat.le_refl _⟩
theorem wk_skip {w : Nat → Nat} {m i r0 x : Nat} {t : List Nat} {r v r' : Nat} {q' : List Nat} {d b p : Nat → Nat} (h : WkAt w m i r0 x t r v r' q' d b p) (hb : (anN (w x) r).testBit v = false) : WkAt w m i r0 x t r (v + 1) r' q' d b p :=
 ⟨h.q, h.hd, h.up, fun u hu hb' => by
  by_cases c : u = v
  ·subst c; rw [hb] at hb'; exact nomatch hb'
  ·exact h.old u (by omega) hb', fun u hu => h.new u (by omega), h.dep, h.le⟩
theorem wk_push {w : Nat → Nat} {m i r0 x : Nat} {t : List Nat} {r v r' : Nat} {q' : List Nat} {d b p : Nat → Nat} (hm : m ≤ 16) (h : WkAt w m i r0 x t r v r' q' d b p) (hvm : v < m) (hb : (anN (w x) r).testBit v = true) : WkAt w m i r0 x t r (v + 1) (r' ||| 2 ^ v) (q' ++ [v]) (upd d v (d x + 1)) (upd b v x) (upd p v i) := by
 obtain ⟨u, rfl⟩ := h.hd
 have hn := h.new v (Nat.le_refl _) hb
 have hwx : (w x).testBit v = true := by rw [an_bit, Bool.and_eq_true] at hb; exact hb.1
 have hup := or_up hn
 have hq := fo_push h.q hvm hwx hn
 have hA : 2 ^ m ≤ 65536 := Nat.pow_le_pow_right (n := 2) (by decide) hm
 have hlt := hq.lt
 refine ⟨hq, ⟨u ++ [v], rfl⟩, fun y hy => by rw [or_bit1, h.up y hy]; rfl, fun y hy hb' => ?_, fun y hy hb' => ?_, fun y => ?_, ?_⟩
 ·rw [or_bit1]
  by_cases c : v = y
  ·simp [c]
  ·rw [h.old y (by omega) hb']; rfl
 ·rw [or_bit1, h.new y (by omega) hb', decide_eq_false (by omega)]; rfl
 ·by_cases c : y = v
  ·rw [c, upd_eq]
   have := h.dep x
   omega
  ·rw [upd_ne d _ c]
   have := h.dep y
   omega
 ·have := h.le
  simp only [List.length_append, List.length_cons, List.length_nil] at this ⊢
  omega
theorem wk_end {w : Nat → Nat} {m i r0 x : Nat} {t : List Nat} {r r' : Nat} {q' : List Nat} {d b p : Nat → Nat} (hw : Nbs w m) (hm : m ≤ 16) (h : WkAt w m i r0 x t r 16 r' q' d b p) : ∀ u, (w x).testBit u = true → r'.testBit u = true := fun u hu => by
 cases c : r.testBit u with
 | true => exact h.up u c
 | false =>
  have := (hw.low x u hu).2
  exact h.old u (by omega) (by rw [an_bit, hu, c]; rfl)
abbrev FS := Nat × List Nat × (Nat → Nat) × (Nat → Nat)
def wkS (S x : Nat) (s : FS) : Nat → FS
 | 0 => s
 | v + 1 => if S.testBit v = true then ((wkS S x s v).1 ||| 2 ^ v, (wkS S x s v).2.1 ++ [v], upd (wkS S x s v).2.2.1 v ((wkS S x s v).2.2.1 x + 1), upd (wkS S x s v).2.2.2 v x) else wkS S x s v
def qS (w : Nat → Nat) : Nat → FS → FS
 | 0, s => s
 | f + 1, (r, [], d, b) => (r, [], d, b)
 | f + 1, (r, x :: t, d, b) => qS w f ((wkS (anN (w x) r) x (r, x :: t, d, b) 16).1, (wkS (anN (w x) r) x (r, x :: t, d, b) 16).2.1.tail, (wkS (anN (w x) r) x (r, x :: t, d, b) 16).2.2.1, (wkS (anN (w x) r) x (r, x :: t, d, b) 16).2.2.2)
def rS (w : Nat → Nat) : Nat → FS
 | 0 => (0, [], fun _ => 0, fun _ => 0)
 | i + 1 => if (rS w i).1.testBit i = true then rS w i else qS w 200000 ((rS w i).1 ||| 2 ^ i, [i], (rS w i).2.2.1, upd (rS w i).2.2.2 i i)
theorem qS_nil (w : Nat → Nat) (f r : Nat) (d b : Nat → Nat) : qS w f (r, [], d, b) = (r, [], d, b) := by cases f <;> rfl
theorem wkS_in {S x v : Nat} {s : FS} {r : Nat} {q : List Nat} {d b : Nat → Nat} (h : wkS S x s v = (r, q, d, b)) (hb : S.testBit v = true) : wkS S x s (v + 1) = (r ||| 2 ^ v, q ++ [v], upd d v (d x + 1), upd b v x) := by rw [wkS, if_pos hb, h]
theorem wkS_out {S x v : Nat} {s : FS} (hb : S.testBit v = false) : wkS S x s (v + 1) = wkS S x s v := by rw [wkS, if_neg (by rw [hb]; decide)]
theorem wkS_at {w : Nat → Nat} {m i r0 x : Nat} {t : List Nat} {r : Nat} {d b p : Nat → Nat} (hw : Nbs w m) (hm : m ≤ 16) (h : FoQ w m i r0 r (x :: t) d b p) (hd : ∀ u, d u ≤ r) : ∀ v, ∃ r' q' d' b' p', wkS (anN (w x) r) x (r, x :: t, d, b) v = (r', q', d', b') ∧ WkAt w m i r0 x t r v r' q' d' b' p'
 | 0 => ⟨r, x :: t, d, b, p, rfl, wk_init h hd⟩
 | v + 1 => by
  obtain ⟨r', q', d', b', p', h1, h2⟩ := wkS_at hw hm h hd v
  cases hb : (anN (w x) r).testBit v with
  | false => exact ⟨r', q', d', b', p', (wkS_out hb).trans h1, wk_skip h2 hb⟩
  | true =>
   have hvm : v < m := by
    have hb' := hb
    rw [an_bit, Bool.and_eq_true] at hb'
    exact (hw.low x v hb'.1).2
   exact ⟨_, _, _, _, _, wkS_in h1 hb, wk_push hm h2 hvm hb⟩
theorem qS_ok {w : Nat → Nat} {m i r0 : Nat} (hw : Nbs w m) (hm : m ≤ 16) : ∀ f r q d b p, FoQ w m i r0 r q d b p → (∀ u, d u ≤ r) → 2 * (65536 - r) + q.length ≤ f → ∃ r' d' b' p', qS w f (r, q, d, b) = (r', [], d', b') ∧ FoQ w m i r0 r' [] d' b' p' ∧ ∀ u, d' u ≤ r'
 | 0, r, q, d, b, p, h, hd, hf => by
  have h1 := h.lt
  have hA : 2 ^ m ≤ 65536 := Nat.pow_le_pow_right (n := 2) (by decide) hm
  omega
 | f + 1, r, [], d, b, p, h, hd, hf => ⟨r, d, b, p, rfl, h, hd⟩
 | f + 1, r, x :: t, d, b, p, h, hd, hf => by
  obtain ⟨r', q', d', b', p', h1, h2⟩ := wkS_at hw hm h hd 16
  obtain ⟨u, rfl⟩ := h2.hd
  have hle := h2.le
  have hp := fo_pop hw h2.q (wk_end hw hm h2)
  obtain ⟨r3, d3, b3, p3, e3, h3, hd3⟩ := qS_ok hw hm f r' u d' b' p' hp h2.dep (by simp only [List.length_cons] at hle hf; omega)
  refine ⟨r3, d3, b3, p3, ?_, h3, hd3⟩
  rw [qS, h1]
  exact e3
theorem rS_ok {w : Nat → Nat} {m : Nat} (hw : Nbs w m) (hm : m ≤ 16) : ∀ i, i ≤ m → ∃ r d b p, rS w i = (r, [], d, b) ∧ FoO w m i r d b p ∧ ∀ u, d u ≤ r
 | 0, _ => ⟨0, _, _, _, rfl, fo_init w m, fun _ => Nat.le_refl _⟩
 | i + 1, hi => by
  obtain ⟨r, d, b, p, h1, h2, h3⟩ := rS_ok hw hm i (by omega)
  cases hb : r.testBit i with
  | true => exact ⟨r, d, b, p, by rw [rS, h1, if_pos hb], fo_skip h2 hb, h3⟩
  | false =>
   have hup := or_up hb
   obtain ⟨r', d', b', p', e1, e2, e3⟩ := qS_ok hw hm 200000 _ _ _ _ _ (fo_start h2 (by omega) hb) (fun u => by have := h3 u; omega) (by simp only [List.length_singleton]; omega)
   exact ⟨r', d', b', p', by rw [rS, h1, if_neg (by rw [hb]; decide)]; exact e1, fo_end e2, e3⟩
def fD (w : Nat → Nat) (m : Nat) : Nat → Nat := (rS w m).2.2.1
def fB (w : Nat → Nat) (m : Nat) : Nat → Nat := (rS w m).2.2.2
theorem fE {w : Nat → Nat} {m : Nat} (hw : Nbs w m) (hm : m ≤ 16) : ∃ p, FoE w m (fD w m) (fB w m) p := by
 obtain ⟨r, d, b, p, h1, h2, _⟩ := rS_ok hw hm m (Nat.le_refl _)
 unfold fD fB
 rw [h1]
 exact ⟨p, fo_all h2⟩
def ShA (m : Nat) (w : Nat → Nat) (e : Value) (i x S : Nat) (r : Nat) (d b : Nat → Nat) (q : List Nat) (off cap : Nat) (a : List Nat) (os : OO) : Prop := os = oJA (hG (m : Nat) (wG w) e) (fL d b) (r : Nat) off q.length cap (m_ws (a ++ q)) (x : Nat) (S : Nat) (m : Nat) (i : Nat) .ready
def ShB (m : Nat) (w : Nat → Nat) (e : Value) (i x S : Nat) (r : Nat) (d b : Nat → Nat) (q : List Nat) (os : OO) : Prop := ∃ y : Option Int, os = oJB y 10 (hG (m : Nat) (wG w) e) (fL d b) (r : Nat) q.length (x : Nat) (S : Nat) (m : Nat) (i : Nat) .ready ++ [oRi (m_ws q) 10]
def QS (q : List Nat) (off cap : Nat) (a : List Nat) : Prop := off = a.length ∧ (cap = unk ∨ (cap = 1 ∧ off = 0 ∧ a = [] ∧ ∃ y, q = [y]))
def JF (m : Nat) (w : Nat → Nat) (e : Value) (i r0 x : Nat) (t : List Nat) (r : Nat) (d0 b0 : Nat → Nat) (off cap : Nat) (a : List Nat) (v : Nat) (os : OO) : Prop :=
 ∃ r' q' d b p, WkAt w m i r0 x t r v r' q' d b p ∧ wkS (anN (w x) r) x (r, x :: t, d0, b0) v = (r', q', d, b) ∧ q'.length ≤ 140000 ∧ ((q' = x :: t ∧ QS q' off cap a ∧ ShA m w e i x (anN (w x) r) r' d b q' off cap a os) ∨ ShB m w e i x (anN (w x) r) r' d b q' os)
theorem yFo {r : Mem} {m : Nat} {w : Nat → Nat} {e : Value} {i r0 x : Nat} {t : List Nat} {ri off cap : Nat} {d0 b0 : Nat → Nat} {a : List Nat} (hB : 2 * (65536 - ri) + (x :: t).length ≤ 140000) (hm16 : m ≤ 16) (he : EdV e) (him : i < m) (hx16 : x < 16) {v : Nat} (hvm : v < m) (hb : (anN (w x) ri).testBit v = true) {os : OO} (h : JF m w e i r0 x t ri d0 b0 off cap a v os) {E : OO → Prop} :
  YOk (SC r) 9 [I (v : Nat)] (mkA os) fun u A' => ∃ os', Cn 10 flJ A' os' ∧ ((u = .bool true ∧ JF m w e i r0 x t ri d0 b0 off cap a (v + 1) os') ∨ (u = .bool false ∧ E os')) := by
 obtain ⟨r', q', d, b, p, hwk, heq, hql, hsh⟩ := h
 have hA : 2 ^ m ≤ 65536 := Nat.pow_le_pow_right (n := 2) (by decide) hm16
 have hwk' := wk_push hm16 hwk hvm hb
 have hg := hG_nn (m : Nat) (wG w) he
 have hv16 : v < 16 := by omega
 have hr' : r' < 65536 := by have := hwk.q.lt; omega
 have p1 : 2 ^ v < 65536 := Nat.pow_lt_pow_right (n := 16) (by decide) (by omega)
 have ort : ibits .or .u64 ((r' : Nat) : Int) ((2 ^ v : Nat) : Int) = ((r' ||| 2 ^ v : Nat) : Int) := (uO (by omega) (by omega)).1
 have ei : ∀ (k : IntKind) (z : Int), m_eqv (.int k z) (.int k z) = true := fun k z => by simp [m_eqv, veq]
 have ii : ∀ x, isI IntKind.i64 (I x) = true := fun _ => rfl
 have oo : ∀ x, ofI (I x) = x := fun _ => rfl
 have dx : IntKind.wrap IntKind.i64 (((d x : Nat) : Int) + Int.ofNat 1) = ((d x + 1 : Nat) : Int) := aInc (by have := hwk.dep x; omega)
 have fin : ∀ os', (os' = oJB none 10 (hG (m : Nat) (wG w) e) (fL (upd d v (d x + 1)) (upd b v x)) ((r' ||| 2 ^ v : Nat) : Int) (q' ++ [v]).length (x : Nat) (anN (w x) ri : Nat) (m : Nat) (i : Nat) .ready ++ [oRi (m_ws (q' ++ [v])) 10] ∨ ∃ y, os' = oJB (some y) 10 (hG (m : Nat) (wG w) e) (fL (upd d v (d x + 1)) (upd b v x)) ((r' ||| 2 ^ v : Nat) : Int) (q' ++ [v]).length (x : Nat) (anN (w x) ri : Nat) (m : Nat) (i : Nat) .ready ++ [oRi (m_ws (q' ++ [v])) 10]) → JF m w e i r0 x t ri d0 b0 off cap a (v + 1) os' := fun os' ho => by
  refine ⟨_, _, _, _, _, hwk', wkS_in heq hb, by have := hwk'.le; omega, .inr ?_⟩
  rcases ho with ho | ⟨y, ho⟩
  ·exact ⟨none, ho⟩
  ·exact ⟨some y, ho⟩
 rcases hsh with ⟨rfl, hqs, rfl⟩ | ⟨y, rfl⟩
 ·-- nothing has been put behind yet
  refine YOk.of (SC_ok r) (i := 9) (st := .ready) (pend := none) (m := 9223378633924550143) (n := 66) (en := ⟨[], bT lvH (vH (m : Nat) (i : Nat)) .nil⟩) (params := #[42]) (assign := k_f1) (body := k_f2) (d := 8) (by kernel_rfl) (s0 := []) (b0 := bT (lvH ++ [42]) (vH (m : Nat) (i : Nat) ++ [some (I (v : Nat))]) .nil) (by kernel_rfl) (tSi_ok r) (tm := .nil) (L := 1) (L' := 1) (d' := 2)
   ⟨lvJ, flJ, fun vs ms os => vs = vJ (v : Nat) ∧ ms = [] ∧ os = oJA (hG (m : Nat) (wG w) e) (fL d b) (r' : Nat) off (x :: t).length cap (m_ws (a ++ x :: t)) (x : Nat) (anN (w x) ri : Nat) (m : Nat) (i : Nat) .busy⟩
   ⟨[], flJ, fun vs ms os => vs = [] ∧ ms = [] ∧ ∃ y : Option Int, os = oJB y 10 (hG (m : Nat) (wG w) e) (fL (upd d v (d x + 1)) (upd b v x)) ((r' ||| 2 ^ v : Nat) : Int) ((x :: t) ++ [v]).length (x : Nat) (anN (w x) ri : Nat) (m : Nat) (i : Nat) .busy ++ [oRi (m_ws ((x :: t) ++ [v])) 10]⟩
   (fun _ => Outs.no) Outs.no ?_ ?_ ?_ ?_ ?_
  ·rw [oq_nx]
   have hn := foFA r (hG (m : Nat) (wG w) e) (fL d b) (r' : Nat) off (x :: t).length cap (m_ws (a ++ x :: t)) (x : Nat) (anN (w x) ri : Nat) (m : Nat) (i : Nat) (v : Nat)
   simp only [hg, fL_nn, ws_nn, Bool.and_self, cond_true] at hn
   exact (hn _ _ _ _).trans (qq_ok ⟨rfl, rfl, rfl⟩)
  ·rintro F k γ W hF hro h0 vs ms os ⟨rfl, rfl, rfl⟩
   rw [oq_nx] at h0
   rw [Fb_eq]
   refine Go.Ev.Reach.blockC (Go.Ev.Reach.segR (SC_ok r) (tSi_ok r) (tm := .nil) (L := 1) (L' := 1) (d := 2) hF hro h0 [] (fun p hp => nomatch hp) ?_)
   obtain ⟨ho, hcap⟩ := hqs
   rcases hcap with rfl | ⟨rfl, rfl, rfl, y0, hy0⟩
   ·have hn := foGA r (hG (m : Nat) (wG w) e) (fL d b) (r' : Nat) off (x :: t).length (m_ws (a ++ x :: t)) (x : Nat) (anN (w x) ri : Nat) (m : Nat) (i : Nat) (v : Nat)
    have tk := ws_take a (x :: t)
    rw [← ho] at tk
    have b1 : Nat.blt (Nat.add 16 (Nat.mul v 1)) (fL d b).length = true := Nat.ble_eq_true_of_le (by rw [fL_len]; simp; omega)
    have b2 : ∀ c, Nat.blt (Nat.add 0 (Nat.mul v 1)) (fL d c).length = true := fun c => Nat.ble_eq_true_of_le (by rw [fL_len]; simp; omega)
    have m1 : Nat.ble (Nat.add (x :: t).length 1) 1000000 = true := Nat.ble_eq_true_of_le (by simp only [Nat.add_eq]; omega)
    have md : Nat.beq (Nat.mod off 1) 0 = true := by rw [show Nat.mod off 1 = 0 from Nat.mod_one off]; rfl
    simp only [vG_of hv16, ei, dT (show 0 ≤ (x : Int) by omega), dT (show 0 ≤ (v : Int) by omega), Int.toNat_natCast, show Nat.blt x 16 = true from Nat.ble_eq_true_of_le hx16, show Nat.blt v 16 = true from Nat.ble_eq_true_of_le hv16, fL_get d b x hx16, ii, oo, b1, fL_setB d b x v hv16, b2, fL_setD d (upd b v x) (d x + 1) v hv16, bitN, ort, dx, m1, tk, ws_app, md, hg, fL_nn, ws_nn, Bool.and_self, cond_true] at hn
    cases hz : Nat.beq off 0 with
    | true => simp only [hz, cond_true] at hn; exact (hn _ _ _).trans (qq_ok ⟨rfl, rfl, none, by simp only [List.length_append, List.length_singleton]; rfl⟩)
    | false => simp only [hz, cond_false] at hn; exact (hn _ _ _).trans (qq_ok ⟨rfl, rfl, none, by simp only [List.length_append, List.length_singleton]; rfl⟩)
   ·obtain ⟨rfl, rfl⟩ : x = y0 ∧ t = [] := by simpa using hy0
    have hn := foG1 r (hG (m : Nat) (wG w) e) (fL d b) (r' : Nat) (x : Nat) (x : Nat) (anN (w x) ri : Nat) (m : Nat) (i : Nat) (v : Nat)
    have b1 : Nat.blt (Nat.add 16 (Nat.mul v 1)) (fL d b).length = true := Nat.ble_eq_true_of_le (by rw [fL_len]; simp; omega)
    have b2 : ∀ c, Nat.blt (Nat.add 0 (Nat.mul v 1)) (fL d c).length = true := fun c => Nat.ble_eq_true_of_le (by rw [fL_len]; simp; omega)
    have n2 : ∀ a b : Int, m_nns [I a, I b] = true := fun _ _ => rfl
    have n1 : ∀ a : Int, m_nns [I a] = true := fun _ => rfl
    simp only [vG_of hv16, ei, dT (show 0 ≤ (x : Int) by omega), dT (show 0 ≤ (v : Int) by omega), Int.toNat_natCast, show Nat.blt x 16 = true from Nat.ble_eq_true_of_le hx16, show Nat.blt v 16 = true from Nat.ble_eq_true_of_le hv16, fL_get d b x hx16, ii, oo, b1, fL_setB d b x v hv16, b2, fL_setD d (upd b v x) (d x + 1) v hv16, bitN, ort, dx, hg, fL_nn, n1, n2, Bool.and_self, cond_true] at hn
    exact (hn _ _ _).trans (qq_ok ⟨rfl, rfl, some x, rfl⟩)
  ·rintro vs ms os ⟨rfl, rfl, y, rfl⟩
   refine ⟨_, _, oB_end y _ _ _ _ _ _ _ _ _, _, oB_cn hg (fL_nn _ _) (ws_nn _) y _ _ _ _ _ _, .inl ⟨rfl, fin _ ?_⟩⟩
   cases y with
   | none => exact .inl rfl
   | some y => exact .inr ⟨y, rfl⟩
  ·rintro id vs ms os hf
   exact hf.elim
  ·rintro vs ms os hf
   exact hf.elim
 ·-- something has been put behind
  refine YOk.of (SC_ok r) (i := 9) (st := .ready) (pend := none) (m := 9223378633924550143) (n := 66) (en := ⟨[], bT lvH (vH (m : Nat) (i : Nat)) .nil⟩) (params := #[42]) (assign := k_f1) (body := k_f2) (d := 8) (by cases y <;> kernel_rfl) (s0 := []) (b0 := bT (lvH ++ [42]) (vH (m : Nat) (i : Nat) ++ [some (I (v : Nat))]) .nil) (by kernel_rfl) (tSi_ok r) (tm := .nil) (L := 1) (L' := 1) (d' := 2)
   ⟨lvJ, flJ ++ [.g], fun vs ms os => vs = vJ (v : Nat) ∧ ms = [] ∧ os = oJB y 10 (hG (m : Nat) (wG w) e) (fL d b) (r' : Nat) q'.length (x : Nat) (anN (w x) ri : Nat) (m : Nat) (i : Nat) .busy ++ [oRi (m_ws q') 10]⟩
   ⟨[], flJ ++ [.g], fun vs ms os => vs = [] ∧ ms = [] ∧ os = oJC y (hG (m : Nat) (wG w) e) (fL (upd d v (d x + 1)) (upd b v x)) ((r' ||| 2 ^ v : Nat) : Int) (q' ++ [v]).length (m_ws (q' ++ [v])) (x : Nat) (anN (w x) ri : Nat) (m : Nat) (i : Nat) .busy⟩
   (fun _ => Outs.no) Outs.no ?_ ?_ ?_ ?_ ?_
  ·rw [oqb_nx]
   have n1 : ∀ a : Int, m_nns [I a] = true := fun _ => rfl
   cases y with
   | none =>
    have hn := foFB r (hG (m : Nat) (wG w) e) (fL d b) (r' : Nat) q'.length (m_ws q') (x : Nat) (anN (w x) ri : Nat) (m : Nat) (i : Nat) (v : Nat)
    simp only [hg, fL_nn, ws_nn, n1, Bool.and_self, cond_true] at hn
    exact (hn _ _ _ _).trans (qq_ok ⟨rfl, rfl, rfl⟩)
   | some y =>
    have hn := foFBy r y (hG (m : Nat) (wG w) e) (fL d b) (r' : Nat) q'.length (m_ws q') (x : Nat) (anN (w x) ri : Nat) (m : Nat) (i : Nat) (v : Nat)
    simp only [hg, fL_nn, ws_nn, n1, Bool.and_self, cond_true] at hn
    exact (hn _ _ _ _).trans (qq_ok ⟨rfl, rfl, rfl⟩)
  ·rintro F k γ W hF hro h0 vs ms os ⟨rfl, rfl, rfl⟩
   rw [oqb_nx] at h0
   rw [Fb_eq]
   refine Go.Ev.Reach.blockC (Go.Ev.Reach.segR (SC_ok r) (tSi_ok r) (tm := .nil) (L := 1) (L' := 1) (d := 2) hF hro h0 [] (fun p hp => nomatch hp) ?_)
   have tk : takeAt (m_ws q') 0 (Nat.mul q'.length 1) = some (m_ws q') := ws_take [] q'
   have b1 : Nat.blt (Nat.add 16 (Nat.mul v 1)) (fL d b).length = true := Nat.ble_eq_true_of_le (by rw [fL_len]; simp; omega)
   have b2 : ∀ c, Nat.blt (Nat.add 0 (Nat.mul v 1)) (fL d c).length = true := fun c => Nat.ble_eq_true_of_le (by rw [fL_len]; simp; omega)
   have m1 : Nat.ble (Nat.add q'.length 1) 1000000 = true := Nat.ble_eq_true_of_le (by simp only [Nat.add_eq]; omega)
   have n1 : ∀ a : Int, m_nns [I a] = true := fun _ => rfl
   cases y with
   | none =>
    have hn := foGB r (hG (m : Nat) (wG w) e) (fL d b) (r' : Nat) q'.length (m_ws q') (x : Nat) (anN (w x) ri : Nat) (m : Nat) (i : Nat) (v : Nat)
    simp only [vG_of hv16, ei, dT (show 0 ≤ (x : Int) by omega), dT (show 0 ≤ (v : Int) by omega), Int.toNat_natCast, show Nat.blt x 16 = true from Nat.ble_eq_true_of_le hx16, show Nat.blt v 16 = true from Nat.ble_eq_true_of_le hv16, fL_get d b x hx16, ii, oo, b1, fL_setB d b x v hv16, b2, fL_setD d (upd b v x) (d x + 1) v hv16, bitN, ort, dx, m1, tk, ws_app, hg, fL_nn, ws_nn, n1, Bool.and_self, cond_true] at hn
    exact (hn _ _ _).trans (qq_ok ⟨rfl, rfl, by simp only [List.length_append, List.length_singleton]; rfl⟩)
   | some y =>
    have hn := foGBy r y (hG (m : Nat) (wG w) e) (fL d b) (r' : Nat) q'.length (m_ws q') (x : Nat) (anN (w x) ri : Nat) (m : Nat) (i : Nat) (v : Nat)
    simp only [vG_of hv16, ei, dT (show 0 ≤ (x : Int) by omega), dT (show 0 ≤ (v : Int) by omega), Int.toNat_natCast, show Nat.blt x 16 = true from Nat.ble_eq_true_of_le hx16, show Nat.blt v 16 = true from Nat.ble_eq_true_of_le hv16, fL_get d b x hx16, ii, oo, b1, fL_setB d b x v hv16, b2, fL_setD d (upd b v x) (d x + 1) v hv16, bitN, ort, dx, m1, tk, ws_app, hg, fL_nn, ws_nn, n1, Bool.and_self, cond_true] at hn
    exact (hn _ _ _).trans (qq_ok ⟨rfl, rfl, by simp only [List.length_append, List.length_singleton]; rfl⟩)
  ·rintro vs ms os ⟨rfl, rfl, rfl⟩
   refine ⟨_, _, oC_end y _ _ _ _ _ _ _ _ _, _, oC_cn hg (fL_nn _ _) (ws_nn _) y _ _ _ _ _ _, .inl ⟨rfl, fin _ ?_⟩⟩
   cases y with
   | none => exact .inl rfl
   | some y => exact .inr ⟨y, rfl⟩
  ·rintro id vs ms os hf
   exact hf.elim
  ·rintro vs ms os hf
   exact hf.elim
end Go.Proofs
namespace Go.Num
open Go.Proofs Go.Ev Go
def ff (q : Nat → Bool) : Nat → Option Nat
 | 0 => none
 | n + 1 => match ff q n with
  | some k => some k
  | none => if q n = true then some n else none
theorem ff_none {q : Nat → Bool} : ∀ {n}, (∀ j, j < n → q j = false) → ff q n = none
 | 0, _ => rfl
 | n + 1, h => by rw [ff, ff_none fun j hj => h j (by omega)]; exact if_neg (by rw [h n (by omega)]; decide)
theorem ff_some {q : Nat → Bool} {k : Nat} (h : ∀ j, j < k → q j = false) (hk : q k = true) : ∀ {n}, k < n → ff q n = some k
 | 0, hn => absurd hn (by omega)
 | n + 1, hn => by
  rw [ff]
  by_cases c : k = n
  ·subst c; rw [ff_none h]; exact if_pos hk
  ·rw [ff_some h hk (n := n) (by omega)]
theorem ff_cases (q : Nat → Bool) : ∀ n, (ff q n = none ∧ ∀ j, j < n → q j = false) ∨ ∃ k, ff q n = some k ∧ k < n ∧ q k = true
 | 0 => .inl ⟨rfl, fun j h => absurd h (by omega)⟩
 | n + 1 => by
  rcases ff_cases q n with ⟨h1, h2⟩ | ⟨k, h1, h2, h3⟩
  ·cases c : q n with
   | true => exact .inr ⟨n, by rw [ff, h1]; exact if_pos c, by omega, c⟩
   | false => exact .inl ⟨by rw [ff, h1]; exact if_neg (by rw [c]; decide), fun j hj => by
     by_cases e : j = n
     ·rw [e]; exact c
     ·exact h2 j (by omega)⟩
  ·exact .inr ⟨k, by rw [ff, h1], by omega, h3⟩
def lq (E : List (Nat × Nat)) (d : Nat → Nat) (j : Nat) : Bool := d (E.getD j (0, 0)).1 == d (E.getD j (0, 0)).2
def lvE (E : List (Nat × Nat)) (d : Nat → Nat) : Option Nat := ff (lq E d) E.length
theorem nbN_bit {M : Nat} (z : Nat → Int) : ∀ k, (∀ i, i < k → 0 ≤ ea z i ∧ ea z i < eb z i ∧ eb z i < M) → ∀ i v, ((nbN M z k).getD i 0).testBit v = true ↔ ∃ j, j < k ∧ ((i = (ea z j).toNat ∧ v = (eb z j).toNat) ∨ (i = (eb z j).toNat ∧ v = (ea z j).toNat))
 | 0, _, i, v => by
  have h0 : (nbN M z 0).getD i 0 = 0 := by
   rw [nbN, List.getD_eq_getElem?_getD, List.getElem?_replicate]
   split <;> rfl
  rw [h0, Nat.zero_testBit]
  constructor
  ·intro h; exact nomatch h
  ·rintro ⟨j, hj, _⟩; omega
 | k + 1, h, i, v => by
  obtain ⟨b1, b2, b3⟩ := h k (by omega)
  have ih := nbN_bit z k (fun i hi => h i (by omega)) i v
  have hl : (nbN M z k).length = M := nbN_len M z k
  rw [nbN, jn_bit (by omega) (by omega), Bool.or_eq_true, Bool.or_eq_true, ih, decide_eq_true_eq, decide_eq_true_eq]
  constructor
  ·rintro (⟨j, h1, h2⟩ | h2 | h2)
   ·exact ⟨j, by omega, h2⟩
   ·exact ⟨k, by omega, .inl h2⟩
   ·exact ⟨k, by omega, .inr h2⟩
  ·rintro ⟨j, h1, h2⟩
   by_cases c : j = k
   ·subst c
    rcases h2 with h2 | h2
    ·exact .inr (.inl h2)
    ·exact .inr (.inr h2)
   ·exact .inl ⟨j, by omega, h2⟩
theorem ea_E (E : List (Nat × Nat)) (j : Nat) : ea (zE E) j = ((E.getD j (0, 0)).1 : Nat) := by unfold ea zE; rw [if_pos (by omega), show 2 * j / 2 = j by omega]
theorem eb_E (E : List (Nat × Nat)) (j : Nat) : eb (zE E) j = ((E.getD j (0, 0)).2 : Nat) := by unfold eb zE; rw [if_neg (by omega), show (2 * j + 1) / 2 = j by omega]
theorem wS_bit {m : Nat} (hm : m ≤ 16) {E : List (Nat × Nat)} (hE : okAll (m : Int) (zE E) E.length = true) (i v : Nat) : (wS E i).testBit v = true ↔ ∃ j, j < E.length ∧ ((i = (E.getD j (0, 0)).1 ∧ v = (E.getD j (0, 0)).2) ∨ (i = (E.getD j (0, 0)).2 ∧ v = (E.getD j (0, 0)).1)) := by
 unfold wS
 rw [nbN_bit (zE E) E.length fun i hi => by have := okAll_at hE i hi; omega]
 simp only [ea_E, eb_E, Int.toNat_natCast]
theorem E_at {m : Nat} {E : List (Nat × Nat)} (hE : okAll (m : Int) (zE E) E.length = true) {j : Nat} (hj : j < E.length) : (E.getD j (0, 0)).1 < (E.getD j (0, 0)).2 ∧ (E.getD j (0, 0)).2 < m := by
 have := okAll_at hE j hj
 rw [ea_E, eb_E] at this
 omega
theorem wS_nbs {m : Nat} (hm : m ≤ 16) {E : List (Nat × Nat)} (hE : okAll (m : Int) (zE E) E.length = true) : Nbs (wS E) m := nb_nbs hm (zE E) E.length fun i hi => okAll_at hE i hi
theorem wS_hi {m : Nat} (hm : m ≤ 16) {E : List (Nat × Nat)} (hE : okAll (m : Int) (zE E) E.length = true) (i : Nat) : wS E i < 2 ^ m := by
 rcases Nat.lt_or_ge (wS E i) (2 ^ m) with c | c
 ·exact c
 ·obtain ⟨v, hv1, hv2⟩ := Nat.exists_ge_and_testBit_of_ge_two_pow c
  have := ((wS_nbs hm hE).low i v hv2).2
  omega
def evN (d : Nat → Nat) : Nat → Nat
 | 0 => 0
 | v + 1 => if d v % 2 = 0 then evN d v ||| 2 ^ v else evN d v
theorem evN_bit (d : Nat → Nat) : ∀ m i, (evN d m).testBit i = (decide (i < m) && decide (d i % 2 = 0))
 | 0, i => by rw [evN, Nat.zero_testBit, decide_eq_false (by omega)]; rfl
 | m + 1, i => by
  rw [evN]
  by_cases c : d m % 2 = 0
  ·rw [if_pos c, or_bit1, evN_bit d m i]
   by_cases e : m = i
   ·subst e; simp [c]
   ·rw [decide_eq_false e, Bool.or_false]
    congr 1
    exact decide_eq_decide.2 (by omega)
  ·rw [if_neg c, evN_bit d m i]
   by_cases e : m = i
   ·subst e; simp [c]
   ·congr 1
    exact decide_eq_decide.2 (by omega)
theorem evN_lt (d : Nat → Nat) : ∀ m, evN d m < 2 ^ m
 | 0 => by rw [evN]; decide
 | m + 1 => by
  have := evN_lt d m
  have hp : 2 ^ (m + 1) = 2 * 2 ^ m := by rw [Nat.pow_succ]; omega
  rw [evN]
  split
  ·exact Nat.or_lt_two_pow (by omega) (Nat.pow_lt_pow_right (by decide) (by omega))
  ·omega
theorem sides_eq {m : Nat} (hm : m ≤ 16) {E : List (Nat × Nat)} (hE : okAll (m : Int) (zE E) E.length = true) : (lvE E (fD (wS E) m) = none ∧ (sdI (wS E) m m).1 &&& (sdI (wS E) m m).2 = 0 ∧ evN (fD (wS E) m) m = (sdI (wS E) m m).1) ∨ ((∃ k, lvE E (fD (wS E) m) = some k ∧ k < E.length ∧ fD (wS E) m (E.getD k (0, 0)).1 = fD (wS E) m (E.getD k (0, 0)).2) ∧ (sdI (wS E) m m).1 &&& (sdI (wS E) m m).2 ≠ 0) := by
 have hw := wS_nbs hm hE
 obtain ⟨p, hF⟩ := fE hw hm
 have hS := sdI_end hm hw (wS_hi hm hE)
 generalize fD (wS E) m = d at *
 generalize fB (wS E) m = b at *
 generalize sdI (wS E) m m = s at *
 rcases ff_cases (lq E d) E.length with ⟨h1, h2⟩ | ⟨k, h1, h2, h3⟩
 ·have hn : NoLv (wS E) m d := fun v u hv hvu e => by
   obtain ⟨j, hj, h⟩ := (wS_bit hm hE v u).1 hvu
   have := h2 j hj
   unfold lq at this
   rw [beq_eq_false_iff_ne] at this
   rcases h with ⟨rfl, rfl⟩ | ⟨rfl, rfl⟩
   ·exact this e
   ·exact this e.symm
  obtain ⟨h4, h5⟩ := sd_two hw hF hn hS
  refine .inl ⟨h1, h4, ?_⟩
  apply Nat.eq_of_testBit_eq
  intro i
  rw [evN_bit]
  by_cases c : i < m
  ·rw [h5 i c, decide_eq_true c, Bool.true_and]
  ·rw [decide_eq_false c, Bool.false_and, high hS.llt (by omega)]
 ·have h3' : d (E.getD k (0, 0)).1 = d (E.getD k (0, 0)).2 := by unfold lq at h3; exact beq_iff_eq.1 h3
  obtain ⟨hlt, hm2⟩ := E_at hE h2
  exact .inr ⟨⟨k, h1, h2, h3'⟩, sd_odd hw hF hS (by omega) ((wS_bit hm hE _ _).2 ⟨k, h2, .inl ⟨rfl, rfl⟩⟩) h3'⟩
/-! ### rings -/
def mtN (b : Nat → Nat) : Nat → Nat → Nat → Nat
 | 0, _, _ => 0
 | f + 1, v, u => if v = u then 0 else mtN b f (b v) (b u) + 1
def itN (b : Nat → Nat) : Nat → Nat → Nat
 | 0, v => v
 | n + 1, v => b (itN b n v)
def chL (b : Nat → Nat) (v : Nat) : Nat → List Nat
 | 0 => []
 | n + 1 => chL b v n ++ [itN b n v]
theorem chL_len (b : Nat → Nat) (v : Nat) : ∀ n, (chL b v n).length = n
 | 0 => rfl
 | n + 1 => by rw [chL, List.length_append, chL_len b v n]; rfl
theorem chL_get (b : Nat → Nat) (v : Nat) : ∀ n i, i < n → (chL b v n)[i]? = some (itN b i v)
 | 0, i, h => absurd h (by omega)
 | n + 1, i, h => by
  rw [chL]
  by_cases c : i = n
  ·subst c
   rw [List.getElem?_append_right (by rw [chL_len]; exact Nat.le_refl _), chL_len, Nat.sub_self]
   rfl
  ·rw [List.getElem?_append_left (by rw [chL_len]; omega)]
   exact chL_get b v n i (by omega)
theorem it_shift (b : Nat → Nat) : ∀ n v, itN b n (b v) = itN b (n + 1) v
 | 0, _ => rfl
 | n + 1, v => by rw [itN, it_shift b n v]; rfl
def ringL (b : Nat → Nat) (v u : Nat) : List Nat := chL b v (mtN b 16 v u) ++ itN b (mtN b 16 v u) v :: (chL b u (mtN b 16 v u)).reverse
section
variable {w : Nat → Nat} {m : Nat} (hw : Nbs w m) {d b p : Nat → Nat} (h : FoE w m d b p)
include h
theorem dep_set (hm : m ≤ 16) : ∀ n v, v < m → d v = n → ∃ S, cbN S m = n + 1 ∧ ∀ u, S.testBit u = true → u < m ∧ d u ≤ n
 | n, v, hv, hd => by
  have add : ∀ (S k : Nat), cbN S m = k → S.testBit v = false → cbN (S ||| 2 ^ v) m = k + 1 := fun S k h1 h2 => by
   have h3 := cb_an (s := S ||| 2 ^ v) (v := v) (by rw [or_bit1]; simp) m hv
   have h4 : anN (S ||| 2 ^ v) (2 ^ v) = S := by
    apply Nat.eq_of_testBit_eq
    intro i
    rw [an_bit, or_bit1, Nat.testBit_two_pow]
    by_cases c : v = i
    ·subst c; simp [h2]
    ·simp [c]
   rw [h4, h1] at h3
   omega
  have z : ∀ k, cbN 0 k = 0 := fun k => by
   induction k with
   | zero => rfl
   | succ k ih => rw [cbN, ih, Nat.zero_testBit]; rfl
  cases n with
  | zero =>
   refine ⟨2 ^ v, ?_, fun u hu => ?_⟩
   ·have := add 0 0 (z m) (Nat.zero_testBit v)
    rwa [Nat.zero_or] at this
   ·rw [Nat.testBit_two_pow, decide_eq_true_eq] at hu
    subst hu
    exact ⟨hv, by omega⟩
  | succ n =>
   rcases h.back v hv with c1 | ⟨k, c1, c2, c3, c4⟩
   ·omega
   ·obtain ⟨S, h1, h2⟩ := dep_set hm n (b v) c2 (by omega)
    have hn : S.testBit v = false := by
     cases c : S.testBit v with
     | false => rfl
     | true => have := (h2 v c).2; omega
    refine ⟨S ||| 2 ^ v, add S _ h1 hn, fun u hu => ?_⟩
    rw [or_bit1, Bool.or_eq_true, decide_eq_true_eq] at hu
    rcases hu with hu | rfl
    ·have := h2 u hu; omega
    ·omega
theorem cb_le (S : Nat) : ∀ k, cbN S k ≤ k := fun k => by
 have _ := h
 clear h
 induction k with
 | zero => exact Nat.le_refl _
 | succ k ih => rw [cbN]; split <;> omega
theorem dep_lt (hm : m ≤ 16) {v : Nat} (hv : v < m) : d v < m := by
 obtain ⟨S, h1, _⟩ := dep_set h hm _ v hv rfl
 have := cb_le h S m
 omega
theorem it_at {v : Nat} (hv : v < m) : ∀ n, n ≤ d v → itN b n v < m ∧ d (itN b n v) = d v - n ∧ p (itN b n v) = p v
 | 0, _ => ⟨hv, rfl, rfl⟩
 | n + 1, hn => by
  obtain ⟨h1, h2, h3⟩ := it_at hv n (by omega)
  rcases h.back _ h1 with c | ⟨k, c1, c2, c3, c4⟩
  ·omega
  ·exact ⟨c2, by rw [itN]; omega, by rw [itN, (h.root _ h1).2.1, h3]⟩
include hw in
theorem it_edge {v : Nat} (hv : v < m) {n : Nat} (hn : n < d v) : (w (itN b n v)).testBit (itN b (n + 1) v) = true := by
 obtain ⟨h1, h2, _⟩ := it_at h hv n (by omega)
 rcases h.back _ h1 with c | ⟨k, c1, c2, c3, c4⟩
 ·omega
 ·exact hw.sym _ _ c4
theorem mt_at {v u : Nat} (hv : v < m) (hu : u < m) (hd : d v = d u) (hp : p v = p u) : ∀ f, d v < f → mtN b f v u ≤ d v ∧ itN b (mtN b f v u) v = itN b (mtN b f v u) u ∧ ∀ i, i < mtN b f v u → itN b i v ≠ itN b i u
 | 0, hf => absurd hf (by omega)
 | f + 1, hf => by
  rw [mtN]
  by_cases c : v = u
  ·rw [if_pos c]
   exact ⟨Nat.zero_le _, c, fun i hi => absurd hi (by omega)⟩
  ·rw [if_neg c]
   have h0 : d v ≠ 0 := fun e => c (by
    have h1 := (h.root v hv).2.2 e
    have h2 := (h.root u hu).2.2 (by omega)
    omega)
   obtain ⟨a1, a2, a3⟩ := it_at h hv 1 (by omega)
   obtain ⟨b1, b2, b3⟩ := it_at h hu 1 (by omega)
   have ih := mt_at (v := b v) (u := b u) a1 b1 (by show d (itN b 1 v) = d (itN b 1 u); omega) (by show p (itN b 1 v) = p (itN b 1 u); rw [a3, b3, hp]) f (by show d (itN b 1 v) < f; omega)
   obtain ⟨i1, i2, i3⟩ := ih
   have e1 : d (b v) = d v - 1 := a2
   refine ⟨by omega, ?_, fun i hi => ?_⟩
   ·rw [← it_shift, ← it_shift]; exact i2
   ·cases i with
    | zero => exact c
    | succ i => rw [← it_shift, ← it_shift]; exact i3 i (by omega)
end
end Go.Num
namespace Go.Proofs
open Go Go.Ev Go.Num
def QHd (w : Nat → Nat) (m : Nat) (e : Value) (i r0 : Nat) (G : FS) (j : Nat) (vs : OV) (ms : List Nat) (os : OO) : Prop :=
 ∃ (s : Nat) (q a : List Nat) (d b p : Nat → Nat) (off cap f : Nat), 2 * (65536 - s) + q.length ≤ f ∧ qS w f (s, q, d, b) = G ∧ FoQ w m i r0 s q d b p ∧ (∀ u, d u ≤ s) ∧ 2 * (65536 - s) + q.length ≤ 140000 ∧ (q = [] ∨ QS q off cap a) ∧ vs = vG (m : Nat) (i : Nat) ∧ ms = [] ∧ os = oG (hG (m : Nat) (wG w) e) (fL d b) (s : Nat) off q.length cap (m_ws (a ++ q)) ∧ j = 2 * (65536 - s) + q.length
theorem lv_nodup {w : Nat → Nat} {m i r0 s : Nat} {q : List Nat} {d b p : Nat → Nat} (h : FoQ w m i r0 s q d b p) : ∀ v ∈ q, v < m := fun v hv => by
 rcases Nat.lt_or_ge v m with c | c
 ·exact c
 ·have := (h.qin v hv).1
  rw [high h.lt c] at this
  exact nomatch this
theorem forest_ok (r : Mem) (hm : Tab r) {m : Nat} (hm16 : m ≤ 16) {w : Nat → Nat} (hw : Nbs w m) (hlt : ∀ i, w i < 65536) {e : Value} (he : EdV e) :
  SOk (SC r) 39 [.agg ⟨hG (m : Nat) (wG w) e⟩] emptyA fun v A => v = .agg ⟨fL (fD w m) (fB w m)⟩ ∧ A = mkA [oFs (fL (fD w m) (fB w m)) 0] := by
 have hg := hG_nn (m : Nat) (wG w) he
 have hA : 2 ^ m ≤ 65536 := Nat.pow_le_pow_right (n := 2) (by decide) hm16
 refine callO (SC_ok r) (by kernel_rfl) ((bodySC r _).trans Fo_eq) (nt := 66) (by kernel_rfl) (rs := [.cell 2 85]) (by kernel_rfl) 9223378633924550143 rfl
  ⟨[2], [.g], fun vs ms os => vs = [some (P0 0)] ∧ ms = [] ∧ os = [oFs (fL (fD w m) (fB w m)) 0]⟩ ?_ fun γ W F kk hwr hF hro h0' => ?_
 ·rintro vs ms os ⟨rfl, rfl, rfl⟩
  exact ⟨.agg ⟨fL (fD w m) (fB w m)⟩, mkA [oFs (fL (fD w m) (fB w m)) 0], by kernel_rfl, rfl, rfl⟩
 have h0' : ∀ i, 0 ≤ i → γ i = none := h0'
 let Z : Outs := ⟨[2, 3], [.g, .g], fun vs ms os => vs = [some (P0 0), some (P0 1)] ∧ ms = [] ∧ os = [oFs zr32 0, oFs (fL (fD w m) (fB w m)) 1]⟩
 refine Go.Ev.Reach.after3R (SC_ok r) TOk.nil (tm := .nil) (L := 1) (L' := 1) (d := 2) hF hro h0' (.step (.step (.step .base)))
  (o1 := ⟨lvF, flF, fun vs ms os => vs = vF (m : Nat) 0 ∧ ms = [] ∧ os = oF (hG (m : Nat) (wG w) e) zr32 0⟩) (o2 := Z) [] (fun p hp => nomatch hp) ?_ ?_ ?_
 ·rintro vs ms os ⟨rfl, rfl, rfl⟩
  refine Go.Ev.Reach.blockC (Go.Ev.Reach.loopC (j := m) (lv := lvF) (fl := flF) (I := fun j vs ms os => ∃ (i s : Nat) (d b p : Nat → Nat), i ≤ m ∧ rS w i = (s, [], d, b) ∧ FoO w m i s d b p ∧ (∀ u, d u ≤ s) ∧ vs = vF (m : Nat) (i : Nat) ∧ ms = [] ∧ os = oF (hG (m : Nat) (wG w) e) (fL d b) (s : Nat) ∧ j = m - i) (fun j vs ms os hI => ?_) ⟨0, 0, _, _, _, Nat.zero_le _, rfl, fo_init w m, fun _ => Nat.le_refl _, rfl, rfl, rfl, rfl⟩)
  obtain ⟨i, s, d, b, p, hi, hrS, hO, hd, rfl, rfl, rfl, rfl⟩ := hI
  have hs : s < 65536 := by have := hO.lt; omega
  refine Go.Ev.Reach.afterR (SC_ok r) TOk.nil (tm := .nil) (L := 1) (L' := 1) (d := 2) hF hro h0' (.step .base) (o1 := ⟨lvF, flF, fun vs ms os => i < m ∧ vs = vF (m : Nat) (i : Nat) ∧ ms = [] ∧ os = oF (hG (m : Nat) (wG w) e) (fL d b) (s : Nat)⟩) [(0, Z)] (fun p hp => by simp only [List.mem_cons, List.not_mem_nil, or_false] at hp; subst hp; rfl) ?_ ?_
  ·rintro vs ms os ⟨him, rfl, rfl, rfl⟩
   have hi16 : i < 16 := by omega
   let O1 : Outs := ⟨lvF, flF, fun vs ms os => ∃ (s : Nat) (d b p : Nat → Nat), rS w (i + 1) = (s, [], d, b) ∧ FoO w m (i + 1) s d b p ∧ (∀ u, d u ≤ s) ∧ vs = vF (m : Nat) (i : Nat) ∧ ms = [] ∧ os = oF (hG (m : Nat) (wG w) e) (fL d b) (s : Nat)⟩
   refine Go.Ev.Reach.seqC (o1 := O1) (Go.Ev.Reach.blockC (Go.Ev.Reach.afterR (SC_ok r) (tSi_ok r) (tm := .nil) (L := 1) (L' := 1) (d := 2) hF hro h0' (.step (.step (.step (.step .base))))
    (o1 := ⟨lvG, flG, fun vs ms os => s.testBit i = false ∧ ∃ j, QHd w m e i s (rS w (i + 1)) j vs ms os⟩) [(1, O1)] (fun p hp => by simp only [List.mem_cons, List.not_mem_nil, or_false] at hp; subst hp; rfl) ?_ ?_)) ?_
   ·rintro vs ms os ⟨hsi, j0, hQ0⟩
    refine Go.Ev.Reach.blockC (Go.Ev.Reach.loopC (j := j0) (lv := lvG) (fl := flG) (I := QHd w m e i s (rS w (i + 1))) (fun j vs ms os hI => ?_) hQ0)
    obtain ⟨s1, q, a, d, b, p, off, cap, f, hf, hGq, hQ, hd, hql, hqs, rfl, rfl, rfl, rfl⟩ := hI
    refine Go.Ev.Reach.afterR (SC_ok r) TOk.nil (tm := .nil) (L := 1) (L' := 1) (d := 2) hF hro h0' .base (o1 := ⟨lvG, flG, fun vs ms os => ∃ x t, q = x :: t ∧ vs = vG (m : Nat) (i : Nat) ∧ ms = [] ∧ os = oG (hG (m : Nat) (wG w) e) (fL d b) (s1 : Nat) off (t.length + 1) cap (m_ws (a ++ x :: t))⟩) [(2, O1)] (fun p hp => by simp only [List.mem_cons, List.not_mem_nil, or_false] at hp; subst hp; rfl) ?_ ?_
    ·rintro vs ms os ⟨x, t, rfl, rfl, rfl, rfl⟩
     have hxm := lv_nodup hQ x (List.mem_cons_self ..)
     have hx16 : x < 16 := by omega
     obtain ⟨hoff, hcap⟩ : QS (x :: t) off cap a := by
      rcases hqs with h | h
      ·exact nomatch h
      ·exact h
     have hs1 : s1 < 65536 := by have := hQ.lt; omega
     refine Go.Ev.Reach.seqC (o1 := ⟨lvG, flG, fun vs ms os => ∃ (s2 : Nat) (t2 a2 : List Nat) (d2 b2 p2 : Nat → Nat) (off2 cap2 : Nat), FoQ w m i s s2 (x :: t2) d2 b2 p2 ∧ wkS (anN (w x) s1) x (s1, x :: t, d, b) 16 = (s2, x :: t2, d2, b2) ∧ (∀ u, (w x).testBit u = true → s2.testBit u = true) ∧ (∀ u, d2 u ≤ s2) ∧ QS (x :: t2) off2 cap2 a2 ∧ 2 * (65536 - s2) + (x :: t2).length ≤ 2 * (65536 - s1) + (x :: t).length ∧ vs = vG (m : Nat) (i : Nat) ∧ ms = [] ∧ os = oG (hG (m : Nat) (wG w) e) (fL d2 b2) (s2 : Nat) off2 (t2.length + 1) cap2 (m_ws (a2 ++ x :: t2))⟩)
      (Go.Ev.Reach.blockC (Go.Ev.Reach.afterR (SC_ok r) TOk.nil (tm := .nil) (L := 1) (L' := 1) (d := 3) hF hro h0' (.step .base)
       (o1 := ⟨lvH, flH, fun vs ms os => vs = vH (m : Nat) (i : Nat) ∧ ms = [] ∧ os = oH (hG (m : Nat) (wG w) e) (fL d b) (s1 : Nat) off (t.length + 1) cap (m_ws (a ++ x :: t)) (x : Nat) (anN (w x) s1 : Nat)⟩) [] (fun p hp => nomatch hp) ?_ ?_)) ?_
     ·rintro vs ms os ⟨rfl, rfl, rfl⟩
      have hl : ((mkA (oH (hG (m : Nat) (wG w) e) (fL d b) (s1 : Nat) off (t.length + 1) cap (m_ws (a ++ x :: t)) (x : Nat) (anN (w x) s1 : Nat))).new .defd).next = 9 := by kernel_rfl
      refine Go.Ev.Reach.blockC (Go.Ev.Reach.rangeC (SC_ok r) hF hro h0' (d := 8) (marks := [8]) (A1 := (mkA (oH (hG (m : Nat) (wG w) e) (fL d b) (s1 : Nat) off (t.length + 1) cap (m_ws (a ++ x :: t)) (x : Nat) (anN (w x) s1 : Nat))).new .defd) (g := 63) (first := []) (captured := [P0 6]) (S := fun v A' => ∃ os, A' = mkA os ∧ JF m w e i s x t s1 d b off cap a 16 os) [] (fun p hp => nomatch hp) (by kernel_rfl) (by kernel_rfl) (by kernel_rfl) ?_ ?_)
      ·have hE : ((mkA (oH (hG (m : Nat) (wG w) e) (fL d b) (s1 : Nat) off (t.length + 1) cap (m_ws (a ++ x :: t)) (x : Nat) (anN (w x) s1 : Nat))).new .defd).new (.loop .ready none 9223378633924550143 ⟨[], bT lvH (vH (m : Nat) (i : Nat)) .nil⟩ 66 #[42] k_f1 k_f2 8) = mkA (oJA (hG (m : Nat) (wG w) e) (fL d b) (s1 : Nat) off (t.length + 1) cap (m_ws (a ++ x :: t)) (x : Nat) (anN (w x) s1 : Nat) (m : Nat) (i : Nat) .ready) := by kernel_rfl
       rw [hl, hE]
       have hS : anN (w x) s1 < 65536 := an_lt (k := 16) (hlt x)
       refine heach_iter r hm (l := 9) (p := 6) (fl := flJ) hS (J := JF m w e i s x t s1 d b off cap a) (E := JF m w e i s x t s1 d b off cap a 16) (os0 := oJA (hG (m : Nat) (wG w) e) (fL d b) (s1 : Nat) off (t.length + 1) cap (m_ws (a ++ x :: t)) (x : Nat) (anN (w x) s1 : Nat) (m : Nat) (i : Nat) .ready)
        ⟨55, 6, 0, by kernel_rfl⟩ ?_ ?_ (fun os h => h) ?_ (by kernel_rfl)
       ·rintro v os hv hb ⟨r', q', d', b', p', h1, h0, h2, h3⟩
        exact ⟨r', q', d', b', p', wk_skip h1 hb, (wkS_out hb).trans h0, h2, h3⟩
       ·rintro v os hv hb h
        rw [oq_nx]
        have hvm : v < m := by
         rw [an_bit, Bool.and_eq_true] at hb
         exact (hw.low x v hb.1).2
        exact yFo hql hm16 he him hx16 hvm hb h
       ·exact ⟨s1, x :: t, d, b, p, wk_init hQ hd, rfl, by omega, .inl ⟨rfl, ⟨hoff, hcap⟩, rfl⟩⟩
      ·rintro v A' ⟨os, rfl, r', q', d', b', p', hwk, heq, hlen, hsh⟩
       rw [hl]
       have hall := wk_end hw hm16 hwk
       rcases hsh with ⟨rfl, hqs2, rfl⟩ | ⟨y, rfl⟩
       ·have hn := foTA r (hG (m : Nat) (wG w) e) (fL d' b') (r' : Nat) off (t.length + 1) cap (m_ws (a ++ x :: t)) (x : Nat) (anN (w x) s1 : Nat) (m : Nat) (i : Nat)
        simp only [hg, fL_nn, ws_nn, Bool.and_self, cond_true] at hn
        exact (hn _ _ _).trans (qq_ok ⟨r', t, a, d', b', p', off, cap, hwk.q, heq, hall, hwk.dep, hqs2, hwk.le, rfl, rfl, rfl⟩)
       ·obtain ⟨u, rfl⟩ := hwk.hd
        cases y with
        | none =>
         have hn := foTB r (hG (m : Nat) (wG w) e) (fL d' b') (r' : Nat) (x :: u).length (m_ws (x :: u)) (x : Nat) (anN (w x) s1 : Nat) (m : Nat) (i : Nat)
         simp only [hg, fL_nn, ws_nn, Bool.and_self, cond_true] at hn
         exact (hn _ _ _).trans (qq_ok ⟨r', u, [], d', b', p', 0, unk, hwk.q, heq, hall, hwk.dep, ⟨rfl, .inl rfl⟩, hwk.le, rfl, rfl, rfl⟩)
        | some y =>
         have hn := foTBy r y (hG (m : Nat) (wG w) e) (fL d' b') (r' : Nat) (x :: u).length (m_ws (x :: u)) (x : Nat) (anN (w x) s1 : Nat) (m : Nat) (i : Nat)
         simp only [hg, fL_nn, ws_nn, Bool.and_self, cond_true] at hn
         exact (hn _ _ _).trans (qq_ok ⟨r', u, [], d', b', p', 0, unk, hwk.q, heq, hall, hwk.dep, ⟨rfl, .inl rfl⟩, hwk.le, rfl, rfl, rfl⟩)
     ·have hn := foE r (m : Nat) (wG w) e (fL d b) (s1 : Nat) (i : Nat) off t.length cap (m_ws (a ++ x :: t))
      have hx := ws_at a x t
      rw [← hoff] at hx
      have hgx := hG_get (m : Nat) (wG w) e x hx16
      have an : ibits .andNot .u64 (wG w x) ((s1 : Nat) : Int) = (anN (w x) s1 : Nat) := (uO (by have := hlt x; omega) (by omega)).2.2
      have ei : ∀ (k : IntKind) (z : Int), m_eqv (.int k z) (.int k z) = true := fun k z => by simp [m_eqv, veq]
      simp only [hx, show ∀ x, isI IntKind.i64 (I x) = true from fun _ => rfl, show ∀ x, ofI (I x) = x from fun _ => rfl, show ∀ x, isI IntKind.u64 (U x) = true from fun _ => rfl, show ∀ x, ofI (U x) = x from fun _ => rfl, dT (show 0 ≤ (x : Int) by omega), Int.toNat_natCast, show Nat.blt x 16 = true from Nat.ble_eq_true_of_le hx16, hgx, an, ei, hg, fL_nn, ws_nn, Bool.and_self, cond_true] at hn
      exact (hn _ _ _).trans (qq_ok ⟨rfl, rfl, rfl⟩)
     ·rintro vs ms os ⟨s2, t2, a2, d2, b2, p2, off2, cap2, hQ2, heq, hall, hd2, ⟨hoff2, hcap2⟩, hle, rfl, rfl, rfl⟩
      refine Go.Ev.Reach.segR (SC_ok r) TOk.nil (tm := .nil) (L := 1) (L' := 1) (d := 2) hF hro h0' [] (fun p hp => nomatch hp) ?_
      have hpop := fo_pop hw hQ2 hall
      have hle' : 2 * (65536 - s2) + t2.length < 2 * (65536 - s1) + (x :: t).length := by simp only [List.length_cons] at hle ⊢; omega
      have hGq2 : ∃ f2, 2 * (65536 - s2) + t2.length ≤ f2 ∧ qS w f2 (s2, t2, d2, b2) = rS w (i + 1) := by
       cases f with
       | zero => simp only [List.length_cons] at hf; omega
       | succ f =>
        refine ⟨f, by omega, ?_⟩
        rw [qS, heq] at hGq
        exact hGq
      obtain ⟨f2, hf2, hGq2⟩ := hGq2
      have hn := foU r (hG (m : Nat) (wG w) e) (fL d2 b2) (s2 : Nat) (m : Nat) (i : Nat) off2 t2.length cap2 (m_ws (a2 ++ x :: t2))
      have mv : m_ws (a2 ++ x :: t2) = m_ws ((a2 ++ [x]) ++ t2) := by simp
      rcases hcap2 with rfl | ⟨rfl, rfl, rfl, y0, hy0⟩
      ·have u1 : Nat.beq unk 9223372036854775809 = false := rfl
       have u2 : Nat.beq unk unk = true := rfl
       have u3 : Nat.ble (t2.length + 1) (t2.length + 1) = true := Nat.ble_eq_true_of_le (Nat.le_refl _)
       simp only [u1, u2, u3, hg, fL_nn, ws_nn, Bool.and_self, cond_true, cond_false] at hn
       cases t2 with
       | nil =>
        have u4 : Nat.blt 1 (([] : List Nat).length + 1) = false := rfl
        simp only [u4, cond_false] at hn
        refine (hn _ _ _).trans (qq_ok ⟨_, hle', s2, [], a2 ++ [x], d2, b2, p2, off2, 9223372036854775809, f2, hf2, hGq2, hpop, hd2, by simp at hle hql hle' ⊢; omega, .inl rfl, rfl, rfl, ?_, rfl⟩)
        rw [List.append_nil]
        rfl
       | cons z u =>
        have u4 : Nat.blt 1 ((z :: u).length + 1) = true := Nat.ble_eq_true_of_le (by simp)
        simp only [u4, cond_true] at hn
        refine (hn _ _ _).trans (qq_ok ⟨_, hle', s2, z :: u, a2 ++ [x], d2, b2, p2, off2 + 1, unk, f2, hf2, hGq2, hpop, hd2, by simp at hle hql hle' ⊢; omega, .inr ⟨by simp [hoff2], .inl rfl⟩, rfl, rfl, ?_, rfl⟩)
        rw [mv]
        rfl
      ·obtain ⟨rfl, rfl⟩ : x = y0 ∧ t2 = [] := by simpa using hy0
       have u1 : Nat.beq 1 9223372036854775809 = false := rfl
       have u2 : Nat.beq 1 unk = false := rfl
       have u3 : Nat.ble (([] : List Nat).length + 1) (Nat.min 1 1000000000000) = true := rfl
       have u5 : Nat.ble 1 (Nat.min 1 1000000000000) = true := rfl
       have u6 : Nat.beq 1 1 = true := rfl
       simp only [u1, u2, u3, u5, u6, hg, fL_nn, ws_nn, Bool.and_self, cond_true, cond_false] at hn
       refine (hn _ _ _).trans (qq_ok ⟨_, hle', s2, [], [x], d2, b2, p2, 0, 0, f2, hf2, hGq2, hpop, hd2, by simp at hle hql hle' ⊢; omega, .inl rfl, rfl, rfl, ?_, rfl⟩)
       rfl
    ·have hn := foD r (hG (m : Nat) (wG w) e) (fL d b) (s1 : Nat) (m : Nat) (i : Nat) off q.length cap (m_ws (a ++ q))
     simp only [hg, fL_nn, ws_nn, Bool.and_self, cond_true] at hn
     cases q with
     | nil =>
      have c0 : ¬ Int.ofNat ([] : List Nat).length > 0 := by simp
      simp only [dF c0, cond_false] at hn
      exact (hn _ _ _).trans (qq_ok ⟨s1, d, b, p, by rw [← hGq, qS_nil], fo_end hQ, hd, rfl, rfl, rfl⟩)
     | cons x t =>
      have c0 : Int.ofNat (x :: t).length > 0 := by simp
      simp only [dT c0, cond_true] at hn
      exact (hn _ _ _).trans (qq_ok ⟨x, t, rfl, rfl, rfl, rfl⟩)
   ·have hn := foC r (hG (m : Nat) (wG w) e) (fL d b) (s : Nat) (m : Nat) (i : Nat)
    have p1 : 2 ^ i < 65536 := Nat.pow_lt_pow_right (n := 16) (by decide) (by omega)
    have ort : ibits .or .u64 ((s : Nat) : Int) ((2 ^ i : Nat) : Int) = ((s ||| 2 ^ i : Nat) : Int) := (uO (by omega) (by omega)).1
    have ei : ∀ (k : IntKind) (z : Int), m_eqv (.int k z) (.int k z) = true := fun k z => by simp [m_eqv, veq]
    have b1 : Nat.blt (Nat.add 16 (Nat.mul i 1)) (fL d b).length = true := Nat.ble_eq_true_of_le (by rw [fL_len]; simp; omega)
    have n1 : ∀ a : Int, m_nns [I a] = true := fun _ => rfl
    simp only [dF (show ¬ (i : Int) < 0 by omega), dT (show 0 ≤ (i : Int) by omega), Int.toNat_natCast, bitV hs (show i ≤ 16 by omega), vG_of hi16, ei, show Nat.blt i 16 = true from Nat.ble_eq_true_of_le hi16, b1, fL_setB d b i i hi16, bitN, ort, hg, fL_nn, n1, Bool.not_false, Bool.and_self, cond_true] at hn
    cases hb : s.testBit i with
    | true =>
     simp only [hb, cond_true] at hn
     exact (hn _ _ _).trans (qq_ok ⟨s, d, b, p, by rw [rS, hrS, if_pos hb], fo_skip hO hb, hd, rfl, rfl, rfl⟩)
    | false =>
     simp only [hb, cond_false] at hn
     have hup := or_up hb
     exact (hn _ _ _).trans (qq_ok ⟨rfl, _, s ||| 2 ^ i, [i], [], d, upd b i i, upd p i i, 0, 1, 200000, by simp only [List.length_singleton]; omega, by rw [rS, hrS, if_neg (by rw [hb]; decide)], fo_start hO him hb, fun u => by have := hd u; omega, by simp only [List.length_singleton]; omega, .inr ⟨rfl, .inr ⟨rfl, rfl, rfl, i, rfl⟩⟩, rfl, rfl, rfl, rfl⟩)
   ·rintro vs ms os ⟨s2, d2, b2, p2, hrS2, hO2, hd2, rfl, rfl, rfl⟩
    have hn := foV r (hG (m : Nat) (wG w) e) (fL d2 b2) (s2 : Nat) (m : Nat) (i : Nat)
    have e3 : IntKind.wrap IntKind.i64 ((i : Int) + Int.ofNat 1) = ((i + 1 : Nat) : Int) := aInc (by omega)
    simp only [e3, hg, fL_nn, Bool.and_self, cond_true] at hn
    exact Go.Ev.Reach.segR (SC_ok r) TOk.nil (tm := .nil) (L := 1) (L' := 1) (d := 1) hF hro h0' [] (fun p hp => nomatch hp) ((hn _ _ _ _).trans (qq_ok ⟨m - (i + 1), by omega, i + 1, s2, d2, b2, p2, by omega, hrS2, hO2, hd2, rfl, rfl, rfl, rfl⟩))
  ·have hn := foB r (hG (m : Nat) (wG w) e) (fL d b) (s : Nat) (m : Nat) (i : Nat)
   simp only [hg, fL_nn, Bool.and_self, cond_true] at hn
   by_cases c : i < m
   ·simp only [dT (show (i : Int) < (m : Int) by omega), cond_true] at hn
    exact (hn _ _ _).trans (qq_ok ⟨c, rfl, rfl, rfl⟩)
   ·obtain rfl : i = m := by omega
    simp only [dF (show ¬ (i : Int) < (i : Int) by omega), cond_false] at hn
    exact (hn _ _ _).trans (qq_ok ⟨rfl, rfl, by unfold fD fB; rw [hrS]; rfl⟩)
 ·rintro vs ms os ⟨rfl, rfl, rfl⟩
  exact Go.Ev.Reach.segR (SC_ok r) TOk.nil (tm := .nil) (L := 1) (L' := 1) (d := 1) hF hro h0' [] (fun p hp => nomatch hp) ((foZ r (fD w m) (fB w m) _ _ _ _).trans (qq_ok ⟨rfl, rfl, rfl⟩))
 ·have hn := foA r (m : Nat) (wG w) e
  simp only [hg, Bool.and_self, cond_true] at hn
  exact (hn _ _ _).trans (qq_ok ⟨rfl, rfl, rfl⟩)
end Go.Proofs
namespace Go.Proofs
open Go Go.Ev Go.Num
def EdR (r : Mem) (E : List (Nat × Nat)) (e : Value) : Prop := (e = .slice none 0 0 ∧ E = []) ∨ ∃ b off cap, e = .slice (some ⟨b, off, some 0⟩) E.length cap ∧ rowAt r b off (2 * E.length) (zE E)
theorem EdR.v {r : Mem} {E : List (Nat × Nat)} {e : Value} (h : EdR r E e) : EdV e := by
 rcases h with ⟨rfl, _⟩ | ⟨b, off, cap, rfl, _⟩
 ·exact .inl rfl
 ·exact .inr ⟨_, _, _, _, rfl⟩
theorem entNs_ok {r : Mem} {f : Nat} {a0 : List Value} {v : Value} (hc : Go.Ev.nns a0 = true) (h : GrT Tryd.prog r f a0 v) : EOk (SC r) f (entV a0 v) := EOk.ent fun args A hg => by
 have hs := @of_decide_eq_true _ (Classical.propDecidable _) hg
 subst hs
 exact GrT.nns h hc A
theorem hG_n1 (n : Int) (w : Nat → Int) {e : Value} (h : EdV e) : Go.Ev.nns [.agg ⟨hG n w e⟩] = true := by
 have := hG_nn n w h
 show (Go.Ev.nns (hG n w e) && true) = true
 rw [Bool.and_true]; exact this
section
variable {r : Mem} {m : Nat} (hm16 : m ≤ 16) {E : List (Nat × Nat)} (hE : okAll (m : Int) (zE E) E.length = true) (hL : E.length < 1000000)
theorem E_mem {b off : Nat} (hz : rowAt r b off (2 * E.length) (zE E)) {k : Nat} (hk : k < E.length) : r b (Nat.add off (Nat.mul k 2)) = some (I ((E.getD k (0, 0)).1 : Nat)) ∧ r b (Nat.succ (Nat.add off (Nat.mul k 2))) = some (I ((E.getD k (0, 0)).2 : Nat)) := by
 have h1 := hz (2 * k) (by omega)
 have h2 := hz (2 * k + 1) (by omega)
 rw [show zE E (2 * k) = ((E.getD k (0, 0)).1 : Nat) from ea_E E k] at h1
 rw [show zE E (2 * k + 1) = ((E.getD k (0, 0)).2 : Nat) from eb_E E k] at h2
 constructor
 ·rw [show Nat.add off (Nat.mul k 2) = off + 2 * k by simp [Nat.mul_comm]]; exact h1
 ·rw [show Nat.succ (Nat.add off (Nat.mul k 2)) = off + (2 * k + 1) by simp [Nat.mul_comm]; omega]; exact h2
def ixV (E : List (Nat × Nat)) (d : Nat → Nat) : Int := match lvE E d with
 | none => -1
 | some k => (k : Nat)
include hm16 hE hL
theorem ie_ok {g : List Value} (hg : m_nns g = true) {b0 off cap : Nat} (hz : rowAt r b0 off (2 * E.length) (zE E)) (d b : Nat → Nat) :
  SOk (SC r) 52 [RS2 b0 off E.length cap, fLe 1] (mkA (oLe g d b)) fun v A => v = I (ixV E d) ∧ A = mkA (oLe g d b) := by
 have hnx : (mkA (oLe g d b)).next = 3 := by kernel_rfl
 refine callL (SC_ok r) (by kernel_rfl) ((bodySC r _).trans IE_eq) (nt := 19) (by kernel_rfl) (rs := [.tmp 4]) (by kernel_rfl) 435 rfl (.step .base) TOk.nil (tm := .nil) (L := 1) (d := 1) lvIE [.g, .g, .g]
  (fun j vs ms os => ∃ k, k ≤ E.length ∧ j = E.length - k ∧ (∀ i, i < k → lq E d i = false) ∧ vs = vIE b0 off E.length cap (k : Nat) ∧ ms = [] ∧ os = oLe g d b)
  ⟨[], [.g, .g, .g], fun vs ms os => ixV E d = -1 ∧ vs = [] ∧ ms = [] ∧ os = oLe g d b⟩
  ⟨[4], [.g, .g, .g], fun vs ms os => vs = [some (I (ixV E d))] ∧ ms = [] ∧ os = oLe g d b⟩ ?_ ?_ ?_ ?_
 ·rw [hnx]
  have hn := ieA r g d b b0 off E.length cap
  simp only [hg, fL_nn, Bool.and_self, cond_true] at hn
  exact (hn _ _ _ _).trans (qq_ok ⟨E.length, 0, Nat.zero_le _, rfl, fun i h => absurd h (by omega), rfl, rfl, rfl⟩)
 ·rintro j vs ms os ⟨k, hk, rfl, hq, rfl, rfl, rfl⟩
  refine ⟨_, TOk.nil, .nil, 1, 1, 3, ?_⟩
  rw [hnx]
  have hn := ieB r g d b b0 off E.length cap (k : Nat)
  by_cases c : k < E.length
  ·obtain ⟨l1, l2⟩ := E_mem (r := r) hz c
   obtain ⟨h1, h2⟩ := E_at hE c
   have x16 : (E.getD k (0, 0)).1 < 16 := by omega
   have y16 : (E.getD k (0, 0)).2 < 16 := by omega
   have eqq : ((((d (E.getD k (0, 0)).1 : Nat) : Int)) == ((d (E.getD k (0, 0)).2 : Nat) : Int)) = lq E d k := by
    unfold lq
    rw [Bool.eq_iff_iff, beq_iff_eq, beq_iff_eq]
    exact Int.ofNat_inj
   simp only [dT (show (k : Int) < Int.ofNat E.length by simp; omega), dT (show 0 ≤ (k : Int) by omega), Int.toNat_natCast, show Nat.blt k E.length = true from Nat.ble_eq_true_of_le c, l1, l2, show ∀ x, isI IntKind.i64 (I x) = true from fun _ => rfl, show ∀ x, ofI (I x) = x from fun _ => rfl, dT (show 0 ≤ (((E.getD k (0, 0)).1 : Nat) : Int) by omega), dT (show 0 ≤ (((E.getD k (0, 0)).2 : Nat) : Int) by omega), show Nat.blt (E.getD k (0, 0)).1 16 = true from Nat.ble_eq_true_of_le x16, show Nat.blt (E.getD k (0, 0)).2 16 = true from Nat.ble_eq_true_of_le y16, fL_get d b _ x16, fL_get d b _ y16, eqq, aInc (show k < 1000000 by omega), hg, fL_nn, Bool.and_self, cond_true] at hn
   cases hb : lq E d k with
   | true =>
    simp only [hb, cond_true] at hn
    have : lvE E d = some k := ff_some hq hb c
    exact (hn _ _ _).trans (qq_ok ⟨by unfold ixV; rw [this], rfl, rfl⟩)
   | false =>
    simp only [hb, cond_false] at hn
    exact (hn _ _ _).trans (qq_ok ⟨E.length - (k + 1), by omega, k + 1, c, rfl, fun i hi => by
     by_cases e : i = k
     ·rw [e]; exact hb
     ·exact hq i (by omega), rfl, rfl, rfl⟩)
  ·obtain rfl : k = E.length := by omega
   simp only [dF (show ¬ (E.length : Int) < Int.ofNat E.length by simp), hg, fL_nn, Bool.and_self, cond_true, cond_false] at hn
   have : lvE E d = none := ff_none hq
   exact (hn _ _ _).trans (qq_ok ⟨by unfold ixV; rw [this], rfl, rfl, rfl⟩)
 ·rintro vs ms os ⟨hx, rfl, rfl, rfl⟩
  rw [hnx]
  have hn := ieC r g d b
  simp only [hg, fL_nn, Bool.and_self, cond_true] at hn
  exact ⟨_, TOk.nil, .nil, 1, 1, 1, (hn _ _ _ _).trans (qq_ok ⟨by rw [hx]; rfl, rfl, rfl⟩)⟩
 ·rintro vs ms os ⟨rfl, rfl, rfl⟩
  exact ⟨_, mkA (oLe g d b), by kernel_rfl, rfl, rfl⟩
omit hm16 hE hL in
theorem ie_nil {g : List Value} (d b : Nat → Nat) : EOk (SC r) 52 (eIx (.slice none 0 0) (-1) g d b) := entAt_run (SC_ok r) TOk.nil .nil ⟨1, 3, ieN r g d b _⟩
def lvX (E : List (Nat × Nat)) (d : Nat → Nat) : Nat := match lvE E d with | none => 0 | some k => (E.getD k (0, 0)).1
def lvY (E : List (Nat × Nat)) (d : Nat → Nat) : Nat := match lvE E d with | none => 0 | some k => (E.getD k (0, 0)).2
theorem level_ok {w : Nat → Nat} {e : Value} (he : EdR r E e) (d b : Nat → Nat) :
  GrT Tryd.prog r 40 [.agg ⟨hG (m : Nat) (wG w) e⟩, .agg ⟨fL d b⟩] (.tuple ⟨[.agg ⟨[I (lvX E d : Nat), I (lvY E d : Nat)]⟩, .bool (lvE E d).isSome]⟩) := by
 rcases he with ⟨rfl, rfl⟩ | ⟨b0, off, cap, rfl, hz⟩
 ·refine GrT.of (SC_ok r) (show TOk (SC r) (tLe (.slice none 0 0) (-1) (hG (m : Nat) (wG w) (.slice none 0 0)) d b) from TOk.cons TOk.nil (ie_nil d b)) .nil rfl ⟨1, 2, ?_⟩
  rw [leN, show m_at _ _ _ _ = true from at_rfl _ _, cond_true]
  rfl
 ·have hg := hG_nn (m : Nat) (wG w) (e := .slice (some ⟨b0, off, some 0⟩) E.length cap) (.inr ⟨_, _, _, _, rfl⟩)
  have hi := ie_ok hm16 hE hL hg (cap := cap) hz d b
  refine GrT.of (SC_ok r) (show TOk (SC r) (tLe (.slice (some ⟨b0, off, some 0⟩) E.length cap) (ixV E d) (hG (m : Nat) (wG w) (.slice (some ⟨b0, off, some 0⟩) E.length cap)) d b) from TOk.cons TOk.nil (entAt_ok hi.one)) .nil rfl ⟨1, 2, ?_⟩
  rw [leR, show m_at _ _ _ _ = true from at_rfl _ _, cond_true]
  unfold ixV lvX lvY lvE
  rcases ff_cases (lq E d) E.length with ⟨h1, _⟩ | ⟨k, h1, h2, _⟩
  ·rw [h1]; rfl
  ·rw [h1]
   obtain ⟨l1, l2⟩ := E_mem (r := r) hz h2
   simp only [dF (show ¬ ((k : Nat) : Int) < 0 by omega), dT (show 0 ≤ ((k : Nat) : Int) by omega), Int.toNat_natCast, show Nat.blt k E.length = true from Nat.ble_eq_true_of_le h2, l1, l2, show ∀ x, isI IntKind.i64 (I x) = true from fun _ => rfl, show ∀ x, ofI (I x) = x from fun _ => rfl, cond_true, cond_false]
   rfl
theorem tSd_ok (hm : Tab r) {e : Value} (he : EdR r E e) : TOk (SC r) (tSd (hG (m : Nat) (wG (wS E)) e) (fD (wS E) m) (fB (wS E) m) (lvX E (fD (wS E) m) : Nat) (lvY E (fD (wS E) m) : Nat) (lvE E (fD (wS E) m)).isSome) := by
 have hf : GrT Tryd.prog r 39 [.agg ⟨hG (m : Nat) (wG (wS E)) e⟩] (.agg ⟨fL (fD (wS E) m) (fB (wS E) m)⟩) := GrT.ofS (C := SC r) rfl rfl rfl fun F hF k γ W args' hw hR ha => (forest_ok r hm hm16 (wS_nbs hm16 hE) (wS_lt hm16 hE) he.v F hF k γ W args' hw hR ha).mono fun e W' ⟨u, B, ⟨h, _⟩, he⟩ => ⟨u, B, h, he⟩
 refine TOk.cons (TOk.cons TOk.nil (entNs_ok ?_ (level_ok hm16 hE hL he _ _))) (entNs_ok (hG_n1 _ _ he.v) hf)
 have := hG_nn (m : Nat) (wG (wS E)) he.v
 show (Go.Ev.nns (hG (m : Nat) (wG (wS E)) e) && true) = true
 rw [Bool.and_true]
 exact this
theorem sides_ok (hm : Tab r) {e : Value} (he : EdR r E e) :
  GrT Tryd.prog r 27 [.agg ⟨hG (m : Nat) (wG (wS E)) e⟩] (.tuple ⟨[U ((match lvE E (fD (wS E) m) with | none => evN (fD (wS E) m) m | some _ => 0 : Nat) : Int), .bool (!(lvE E (fD (wS E) m)).isSome)]⟩) := by
 have sm : ∀ l : List Value, m_same l l = true := same_rfl
 have ht := tSd_ok hm16 hE hL hm he
 have hpre : ∀ (K : OV → List Nat → OO → CR) (kx : Nat → KS) (KR : OV → List Nat → OO → CR), run (SC r) 1573343 35 1 (.seq Si_0 (.seq Si_1 (.seq Si_2 (.seq Si_3 Si_4)))) (lvlT (SC r) (tSd (hG (m : Nat) (wG (wS E)) e) (fD (wS E) m) (fB (wS E) m) (lvX E (fD (wS E) m) : Nat) (lvY E (fD (wS E) m) : Nat) (lvE E (fD (wS E) m)).isSome) .nil 1 2) none (rbK 0 lvSi [.g] K) kx (rbK 0 [2, 3] [] KR) (sc0 1573343 [.agg ⟨hG (m : Nat) (wG (wS E)) e⟩]) (tr0 1573343 [.agg ⟨hG (m : Nat) (wG (wS E)) e⟩]) [] emptyA =
   bif (lvE E (fD (wS E) m)).isSome then KR [some (U 0), some (.bool false)] [] [] else K (vSi 0 (m : Nat) 0) [] (oOd (fD (wS E) m) (fB (wS E) m)) := fun K kx KR => by
  rcases he with ⟨rfl, _⟩ | ⟨b0, off, cap, rfl, _⟩
  ·have hn := siAN r (m : Nat) (wG (wS E)) (fD (wS E) m) (fB (wS E) m) (lvX E (fD (wS E) m) : Nat) (lvY E (fD (wS E) m) : Nat) (lvE E (fD (wS E) m)).isSome K kx KR
   simp only [sm, cond_true] at hn
   exact hn
  ·have hn := siAR r (m : Nat) (wG (wS E)) b0 off E.length cap (fD (wS E) m) (fB (wS E) m) (lvX E (fD (wS E) m) : Nat) (lvY E (fD (wS E) m) : Nat) (lvE E (fD (wS E) m)).isSome K kx KR
   simp only [sm, cond_true] at hn
   exact hn
 generalize hs : (tSd (hG (m : Nat) (wG (wS E)) e) (fD (wS E) m) (fB (wS E) m) (lvX E (fD (wS E) m) : Nat) (lvY E (fD (wS E) m) : Nat) (lvE E (fD (wS E) m)).isSome) = T at ht hpre
 clear hs
 generalize fD (wS E) m = d at *
 generalize fB (wS E) m = b at *
 have hA : 2 ^ m ≤ 65536 := Nat.pow_le_pow_right (n := 2) (by decide) hm16
 refine GrT.ofS (C := SC r) rfl rfl rfl (callL (SC_ok r) (by kernel_rfl) ((bodySC r _).trans Si_eq) (nt := 35) (by kernel_rfl) (rs := [.tmp 2, .tmp 3]) (by kernel_rfl) 1573343 rfl (.step (.step (.step (.step .base)))) ht (tm := .nil) (L := 1) (d := 2) lvSi [.g]
  (fun j vs ms os => lvE E d = none ∧ ∃ k, k ≤ m ∧ j = m - k ∧ vs = vSi (evN d k : Nat) (m : Nat) (k : Nat) ∧ ms = [] ∧ os = oOd d b)
  ⟨[7], [], fun vs ms os => lvE E d = none ∧ vs = [some (U (evN d m : Nat))] ∧ ms = [] ∧ os = []⟩
  ⟨[2, 3], [], fun vs ms os => vs = [some (U ((match lvE E d with | none => evN d m | some _ => 0 : Nat) : Int)), some (.bool (!(lvE E d).isSome))] ∧ ms = [] ∧ os = []⟩ ?_ ?_ ?_ ?_)
 ·refine (hpre _ _ _).trans ?_
  cases hl : lvE E d with
  | none => exact qq_ok ⟨m, rfl, 0, Nat.zero_le _, rfl, rfl, rfl, rfl⟩
  | some k => exact qq_ok ⟨rfl, rfl, rfl⟩
 ·rintro j vs ms os ⟨hl, k, hk, rfl, rfl, rfl, rfl⟩
  refine ⟨_, tSi_ok r, .nil, 1, 1, 2, ?_⟩
  have hn := siB r d b (evN d k : Nat) (m : Nat) (k : Nat)
  by_cases c : k < m
  ·have k16 : k < 16 := by omega
   have p1 : 2 ^ k < 65536 := Nat.pow_lt_pow_right (n := 16) (by decide) (by omega)
   have e0 := evN_lt d k
   have ort : ibits .or .u64 ((evN d k : Nat) : Int) ((2 ^ k : Nat) : Int) = ((evN d k ||| 2 ^ k : Nat) : Int) := (uO (by omega) (by omega)).1
   have md : Int.tmod ((d k : Nat) : Int) (Int.ofNat 2) = ((d k % 2 : Nat) : Int) := (Int.ofNat_tmod _ _).symm
   simp only [dT (show (k : Int) < (m : Int) by omega), dT (show 0 ≤ (k : Int) by omega), Int.toNat_natCast, show Nat.blt k 16 = true from Nat.ble_eq_true_of_le k16, fL_get d b k k16, show ∀ x, isI IntKind.i64 (I x) = true from fun _ => rfl, show ∀ x, ofI (I x) = x from fun _ => rfl, md, vG_of k16, bitN, ort, aInc (show k < 1000000 by omega), cond_true] at hn
   by_cases e : d k % 2 = 0
   ·have ec : (((d k % 2 : Nat) : Int) == Int.ofNat 0) = true := by rw [e]; rfl
    simp only [ec, cond_true] at hn
    exact (hn _ _ _).trans (qq_ok ⟨m - (k + 1), by omega, hl, k + 1, c, rfl, by rw [evN, if_pos e]; rfl, rfl, rfl⟩)
   ·have ec : (((d k % 2 : Nat) : Int) == Int.ofNat 0) = false := by rw [show d k % 2 = 1 by omega]; rfl
    simp only [ec, cond_false] at hn
    exact (hn _ _ _).trans (qq_ok ⟨m - (k + 1), by omega, hl, k + 1, c, rfl, by rw [evN, if_neg e]; rfl, rfl, rfl⟩)
  ·obtain rfl : k = m := by omega
   simp only [dF (show ¬ (k : Int) < (k : Int) by omega), cond_false] at hn
   exact (hn _ _ _).trans (qq_ok ⟨hl, rfl, rfl, rfl⟩)
 ·rintro vs ms os ⟨hl, rfl, rfl, rfl⟩
  exact ⟨_, TOk.nil, .nil, 1, 1, 1, (siC r (evN d m : Nat) _ _ _ _).trans (qq_ok ⟨by rw [hl]; rfl, rfl, rfl⟩)⟩
 ·rintro vs ms os ⟨rfl, rfl, rfl⟩
  exact ⟨_, mkA [], by kernel_rfl, rfl⟩
end
end Go.Proofs
