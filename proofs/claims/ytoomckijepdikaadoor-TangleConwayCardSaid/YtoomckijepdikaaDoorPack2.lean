/- What the claim is proved with, part 2: the evaluator and the contracts of the calls. -/
import Derived.Test.YtoomckijepdikaaDoorPack1
import Derived.Test.YtoomckijepdikaaDoorEvMemOf
/- Descents: what the call answers. -/
namespace Go.Proofs
open Go Go.Ev Go.Num

def TDe (v : Value) : Tr Value := Tr.nil.put 2 (some v)
def TDc1 (p q : Int) : Tr Value := (Tr.nil.put 0 (some (FV p q))).put 1 (some (.pointer (some ⟨0, 0, none⟩)))
def TDc2 (p q : Int) : Tr Value := ((TDc1 p q).put 2 (some (.string ⟨⟨[]⟩⟩))).put 3 (some (.pointer (some ⟨1, 0, none⟩)))

theorem dcA1 (r : Mem) (L : Nat) (fs : FnsC) (p q : Int) (kn : KS) (kx : Nat → KS) (kr : KS) : run (SC r) 31 39 L (lc cDc) fs none kn kx kr (sc0 31 [FV p q]) (tr0 31 [FV p q]) [] emptyA =
    kn [] (Tr.node (Tr.node Tr.nil (some (Value.pointer (some (Addr.mk 0 0 none)))) Tr.nil) (some (Value.agg (Array.mk [Value.int IntKind.i64 p, Value.int IntKind.i64 q]))) (Tr.node Tr.nil (some (Value.string (ByteArray.mk #[]))) Tr.nil)) [] (AW.mk 1 (Tr.node Tr.nil (some (AObj.cells [Value.int IntKind.i64 p, Value.int IntKind.i64 q] 44 0 0)) Tr.nil) Tr.nil) := by kernel_rfl

theorem dcA2 (r : Mem) (L : Nat) (fs : FnsC) (p q : Int) (s : List (Nat × Value)) (kn : KS) (kx : Nat → KS) (kr : KS) : run (SC r) 31 39 L (lc (rc cDc)) fs none kn kx kr s ((TDc1 p q).put 2 (some (.string ⟨⟨[]⟩⟩))) [] (emptyA.new (.cells [I p, I q] 44 0 0)) =
    kn [] (Tr.node (Tr.node (Tr.node Tr.nil (some (Value.pointer (some (Addr.mk 1 0 none)))) Tr.nil) (some (Value.pointer (some (Addr.mk 0 0 none)))) Tr.nil) (some (Value.agg (Array.mk [Value.int IntKind.i64 p, Value.int IntKind.i64 q]))) (Tr.node Tr.nil (some (Value.string (ByteArray.mk (Array.mk [])))) Tr.nil)) [] (AW.mk 2 (Tr.node (Tr.node Tr.nil (some (AObj.cells [Value.pointer none, Value.slice none 0 0] 65 1 0)) Tr.nil) (some (AObj.cells [Value.int IntKind.i64 p, Value.int IntKind.i64 q] 44 0 0)) Tr.nil) Tr.nil) := by kernel_rfl

theorem dcA3 (r : Mem) (L : Nat) (fs : FnsC) (p q : Int) (s : List (Nat × Value)) (kn : KS) (kx : Nat → KS) (kr : KS) : run (SC r) 31 39 L (lc (rc (rc cDc))) fs none kn kx kr s (TDc2 p q) [] (AD0 p q) =
    kn [(5, Value.func (Fn.func 31) (Array.mk []) (Array.mk [Value.pointer (some (Addr.mk 1 0 none)), Value.pointer (some (Addr.mk 0 0 none))]))] (Tr.node (Tr.node (Tr.node Tr.nil (some (Value.pointer (some (Addr.mk 1 0 none)))) Tr.nil) (some (Value.pointer (some (Addr.mk 0 0 none)))) Tr.nil) (some (Value.agg (Array.mk [Value.int IntKind.i64 p, Value.int IntKind.i64 q]))) (Tr.node (Tr.node Tr.nil (some (Value.func (Fn.func 31) (Array.mk []) (Array.mk [Value.pointer (some (Addr.mk 1 0 none)), Value.pointer (some (Addr.mk 0 0 none))]))) Tr.nil) (some (Value.string (ByteArray.mk (Array.mk [])))) Tr.nil)) [] (AW.mk 2 (Tr.node (Tr.node Tr.nil (some (AObj.cells [Value.pointer none, Value.slice none 0 0] 65 1 0)) Tr.nil) (some (AObj.cells [Value.int IntKind.i64 p, Value.int IntKind.i64 q] 44 0 0)) Tr.nil) Tr.nil) := by kernel_rfl

end Go.Proofs

/- Descents: the call's answer. -/
namespace Go.Proofs
open Go Go.Ev Go.Num

theorem ren_end {r : Mem} {W0 : World} {γ0 : Gam} (h0 : ∀ i, 0 ≤ i → γ0 i = none) (s : List (Nat × Value)) (T : Tr Value) (b : ByteArray) (A : AW) (hT : T.get 2 = some (.string b)) : Ren (SC r) 31 39 γ0 W0 ⟨⟨s, T⟩, [], A⟩ ⟨⟨[], TDe (.string b)⟩, [], emptyA⟩ := by
  refine Ren.of (fun i => i) 0 rfl h0 (Nat.zero_le _) (fun i hi => absurd hi (Nat.not_lt_zero i)) ?_ rfl trivial trivial
  simp only [TDe, Tr.put, Tr.All]
  repeat' (first | exact trivial | apply And.intro)
  all_goals first | exact ⟨_, hT, rfl⟩ | trivial

theorem cDc_eq : cDc = .seq (lc cDc) (.seq (lc (rc cDc)) (.seq (lc (rc (rc cDc))) (.seq (.block 0 (.loop (ic (ic (lc (rc (rc (rc cDc)))))))) (rc (rc (rc (rc cDc))))))) := by kernel_rfl

def m_D (p q : Int) : ByteArray := ⟨⟨D p q⟩⟩

theorem veq_i (z : Int) : m_eqv (I z) (I z) = true := by simp [m_eqv, veq, I]
theorem veq_s (i n c : Nat) : m_eqv (.slice (some ⟨i, 0, none⟩) n c) (.slice (some ⟨i, 0, none⟩) n c) = true := by simp [m_eqv, veq]

theorem dc_tail {r : Mem} {p q : Int} {W0 : World} (h0 : ∀ i, 0 ≤ i → noG i = none) {F : Fence} {k : Nat} (hF : Wide F) (hro : F.round = none) {st1 : St}
    (hs : (st1 = ⟨⟨[], TDc p q⟩, [], AD0 0 1⟩ ∧ D p q = []) ∨ (st1 = ⟨⟨[], TDc p q⟩, [], AD1 0 1 (m_by (D p q)) (D p q).length⟩ ∧ D p q ≠ [])) (hlen : (D p q).length ≤ 2000) :
    Go.Ev.Reach (SC r) 31 39 F k noG W0 (rc (rc (rc (rc cDc)))) st1 fun ex st => (ex = .normal ∨ ex = .ret) ∧ ∃ st1, Ren (SC r) 31 39 noG W0 st st1 ∧ finish (SC r) 31 [.tmp 2] st1 = .ret (.string (m_D p q)) emptyA := by
  rcases hs with ⟨rfl, hD⟩ | ⟨rfl, hD⟩
  · refine Go.Ev.Reach.seg (SC_ok r) (show TOk (SC r) tAf from TOk.cons TOk.nil (afterE_ok r)) (tm := .nil) (L := 1) (L' := 1) (d := 6) hF hro ?_
    rw [dcC0]
    refine qn_ok ⟨.inr rfl, _, ren_end h0 _ _ (m_D p q) _ ?_, rfl⟩
    simp only [m_D, hD]; rfl
  · refine Go.Ev.Reach.seg (SC_ok r) (show TOk (SC r) tAf from TOk.cons TOk.nil (afterE_ok r)) (tm := .nil) (L := 1) (L' := 1) (d := 6) hF hro ?_
    rw [dcC1]
    have hn : (D p q).length ≠ 0 := fun e => hD (List.length_eq_zero_iff.1 e)
    have n0 : Nat.beq (D p q).length 0 = false := by
      cases e : Nat.beq (D p q).length 0 with
      | false => rfl
      | true => exact absurd (Nat.eq_of_beq_eq_true e) hn
    have e1 : (Int.ofNat (D p q).length).toNat = (D p q).length := rfl
    have g1 : Nat.ble (D p q).length 9223372036854775807 = true := Nat.ble_eq_true_of_le (by omega)
    have g2 : takeAt (m_by (D p q)) 0 (D p q).length = some (m_by (D p q)) := takeFull _ _ (by_len _)
    have u8 := by_u8 (D p q)
    have v1 := veq_i (Int.ofNat (D p q).length)
    have v2 := veq_s 2 (D p q).length 9223372036854775808
    rw [n0, Bool.not_false, cond_true, e1, n0, cond_false, g1, cond_true, g2]
    dsimp only
    rw [u8, cond_true, v1, cond_true, v2, cond_true, cond_true, cond_true]
    refine qn_ok ⟨.inr rfl, _, ren_end h0 _ _ (m_D p q) _ ?_, rfl⟩
    rw [by_of]; rfl

theorem dc_calls (r : Mem) (hm : ∀ b j u, tabM b j = some u → r b j = some u) {p q : Int} (hfr : Fr p q) (hp1 : -500 ≤ p) (hp2 : p ≤ 500) (hq2 : q ≤ 500) (F : Fence) (hF : Wide F) (k : Nat) (W : World) (args' : Array Value) (hR : Ro (SC r).ro noG W) (ha : VsRel noG [FV p q] args'.toList) :
    CallsIn F k (SC r).P 20 args' W (Go.Ev.Ends noG W (.string (m_D p q)) emptyA) := by
  obtain ⟨fn, h1, h2, h3, h4⟩ := fn_of (C := SC r) (f := 20) (by kernel_rfl)
  have hn : fn.ntmps = 39 := h3.trans (by kernel_rfl)
  have hr : fn.results.toList = [.tmp 2] := h4.trans (by kernel_rfl)
  rw [bodySC] at h2
  refine call_reach (SC_ok r) h1 h2 31 (by rw [hn]; rfl) (fun F k hF hro => ?_) (WRel.empty W) hR ha hF k
  rw [hn, hr]
  have h0 : ∀ i, 0 ≤ i → noG i = none := fun _ _ => rfl
  show Go.Ev.Reach (SC r) 31 39 F k noG W cDc _ _
  rw [cDc_eq]
  refine Go.Ev.Reach.seq (Go.Ev.Reach.seg (SC_ok r) TOk.nil (tm := .nil) (L := 1) (L' := 1) (d := 1) hF hro ((dcA1 r _ _ p q _ _ _).trans (qn_ok ?_)))
  refine Go.Ev.Reach.seq (Go.Ev.Reach.seg (SC_ok r) TOk.nil (tm := .nil) (L := 1) (L' := 1) (d := 1) hF hro ((dcA2 r _ _ p q _ _ _ _).trans (qn_ok ?_)))
  refine Go.Ev.Reach.seq (Go.Ev.Reach.seg (SC_ok r) TOk.nil (tm := .nil) (L := 1) (L' := 1) (d := 1) hF hro ((dcA3 r _ _ p q _ _ _ _).trans (qn_ok ?_)))
  refine Go.Ev.Reach.pre (ren_dc0 h0 _ p q p q) ?_
  refine Go.Ev.Reach.seq (Go.Ev.Reach.block ?_)
  refine Go.Ev.Reach.loop (I := fun j st => ∃ st1, Ren (SC r) 31 39 noG W st st1 ∧ DcSt p q j st1) (fun j st ⟨st1, hr, hs⟩ => Go.Ev.Reach.pre hr (Go.Ev.Reach.mono (dc_body hm hfr hp1 hp2 hq2 h0 hF hro hs) fun ex st' h => ?_)) ⟨_, Ren.refl _, .first⟩
  cases ex with
  | normal => exact h
  | exit id =>
    obtain ⟨rfl, st2, hr2, h⟩ := h
    dsimp only
    rw [if_pos rfl]
    exact Go.Ev.Reach.pre hr2 (dc_tail h0 hF hro h (D_len hfr hp1 hp2 hq2))
  | _ => exact h.elim

/-- A descent. -/
theorem descent_ok (r : Mem) (hm : ∀ b j u, tabM b j = some u → r b j = some u) {p q : Int} (hfr : Fr p q) (hp1 : -500 ≤ p) (hp2 : p ≤ 500) (hq2 : q ≤ 500) : GrT Tryd.prog r 20 [FV p q] (.string (m_D p q)) :=
  GrT.ends_of rfl fun F hF k W args' hR ha => dc_calls r hm hfr hp1 hp2 hq2 F hF k W args' hR ha

end Go.Proofs

/- What takes back, run. -/
namespace Go.Proofs
open Go Go.Ev

noncomputable def cUd : Code := bodyOf S0 28
noncomputable def cRs : Code := bodyOf S0 44
def m_opp (a : Int) : Int := if a = 116 then 84 else if a = 84 then 116 else a
def eOpp : Ent := ent (fun args _ => match args with | [.int .i32 _] => true | _ => false) (fun args _ => match args with | [.int .i32 a] => .int .i32 (m_opp a) | _ => undef)
def tOp : Tbl := tcons 43 eOpp fun _ => none

def TUd (b : ByteArray) (sl : Value) : Tr Value := (Tr.node (Tr.node (Tr.node (Tr.node Tr.nil (some (Value.pointer (some (Addr.mk 0 0 none)))) Tr.nil) (some sl) Tr.nil) none Tr.nil) (some (Value.string b)) (Tr.node Tr.nil (some (Value.string (ByteArray.mk #[]))) Tr.nil))
def AU0 (b : ByteArray) (k : Nat) : AW := emptyA.new (.siter b k)
def AU1 (b : ByteArray) (k : Nat) (l : List Value) : AW := AW.mk 2 (Tr.node (Tr.node Tr.nil (some (.cells l 21 1 1)) Tr.nil) (some (.siter b k)) Tr.nil) Tr.nil
abbrev slU (n : Nat) : Value := .slice (some ⟨1, 0, none⟩) n unk
def TRs (sl : Value) (i j : Int) : Tr Value := ((Tr.nil.put 0 (some sl)).put 2 (some (I i))).put 3 (some (I j))

theorem opA (r : Mem) (L : Nat) (a : Int) : (lvlT (SC r) (fun _ => none) .nil L 1).call 43 [.int .i32 a] emptyA fin =
    bif a == Int.ofNat 116 then CR.ret (Value.int IntKind.i32 (Int.ofNat 84)) (AW.mk 0 Tr.nil Tr.nil) else bif a == Int.ofNat 84 then CR.ret (Value.int IntKind.i32 (Int.ofNat 116)) (AW.mk 0 Tr.nil Tr.nil) else CR.ret (Value.int IntKind.i32 a) (AW.mk 0 Tr.nil Tr.nil) := by kernel_rfl

theorem udA1 (r : Mem) (L : Nat) (fs : FnsC) (b : ByteArray) (kn : KS) (kx : Nat → KS) (kr : KS) : run (SC r) 429 20 L (.seq (.seq (lc cUd) (lc (rc cUd))) (lc (lc (rc (rc cUd))))) fs none kn kx kr (sc0 429 [.string b]) (tr0 429 [.string b]) [] emptyA =
    kn [(6, Value.string b)] (Tr.node (Tr.node (Tr.node (Tr.node Tr.nil (some (Value.pointer (some (Addr.mk 0 0 none)))) Tr.nil) (some (Value.slice none 0 0)) Tr.nil) none Tr.nil) (some (Value.string b)) (Tr.node Tr.nil (some (Value.string (ByteArray.mk #[]))) Tr.nil)) [] (AW.mk 1 (Tr.node Tr.nil (some (AObj.siter b 0)) Tr.nil) Tr.nil) := by kernel_rfl

theorem udB0 (r : Mem) (L : Nat) (b : ByteArray) (k : Nat) (s : List (Nat × Value)) (kn : KS) (kx : Nat → KS) (kr : KS) : run (SC r) 429 20 L (ic (ic (rc (lc (rc (rc cUd)))))) (lvlT (SC r) tOp .nil L 1) none kn kx kr s (TUd b (.slice none 0 0)) [] (AU0 b k) =
    bif Nat.blt k (ByteArray.size b) then kn [(15, Value.slice (some (Addr.mk 2 0 none)) 1 9223372036854775808), (14, Value.slice (some (Addr.mk 1 0 none)) 1 1), (13, Value.int IntKind.i32 (m_opp (Int.ofNat (m_rune b k)))), (12, Value.int IntKind.i32 (Int.ofNat (m_rune b k))), (11, Value.slice none 0 0)] (Tr.node (Tr.node (Tr.node (Tr.node Tr.nil (some (Value.pointer (some (Addr.mk 0 0 none)))) Tr.nil) (some (Value.slice (some (Addr.mk 2 0 none)) 1 9223372036854775808)) Tr.nil) none (Tr.node Tr.nil (some (Value.int IntKind.i32 (Int.ofNat (m_rune b k)))) Tr.nil)) (some (Value.string b)) (Tr.node (Tr.node (Tr.node Tr.nil (some (Value.tuple (Array.mk [Value.bool true, Value.int IntKind.i64 (Int.ofNat k), Value.int IntKind.i32 (Int.ofNat (m_rune b k))]))) Tr.nil) none Tr.nil) (some (Value.string (ByteArray.mk #[]))) Tr.nil)) [] (AW.mk 3 (Tr.node (Tr.node Tr.nil (some (AObj.cells [Value.int IntKind.i32 (m_opp (Int.ofNat (m_rune b k)))] 21 1 1)) Tr.nil) (some (AObj.siter b (Nat.add k (m_width b k)))) (Tr.node Tr.nil (some (AObj.cells [Value.int IntKind.i32 (m_opp (Int.ofNat (m_rune b k)))] 21 2 1)) Tr.nil)) Tr.nil) else kx 0 [(9, Value.bool false)] (Tr.node (Tr.node (Tr.node (Tr.node Tr.nil (some (Value.pointer (some (Addr.mk 0 0 none)))) Tr.nil) (some (Value.slice none 0 0)) Tr.nil) none Tr.nil) (some (Value.string b)) (Tr.node (Tr.node (Tr.node Tr.nil (some (Value.tuple (Array.mk [Value.bool false]))) Tr.nil) none Tr.nil) (some (Value.string (ByteArray.mk #[]))) Tr.nil)) [] (AW.mk 1 (Tr.node Tr.nil (some (AObj.siter b k)) Tr.nil) Tr.nil) := by kernel_rfl

theorem udB1 (r : Mem) (L : Nat) (b : ByteArray) (k : Nat) (l : List Value) (n : Nat) (s : List (Nat × Value)) (kn : KS) (kx : Nat → KS) (kr : KS) : run (SC r) 429 20 L (ic (ic (rc (lc (rc (rc cUd)))))) (lvlT (SC r) tOp .nil L 1) none kn kx kr s (TUd b (slU n)) [] (AU1 b k l) =
    bif Nat.blt k (ByteArray.size b) then bif Nat.ble (Nat.add n 1) 1000000 then Option.casesOn (takeAt l 0 (Nat.mul n 1)) (CR.fail 439) fun val => kn [(15, Value.slice (some (Addr.mk 3 0 none)) (Nat.add n 1) 9223372036854775808), (14, Value.slice (some (Addr.mk 2 0 none)) 1 1), (13, Value.int IntKind.i32 (m_opp (Int.ofNat (m_rune b k)))), (12, Value.int IntKind.i32 (Int.ofNat (m_rune b k))), (11, Value.slice (some (Addr.mk 1 0 none)) n 9223372036854775808)] (Tr.node (Tr.node (Tr.node (Tr.node Tr.nil (some (Value.pointer (some (Addr.mk 0 0 none)))) Tr.nil) (some (Value.slice (some (Addr.mk 3 0 none)) (Nat.add n 1) 9223372036854775808)) Tr.nil) none (Tr.node Tr.nil (some (Value.int IntKind.i32 (Int.ofNat (m_rune b k)))) Tr.nil)) (some (Value.string b)) (Tr.node (Tr.node (Tr.node Tr.nil (some (Value.tuple (Array.mk [Value.bool true, Value.int IntKind.i64 (Int.ofNat k), Value.int IntKind.i32 (Int.ofNat (m_rune b k))]))) Tr.nil) none Tr.nil) (some (Value.string (ByteArray.mk #[]))) Tr.nil)) [] (AW.mk 4 (Tr.node (Tr.node (Tr.node Tr.nil (some (AObj.cells (val ++ [Value.int IntKind.i32 (m_opp (Int.ofNat (m_rune b k)))]) 21 1 1)) Tr.nil) none Tr.nil) (some (AObj.siter b (Nat.add k (m_width b k)))) (Tr.node Tr.nil (some (AObj.cells [Value.int IntKind.i32 (m_opp (Int.ofNat (m_rune b k)))] 21 2 1)) Tr.nil)) (Tr.node (Tr.node Tr.nil (some [3]) Tr.nil) none Tr.nil)) else CR.fail 420 else kx 0 [(9, Value.bool false)] (Tr.node (Tr.node (Tr.node (Tr.node Tr.nil (some (Value.pointer (some (Addr.mk 0 0 none)))) Tr.nil) (some (Value.slice (some (Addr.mk 1 0 none)) n 9223372036854775808)) Tr.nil) none Tr.nil) (some (Value.string b)) (Tr.node (Tr.node (Tr.node Tr.nil (some (Value.tuple (Array.mk [Value.bool false]))) Tr.nil) none Tr.nil) (some (Value.string (ByteArray.mk #[]))) Tr.nil)) [] (AW.mk 2 (Tr.node (Tr.node Tr.nil (some (AObj.cells l 21 1 1)) Tr.nil) (some (AObj.siter b k)) Tr.nil) Tr.nil) := by kernel_rfl

theorem rsA (r : Mem) (L : Nat) (fs : FnsC) (b : ByteArray) (k : Nat) (l : List Value) (n : Nat) (kn : KS) (kx : Nat → KS) (kr : KS) : run (SC r) 13 28 L (lc cRs) fs none kn kx kr (sc0 13 [slU n]) (tr0 13 [slU n]) [] (AU1 b k l) =
    kn [(6, Value.int IntKind.i64 (IntKind.wrap IntKind.i64 (Int.ofNat n - Int.ofNat 1))), (5, Value.int IntKind.i64 (Int.ofNat n)), (4, Value.slice (some (Addr.mk 1 0 none)) n 9223372036854775808)] (Tr.node (Tr.node (Tr.node Tr.nil (some (Value.int IntKind.i64 (IntKind.wrap IntKind.i64 (Int.ofNat n - Int.ofNat 1)))) Tr.nil) none Tr.nil) (some (Value.slice (some (Addr.mk 1 0 none)) n 9223372036854775808)) (Tr.node Tr.nil (some (Value.int IntKind.i64 (Int.ofNat 0))) Tr.nil)) [] (AW.mk 2 (Tr.node (Tr.node Tr.nil (some (AObj.cells l 21 1 1)) Tr.nil) (some (AObj.siter b k)) Tr.nil) Tr.nil) := by kernel_rfl

theorem rsB (r : Mem) (L : Nat) (fs : FnsC) (b : ByteArray) (k : Nat) (l : List Value) (n : Nat) (i j : Int) (s : List (Nat × Value)) (kn : KS) (kx : Nat → KS) (kr : KS) : run (SC r) 13 28 L (ic (ic (rc cRs))) fs none kn kx kr s (TRs (slU n) i j) [] (AU1 b k l) =
    bif decide (i < j) then bif decide (0 ≤ j) then bif Nat.blt (Int.toNat j) n then Option.casesOn l[Nat.add 0 (Nat.mul (Int.toNat j) 1)]? (CR.fail 423) fun val => bif isI IntKind.i32 val then bif decide (0 ≤ i) then bif Nat.blt (Int.toNat i) n then Option.casesOn l[Nat.add 0 (Nat.mul (Int.toNat i) 1)]? (CR.fail 423) fun val_1 => bif isI IntKind.i32 val_1 then bif decide (0 ≤ i) then bif Nat.blt (Int.toNat i) n then bif Nat.blt (Nat.add 0 (Nat.mul (Int.toNat i) 1)) (List.length l) then bif decide (0 ≤ j) then bif Nat.blt (Int.toNat j) n then bif Nat.blt (Nat.add 0 (Nat.mul (Int.toNat j) 1)) (List.length (List.set l (Nat.add 0 (Nat.mul (Int.toNat i) 1)) (Value.int IntKind.i32 (ofI val)))) then Option.casesOn l[Nat.add 0 (Nat.mul (Int.toNat i) 1)]? (CR.fail 423) fun val_2 => bif isI IntKind.i32 val_2 then bif m_eqv (Value.int IntKind.i32 (ofI val_2)) (Value.int IntKind.i32 (ofI val_1)) then Option.casesOn l[Nat.add 0 (Nat.mul (Int.toNat j) 1)]? (CR.fail 423) fun val_3 => bif isI IntKind.i32 val_3 then bif m_eqv (Value.int IntKind.i32 (ofI val_3)) (Value.int IntKind.i32 (ofI val)) then kn [(13, Value.int IntKind.i64 (IntKind.wrap IntKind.i64 (j - Int.ofNat 1))), (12, Value.int IntKind.i64 j), (11, Value.int IntKind.i64 (IntKind.wrap IntKind.i64 (i + Int.ofNat 1))), (10, Value.int IntKind.i64 i)] (Tr.node (Tr.node (Tr.node Tr.nil (some (Value.int IntKind.i64 (IntKind.wrap IntKind.i64 (j - Int.ofNat 1)))) Tr.nil) none Tr.nil) (some (Value.slice (some (Addr.mk 1 0 none)) n 9223372036854775808)) (Tr.node Tr.nil (some (Value.int IntKind.i64 (IntKind.wrap IntKind.i64 (i + Int.ofNat 1)))) Tr.nil)) [] (AW.mk 2 (Tr.node (Tr.node Tr.nil (some (AObj.cells (List.set (List.set l (Nat.add 0 (Nat.mul (Int.toNat i) 1)) (Value.int IntKind.i32 (ofI val))) (Nat.add 0 (Nat.mul (Int.toNat j) 1)) (Value.int IntKind.i32 (ofI val_1))) 21 1 1)) Tr.nil) (some (AObj.siter b k)) Tr.nil) Tr.nil) else CR.fail 420 else CR.fail 420 else CR.fail 420 else CR.fail 420 else CR.fail 420 else CR.fail 420 else CR.fail 420 else CR.fail 420 else CR.fail 420 else CR.fail 420 else CR.fail 420 else CR.fail 420 else CR.fail 420 else CR.fail 420 else CR.fail 420 else CR.fail 420 else kx 0 [(9, Value.bool false), (8, Value.int IntKind.i64 j), (7, Value.int IntKind.i64 i)] (Tr.node (Tr.node (Tr.node Tr.nil (some (Value.int IntKind.i64 j)) Tr.nil) none Tr.nil) (some (Value.slice (some (Addr.mk 1 0 none)) n 9223372036854775808)) (Tr.node Tr.nil (some (Value.int IntKind.i64 i)) Tr.nil)) [] (AW.mk 2 (Tr.node (Tr.node Tr.nil (some (AObj.cells l 21 1 1)) Tr.nil) (some (AObj.siter b k)) Tr.nil) Tr.nil) := by kernel_rfl

end Go.Proofs

/- A row turned round. -/
namespace Go.Proofs
open Go Go.Ev Go.Num

/-- Runes as cells. -/
def m_ru (zs : List Int) : List Value := zs.map (Value.int .i32)
theorem ru_gnd (l : List Int) : ∀ v ∈ m_ru l, gnd v = true := fun v hv => by
  obtain ⟨z, _, rfl⟩ := List.mem_map.1 hv
  rfl
theorem ru_len (l : List Int) : (m_ru l).length = l.length := List.length_map ..
theorem ru_get {zs : List Int} {k : Nat} (h : k < zs.length) : (m_ru zs)[k]? = some (.int .i32 zs[k]) := by
  simp [m_ru, h]
theorem ru_set (zs : List Int) (k : Nat) (z : Int) : (m_ru zs).set k (.int .i32 z) = m_ru (zs.set k z) := by
  simp [m_ru, List.map_set]

/-- The first i and the last i are exchanged. -/
structure Half (zs ws : List Int) (i : Nat) : Prop where
  len : ws.length = zs.length
  le : 2 * i ≤ zs.length
  at' : ∀ m, m < zs.length → ws[m]? = if m < i ∨ zs.length ≤ m + i then zs[zs.length - 1 - m]? else zs[m]?

theorem Half.zero (zs : List Int) : Half zs zs 0 := ⟨rfl, by omega, fun m hm => by rw [if_neg (by omega)]⟩
theorem Half.done {zs ws : List Int} {i : Nat} (h : Half zs ws i) (hi : ¬ (i : Int) < (zs.length : Int) - 1 - i) : ws = zs.reverse := by
  apply List.ext_getElem?
  intro m
  by_cases c : m < zs.length
  · rw [List.getElem?_reverse c, h.at' m c]
    split
    · rfl
    · have := h.le
      have : zs.length - 1 - m = m := by omega
      rw [this]
  · rw [List.getElem?_eq_none (by rw [h.len]; omega), List.getElem?_eq_none (by rw [List.length_reverse]; omega)]
theorem Half.step {zs ws : List Int} {i : Nat} (h : Half zs ws i) (hi : (i : Int) < (zs.length : Int) - 1 - i) (h1 : i < ws.length) (h2 : zs.length - 1 - i < ws.length) :
    Half zs ((ws.set i ws[zs.length - 1 - i]).set (zs.length - 1 - i) ws[i]) (i + 1) := by
  have e1 := h.at' i (by omega)
  have e2 := h.at' (zs.length - 1 - i) (by omega)
  rw [if_neg (by omega), List.getElem?_eq_getElem h1] at e1
  rw [if_neg (by omega), List.getElem?_eq_getElem h2] at e2
  refine ⟨by simp [h.len], by omega, fun m hm => ?_⟩
  rw [List.getElem?_set, List.length_set, List.getElem?_set]
  by_cases c1 : zs.length - 1 - i = m
  · rw [if_pos c1, if_pos h2, if_pos (by omega)]
    have : zs.length - 1 - m = i := by omega
    rw [this, e1]
  · rw [if_neg c1]
    by_cases c2 : i = m
    · subst c2
      rw [if_pos rfl, if_pos h1, if_pos (by omega), e2]
    · rw [if_neg c2, h.at' m hm]
      by_cases c3 : m < i ∨ zs.length ≤ m + i
      · rw [if_pos c3, if_pos (by omega)]
      · rw [if_neg c3, if_neg (by omega)]

section
variable {r : Mem} {γ0 : Gam} {W0 : World} {b : ByteArray} {k : Nat} {zs : List Int}

inductive RsSt (b : ByteArray) (k : Nat) (zs : List Int) : Nat → St → Prop
  | mk {ws : List Int} {i : Nat} {s : List (Nat × Value)} (h : Half zs ws i) : RsSt b k zs (zs.length - i) ⟨⟨s, TRs (slU zs.length) i ((zs.length : Int) - 1 - i)⟩, [], AU1 b k (m_ru ws)⟩

def RsQ (b : ByteArray) (k : Nat) (zs : List Int) : Exit → St → Prop
  | .exit id, st => id = 0 ∧ ∃ s t, st = ⟨⟨s, t⟩, [], AU1 b k (m_ru zs.reverse)⟩
  | _, _ => False

theorem veq_r (z : Int) : m_eqv (.int .i32 z) (.int .i32 z) = true := by simp [m_eqv, veq]

theorem rs_body (hn : zs.length ≤ 1000000) {F : Fence} {k' : Nat} (hF : Wide F) (hro : F.round = none) {j : Nat} {st : St} (hs : RsSt b k zs j st) :
    Go.Ev.Reach (SC r) 13 28 F k' γ0 W0 (ic (ic (rc cRs))) st fun ex st' => match ex with
      | .normal => ∃ j', j' < j ∧ RsSt b k zs j' st'
      | ex => RsQ b k zs ex st' := by
  cases hs with
  | mk h =>
    rename_i ws i s
    refine Go.Ev.Reach.seg (SC_ok r) TOk.nil (tm := .nil) (L := 1) (L' := 1) (d := 1) hF hro ?_
    rw [rsB]
    have hl := h.len
    have hle := h.le
    by_cases c : (i : Int) < (zs.length : Int) - 1 - i
    · have j0 : 0 ≤ (zs.length : Int) - 1 - i := by omega
      have i0 : 0 ≤ (i : Int) := by omega
      have jn : ((zs.length : Int) - 1 - i).toNat = zs.length - 1 - i := by omega
      have b1 : Nat.blt (zs.length - 1 - i) zs.length = true := Nat.ble_eq_true_of_le (by omega)
      have b2 : Nat.blt i zs.length = true := Nat.ble_eq_true_of_le (by omega)
      have x1 : Nat.add 0 (Nat.mul (zs.length - 1 - i) 1) = zs.length - 1 - i := by simp
      have x2 : Nat.add 0 (Nat.mul i 1) = i := by simp
      have h1 : i < ws.length := by omega
      have h2 : zs.length - 1 - i < ws.length := by omega
      have g1 := ru_get h1
      have g2 := ru_get h2
      have b3 : Nat.blt i (m_ru ws).length = true := Nat.ble_eq_true_of_le (by rw [ru_len]; omega)
      have b4 : ∀ v, Nat.blt (zs.length - 1 - i) ((m_ru ws).set i v).length = true := fun v => Nat.ble_eq_true_of_le (by rw [List.length_set, ru_len]; omega)
      have o : ∀ z, ofI (.int .i32 z) = z := fun _ => rfl
      have ii : ∀ z, isI .i32 (.int .i32 z) = true := fun _ => rfl
      have w1 : IntKind.wrap IntKind.i64 ((zs.length : Int) - 1 - i - Int.ofNat 1) = (zs.length : Int) - 1 - (i + 1 : Nat) := by rw [wrI (by simp; omega)]; simp; omega
      have w2 : IntKind.wrap IntKind.i64 ((i : Int) + Int.ofNat 1) = ((i + 1 : Nat) : Int) := by rw [wrI (by simp; omega)]; simp
      have hst := h.step c h1 h2
      rw [dT c, cond_true, dT j0, cond_true, jn, b1, cond_true, x1, g2]
      dsimp only
      rw [ii, cond_true, dT i0, cond_true, Int.toNat_natCast, b2, cond_true, x2, g1]
      dsimp only
      rw [ii, cond_true, cond_true, cond_true, b3, cond_true, cond_true, cond_true, b4, cond_true]
      rw [cond_true, o, o, veq_r, cond_true, cond_true, veq_r, cond_true, ru_set, ru_set, w1, w2]
      exact qn_ok ⟨_, by omega, .mk hst⟩
    · rw [dF c, cond_false]
      rw [h.done c]
      exact qn_ok ⟨rfl, _, _, rfl⟩

theorem cRs_eq : cRs = .seq (lc cRs) (.block 0 (.loop (ic (ic (rc cRs))))) := by kernel_rfl

end

theorem rs_calls (r : Mem) (b : ByteArray) (k : Nat) (zs : List Int) (hn : zs.length ≤ 1000000) (F : Fence) (hF : Wide F) (k' : Nat) (γ : Gam) (W : World) (args' : Array Value) (hw : WRel γ (AU1 b k (m_ru zs)) W) (hR : Ro (SC r).ro γ W) (ha : VsRel γ [slU zs.length] args'.toList) :
    CallsIn F k' (SC r).P 44 args' W (Go.Ev.Ends γ W (.tuple ⟨[]⟩) (AU1 b k (m_ru zs.reverse))) := by
  obtain ⟨fn, h1, h2, h3, h4⟩ := fn_of (C := SC r) (f := 44) (by kernel_rfl)
  have hn' : fn.ntmps = 28 := h3.trans (by kernel_rfl)
  have hr : fn.results.toList = [] := h4.trans (by kernel_rfl)
  rw [bodySC] at h2
  refine call_reach (SC_ok r) h1 h2 13 (by rw [hn']; rfl) (fun F k hF hro => ?_) hw hR ha hF k'
  rw [hn', hr]
  show Go.Ev.Reach (SC r) 13 28 F k γ W cRs _ _
  rw [cRs_eq]
  refine Go.Ev.Reach.seq (Go.Ev.Reach.seg (SC_ok r) TOk.nil (tm := .nil) (L := 1) (L' := 1) (d := 1) hF hro ((rsA r _ _ b _ _ _ _ _ _).trans (qn_ok ?_)))
  refine Go.Ev.Reach.block ?_
  have w : IntKind.wrap IntKind.i64 (Int.ofNat zs.length - Int.ofNat 1) = (zs.length : Int) - 1 - (0 : Nat) := by rw [wrI (by simp; omega)]; simp
  rw [w]
  refine Go.Ev.Reach.loop (I := RsSt b _ zs) (fun j st hs => Go.Ev.Reach.mono (rs_body hn hF hro hs) fun ex st' h => ?_) (.mk (Half.zero zs))
  cases ex with
  | normal => exact h
  | exit id =>
    obtain ⟨rfl, s, t, rfl⟩ := h
    dsimp only
    rw [if_pos rfl]
    exact ⟨.inl rfl, _, Ren.refl _, rfl⟩
  | _ => exact h.elim

end Go.Proofs

/- What takes back: the loop, the tail. -/
namespace Go.Proofs
open Go Go.Ev Go.Num

noncomputable def tRs (b : ByteArray) (k : Nat) (l l' : List Value) (n : Nat) : Tbl := tcons 44 (entAt [slU n] (AU1 b k l) (.tuple ⟨[]⟩) (AU1 b k l')) fun _ => none
def AUx0 (b : ByteArray) (k : Nat) (z : Int) : AW := (AW.mk 3 (Tr.node (Tr.node Tr.nil (some (AObj.cells [Value.int IntKind.i32 z] 21 1 1)) Tr.nil) (some (AObj.siter b k)) (Tr.node Tr.nil (some (AObj.cells [Value.int IntKind.i32 z] 21 2 1)) Tr.nil)) Tr.nil)
def AUx1 (b : ByteArray) (k : Nat) (l : List Value) (z : Int) : AW := (AW.mk 4 (Tr.node (Tr.node (Tr.node Tr.nil (some (AObj.cells (l ++ [Value.int IntKind.i32 z]) 21 1 1)) Tr.nil) none Tr.nil) (some (AObj.siter b k)) (Tr.node Tr.nil (some (AObj.cells [Value.int IntKind.i32 z] 21 2 1)) Tr.nil)) (Tr.node (Tr.node Tr.nil (some [3]) Tr.nil) none Tr.nil))
def TUx (b : ByteArray) (sl : Value) (o5 o8 : Tr Value) : Tr Value := (Tr.node (Tr.node (Tr.node (Tr.node Tr.nil (some (Value.pointer (some (Addr.mk 0 0 none)))) Tr.nil) (some sl) Tr.nil) none o5) (some (Value.string b)) (Tr.node o8 (some (Value.string (ByteArray.mk #[]))) Tr.nil))

theorem udA2 (r : Mem) (L : Nat) (fs : FnsC) (b : ByteArray) (kn : KS) (kx : Nat → KS) (kr : KS) : run (SC r) 429 20 L (lc cUd) fs none kn kx kr (sc0 429 [.string b]) (tr0 429 [.string b]) [] emptyA =
    kn [] (Tr.node Tr.nil (some (Value.string b)) (Tr.node Tr.nil (some (Value.string (ByteArray.mk #[]))) Tr.nil)) [] (AW.mk 0 Tr.nil Tr.nil) := by kernel_rfl

theorem udA3 (r : Mem) (L : Nat) (fs : FnsC) (b : ByteArray) (s : List (Nat × Value)) (kn : KS) (kx : Nat → KS) (kr : KS) : run (SC r) 429 20 L (lc (rc cUd)) fs none kn kx kr s ((tr0 429 [.string b]).put 2 (some (.string .empty))) [] emptyA =
    kn [] (Tr.node (Tr.node (Tr.node Tr.nil (some (Value.slice none 0 0)) Tr.nil) none Tr.nil) (some (Value.string b)) (Tr.node Tr.nil (some (Value.string (ByteArray.mk #[]))) Tr.nil)) [] (AW.mk 0 Tr.nil Tr.nil) := by kernel_rfl

theorem udA4 (r : Mem) (L : Nat) (fs : FnsC) (b : ByteArray) (s : List (Nat × Value)) (kn : KS) (kx : Nat → KS) (kr : KS) : run (SC r) 429 20 L (lc (lc (rc (rc cUd)))) fs none kn kx kr s (((tr0 429 [.string b]).put 2 (some (.string .empty))).put 3 (some (.slice none 0 0))) [] emptyA =
    kn [(6, Value.string b)] (Tr.node (Tr.node (Tr.node (Tr.node Tr.nil (some (Value.pointer (some (Addr.mk 0 0 none)))) Tr.nil) (some (Value.slice none 0 0)) Tr.nil) none Tr.nil) (some (Value.string b)) (Tr.node Tr.nil (some (Value.string (ByteArray.mk #[]))) Tr.nil)) [] (AW.mk 1 (Tr.node Tr.nil (some (AObj.siter b 0)) Tr.nil) Tr.nil) := by kernel_rfl

theorem udC0 (r : Mem) (L : Nat) (b : ByteArray) (k : Nat) (s : List (Nat × Value)) (kn : KS) (kx : Nat → KS) (kr : KS) : run (SC r) 429 20 L (rc (rc (rc cUd))) (lvlT (SC r) (fun _ => none) .nil 3 2) none kn kx kr s (TUd b (.slice none 0 0)) [] (AU0 b k) =
    kr [(19, Value.string (ByteArray.mk #[])), (18, Value.slice none 0 0)] (Tr.node (Tr.node (Tr.node (Tr.node Tr.nil (some (Value.pointer (some (Addr.mk 0 0 none)))) Tr.nil) (some (Value.slice none 0 0)) Tr.nil) none Tr.nil) (some (Value.string b)) (Tr.node Tr.nil (some (Value.string (ByteArray.mk #[]))) Tr.nil)) [] (AW.mk 1 (Tr.node Tr.nil (some (AObj.siter b k)) Tr.nil) Tr.nil) := by kernel_rfl

theorem udC1 (r : Mem) (L : Nat) (b : ByteArray) (k : Nat) (l l' : List Value) (n : Nat) (s : List (Nat × Value)) (kn : KS) (kx : Nat → KS) (kr : KS) : run (SC r) 429 20 L (rc (rc (rc cUd))) (lvlT (SC r) (tRs b k l l' n) .nil L 1) none kn kx kr s (TUd b (slU n)) [] (AU1 b k l) =
    bif m_at [Value.slice (some (Addr.mk 1 0 none)) n 9223372036854775808] [Value.slice (some (Addr.mk 1 0 none)) n 9223372036854775808] (AW.mk 2 (Tr.node (Tr.node Tr.nil (some (AObj.cells l 21 1 1)) Tr.nil) (some (AObj.siter b k)) Tr.nil) Tr.nil) (AW.mk 2 (Tr.node (Tr.node Tr.nil (some (AObj.cells l 21 1 1)) Tr.nil) (some (AObj.siter b k)) Tr.nil) Tr.nil) then bif Nat.beq n 0 then kr [(19, Value.string (ByteArray.mk #[])), (18, Value.slice (some (Addr.mk 1 0 none)) n 9223372036854775808)] (Tr.node (Tr.node (Tr.node (Tr.node Tr.nil (some (Value.pointer (some (Addr.mk 0 0 none)))) Tr.nil) (some (Value.slice (some (Addr.mk 1 0 none)) n 9223372036854775808)) Tr.nil) none Tr.nil) (some (Value.string b)) (Tr.node Tr.nil (some (Value.string (ByteArray.mk #[]))) Tr.nil)) [] (AW.mk 2 (Tr.node (Tr.node Tr.nil (some (AObj.cells l' 21 1 1)) Tr.nil) (some (AObj.siter b k)) Tr.nil) Tr.nil) else Option.casesOn (takeAt l' 0 n) (CR.fail 481) fun val => bif List.all val isR then kr [(19, Value.string (ByteArray.mk (Array.mk (List.map Ev.byteOf val)))), (18, Value.slice (some (Addr.mk 1 0 none)) n 9223372036854775808)] (Tr.node (Tr.node (Tr.node (Tr.node Tr.nil (some (Value.pointer (some (Addr.mk 0 0 none)))) Tr.nil) (some (Value.slice (some (Addr.mk 1 0 none)) n 9223372036854775808)) Tr.nil) none Tr.nil) (some (Value.string b)) (Tr.node Tr.nil (some (Value.string (ByteArray.mk (Array.mk (List.map Ev.byteOf val))))) Tr.nil)) [] (AW.mk 2 (Tr.node (Tr.node Tr.nil (some (AObj.cells l' 21 1 1)) Tr.nil) (some (AObj.siter b k)) Tr.nil) Tr.nil) else CR.fail 420 else CR.fail 420 := by kernel_rfl

end Go.Proofs

/- What takes back: what the call answers. -/
namespace Go.Proofs
open Go Go.Ev Go.Num

theorem opp_ok' (r : Mem) (a : Int) : GrT Tryd.prog r 43 [.int .i32 a] (.int .i32 (m_opp a)) :=
  GrT.of (SC_ok r) TOk.nil .nil rfl ⟨1, 1, by
    rw [opA]
    unfold m_opp
    by_cases h1 : a = 116
    · rw [eqT (show a = Int.ofNat 116 from h1), if_pos h1]; rfl
    · rw [eqF (show a ≠ Int.ofNat 116 from h1), if_neg h1]
      by_cases h2 : a = 84
      · rw [eqT (show a = Int.ofNat 84 from h2), if_pos h2]; rfl
      · rw [eqF (show a ≠ Int.ofNat 84 from h2), if_neg h2]; rfl⟩
theorem tOp_ok (r : Mem) : TOk (SC r) tOp := TOk.cons TOk.nil (EOk.ent fun args A hg => by
  split at hg
  · exact (opp_ok' r _).ro rfl A
  · cases hg)

theorem opp_nat (v : UInt8) : m_opp (Int.ofNat v.toNat) = Int.ofNat (opp v).toNat := by
  have e1 : (Int.ofNat v.toNat = 116) ↔ v.toNat = 116 := by simp; omega
  have e2 : (Int.ofNat v.toNat = 84) ↔ v.toNat = 84 := by simp; omega
  unfold m_opp opp
  simp only [e1, e2]
  repeat' split
  all_goals rfl

/-- The letters that take back, as numbers. -/
def oz (l : List UInt8) : List Int := l.map fun v => Int.ofNat (opp v).toNat
theorem oz_len (l : List UInt8) : (oz l).length = l.length := List.length_map ..

theorem ru_snoc (l : List Int) (z : Int) : m_ru l ++ [.int .i32 z] = m_ru (l ++ [z]) := by simp [m_ru]
theorem oz_take {l : List UInt8} {k : Nat} (h : k < l.length) : oz (l.take k) ++ [Int.ofNat (opp l[k]).toNat] = oz (l.take (k + 1)) := by
  rw [List.take_succ_eq_append_getElem h]
  simp only [oz, List.map_append, List.map_cons, List.map_nil]

section
variable {r : Mem} {γ0 : Gam} {W0 : World} {b : ByteArray}

inductive UdSt (b : ByteArray) : Nat → St → Prop
  | first : UdSt b b.data.toList.length ⟨⟨[], TUd b (.slice none 0 0)⟩, [], AU0 b 0⟩
  | more {k : Nat} (h : k < b.data.toList.length) : UdSt b (b.data.toList.length - (k + 1)) ⟨⟨[], TUd b (slU (k + 1))⟩, [], AU1 b (k + 1) (m_ru (oz (b.data.toList.take (k + 1))))⟩

def UdQ (b : ByteArray) : Exit → St → Prop
  | .exit id, st => id = 0 ∧ ∃ st1, Ren (SC r) 429 20 γ0 W0 st st1 ∧ ((st1 = ⟨⟨[], TUd b (.slice none 0 0)⟩, [], AU0 b 0⟩ ∧ b.data.toList = []) ∨ (st1 = ⟨⟨[], TUd b (slU b.data.toList.length)⟩, [], AU1 b b.data.toList.length (m_ru (oz b.data.toList))⟩ ∧ b.data.toList ≠ []))
  | _, _ => False

theorem ren_ud0 (h0 : ∀ i, 0 ≤ i → γ0 i = none) (s : List (Nat × Value)) (b : ByteArray) (k : Nat) (o5 o8 : Tr Value) : Ren (SC r) 429 20 γ0 W0 ⟨⟨s, TUx b (.slice none 0 0) o5 o8⟩, [], AU0 b k⟩ ⟨⟨[], TUd b (.slice none 0 0)⟩, [], AU0 b k⟩ := by
  refine Ren.of (fun i => i) 0 rfl h0 (Nat.zero_le _) (fun i hi => absurd hi (Nat.not_lt_zero i)) ?_ rfl ?_ trivial
  · simp only [Tr.All, TUd]
    repeat' (first | exact trivial | apply And.intro)
    all_goals exact ⟨_, rfl, rfl⟩
  · simp only [Tr.All, AU0, AW.new, emptyA, Tr.put]
    repeat' (first | exact trivial | apply And.intro)
    all_goals first | rfl | exact .head _ | exact ⟨_, rfl, .siter _ _⟩ | exact ⟨_, rfl, .cells rfl⟩ | exact ⟨_, rfl, .plain (fun _ _ => rfl)⟩ | skip
theorem ren_ud1 (h0 : ∀ i, 0 ≤ i → γ0 i = none) (s : List (Nat × Value)) (b : ByteArray) (k n : Nat) (l : List Value) (hl : ∀ v ∈ l, gnd v = true) (o5 o8 : Tr Value) : Ren (SC r) 429 20 γ0 W0 ⟨⟨s, TUx b (slU n) o5 o8⟩, [], AU1 b k l⟩ ⟨⟨[], TUd b (slU n)⟩, [], AU1 b k l⟩ := by
  refine Ren.of (fun i => i) 0 rfl h0 (Nat.zero_le _) (fun i hi => absurd hi (Nat.not_lt_zero i)) ?_ rfl ?_ trivial
  · simp only [Tr.All, TUd]
    repeat' (first | exact trivial | apply And.intro)
    all_goals exact ⟨_, rfl, rfl⟩
  · simp only [Tr.All, AU1]
    repeat' (first | exact trivial | apply And.intro)
    all_goals first | rfl | exact .head _ | exact ⟨_, rfl, .siter _ _⟩ | exact ⟨_, rfl, .cells rfl⟩ | exact ⟨_, rfl, .plain (hl)⟩ | skip
theorem ren_ux0 (h0 : ∀ i, 0 ≤ i → γ0 i = none) (s : List (Nat × Value)) (b : ByteArray) (k : Nat) (z : Int) (o5 o8 : Tr Value) : Ren (SC r) 429 20 γ0 W0 ⟨⟨s, TUx b (.slice (some ⟨2, 0, none⟩) 1 unk) o5 o8⟩, [], AUx0 b k z⟩ ⟨⟨[], TUd b (slU 1)⟩, [], AU1 b k [.int .i32 z]⟩ := by
  refine Ren.of (fun i => bif Nat.beq i 1 then 2 else i) 0 rfl h0 (Nat.zero_le _) (fun i hi => absurd hi (Nat.not_lt_zero i)) ?_ rfl ?_ trivial
  · simp only [Tr.All, TUd]
    repeat' (first | exact trivial | apply And.intro)
    all_goals exact ⟨_, rfl, rfl⟩
  · simp only [Tr.All, AU1]
    repeat' (first | exact trivial | apply And.intro)
    all_goals first | rfl | exact .head _ | exact ⟨_, rfl, .siter _ _⟩ | exact ⟨_, rfl, .cells rfl⟩ | exact ⟨_, rfl, .plain (fun v hv => by rw [List.mem_singleton.1 hv]; rfl)⟩ | skip
theorem ren_ux1 (h0 : ∀ i, 0 ≤ i → γ0 i = none) (s : List (Nat × Value)) (b : ByteArray) (k n : Nat) (l : List Value) (hl : ∀ v ∈ l, gnd v = true) (z : Int) (o5 o8 : Tr Value) : Ren (SC r) 429 20 γ0 W0 ⟨⟨s, TUx b (.slice (some ⟨3, 0, none⟩) (Nat.add n 1) unk) o5 o8⟩, [], AUx1 b k l z⟩ ⟨⟨[], TUd b (slU (n + 1))⟩, [], AU1 b k (l ++ [.int .i32 z])⟩ := by
  have hl' : ∀ v ∈ l ++ [.int .i32 z], gnd v = true := fun v hv => by
    rcases List.mem_append.1 hv with h | h
    · exact hl v h
    · rw [List.mem_singleton.1 h]; rfl
  refine Ren.of (fun i => bif Nat.beq i 1 then 3 else i) 0 rfl h0 (Nat.zero_le _) (fun i hi => absurd hi (Nat.not_lt_zero i)) ?_ rfl ?_ trivial
  · simp only [Tr.All, TUd]
    repeat' (first | exact trivial | apply And.intro)
    all_goals exact ⟨_, rfl, rfl⟩
  · simp only [Tr.All, AU1]
    repeat' (first | exact trivial | apply And.intro)
    all_goals first | rfl | exact .head _ | exact ⟨_, rfl, .siter _ _⟩ | exact ⟨_, rfl, .cells rfl⟩ | exact ⟨_, rfl, .plain (hl')⟩ | skip
theorem ren_ue (h0 : ∀ i, 0 ≤ i → γ0 i = none) (s : List (Nat × Value)) (T : Tr Value) (c : ByteArray) (A : AW) (hT : T.get 2 = some (.string c)) : Ren (SC r) 429 20 γ0 W0 ⟨⟨s, T⟩, [], A⟩ ⟨⟨[], TDe (.string c)⟩, [], emptyA⟩ := by
  refine Ren.of (fun i => i) 0 rfl h0 (Nat.zero_le _) (fun i hi => absurd hi (Nat.not_lt_zero i)) ?_ rfl trivial trivial
  simp only [TDe, Tr.put, Tr.All]
  repeat' (first | exact trivial | apply And.intro)
  all_goals first | exact ⟨_, hT, rfl⟩ | trivial

theorem blt_no {k : Nat} (h : ¬ k < b.data.toList.length) : Nat.blt k b.size = false := by
  have hlen : b.data.toList.length = b.size := Array.length_toList
  cases e : Nat.blt k b.size with
  | false => rfl
  | true =>
    have : k + 1 ≤ b.size := Nat.le_of_ble_eq_true e
    omega
theorem blt_yes {k : Nat} (h : k < b.data.toList.length) : Nat.blt k b.size = true := by
  have hlen : b.data.toList.length = b.size := Array.length_toList
  exact Nat.ble_eq_true_of_le (by omega)
theorem ok_lt {v : UInt8} (hl : okL v = true) : v.toNat < 128 := by
  simp only [okL, Bool.or_eq_true, beq_iff_eq] at hl; omega

theorem ud_body (hok : ∀ v ∈ b.data.toList, okL v = true) (hs : b.data.toList.length ≤ 2000) (h0 : ∀ i, 0 ≤ i → γ0 i = none) {F : Fence} {k' : Nat} (hF : Wide F) (hro : F.round = none) {j : Nat} {st : St} (hst : UdSt b j st) :
    Go.Ev.Reach (SC r) 429 20 F k' γ0 W0 (ic (ic (rc (lc (rc (rc cUd)))))) st fun ex st' => match ex with
      | .normal => ∃ j', j' < j ∧ ∃ st1, Ren (SC r) 429 20 γ0 W0 st' st1 ∧ UdSt b j' st1
      | ex => UdQ (r := r) (γ0 := γ0) (W0 := W0) b ex st' := by
  cases hst with
  | first =>
    refine Go.Ev.Reach.seg (SC_ok r) (tOp_ok r) (tm := .nil) (L := 1) (L' := 1) (d := 1) hF hro ?_
    rw [udB0]
    by_cases c : 0 < b.data.toList.length
    · obtain ⟨e1, e2⟩ := rune_lo b 0 c (ok_lt (hok _ (List.getElem_mem c)))
      have hw : Nat.add 0 (m_width b 0) = 0 + 1 := by rw [e2]
      rw [blt_yes c, cond_true, e1, hw, opp_nat]
      refine qn_ok ⟨b.data.toList.length - (0 + 1), by omega, _, ren_ux0 h0 _ b _ _ _ (Tr.node (Tr.node Tr.nil _ Tr.nil) none Tr.nil), ?_⟩
      have := UdSt.more c
      rw [← oz_take c] at this
      exact this
    · rw [blt_no c, cond_false]
      exact qn_ok ⟨rfl, _, ren_ud0 h0 _ b _ Tr.nil (Tr.node (Tr.node Tr.nil _ Tr.nil) none Tr.nil), .inl ⟨rfl, List.length_eq_zero_iff.1 (by omega)⟩⟩
  | more h =>
    rename_i k
    refine Go.Ev.Reach.seg (SC_ok r) (tOp_ok r) (tm := .nil) (L := 1) (L' := 1) (d := 1) hF hro ?_
    rw [udB1]
    by_cases c : k + 1 < b.data.toList.length
    · obtain ⟨e1, e2⟩ := rune_lo b (k + 1) c (ok_lt (hok _ (List.getElem_mem c)))
      have hw : Nat.add (k + 1) (m_width b (k + 1)) = k + 1 + 1 := by rw [e2]
      have g1 : Nat.ble (Nat.add (k + 1) 1) 1000000 = true := Nat.ble_eq_true_of_le (by simp only [Nat.add_eq]; omega)
      have g2 : takeAt (m_ru (oz (b.data.toList.take (k + 1)))) 0 (Nat.mul (k + 1) 1) = some (m_ru (oz (b.data.toList.take (k + 1)))) := takeFull _ _ (by rw [ru_len, oz_len, List.length_take, Nat.min_eq_left (by omega)]; simp)
      rw [blt_yes c, cond_true, g1, cond_true, g2]
      dsimp only
      rw [e1, hw, opp_nat]
      refine qn_ok ⟨b.data.toList.length - (k + 1 + 1), by omega, _, ren_ux1 h0 _ b _ _ _ (ru_gnd _) _ _ (Tr.node (Tr.node Tr.nil _ Tr.nil) none Tr.nil), ?_⟩
      have := UdSt.more c
      rw [← oz_take c, ← ru_snoc] at this
      exact this
    · rw [blt_no c, cond_false]
      have hk : k + 1 = b.data.toList.length := by omega
      refine qn_ok ⟨rfl, _, ren_ud1 h0 _ b _ _ _ (ru_gnd _) Tr.nil (Tr.node (Tr.node Tr.nil _ Tr.nil) none Tr.nil), .inr ⟨?_, fun e => by rw [e] at h; cases h⟩⟩
      rw [hk, List.take_length]

theorem cUd_eq : cUd = .seq (lc cUd) (.seq (lc (rc cUd)) (.seq (.seq (lc (lc (rc (rc cUd)))) (.block 0 (.loop (ic (ic (rc (lc (rc (rc cUd))))))))) (rc (rc (rc cUd))))) := by kernel_rfl

def m_und (b : ByteArray) : ByteArray := ⟨⟨und b.data.toList⟩⟩

theorem und_bytes {l : List UInt8} : (m_ru (oz l).reverse).map Ev.byteOf = und l := by
  unfold m_ru oz und
  rw [List.map_reverse, List.map_reverse, List.map_map, List.map_map]
  congr 1
  refine List.map_congr_left fun v _ => ?_
  show UInt8.ofNat (Int.ofNat (opp v).toNat).toNat = opp v
  simp
theorem und_isR {l : List UInt8} (h : ∀ v ∈ l, okL v = true) : (m_ru (oz l).reverse).all isR = true := by
  rw [List.all_eq_true]
  intro v hv
  simp only [m_ru, oz, List.mem_map, List.mem_reverse] at hv
  obtain ⟨z, ⟨w, hw, rfl⟩, rfl⟩ := hv
  have := ok_lt (opp_ok (h w hw))
  simp only [isR, Bool.and_eq_true, decide_eq_true_eq]
  refine ⟨by simp, ?_⟩
  have e : Int.ofNat (opp w).toNat = ((opp w).toNat : Int) := rfl
  rw [e]
  omega

theorem ud_tail (hok : ∀ v ∈ b.data.toList, okL v = true) (hlen : b.data.toList.length ≤ 2000) {W0 : World} (h0 : ∀ i, 0 ≤ i → noG i = none) {F : Fence} {k : Nat} (hF : Wide F) (hro : F.round = none) {st1 : St}
    (hs : (st1 = ⟨⟨[], TUd b (.slice none 0 0)⟩, [], AU0 b 0⟩ ∧ b.data.toList = []) ∨ (st1 = ⟨⟨[], TUd b (slU b.data.toList.length)⟩, [], AU1 b b.data.toList.length (m_ru (oz b.data.toList))⟩ ∧ b.data.toList ≠ [])) :
    Go.Ev.Reach (SC r) 429 20 F k noG W0 (rc (rc (rc cUd))) st1 fun ex st => (ex = .normal ∨ ex = .ret) ∧ ∃ st1, Ren (SC r) 429 20 noG W0 st st1 ∧ finish (SC r) 429 [.tmp 2] st1 = .ret (.string (m_und b)) emptyA := by
  rcases hs with ⟨rfl, hD⟩ | ⟨rfl, hD⟩
  · refine Go.Ev.Reach.seg (SC_ok r) TOk.nil (tm := .nil) (L := 1) (L' := 3) (d := 2) hF hro ?_
    rw [udC0]
    refine qn_ok ⟨.inr rfl, _, ren_ue h0 _ _ (m_und b) _ ?_, rfl⟩
    simp only [m_und, hD]; rfl
  · have tok : TOk (SC r) (tRs b b.data.toList.length (m_ru (oz b.data.toList)) (m_ru (oz b.data.toList).reverse) b.data.toList.length) := TOk.cons TOk.nil (entAt_ok fun F hF k γ W args' hw hR ha => by
      have := rs_calls r b b.data.toList.length (oz b.data.toList) (by rw [oz_len]; omega) F hF k γ W args' hw hR (by rw [oz_len]; exact ha)
      exact this)
    refine Go.Ev.Reach.seg (SC_ok r) tok (tm := .nil) (L := 1) (L' := 1) (d := 1) hF hro ?_
    rw [udC1]
    have n0 : Nat.beq b.data.toList.length 0 = false := by
      cases e : Nat.beq b.data.toList.length 0 with
      | false => rfl
      | true => exact absurd (List.length_eq_zero_iff.1 (Nat.eq_of_beq_eq_true e)) hD
    have g2 : takeAt (m_ru (oz b.data.toList).reverse) 0 b.data.toList.length = some (m_ru (oz b.data.toList).reverse) := takeFull _ _ (by rw [ru_len, List.length_reverse, oz_len])
    rw [at_rfl, cond_true, n0, cond_false, g2]
    dsimp only
    rw [und_isR hok, cond_true]
    refine qn_ok ⟨.inr rfl, _, ren_ue h0 _ _ (m_und b) _ ?_, rfl⟩
    rw [und_bytes]; rfl

end

theorem ud_calls (r : Mem) (b : ByteArray) (hok : ∀ v ∈ b.data.toList, okL v = true) (hlen : b.data.toList.length ≤ 2000) (F : Fence) (hF : Wide F) (k : Nat) (W : World) (args' : Array Value) (hR : Ro (SC r).ro noG W) (ha : VsRel noG [.string b] args'.toList) :
    CallsIn F k (SC r).P 28 args' W (Go.Ev.Ends noG W (.string (m_und b)) emptyA) := by
  obtain ⟨fn, h1, h2, h3, h4⟩ := fn_of (C := SC r) (f := 28) (by kernel_rfl)
  have hn : fn.ntmps = 20 := h3.trans (by kernel_rfl)
  have hr : fn.results.toList = [.tmp 2] := h4.trans (by kernel_rfl)
  rw [bodySC] at h2
  refine call_reach (SC_ok r) h1 h2 429 (by rw [hn]; rfl) (fun F k hF hro => ?_) (WRel.empty W) hR ha hF k
  rw [hn, hr]
  have h0 : ∀ i, 0 ≤ i → noG i = none := fun _ _ => rfl
  show Go.Ev.Reach (SC r) 429 20 F k noG W cUd _ _
  rw [cUd_eq]
  refine Go.Ev.Reach.seq (Go.Ev.Reach.seg (SC_ok r) TOk.nil (tm := .nil) (L := 1) (L' := 1) (d := 1) hF hro ((udA2 r _ _ b _ _ _).trans (qn_ok ?_)))
  refine Go.Ev.Reach.seq (Go.Ev.Reach.seg (SC_ok r) TOk.nil (tm := .nil) (L := 1) (L' := 1) (d := 1) hF hro ((udA3 r _ _ b _ _ _ _).trans (qn_ok ?_)))
  refine Go.Ev.Reach.seq (Go.Ev.Reach.seq (Go.Ev.Reach.seg (SC_ok r) TOk.nil (tm := .nil) (L := 1) (L' := 1) (d := 1) hF hro ((udA4 r _ _ b _ _ _ _).trans (qn_ok ?_))))
  refine Go.Ev.Reach.pre (ren_ud0 h0 _ b _ .nil .nil) ?_
  refine Go.Ev.Reach.block ?_
  refine Go.Ev.Reach.loop (I := fun j st => ∃ st1, Ren (SC r) 429 20 noG W st st1 ∧ UdSt b j st1) (fun j st ⟨st1, hr, hs⟩ => Go.Ev.Reach.pre hr (Go.Ev.Reach.mono (ud_body hok hlen h0 hF hro hs) fun ex st' h => ?_)) ⟨_, Ren.refl _, .first⟩
  cases ex with
  | normal => exact h
  | exit id =>
    obtain ⟨rfl, st2, hr2, h⟩ := h
    dsimp only
    rw [if_pos rfl]
    exact Go.Ev.Reach.pre hr2 (ud_tail hok hlen h0 hF hro h)
  | _ => exact h.elim

/-- What takes back. -/
theorem undo_ok (r : Mem) (b : ByteArray) (hok : ∀ v ∈ b.data.toList, okL v = true) (hlen : b.data.toList.length ≤ 2000) : GrT Tryd.prog r 28 [.string b] (.string (m_und b)) :=
  GrT.ends_of rfl fun F hF k W args' hR ha => ud_calls r b hok hlen F hF k W args' hR ha

end Go.Proofs

/- Fractions of the reference and of the law, run: for laws that ask nothing of links. -/
namespace Go.Proofs
open Go Go.Ev Go.Num

def m_gcd (a b : Int) : Int := gcdP a b
def m_frac (p q : Int) : Bool := frac p q
def m_small (x : Int) : Bool := decide (-500 ≤ x) && decide (x ≤ 500)
noncomputable def cGc : Code := bodyOf S0 29
def TG (a b : Int) : Tr Value := ((tr0 19 [I a, I b]).put 4 (some (I 0)))

theorem gcA (r : Mem) (L : Nat) (fs : FnsC) (a b : Int) (A : AW) (kn : KS) (kx : Nat → KS) (kr : KS) (ms : List Nat) : run (SC r) 19 12 L (lc cGc) fs none kn kx kr (sc0 19 [I a, I b]) (tr0 19 [I a, I b]) ms A =
    kn [] (Tr.node (Tr.node Tr.nil (some (Value.int IntKind.i64 b)) Tr.nil) (some (Value.int IntKind.i64 a)) (Tr.node (Tr.node Tr.nil (some (Value.int IntKind.i64 (Int.ofNat 0))) Tr.nil) none Tr.nil)) ms A := by kernel_rfl

theorem gcB (r : Mem) (L : Nat) (fs : FnsC) (a b : Int) (s : List (Nat × Value)) (A : AW) (kn : KS) (kx : Nat → KS) (kr : KS) (ms : List Nat) : run (SC r) 19 12 L (ic (ic (lc (rc cGc)))) fs none kn kx kr s (TG a b) ms A =
    bif decide (b > 0) then bif !decide (b = 0) then kn [(10, Value.int IntKind.i64 (Int.tmod a b)), (9, Value.int IntKind.i64 b), (8, Value.int IntKind.i64 a), (7, Value.int IntKind.i64 b)] (Tr.node (Tr.node Tr.nil (some (Value.int IntKind.i64 (Int.tmod a b))) Tr.nil) (some (Value.int IntKind.i64 b)) (Tr.node (Tr.node Tr.nil (some (Value.int IntKind.i64 (Int.ofNat 0))) Tr.nil) none Tr.nil)) ms A else CR.fail 420 else kx 0 [(6, Value.bool false), (5, Value.int IntKind.i64 b)] (Tr.node (Tr.node Tr.nil (some (Value.int IntKind.i64 b)) Tr.nil) (some (Value.int IntKind.i64 a)) (Tr.node (Tr.node Tr.nil (some (Value.int IntKind.i64 (Int.ofNat 0))) Tr.nil) none Tr.nil)) ms A := by kernel_rfl

theorem gcC (r : Mem) (L : Nat) (fs : FnsC) (a b : Int) (s : List (Nat × Value)) (A : AW) (kn : KS) (kx : Nat → KS) (kr : KS) (ms : List Nat) : run (SC r) 19 12 L (rc (rc cGc)) fs none kn kx kr s (TG a b) ms A =
    kr [(11, Value.int IntKind.i64 a)] (Tr.node (Tr.node Tr.nil (some (Value.int IntKind.i64 b)) Tr.nil) (some (Value.int IntKind.i64 a)) (Tr.node (Tr.node Tr.nil (some (Value.int IntKind.i64 a)) Tr.nil) none Tr.nil)) ms A := by kernel_rfl

noncomputable def cRF : Code := bodyOf S0 15
theorem rfA (r : Mem) (L : Nat) (p q : Int) : (lvlT (SC r) (tcons 29 (eI2 (fun a b => decide (0 ≤ a) && decide (0 ≤ b)) fun a b => I (m_gcd a b)) fun _ => none) .nil L 1).call 15 [I p, I q] emptyA fin =
    bif decide (q < 0) then CR.ret (Value.bool false) (AW.mk 0 Tr.nil Tr.nil) else bif q == Int.ofNat 0 then bif p == Int.ofNat 1 then CR.ret (Value.bool true) (AW.mk 0 Tr.nil Tr.nil) else CR.ret (Value.bool false) (AW.mk 0 Tr.nil Tr.nil) else bif !decide (q = 0) then bif decide (Int.tmod p q < 0) then bif decide (0 ≤ q) && decide (0 ≤ IntKind.wrap IntKind.i64 (Int.tmod p q + q)) then bif m_gcd q (IntKind.wrap IntKind.i64 (Int.tmod p q + q)) == Int.ofNat 1 then CR.ret (Value.bool true) (AW.mk 0 Tr.nil Tr.nil) else CR.ret (Value.bool false) (AW.mk 0 Tr.nil Tr.nil) else CR.fail 420 else bif decide (0 ≤ q) && decide (0 ≤ Int.tmod p q) then bif m_gcd q (Int.tmod p q) == Int.ofNat 1 then CR.ret (Value.bool true) (AW.mk 0 Tr.nil Tr.nil) else CR.ret (Value.bool false) (AW.mk 0 Tr.nil Tr.nil) else CR.fail 420 else CR.fail 420 := by kernel_rfl

noncomputable def cLF : Code := bodyOf S0 16
def TLF (p q : Int) : Tr Value := (((tr0 51 [I p, I q]).put 4 (some (I 0))).put 5 (some (I 0)))

theorem lfA (r : Mem) (L : Nat) (fs : FnsC) (p q : Int) (A : AW) (kn : KS) (kx : Nat → KS) (kr : KS) (ms : List Nat) : run (SC r) 51 22 L (.seq (.seq (lc cLF) (lc (rc cLF))) (lc (rc (rc cLF)))) fs none kn kx kr (sc0 51 [I p, I q]) (tr0 51 [I p, I q]) ms A =
    bif IntKind.wrap IntKind.i64 (Int.tmod (IntKind.wrap IntKind.u64 q) (Int.ofNat 501)) == Int.ofNat 0 then kr [] (Tr.node (Tr.node Tr.nil (some (Value.int IntKind.i64 (IntKind.wrap IntKind.i64 (Int.tmod (IntKind.wrap IntKind.u64 q) (Int.ofNat 501))))) (Tr.node Tr.nil (some (Value.int IntKind.i64 (Int.ofNat 0))) Tr.nil)) (some (Value.int IntKind.i64 (Int.tmod p (Int.ofNat 501)))) (Tr.node (Tr.node Tr.nil (some (Value.int IntKind.i64 (Int.ofNat 1))) Tr.nil) none Tr.nil)) ms A else kn [(13, Value.bool false), (12, Value.int IntKind.i64 (IntKind.wrap IntKind.i64 (Int.tmod (IntKind.wrap IntKind.u64 q) (Int.ofNat 501))))] (Tr.node (Tr.node Tr.nil (some (Value.int IntKind.i64 (IntKind.wrap IntKind.i64 (Int.tmod (IntKind.wrap IntKind.u64 q) (Int.ofNat 501))))) (Tr.node Tr.nil (some (Value.int IntKind.i64 (Int.ofNat 0))) Tr.nil)) (some (Value.int IntKind.i64 (Int.tmod p (Int.ofNat 501)))) (Tr.node (Tr.node Tr.nil (some (Value.int IntKind.i64 (Int.ofNat 0))) Tr.nil) none Tr.nil)) ms A := by kernel_rfl

def m_max (b : Int) : Bool := decide (b ≤ 9223372036854775807)
def tF : Tbl := tcons 15 (eI2 (fun _ b => m_max b) fun a b => .bool (m_frac a b)) fun _ => none

theorem lfB (r : Mem) (L : Nat) (ms' : Tr Nat) (p q : Int) (s : List (Nat × Value)) (A : AW) (kn : KS) (kx : Nat → KS) (kr : KS) (ms : List Nat) : run (SC r) 51 22 L (ic (ic (lc (rc (rc (rc cLF)))))) (lvlT (SC r) tF ms' L 0) none kn kx kr s (TLF p q) ms A =
    bif m_max q then bif m_frac p q then kx 0 [(17, Value.bool false), (16, Value.bool true), (15, Value.int IntKind.i64 q), (14, Value.int IntKind.i64 p)] (Tr.node (Tr.node Tr.nil (some (Value.int IntKind.i64 q)) (Tr.node Tr.nil (some (Value.int IntKind.i64 (Int.ofNat 0))) Tr.nil)) (some (Value.int IntKind.i64 p)) (Tr.node (Tr.node Tr.nil (some (Value.int IntKind.i64 (Int.ofNat 0))) Tr.nil) none Tr.nil)) ms A else kn [(19, Value.int IntKind.i64 (IntKind.wrap IntKind.i64 (q - Int.ofNat 1))), (18, Value.int IntKind.i64 q)] (Tr.node (Tr.node Tr.nil (some (Value.int IntKind.i64 (IntKind.wrap IntKind.i64 (q - Int.ofNat 1)))) (Tr.node Tr.nil (some (Value.int IntKind.i64 (Int.ofNat 0))) Tr.nil)) (some (Value.int IntKind.i64 p)) (Tr.node (Tr.node Tr.nil (some (Value.int IntKind.i64 (Int.ofNat 0))) Tr.nil) none Tr.nil)) ms A else CR.fail 420 := by kernel_rfl

theorem lfC (r : Mem) (L : Nat) (fs : FnsC) (p q : Int) (s : List (Nat × Value)) (A : AW) (kn : KS) (kx : Nat → KS) (kr : KS) (ms : List Nat) : run (SC r) 51 22 L (rc (rc (rc (rc cLF)))) fs none kn kx kr s (TLF p q) ms A =
    kr [(21, Value.int IntKind.i64 q), (20, Value.int IntKind.i64 p)] (Tr.node (Tr.node Tr.nil (some (Value.int IntKind.i64 q)) (Tr.node Tr.nil (some (Value.int IntKind.i64 q)) Tr.nil)) (some (Value.int IntKind.i64 p)) (Tr.node (Tr.node Tr.nil (some (Value.int IntKind.i64 p)) Tr.nil) none Tr.nil)) ms A := by kernel_rfl

theorem smA (r : Mem) (L : Nat) (x : Int) : (lvlT (SC r) (fun _ => none) .nil L 1).call 13 [I x] emptyA fin =
    bif decide (x ≥ Int.negSucc 499) then bif decide (x ≤ 500) then CR.ret (Value.bool true) (AW.mk 0 Tr.nil Tr.nil) else CR.ret (Value.bool false) (AW.mk 0 Tr.nil Tr.nil) else CR.ret (Value.bool false) (AW.mk 0 Tr.nil Tr.nil) := by kernel_rfl

end Go.Proofs

/- Fractions of the reference and of the law: what the calls answer. -/
namespace Go.Proofs
open Go Go.Ev Go.Num

def masks : Tr Nat := (((Tr.nil.put 42 (some 31)).put 29 (some 19)).put 16 (some 51))

theorem fr_loop (r : Mem) (fs : FnsC) (L : Nat) (kx : Nat → KS) (kr : KS) (ms : List Nat) (p q : Int) (R : CR) : ∀ (j : Nat) (d l : Int) (s : List (Nat × Value)), l.natAbs < j → (∀ s, kx 0 s (TF p q (euc d l) 0) ms (AF p q) = R) →
    cLoop (fun kl => run (SC r) 31 32 L (ic (ic (lc (rc (rc (rc cFr)))))) fs none kl kx kr) j s (TF p q d l) ms (AF p q) = R := by
  intro j
  induction j with
  | zero => intro d l s h; omega
  | succ j ih =>
    intro d l s h hx
    rw [cLoop_succ, frB]
    by_cases hl : l = 0
    · subst hl
      rw [euc, dif_pos rfl] at hx
      exact hx _
    · have h0 : (l != Int.ofNat 0) = true := by simp; exact hl
      have h1 : (l.natAbs ≠ 0) := by omega
      have h2 : (d.tmod l).natAbs < l.natAbs := by rw [Int.natAbs_tmod]; exact Nat.mod_lt _ (by omega)
      simp only [h0, hl, decide_false, cond_true, Bool.not_false]
      rw [euc, dif_neg hl] at hx
      exact ih l (d.tmod l) _ (by omega) hx

theorem cFr_eq : cFr = .seq (lc cFr) (.seq (lc (rc cFr)) (.seq (lc (rc (rc cFr))) (.seq (.block 0 (.loop (ic (ic (lc (rc (rc (rc cFr)))))))) (rc (rc (rc (rc cFr))))))) := by kernel_rfl

theorem frac_ok (r : Mem) (p q : Int) : GrT Tryd.prog r 42 [FV p q] (.bool (frac p q)) :=
  GrT.of (SC_ok r) TOk.nil masks rfl ⟨q.natAbs + 1, 1, by
    rw [enterN (m := 31) (n := 32) (rs := [.tmp 2]) cFr rfl (by kernel_rfl) (by kernel_rfl) (by kernel_rfl) (by kernel_rfl) (by kernel_rfl) rfl]
    generalize hk : finK (SC r) 31 [.tmp 2] fin = kr
    rw [cFr_eq, seqA, seqA, run_while]
    refine (frA r _ _ p q _ _ _ _).trans ?_
    by_cases hq : q = 0
    · subst hq
      by_cases hp : p = 1
      · subst hp
        subst hk
        rfl
      · have : (p == Int.ofNat 1) = false := by simp; exact hp
        have h2 : frac p 0 = false := by simp [frac, hp]
        rw [h2]
        simp only [this, cond_false]
        subst hk
        rfl
    · have h0 : (q == Int.ofNat 0) = false := by simp; exact hq
      simp only [h0, cond_false]
      refine (show _ = _ from fr_loop r _ _ _ _ _ p q _ (q.natAbs + 1) p q _ (by omega) fun s => ?_)
      refine (frC r _ _ p q _ _ _ _ _ _ _).trans ?_
      subst hk
      unfold frac
      rw [if_neg hq]
      by_cases c1 : q > 0
      · by_cases c2 : euc p q = 1
        · have c2' : (euc p q == Int.ofNat 1) = true := by simp [c2]
          simp only [c1, c2', decide_true, cond_true]
          simp only [c2, decide_true, Bool.true_or, Bool.and_true]
          rfl
        · have c2' : (euc p q == Int.ofNat 1) = false := by simp; exact c2
          by_cases c3 : euc p q = -1
          · have c3' : (euc p q == Int.negSucc 0) = true := by simp [c3]
            simp only [c1, c2', c3', decide_true, cond_true, cond_false]
            simp only [c3, decide_true, Bool.or_true, Bool.and_true]
            rfl
          · have c3' : (euc p q == Int.negSucc 0) = false := by simp; exact c3
            simp only [c1, c2', c3', decide_true, cond_true, cond_false]
            simp only [c2, c3, decide_false, Bool.or_false, Bool.and_false]
            rfl
      · simp only [c1, decide_false, cond_false, Bool.false_and]
        rfl⟩

theorem gc_loop (r : Mem) (fs : FnsC) (L : Nat) (kx : Nat → KS) (kr : KS) (ms : List Nat) (A : AW) (R : CR) : ∀ (j : Nat) (a b : Int) (s : List (Nat × Value)), b.toNat < j → (∀ s b', kx 0 s (TG (gcdP a b) b') ms A = R) →
    cLoop (fun kl => run (SC r) 19 12 L (ic (ic (lc (rc cGc)))) fs none kl kx kr) j s (TG a b) ms A = R := by
  intro j
  induction j with
  | zero => intro a b s h; omega
  | succ j ih =>
    intro a b s h hx
    rw [cLoop_succ, gcB]
    by_cases hb : b > 0
    · have h0 : b ≠ 0 := by omega
      have h1 := Int.tmod_lt_of_pos a hb
      simp only [hb, h0, decide_true, decide_false, cond_true, Bool.not_false]
      rw [gcdP, dif_pos hb] at hx
      exact ih b (a.tmod b) _ (by omega) hx
    · simp only [hb, decide_false, cond_false]
      rw [gcdP, dif_neg hb] at hx
      exact hx _ _

theorem cGc_eq : cGc = .seq (lc cGc) (.seq (.block 0 (.loop (ic (ic (lc (rc cGc)))))) (rc (rc cGc))) := by kernel_rfl

theorem gcd_ok (r : Mem) (a b : Int) : GrT Tryd.prog r 29 [I a, I b] (I (gcdP a b)) :=
  GrT.of (SC_ok r) TOk.nil masks rfl ⟨b.toNat + 1, 1, by
    rw [enterN (m := 19) (n := 12) (rs := [.tmp 4]) cGc rfl (by kernel_rfl) (by kernel_rfl) (by kernel_rfl) (by kernel_rfl) (by kernel_rfl) rfl]
    generalize hk : finK (SC r) 19 [.tmp 4] fin = kr
    rw [cGc_eq, run_while]
    refine (gcA r _ _ a b _ _ _ _ _).trans ?_
    refine (show _ = _ from gc_loop r _ _ _ _ _ _ _ (b.toNat + 1) a b _ (by omega) fun s b' => ?_)
    refine (gcC r _ _ _ _ _ _ _ _ _ _).trans ?_
    subst hk
    rfl⟩

theorem gcdE_ok (r : Mem) : EOk (SC r) 29 (eI2 (fun a b => decide (0 ≤ a) && decide (0 ≤ b)) fun a b => I (m_gcd a b)) := eI2_ok fun a b _ => gcd_ok r a b

/-- The greatest number from q down that makes a fraction. -/
def low (p q : Int) : Int := if _h : q ≤ 0 then q else if frac p q then q else low p (q - 1)
termination_by q.toNat
decreasing_by omega

def lq0 (q : Int) : Int := IntKind.wrap IntKind.i64 (Int.tmod (IntKind.wrap IntKind.u64 q) (Int.ofNat 501))
def m_lfP (p q : Int) : Int := if lq0 q = 0 then 1 else Int.tmod p 501
def m_lfQ (p q : Int) : Int := if lq0 q = 0 then 0 else low (Int.tmod p 501) (lq0 q)

theorem rFrac_ok (r : Mem) (p q : Int) (hmax : q ≤ 9223372036854775807) : GrT Tryd.prog r 15 [I p, I q] (.bool (m_frac p q)) :=
  GrT.of (SC_ok r) (TOk.cons TOk.nil (gcdE_ok r)) .nil rfl ⟨1, 1, by
    rw [rfA]
    unfold m_frac
    rw [← fracR_eq]
    unfold fracR m_gcd
    by_cases h1 : q < 0
    · simp only [dT h1, cond_true, if_pos h1]; rfl
    · by_cases h2 : q = 0
      · subst h2
        by_cases h3 : p = 1
        · subst h3; rfl
        · simp only [eqF (show p ≠ Int.ofNat 1 from h3), dF h3]; rfl
      · have hq : 0 < q := by omega
        have e1 := Int.tmod_lt_of_pos p hq
        have e2 : -q < p.tmod q := by
          have : (p.tmod q).natAbs < q.natAbs := by rw [Int.natAbs_tmod]; exact Nat.mod_lt _ (by omega)
          omega
        have hq0 : 0 ≤ q := by omega
        rw [if_neg h1, if_neg h2]
        simp only [dF h1, cond_false, eqF (show q ≠ Int.ofNat 0 from h2), dF h2, Bool.not_false, cond_true, dT hq0, Bool.true_and]
        by_cases h4 : p.tmod q < 0
        · have w : IntKind.wrap IntKind.i64 (p.tmod q + q) = p.tmod q + q := wrI (by omega)
          have h5 : 0 ≤ p.tmod q + q := by omega
          simp only [dT h4, cond_true, w, dT h5, if_pos h4, beqD]
          by_cases h7 : gcdP q (p.tmod q + q) = 1
          · simp only [dT h7, dT (show gcdP q (p.tmod q + q) = Int.ofNat 1 from h7), cond_true]; rfl
          · simp only [dF h7, dF (show ¬ gcdP q (p.tmod q + q) = Int.ofNat 1 from h7), cond_false]; rfl
        · have h5 : 0 ≤ p.tmod q := by omega
          simp only [dF h4, cond_false, cond_true, dT h5, if_neg h4, beqD]
          by_cases h7 : gcdP q (p.tmod q) = 1
          · simp only [dT h7, dT (show gcdP q (p.tmod q) = Int.ofNat 1 from h7), cond_true]; rfl
          · simp only [dF h7, dF (show ¬ gcdP q (p.tmod q) = Int.ofNat 1 from h7), cond_false]; rfl⟩

theorem rSmall_ok (r : Mem) (x : Int) : GrT Tryd.prog r 13 [I x] (.bool (m_small x)) :=
  GrT.of (SC_ok r) TOk.nil .nil rfl ⟨1, 1, by
    rw [smA]
    unfold m_small
    by_cases a : -500 ≤ x
    · have a' : x ≥ Int.negSucc 499 := a
      by_cases b : x ≤ 500
      · simp only [dT a, dT a', dT b, cond_true]; rfl
      · simp only [dT a, dT a', dF b, cond_true, cond_false]; rfl
    · have a' : ¬ x ≥ Int.negSucc 499 := a
      simp only [dF a, dF a', cond_false]; rfl⟩

theorem rFracE_ok (r : Mem) : EOk (SC r) 15 (eI2 (fun _ b => m_max b) fun a b => .bool (m_frac a b)) := eI2_ok fun a b h => rFrac_ok r a b (by simpa [m_max] using h)

theorem lf_loop (r : Mem) (ms' : Tr Nat) (L : Nat) (kx : Nat → KS) (kr : KS) (ms : List Nat) (A : AW) (p : Int) (R : CR) : ∀ (j : Nat) (q : Int) (s : List (Nat × Value)), 1 ≤ q → q ≤ 500 → q.toNat < j → (∀ s, kx 0 s (TLF p (low p q)) ms A = R) →
    cLoop (fun kl => run (SC r) 51 22 L (ic (ic (lc (rc (rc (rc cLF)))))) (lvlT (SC r) tF ms' L 0) none kl kx kr) j s (TLF p q) ms A = R := by
  intro j
  induction j with
  | zero => intro q s h; omega
  | succ j ih =>
    intro q s h1 h2 h3 hx
    rw [cLoop_succ, lfB]
    rw [low, dif_neg (show ¬ q ≤ 0 by omega)] at hx
    have hm : m_max q = true := by simp [m_max]; omega
    cases hf : frac p q with
    | true =>
      rw [hf] at hx
      simp only [m_frac, hf, hm, cond_true]
      exact hx _
    | false =>
      rw [hf] at hx
      simp only [m_frac, hf, hm, cond_true, cond_false]
      have w : IntKind.wrap IntKind.i64 (q - Int.ofNat 1) = q - 1 := wrI (by simp; omega)
      have : q ≠ 1 := by
        rintro rfl
        have : frac p 1 = true := by rw [frac_iff]; simp
        rw [this] at hf
        cases hf
      rw [w]
      exact ih (q - 1) _ (by omega) (by omega) (by omega) hx

theorem cLF_eq : cLF = .seq (lc cLF) (.seq (lc (rc cLF)) (.seq (lc (rc (rc cLF))) (.seq (.block 0 (.loop (ic (ic (lc (rc (rc (rc cLF)))))))) (rc (rc (rc (rc cLF))))))) := by kernel_rfl

theorem lq0_small (q : Int) : 0 ≤ lq0 q ∧ lq0 q ≤ 500 := by
  unfold lq0
  have h1 : 0 ≤ IntKind.wrap IntKind.u64 q := by simp [IntKind.wrap, IntKind.bits, IntKind.signed]; omega
  have h2 : 0 ≤ (IntKind.wrap IntKind.u64 q).tmod (Int.ofNat 501) := Int.tmod_nonneg _ h1
  have h3 : (IntKind.wrap IntKind.u64 q).tmod (Int.ofNat 501) < 501 := Int.tmod_lt_of_pos _ (by decide)
  rw [wrI (by omega)]
  omega

theorem lawFr_ok (r : Mem) (p q : Int) : GrT Tryd.prog r 16 [I p, I q] (.tuple ⟨[I (m_lfP p q), I (m_lfQ p q)]⟩) :=
  GrT.of (SC_ok r) (show TOk (SC r) tF from TOk.cons TOk.nil (rFracE_ok r)) masks rfl ⟨501, 1, by
    rw [enterN (m := 51) (n := 22) (rs := [.tmp 4, .tmp 5]) cLF rfl (by kernel_rfl) (by kernel_rfl) (by kernel_rfl) (by kernel_rfl) (by kernel_rfl) rfl]
    generalize hk : finK (SC r) 51 [.tmp 4, .tmp 5] fin = kr
    rw [cLF_eq, seqA, seqA, run_while]
    refine (lfA r _ _ p q _ _ _ _ _).trans ?_
    unfold m_lfP m_lfQ
    obtain ⟨b1, b2⟩ := lq0_small q
    have e : IntKind.wrap IntKind.i64 (Int.tmod (IntKind.wrap IntKind.u64 q) (Int.ofNat 501)) = lq0 q := rfl
    rw [e]
    by_cases h : lq0 q = 0
    · rw [if_pos h, if_pos h]
      simp only [eqT (show lq0 q = Int.ofNat 0 from h), cond_true]
      subst hk
      rfl
    · rw [if_neg h, if_neg h]
      simp only [eqF (show lq0 q ≠ Int.ofNat 0 from h), cond_false]
      refine (show _ = _ from lf_loop r _ _ _ _ _ _ _ _ 501 _ _ (by omega) b2 (by omega) fun s => ?_)
      refine (lfC r _ _ _ _ _ _ _ _ _ _).trans ?_
      subst hk
      rfl⟩

theorem low_small (p : Int) : ∀ q : Int, 1 ≤ q → q ≤ 500 → 0 ≤ low p q ∧ low p q ≤ 500 := by
  intro q
  induction q using low.induct p with
  | case1 q h => intro h1; omega
  | case2 q h hf => intro h1 h2; rw [low, dif_neg h, if_pos hf]; omega
  | case3 q h hf ih =>
    intro h1 h2
    rw [low, dif_neg h, if_neg hf]
    by_cases c : q = 1
    · subst c
      exact absurd (show frac p 1 = true by rw [frac_iff]; simp) hf
    · exact ih (by omega) (by omega)

theorem lfQ_small (p q : Int) : 0 ≤ m_lfQ p q ∧ m_lfQ p q ≤ 500 := by
  obtain ⟨b1, b2⟩ := lq0_small q
  unfold m_lfQ
  split
  · omega
  · exact low_small _ _ (by omega) b2

theorem lawFrE_ok (r : Mem) : EOk (SC r) 16 (eI2 (fun _ _ => true) fun a b => .tuple ⟨[I (m_lfP a b), I (m_lfQ a b)]⟩) := eI2_ok fun a b _ => lawFr_ok r a b
theorem rSmallE_ok (r : Mem) : EOk (SC r) 13 (eI1 (fun _ => true) fun a => .bool (m_small a)) := eI1_ok fun a _ => rSmall_ok r a
end Go.Proofs

/- The program's Value, Undo, Word, run. -/
namespace Go.Proofs
open Go Go.Ev Go.Num

def m_dG (p q : Int) : Bool := m_frac p q && (m_small p && decide (q ≤ 500))
def m_wG (b : ByteArray) : Bool := m_rword b && decide (b.size ≤ 2000)
def eRd : Ent := eS1 (fun _ => true) fun b => .tuple ⟨[FV (m_rdP b) (m_rdQ b), I (m_rdE b)]⟩
def tWo : Tbl := tcons 18 eRd (tcons 19 eIw (tcons 20 (eA2 m_dG fun p q => .string (m_D p q)) (tcons 28 (eS1 m_wG fun b => .string (m_und b)) (tcons 42 (eA2 (fun _ _ => true) fun a b => .bool (m_frac a b)) fun _ => none))))

theorem vaA (r : Mem) (b : ByteArray) : (lvlT (SC r) tWo .nil 3 1).call 8 [.string b] emptyA fin =
    CR.ret (Value.tuple (Array.mk [Value.int IntKind.i64 (m_rdP b), Value.int IntKind.i64 (m_rdQ b), Value.int IntKind.i64 (m_rdE b)])) (AW.mk 0 Tr.nil Tr.nil) := by kernel_rfl

theorem unA (r : Mem) (b : ByteArray) : (lvlT (SC r) tWo .nil 3 1).call 9 [.string b] emptyA fin =
    bif m_rdE b != Int.ofNat 0 then CR.ret (Value.tuple (Array.mk [Value.string (ByteArray.mk #[]), Value.int IntKind.i64 (m_rdE b)])) (AW.mk 0 Tr.nil Tr.nil) else bif m_iw (m_rdP b) (m_rdQ b) (Int.ofNat 500) then bif m_dG (m_rdP b) (m_rdQ b) then CR.ret (Value.tuple (Array.mk [Value.string (m_D (m_rdP b) (m_rdQ b)), Value.int IntKind.i64 (Int.ofNat 0)])) (AW.mk 0 Tr.nil Tr.nil) else CR.fail 420 else CR.ret (Value.tuple (Array.mk [Value.string (ByteArray.mk #[]), Value.int IntKind.i64 (Int.ofNat 1)])) (AW.mk 0 Tr.nil Tr.nil) := by kernel_rfl

theorem woA (r : Mem) (p q : Int) : (lvlT (SC r) tWo .nil 8 4).call 14 [I p, I q] emptyA fin =
    bif m_eqv (Value.int IntKind.i64 q) (Value.int IntKind.i64 q) then bif m_eqv (Value.int IntKind.i64 q) (Value.int IntKind.i64 q) then bif m_eqv (Value.int IntKind.i64 p) (Value.int IntKind.i64 p) then bif m_eqv (Value.int IntKind.i64 p) (Value.int IntKind.i64 p) then bif m_frac p q then bif m_iw p q (Int.ofNat 500) then bif m_dG p q then bif m_wG (m_D p q) then CR.ret (Value.tuple (Array.mk [Value.string (m_und (m_D p q)), Value.int IntKind.i64 (Int.ofNat 0)])) (AW.mk 0 Tr.nil Tr.nil) else CR.fail 420 else CR.fail 420 else CR.ret (Value.tuple (Array.mk [Value.string (ByteArray.mk #[]), Value.int IntKind.i64 (Int.ofNat 1)])) (AW.mk 0 Tr.nil Tr.nil) else CR.ret (Value.tuple (Array.mk [Value.string (ByteArray.mk #[]), Value.int IntKind.i64 (Int.ofNat 61)])) (AW.mk 0 Tr.nil Tr.nil) else CR.fail 420 else CR.fail 420 else CR.fail 420 else CR.fail 420 := by kernel_rfl

end Go.Proofs

/- The program's Value, Undo, Word: what the calls answer. -/
namespace Go.Proofs
open Go Go.Ev Go.Num

theorem dG_use {p q : Int} (h : m_dG p q = true) : Fr p q ∧ -500 ≤ p ∧ p ≤ 500 ∧ q ≤ 500 := by
  simp only [m_dG, m_frac, m_small, Bool.and_eq_true, decide_eq_true_eq] at h
  exact ⟨(fr_frac p q).1 h.1, h.2.1.1, h.2.1.2, h.2.2⟩
theorem dG_of {p q : Int} (h : Fr p q) (h1 : -500 ≤ p) (h2 : p ≤ 500) (h3 : q ≤ 500) : m_dG p q = true := by
  simp only [m_dG, m_frac, m_small, Bool.and_eq_true, decide_eq_true_eq]
  exact ⟨(fr_frac p q).2 h, ⟨h1, h2⟩, h3⟩
theorem iw_use {p q : Int} (h : m_iw p q (Int.ofNat 500) = true) : -500 ≤ p ∧ p ≤ 500 ∧ q ≤ 500 := by
  simp only [m_iw, Bool.and_eq_true, decide_eq_true_eq] at h
  have e : (Int.ofNat 500) = 500 := rfl
  rw [e] at h
  omega

theorem sz_len (b : ByteArray) : b.data.toList.length = b.size := Array.length_toList

theorem tWo_ok (r : Mem) (hm : ∀ b j u, tabM b j = some u → r b j = some u) : TOk (SC r) tWo :=
  TOk.cons (TOk.cons (TOk.cons (TOk.cons (TOk.cons TOk.nil (eA2_ok fun a b _ => frac_ok r a b)) (eS1_ok fun b h => by
    simp only [m_wG, Bool.and_eq_true, decide_eq_true_eq] at h
    exact undo_ok r b (word_ok h.1) (by rw [sz_len]; exact h.2))) (eA2_ok fun p q h => by
    obtain ⟨h1, h2, h3, h4⟩ := dG_use h
    exact descent_ok r hm h1 h2 h3 h4)) (eA1I_ok fun p q m h => within_ok r p q m h)) (eS1_ok fun b _ => read_ok r hm b)

theorem value_ok (r : Mem) (hm : ∀ b j u, tabM b j = some u → r b j = some u) (b : ByteArray) : GrT Tryd.prog r 8 [.string b] (.tuple ⟨[I (m_rdP b), I (m_rdQ b), I (m_rdE b)]⟩) :=
  GrT.of (SC_ok r) (tWo_ok r hm) .nil rfl ⟨3, 1, by rw [vaA]; rfl⟩

/-- What is known of a word's value. -/
theorem rd_cases (b : ByteArray) : (m_rck b ≠ 0 ∧ m_rdE b = m_rck b ∧ m_rdP b = 0 ∧ m_rdQ b = 0) ∨
    (m_rck b = 0 ∧ m_rvB b 0 1 = false ∧ m_rdE b = 12 ∧ m_rdP b = 0 ∧ m_rdQ b = 0) ∨
    (m_rck b = 0 ∧ m_rvB b 0 1 = true ∧ m_rdE b = 0 ∧ m_rdP b = m_rvP b 0 1 ∧ m_rdQ b = m_rvQ b 0 1 ∧ Fr (m_rdP b) (m_rdQ b)) := by
  by_cases c : m_rck b = 0
  · cases hB : m_rvB b 0 1 with
    | false =>
      have : m_rdB b = false := by simp only [m_rdB, hB, Bool.and_false]
      exact .inr (.inl ⟨c, rfl, by simp [m_rdE, c, hB], by simp [m_rdP, this], by simp [m_rdQ, this]⟩)
    | true =>
      have : m_rdB b = true := by simp [m_rdB, c, hB]
      have e1 : m_rdP b = m_rvP b 0 1 := by simp [m_rdP, this]
      have e2 : m_rdQ b = m_rvQ b 0 1 := by simp [m_rdQ, this]
      refine .inr (.inr ⟨c, rfl, by simp [m_rdE, c, hB], e1, e2, ?_⟩)
      rw [e1, e2]
      exact goV_fr (word_ok (ck_word c).2) fr01 hB
  · have : m_rdB b = false := by
      have : (m_rck b == 0) = false := eqF c
      simp only [m_rdB, this, Bool.false_and]
    exact .inl ⟨c, by simp [m_rdE, c], by simp [m_rdP, this], by simp [m_rdQ, this]⟩

def m_unE (b : ByteArray) : Int := if m_rdE b = 0 then (if m_iw (m_rdP b) (m_rdQ b) 500 = true then 0 else 1) else m_rdE b
def m_unL (b : ByteArray) : List UInt8 := if m_rdE b = 0 ∧ m_iw (m_rdP b) (m_rdQ b) 500 = true then D (m_rdP b) (m_rdQ b) else []

theorem rd_fr {b : ByteArray} (h : m_rdE b = 0) : Fr (m_rdP b) (m_rdQ b) := by
  rcases rd_cases b with ⟨h1, h2, _⟩ | ⟨_, _, h2, _⟩ | ⟨_, _, _, _, _, h2⟩
  · exact absurd (h2.symm.trans h) h1
  · rw [h2] at h; cases h
  · exact h2

theorem undoS_ok (r : Mem) (hm : ∀ b j u, tabM b j = some u → r b j = some u) (b : ByteArray) : GrT Tryd.prog r 9 [.string b] (.tuple ⟨[.string ⟨⟨m_unL b⟩⟩, I (m_unE b)]⟩) :=
  GrT.of (SC_ok r) (tWo_ok r hm) .nil rfl ⟨3, 1, by
    rw [unA]
    by_cases c : m_rdE b = 0
    · rw [neF (show m_rdE b = Int.ofNat 0 from c), cond_false]
      cases hi : m_iw (m_rdP b) (m_rdQ b) (Int.ofNat 500) with
      | true =>
        obtain ⟨h1, h2, h3⟩ := iw_use hi
        have hi' : m_iw (m_rdP b) (m_rdQ b) 500 = true := hi
        rw [cond_true, dG_of (rd_fr c) h1 h2 h3, cond_true]
        simp only [m_unE, m_unL, c, hi', and_self, if_true]
        rfl
      | false =>
        have hi' : m_iw (m_rdP b) (m_rdQ b) 500 = false := hi
        rw [cond_false]
        simp only [m_unE, m_unL, c, hi', and_false, if_true, Bool.false_eq_true, if_false]
        rfl
    · rw [neT (show m_rdE b ≠ Int.ofNat 0 from c), cond_true]
      simp only [m_unE, m_unL, c, false_and, if_false]
      rfl⟩

def m_woE (p q : Int) : Int := if m_frac p q = true then (if m_iw p q 500 = true then 0 else 1) else 61
def m_woL (p q : Int) : List UInt8 := if m_frac p q = true ∧ m_iw p q 500 = true then und (D p q) else []

theorem D_word {p q : Int} (h : Fr p q) (h1 : -500 ≤ p) (h2 : p ≤ 500) (h3 : q ≤ 500) : m_wG (m_D p q) = true := by
  simp only [m_wG, Bool.and_eq_true, decide_eq_true_eq]
  exact ⟨List.all_eq_true.2 (D_ok p q), by rw [← sz_len]; exact D_len h h1 h2 h3⟩

theorem wordS_ok (r : Mem) (hm : ∀ b j u, tabM b j = some u → r b j = some u) (p q : Int) : GrT Tryd.prog r 14 [I p, I q] (.tuple ⟨[.string ⟨⟨m_woL p q⟩⟩, I (m_woE p q)]⟩) :=
  GrT.of (SC_ok r) (tWo_ok r hm) .nil rfl ⟨8, 4, by
    rw [woA, veq_i, veq_i, cond_true, cond_true, cond_true, cond_true]
    cases hf : m_frac p q with
    | true =>
      rw [cond_true]
      cases hi : m_iw p q (Int.ofNat 500) with
      | true =>
        obtain ⟨h1, h2, h3⟩ := iw_use hi
        have hi' : m_iw p q 500 = true := hi
        have hfr := (fr_frac p q).1 hf
        rw [cond_true, dG_of hfr h1 h2 h3, cond_true, D_word hfr h1 h2 h3, cond_true]
        simp only [m_woE, m_woL, hf, hi', and_self, if_true]
        rfl
      | false =>
        have hi' : m_iw p q 500 = false := hi
        rw [cond_false]
        simp only [m_woE, m_woL, hf, hi', and_false, if_true, Bool.false_eq_true, if_false]
        rfl
    | false =>
      rw [cond_false]
      simp only [m_woE, m_woL, hf, false_and, Bool.false_eq_true, if_false]
      rfl⟩

end Go.Proofs

/- awake of chapter 6. -/
namespace Go.Proofs
open Go Go.Ev

theorem awake_ok : GrT Tryd.prog tabM 11 [] (.bool true) := GrT.closedRo evMixed evNames tabM .nil 1000 40 (by kernel_rfl)

end Go.Proofs

/- The law of words' values, run. -/
namespace Go.Proofs
open Go Go.Ev Go.Num

theorem shA (r : Mem) (b : ByteArray) : (lvlT (SC r) (fun _ => none) .nil 1 1).call 6 [.string b] emptyA fin =
    bif decide (0 ≤ bif decide (2001 < Int.ofNat (ByteArray.size b)) then Int.ofNat 2001 else Int.ofNat (ByteArray.size b)) then bif Nat.ble (Int.toNat (bif decide (2001 < Int.ofNat (ByteArray.size b)) then Int.ofNat 2001 else Int.ofNat (ByteArray.size b))) (List.length (Array.toList (ByteArray.data b))) then CR.ret (Value.string (ByteArray.mk (Array.mk (List.take (Nat.sub (Int.toNat (bif decide (2001 < Int.ofNat (ByteArray.size b)) then Int.ofNat 2001 else Int.ofNat (ByteArray.size b))) 0) (List.drop 0 (Array.toList (ByteArray.data b))))))) (AW.mk 0 Tr.nil Tr.nil) else CR.fail 420 else CR.fail 420 := by kernel_rfl

def m_shL (b : ByteArray) : List UInt8 := b.data.toList.take 2001
def tLw : Tbl := tcons 6 (eS1 m_szG fun b => .string ⟨⟨m_shL b⟩⟩) (tcons 7 (eS1 (fun _ => true) fun b => I (m_rck b)) (tcons 8 (eS1 (fun _ => true) fun b => .tuple ⟨[I (m_rdP b), I (m_rdQ b), I (m_rdE b)]⟩)
  (tcons 9 (eS1 (fun _ => true) fun b => .tuple ⟨[.string ⟨⟨m_unL b⟩⟩, I (m_unE b)]⟩) (tcons 10 eRcheck (tcons 12 eRvalue (tcons 13 (eI1 (fun _ => true) fun a => .bool (m_small a))
  (tcons 11 (e0 (.bool true)) (tcons 14 (eI2 (fun _ _ => true) fun p q => .tuple ⟨[.string ⟨⟨m_woL p q⟩⟩, I (m_woE p q)]⟩) (tcons 15 (eI2 (fun _ b => m_max b) fun a b => .bool (m_frac a b))
  (tcons 16 (eI2 (fun _ _ => true) fun a b => .tuple ⟨[I (m_lfP a b), I (m_lfQ a b)]⟩) fun _ => none))))))))))

theorem lvA (r : Mem) (b : ByteArray) : (lvlT (SC r) tLw .nil 3 1).call 3 [.string b] emptyA fin =
    bif m_szG b then bif m_szG (ByteArray.mk (Array.mk (m_shL b))) then bif m_rck (ByteArray.mk (Array.mk (m_shL b))) != Int.ofNat 0 then bif m_rck (ByteArray.mk (Array.mk (m_shL b))) == m_rck (ByteArray.mk (Array.mk (m_shL b))) then bif m_rdE (ByteArray.mk (Array.mk (m_shL b))) == m_rck (ByteArray.mk (Array.mk (m_shL b))) then bif m_unE (ByteArray.mk (Array.mk (m_shL b))) == m_rck (ByteArray.mk (Array.mk (m_shL b))) then bif m_rdP (ByteArray.mk (Array.mk (m_shL b))) == Int.ofNat 0 then bif m_rdQ (ByteArray.mk (Array.mk (m_shL b))) == Int.ofNat 0 then bif bytesEq (m_unL (ByteArray.mk (Array.mk (m_shL b)))) [] then CR.ret (Value.bool true) (AW.mk 0 Tr.nil Tr.nil) else CR.ret (Value.bool false) (AW.mk 0 Tr.nil Tr.nil) else CR.ret (Value.bool false) (AW.mk 0 Tr.nil Tr.nil) else CR.ret (Value.bool false) (AW.mk 0 Tr.nil Tr.nil) else CR.ret (Value.bool false) (AW.mk 0 Tr.nil Tr.nil) else CR.ret (Value.bool false) (AW.mk 0 Tr.nil Tr.nil) else CR.ret (Value.bool false) (AW.mk 0 Tr.nil Tr.nil) else bif m_rvG (ByteArray.mk (Array.mk (m_shL b))) (Int.ofNat 0) (Int.ofNat 1) then bif m_rvB (ByteArray.mk (Array.mk (m_shL b))) (Int.ofNat 0) (Int.ofNat 1) then bif m_rck (ByteArray.mk (Array.mk (m_shL b))) != Int.ofNat 0 then CR.ret (Value.bool false) (AW.mk 0 Tr.nil Tr.nil) else bif m_rdE (ByteArray.mk (Array.mk (m_shL b))) != Int.ofNat 0 then CR.ret (Value.bool false) (AW.mk 0 Tr.nil Tr.nil) else bif m_rdP (ByteArray.mk (Array.mk (m_shL b))) != m_rvP (ByteArray.mk (Array.mk (m_shL b))) (Int.ofNat 0) (Int.ofNat 1) then CR.ret (Value.bool false) (AW.mk 0 Tr.nil Tr.nil) else bif m_rdQ (ByteArray.mk (Array.mk (m_shL b))) != m_rvQ (ByteArray.mk (Array.mk (m_shL b))) (Int.ofNat 0) (Int.ofNat 1) then CR.ret (Value.bool false) (AW.mk 0 Tr.nil Tr.nil) else bif m_small (m_rvP (ByteArray.mk (Array.mk (m_shL b))) (Int.ofNat 0) (Int.ofNat 1)) then bif m_small (m_rvQ (ByteArray.mk (Array.mk (m_shL b))) (Int.ofNat 0) (Int.ofNat 1)) then bif m_rvG (ByteArray.mk (Array.mk (m_unL (ByteArray.mk (Array.mk (m_shL b)))))) (m_rvP (ByteArray.mk (Array.mk (m_shL b))) (Int.ofNat 0) (Int.ofNat 1)) (m_rvQ (ByteArray.mk (Array.mk (m_shL b))) (Int.ofNat 0) (Int.ofNat 1)) then bif m_rvB (ByteArray.mk (Array.mk (m_unL (ByteArray.mk (Array.mk (m_shL b)))))) (m_rvP (ByteArray.mk (Array.mk (m_shL b))) (Int.ofNat 0) (Int.ofNat 1)) (m_rvQ (ByteArray.mk (Array.mk (m_shL b))) (Int.ofNat 0) (Int.ofNat 1)) then bif m_unE (ByteArray.mk (Array.mk (m_shL b))) == Int.ofNat 0 then bif m_szG (ByteArray.mk (Array.mk (m_unL (ByteArray.mk (Array.mk (m_shL b)))))) then bif m_rck (ByteArray.mk (Array.mk (m_unL (ByteArray.mk (Array.mk (m_shL b)))))) == Int.ofNat 0 then bif m_rvP (ByteArray.mk (Array.mk (m_unL (ByteArray.mk (Array.mk (m_shL b)))))) (m_rvP (ByteArray.mk (Array.mk (m_shL b))) (Int.ofNat 0) (Int.ofNat 1)) (m_rvQ (ByteArray.mk (Array.mk (m_shL b))) (Int.ofNat 0) (Int.ofNat 1)) == Int.ofNat 0 then bif m_rvQ (ByteArray.mk (Array.mk (m_unL (ByteArray.mk (Array.mk (m_shL b)))))) (m_rvP (ByteArray.mk (Array.mk (m_shL b))) (Int.ofNat 0) (Int.ofNat 1)) (m_rvQ (ByteArray.mk (Array.mk (m_shL b))) (Int.ofNat 0) (Int.ofNat 1)) == Int.ofNat 1 then CR.ret (Value.bool true) (AW.mk 0 Tr.nil Tr.nil) else CR.ret (Value.bool false) (AW.mk 0 Tr.nil Tr.nil) else CR.ret (Value.bool false) (AW.mk 0 Tr.nil Tr.nil) else CR.ret (Value.bool false) (AW.mk 0 Tr.nil Tr.nil) else CR.fail 420 else CR.ret (Value.bool false) (AW.mk 0 Tr.nil Tr.nil) else bif m_unE (ByteArray.mk (Array.mk (m_shL b))) == Int.ofNat 0 then bif m_szG (ByteArray.mk (Array.mk (m_unL (ByteArray.mk (Array.mk (m_shL b)))))) then bif m_rck (ByteArray.mk (Array.mk (m_unL (ByteArray.mk (Array.mk (m_shL b)))))) == Int.ofNat 0 then CR.ret (Value.bool false) (AW.mk 0 Tr.nil Tr.nil) else CR.ret (Value.bool false) (AW.mk 0 Tr.nil Tr.nil) else CR.fail 420 else CR.ret (Value.bool false) (AW.mk 0 Tr.nil Tr.nil) else CR.fail 420 else bif m_unE (ByteArray.mk (Array.mk (m_shL b))) == Int.ofNat 1 then bif bytesEq (m_unL (ByteArray.mk (Array.mk (m_shL b)))) [] then CR.ret (Value.bool true) (AW.mk 0 Tr.nil Tr.nil) else CR.ret (Value.bool false) (AW.mk 0 Tr.nil Tr.nil) else CR.ret (Value.bool false) (AW.mk 0 Tr.nil Tr.nil) else bif m_unE (ByteArray.mk (Array.mk (m_shL b))) == Int.ofNat 1 then bif bytesEq (m_unL (ByteArray.mk (Array.mk (m_shL b)))) [] then CR.ret (Value.bool true) (AW.mk 0 Tr.nil Tr.nil) else CR.ret (Value.bool false) (AW.mk 0 Tr.nil Tr.nil) else CR.ret (Value.bool false) (AW.mk 0 Tr.nil Tr.nil) else bif m_rck (ByteArray.mk (Array.mk (m_shL b))) == Int.ofNat 0 then bif m_rdE (ByteArray.mk (Array.mk (m_shL b))) == Int.ofNat 12 then bif m_unE (ByteArray.mk (Array.mk (m_shL b))) == Int.ofNat 12 then bif m_rdP (ByteArray.mk (Array.mk (m_shL b))) == Int.ofNat 0 then bif m_rdQ (ByteArray.mk (Array.mk (m_shL b))) == Int.ofNat 0 then bif bytesEq (m_unL (ByteArray.mk (Array.mk (m_shL b)))) [] then CR.ret (Value.bool true) (AW.mk 0 Tr.nil Tr.nil) else CR.ret (Value.bool false) (AW.mk 0 Tr.nil Tr.nil) else CR.ret (Value.bool false) (AW.mk 0 Tr.nil Tr.nil) else CR.ret (Value.bool false) (AW.mk 0 Tr.nil Tr.nil) else CR.ret (Value.bool false) (AW.mk 0 Tr.nil Tr.nil) else CR.ret (Value.bool false) (AW.mk 0 Tr.nil Tr.nil) else CR.ret (Value.bool false) (AW.mk 0 Tr.nil Tr.nil) else CR.fail 420 else CR.fail 420 else CR.fail 420 := by kernel_rfl

theorem lwA (r : Mem) (p q : Int) : (lvlT (SC r) tLw .nil 3 1).call 4 [I p, I q] emptyA fin =
    bif m_max q then bif m_frac p q then bif m_small p then bif m_small q then bif m_rvG (ByteArray.mk (Array.mk (m_woL p q))) (Int.ofNat 0) (Int.ofNat 1) then bif m_rvB (ByteArray.mk (Array.mk (m_woL p q))) (Int.ofNat 0) (Int.ofNat 1) then bif m_woE p q != Int.ofNat 0 then CR.ret (Value.bool false) (AW.mk 0 Tr.nil Tr.nil) else bif m_szG (ByteArray.mk (Array.mk (m_woL p q))) then bif m_rck (ByteArray.mk (Array.mk (m_woL p q))) != Int.ofNat 0 then CR.ret (Value.bool false) (AW.mk 0 Tr.nil Tr.nil) else bif m_rvP (ByteArray.mk (Array.mk (m_woL p q))) (Int.ofNat 0) (Int.ofNat 1) != p then CR.ret (Value.bool false) (AW.mk 0 Tr.nil Tr.nil) else bif m_rvQ (ByteArray.mk (Array.mk (m_woL p q))) (Int.ofNat 0) (Int.ofNat 1) != q then CR.ret (Value.bool false) (AW.mk 0 Tr.nil Tr.nil) else bif m_max (IntKind.wrap IntKind.i64 (Int.tmod (IntKind.wrap IntKind.u64 q) (Int.ofNat 501))) then bif m_frac (Int.tmod p (Int.ofNat 501)) (IntKind.wrap IntKind.i64 (Int.tmod (IntKind.wrap IntKind.u64 q) (Int.ofNat 501))) then bif m_small (Int.tmod p (Int.ofNat 501)) then bif m_small (IntKind.wrap IntKind.i64 (Int.tmod (IntKind.wrap IntKind.u64 q) (Int.ofNat 501))) then bif m_rvG (ByteArray.mk (Array.mk (m_woL (Int.tmod p (Int.ofNat 501)) (IntKind.wrap IntKind.i64 (Int.tmod (IntKind.wrap IntKind.u64 q) (Int.ofNat 501)))))) (Int.ofNat 0) (Int.ofNat 1) then bif m_rvB (ByteArray.mk (Array.mk (m_woL (Int.tmod p (Int.ofNat 501)) (IntKind.wrap IntKind.i64 (Int.tmod (IntKind.wrap IntKind.u64 q) (Int.ofNat 501)))))) (Int.ofNat 0) (Int.ofNat 1) then bif m_woE (Int.tmod p (Int.ofNat 501)) (IntKind.wrap IntKind.i64 (Int.tmod (IntKind.wrap IntKind.u64 q) (Int.ofNat 501))) != Int.ofNat 0 then CR.ret (Value.bool false) (AW.mk 0 Tr.nil Tr.nil) else bif m_szG (ByteArray.mk (Array.mk (m_woL (Int.tmod p (Int.ofNat 501)) (IntKind.wrap IntKind.i64 (Int.tmod (IntKind.wrap IntKind.u64 q) (Int.ofNat 501)))))) then bif m_rck (ByteArray.mk (Array.mk (m_woL (Int.tmod p (Int.ofNat 501)) (IntKind.wrap IntKind.i64 (Int.tmod (IntKind.wrap IntKind.u64 q) (Int.ofNat 501)))))) != Int.ofNat 0 then CR.ret (Value.bool false) (AW.mk 0 Tr.nil Tr.nil) else bif m_rvP (ByteArray.mk (Array.mk (m_woL (Int.tmod p (Int.ofNat 501)) (IntKind.wrap IntKind.i64 (Int.tmod (IntKind.wrap IntKind.u64 q) (Int.ofNat 501)))))) (Int.ofNat 0) (Int.ofNat 1) != Int.tmod p (Int.ofNat 501) then CR.ret (Value.bool false) (AW.mk 0 Tr.nil Tr.nil) else bif m_rvQ (ByteArray.mk (Array.mk (m_woL (Int.tmod p (Int.ofNat 501)) (IntKind.wrap IntKind.i64 (Int.tmod (IntKind.wrap IntKind.u64 q) (Int.ofNat 501)))))) (Int.ofNat 0) (Int.ofNat 1) != IntKind.wrap IntKind.i64 (Int.tmod (IntKind.wrap IntKind.u64 q) (Int.ofNat 501)) then CR.ret (Value.bool false) (AW.mk 0 Tr.nil Tr.nil) else CR.ret (Value.bool true) (AW.mk 0 Tr.nil Tr.nil) else CR.fail 420 else bif m_woE (Int.tmod p (Int.ofNat 501)) (IntKind.wrap IntKind.i64 (Int.tmod (IntKind.wrap IntKind.u64 q) (Int.ofNat 501))) != Int.ofNat 0 then CR.ret (Value.bool false) (AW.mk 0 Tr.nil Tr.nil) else bif m_szG (ByteArray.mk (Array.mk (m_woL (Int.tmod p (Int.ofNat 501)) (IntKind.wrap IntKind.i64 (Int.tmod (IntKind.wrap IntKind.u64 q) (Int.ofNat 501)))))) then bif m_rck (ByteArray.mk (Array.mk (m_woL (Int.tmod p (Int.ofNat 501)) (IntKind.wrap IntKind.i64 (Int.tmod (IntKind.wrap IntKind.u64 q) (Int.ofNat 501)))))) != Int.ofNat 0 then CR.ret (Value.bool false) (AW.mk 0 Tr.nil Tr.nil) else CR.ret (Value.bool false) (AW.mk 0 Tr.nil Tr.nil) else CR.fail 420 else CR.fail 420 else bif m_woE (Int.tmod p (Int.ofNat 501)) (IntKind.wrap IntKind.i64 (Int.tmod (IntKind.wrap IntKind.u64 q) (Int.ofNat 501))) != Int.ofNat 1 then CR.ret (Value.bool false) (AW.mk 0 Tr.nil Tr.nil) else bif !bytesEq (m_woL (Int.tmod p (Int.ofNat 501)) (IntKind.wrap IntKind.i64 (Int.tmod (IntKind.wrap IntKind.u64 q) (Int.ofNat 501)))) [] then CR.ret (Value.bool false) (AW.mk 0 Tr.nil Tr.nil) else CR.ret (Value.bool true) (AW.mk 0 Tr.nil Tr.nil) else bif m_woE (Int.tmod p (Int.ofNat 501)) (IntKind.wrap IntKind.i64 (Int.tmod (IntKind.wrap IntKind.u64 q) (Int.ofNat 501))) != Int.ofNat 1 then CR.ret (Value.bool false) (AW.mk 0 Tr.nil Tr.nil) else bif !bytesEq (m_woL (Int.tmod p (Int.ofNat 501)) (IntKind.wrap IntKind.i64 (Int.tmod (IntKind.wrap IntKind.u64 q) (Int.ofNat 501)))) [] then CR.ret (Value.bool false) (AW.mk 0 Tr.nil Tr.nil) else CR.ret (Value.bool true) (AW.mk 0 Tr.nil Tr.nil) else bif m_woE (Int.tmod p (Int.ofNat 501)) (IntKind.wrap IntKind.i64 (Int.tmod (IntKind.wrap IntKind.u64 q) (Int.ofNat 501))) != Int.ofNat 61 then CR.ret (Value.bool false) (AW.mk 0 Tr.nil Tr.nil) else bif !bytesEq (m_woL (Int.tmod p (Int.ofNat 501)) (IntKind.wrap IntKind.i64 (Int.tmod (IntKind.wrap IntKind.u64 q) (Int.ofNat 501)))) [] then CR.ret (Value.bool false) (AW.mk 0 Tr.nil Tr.nil) else CR.ret (Value.bool true) (AW.mk 0 Tr.nil Tr.nil) else CR.fail 420 else CR.fail 420 else bif m_woE p q != Int.ofNat 0 then CR.ret (Value.bool false) (AW.mk 0 Tr.nil Tr.nil) else bif m_szG (ByteArray.mk (Array.mk (m_woL p q))) then bif m_rck (ByteArray.mk (Array.mk (m_woL p q))) != Int.ofNat 0 then CR.ret (Value.bool false) (AW.mk 0 Tr.nil Tr.nil) else CR.ret (Value.bool false) (AW.mk 0 Tr.nil Tr.nil) else CR.fail 420 else CR.fail 420 else bif m_woE p q != Int.ofNat 1 then CR.ret (Value.bool false) (AW.mk 0 Tr.nil Tr.nil) else bif !bytesEq (m_woL p q) [] then CR.ret (Value.bool false) (AW.mk 0 Tr.nil Tr.nil) else bif m_max (IntKind.wrap IntKind.i64 (Int.tmod (IntKind.wrap IntKind.u64 q) (Int.ofNat 501))) then bif m_frac (Int.tmod p (Int.ofNat 501)) (IntKind.wrap IntKind.i64 (Int.tmod (IntKind.wrap IntKind.u64 q) (Int.ofNat 501))) then bif m_small (Int.tmod p (Int.ofNat 501)) then bif m_small (IntKind.wrap IntKind.i64 (Int.tmod (IntKind.wrap IntKind.u64 q) (Int.ofNat 501))) then bif m_rvG (ByteArray.mk (Array.mk (m_woL (Int.tmod p (Int.ofNat 501)) (IntKind.wrap IntKind.i64 (Int.tmod (IntKind.wrap IntKind.u64 q) (Int.ofNat 501)))))) (Int.ofNat 0) (Int.ofNat 1) then bif m_rvB (ByteArray.mk (Array.mk (m_woL (Int.tmod p (Int.ofNat 501)) (IntKind.wrap IntKind.i64 (Int.tmod (IntKind.wrap IntKind.u64 q) (Int.ofNat 501)))))) (Int.ofNat 0) (Int.ofNat 1) then bif m_woE (Int.tmod p (Int.ofNat 501)) (IntKind.wrap IntKind.i64 (Int.tmod (IntKind.wrap IntKind.u64 q) (Int.ofNat 501))) != Int.ofNat 0 then CR.ret (Value.bool false) (AW.mk 0 Tr.nil Tr.nil) else bif m_szG (ByteArray.mk (Array.mk (m_woL (Int.tmod p (Int.ofNat 501)) (IntKind.wrap IntKind.i64 (Int.tmod (IntKind.wrap IntKind.u64 q) (Int.ofNat 501)))))) then bif m_rck (ByteArray.mk (Array.mk (m_woL (Int.tmod p (Int.ofNat 501)) (IntKind.wrap IntKind.i64 (Int.tmod (IntKind.wrap IntKind.u64 q) (Int.ofNat 501)))))) != Int.ofNat 0 then CR.ret (Value.bool false) (AW.mk 0 Tr.nil Tr.nil) else bif m_rvP (ByteArray.mk (Array.mk (m_woL (Int.tmod p (Int.ofNat 501)) (IntKind.wrap IntKind.i64 (Int.tmod (IntKind.wrap IntKind.u64 q) (Int.ofNat 501)))))) (Int.ofNat 0) (Int.ofNat 1) != Int.tmod p (Int.ofNat 501) then CR.ret (Value.bool false) (AW.mk 0 Tr.nil Tr.nil) else bif m_rvQ (ByteArray.mk (Array.mk (m_woL (Int.tmod p (Int.ofNat 501)) (IntKind.wrap IntKind.i64 (Int.tmod (IntKind.wrap IntKind.u64 q) (Int.ofNat 501)))))) (Int.ofNat 0) (Int.ofNat 1) != IntKind.wrap IntKind.i64 (Int.tmod (IntKind.wrap IntKind.u64 q) (Int.ofNat 501)) then CR.ret (Value.bool false) (AW.mk 0 Tr.nil Tr.nil) else CR.ret (Value.bool true) (AW.mk 0 Tr.nil Tr.nil) else CR.fail 420 else bif m_woE (Int.tmod p (Int.ofNat 501)) (IntKind.wrap IntKind.i64 (Int.tmod (IntKind.wrap IntKind.u64 q) (Int.ofNat 501))) != Int.ofNat 0 then CR.ret (Value.bool false) (AW.mk 0 Tr.nil Tr.nil) else bif m_szG (ByteArray.mk (Array.mk (m_woL (Int.tmod p (Int.ofNat 501)) (IntKind.wrap IntKind.i64 (Int.tmod (IntKind.wrap IntKind.u64 q) (Int.ofNat 501)))))) then bif m_rck (ByteArray.mk (Array.mk (m_woL (Int.tmod p (Int.ofNat 501)) (IntKind.wrap IntKind.i64 (Int.tmod (IntKind.wrap IntKind.u64 q) (Int.ofNat 501)))))) != Int.ofNat 0 then CR.ret (Value.bool false) (AW.mk 0 Tr.nil Tr.nil) else CR.ret (Value.bool false) (AW.mk 0 Tr.nil Tr.nil) else CR.fail 420 else CR.fail 420 else bif m_woE (Int.tmod p (Int.ofNat 501)) (IntKind.wrap IntKind.i64 (Int.tmod (IntKind.wrap IntKind.u64 q) (Int.ofNat 501))) != Int.ofNat 1 then CR.ret (Value.bool false) (AW.mk 0 Tr.nil Tr.nil) else bif !bytesEq (m_woL (Int.tmod p (Int.ofNat 501)) (IntKind.wrap IntKind.i64 (Int.tmod (IntKind.wrap IntKind.u64 q) (Int.ofNat 501)))) [] then CR.ret (Value.bool false) (AW.mk 0 Tr.nil Tr.nil) else CR.ret (Value.bool true) (AW.mk 0 Tr.nil Tr.nil) else bif m_woE (Int.tmod p (Int.ofNat 501)) (IntKind.wrap IntKind.i64 (Int.tmod (IntKind.wrap IntKind.u64 q) (Int.ofNat 501))) != Int.ofNat 1 then CR.ret (Value.bool false) (AW.mk 0 Tr.nil Tr.nil) else bif !bytesEq (m_woL (Int.tmod p (Int.ofNat 501)) (IntKind.wrap IntKind.i64 (Int.tmod (IntKind.wrap IntKind.u64 q) (Int.ofNat 501)))) [] then CR.ret (Value.bool false) (AW.mk 0 Tr.nil Tr.nil) else CR.ret (Value.bool true) (AW.mk 0 Tr.nil Tr.nil) else bif m_woE (Int.tmod p (Int.ofNat 501)) (IntKind.wrap IntKind.i64 (Int.tmod (IntKind.wrap IntKind.u64 q) (Int.ofNat 501))) != Int.ofNat 61 then CR.ret (Value.bool false) (AW.mk 0 Tr.nil Tr.nil) else bif !bytesEq (m_woL (Int.tmod p (Int.ofNat 501)) (IntKind.wrap IntKind.i64 (Int.tmod (IntKind.wrap IntKind.u64 q) (Int.ofNat 501)))) [] then CR.ret (Value.bool false) (AW.mk 0 Tr.nil Tr.nil) else CR.ret (Value.bool true) (AW.mk 0 Tr.nil Tr.nil) else CR.fail 420 else bif m_woE p q != Int.ofNat 1 then CR.ret (Value.bool false) (AW.mk 0 Tr.nil Tr.nil) else bif !bytesEq (m_woL p q) [] then CR.ret (Value.bool false) (AW.mk 0 Tr.nil Tr.nil) else bif m_max (IntKind.wrap IntKind.i64 (Int.tmod (IntKind.wrap IntKind.u64 q) (Int.ofNat 501))) then bif m_frac (Int.tmod p (Int.ofNat 501)) (IntKind.wrap IntKind.i64 (Int.tmod (IntKind.wrap IntKind.u64 q) (Int.ofNat 501))) then bif m_small (Int.tmod p (Int.ofNat 501)) then bif m_small (IntKind.wrap IntKind.i64 (Int.tmod (IntKind.wrap IntKind.u64 q) (Int.ofNat 501))) then bif m_rvG (ByteArray.mk (Array.mk (m_woL (Int.tmod p (Int.ofNat 501)) (IntKind.wrap IntKind.i64 (Int.tmod (IntKind.wrap IntKind.u64 q) (Int.ofNat 501)))))) (Int.ofNat 0) (Int.ofNat 1) then bif m_rvB (ByteArray.mk (Array.mk (m_woL (Int.tmod p (Int.ofNat 501)) (IntKind.wrap IntKind.i64 (Int.tmod (IntKind.wrap IntKind.u64 q) (Int.ofNat 501)))))) (Int.ofNat 0) (Int.ofNat 1) then bif m_woE (Int.tmod p (Int.ofNat 501)) (IntKind.wrap IntKind.i64 (Int.tmod (IntKind.wrap IntKind.u64 q) (Int.ofNat 501))) != Int.ofNat 0 then CR.ret (Value.bool false) (AW.mk 0 Tr.nil Tr.nil) else bif m_szG (ByteArray.mk (Array.mk (m_woL (Int.tmod p (Int.ofNat 501)) (IntKind.wrap IntKind.i64 (Int.tmod (IntKind.wrap IntKind.u64 q) (Int.ofNat 501)))))) then bif m_rck (ByteArray.mk (Array.mk (m_woL (Int.tmod p (Int.ofNat 501)) (IntKind.wrap IntKind.i64 (Int.tmod (IntKind.wrap IntKind.u64 q) (Int.ofNat 501)))))) != Int.ofNat 0 then CR.ret (Value.bool false) (AW.mk 0 Tr.nil Tr.nil) else bif m_rvP (ByteArray.mk (Array.mk (m_woL (Int.tmod p (Int.ofNat 501)) (IntKind.wrap IntKind.i64 (Int.tmod (IntKind.wrap IntKind.u64 q) (Int.ofNat 501)))))) (Int.ofNat 0) (Int.ofNat 1) != Int.tmod p (Int.ofNat 501) then CR.ret (Value.bool false) (AW.mk 0 Tr.nil Tr.nil) else bif m_rvQ (ByteArray.mk (Array.mk (m_woL (Int.tmod p (Int.ofNat 501)) (IntKind.wrap IntKind.i64 (Int.tmod (IntKind.wrap IntKind.u64 q) (Int.ofNat 501)))))) (Int.ofNat 0) (Int.ofNat 1) != IntKind.wrap IntKind.i64 (Int.tmod (IntKind.wrap IntKind.u64 q) (Int.ofNat 501)) then CR.ret (Value.bool false) (AW.mk 0 Tr.nil Tr.nil) else CR.ret (Value.bool true) (AW.mk 0 Tr.nil Tr.nil) else CR.fail 420 else bif m_woE (Int.tmod p (Int.ofNat 501)) (IntKind.wrap IntKind.i64 (Int.tmod (IntKind.wrap IntKind.u64 q) (Int.ofNat 501))) != Int.ofNat 0 then CR.ret (Value.bool false) (AW.mk 0 Tr.nil Tr.nil) else bif m_szG (ByteArray.mk (Array.mk (m_woL (Int.tmod p (Int.ofNat 501)) (IntKind.wrap IntKind.i64 (Int.tmod (IntKind.wrap IntKind.u64 q) (Int.ofNat 501)))))) then bif m_rck (ByteArray.mk (Array.mk (m_woL (Int.tmod p (Int.ofNat 501)) (IntKind.wrap IntKind.i64 (Int.tmod (IntKind.wrap IntKind.u64 q) (Int.ofNat 501)))))) != Int.ofNat 0 then CR.ret (Value.bool false) (AW.mk 0 Tr.nil Tr.nil) else CR.ret (Value.bool false) (AW.mk 0 Tr.nil Tr.nil) else CR.fail 420 else CR.fail 420 else bif m_woE (Int.tmod p (Int.ofNat 501)) (IntKind.wrap IntKind.i64 (Int.tmod (IntKind.wrap IntKind.u64 q) (Int.ofNat 501))) != Int.ofNat 1 then CR.ret (Value.bool false) (AW.mk 0 Tr.nil Tr.nil) else bif !bytesEq (m_woL (Int.tmod p (Int.ofNat 501)) (IntKind.wrap IntKind.i64 (Int.tmod (IntKind.wrap IntKind.u64 q) (Int.ofNat 501)))) [] then CR.ret (Value.bool false) (AW.mk 0 Tr.nil Tr.nil) else CR.ret (Value.bool true) (AW.mk 0 Tr.nil Tr.nil) else bif m_woE (Int.tmod p (Int.ofNat 501)) (IntKind.wrap IntKind.i64 (Int.tmod (IntKind.wrap IntKind.u64 q) (Int.ofNat 501))) != Int.ofNat 1 then CR.ret (Value.bool false) (AW.mk 0 Tr.nil Tr.nil) else bif !bytesEq (m_woL (Int.tmod p (Int.ofNat 501)) (IntKind.wrap IntKind.i64 (Int.tmod (IntKind.wrap IntKind.u64 q) (Int.ofNat 501)))) [] then CR.ret (Value.bool false) (AW.mk 0 Tr.nil Tr.nil) else CR.ret (Value.bool true) (AW.mk 0 Tr.nil Tr.nil) else bif m_woE (Int.tmod p (Int.ofNat 501)) (IntKind.wrap IntKind.i64 (Int.tmod (IntKind.wrap IntKind.u64 q) (Int.ofNat 501))) != Int.ofNat 61 then CR.ret (Value.bool false) (AW.mk 0 Tr.nil Tr.nil) else bif !bytesEq (m_woL (Int.tmod p (Int.ofNat 501)) (IntKind.wrap IntKind.i64 (Int.tmod (IntKind.wrap IntKind.u64 q) (Int.ofNat 501)))) [] then CR.ret (Value.bool false) (AW.mk 0 Tr.nil Tr.nil) else CR.ret (Value.bool true) (AW.mk 0 Tr.nil Tr.nil) else CR.fail 420 else bif m_woE p q != Int.ofNat 61 then CR.ret (Value.bool false) (AW.mk 0 Tr.nil Tr.nil) else bif !bytesEq (m_woL p q) [] then CR.ret (Value.bool false) (AW.mk 0 Tr.nil Tr.nil) else bif m_max (IntKind.wrap IntKind.i64 (Int.tmod (IntKind.wrap IntKind.u64 q) (Int.ofNat 501))) then bif m_frac (Int.tmod p (Int.ofNat 501)) (IntKind.wrap IntKind.i64 (Int.tmod (IntKind.wrap IntKind.u64 q) (Int.ofNat 501))) then bif m_small (Int.tmod p (Int.ofNat 501)) then bif m_small (IntKind.wrap IntKind.i64 (Int.tmod (IntKind.wrap IntKind.u64 q) (Int.ofNat 501))) then bif m_rvG (ByteArray.mk (Array.mk (m_woL (Int.tmod p (Int.ofNat 501)) (IntKind.wrap IntKind.i64 (Int.tmod (IntKind.wrap IntKind.u64 q) (Int.ofNat 501)))))) (Int.ofNat 0) (Int.ofNat 1) then bif m_rvB (ByteArray.mk (Array.mk (m_woL (Int.tmod p (Int.ofNat 501)) (IntKind.wrap IntKind.i64 (Int.tmod (IntKind.wrap IntKind.u64 q) (Int.ofNat 501)))))) (Int.ofNat 0) (Int.ofNat 1) then bif m_woE (Int.tmod p (Int.ofNat 501)) (IntKind.wrap IntKind.i64 (Int.tmod (IntKind.wrap IntKind.u64 q) (Int.ofNat 501))) != Int.ofNat 0 then CR.ret (Value.bool false) (AW.mk 0 Tr.nil Tr.nil) else bif m_szG (ByteArray.mk (Array.mk (m_woL (Int.tmod p (Int.ofNat 501)) (IntKind.wrap IntKind.i64 (Int.tmod (IntKind.wrap IntKind.u64 q) (Int.ofNat 501)))))) then bif m_rck (ByteArray.mk (Array.mk (m_woL (Int.tmod p (Int.ofNat 501)) (IntKind.wrap IntKind.i64 (Int.tmod (IntKind.wrap IntKind.u64 q) (Int.ofNat 501)))))) != Int.ofNat 0 then CR.ret (Value.bool false) (AW.mk 0 Tr.nil Tr.nil) else bif m_rvP (ByteArray.mk (Array.mk (m_woL (Int.tmod p (Int.ofNat 501)) (IntKind.wrap IntKind.i64 (Int.tmod (IntKind.wrap IntKind.u64 q) (Int.ofNat 501)))))) (Int.ofNat 0) (Int.ofNat 1) != Int.tmod p (Int.ofNat 501) then CR.ret (Value.bool false) (AW.mk 0 Tr.nil Tr.nil) else bif m_rvQ (ByteArray.mk (Array.mk (m_woL (Int.tmod p (Int.ofNat 501)) (IntKind.wrap IntKind.i64 (Int.tmod (IntKind.wrap IntKind.u64 q) (Int.ofNat 501)))))) (Int.ofNat 0) (Int.ofNat 1) != IntKind.wrap IntKind.i64 (Int.tmod (IntKind.wrap IntKind.u64 q) (Int.ofNat 501)) then CR.ret (Value.bool false) (AW.mk 0 Tr.nil Tr.nil) else CR.ret (Value.bool true) (AW.mk 0 Tr.nil Tr.nil) else CR.fail 420 else bif m_woE (Int.tmod p (Int.ofNat 501)) (IntKind.wrap IntKind.i64 (Int.tmod (IntKind.wrap IntKind.u64 q) (Int.ofNat 501))) != Int.ofNat 0 then CR.ret (Value.bool false) (AW.mk 0 Tr.nil Tr.nil) else bif m_szG (ByteArray.mk (Array.mk (m_woL (Int.tmod p (Int.ofNat 501)) (IntKind.wrap IntKind.i64 (Int.tmod (IntKind.wrap IntKind.u64 q) (Int.ofNat 501)))))) then bif m_rck (ByteArray.mk (Array.mk (m_woL (Int.tmod p (Int.ofNat 501)) (IntKind.wrap IntKind.i64 (Int.tmod (IntKind.wrap IntKind.u64 q) (Int.ofNat 501)))))) != Int.ofNat 0 then CR.ret (Value.bool false) (AW.mk 0 Tr.nil Tr.nil) else CR.ret (Value.bool false) (AW.mk 0 Tr.nil Tr.nil) else CR.fail 420 else CR.fail 420 else bif m_woE (Int.tmod p (Int.ofNat 501)) (IntKind.wrap IntKind.i64 (Int.tmod (IntKind.wrap IntKind.u64 q) (Int.ofNat 501))) != Int.ofNat 1 then CR.ret (Value.bool false) (AW.mk 0 Tr.nil Tr.nil) else bif !bytesEq (m_woL (Int.tmod p (Int.ofNat 501)) (IntKind.wrap IntKind.i64 (Int.tmod (IntKind.wrap IntKind.u64 q) (Int.ofNat 501)))) [] then CR.ret (Value.bool false) (AW.mk 0 Tr.nil Tr.nil) else CR.ret (Value.bool true) (AW.mk 0 Tr.nil Tr.nil) else bif m_woE (Int.tmod p (Int.ofNat 501)) (IntKind.wrap IntKind.i64 (Int.tmod (IntKind.wrap IntKind.u64 q) (Int.ofNat 501))) != Int.ofNat 1 then CR.ret (Value.bool false) (AW.mk 0 Tr.nil Tr.nil) else bif !bytesEq (m_woL (Int.tmod p (Int.ofNat 501)) (IntKind.wrap IntKind.i64 (Int.tmod (IntKind.wrap IntKind.u64 q) (Int.ofNat 501)))) [] then CR.ret (Value.bool false) (AW.mk 0 Tr.nil Tr.nil) else CR.ret (Value.bool true) (AW.mk 0 Tr.nil Tr.nil) else bif m_woE (Int.tmod p (Int.ofNat 501)) (IntKind.wrap IntKind.i64 (Int.tmod (IntKind.wrap IntKind.u64 q) (Int.ofNat 501))) != Int.ofNat 61 then CR.ret (Value.bool false) (AW.mk 0 Tr.nil Tr.nil) else bif !bytesEq (m_woL (Int.tmod p (Int.ofNat 501)) (IntKind.wrap IntKind.i64 (Int.tmod (IntKind.wrap IntKind.u64 q) (Int.ofNat 501)))) [] then CR.ret (Value.bool false) (AW.mk 0 Tr.nil Tr.nil) else CR.ret (Value.bool true) (AW.mk 0 Tr.nil Tr.nil) else CR.fail 420 else CR.fail 420 := by kernel_rfl

end Go.Proofs

/- The laws of words: they answer true. -/
namespace Go.Proofs
open Go Go.Ev Go.Num

theorem short_ok (r : Mem) (b : ByteArray) : GrT Tryd.prog r 6 [.string b] (.string ⟨⟨m_shL b⟩⟩) :=
  GrT.of (SC_ok r) TOk.nil .nil rfl ⟨1, 1, by
    rw [shA]
    have hl := sz_len b
    unfold m_shL
    by_cases c : b.size > 2001
    · have c' : (2001 : Int) < Int.ofNat b.size := by simp; omega
      rw [dT c', cond_true]
      have g : Nat.ble (Int.ofNat 2001).toNat b.data.toList.length = true := Nat.ble_eq_true_of_le (by rw [hl]; show 2001 ≤ _; omega)
      have g0 : (0 : Int) ≤ Int.ofNat 2001 := by decide
      rw [dT g0, cond_true, g, cond_true]
      rfl
    · have c' : ¬ (2001 : Int) < Int.ofNat b.size := by simp; omega
      rw [dF c', cond_false]
      have g : Nat.ble (Int.ofNat b.size).toNat b.data.toList.length = true := Nat.ble_eq_true_of_le (by rw [hl]; exact Nat.le_refl _)
      have g0 : (0 : Int) ≤ Int.ofNat b.size := by simp
      rw [dT g0, cond_true, g, cond_true]
      have e1 : b.data.toList.take 2001 = b.data.toList := List.take_of_length_le (by rw [hl]; omega)
      have e2 : List.take (Nat.sub (Int.ofNat b.size).toNat 0) (List.drop 0 b.data.toList) = b.data.toList := by
        show List.take (b.size - 0) (List.drop 0 b.data.toList) = _
        rw [List.drop_zero]
        exact List.take_of_length_le (by rw [hl]; omega)
      rw [e1, e2]
      rfl⟩

theorem awakeE_ok (r : Mem) (hm : ∀ b j u, tabM b j = some u → r b j = some u) : EOk (SC r) 11 (e0 (.bool true)) := e0_ok (awake_ok.less hm)

theorem tLw_ok (r : Mem) (hm : ∀ b j u, tabM b j = some u → r b j = some u) : TOk (SC r) tLw :=
  TOk.cons (TOk.cons (TOk.cons (TOk.cons (TOk.cons (TOk.cons (TOk.cons (TOk.cons (TOk.cons (TOk.cons (TOk.cons TOk.nil (lawFrE_ok r)) (rFracE_ok r)) (eI2_ok fun p q _ => wordS_ok r hm p q)) (awakeE_ok r hm)) (rSmallE_ok r)) (rValueE_ok r)) (rCheckE_ok r)) (eS1_ok fun b _ => undoS_ok r hm b)) (eS1_ok fun b _ => value_ok r hm b)) (eS1_ok fun b _ => check_ok r b)) (eS1_ok fun b _ => short_ok r b)

/-- A list of letters as a string. -/
abbrev str (l : List UInt8) : ByteArray := ⟨⟨l⟩⟩
theorem str_size (l : List UInt8) : (str l).size = l.length := rfl

theorem sz_of {l : List UInt8} (h : l.length ≤ 9223372036854775807) : m_szG (str l) = true := dT (by rw [str_size]; exact h)
theorem rvG_of {l : List UInt8} (h : l.length ≤ 9223372036854775807) {p q : Int} (h1 : -1000000000000000 ≤ p) (h2 : p ≤ 1000000000000000) (h3 : -1000000000000000 ≤ q) (h4 : q ≤ 1000000000000000) : m_rvG (str l) p q = true := by
  simp only [m_rvG, sz_of h, dT h1, dT h2, dT h3, dT h4, Bool.and_self]
theorem rck_of {l : List UInt8} (h : l.length ≤ 2000) (ho : ∀ v ∈ l, okL v = true) : m_rck (str l) = 0 := by
  have hw : m_rword (str l) = true := List.all_eq_true.2 ho
  unfold m_rck
  rw [dF (show ¬ (str l).size > 2000 by rw [str_size]; omega), cond_false, hw, cond_true]
  rfl

/-- A word with a value. -/
theorem rd_of {l : List UInt8} {x y : Int} (h : l.length ≤ 2000) (ho : ∀ v ∈ l, okL v = true) (hv : goV l 0 1 = (x, y, true)) : m_rdE (str l) = 0 ∧ m_rdP (str l) = x ∧ m_rdQ (str l) = y := by
  have hc := rck_of h ho
  have hB : m_rvB (str l) 0 1 = true := by simp only [m_rvB, hv]
  have hd : m_rdB (str l) = true := by simp [m_rdB, hc, hB]
  refine ⟨by simp [m_rdE, hc, hB], ?_, ?_⟩
  · simp only [m_rdP, hd, if_true, m_rvP, hv]
  · simp only [m_rdQ, hd, if_true, m_rvQ, hv]
/-- One whose value is too large. -/
theorem rd_big {l : List UInt8} (h : l.length ≤ 2000) (ho : ∀ v ∈ l, okL v = true) (hv : (goV l 0 1).2.2 = false) : m_rdE (str l) = 12 := by
  have hc := rck_of h ho
  have hB : m_rvB (str l) 0 1 = false := hv
  simp [m_rdE, hc, hB]

theorem small_iw {p q : Int} (h : Fr p q) : m_iw p q 500 = (m_small p && m_small q) := by
  have := h.low
  simp only [m_iw, m_small]
  have : decide (-500 ≤ q) = true := dT (by omega)
  rw [this, Bool.true_and]

theorem un_of {b : ByteArray} (h : m_rdE b = 0) (hs : m_small (m_rdP b) = true) (hs' : m_small (m_rdQ b) = true) : m_unE b = 0 ∧ m_unL b = D (m_rdP b) (m_rdQ b) := by
  have hi : m_iw (m_rdP b) (m_rdQ b) 500 = true := by rw [small_iw (rd_fr h), hs, hs']; rfl
  exact ⟨by simp [m_unE, h, hi], by simp [m_unL, h, hi]⟩
theorem un_no {b : ByteArray} (h : m_rdE b = 0) (hs : (m_small (m_rdP b) && m_small (m_rdQ b)) = false) : m_unE b = 1 ∧ m_unL b = [] := by
  have hi : m_iw (m_rdP b) (m_rdQ b) 500 = false := by rw [small_iw (rd_fr h), hs]
  exact ⟨by simp [m_unE, h, hi], by simp [m_unL, hi]⟩
theorem un_err {b : ByteArray} (h : m_rdE b ≠ 0) : m_unE b = m_rdE b ∧ m_unL b = [] := ⟨by simp [m_unE, h], by simp [m_unL, h]⟩

theorem smallT {x : Int} (h : m_small x = true) : -500 ≤ x ∧ x ≤ 500 := by simpa [m_small] using h

theorem values_ok (r : Mem) (hm : ∀ b j u, tabM b j = some u → r b j = some u) (b : ByteArray) (hsz : b.size ≤ 9223372036854775807) : GrT Tryd.prog r 3 [.string b] (.bool true) :=
  GrT.of (SC_ok r) (tLw_ok r hm) .nil rfl ⟨3, 1, by
    rw [lvA]
    have g1 : m_szG b = true := dT hsz
    have hlen : (m_shL b).length ≤ 2001 := by unfold m_shL; rw [List.length_take]; omega
    rw [g1, cond_true]
    generalize m_shL b = l at hlen
    have g2 : m_szG (str l) = true := sz_of (by omega)
    have g3 : m_rvG (str l) (Int.ofNat 0) (Int.ofNat 1) = true := rvG_of (by omega) (by decide) (by decide) (by decide) (by decide)
    have n0 : ∀ x : Int, (x == x) = true := fun x => by simp
    have n1 : ∀ x : Int, (x != x) = false := fun x => by simp
    have bz : bytesEq [] [] = true := rfl
    have n2 : ((0 : Int) != Int.ofNat 0) = false := rfl
    have n3 : ((0 : Int) == Int.ofNat 0) = true := rfl
    have n4 : ((12 : Int) == Int.ofNat 12) = true := rfl
    have n5 : ((1 : Int) == Int.ofNat 1) = true := rfl
    rcases rd_cases (str l) with ⟨h1, h2, h3, h4⟩ | ⟨h1, h2, h3, h4, h5⟩ | ⟨h1, h2, h3, h4, h5, h6⟩
    · obtain ⟨u1, u2⟩ := un_err (b := str l) (by rw [h2]; exact h1)
      rw [h2] at u1
      have n : (m_rck (str l) != Int.ofNat 0) = true := neT h1
      simp only [g2, cond_true, n, n0, h2, u1, h3, h4, n3, u2, bz]
      rfl
    · obtain ⟨u1, u2⟩ := un_err (b := str l) (by rw [h3]; decide)
      rw [h3] at u1
      have h2' : m_rvB (str l) (Int.ofNat 0) (Int.ofNat 1) = false := h2
      simp only [g2, cond_true, cond_false, h1, n2, g3, h2', n3, h3, u1, n4, h4, h5, u2, bz]
      rfl
    · have h2' : m_rvB (str l) (Int.ofNat 0) (Int.ofNat 1) = true := h2
      have h4' : m_rvP (str l) (Int.ofNat 0) (Int.ofNat 1) = m_rdP (str l) := h4.symm
      have h5' : m_rvQ (str l) (Int.ofNat 0) (Int.ofNat 1) = m_rdQ (str l) := h5.symm
      cases s1 : m_small (m_rdP (str l)) with
      | false =>
        obtain ⟨u1, u2⟩ := un_no h3 (by rw [s1]; rfl)
        simp only [g2, cond_true, cond_false, h1, n2, g3, h2', h3, h4', h5', n1, s1, u1, u2, n5, bz]
        rfl
      | true =>
        cases s2 : m_small (m_rdQ (str l)) with
        | false =>
          obtain ⟨u1, u2⟩ := un_no h3 (by rw [s1, s2]; rfl)
          simp only [g2, cond_true, cond_false, h1, n2, g3, h2', h3, h4', h5', n1, s1, s2, u1, u2, n5, bz]
          rfl
        | true =>
          obtain ⟨u1, u2⟩ := un_of h3 s1 s2
          obtain ⟨a1, a2⟩ := smallT s1
          obtain ⟨a3, a4⟩ := smallT s2
          generalize m_rdP (str l) = P at *
          generalize m_rdQ (str l) = Q at *
          have dl := D_len h6 a1 a2 a4
          have dg := goV_D _ P Q (Nat.le_refl _) h6 a1 a2 a4
          have v1 : m_rvG (str (D P Q)) P Q = true := rvG_of (by omega) (by omega) (by omega) (by omega) (by omega)
          have v2 : m_rvB (str (D P Q)) P Q = true := by simp only [m_rvB, dg]
          have v3 : m_rvP (str (D P Q)) P Q = 0 := by simp only [m_rvP, dg]
          have v4 : m_rvQ (str (D P Q)) P Q = 1 := by simp only [m_rvQ, dg]
          have v5 : m_rck (str (D P Q)) = 0 := rck_of dl (D_ok P Q)
          have v6 : m_szG (str (D P Q)) = true := sz_of (by omega)
          simp only [g2, cond_true, cond_false, h1, n2, g3, h2', h3, h4', h5', n1, s1, s2, u1, u2, v1, v2, v3, v4, v5, v6, n3, n5]
          rfl⟩

end Go.Proofs

/- The law of words of fractions: it answers true. -/
namespace Go.Proofs
open Go Go.Ev Go.Num

theorem wo_err {p q : Int} (h : m_frac p q = false) : m_woE p q = 61 ∧ m_woL p q = [] := ⟨by simp [m_woE, h], by simp [m_woL, h]⟩
theorem wo_no {p q : Int} (h : m_frac p q = true) (hs : (m_small p && m_small q) = false) : m_woE p q = 1 ∧ m_woL p q = [] := by
  have hi : m_iw p q 500 = false := by rw [small_iw ((fr_frac p q).1 h), hs]
  exact ⟨by simp [m_woE, h, hi], by simp [m_woL, hi]⟩
theorem wo_of {p q : Int} (h : m_frac p q = true) (s1 : m_small p = true) (s2 : m_small q = true) : m_woE p q = 0 ∧ m_woL p q = und (D p q) := by
  have hi : m_iw p q 500 = true := by rw [small_iw ((fr_frac p q).1 h), s1, s2]; rfl
  exact ⟨by simp [m_woE, h, hi], by simp [m_woL, h, hi]⟩

structure WoC (p q : Int) : Prop where
  f : m_frac p q = true
  s1 : m_small p = true
  s2 : m_small q = true
  e : m_woE p q = 0
  l : m_woL p q = und (D p q)
  g : m_rvG (str (und (D p q))) (Int.ofNat 0) (Int.ofNat 1) = true
  b : m_rvB (str (und (D p q))) (Int.ofNat 0) (Int.ofNat 1) = true
  z : m_szG (str (und (D p q))) = true
  c : m_rck (str (und (D p q))) = 0
  x : m_rvP (str (und (D p q))) (Int.ofNat 0) (Int.ofNat 1) = p
  y : m_rvQ (str (und (D p q))) (Int.ofNat 0) (Int.ofNat 1) = q

theorem wo_cases (p q : Int) : (m_frac p q = false ∧ m_woE p q = 61 ∧ m_woL p q = []) ∨ (m_frac p q = true ∧ m_small p = false ∧ m_woE p q = 1 ∧ m_woL p q = []) ∨ (m_frac p q = true ∧ m_small p = true ∧ m_small q = false ∧ m_woE p q = 1 ∧ m_woL p q = []) ∨ WoC p q := by
  cases hf : m_frac p q with
  | false => exact .inl ⟨rfl, wo_err hf⟩
  | true =>
    cases s1 : m_small p with
    | false => exact .inr (.inl ⟨rfl, rfl, wo_no hf (by rw [s1]; rfl)⟩)
    | true =>
      cases s2 : m_small q with
      | false => exact .inr (.inr (.inl ⟨rfl, rfl, rfl, wo_no hf (by rw [s1, s2]; rfl)⟩))
      | true =>
        obtain ⟨w1, w2⟩ := wo_of hf s1 s2
        have hfr := (fr_frac p q).1 hf
        obtain ⟨a1, a2⟩ := smallT s1
        obtain ⟨a3, a4⟩ := smallT s2
        have dl := D_len hfr a1 a2 a4
        have ul : (und (D p q)).length ≤ 2000 := by rw [und_len]; exact dl
        have dg := goV_und _ p q (Nat.le_refl _) hfr a1 a2 a4
        have dg' : goV (und (D p q)) (Int.ofNat 0) (Int.ofNat 1) = (p, q, true) := dg
        exact .inr (.inr (.inr ⟨hf, s1, s2, w1, w2, rvG_of (by omega) (by decide) (by decide) (by decide) (by decide), by simp only [m_rvB, dg'], sz_of (by omega), rck_of ul (und_ok (D_ok p q)), by simp only [m_rvP, dg'], by simp only [m_rvQ, dg']⟩))

theorem words_ok (r : Mem) (hm : ∀ b j u, tabM b j = some u → r b j = some u) (p q : Int) (hq : q ≤ 9223372036854775807) : GrT Tryd.prog r 4 [I p, I q] (.bool true) :=
  GrT.of (SC_ok r) (tLw_ok r hm) .nil rfl ⟨3, 1, by
    rw [lwA]
    have g1 : m_max q = true := dT hq
    have e : IntKind.wrap IntKind.i64 (Int.tmod (IntKind.wrap IntKind.u64 q) (Int.ofNat 501)) = lq0 q := rfl
    have g2 : m_max (lq0 q) = true := dT (by have := lq0_small q; omega)
    rw [e, g1, cond_true]
    generalize lq0 q = q' at g2
    generalize Int.tmod p (Int.ofNat 501) = p'
    have n0 : ((0 : Int) != Int.ofNat 0) = false := rfl
    have n1 : ((1 : Int) != Int.ofNat 1) = false := rfl
    have n2 : ((61 : Int) != Int.ofNat 61) = false := rfl
    have nn : ∀ x : Int, (x != x) = false := fun x => by simp
    have bz : bytesEq [] [] = true := rfl
    rcases wo_cases p q with ⟨h1, h2, h3⟩ | ⟨h1, h2, h3, h4⟩ | ⟨h1, h2, h3, h4, h5⟩ | h
    · rcases wo_cases p' q' with ⟨k1, k2, k3⟩ | ⟨k1, k2, k3, k4⟩ | ⟨k1, k2, k3, k4, k5⟩ | k
      · simp only [g2, n0, n1, n2, nn, bz, h1, h2, h3, k1, k2, k3, cond_true, cond_false, Bool.not_true]; rfl
      · simp only [g2, n0, n1, n2, nn, bz, h1, h2, h3, k1, k2, k3, k4, cond_true, cond_false, Bool.not_true]; rfl
      · simp only [g2, n0, n1, n2, nn, bz, h1, h2, h3, k1, k2, k3, k4, k5, cond_true, cond_false, Bool.not_true]; rfl
      · simp only [g2, n0, n1, n2, nn, bz, h1, h2, h3, k.f, k.s1, k.s2, k.e, k.l, k.g, k.b, k.z, k.c, k.x, k.y, cond_true, cond_false, Bool.not_true]; rfl
    · rcases wo_cases p' q' with ⟨k1, k2, k3⟩ | ⟨k1, k2, k3, k4⟩ | ⟨k1, k2, k3, k4, k5⟩ | k
      · simp only [g2, n0, n1, n2, nn, bz, h1, h2, h3, h4, k1, k2, k3, cond_true, cond_false, Bool.not_true]; rfl
      · simp only [g2, n0, n1, n2, nn, bz, h1, h2, h3, h4, k1, k2, k3, k4, cond_true, cond_false, Bool.not_true]; rfl
      · simp only [g2, n0, n1, n2, nn, bz, h1, h2, h3, h4, k1, k2, k3, k4, k5, cond_true, cond_false, Bool.not_true]; rfl
      · simp only [g2, n0, n1, n2, nn, bz, h1, h2, h3, h4, k.f, k.s1, k.s2, k.e, k.l, k.g, k.b, k.z, k.c, k.x, k.y, cond_true, cond_false, Bool.not_true]; rfl
    · rcases wo_cases p' q' with ⟨k1, k2, k3⟩ | ⟨k1, k2, k3, k4⟩ | ⟨k1, k2, k3, k4, k5⟩ | k
      · simp only [g2, n0, n1, n2, nn, bz, h1, h2, h3, h4, h5, k1, k2, k3, cond_true, cond_false, Bool.not_true]; rfl
      · simp only [g2, n0, n1, n2, nn, bz, h1, h2, h3, h4, h5, k1, k2, k3, k4, cond_true, cond_false, Bool.not_true]; rfl
      · simp only [g2, n0, n1, n2, nn, bz, h1, h2, h3, h4, h5, k1, k2, k3, k4, k5, cond_true, cond_false, Bool.not_true]; rfl
      · simp only [g2, n0, n1, n2, nn, bz, h1, h2, h3, h4, h5, k.f, k.s1, k.s2, k.e, k.l, k.g, k.b, k.z, k.c, k.x, k.y, cond_true, cond_false, Bool.not_true]; rfl
    · rcases wo_cases p' q' with ⟨k1, k2, k3⟩ | ⟨k1, k2, k3, k4⟩ | ⟨k1, k2, k3, k4, k5⟩ | k
      · simp only [g2, n0, n1, n2, nn, bz, h.f, h.s1, h.s2, h.e, h.l, h.g, h.b, h.z, h.c, h.x, h.y, k1, k2, k3, cond_true, cond_false, Bool.not_true]; rfl
      · simp only [g2, n0, n1, n2, nn, bz, h.f, h.s1, h.s2, h.e, h.l, h.g, h.b, h.z, h.c, h.x, h.y, k1, k2, k3, k4, cond_true, cond_false, Bool.not_true]; rfl
      · simp only [g2, n0, n1, n2, nn, bz, h.f, h.s1, h.s2, h.e, h.l, h.g, h.b, h.z, h.c, h.x, h.y, k1, k2, k3, k4, k5, cond_true, cond_false, Bool.not_true]; rfl
      · simp only [g2, n0, n1, n2, nn, bz, h.f, h.s1, h.s2, h.e, h.l, h.g, h.b, h.z, h.c, h.x, h.y, k.f, k.s1, k.s2, k.e, k.l, k.g, k.b, k.z, k.c, k.x, k.y, cond_true, cond_false, Bool.not_true]; rfl⟩

end Go.Proofs

/- The law of Conway, run. -/
namespace Go.Proofs
open Go Go.Ev Go.Num

theorem lcA (r : Mem) (b : ByteArray) (p q : Int) : (lvlT (SC r) tLw .nil 5 1).call 5 [.string b, I p, I q] emptyA fin =
    bif m_szG b then bif m_rdE (ByteArray.mk (Array.mk (m_shL b))) != Int.ofNat 0 then CR.ret (Value.bool true) (AW.mk 0 Tr.nil Tr.nil) else bif decide (Int.ofNat (ByteArray.size (ByteArray.mk (Array.mk (m_shL b)))) > 1994) then CR.ret (Value.bool true) (AW.mk 0 Tr.nil Tr.nil) else bif Nat.ble (Nat.add (List.length (m_shL b)) (List.length [UInt8.ofBitVec 116#8, UInt8.ofBitVec 84#8])) 9223372036854775807 then bif m_rdE (ByteArray.mk (Array.mk (m_shL b ++ [UInt8.ofBitVec 116#8, UInt8.ofBitVec 84#8]))) == Int.ofNat 12 then bif Nat.ble (Nat.add (List.length (m_shL b)) (List.length [UInt8.ofBitVec 84#8, UInt8.ofBitVec 116#8])) 9223372036854775807 then bif m_rdE (ByteArray.mk (Array.mk (m_shL b ++ [UInt8.ofBitVec 84#8, UInt8.ofBitVec 116#8]))) == Int.ofNat 12 then bif Nat.ble (Nat.add (List.length (m_shL b)) (List.length [UInt8.ofBitVec 114#8, UInt8.ofBitVec 114#8])) 9223372036854775807 then bif m_rdE (ByteArray.mk (Array.mk (m_shL b ++ [UInt8.ofBitVec 114#8, UInt8.ofBitVec 114#8]))) == Int.ofNat 12 then bif Nat.ble (Nat.add (List.length (m_shL b)) (List.length [UInt8.ofBitVec 116#8, UInt8.ofBitVec 114#8, UInt8.ofBitVec 116#8, UInt8.ofBitVec 114#8, UInt8.ofBitVec 116#8, UInt8.ofBitVec 114#8])) 9223372036854775807 then bif m_rdE (ByteArray.mk (Array.mk (m_shL b ++ [UInt8.ofBitVec 116#8, UInt8.ofBitVec 114#8, UInt8.ofBitVec 116#8, UInt8.ofBitVec 114#8, UInt8.ofBitVec 116#8, UInt8.ofBitVec 114#8]))) == Int.ofNat 12 then bif m_woE (m_lfP p q) (m_lfQ p q) != Int.ofNat 0 then CR.ret (Value.bool false) (AW.mk 0 Tr.nil Tr.nil) else bif m_rdE (ByteArray.mk (Array.mk (m_woL (m_lfP p q) (m_lfQ p q)))) != Int.ofNat 0 then CR.ret (Value.bool false) (AW.mk 0 Tr.nil Tr.nil) else bif m_unE (ByteArray.mk (Array.mk (m_woL (m_lfP p q) (m_lfQ p q)))) != Int.ofNat 0 then CR.ret (Value.bool false) (AW.mk 0 Tr.nil Tr.nil) else bif m_rdP (ByteArray.mk (Array.mk (m_woL (m_lfP p q) (m_lfQ p q)))) != m_lfP p q then CR.ret (Value.bool false) (AW.mk 0 Tr.nil Tr.nil) else bif m_rdQ (ByteArray.mk (Array.mk (m_woL (m_lfP p q) (m_lfQ p q)))) != m_lfQ p q then CR.ret (Value.bool false) (AW.mk 0 Tr.nil Tr.nil) else bif decide (IntKind.wrap IntKind.i64 (Int.ofNat (ByteArray.size (ByteArray.mk (Array.mk (m_woL (m_lfP p q) (m_lfQ p q))))) + Int.ofNat (ByteArray.size (ByteArray.mk (Array.mk (m_unL (ByteArray.mk (Array.mk (m_woL (m_lfP p q) (m_lfQ p q))))))))) ≤ 2000) then bif Nat.ble (Nat.add (List.length (m_woL (m_lfP p q) (m_lfQ p q))) (List.length (m_unL (ByteArray.mk (Array.mk (m_woL (m_lfP p q) (m_lfQ p q))))))) 9223372036854775807 then bif m_rdE (ByteArray.mk (Array.mk (m_woL (m_lfP p q) (m_lfQ p q) ++ m_unL (ByteArray.mk (Array.mk (m_woL (m_lfP p q) (m_lfQ p q))))))) != Int.ofNat 0 then CR.ret (Value.bool false) (AW.mk 0 Tr.nil Tr.nil) else bif m_rdP (ByteArray.mk (Array.mk (m_woL (m_lfP p q) (m_lfQ p q) ++ m_unL (ByteArray.mk (Array.mk (m_woL (m_lfP p q) (m_lfQ p q))))))) != Int.ofNat 0 then CR.ret (Value.bool false) (AW.mk 0 Tr.nil Tr.nil) else bif m_rdQ (ByteArray.mk (Array.mk (m_woL (m_lfP p q) (m_lfQ p q) ++ m_unL (ByteArray.mk (Array.mk (m_woL (m_lfP p q) (m_lfQ p q))))))) != Int.ofNat 1 then CR.ret (Value.bool false) (AW.mk 0 Tr.nil Tr.nil) else CR.ret (Value.bool true) (AW.mk 0 Tr.nil Tr.nil) else CR.fail 420 else CR.ret (Value.bool true) (AW.mk 0 Tr.nil Tr.nil) else bif m_rdE (ByteArray.mk (Array.mk (m_shL b ++ [UInt8.ofBitVec 116#8, UInt8.ofBitVec 114#8, UInt8.ofBitVec 116#8, UInt8.ofBitVec 114#8, UInt8.ofBitVec 116#8, UInt8.ofBitVec 114#8]))) != Int.ofNat 0 then CR.ret (Value.bool false) (AW.mk 0 Tr.nil Tr.nil) else bif m_rdP (ByteArray.mk (Array.mk (m_shL b ++ [UInt8.ofBitVec 116#8, UInt8.ofBitVec 114#8, UInt8.ofBitVec 116#8, UInt8.ofBitVec 114#8, UInt8.ofBitVec 116#8, UInt8.ofBitVec 114#8]))) != m_rdP (ByteArray.mk (Array.mk (m_shL b))) then CR.ret (Value.bool false) (AW.mk 0 Tr.nil Tr.nil) else bif m_rdQ (ByteArray.mk (Array.mk (m_shL b ++ [UInt8.ofBitVec 116#8, UInt8.ofBitVec 114#8, UInt8.ofBitVec 116#8, UInt8.ofBitVec 114#8, UInt8.ofBitVec 116#8, UInt8.ofBitVec 114#8]))) != m_rdQ (ByteArray.mk (Array.mk (m_shL b))) then CR.ret (Value.bool false) (AW.mk 0 Tr.nil Tr.nil) else bif m_woE (m_lfP p q) (m_lfQ p q) != Int.ofNat 0 then CR.ret (Value.bool false) (AW.mk 0 Tr.nil Tr.nil) else bif m_rdE (ByteArray.mk (Array.mk (m_woL (m_lfP p q) (m_lfQ p q)))) != Int.ofNat 0 then CR.ret (Value.bool false) (AW.mk 0 Tr.nil Tr.nil) else bif m_unE (ByteArray.mk (Array.mk (m_woL (m_lfP p q) (m_lfQ p q)))) != Int.ofNat 0 then CR.ret (Value.bool false) (AW.mk 0 Tr.nil Tr.nil) else bif m_rdP (ByteArray.mk (Array.mk (m_woL (m_lfP p q) (m_lfQ p q)))) != m_lfP p q then CR.ret (Value.bool false) (AW.mk 0 Tr.nil Tr.nil) else bif m_rdQ (ByteArray.mk (Array.mk (m_woL (m_lfP p q) (m_lfQ p q)))) != m_lfQ p q then CR.ret (Value.bool false) (AW.mk 0 Tr.nil Tr.nil) else bif decide (IntKind.wrap IntKind.i64 (Int.ofNat (ByteArray.size (ByteArray.mk (Array.mk (m_woL (m_lfP p q) (m_lfQ p q))))) + Int.ofNat (ByteArray.size (ByteArray.mk (Array.mk (m_unL (ByteArray.mk (Array.mk (m_woL (m_lfP p q) (m_lfQ p q))))))))) ≤ 2000) then bif Nat.ble (Nat.add (List.length (m_woL (m_lfP p q) (m_lfQ p q))) (List.length (m_unL (ByteArray.mk (Array.mk (m_woL (m_lfP p q) (m_lfQ p q))))))) 9223372036854775807 then bif m_rdE (ByteArray.mk (Array.mk (m_woL (m_lfP p q) (m_lfQ p q) ++ m_unL (ByteArray.mk (Array.mk (m_woL (m_lfP p q) (m_lfQ p q))))))) != Int.ofNat 0 then CR.ret (Value.bool false) (AW.mk 0 Tr.nil Tr.nil) else bif m_rdP (ByteArray.mk (Array.mk (m_woL (m_lfP p q) (m_lfQ p q) ++ m_unL (ByteArray.mk (Array.mk (m_woL (m_lfP p q) (m_lfQ p q))))))) != Int.ofNat 0 then CR.ret (Value.bool false) (AW.mk 0 Tr.nil Tr.nil) else bif m_rdQ (ByteArray.mk (Array.mk (m_woL (m_lfP p q) (m_lfQ p q) ++ m_unL (ByteArray.mk (Array.mk (m_woL (m_lfP p q) (m_lfQ p q))))))) != Int.ofNat 1 then CR.ret (Value.bool false) (AW.mk 0 Tr.nil Tr.nil) else CR.ret (Value.bool true) (AW.mk 0 Tr.nil Tr.nil) else CR.fail 420 else CR.ret (Value.bool true) (AW.mk 0 Tr.nil Tr.nil) else CR.fail 420 else bif m_rdE (ByteArray.mk (Array.mk (m_shL b ++ [UInt8.ofBitVec 114#8, UInt8.ofBitVec 114#8]))) != Int.ofNat 0 then CR.ret (Value.bool false) (AW.mk 0 Tr.nil Tr.nil) else bif m_rdP (ByteArray.mk (Array.mk (m_shL b ++ [UInt8.ofBitVec 114#8, UInt8.ofBitVec 114#8]))) != m_rdP (ByteArray.mk (Array.mk (m_shL b))) then CR.ret (Value.bool false) (AW.mk 0 Tr.nil Tr.nil) else bif m_rdQ (ByteArray.mk (Array.mk (m_shL b ++ [UInt8.ofBitVec 114#8, UInt8.ofBitVec 114#8]))) != m_rdQ (ByteArray.mk (Array.mk (m_shL b))) then CR.ret (Value.bool false) (AW.mk 0 Tr.nil Tr.nil) else bif Nat.ble (Nat.add (List.length (m_shL b)) (List.length [UInt8.ofBitVec 116#8, UInt8.ofBitVec 114#8, UInt8.ofBitVec 116#8, UInt8.ofBitVec 114#8, UInt8.ofBitVec 116#8, UInt8.ofBitVec 114#8])) 9223372036854775807 then bif m_rdE (ByteArray.mk (Array.mk (m_shL b ++ [UInt8.ofBitVec 116#8, UInt8.ofBitVec 114#8, UInt8.ofBitVec 116#8, UInt8.ofBitVec 114#8, UInt8.ofBitVec 116#8, UInt8.ofBitVec 114#8]))) == Int.ofNat 12 then bif m_woE (m_lfP p q) (m_lfQ p q) != Int.ofNat 0 then CR.ret (Value.bool false) (AW.mk 0 Tr.nil Tr.nil) else bif m_rdE (ByteArray.mk (Array.mk (m_woL (m_lfP p q) (m_lfQ p q)))) != Int.ofNat 0 then CR.ret (Value.bool false) (AW.mk 0 Tr.nil Tr.nil) else bif m_unE (ByteArray.mk (Array.mk (m_woL (m_lfP p q) (m_lfQ p q)))) != Int.ofNat 0 then CR.ret (Value.bool false) (AW.mk 0 Tr.nil Tr.nil) else bif m_rdP (ByteArray.mk (Array.mk (m_woL (m_lfP p q) (m_lfQ p q)))) != m_lfP p q then CR.ret (Value.bool false) (AW.mk 0 Tr.nil Tr.nil) else bif m_rdQ (ByteArray.mk (Array.mk (m_woL (m_lfP p q) (m_lfQ p q)))) != m_lfQ p q then CR.ret (Value.bool false) (AW.mk 0 Tr.nil Tr.nil) else bif decide (IntKind.wrap IntKind.i64 (Int.ofNat (ByteArray.size (ByteArray.mk (Array.mk (m_woL (m_lfP p q) (m_lfQ p q))))) + Int.ofNat (ByteArray.size (ByteArray.mk (Array.mk (m_unL (ByteArray.mk (Array.mk (m_woL (m_lfP p q) (m_lfQ p q))))))))) ≤ 2000) then bif Nat.ble (Nat.add (List.length (m_woL (m_lfP p q) (m_lfQ p q))) (List.length (m_unL (ByteArray.mk (Array.mk (m_woL (m_lfP p q) (m_lfQ p q))))))) 9223372036854775807 then bif m_rdE (ByteArray.mk (Array.mk (m_woL (m_lfP p q) (m_lfQ p q) ++ m_unL (ByteArray.mk (Array.mk (m_woL (m_lfP p q) (m_lfQ p q))))))) != Int.ofNat 0 then CR.ret (Value.bool false) (AW.mk 0 Tr.nil Tr.nil) else bif m_rdP (ByteArray.mk (Array.mk (m_woL (m_lfP p q) (m_lfQ p q) ++ m_unL (ByteArray.mk (Array.mk (m_woL (m_lfP p q) (m_lfQ p q))))))) != Int.ofNat 0 then CR.ret (Value.bool false) (AW.mk 0 Tr.nil Tr.nil) else bif m_rdQ (ByteArray.mk (Array.mk (m_woL (m_lfP p q) (m_lfQ p q) ++ m_unL (ByteArray.mk (Array.mk (m_woL (m_lfP p q) (m_lfQ p q))))))) != Int.ofNat 1 then CR.ret (Value.bool false) (AW.mk 0 Tr.nil Tr.nil) else CR.ret (Value.bool true) (AW.mk 0 Tr.nil Tr.nil) else CR.fail 420 else CR.ret (Value.bool true) (AW.mk 0 Tr.nil Tr.nil) else bif m_rdE (ByteArray.mk (Array.mk (m_shL b ++ [UInt8.ofBitVec 116#8, UInt8.ofBitVec 114#8, UInt8.ofBitVec 116#8, UInt8.ofBitVec 114#8, UInt8.ofBitVec 116#8, UInt8.ofBitVec 114#8]))) != Int.ofNat 0 then CR.ret (Value.bool false) (AW.mk 0 Tr.nil Tr.nil) else bif m_rdP (ByteArray.mk (Array.mk (m_shL b ++ [UInt8.ofBitVec 116#8, UInt8.ofBitVec 114#8, UInt8.ofBitVec 116#8, UInt8.ofBitVec 114#8, UInt8.ofBitVec 116#8, UInt8.ofBitVec 114#8]))) != m_rdP (ByteArray.mk (Array.mk (m_shL b))) then CR.ret (Value.bool false) (AW.mk 0 Tr.nil Tr.nil) else bif m_rdQ (ByteArray.mk (Array.mk (m_shL b ++ [UInt8.ofBitVec 116#8, UInt8.ofBitVec 114#8, UInt8.ofBitVec 116#8, UInt8.ofBitVec 114#8, UInt8.ofBitVec 116#8, UInt8.ofBitVec 114#8]))) != m_rdQ (ByteArray.mk (Array.mk (m_shL b))) then CR.ret (Value.bool false) (AW.mk 0 Tr.nil Tr.nil) else bif m_woE (m_lfP p q) (m_lfQ p q) != Int.ofNat 0 then CR.ret (Value.bool false) (AW.mk 0 Tr.nil Tr.nil) else bif m_rdE (ByteArray.mk (Array.mk (m_woL (m_lfP p q) (m_lfQ p q)))) != Int.ofNat 0 then CR.ret (Value.bool false) (AW.mk 0 Tr.nil Tr.nil) else bif m_unE (ByteArray.mk (Array.mk (m_woL (m_lfP p q) (m_lfQ p q)))) != Int.ofNat 0 then CR.ret (Value.bool false) (AW.mk 0 Tr.nil Tr.nil) else bif m_rdP (ByteArray.mk (Array.mk (m_woL (m_lfP p q) (m_lfQ p q)))) != m_lfP p q then CR.ret (Value.bool false) (AW.mk 0 Tr.nil Tr.nil) else bif m_rdQ (ByteArray.mk (Array.mk (m_woL (m_lfP p q) (m_lfQ p q)))) != m_lfQ p q then CR.ret (Value.bool false) (AW.mk 0 Tr.nil Tr.nil) else bif decide (IntKind.wrap IntKind.i64 (Int.ofNat (ByteArray.size (ByteArray.mk (Array.mk (m_woL (m_lfP p q) (m_lfQ p q))))) + Int.ofNat (ByteArray.size (ByteArray.mk (Array.mk (m_unL (ByteArray.mk (Array.mk (m_woL (m_lfP p q) (m_lfQ p q))))))))) ≤ 2000) then bif Nat.ble (Nat.add (List.length (m_woL (m_lfP p q) (m_lfQ p q))) (List.length (m_unL (ByteArray.mk (Array.mk (m_woL (m_lfP p q) (m_lfQ p q))))))) 9223372036854775807 then bif m_rdE (ByteArray.mk (Array.mk (m_woL (m_lfP p q) (m_lfQ p q) ++ m_unL (ByteArray.mk (Array.mk (m_woL (m_lfP p q) (m_lfQ p q))))))) != Int.ofNat 0 then CR.ret (Value.bool false) (AW.mk 0 Tr.nil Tr.nil) else bif m_rdP (ByteArray.mk (Array.mk (m_woL (m_lfP p q) (m_lfQ p q) ++ m_unL (ByteArray.mk (Array.mk (m_woL (m_lfP p q) (m_lfQ p q))))))) != Int.ofNat 0 then CR.ret (Value.bool false) (AW.mk 0 Tr.nil Tr.nil) else bif m_rdQ (ByteArray.mk (Array.mk (m_woL (m_lfP p q) (m_lfQ p q) ++ m_unL (ByteArray.mk (Array.mk (m_woL (m_lfP p q) (m_lfQ p q))))))) != Int.ofNat 1 then CR.ret (Value.bool false) (AW.mk 0 Tr.nil Tr.nil) else CR.ret (Value.bool true) (AW.mk 0 Tr.nil Tr.nil) else CR.fail 420 else CR.ret (Value.bool true) (AW.mk 0 Tr.nil Tr.nil) else CR.fail 420 else CR.fail 420 else bif m_rdE (ByteArray.mk (Array.mk (m_shL b ++ [UInt8.ofBitVec 84#8, UInt8.ofBitVec 116#8]))) != Int.ofNat 0 then CR.ret (Value.bool false) (AW.mk 0 Tr.nil Tr.nil) else bif m_rdP (ByteArray.mk (Array.mk (m_shL b ++ [UInt8.ofBitVec 84#8, UInt8.ofBitVec 116#8]))) != m_rdP (ByteArray.mk (Array.mk (m_shL b))) then CR.ret (Value.bool false) (AW.mk 0 Tr.nil Tr.nil) else bif m_rdQ (ByteArray.mk (Array.mk (m_shL b ++ [UInt8.ofBitVec 84#8, UInt8.ofBitVec 116#8]))) != m_rdQ (ByteArray.mk (Array.mk (m_shL b))) then CR.ret (Value.bool false) (AW.mk 0 Tr.nil Tr.nil) else bif Nat.ble (Nat.add (List.length (m_shL b)) (List.length [UInt8.ofBitVec 114#8, UInt8.ofBitVec 114#8])) 9223372036854775807 then bif m_rdE (ByteArray.mk (Array.mk (m_shL b ++ [UInt8.ofBitVec 114#8, UInt8.ofBitVec 114#8]))) == Int.ofNat 12 then bif Nat.ble (Nat.add (List.length (m_shL b)) (List.length [UInt8.ofBitVec 116#8, UInt8.ofBitVec 114#8, UInt8.ofBitVec 116#8, UInt8.ofBitVec 114#8, UInt8.ofBitVec 116#8, UInt8.ofBitVec 114#8])) 9223372036854775807 then bif m_rdE (ByteArray.mk (Array.mk (m_shL b ++ [UInt8.ofBitVec 116#8, UInt8.ofBitVec 114#8, UInt8.ofBitVec 116#8, UInt8.ofBitVec 114#8, UInt8.ofBitVec 116#8, UInt8.ofBitVec 114#8]))) == Int.ofNat 12 then bif m_woE (m_lfP p q) (m_lfQ p q) != Int.ofNat 0 then CR.ret (Value.bool false) (AW.mk 0 Tr.nil Tr.nil) else bif m_rdE (ByteArray.mk (Array.mk (m_woL (m_lfP p q) (m_lfQ p q)))) != Int.ofNat 0 then CR.ret (Value.bool false) (AW.mk 0 Tr.nil Tr.nil) else bif m_unE (ByteArray.mk (Array.mk (m_woL (m_lfP p q) (m_lfQ p q)))) != Int.ofNat 0 then CR.ret (Value.bool false) (AW.mk 0 Tr.nil Tr.nil) else bif m_rdP (ByteArray.mk (Array.mk (m_woL (m_lfP p q) (m_lfQ p q)))) != m_lfP p q then CR.ret (Value.bool false) (AW.mk 0 Tr.nil Tr.nil) else bif m_rdQ (ByteArray.mk (Array.mk (m_woL (m_lfP p q) (m_lfQ p q)))) != m_lfQ p q then CR.ret (Value.bool false) (AW.mk 0 Tr.nil Tr.nil) else bif decide (IntKind.wrap IntKind.i64 (Int.ofNat (ByteArray.size (ByteArray.mk (Array.mk (m_woL (m_lfP p q) (m_lfQ p q))))) + Int.ofNat (ByteArray.size (ByteArray.mk (Array.mk (m_unL (ByteArray.mk (Array.mk (m_woL (m_lfP p q) (m_lfQ p q))))))))) ≤ 2000) then bif Nat.ble (Nat.add (List.length (m_woL (m_lfP p q) (m_lfQ p q))) (List.length (m_unL (ByteArray.mk (Array.mk (m_woL (m_lfP p q) (m_lfQ p q))))))) 9223372036854775807 then bif m_rdE (ByteArray.mk (Array.mk (m_woL (m_lfP p q) (m_lfQ p q) ++ m_unL (ByteArray.mk (Array.mk (m_woL (m_lfP p q) (m_lfQ p q))))))) != Int.ofNat 0 then CR.ret (Value.bool false) (AW.mk 0 Tr.nil Tr.nil) else bif m_rdP (ByteArray.mk (Array.mk (m_woL (m_lfP p q) (m_lfQ p q) ++ m_unL (ByteArray.mk (Array.mk (m_woL (m_lfP p q) (m_lfQ p q))))))) != Int.ofNat 0 then CR.ret (Value.bool false) (AW.mk 0 Tr.nil Tr.nil) else bif m_rdQ (ByteArray.mk (Array.mk (m_woL (m_lfP p q) (m_lfQ p q) ++ m_unL (ByteArray.mk (Array.mk (m_woL (m_lfP p q) (m_lfQ p q))))))) != Int.ofNat 1 then CR.ret (Value.bool false) (AW.mk 0 Tr.nil Tr.nil) else CR.ret (Value.bool true) (AW.mk 0 Tr.nil Tr.nil) else CR.fail 420 else CR.ret (Value.bool true) (AW.mk 0 Tr.nil Tr.nil) else bif m_rdE (ByteArray.mk (Array.mk (m_shL b ++ [UInt8.ofBitVec 116#8, UInt8.ofBitVec 114#8, UInt8.ofBitVec 116#8, UInt8.ofBitVec 114#8, UInt8.ofBitVec 116#8, UInt8.ofBitVec 114#8]))) != Int.ofNat 0 then CR.ret (Value.bool false) (AW.mk 0 Tr.nil Tr.nil) else bif m_rdP (ByteArray.mk (Array.mk (m_shL b ++ [UInt8.ofBitVec 116#8, UInt8.ofBitVec 114#8, UInt8.ofBitVec 116#8, UInt8.ofBitVec 114#8, UInt8.ofBitVec 116#8, UInt8.ofBitVec 114#8]))) != m_rdP (ByteArray.mk (Array.mk (m_shL b))) then CR.ret (Value.bool false) (AW.mk 0 Tr.nil Tr.nil) else bif m_rdQ (ByteArray.mk (Array.mk (m_shL b ++ [UInt8.ofBitVec 116#8, UInt8.ofBitVec 114#8, UInt8.ofBitVec 116#8, UInt8.ofBitVec 114#8, UInt8.ofBitVec 116#8, UInt8.ofBitVec 114#8]))) != m_rdQ (ByteArray.mk (Array.mk (m_shL b))) then CR.ret (Value.bool false) (AW.mk 0 Tr.nil Tr.nil) else bif m_woE (m_lfP p q) (m_lfQ p q) != Int.ofNat 0 then CR.ret (Value.bool false) (AW.mk 0 Tr.nil Tr.nil) else bif m_rdE (ByteArray.mk (Array.mk (m_woL (m_lfP p q) (m_lfQ p q)))) != Int.ofNat 0 then CR.ret (Value.bool false) (AW.mk 0 Tr.nil Tr.nil) else bif m_unE (ByteArray.mk (Array.mk (m_woL (m_lfP p q) (m_lfQ p q)))) != Int.ofNat 0 then CR.ret (Value.bool false) (AW.mk 0 Tr.nil Tr.nil) else bif m_rdP (ByteArray.mk (Array.mk (m_woL (m_lfP p q) (m_lfQ p q)))) != m_lfP p q then CR.ret (Value.bool false) (AW.mk 0 Tr.nil Tr.nil) else bif m_rdQ (ByteArray.mk (Array.mk (m_woL (m_lfP p q) (m_lfQ p q)))) != m_lfQ p q then CR.ret (Value.bool false) (AW.mk 0 Tr.nil Tr.nil) else bif decide (IntKind.wrap IntKind.i64 (Int.ofNat (ByteArray.size (ByteArray.mk (Array.mk (m_woL (m_lfP p q) (m_lfQ p q))))) + Int.ofNat (ByteArray.size (ByteArray.mk (Array.mk (m_unL (ByteArray.mk (Array.mk (m_woL (m_lfP p q) (m_lfQ p q))))))))) ≤ 2000) then bif Nat.ble (Nat.add (List.length (m_woL (m_lfP p q) (m_lfQ p q))) (List.length (m_unL (ByteArray.mk (Array.mk (m_woL (m_lfP p q) (m_lfQ p q))))))) 9223372036854775807 then bif m_rdE (ByteArray.mk (Array.mk (m_woL (m_lfP p q) (m_lfQ p q) ++ m_unL (ByteArray.mk (Array.mk (m_woL (m_lfP p q) (m_lfQ p q))))))) != Int.ofNat 0 then CR.ret (Value.bool false) (AW.mk 0 Tr.nil Tr.nil) else bif m_rdP (ByteArray.mk (Array.mk (m_woL (m_lfP p q) (m_lfQ p q) ++ m_unL (ByteArray.mk (Array.mk (m_woL (m_lfP p q) (m_lfQ p q))))))) != Int.ofNat 0 then CR.ret (Value.bool false) (AW.mk 0 Tr.nil Tr.nil) else bif m_rdQ (ByteArray.mk (Array.mk (m_woL (m_lfP p q) (m_lfQ p q) ++ m_unL (ByteArray.mk (Array.mk (m_woL (m_lfP p q) (m_lfQ p q))))))) != Int.ofNat 1 then CR.ret (Value.bool false) (AW.mk 0 Tr.nil Tr.nil) else CR.ret (Value.bool true) (AW.mk 0 Tr.nil Tr.nil) else CR.fail 420 else CR.ret (Value.bool true) (AW.mk 0 Tr.nil Tr.nil) else CR.fail 420 else bif m_rdE (ByteArray.mk (Array.mk (m_shL b ++ [UInt8.ofBitVec 114#8, UInt8.ofBitVec 114#8]))) != Int.ofNat 0 then CR.ret (Value.bool false) (AW.mk 0 Tr.nil Tr.nil) else bif m_rdP (ByteArray.mk (Array.mk (m_shL b ++ [UInt8.ofBitVec 114#8, UInt8.ofBitVec 114#8]))) != m_rdP (ByteArray.mk (Array.mk (m_shL b))) then CR.ret (Value.bool false) (AW.mk 0 Tr.nil Tr.nil) else bif m_rdQ (ByteArray.mk (Array.mk (m_shL b ++ [UInt8.ofBitVec 114#8, UInt8.ofBitVec 114#8]))) != m_rdQ (ByteArray.mk (Array.mk (m_shL b))) then CR.ret (Value.bool false) (AW.mk 0 Tr.nil Tr.nil) else bif Nat.ble (Nat.add (List.length (m_shL b)) (List.length [UInt8.ofBitVec 116#8, UInt8.ofBitVec 114#8, UInt8.ofBitVec 116#8, UInt8.ofBitVec 114#8, UInt8.ofBitVec 116#8, UInt8.ofBitVec 114#8])) 9223372036854775807 then bif m_rdE (ByteArray.mk (Array.mk (m_shL b ++ [UInt8.ofBitVec 116#8, UInt8.ofBitVec 114#8, UInt8.ofBitVec 116#8, UInt8.ofBitVec 114#8, UInt8.ofBitVec 116#8, UInt8.ofBitVec 114#8]))) == Int.ofNat 12 then bif m_woE (m_lfP p q) (m_lfQ p q) != Int.ofNat 0 then CR.ret (Value.bool false) (AW.mk 0 Tr.nil Tr.nil) else bif m_rdE (ByteArray.mk (Array.mk (m_woL (m_lfP p q) (m_lfQ p q)))) != Int.ofNat 0 then CR.ret (Value.bool false) (AW.mk 0 Tr.nil Tr.nil) else bif m_unE (ByteArray.mk (Array.mk (m_woL (m_lfP p q) (m_lfQ p q)))) != Int.ofNat 0 then CR.ret (Value.bool false) (AW.mk 0 Tr.nil Tr.nil) else bif m_rdP (ByteArray.mk (Array.mk (m_woL (m_lfP p q) (m_lfQ p q)))) != m_lfP p q then CR.ret (Value.bool false) (AW.mk 0 Tr.nil Tr.nil) else bif m_rdQ (ByteArray.mk (Array.mk (m_woL (m_lfP p q) (m_lfQ p q)))) != m_lfQ p q then CR.ret (Value.bool false) (AW.mk 0 Tr.nil Tr.nil) else bif decide (IntKind.wrap IntKind.i64 (Int.ofNat (ByteArray.size (ByteArray.mk (Array.mk (m_woL (m_lfP p q) (m_lfQ p q))))) + Int.ofNat (ByteArray.size (ByteArray.mk (Array.mk (m_unL (ByteArray.mk (Array.mk (m_woL (m_lfP p q) (m_lfQ p q))))))))) ≤ 2000) then bif Nat.ble (Nat.add (List.length (m_woL (m_lfP p q) (m_lfQ p q))) (List.length (m_unL (ByteArray.mk (Array.mk (m_woL (m_lfP p q) (m_lfQ p q))))))) 9223372036854775807 then bif m_rdE (ByteArray.mk (Array.mk (m_woL (m_lfP p q) (m_lfQ p q) ++ m_unL (ByteArray.mk (Array.mk (m_woL (m_lfP p q) (m_lfQ p q))))))) != Int.ofNat 0 then CR.ret (Value.bool false) (AW.mk 0 Tr.nil Tr.nil) else bif m_rdP (ByteArray.mk (Array.mk (m_woL (m_lfP p q) (m_lfQ p q) ++ m_unL (ByteArray.mk (Array.mk (m_woL (m_lfP p q) (m_lfQ p q))))))) != Int.ofNat 0 then CR.ret (Value.bool false) (AW.mk 0 Tr.nil Tr.nil) else bif m_rdQ (ByteArray.mk (Array.mk (m_woL (m_lfP p q) (m_lfQ p q) ++ m_unL (ByteArray.mk (Array.mk (m_woL (m_lfP p q) (m_lfQ p q))))))) != Int.ofNat 1 then CR.ret (Value.bool false) (AW.mk 0 Tr.nil Tr.nil) else CR.ret (Value.bool true) (AW.mk 0 Tr.nil Tr.nil) else CR.fail 420 else CR.ret (Value.bool true) (AW.mk 0 Tr.nil Tr.nil) else bif m_rdE (ByteArray.mk (Array.mk (m_shL b ++ [UInt8.ofBitVec 116#8, UInt8.ofBitVec 114#8, UInt8.ofBitVec 116#8, UInt8.ofBitVec 114#8, UInt8.ofBitVec 116#8, UInt8.ofBitVec 114#8]))) != Int.ofNat 0 then CR.ret (Value.bool false) (AW.mk 0 Tr.nil Tr.nil) else bif m_rdP (ByteArray.mk (Array.mk (m_shL b ++ [UInt8.ofBitVec 116#8, UInt8.ofBitVec 114#8, UInt8.ofBitVec 116#8, UInt8.ofBitVec 114#8, UInt8.ofBitVec 116#8, UInt8.ofBitVec 114#8]))) != m_rdP (ByteArray.mk (Array.mk (m_shL b))) then CR.ret (Value.bool false) (AW.mk 0 Tr.nil Tr.nil) else bif m_rdQ (ByteArray.mk (Array.mk (m_shL b ++ [UInt8.ofBitVec 116#8, UInt8.ofBitVec 114#8, UInt8.ofBitVec 116#8, UInt8.ofBitVec 114#8, UInt8.ofBitVec 116#8, UInt8.ofBitVec 114#8]))) != m_rdQ (ByteArray.mk (Array.mk (m_shL b))) then CR.ret (Value.bool false) (AW.mk 0 Tr.nil Tr.nil) else bif m_woE (m_lfP p q) (m_lfQ p q) != Int.ofNat 0 then CR.ret (Value.bool false) (AW.mk 0 Tr.nil Tr.nil) else bif m_rdE (ByteArray.mk (Array.mk (m_woL (m_lfP p q) (m_lfQ p q)))) != Int.ofNat 0 then CR.ret (Value.bool false) (AW.mk 0 Tr.nil Tr.nil) else bif m_unE (ByteArray.mk (Array.mk (m_woL (m_lfP p q) (m_lfQ p q)))) != Int.ofNat 0 then CR.ret (Value.bool false) (AW.mk 0 Tr.nil Tr.nil) else bif m_rdP (ByteArray.mk (Array.mk (m_woL (m_lfP p q) (m_lfQ p q)))) != m_lfP p q then CR.ret (Value.bool false) (AW.mk 0 Tr.nil Tr.nil) else bif m_rdQ (ByteArray.mk (Array.mk (m_woL (m_lfP p q) (m_lfQ p q)))) != m_lfQ p q then CR.ret (Value.bool false) (AW.mk 0 Tr.nil Tr.nil) else bif decide (IntKind.wrap IntKind.i64 (Int.ofNat (ByteArray.size (ByteArray.mk (Array.mk (m_woL (m_lfP p q) (m_lfQ p q))))) + Int.ofNat (ByteArray.size (ByteArray.mk (Array.mk (m_unL (ByteArray.mk (Array.mk (m_woL (m_lfP p q) (m_lfQ p q))))))))) ≤ 2000) then bif Nat.ble (Nat.add (List.length (m_woL (m_lfP p q) (m_lfQ p q))) (List.length (m_unL (ByteArray.mk (Array.mk (m_woL (m_lfP p q) (m_lfQ p q))))))) 9223372036854775807 then bif m_rdE (ByteArray.mk (Array.mk (m_woL (m_lfP p q) (m_lfQ p q) ++ m_unL (ByteArray.mk (Array.mk (m_woL (m_lfP p q) (m_lfQ p q))))))) != Int.ofNat 0 then CR.ret (Value.bool false) (AW.mk 0 Tr.nil Tr.nil) else bif m_rdP (ByteArray.mk (Array.mk (m_woL (m_lfP p q) (m_lfQ p q) ++ m_unL (ByteArray.mk (Array.mk (m_woL (m_lfP p q) (m_lfQ p q))))))) != Int.ofNat 0 then CR.ret (Value.bool false) (AW.mk 0 Tr.nil Tr.nil) else bif m_rdQ (ByteArray.mk (Array.mk (m_woL (m_lfP p q) (m_lfQ p q) ++ m_unL (ByteArray.mk (Array.mk (m_woL (m_lfP p q) (m_lfQ p q))))))) != Int.ofNat 1 then CR.ret (Value.bool false) (AW.mk 0 Tr.nil Tr.nil) else CR.ret (Value.bool true) (AW.mk 0 Tr.nil Tr.nil) else CR.fail 420 else CR.ret (Value.bool true) (AW.mk 0 Tr.nil Tr.nil) else CR.fail 420 else CR.fail 420 else CR.fail 420 else bif m_rdE (ByteArray.mk (Array.mk (m_shL b ++ [UInt8.ofBitVec 116#8, UInt8.ofBitVec 84#8]))) != Int.ofNat 0 then CR.ret (Value.bool false) (AW.mk 0 Tr.nil Tr.nil) else bif m_rdP (ByteArray.mk (Array.mk (m_shL b ++ [UInt8.ofBitVec 116#8, UInt8.ofBitVec 84#8]))) != m_rdP (ByteArray.mk (Array.mk (m_shL b))) then CR.ret (Value.bool false) (AW.mk 0 Tr.nil Tr.nil) else bif m_rdQ (ByteArray.mk (Array.mk (m_shL b ++ [UInt8.ofBitVec 116#8, UInt8.ofBitVec 84#8]))) != m_rdQ (ByteArray.mk (Array.mk (m_shL b))) then CR.ret (Value.bool false) (AW.mk 0 Tr.nil Tr.nil) else bif Nat.ble (Nat.add (List.length (m_shL b)) (List.length [UInt8.ofBitVec 84#8, UInt8.ofBitVec 116#8])) 9223372036854775807 then bif m_rdE (ByteArray.mk (Array.mk (m_shL b ++ [UInt8.ofBitVec 84#8, UInt8.ofBitVec 116#8]))) == Int.ofNat 12 then bif Nat.ble (Nat.add (List.length (m_shL b)) (List.length [UInt8.ofBitVec 114#8, UInt8.ofBitVec 114#8])) 9223372036854775807 then bif m_rdE (ByteArray.mk (Array.mk (m_shL b ++ [UInt8.ofBitVec 114#8, UInt8.ofBitVec 114#8]))) == Int.ofNat 12 then bif Nat.ble (Nat.add (List.length (m_shL b)) (List.length [UInt8.ofBitVec 116#8, UInt8.ofBitVec 114#8, UInt8.ofBitVec 116#8, UInt8.ofBitVec 114#8, UInt8.ofBitVec 116#8, UInt8.ofBitVec 114#8])) 9223372036854775807 then bif m_rdE (ByteArray.mk (Array.mk (m_shL b ++ [UInt8.ofBitVec 116#8, UInt8.ofBitVec 114#8, UInt8.ofBitVec 116#8, UInt8.ofBitVec 114#8, UInt8.ofBitVec 116#8, UInt8.ofBitVec 114#8]))) == Int.ofNat 12 then bif m_woE (m_lfP p q) (m_lfQ p q) != Int.ofNat 0 then CR.ret (Value.bool false) (AW.mk 0 Tr.nil Tr.nil) else bif m_rdE (ByteArray.mk (Array.mk (m_woL (m_lfP p q) (m_lfQ p q)))) != Int.ofNat 0 then CR.ret (Value.bool false) (AW.mk 0 Tr.nil Tr.nil) else bif m_unE (ByteArray.mk (Array.mk (m_woL (m_lfP p q) (m_lfQ p q)))) != Int.ofNat 0 then CR.ret (Value.bool false) (AW.mk 0 Tr.nil Tr.nil) else bif m_rdP (ByteArray.mk (Array.mk (m_woL (m_lfP p q) (m_lfQ p q)))) != m_lfP p q then CR.ret (Value.bool false) (AW.mk 0 Tr.nil Tr.nil) else bif m_rdQ (ByteArray.mk (Array.mk (m_woL (m_lfP p q) (m_lfQ p q)))) != m_lfQ p q then CR.ret (Value.bool false) (AW.mk 0 Tr.nil Tr.nil) else bif decide (IntKind.wrap IntKind.i64 (Int.ofNat (ByteArray.size (ByteArray.mk (Array.mk (m_woL (m_lfP p q) (m_lfQ p q))))) + Int.ofNat (ByteArray.size (ByteArray.mk (Array.mk (m_unL (ByteArray.mk (Array.mk (m_woL (m_lfP p q) (m_lfQ p q))))))))) ≤ 2000) then bif Nat.ble (Nat.add (List.length (m_woL (m_lfP p q) (m_lfQ p q))) (List.length (m_unL (ByteArray.mk (Array.mk (m_woL (m_lfP p q) (m_lfQ p q))))))) 9223372036854775807 then bif m_rdE (ByteArray.mk (Array.mk (m_woL (m_lfP p q) (m_lfQ p q) ++ m_unL (ByteArray.mk (Array.mk (m_woL (m_lfP p q) (m_lfQ p q))))))) != Int.ofNat 0 then CR.ret (Value.bool false) (AW.mk 0 Tr.nil Tr.nil) else bif m_rdP (ByteArray.mk (Array.mk (m_woL (m_lfP p q) (m_lfQ p q) ++ m_unL (ByteArray.mk (Array.mk (m_woL (m_lfP p q) (m_lfQ p q))))))) != Int.ofNat 0 then CR.ret (Value.bool false) (AW.mk 0 Tr.nil Tr.nil) else bif m_rdQ (ByteArray.mk (Array.mk (m_woL (m_lfP p q) (m_lfQ p q) ++ m_unL (ByteArray.mk (Array.mk (m_woL (m_lfP p q) (m_lfQ p q))))))) != Int.ofNat 1 then CR.ret (Value.bool false) (AW.mk 0 Tr.nil Tr.nil) else CR.ret (Value.bool true) (AW.mk 0 Tr.nil Tr.nil) else CR.fail 420 else CR.ret (Value.bool true) (AW.mk 0 Tr.nil Tr.nil) else bif m_rdE (ByteArray.mk (Array.mk (m_shL b ++ [UInt8.ofBitVec 116#8, UInt8.ofBitVec 114#8, UInt8.ofBitVec 116#8, UInt8.ofBitVec 114#8, UInt8.ofBitVec 116#8, UInt8.ofBitVec 114#8]))) != Int.ofNat 0 then CR.ret (Value.bool false) (AW.mk 0 Tr.nil Tr.nil) else bif m_rdP (ByteArray.mk (Array.mk (m_shL b ++ [UInt8.ofBitVec 116#8, UInt8.ofBitVec 114#8, UInt8.ofBitVec 116#8, UInt8.ofBitVec 114#8, UInt8.ofBitVec 116#8, UInt8.ofBitVec 114#8]))) != m_rdP (ByteArray.mk (Array.mk (m_shL b))) then CR.ret (Value.bool false) (AW.mk 0 Tr.nil Tr.nil) else bif m_rdQ (ByteArray.mk (Array.mk (m_shL b ++ [UInt8.ofBitVec 116#8, UInt8.ofBitVec 114#8, UInt8.ofBitVec 116#8, UInt8.ofBitVec 114#8, UInt8.ofBitVec 116#8, UInt8.ofBitVec 114#8]))) != m_rdQ (ByteArray.mk (Array.mk (m_shL b))) then CR.ret (Value.bool false) (AW.mk 0 Tr.nil Tr.nil) else bif m_woE (m_lfP p q) (m_lfQ p q) != Int.ofNat 0 then CR.ret (Value.bool false) (AW.mk 0 Tr.nil Tr.nil) else bif m_rdE (ByteArray.mk (Array.mk (m_woL (m_lfP p q) (m_lfQ p q)))) != Int.ofNat 0 then CR.ret (Value.bool false) (AW.mk 0 Tr.nil Tr.nil) else bif m_unE (ByteArray.mk (Array.mk (m_woL (m_lfP p q) (m_lfQ p q)))) != Int.ofNat 0 then CR.ret (Value.bool false) (AW.mk 0 Tr.nil Tr.nil) else bif m_rdP (ByteArray.mk (Array.mk (m_woL (m_lfP p q) (m_lfQ p q)))) != m_lfP p q then CR.ret (Value.bool false) (AW.mk 0 Tr.nil Tr.nil) else bif m_rdQ (ByteArray.mk (Array.mk (m_woL (m_lfP p q) (m_lfQ p q)))) != m_lfQ p q then CR.ret (Value.bool false) (AW.mk 0 Tr.nil Tr.nil) else bif decide (IntKind.wrap IntKind.i64 (Int.ofNat (ByteArray.size (ByteArray.mk (Array.mk (m_woL (m_lfP p q) (m_lfQ p q))))) + Int.ofNat (ByteArray.size (ByteArray.mk (Array.mk (m_unL (ByteArray.mk (Array.mk (m_woL (m_lfP p q) (m_lfQ p q))))))))) ≤ 2000) then bif Nat.ble (Nat.add (List.length (m_woL (m_lfP p q) (m_lfQ p q))) (List.length (m_unL (ByteArray.mk (Array.mk (m_woL (m_lfP p q) (m_lfQ p q))))))) 9223372036854775807 then bif m_rdE (ByteArray.mk (Array.mk (m_woL (m_lfP p q) (m_lfQ p q) ++ m_unL (ByteArray.mk (Array.mk (m_woL (m_lfP p q) (m_lfQ p q))))))) != Int.ofNat 0 then CR.ret (Value.bool false) (AW.mk 0 Tr.nil Tr.nil) else bif m_rdP (ByteArray.mk (Array.mk (m_woL (m_lfP p q) (m_lfQ p q) ++ m_unL (ByteArray.mk (Array.mk (m_woL (m_lfP p q) (m_lfQ p q))))))) != Int.ofNat 0 then CR.ret (Value.bool false) (AW.mk 0 Tr.nil Tr.nil) else bif m_rdQ (ByteArray.mk (Array.mk (m_woL (m_lfP p q) (m_lfQ p q) ++ m_unL (ByteArray.mk (Array.mk (m_woL (m_lfP p q) (m_lfQ p q))))))) != Int.ofNat 1 then CR.ret (Value.bool false) (AW.mk 0 Tr.nil Tr.nil) else CR.ret (Value.bool true) (AW.mk 0 Tr.nil Tr.nil) else CR.fail 420 else CR.ret (Value.bool true) (AW.mk 0 Tr.nil Tr.nil) else CR.fail 420 else bif m_rdE (ByteArray.mk (Array.mk (m_shL b ++ [UInt8.ofBitVec 114#8, UInt8.ofBitVec 114#8]))) != Int.ofNat 0 then CR.ret (Value.bool false) (AW.mk 0 Tr.nil Tr.nil) else bif m_rdP (ByteArray.mk (Array.mk (m_shL b ++ [UInt8.ofBitVec 114#8, UInt8.ofBitVec 114#8]))) != m_rdP (ByteArray.mk (Array.mk (m_shL b))) then CR.ret (Value.bool false) (AW.mk 0 Tr.nil Tr.nil) else bif m_rdQ (ByteArray.mk (Array.mk (m_shL b ++ [UInt8.ofBitVec 114#8, UInt8.ofBitVec 114#8]))) != m_rdQ (ByteArray.mk (Array.mk (m_shL b))) then CR.ret (Value.bool false) (AW.mk 0 Tr.nil Tr.nil) else bif Nat.ble (Nat.add (List.length (m_shL b)) (List.length [UInt8.ofBitVec 116#8, UInt8.ofBitVec 114#8, UInt8.ofBitVec 116#8, UInt8.ofBitVec 114#8, UInt8.ofBitVec 116#8, UInt8.ofBitVec 114#8])) 9223372036854775807 then bif m_rdE (ByteArray.mk (Array.mk (m_shL b ++ [UInt8.ofBitVec 116#8, UInt8.ofBitVec 114#8, UInt8.ofBitVec 116#8, UInt8.ofBitVec 114#8, UInt8.ofBitVec 116#8, UInt8.ofBitVec 114#8]))) == Int.ofNat 12 then bif m_woE (m_lfP p q) (m_lfQ p q) != Int.ofNat 0 then CR.ret (Value.bool false) (AW.mk 0 Tr.nil Tr.nil) else bif m_rdE (ByteArray.mk (Array.mk (m_woL (m_lfP p q) (m_lfQ p q)))) != Int.ofNat 0 then CR.ret (Value.bool false) (AW.mk 0 Tr.nil Tr.nil) else bif m_unE (ByteArray.mk (Array.mk (m_woL (m_lfP p q) (m_lfQ p q)))) != Int.ofNat 0 then CR.ret (Value.bool false) (AW.mk 0 Tr.nil Tr.nil) else bif m_rdP (ByteArray.mk (Array.mk (m_woL (m_lfP p q) (m_lfQ p q)))) != m_lfP p q then CR.ret (Value.bool false) (AW.mk 0 Tr.nil Tr.nil) else bif m_rdQ (ByteArray.mk (Array.mk (m_woL (m_lfP p q) (m_lfQ p q)))) != m_lfQ p q then CR.ret (Value.bool false) (AW.mk 0 Tr.nil Tr.nil) else bif decide (IntKind.wrap IntKind.i64 (Int.ofNat (ByteArray.size (ByteArray.mk (Array.mk (m_woL (m_lfP p q) (m_lfQ p q))))) + Int.ofNat (ByteArray.size (ByteArray.mk (Array.mk (m_unL (ByteArray.mk (Array.mk (m_woL (m_lfP p q) (m_lfQ p q))))))))) ≤ 2000) then bif Nat.ble (Nat.add (List.length (m_woL (m_lfP p q) (m_lfQ p q))) (List.length (m_unL (ByteArray.mk (Array.mk (m_woL (m_lfP p q) (m_lfQ p q))))))) 9223372036854775807 then bif m_rdE (ByteArray.mk (Array.mk (m_woL (m_lfP p q) (m_lfQ p q) ++ m_unL (ByteArray.mk (Array.mk (m_woL (m_lfP p q) (m_lfQ p q))))))) != Int.ofNat 0 then CR.ret (Value.bool false) (AW.mk 0 Tr.nil Tr.nil) else bif m_rdP (ByteArray.mk (Array.mk (m_woL (m_lfP p q) (m_lfQ p q) ++ m_unL (ByteArray.mk (Array.mk (m_woL (m_lfP p q) (m_lfQ p q))))))) != Int.ofNat 0 then CR.ret (Value.bool false) (AW.mk 0 Tr.nil Tr.nil) else bif m_rdQ (ByteArray.mk (Array.mk (m_woL (m_lfP p q) (m_lfQ p q) ++ m_unL (ByteArray.mk (Array.mk (m_woL (m_lfP p q) (m_lfQ p q))))))) != Int.ofNat 1 then CR.ret (Value.bool false) (AW.mk 0 Tr.nil Tr.nil) else CR.ret (Value.bool true) (AW.mk 0 Tr.nil Tr.nil) else CR.fail 420 else CR.ret (Value.bool true) (AW.mk 0 Tr.nil Tr.nil) else bif m_rdE (ByteArray.mk (Array.mk (m_shL b ++ [UInt8.ofBitVec 116#8, UInt8.ofBitVec 114#8, UInt8.ofBitVec 116#8, UInt8.ofBitVec 114#8, UInt8.ofBitVec 116#8, UInt8.ofBitVec 114#8]))) != Int.ofNat 0 then CR.ret (Value.bool false) (AW.mk 0 Tr.nil Tr.nil) else bif m_rdP (ByteArray.mk (Array.mk (m_shL b ++ [UInt8.ofBitVec 116#8, UInt8.ofBitVec 114#8, UInt8.ofBitVec 116#8, UInt8.ofBitVec 114#8, UInt8.ofBitVec 116#8, UInt8.ofBitVec 114#8]))) != m_rdP (ByteArray.mk (Array.mk (m_shL b))) then CR.ret (Value.bool false) (AW.mk 0 Tr.nil Tr.nil) else bif m_rdQ (ByteArray.mk (Array.mk (m_shL b ++ [UInt8.ofBitVec 116#8, UInt8.ofBitVec 114#8, UInt8.ofBitVec 116#8, UInt8.ofBitVec 114#8, UInt8.ofBitVec 116#8, UInt8.ofBitVec 114#8]))) != m_rdQ (ByteArray.mk (Array.mk (m_shL b))) then CR.ret (Value.bool false) (AW.mk 0 Tr.nil Tr.nil) else bif m_woE (m_lfP p q) (m_lfQ p q) != Int.ofNat 0 then CR.ret (Value.bool false) (AW.mk 0 Tr.nil Tr.nil) else bif m_rdE (ByteArray.mk (Array.mk (m_woL (m_lfP p q) (m_lfQ p q)))) != Int.ofNat 0 then CR.ret (Value.bool false) (AW.mk 0 Tr.nil Tr.nil) else bif m_unE (ByteArray.mk (Array.mk (m_woL (m_lfP p q) (m_lfQ p q)))) != Int.ofNat 0 then CR.ret (Value.bool false) (AW.mk 0 Tr.nil Tr.nil) else bif m_rdP (ByteArray.mk (Array.mk (m_woL (m_lfP p q) (m_lfQ p q)))) != m_lfP p q then CR.ret (Value.bool false) (AW.mk 0 Tr.nil Tr.nil) else bif m_rdQ (ByteArray.mk (Array.mk (m_woL (m_lfP p q) (m_lfQ p q)))) != m_lfQ p q then CR.ret (Value.bool false) (AW.mk 0 Tr.nil Tr.nil) else bif decide (IntKind.wrap IntKind.i64 (Int.ofNat (ByteArray.size (ByteArray.mk (Array.mk (m_woL (m_lfP p q) (m_lfQ p q))))) + Int.ofNat (ByteArray.size (ByteArray.mk (Array.mk (m_unL (ByteArray.mk (Array.mk (m_woL (m_lfP p q) (m_lfQ p q))))))))) ≤ 2000) then bif Nat.ble (Nat.add (List.length (m_woL (m_lfP p q) (m_lfQ p q))) (List.length (m_unL (ByteArray.mk (Array.mk (m_woL (m_lfP p q) (m_lfQ p q))))))) 9223372036854775807 then bif m_rdE (ByteArray.mk (Array.mk (m_woL (m_lfP p q) (m_lfQ p q) ++ m_unL (ByteArray.mk (Array.mk (m_woL (m_lfP p q) (m_lfQ p q))))))) != Int.ofNat 0 then CR.ret (Value.bool false) (AW.mk 0 Tr.nil Tr.nil) else bif m_rdP (ByteArray.mk (Array.mk (m_woL (m_lfP p q) (m_lfQ p q) ++ m_unL (ByteArray.mk (Array.mk (m_woL (m_lfP p q) (m_lfQ p q))))))) != Int.ofNat 0 then CR.ret (Value.bool false) (AW.mk 0 Tr.nil Tr.nil) else bif m_rdQ (ByteArray.mk (Array.mk (m_woL (m_lfP p q) (m_lfQ p q) ++ m_unL (ByteArray.mk (Array.mk (m_woL (m_lfP p q) (m_lfQ p q))))))) != Int.ofNat 1 then CR.ret (Value.bool false) (AW.mk 0 Tr.nil Tr.nil) else CR.ret (Value.bool true) (AW.mk 0 Tr.nil Tr.nil) else CR.fail 420 else CR.ret (Value.bool true) (AW.mk 0 Tr.nil Tr.nil) else CR.fail 420 else CR.fail 420 else bif m_rdE (ByteArray.mk (Array.mk (m_shL b ++ [UInt8.ofBitVec 84#8, UInt8.ofBitVec 116#8]))) != Int.ofNat 0 then CR.ret (Value.bool false) (AW.mk 0 Tr.nil Tr.nil) else bif m_rdP (ByteArray.mk (Array.mk (m_shL b ++ [UInt8.ofBitVec 84#8, UInt8.ofBitVec 116#8]))) != m_rdP (ByteArray.mk (Array.mk (m_shL b))) then CR.ret (Value.bool false) (AW.mk 0 Tr.nil Tr.nil) else bif m_rdQ (ByteArray.mk (Array.mk (m_shL b ++ [UInt8.ofBitVec 84#8, UInt8.ofBitVec 116#8]))) != m_rdQ (ByteArray.mk (Array.mk (m_shL b))) then CR.ret (Value.bool false) (AW.mk 0 Tr.nil Tr.nil) else bif Nat.ble (Nat.add (List.length (m_shL b)) (List.length [UInt8.ofBitVec 114#8, UInt8.ofBitVec 114#8])) 9223372036854775807 then bif m_rdE (ByteArray.mk (Array.mk (m_shL b ++ [UInt8.ofBitVec 114#8, UInt8.ofBitVec 114#8]))) == Int.ofNat 12 then bif Nat.ble (Nat.add (List.length (m_shL b)) (List.length [UInt8.ofBitVec 116#8, UInt8.ofBitVec 114#8, UInt8.ofBitVec 116#8, UInt8.ofBitVec 114#8, UInt8.ofBitVec 116#8, UInt8.ofBitVec 114#8])) 9223372036854775807 then bif m_rdE (ByteArray.mk (Array.mk (m_shL b ++ [UInt8.ofBitVec 116#8, UInt8.ofBitVec 114#8, UInt8.ofBitVec 116#8, UInt8.ofBitVec 114#8, UInt8.ofBitVec 116#8, UInt8.ofBitVec 114#8]))) == Int.ofNat 12 then bif m_woE (m_lfP p q) (m_lfQ p q) != Int.ofNat 0 then CR.ret (Value.bool false) (AW.mk 0 Tr.nil Tr.nil) else bif m_rdE (ByteArray.mk (Array.mk (m_woL (m_lfP p q) (m_lfQ p q)))) != Int.ofNat 0 then CR.ret (Value.bool false) (AW.mk 0 Tr.nil Tr.nil) else bif m_unE (ByteArray.mk (Array.mk (m_woL (m_lfP p q) (m_lfQ p q)))) != Int.ofNat 0 then CR.ret (Value.bool false) (AW.mk 0 Tr.nil Tr.nil) else bif m_rdP (ByteArray.mk (Array.mk (m_woL (m_lfP p q) (m_lfQ p q)))) != m_lfP p q then CR.ret (Value.bool false) (AW.mk 0 Tr.nil Tr.nil) else bif m_rdQ (ByteArray.mk (Array.mk (m_woL (m_lfP p q) (m_lfQ p q)))) != m_lfQ p q then CR.ret (Value.bool false) (AW.mk 0 Tr.nil Tr.nil) else bif decide (IntKind.wrap IntKind.i64 (Int.ofNat (ByteArray.size (ByteArray.mk (Array.mk (m_woL (m_lfP p q) (m_lfQ p q))))) + Int.ofNat (ByteArray.size (ByteArray.mk (Array.mk (m_unL (ByteArray.mk (Array.mk (m_woL (m_lfP p q) (m_lfQ p q))))))))) ≤ 2000) then bif Nat.ble (Nat.add (List.length (m_woL (m_lfP p q) (m_lfQ p q))) (List.length (m_unL (ByteArray.mk (Array.mk (m_woL (m_lfP p q) (m_lfQ p q))))))) 9223372036854775807 then bif m_rdE (ByteArray.mk (Array.mk (m_woL (m_lfP p q) (m_lfQ p q) ++ m_unL (ByteArray.mk (Array.mk (m_woL (m_lfP p q) (m_lfQ p q))))))) != Int.ofNat 0 then CR.ret (Value.bool false) (AW.mk 0 Tr.nil Tr.nil) else bif m_rdP (ByteArray.mk (Array.mk (m_woL (m_lfP p q) (m_lfQ p q) ++ m_unL (ByteArray.mk (Array.mk (m_woL (m_lfP p q) (m_lfQ p q))))))) != Int.ofNat 0 then CR.ret (Value.bool false) (AW.mk 0 Tr.nil Tr.nil) else bif m_rdQ (ByteArray.mk (Array.mk (m_woL (m_lfP p q) (m_lfQ p q) ++ m_unL (ByteArray.mk (Array.mk (m_woL (m_lfP p q) (m_lfQ p q))))))) != Int.ofNat 1 then CR.ret (Value.bool false) (AW.mk 0 Tr.nil Tr.nil) else CR.ret (Value.bool true) (AW.mk 0 Tr.nil Tr.nil) else CR.fail 420 else CR.ret (Value.bool true) (AW.mk 0 Tr.nil Tr.nil) else bif m_rdE (ByteArray.mk (Array.mk (m_shL b ++ [UInt8.ofBitVec 116#8, UInt8.ofBitVec 114#8, UInt8.ofBitVec 116#8, UInt8.ofBitVec 114#8, UInt8.ofBitVec 116#8, UInt8.ofBitVec 114#8]))) != Int.ofNat 0 then CR.ret (Value.bool false) (AW.mk 0 Tr.nil Tr.nil) else bif m_rdP (ByteArray.mk (Array.mk (m_shL b ++ [UInt8.ofBitVec 116#8, UInt8.ofBitVec 114#8, UInt8.ofBitVec 116#8, UInt8.ofBitVec 114#8, UInt8.ofBitVec 116#8, UInt8.ofBitVec 114#8]))) != m_rdP (ByteArray.mk (Array.mk (m_shL b))) then CR.ret (Value.bool false) (AW.mk 0 Tr.nil Tr.nil) else bif m_rdQ (ByteArray.mk (Array.mk (m_shL b ++ [UInt8.ofBitVec 116#8, UInt8.ofBitVec 114#8, UInt8.ofBitVec 116#8, UInt8.ofBitVec 114#8, UInt8.ofBitVec 116#8, UInt8.ofBitVec 114#8]))) != m_rdQ (ByteArray.mk (Array.mk (m_shL b))) then CR.ret (Value.bool false) (AW.mk 0 Tr.nil Tr.nil) else bif m_woE (m_lfP p q) (m_lfQ p q) != Int.ofNat 0 then CR.ret (Value.bool false) (AW.mk 0 Tr.nil Tr.nil) else bif m_rdE (ByteArray.mk (Array.mk (m_woL (m_lfP p q) (m_lfQ p q)))) != Int.ofNat 0 then CR.ret (Value.bool false) (AW.mk 0 Tr.nil Tr.nil) else bif m_unE (ByteArray.mk (Array.mk (m_woL (m_lfP p q) (m_lfQ p q)))) != Int.ofNat 0 then CR.ret (Value.bool false) (AW.mk 0 Tr.nil Tr.nil) else bif m_rdP (ByteArray.mk (Array.mk (m_woL (m_lfP p q) (m_lfQ p q)))) != m_lfP p q then CR.ret (Value.bool false) (AW.mk 0 Tr.nil Tr.nil) else bif m_rdQ (ByteArray.mk (Array.mk (m_woL (m_lfP p q) (m_lfQ p q)))) != m_lfQ p q then CR.ret (Value.bool false) (AW.mk 0 Tr.nil Tr.nil) else bif decide (IntKind.wrap IntKind.i64 (Int.ofNat (ByteArray.size (ByteArray.mk (Array.mk (m_woL (m_lfP p q) (m_lfQ p q))))) + Int.ofNat (ByteArray.size (ByteArray.mk (Array.mk (m_unL (ByteArray.mk (Array.mk (m_woL (m_lfP p q) (m_lfQ p q))))))))) ≤ 2000) then bif Nat.ble (Nat.add (List.length (m_woL (m_lfP p q) (m_lfQ p q))) (List.length (m_unL (ByteArray.mk (Array.mk (m_woL (m_lfP p q) (m_lfQ p q))))))) 9223372036854775807 then bif m_rdE (ByteArray.mk (Array.mk (m_woL (m_lfP p q) (m_lfQ p q) ++ m_unL (ByteArray.mk (Array.mk (m_woL (m_lfP p q) (m_lfQ p q))))))) != Int.ofNat 0 then CR.ret (Value.bool false) (AW.mk 0 Tr.nil Tr.nil) else bif m_rdP (ByteArray.mk (Array.mk (m_woL (m_lfP p q) (m_lfQ p q) ++ m_unL (ByteArray.mk (Array.mk (m_woL (m_lfP p q) (m_lfQ p q))))))) != Int.ofNat 0 then CR.ret (Value.bool false) (AW.mk 0 Tr.nil Tr.nil) else bif m_rdQ (ByteArray.mk (Array.mk (m_woL (m_lfP p q) (m_lfQ p q) ++ m_unL (ByteArray.mk (Array.mk (m_woL (m_lfP p q) (m_lfQ p q))))))) != Int.ofNat 1 then CR.ret (Value.bool false) (AW.mk 0 Tr.nil Tr.nil) else CR.ret (Value.bool true) (AW.mk 0 Tr.nil Tr.nil) else CR.fail 420 else CR.ret (Value.bool true) (AW.mk 0 Tr.nil Tr.nil) else CR.fail 420 else bif m_rdE (ByteArray.mk (Array.mk (m_shL b ++ [UInt8.ofBitVec 114#8, UInt8.ofBitVec 114#8]))) != Int.ofNat 0 then CR.ret (Value.bool false) (AW.mk 0 Tr.nil Tr.nil) else bif m_rdP (ByteArray.mk (Array.mk (m_shL b ++ [UInt8.ofBitVec 114#8, UInt8.ofBitVec 114#8]))) != m_rdP (ByteArray.mk (Array.mk (m_shL b))) then CR.ret (Value.bool false) (AW.mk 0 Tr.nil Tr.nil) else bif m_rdQ (ByteArray.mk (Array.mk (m_shL b ++ [UInt8.ofBitVec 114#8, UInt8.ofBitVec 114#8]))) != m_rdQ (ByteArray.mk (Array.mk (m_shL b))) then CR.ret (Value.bool false) (AW.mk 0 Tr.nil Tr.nil) else bif Nat.ble (Nat.add (List.length (m_shL b)) (List.length [UInt8.ofBitVec 116#8, UInt8.ofBitVec 114#8, UInt8.ofBitVec 116#8, UInt8.ofBitVec 114#8, UInt8.ofBitVec 116#8, UInt8.ofBitVec 114#8])) 9223372036854775807 then bif m_rdE (ByteArray.mk (Array.mk (m_shL b ++ [UInt8.ofBitVec 116#8, UInt8.ofBitVec 114#8, UInt8.ofBitVec 116#8, UInt8.ofBitVec 114#8, UInt8.ofBitVec 116#8, UInt8.ofBitVec 114#8]))) == Int.ofNat 12 then bif m_woE (m_lfP p q) (m_lfQ p q) != Int.ofNat 0 then CR.ret (Value.bool false) (AW.mk 0 Tr.nil Tr.nil) else bif m_rdE (ByteArray.mk (Array.mk (m_woL (m_lfP p q) (m_lfQ p q)))) != Int.ofNat 0 then CR.ret (Value.bool false) (AW.mk 0 Tr.nil Tr.nil) else bif m_unE (ByteArray.mk (Array.mk (m_woL (m_lfP p q) (m_lfQ p q)))) != Int.ofNat 0 then CR.ret (Value.bool false) (AW.mk 0 Tr.nil Tr.nil) else bif m_rdP (ByteArray.mk (Array.mk (m_woL (m_lfP p q) (m_lfQ p q)))) != m_lfP p q then CR.ret (Value.bool false) (AW.mk 0 Tr.nil Tr.nil) else bif m_rdQ (ByteArray.mk (Array.mk (m_woL (m_lfP p q) (m_lfQ p q)))) != m_lfQ p q then CR.ret (Value.bool false) (AW.mk 0 Tr.nil Tr.nil) else bif decide (IntKind.wrap IntKind.i64 (Int.ofNat (ByteArray.size (ByteArray.mk (Array.mk (m_woL (m_lfP p q) (m_lfQ p q))))) + Int.ofNat (ByteArray.size (ByteArray.mk (Array.mk (m_unL (ByteArray.mk (Array.mk (m_woL (m_lfP p q) (m_lfQ p q))))))))) ≤ 2000) then bif Nat.ble (Nat.add (List.length (m_woL (m_lfP p q) (m_lfQ p q))) (List.length (m_unL (ByteArray.mk (Array.mk (m_woL (m_lfP p q) (m_lfQ p q))))))) 9223372036854775807 then bif m_rdE (ByteArray.mk (Array.mk (m_woL (m_lfP p q) (m_lfQ p q) ++ m_unL (ByteArray.mk (Array.mk (m_woL (m_lfP p q) (m_lfQ p q))))))) != Int.ofNat 0 then CR.ret (Value.bool false) (AW.mk 0 Tr.nil Tr.nil) else bif m_rdP (ByteArray.mk (Array.mk (m_woL (m_lfP p q) (m_lfQ p q) ++ m_unL (ByteArray.mk (Array.mk (m_woL (m_lfP p q) (m_lfQ p q))))))) != Int.ofNat 0 then CR.ret (Value.bool false) (AW.mk 0 Tr.nil Tr.nil) else bif m_rdQ (ByteArray.mk (Array.mk (m_woL (m_lfP p q) (m_lfQ p q) ++ m_unL (ByteArray.mk (Array.mk (m_woL (m_lfP p q) (m_lfQ p q))))))) != Int.ofNat 1 then CR.ret (Value.bool false) (AW.mk 0 Tr.nil Tr.nil) else CR.ret (Value.bool true) (AW.mk 0 Tr.nil Tr.nil) else CR.fail 420 else CR.ret (Value.bool true) (AW.mk 0 Tr.nil Tr.nil) else bif m_rdE (ByteArray.mk (Array.mk (m_shL b ++ [UInt8.ofBitVec 116#8, UInt8.ofBitVec 114#8, UInt8.ofBitVec 116#8, UInt8.ofBitVec 114#8, UInt8.ofBitVec 116#8, UInt8.ofBitVec 114#8]))) != Int.ofNat 0 then CR.ret (Value.bool false) (AW.mk 0 Tr.nil Tr.nil) else bif m_rdP (ByteArray.mk (Array.mk (m_shL b ++ [UInt8.ofBitVec 116#8, UInt8.ofBitVec 114#8, UInt8.ofBitVec 116#8, UInt8.ofBitVec 114#8, UInt8.ofBitVec 116#8, UInt8.ofBitVec 114#8]))) != m_rdP (ByteArray.mk (Array.mk (m_shL b))) then CR.ret (Value.bool false) (AW.mk 0 Tr.nil Tr.nil) else bif m_rdQ (ByteArray.mk (Array.mk (m_shL b ++ [UInt8.ofBitVec 116#8, UInt8.ofBitVec 114#8, UInt8.ofBitVec 116#8, UInt8.ofBitVec 114#8, UInt8.ofBitVec 116#8, UInt8.ofBitVec 114#8]))) != m_rdQ (ByteArray.mk (Array.mk (m_shL b))) then CR.ret (Value.bool false) (AW.mk 0 Tr.nil Tr.nil) else bif m_woE (m_lfP p q) (m_lfQ p q) != Int.ofNat 0 then CR.ret (Value.bool false) (AW.mk 0 Tr.nil Tr.nil) else bif m_rdE (ByteArray.mk (Array.mk (m_woL (m_lfP p q) (m_lfQ p q)))) != Int.ofNat 0 then CR.ret (Value.bool false) (AW.mk 0 Tr.nil Tr.nil) else bif m_unE (ByteArray.mk (Array.mk (m_woL (m_lfP p q) (m_lfQ p q)))) != Int.ofNat 0 then CR.ret (Value.bool false) (AW.mk 0 Tr.nil Tr.nil) else bif m_rdP (ByteArray.mk (Array.mk (m_woL (m_lfP p q) (m_lfQ p q)))) != m_lfP p q then CR.ret (Value.bool false) (AW.mk 0 Tr.nil Tr.nil) else bif m_rdQ (ByteArray.mk (Array.mk (m_woL (m_lfP p q) (m_lfQ p q)))) != m_lfQ p q then CR.ret (Value.bool false) (AW.mk 0 Tr.nil Tr.nil) else bif decide (IntKind.wrap IntKind.i64 (Int.ofNat (ByteArray.size (ByteArray.mk (Array.mk (m_woL (m_lfP p q) (m_lfQ p q))))) + Int.ofNat (ByteArray.size (ByteArray.mk (Array.mk (m_unL (ByteArray.mk (Array.mk (m_woL (m_lfP p q) (m_lfQ p q))))))))) ≤ 2000) then bif Nat.ble (Nat.add (List.length (m_woL (m_lfP p q) (m_lfQ p q))) (List.length (m_unL (ByteArray.mk (Array.mk (m_woL (m_lfP p q) (m_lfQ p q))))))) 9223372036854775807 then bif m_rdE (ByteArray.mk (Array.mk (m_woL (m_lfP p q) (m_lfQ p q) ++ m_unL (ByteArray.mk (Array.mk (m_woL (m_lfP p q) (m_lfQ p q))))))) != Int.ofNat 0 then CR.ret (Value.bool false) (AW.mk 0 Tr.nil Tr.nil) else bif m_rdP (ByteArray.mk (Array.mk (m_woL (m_lfP p q) (m_lfQ p q) ++ m_unL (ByteArray.mk (Array.mk (m_woL (m_lfP p q) (m_lfQ p q))))))) != Int.ofNat 0 then CR.ret (Value.bool false) (AW.mk 0 Tr.nil Tr.nil) else bif m_rdQ (ByteArray.mk (Array.mk (m_woL (m_lfP p q) (m_lfQ p q) ++ m_unL (ByteArray.mk (Array.mk (m_woL (m_lfP p q) (m_lfQ p q))))))) != Int.ofNat 1 then CR.ret (Value.bool false) (AW.mk 0 Tr.nil Tr.nil) else CR.ret (Value.bool true) (AW.mk 0 Tr.nil Tr.nil) else CR.fail 420 else CR.ret (Value.bool true) (AW.mk 0 Tr.nil Tr.nil) else CR.fail 420 else CR.fail 420 else CR.fail 420 else CR.fail 420 else CR.fail 420 := by kernel_rfl

end Go.Proofs

/- The law of Conway: it answers true. -/
namespace Go.Proofs
open Go Go.Ev Go.Num

/-- A turn that leaves a value as it is. -/
theorem ends_ok {l m : List UInt8} (h : m_rdE (str l) = 0) (hl : l.length ≤ 1994) (hm : m.length ≤ 6) (ho : ∀ v ∈ m, okL v = true) (hid : ∀ p q, Fr p q → goA m p q = (p, q)) :
    m_rdE (str (l ++ m)) = 12 ∨ (m_rdE (str (l ++ m)) = 0 ∧ m_rdP (str (l ++ m)) = m_rdP (str l) ∧ m_rdQ (str (l ++ m)) = m_rdQ (str l)) := by
  rcases rd_cases (str l) with ⟨h1, h2, _⟩ | ⟨_, _, h2, _⟩ | ⟨h1, h2, _, h4, h5, h6⟩
  · exact absurd (h2.symm.trans h) h1
  · rw [h2] at h; cases h
  · have hol := word_ok (ck_word h1).2
    have ho' : ∀ v ∈ l ++ m, okL v = true := fun v hv => by
      rcases List.mem_append.1 hv with h | h
      · exact hol v h
      · exact ho v h
    have hlen : (l ++ m).length ≤ 2000 := by rw [List.length_append]; omega
    have ha := goV_app l m 0 1 h2
    cases ht : (goV (l ++ m) 0 1).2.2 with
    | false => exact .inl (rd_big hlen ho' ht)
    | true =>
      have hg := goV_goA (l ++ m) ho' fr01 ht
      have hx : Fr (goV l 0 1).1 (goV l 0 1).2.1 := by rw [h4, h5] at h6; exact h6
      have hgm : goV m (goV l 0 1).1 (goV l 0 1).2.1 = ((goV l 0 1).1, (goV l 0 1).2.1, true) := by
        have := goV_goA m ho hx (by rw [← ha]; exact ht)
        rw [hid _ _ hx] at this
        exact this
      have := rd_of hlen ho' (ha.trans hgm)
      refine .inr ⟨this.1, this.2.1.trans ?_, this.2.2.trans ?_⟩
      · rw [h4]; rfl
      · rw [h5]; rfl

theorem ends_pick {E C Dd a d : Int} {K F : CR} (h : E = 12 ∨ (E = 0 ∧ C = a ∧ Dd = d)) : (bif E == Int.ofNat 12 then K else bif E != Int.ofNat 0 then F else bif C != a then F else bif Dd != d then F else K) = K := by
  rcases h with h | ⟨h1, h2, h3⟩
  · rw [eqT (show E = Int.ofNat 12 from h), cond_true]
  · rw [eqF (show E ≠ Int.ofNat 12 by rw [h1]; decide), cond_false, neF (show E = Int.ofNat 0 from h1), cond_false, neF h2, cond_false, neF h3, cond_false]

theorem low_frac (p : Int) : ∀ q : Int, 1 ≤ q → frac p (low p q) = true := by
  intro q
  induction q using low.induct p with
  | case1 q h => intro h1; omega
  | case2 q h hf => intro h1; rw [low, dif_neg h, if_pos hf]; exact hf
  | case3 q h hf ih =>
    intro h1
    rw [low, dif_neg h, if_neg hf]
    by_cases c : q = 1
    · subst c
      exact absurd (show frac p 1 = true by rw [frac_iff]; simp) hf
    · exact ih (by omega)

theorem lf_fr (p q : Int) : m_frac (m_lfP p q) (m_lfQ p q) = true ∧ m_small (m_lfP p q) = true ∧ m_small (m_lfQ p q) = true := by
  obtain ⟨b1, b2⟩ := lq0_small q
  obtain ⟨c1, c2⟩ := lfQ_small p q
  have h1 : (p.tmod 501).natAbs < 501 := by
    rw [Int.natAbs_tmod]
    exact Nat.mod_lt _ (by decide)
  refine ⟨?_, ?_, ?_⟩
  · unfold m_lfP m_lfQ m_frac
    by_cases h : lq0 q = 0
    · rw [if_pos h, if_pos h]; rfl
    · rw [if_neg h, if_neg h]; exact low_frac _ _ (by omega)
  · unfold m_lfP m_small
    by_cases h : lq0 q = 0
    · rw [if_pos h]; rfl
    · rw [if_neg h]
      simp only [Bool.and_eq_true, decide_eq_true_eq]
      omega
  · simp only [m_small, Bool.and_eq_true, decide_eq_true_eq]
    omega

theorem conway_end {p q : Int} {T : CR} (hf : m_frac p q = true) (s1 : m_small p = true) (s2 : m_small q = true)
    (hT : T = (bif m_woE p q != Int.ofNat 0 then CR.ret (Value.bool false) (AW.mk 0 Tr.nil Tr.nil) else bif m_rdE (ByteArray.mk (Array.mk (m_woL p q))) != Int.ofNat 0 then CR.ret (Value.bool false) (AW.mk 0 Tr.nil Tr.nil) else bif m_unE (ByteArray.mk (Array.mk (m_woL p q))) != Int.ofNat 0 then CR.ret (Value.bool false) (AW.mk 0 Tr.nil Tr.nil) else bif m_rdP (ByteArray.mk (Array.mk (m_woL p q))) != p then CR.ret (Value.bool false) (AW.mk 0 Tr.nil Tr.nil) else bif m_rdQ (ByteArray.mk (Array.mk (m_woL p q))) != q then CR.ret (Value.bool false) (AW.mk 0 Tr.nil Tr.nil) else bif decide (IntKind.wrap IntKind.i64 (Int.ofNat (ByteArray.size (ByteArray.mk (Array.mk (m_woL p q)))) + Int.ofNat (ByteArray.size (ByteArray.mk (Array.mk (m_unL (ByteArray.mk (Array.mk (m_woL p q)))))))) ≤ 2000) then bif Nat.ble (Nat.add (List.length (m_woL p q)) (List.length (m_unL (ByteArray.mk (Array.mk (m_woL p q)))))) 9223372036854775807 then bif m_rdE (ByteArray.mk (Array.mk (m_woL p q ++ m_unL (ByteArray.mk (Array.mk (m_woL p q)))))) != Int.ofNat 0 then CR.ret (Value.bool false) (AW.mk 0 Tr.nil Tr.nil) else bif m_rdP (ByteArray.mk (Array.mk (m_woL p q ++ m_unL (ByteArray.mk (Array.mk (m_woL p q)))))) != Int.ofNat 0 then CR.ret (Value.bool false) (AW.mk 0 Tr.nil Tr.nil) else bif m_rdQ (ByteArray.mk (Array.mk (m_woL p q ++ m_unL (ByteArray.mk (Array.mk (m_woL p q)))))) != Int.ofNat 1 then CR.ret (Value.bool false) (AW.mk 0 Tr.nil Tr.nil) else CR.ret (Value.bool true) (AW.mk 0 Tr.nil Tr.nil) else CR.fail 420 else CR.ret (Value.bool true) (AW.mk 0 Tr.nil Tr.nil))) :
    T = .ret (.bool true) emptyA := by
  subst hT
  obtain ⟨w1, w2⟩ := wo_of hf s1 s2
  have hfr := (fr_frac p q).1 hf
  obtain ⟨a1, a2⟩ := smallT s1
  obtain ⟨a3, a4⟩ := smallT s2
  have dl := D_len hfr a1 a2 a4
  have ul : (und (D p q)).length ≤ 2000 := by rw [und_len]; exact dl
  have dg := goV_und _ p q (Nat.le_refl _) hfr a1 a2 a4
  have uo := und_ok (D_ok p q)
  obtain ⟨r1, r2, r3⟩ := rd_of ul uo dg
  obtain ⟨u1, u2⟩ := un_of r1 (by rw [r2]; exact s1) (by rw [r3]; exact s2)
  rw [r2, r3] at u2
  have n0 : ((0 : Int) != Int.ofNat 0) = false := rfl
  have nn : ∀ x : Int, (x != x) = false := fun x => by simp
  simp only [w1, w2, n0, nn, cond_false, r1, r2, r3, u1, u2]
  by_cases c : IntKind.wrap IntKind.i64 (Int.ofNat (str (und (D p q))).size + Int.ofNat (str (D p q)).size) ≤ 2000
  · have w : IntKind.wrap IntKind.i64 (Int.ofNat (str (und (D p q))).size + Int.ofNat (str (D p q)).size) = Int.ofNat (str (und (D p q))).size + Int.ofNat (str (D p q)).size := wrI (by rw [str_size, str_size]; simp; omega)
    have c' := c
    rw [w, str_size, str_size] at c'
    have cl : (und (D p q) ++ D p q).length ≤ 2000 := by
      rw [List.length_append]
      simp at c'
      omega
    have g1 : Nat.ble (Nat.add (und (D p q)).length (D p q).length) 9223372036854775807 = true := Nat.ble_eq_true_of_le (by rw [List.length_append] at cl; simp only [Nat.add_eq]; omega)
    have ho : ∀ v ∈ und (D p q) ++ D p q, okL v = true := fun v hv => by
      rcases List.mem_append.1 hv with h | h
      · exact uo v h
      · exact D_ok p q v h
    have hg : goV (und (D p q) ++ D p q) 0 1 = (0, 1, true) := by
      rw [goV_app _ _ _ _ (by rw [dg]), dg]
      exact goV_D _ p q (Nat.le_refl _) hfr a1 a2 a4
    obtain ⟨t1, t2, t3⟩ := rd_of cl ho hg
    have n1 : ((1 : Int) != Int.ofNat 1) = false := rfl
    simp only [dT c, cond_true, g1, t1, t2, t3, n0, n1, cond_false]
    rfl
  · simp only [dF c, cond_false]
    rfl

theorem conway_ok (r : Mem) (hm : ∀ b j u, tabM b j = some u → r b j = some u) (b : ByteArray) (p q : Int) (hsz : b.size ≤ 9223372036854775807) : GrT Tryd.prog r 5 [.string b, I p, I q] (.bool true) :=
  GrT.of (SC_ok r) (tLw_ok r hm) .nil rfl ⟨5, 1, by
    rw [lcA]
    have g1 : m_szG b = true := dT hsz
    have hlen : (m_shL b).length ≤ 2001 := by unfold m_shL; rw [List.length_take]; omega
    rw [g1, cond_true]
    generalize m_shL b = l at hlen
    by_cases h : m_rdE (str l) = 0
    · rw [neF (show m_rdE (str l) = Int.ofNat 0 from h), cond_false]
      by_cases c : l.length > 1994
      · have c' : Int.ofNat (str l).size > 1994 := by rw [str_size]; simp; omega
        rw [dT c', cond_true]; rfl
      · have c' : ¬ Int.ofNat (str l).size > 1994 := by rw [str_size]; simp; omega
        rw [dF c', cond_false]
        have gg : ∀ m : List UInt8, m.length ≤ 6 → Nat.ble (Nat.add l.length m.length) 9223372036854775807 = true := fun m hm => Nat.ble_eq_true_of_le (by simp only [Nat.add_eq]; omega)
        obtain ⟨f1, f2, f3⟩ := lf_fr p q
        have e1 := ends_ok (m := [116, 84]) h (by omega) (by decide) (by decide) fun _ _ => turn_tT
        have e2 := ends_ok (m := [84, 116]) h (by omega) (by decide) (by decide) fun _ _ => turn_Tt
        have e3 := ends_ok (m := [114, 114]) h (by omega) (by decide) (by decide) fun _ _ => turn2
        have e4 := ends_ok (m := [116, 114, 116, 114, 116, 114]) h (by omega) (by decide) (by decide) fun _ _ => turn3
        rw [gg _ (by decide), cond_true]
        refine (ends_pick e1).trans ?_
        rw [gg _ (by decide), cond_true]
        refine (ends_pick e2).trans ?_
        rw [gg _ (by decide), cond_true]
        refine (ends_pick e3).trans ?_
        rw [gg _ (by decide), cond_true]
        refine (ends_pick e4).trans ?_
        exact conway_end f1 f2 f3 rfl
    · rw [neT (show m_rdE (str l) ≠ Int.ofNat 0 from h), cond_true]; rfl⟩

end Go.Proofs

/- The laws of words, as the frames ask for them. -/
namespace Go.Proofs
open Go Go.Ev Go.Num

theorem i64_max {z : Int} (h : (Lit.int .i64 z).wf = true) : z ≤ 9223372036854775807 := by
  simp [Lit.wf, IntKind.max, IntKind.signed, IntKind.bits] at h
  omega

theorem law_values (r : Mem) (hm : ∀ b j u, tabM b j = some u → r b j = some u) (u0 : Value) (s0 : ArgStr u0) : GrT Tryd.prog r 3 [u0] (.bool true) := by
  obtain ⟨b, rfl, h⟩ := s0
  exact values_ok r hm b h

theorem law_words (r : Mem) (hm : ∀ b j u, tabM b j = some u → r b j = some u) (u0 u1 : Value) (s0 : ArgInt .i64 u0) (s1 : ArgInt .i64 u1) : GrT Tryd.prog r 4 [u0, u1] (.bool true) := by
  obtain ⟨p, rfl, _⟩ := s0
  obtain ⟨q, rfl, h⟩ := s1
  exact words_ok r hm p q (i64_max h)

theorem law_conway (r : Mem) (hm : ∀ b j u, tabM b j = some u → r b j = some u) (u0 u1 u2 : Value) (s0 : ArgStr u0) (s1 : ArgInt .i64 u1) (s2 : ArgInt .i64 u2) : GrT Tryd.prog r 5 [u0, u1, u2] (.bool true) := by
  obtain ⟨b, rfl, h⟩ := s0
  obtain ⟨p, rfl, _⟩ := s1
  obtain ⟨q, rfl, _⟩ := s2
  exact conway_ok r hm b p q h

end Go.Proofs

