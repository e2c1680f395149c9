/- What the claim is proved with, part 10: the evaluator and the contracts of the calls. -/
import Derived.Test.YtogkblefihbgbaaDoorPack3
import Derived.Test.YtogkblefihbgbaaDoorEvMemOf
import Derived.Test.YtogkblefihbgbaaDoorPack4
import Derived.Test.YtogkblefihbgbaaDoorPack5
import Derived.Test.YtogkblefihbgbaaDoorPack6
import Derived.Test.YtogkblefihbgbaaDoorPack7
import Derived.Test.YtogkblefihbgbaaDoorPack8
import Derived.Test.YtogkblefihbgbaaDoorPack9
import Derived.Test.YtogkblefihbgbaaDoorPack1
import Derived.Test.YtogkblefihbgbaaDoorPack2
/- The law of ascent lists and orders: all numbers. -/
namespace Go.Proofs
open Go Go.Ev
set_option linter.unusedVariables false
set_option linter.unusedSimpArgs false
set_option maxRecDepth 100000

noncomputable def r2 : Code := rc (rc cCl)
def T1c : Tr Value := (((Tr.nil.put 0 (some (I 4))).put 2 (some (.bool false))).put 3 (some (I 15))).put 4 (some (I 0))
def T2c : Tr Value := (((Tr.nil.put 0 (some (I 4))).put 2 (some (.bool false))).put 3 (some (I 15))).put 5 (some (.slice none 0 0))
def T3c : Tr Value := ((((Tr.nil.put 0 (some (I 4))).put 2 (some (.bool false))).put 3 (some (I 15))).put 5 (some (.slice none 0 0))).put 6 (some (I 6))

theorem clB (r : Mem) (L : Nat) (fs : FnsC) (x : Int) (kn : KS) (kx : Nat → KS) (kr : KS) : run (SC r) 16769021 173 L (lc cCl) fs none kn kx kr (sc0 16769021 [I x]) (tr0 16769021 [I x]) [] emptyA =
    kn [] (Tr.node Tr.nil (some (Value.int IntKind.i64 x)) (Tr.node Tr.nil (some (Value.bool false)) Tr.nil)) [] (AW.mk 0 Tr.nil Tr.nil) := by kernel_rfl

theorem clC (r : Mem) (L : Nat) (fs : FnsC) (x : Int) (s : List (Nat × Value)) (kn : KS) (kx : Nat → KS) (kr : KS) : run (SC r) 16769021 173 L (lc (rc cCl)) fs none kn kx kr s (TCl x) [] emptyA =
    kn [(28, Value.int IntKind.i64 (IntKind.wrap IntKind.i64 (Int.ofNat 1 + IntKind.wrap IntKind.i64 (Int.tmod (IntKind.wrap IntKind.u64 x) (Int.ofNat 4))))), (27, Value.int IntKind.i64 (IntKind.wrap IntKind.i64 (Int.tmod (IntKind.wrap IntKind.u64 x) (Int.ofNat 4)))), (26, Value.int IntKind.u64 (Int.tmod (IntKind.wrap IntKind.u64 x) (Int.ofNat 4))), (25, Value.int IntKind.u64 (IntKind.wrap IntKind.u64 x)), (24, Value.int IntKind.i64 x)] (Tr.node Tr.nil (some (Value.int IntKind.i64 (IntKind.wrap IntKind.i64 (Int.ofNat 1 + IntKind.wrap IntKind.i64 (Int.tmod (IntKind.wrap IntKind.u64 x) (Int.ofNat 4)))))) (Tr.node Tr.nil (some (Value.bool false)) Tr.nil)) [] (AW.mk 0 Tr.nil Tr.nil) := by kernel_rfl

theorem cp_a (s : List (Nat × Value)) : run (CC tabM) 16769021 173 1000 (lc r2) (lvlT (CC tabM) tCl mskH 1000 40) none (qv (gSub 0 (T1c) emptyA)) (fun _ => qF) qF s (TCl 4) [] emptyA = .ret undef ⟨0, .nil, .nil⟩ := by kernel_rfl
theorem cp_b (s : List (Nat × Value)) : run (CC tabM) 16769021 173 1000 (lc (rc r2)) (lvlT (CC tabM) tCl mskH 1000 40) none (qv (gSub 0 (T1c) emptyA)) (fun _ => qF) qF s (T1c) [] emptyA = .ret undef ⟨0, .nil, .nil⟩ := by kernel_rfl
theorem cp_c (s : List (Nat × Value)) : run (CC tabM) 16769021 173 1000 (lc (rc (rc r2))) (lvlT (CC tabM) tCl mskH 1000 40) none (qv (gSub 0 (T2c) emptyA)) (fun _ => qF) qF s (T1c) [] emptyA = .ret undef ⟨0, .nil, .nil⟩ := by kernel_rfl
theorem cp_d (s : List (Nat × Value)) : run (CC tabM) 16769021 173 1000 (lc (rc (rc (rc r2)))) (lvlT (CC tabM) tCl mskH 1000 40) none (qv (gSub 0 (T3c) emptyA)) (fun _ => qF) qF s (T2c) [] emptyA = .ret undef ⟨0, .nil, .nil⟩ := by kernel_rfl
theorem cp_e (s : List (Nat × Value)) : run (CC tabM) 16769021 173 1000 (lc (lc rCl)) (lvlT (CC tabM) tCl mskH 1000 40) none (qv (gSub 0 (THd (hV 0) 0) emptyA)) (fun _ => qF) qF s (T3c) [] emptyA = .ret undef ⟨0, .nil, .nil⟩ := by kernel_rfl
theorem cl4_x (s : List (Nat × Value)) : run (CC tabM) 16769021 173 1000 bCl (lvlT (CC tabM) tCl mskH 1000 40) none qF (fun id => match Nat.beq id 0 with | true => qv (gSub 5 (THd (hV 15) 64) (hA 15)) | false => qF) qF s (THd (hV 15) 64) [] (hA 15) = .ret undef ⟨0, .nil, .nil⟩ := by kernel_rfl
theorem cl4_z (s : List (Nat × Value)) : run (CC tabM) 16769021 173 1000 (rc rCl) (lvlT (CC tabM) tCl mskH 1000 40) none qF (fun _ => qF) (qv (gRes 2)) s (THd (hV 15) 64) [] (hA 15) = .ret (.bool true) ⟨0, .nil, .nil⟩ := by kernel_rfl

def cntD (k : Nat) : Nat := cnts.getD k 0
theorem cl4_all : ∀ k, k < 64 → ∀ s, clRun s k (cntD k) (cntD (k + 1)) = .ret undef ⟨0, .nil, .nil⟩
  | 0, _ => cl4_0
  | 1, _ => cl4_1
  | 2, _ => cl4_2
  | 3, _ => cl4_3
  | 4, _ => cl4_4
  | 5, _ => cl4_5
  | 6, _ => cl4_6
  | 7, _ => cl4_7
  | 8, _ => cl4_8
  | 9, _ => cl4_9
  | 10, _ => cl4_10
  | 11, _ => cl4_11
  | 12, _ => cl4_12
  | 13, _ => cl4_13
  | 14, _ => cl4_14
  | 15, _ => cl4_15
  | 16, _ => cl4_16
  | 17, _ => cl4_17
  | 18, _ => cl4_18
  | 19, _ => cl4_19
  | 20, _ => cl4_20
  | 21, _ => cl4_21
  | 22, _ => cl4_22
  | 23, _ => cl4_23
  | 24, _ => cl4_24
  | 25, _ => cl4_25
  | 26, _ => cl4_26
  | 27, _ => cl4_27
  | 28, _ => cl4_28
  | 29, _ => cl4_29
  | 30, _ => cl4_30
  | 31, _ => cl4_31
  | 32, _ => cl4_32
  | 33, _ => cl4_33
  | 34, _ => cl4_34
  | 35, _ => cl4_35
  | 36, _ => cl4_36
  | 37, _ => cl4_37
  | 38, _ => cl4_38
  | 39, _ => cl4_39
  | 40, _ => cl4_40
  | 41, _ => cl4_41
  | 42, _ => cl4_42
  | 43, _ => cl4_43
  | 44, _ => cl4_44
  | 45, _ => cl4_45
  | 46, _ => cl4_46
  | 47, _ => cl4_47
  | 48, _ => cl4_48
  | 49, _ => cl4_49
  | 50, _ => cl4_50
  | 51, _ => cl4_51
  | 52, _ => cl4_52
  | 53, _ => cl4_53
  | 54, _ => cl4_54
  | 55, _ => cl4_55
  | 56, _ => cl4_56
  | 57, _ => cl4_57
  | 58, _ => cl4_58
  | 59, _ => cl4_59
  | 60, _ => cl4_60
  | 61, _ => cl4_61
  | 62, _ => cl4_62
  | 63, _ => cl4_63
  | k + 64, h => absurd h (by omega)

noncomputable def HS (k : Nat) : St := ⟨⟨[], THd (hV (cntD k)) k⟩, [], hA (cntD k)⟩
def TR2 : Tr Value := .node .nil none (.node .nil (some (.bool true)) .nil)
theorem res_ok {W0 : World} {s : List (Nat × Value)} {b : Tr Value} {ms : List Nat} {A : AW} (h : gRes 2 s b ms A = some (.bool true)) : Ren (SC tabM) 16769021 173 noG W0 ⟨⟨s, b⟩, ms, A⟩ ⟨⟨[], TR2⟩, [], emptyA⟩ := by
  unfold gRes at h
  split at h
  · rename_i x hx
    cases h
    refine Ren.of (fun i => i) 0 rfl (fun _ _ => rfl) (Nat.zero_le _) (fun i hi => absurd hi (Nat.not_lt_zero i)) ?_ rfl trivial trivial
    exact ⟨trivial, trivial, ⟨_, hx, rfl⟩, trivial, trivial⟩
  · cases h

def QCl (W : World) : Exit → St → Prop := fun ex st => (ex = .normal ∨ ex = .ret) ∧ ∃ st1, Ren (SC tabM) 16769021 173 noG W st st1 ∧ finish (SC tabM) 16769021 (resOf (SC tabM) 3) st1 = .ret (.bool true) emptyA
theorem QCl_ok {W : World} {s : List (Nat × Value)} {b : Tr Value} {ms : List Nat} {A : AW} (h : gRes 2 s b ms A = some (.bool true)) : QCl W .ret ⟨⟨s, b⟩, ms, A⟩ := by
  refine ⟨.inr rfl, _, res_ok h, ?_⟩
  rw [← finK_finish]
  kernel_rfl

section
variable {F : Fence} {k : Nat} {W : World}
/-- A run to what is read off. -/
theorem stepCl (hF : Wide F) (hro : F.round = none) {c : Code} {T T1 : Tr Value} {A A1 : AW} {j : Nat} {Q : Exit → St → Prop}
    (h : ∀ s, run (CC tabM) 16769021 173 1000 c (lvlT (CC tabM) tCl mskH 1000 40) none (qv (gSub j T1 A1)) (fun _ => qF) qF s T [] A = .ret undef ⟨0, .nil, .nil⟩) (hQ : ∀ st, Ren (SC tabM) 16769021 173 noG W st ⟨⟨[], T1⟩, [], A1⟩ → Q .normal st) :
    Go.Ev.Reach (SC tabM) 16769021 173 F k noG W c ⟨⟨[], T⟩, [], A⟩ Q :=
  Reach.conv (C := CC tabM) (C' := SC tabM) rfl rfl (Reach.segV (CC_ok tabM) tCl_ok hF hro (gSub j T1 A1) (h []) fun s b ms A hg => hQ _ (gSub_ok hg))

theorem loopCl (hF : Wide F) (hro : F.round = none) : Go.Ev.Reach (SC tabM) 16769021 173 F k noG W (.loop bCl) (HS 0) fun ex st => match ex with | .exit j => j = 0 ∧ Ren (SC tabM) 16769021 173 noG W st (HS 64) | _ => False := by
  refine Go.Ev.Reach.loop (I := fun j st => ∃ st1, Ren (SC tabM) 16769021 173 noG W st st1 ∧ ∃ k, k ≤ 64 ∧ j = 64 - k ∧ st1 = HS k) (fun j st ⟨st1, hr, k, hk, hj, hs⟩ => Go.Ev.Reach.pre hr ?_) (j := 64) ⟨_, Ren.refl _, 0, by omega, rfl, rfl⟩
  subst hs
  by_cases c : k < 64
  · refine stepCl hF hro (T := THd (hV (cntD k)) k) (A := hA (cntD k)) (cl4_all k c) fun st hr' => ⟨64 - (k + 1), by omega, _, hr', k + 1, by omega, rfl, rfl⟩
  · have : k = 64 := by omega
    subst this
    exact Reach.conv (C := CC tabM) (C' := SC tabM) rfl rfl (Reach.segX (CC_ok tabM) tCl_ok hF hro (gSub 5 (THd (hV 15) 64) (hA 15)) (cl4_x []) fun s b ms A hg => ⟨rfl, gSub_ok hg⟩)

theorem r2_eq : r2 = .seq (lc r2) (.seq (lc (rc r2)) (.seq (lc (rc (rc r2))) (.seq (lc (rc (rc (rc r2)))) (.seq (.seq (lc (lc rCl)) (.block 0 (.loop bCl))) (rc rCl))))) := by kernel_rfl
theorem four_ok (hF : Wide F) (hro : F.round = none) : Go.Ev.Reach (SC tabM) 16769021 173 F k noG W r2 ⟨⟨[], TCl 4⟩, [], emptyA⟩ (QCl W) := by
  rw [r2_eq]
  refine Go.Ev.Reach.seq (stepCl hF hro cp_a fun st hr => Go.Ev.Reach.pre hr ?_)
  refine Go.Ev.Reach.seq (stepCl hF hro cp_b fun st hr => Go.Ev.Reach.pre hr ?_)
  refine Go.Ev.Reach.seq (stepCl hF hro cp_c fun st hr => Go.Ev.Reach.pre hr ?_)
  refine Go.Ev.Reach.seq (stepCl hF hro cp_d fun st hr => Go.Ev.Reach.pre hr ?_)
  refine Go.Ev.Reach.seq (Go.Ev.Reach.seq (stepCl hF hro cp_e fun st hr => Go.Ev.Reach.pre hr ?_))
  refine Go.Ev.Reach.block (Go.Ev.Reach.mono (loopCl hF hro) fun ex st' q => ?_)
  cases ex with
  | exit id =>
    obtain ⟨rfl, hr⟩ := q
    refine Go.Ev.Reach.pre hr ?_
    exact Reach.conv (C := CC tabM) (C' := SC tabM) rfl rfl (Reach.segR (CC_ok tabM) tCl_ok hF hro (gRes 2) (cl4_z []) fun s b ms A hg => QCl_ok hg)
  | _ => exact q.elim

theorem few_ok (hF : Wide F) (hro : F.round = none) {n : Int} (h : ∀ s, run (CC tabM) 16769021 173 1000 (rc (rc cCl)) (lvlT (CC tabM) tCl mskH 1000 40) none qF (fun _ => qF) (qv (gRes 2)) s (TCl n) [] emptyA = .ret (.bool true) ⟨0, .nil, .nil⟩) :
    Go.Ev.Reach (SC tabM) 16769021 173 F k noG W r2 ⟨⟨[], TCl n⟩, [], emptyA⟩ (QCl W) :=
  Reach.conv (C := CC tabM) (C' := SC tabM) rfl rfl (Reach.segR (CC_ok tabM) tCl_ok hF hro (gRes 2) (h []) fun s b ms A hg => QCl_ok hg)

theorem num_cases (x : Int) : (∃ i : Fin 4, IntKind.wrap IntKind.i64 (Int.ofNat 1 + IntKind.wrap IntKind.i64 (Int.tmod (IntKind.wrap IntKind.u64 x) (Int.ofNat 4))) = Int.ofNat (1 + i.val)) := by
  have h0 : 0 ≤ IntKind.wrap IntKind.u64 x := by
    simp only [IntKind.wrap, IntKind.bits, IntKind.signed, Bool.false_and, Bool.false_eq_true, if_false]
    exact Int.emod_nonneg _ (by decide)
  generalize IntKind.wrap IntKind.u64 x = y at h0
  obtain ⟨n, rfl⟩ := Int.eq_ofNat_of_zero_le h0
  have h4 : n % 4 < 4 := Nat.mod_lt _ (by omega)
  refine ⟨⟨n % 4, h4⟩, ?_⟩
  have e : Int.tmod (n : Int) (Int.ofNat 4) = ((n % 4 : Nat) : Int) := rfl
  rw [e]
  have key : ∀ i : Fin 4, IntKind.wrap IntKind.i64 (Int.ofNat 1 + IntKind.wrap IntKind.i64 (i.val : Int)) = Int.ofNat (1 + i.val) := by decide
  exact key ⟨n % 4, h4⟩

theorem rest_ok (hF : Wide F) (hro : F.round = none) (i : Fin 4) : Go.Ev.Reach (SC tabM) 16769021 173 F k noG W r2 ⟨⟨[], TCl (Int.ofNat (1 + i.val))⟩, [], emptyA⟩ (QCl W) :=
  match i with
  | ⟨0, _⟩ => few_ok hF hro cl_1
  | ⟨1, _⟩ => few_ok hF hro cl_2
  | ⟨2, _⟩ => few_ok hF hro cl_3
  | ⟨3, _⟩ => four_ok hF hro

end

theorem claesson_ok (x : Int) : GrT Tryd.prog tabM 3 [I x] (.bool true) := by
  refine GrM.plain (fun F hF k W args' hR ha => ?_) rfl
  obtain ⟨fn, h1, h2, h3, h4⟩ := fn_of (C := SC tabM) (f := 3) (by kernel_rfl)
  have hn : fn.ntmps = 173 := h3.trans (by kernel_rfl)
  rw [bodySC] at h2
  refine call_reach (C := SC tabM) (SC_ok tabM) (A := emptyA) h1 h2 16769021 (by rw [hn]; rfl) (fun F k hF hro => ?_) (WRel.empty W) hR ha hF k
  rw [hn, h4]
  show Go.Ev.Reach (SC tabM) 16769021 173 F k noG W cCl _ _
  rw [show cCl = .seq (lc cCl) (.seq (lc (rc cCl)) r2) from by kernel_rfl]
  refine Go.Ev.Reach.seq (Go.Ev.Reach.seg (SC_ok tabM) TOk.nil (tm := .nil) (L := 1) (L' := 1) (d := 1) hF hro ((clB tabM _ _ x _ _ _).trans (qn_ok ?_)))
  refine Go.Ev.Reach.seq (Go.Ev.Reach.seg (SC_ok tabM) TOk.nil (tm := .nil) (L := 1) (L' := 1) (d := 1) hF hro ((clC tabM _ _ x _ _ _ _).trans (qn_ok ?_)))
  obtain ⟨i, hi⟩ := num_cases x
  rw [hi]
  refine Go.Ev.Reach.pre (st1 := ⟨⟨[], TCl (Int.ofNat (1 + i.val))⟩, [], emptyA⟩) ?_ (rest_ok hF hro i)
  refine Ren.of (fun i => i) 0 rfl (fun _ _ => rfl) (Nat.zero_le _) (fun i hi => absurd hi (Nat.not_lt_zero i)) ?_ rfl trivial trivial
  exact ⟨⟨_, rfl, rfl⟩, trivial, ⟨_, rfl, rfl⟩, trivial, trivial⟩

theorem law_claesson (r : Mem) (hm : ∀ b j u, tabM b j = some u → r b j = some u) (u0 : Value) (s0 : ArgInt .i64 u0) : GrT Tryd.prog r 3 [u0] (.bool true) := by
  obtain ⟨n, rfl, _⟩ := s0
  exact (claesson_ok n).more hm

end Go.Proofs

