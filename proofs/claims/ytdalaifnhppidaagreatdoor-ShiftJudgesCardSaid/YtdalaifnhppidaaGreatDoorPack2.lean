/- What the claim is proved with, part 2: the evaluator and the contracts of the calls. -/
import Derived.Test.YtdalaifnhppidaaGreatDoorPack1
set_option linter.unusedVariables false
set_option linter.unusedSimpArgs false
set_option maxRecDepth 100000
namespace Go.Num
def rhoN (n a : Nat) : Nat := ((List.range n).find? fun x => (5 * x + 1) % n == a).getD 0
theorem rho_all : ∀ n : Fin 13, n.val % 5 ≠ 0 → ∀ x : Fin 12, x.val < n.val → rhoN n.val ((5 * x.val + 1) % n.val) = x.val := by decide +kernel
theorem rho_at {n x : Nat} (hn : n ≤ 12) (h5 : n % 5 ≠ 0) (hx : x < n) : rhoN n ((5 * x + 1) % n) = x := rho_all ⟨n, by omega⟩ h5 ⟨x, by omega⟩ hx
def RankOk (n : Nat) (M : Nat → Nat → Bool) : Prop := ∀ i j, M i j = true → i < n ∧ j < n ∧ rhoN n i < rhoN n j
theorem RankOk.irr {n : Nat} {M : Nat → Nat → Bool} (h : RankOk n M) (i : Nat) : M i i = false := by
 cases q : M i i with
 | false => rfl
 | true => have := (h i i q).2.2; omega
def setM (M : Nat → Nat → Bool) (x y : Nat) : Nat → Nat → Bool := fun i j => if i = x ∧ j = y then true else M i j
theorem RankOk.none (n : Nat) : RankOk n fun _ _ => false := fun _ _ h => by cases h
theorem RankOk.set {n : Nat} {M : Nat → Nat → Bool} (h : RankOk n M) (hn : n ≤ 12) (h5 : n % 5 ≠ 0) {x y : Nat} (hxy : x < y) (hy : y < n) : RankOk n (setM M ((5 * x + 1) % n) ((5 * y + 1) % n)) := fun i j hij => by
 unfold setM at hij
 split at hij
 ·rename_i c
  obtain ⟨rfl, rfl⟩ := c
  refine ⟨Nat.mod_lt _ (by omega), Nat.mod_lt _ (by omega), ?_⟩
  rw [rho_at hn h5 (by omega), rho_at hn h5 hy]
  exact hxy
 ·exact h i j hij
def fwM (M : Nat → Nat → Bool) (z x y : Nat) : Nat → Nat → Bool := fun i j => M i j || (M i z && (M z j && (decide (i < x) || (decide (i = x) && decide (j < y)))))
theorem fw_zero (M : Nat → Nat → Bool) (z : Nat) : fwM M z 0 0 = M := by
 funext i j
 unfold fwM
 simp
section
variable {n z x y : Nat} {M : Nat → Nat → Bool} (h : RankOk n M)
include h
theorem fw_col (i : Nat) : fwM M z x y i z = M i z := by
 unfold fwM
 rw [h.irr z, Bool.false_and, Bool.and_false, Bool.or_false]
theorem fw_row (j : Nat) : fwM M z x y z j = M z j := by
 unfold fwM
 rw [h.irr z, Bool.false_and, Bool.or_false]
theorem fw_set (hc : (M x z && M z y) = true) : setM (fwM M z x y) x y = fwM M z x (y + 1) := by
 have _ := h
 rw [Bool.and_eq_true] at hc
 funext i j
 unfold setM fwM
 by_cases c : i = x ∧ j = y
 ·obtain ⟨rfl, rfl⟩ := c
  simp [hc.1, hc.2]
 ·rw [if_neg c]
  by_cases d : i = x
  ·subst d
   have hj : j ≠ y := fun e => c ⟨rfl, e⟩
   have : decide (j < y + 1) = decide (j < y) := by rw [decide_eq_decide]; omega
   rw [this]
  ·simp [d]
theorem fw_skip (hc : (M x z && M z y) = false) : fwM M z x y = fwM M z x (y + 1) := by
 have _ := h
 funext i j
 unfold fwM
 by_cases d : i = x
 ·subst d
  by_cases e : j = y
  ·subst e
   cases q1 : M i z with
   | false => simp
   | true =>
    rw [q1, Bool.true_and] at hc
    simp [hc]
  ·have : decide (j < y + 1) = decide (j < y) := by rw [decide_eq_decide]; omega
   rw [this]
 ·simp [d]
theorem fw_next : fwM M z x n = fwM M z (x + 1) 0 := by
 funext i j
 unfold fwM
 cases q : M z j with
 | false => simp
 | true =>
  have hj := (h z j q).2.1
  by_cases d : i = x
  ·subst d; simp [hj]
  ·by_cases e : i < x
   ·simp [e, show i < x + 1 by omega]
   ·simp [d, e, show ¬ i < x + 1 by omega]
theorem fw_end (i j : Nat) : fwM M z n 0 i j = (M i j || (M i z && M z j)) := by
 unfold fwM
 cases q : M i z with
 | false => simp
 | true => simp [(h i z q).1]
theorem fw_rank : RankOk n (fwM M z n 0) := fun i j hij => by
 rw [fw_end h, Bool.or_eq_true, Bool.and_eq_true] at hij
 rcases hij with q | ⟨q1, q2⟩
 ·exact h i j q
 ·have a := h i z q1
  have b := h z j q2
  exact ⟨a.1, b.2.1, by omega⟩
end
def TrP (z : Nat) (M : Nat → Nat → Bool) : Prop := ∀ k, k < z → ∀ i j, M i k = true → M k j = true → M i j = true
theorem fw_tr {n z : Nat} {M : Nat → Nat → Bool} (h : RankOk n M) (ht : TrP z M) : TrP (z + 1) (fwM M z n 0) := fun k hk i j h1 h2 => by
 rw [fw_end h, Bool.or_eq_true, Bool.and_eq_true] at h1 h2 ⊢
 by_cases e : k = z
 ·subst e
  have a1 : M i k = true := by
   rcases h1 with q | ⟨q, _⟩
   ·exact q
   ·exact q
  have a2 : M k j = true := by
   rcases h2 with q | ⟨_, q⟩
   ·exact q
   ·exact q
  exact .inr ⟨a1, a2⟩
 ·have hk' : k < z := by omega
  rcases h1 with a | ⟨a1, a2⟩
  ·rcases h2 with b | ⟨b1, b2⟩
   ·exact .inl (ht k hk' i j a b)
   ·exact .inr ⟨ht k hk' i z a b1, b2⟩
  ·rcases h2 with b | ⟨b1, b2⟩
   ·exact .inr ⟨a1, ht k hk' z j a2 b⟩
   ·exact .inr ⟨a1, b2⟩
end Go.Num
namespace Go.Proofs
open Go Go.Ev Go.Num
def tbM (M : Nat → Nat → Bool) (n : Nat) : List (List Bool) := (List.range n).map fun i => (List.range n).map fun j => M i j
theorem tbM_len (M : Nat → Nat → Bool) (n : Nat) : (tbM M n).length = n := by simp [tbM]
theorem tbM_get {M : Nat → Nat → Bool} {n i : Nat} (h : i < n) : (tbM M n)[i]? = some ((List.range n).map fun j => M i j) := by
 unfold tbM
 rw [List.getElem?_map, List.getElem?_range h]
 rfl
theorem tbM_row {M : Nat → Nat → Bool} {n i : Nat} (h : i < n) : (tbM M n).getD i [] = (List.range n).map fun j => M i j := by
 rw [List.getD_eq_getElem?_getD, tbM_get h]; rfl
theorem tbM_rl {M : Nat → Nat → Bool} {n i : Nat} (h : i < n) : ((tbM M n).getD i []).length = n := by rw [tbM_row h]; simp
theorem tbM_at {M : Nat → Nat → Bool} {n i j : Nat} (h : i < n) (hj : j < n) : gT (tbM M n) i j = M i j := by
 unfold gT
 rw [tbM_row h, List.getD_eq_getElem?_getD, List.getElem?_map, List.getElem?_range hj]
 rfl
theorem tbM_ck {M : Nat → Nat → Bool} {n : Nat} (h1 : 1 ≤ n) (hn : n ≤ 12) (h : RankOk n M) (ht : TrP n M) : ckO (tbM M n) = true := by
 unfold ckO
 have hl := tbM_len M n
 rw [hl, decide_eq_true ⟨h1, hn⟩, Bool.true_and, Bool.and_eq_true]
 constructor
 ·have hlen : ∀ m, m ≤ n → lenO (tbM M n) m = true := fun m => by
   induction m with
   | zero => exact fun _ => rfl
   | succ m ih =>
    intro hm
    rw [lenO, ih (by omega), tbM_rl (show m < n by omega), hl]
    simp
  exact lenI_all.2 ⟨hlen n (Nat.le_refl _), fun i hi => by rw [tbM_at hi hi]; exact h.irr i⟩
 ·refine trI_all.2 fun i hi => trJ_all.2 fun k hk => trK_all.2 fun m hm => ?_
  rw [hl] at hk hm
  unfold badO
  rw [tbM_at hi hk, tbM_at hk hm, tbM_at hi hm]
  cases q1 : M i k with
  | false => rfl
  | true =>
   cases q2 : M k m with
   | false => rfl
   | true => rw [ht k hk i m q1 q2]; rfl
end Go.Proofs
namespace Go.Proofs
open Go Go.Ev Go.Num
structure MatM (γ0 : Gam) (W0 : World) (r0 r : Mem) (bo oo n : Nat) (bk ok : Nat → Nat) (M : Nat → Nat → Bool) : Prop where
 le : Mem.le r0 r
 row : ∀ x, x < n → r bo (oo + x) = some (RS (bk x) (ok x) n n)
 ne : ∀ x, x < n → bk x ≠ bo
 own : ∀ x, x < n → r.own (bk x) = true
 may : ∀ x, x < n → bk x < W0.heap.size → ∃ i g, γ0 i = some g ∧ g.blk = bk x
 new : ∀ x, x < n → ∀ k, r0 (bk x) k = none
 cell : ∀ x y, x < n → y < n → r (bk x) (ok x + y) = some (.bool (M x y))
 inj : ∀ x y, x < n → y < n → bk x = bk y → x = y
theorem MatM.set {γ0 : Gam} {W0 : World} {r0 r : Mem} {bo oo n : Nat} {bk ok : Nat → Nat} {M : Nat → Nat → Bool} (h : MatM γ0 W0 r0 r bo oo n bk ok M) {x y : Nat} (hx : x < n) (hy : y < n) : MatM γ0 W0 r0 (r.upd (bk x) (ok x + y) (.bool true)) bo oo n bk ok (setM M x y) := by
 refine ⟨⟨fun b k u hu => ?_, fun b k u hu => ?_, h.le.own⟩, fun i hi => ?_, h.ne, h.own, h.may, h.new, fun i j hi hj => ?_, h.inj⟩
 ·rw [Mem.upd_other _ _ (.inl fun e => by subst e; rw [h.new x hx k] at hu; cases hu)]
  exact h.le b k u hu
 ·by_cases e : b = bk x
  ·exact .inr fun k' => by rw [e]; exact h.new x hx k'
  ·rw [Mem.upd_other _ _ (.inl e)] at hu
   exact h.le.new b k u hu
 ·rw [Mem.upd_other _ _ (.inl fun e => h.ne x hx e.symm)]
  exact h.row i hi
 ·by_cases c : i = x ∧ j = y
  ·obtain ⟨rfl, rfl⟩ := c
   rw [Mem.upd_same]
   unfold setM
   rw [if_pos ⟨rfl, rfl⟩]
  ·rw [Mem.upd_other _ _ (if d : i = x then .inr fun e => c ⟨d, by subst d; omega⟩ else .inl fun e => d (h.inj i x hi hx e))]
   unfold setM
   rw [if_neg c]
   exact h.cell i j hi hj
theorem MatM.tab {γ0 : Gam} {W0 : World} {r0 r : Mem} {bo oo n : Nat} {bk ok : Nat → Nat} {M : Nat → Nat → Bool} (h : MatM γ0 W0 r0 r bo oo n bk ok M) (h1 : 1 ≤ n) : TabM r bo oo (tbM M n) := fun i l hl => by
 have hi : i < n := by have := (List.getElem?_eq_some_iff.1 hl).1; rwa [tbM_len] at this
 rw [tbM_get hi] at hl
 cases hl
 refine ⟨_, h.row i hi, .inr ⟨fun e => by have := congrArg List.length e; simp at this; omega, bk i, ok i, n, by simp, fun j x hj => ?_⟩⟩
 rw [List.getElem?_map] at hj
 by_cases c : j < n
 ·rw [List.getElem?_range c] at hj
  cases hj
  exact h.cell i j hi c
 ·rw [List.getElem?_eq_none (by simp; omega)] at hj
  cases hj
end Go.Proofs
namespace Go.Proofs
open Go Go.Ev Go.Num
theorem w1z (k : Nat) (hk : k ≤ 1000) : IntKind.wrap IntKind.i64 ((k : Int) + ((1 : Nat) : Int)) = ((k + 1 : Nat) : Int) := inc1' (by omega)
theorem e0z (o k : Nat) : Nat.add o (Nat.mul k 1) = o + k := by simp
section
variable {r0 : Mem} {bo oo n : Nat} {bk ok : Nat → Nat} {M : Nat → Nat → Bool} {F : Fence} {kk : Nat} {γ : Gam} {W : World}
theorem zt_rnd (hn : n ≤ 12) (hR : RankOk n M) (hF : Wide F) (hro : RoRel γ none F.round) (h0' : ∀ i, 0 ≤ i → γ i = none) {z x y : Nat} (hz : z < n) (hx : x < n) (hy : y < n) {r : Mem} (hM : MatM γ W r0 r bo oo n bk ok (fwM M z x y)) {ox : Nat → OutsG} {orr : OutsG} :
  ReachG Tryz.prog mZt 136 F kk γ W (.block 11 (.seq Ze0 (.cond (.tmp 127) (.seq Ze1 Ze2) .skip))) r (St.of lvZ8 (vZ8 (RS bo oo n 0) n z x y) [] []) (CanG Tryz.prog mZt 136 γ W ⟨lvZ8, fun r1 vs ms os => MatM γ W r0 r1 bo oo n bk ok (fwM M z x (y + 1)) ∧ vs = vZ8 (RS bo oo n 0) n z x y ∧ ms = [] ∧ os = []⟩ ox orr) := by
 have bx : Nat.blt x n = true := Nat.ble_eq_true_of_le (by omega)
 have by' : Nat.blt y n = true := Nat.ble_eq_true_of_le (by omega)
 have bz : Nat.blt z n = true := Nat.ble_eq_true_of_le (by omega)
 have cx := hM.cell x z hx hz
 have cz := hM.cell z y hz hy
 rw [fw_col hR] at cx
 rw [fw_row hR] at cz
 refine ReachG.blockC (ReachG.seqC (o1 := ⟨lvZ8 ++ [127], fun r1 vs ms os => r1 = r ∧ vs = vZ8 (RS bo oo n 0) n z x y ++ [some (.bool (M x z && M z y))] ∧ ms = [] ∧ os = []⟩) (ReachG.segS (C := SS r 2) rfl rfl (SS_ok r 2) (t := fun _ => none) TOk.nil (tm := .nil) (L' := 1) (d := 1) (L := 1) (n0 := 0) hF hro h0' [] (on := ⟨lvZ8 ++ [127], [], fun vs ms os => vs = vZ8 (RS bo oo n 0) n z x y ++ [some (.bool (M x z && M z y))] ∧ ms = [] ∧ os = []⟩) (ox := fun _ => Outs.no) (orr := Outs.no) (fun p hp => nomatch hp) ?_ (fun vs ms os h => IsG.here ⟨rfl, h⟩) (fun _ _ _ _ h => h.elim) (fun _ _ _ h => h.elim)) fun r1 vs ms os hq => ?_)
 ·have hn' := zeA r bo oo n z x y
  simp only [show ∀ x : Nat, Int.toNat (Int.ofNat x) = x from fun _ => rfl, bx, bz, by', e0z, hM.row x hx, hM.row z hz, ro_RS, ln_RS, bk_RS, of_RS, cx, cz, b_bl, o_bl, cond_true] at hn'
  cases q1 : M x z with
  | false =>
   simp only [q1, cond_false] at hn'
   exact (hn' _ _ _ _).trans (qq_ok ⟨rfl, rfl, rfl⟩)
  | true =>
   simp only [q1, cond_true] at hn'
   cases q2 : M z y with
   | false =>
    simp only [q2, cond_false] at hn'
    exact (hn' _ _ _ _).trans (qq_ok ⟨rfl, rfl, rfl⟩)
   | true =>
    simp only [q2, cond_true] at hn'
    exact (hn' _ _ _ _).trans (qq_ok ⟨rfl, rfl, rfl⟩)
 obtain ⟨rfl, rfl, rfl, rfl⟩ := hq
 refine ReachG.cond (v := (M x z && M z y)) (by kernel_rfl) (fun hv => ?_) fun hv => ?_
 ·rw [hv]
  refine ReachG.seqC (o1 := ⟨lvZ8 ++ [15], fun r2 vs ms os => r2 = r1 ∧ vs = vZ8 (RS bo oo n 0) n z x y ++ [some (RS (bk x) (ok x) n n)] ∧ ms = [] ∧ os = []⟩) (ReachG.segS (C := SS r1 2) rfl rfl (SS_ok r1 2) (t := fun _ => none) TOk.nil (tm := .nil) (L' := 1) (d := 1) (L := 1) (n0 := 0) hF hro h0' [] (on := ⟨lvZ8 ++ [15], [], fun vs ms os => vs = vZ8 (RS bo oo n 0) n z x y ++ [some (RS (bk x) (ok x) n n)] ∧ ms = [] ∧ os = []⟩) (ox := fun _ => Outs.no) (orr := Outs.no) (fun p hp => nomatch hp) ?_ (fun vs ms os h => IsG.here ⟨rfl, h⟩) (fun _ _ _ _ h => h.elim) (fun _ _ _ h => h.elim)) fun r2 vs ms os hq => ?_
  ·have hn' := zeB r1 bo oo n z x y
   simp only [show ∀ x : Nat, Int.toNat (Int.ofNat x) = x from fun _ => rfl, bx, e0z, hM.row x hx, ro_RS, ln_RS, bk_RS, of_RS, cp_RS, cond_true] at hn'
   exact (hn' _ _ _ _).trans (qq_ok ⟨rfl, rfl, rfl⟩)
  obtain ⟨rfl, rfl, rfl, rfl⟩ := hq
  refine ReachG.storeC (fl := []) SC_ok hF h0' TOk.nil (tm := .nil) (L := 1) (d := 1) 3 (s1 := [(134, .pointer (some ⟨bk x, ok x + y, some 0⟩)), (133, I (y : Nat)), (132, RS (bk x) (ok x) n n)]) (b1 := bT (lvZ8 ++ [15]) (vZ8 (RS bo oo n 0) n z x y ++ [some (RS (bk x) (ok x) n n)]) .nil) (ms1 := []) (A1 := mkA []) (bb := bk x) (j := ok x + y) (v := .bool true) ?_ (by kernel_rfl) (hM.own x hx) (hM.cell x y hx hy) rfl rfl rfl (hM.may x hx) ?_
  ·have hn' := zeC r2 bo oo n z x y (bk x) (ok x)
   simp only [show ∀ x : Nat, Int.toNat (Int.ofNat x) = x from fun _ => rfl, by', e0z, cond_true] at hn'
   exact (hn' _ _).trans (qn_ok rfl)
  ·refine ⟨fun _ => none, TOk.nil, .nil, 1, 1, ?_⟩
   have hM2 := hM.set hx hy
   rw [fw_set hR hv] at hM2
   exact (zeD _ bo oo n z x y (bk x) (ok x) _ _).trans (qq_ok ⟨hM2, rfl, rfl, rfl⟩)
 ·rw [hv]
  refine ReachG.segR (SC_ok r1) TOk.nil (tm := .nil) (L := 1) (L' := 1) (d := 1) (n0 := 0) hF hro h0' [] (on := ⟨lvZ8, [], fun vs ms os => vs = vZ8 (RS bo oo n 0) n z x y ∧ ms = [] ∧ os = []⟩) (ox := fun _ => Outs.no) (orr := Outs.no) (fun p hp => nomatch hp) ((zeS r1 bo oo n z x y _ _ _ _).trans (qq_ok ⟨rfl, rfl, rfl⟩)) (fun vs ms os h => IsG.here ⟨?_, h⟩) (fun _ _ _ _ h => h.elim) (fun _ _ _ h => h.elim)
  rw [← fw_skip hR hv]
  exact hM
theorem zt_y (hn : n ≤ 12) (hR : RankOk n M) (hF : Wide F) (hro : RoRel γ none F.round) (h0' : ∀ i, 0 ≤ i → γ i = none) {z x : Nat} (hz : z < n) (hx : x < n) {r : Mem} (hM : MatM γ W r0 r bo oo n bk ok (fwM M z x 0)) {ox : Nat → OutsG} {orr : OutsG} :
  ReachG Tryz.prog mZt 136 F kk γ W (.block 10 (.loop Zt_17)) r (St.of lvZ8 (vZ8 (RS bo oo n 0) n z x 0) [] []) (CanG Tryz.prog mZt 136 γ W ⟨lvZ7, fun r1 vs ms os => MatM γ W r0 r1 bo oo n bk ok (fwM M z (x + 1) 0) ∧ vs = vZ7 (RS bo oo n 0) n z x ∧ ms = [] ∧ os = []⟩ ox orr) := by
 refine ReachG.blockC (ReachG.loopC (j := n) (lv := lvZ8) (I := fun j r1 vs ms os => ∃ y : Nat, y ≤ n ∧ j = n - y ∧ MatM γ W r0 r1 bo oo n bk ok (fwM M z x y) ∧ vs = vZ8 (RS bo oo n 0) n z x y ∧ ms = [] ∧ os = []) (fun j r1 vs ms os hI => ?_) ⟨0, by omega, rfl, hM, rfl, rfl, rfl⟩)
 obtain ⟨y, hy, rfl, hM1, rfl, rfl, rfl⟩ := hI
 rw [Zt17_eq]
 refine ReachG.seqC (o1 := ⟨lvZ8, fun r2 vs ms os => r2 = r1 ∧ y < n ∧ vs = vZ8 (RS bo oo n 0) n z x y ∧ ms = [] ∧ os = []⟩) (ReachG.segR (SC_ok r1) TOk.nil (tm := .nil) (L := 1) (L' := 1) (d := 1) (n0 := 0) hF hro h0' [(10, ⟨lvZ7, [], fun vs ms os => y = n ∧ vs = vZ7 (RS bo oo n 0) n z x ∧ ms = [] ∧ os = []⟩)] (on := ⟨lvZ8, [], fun vs ms os => y < n ∧ vs = vZ8 (RS bo oo n 0) n z x y ∧ ms = [] ∧ os = []⟩) (ox := fun j => if j = 10 then ⟨lvZ7, [], fun vs ms os => y = n ∧ vs = vZ7 (RS bo oo n 0) n z x ∧ ms = [] ∧ os = []⟩ else Outs.no) (orr := Outs.no) (fun p hp => by simp only [List.mem_cons, List.not_mem_nil, or_false] at hp; subst hp; rfl) ?_ (fun vs ms os h => IsG.here ⟨rfl, h⟩) (fun id vs ms os h => ?_) (fun _ _ _ h => h.elim)) fun r2 vs ms os hq => ?_
 ·have hn' := zdA r1 bo oo n z x y
  simp only [Int.ofNat_eq_natCast] at hn'
  by_cases c : y < n
  ·simp only [dT (show (y : Int) < (n : Int) by omega), cond_true] at hn'
   exact (hn' _ _ _ _).trans (qq_ok ⟨c, rfl, rfl, rfl⟩)
  ·simp only [dF (show ¬ (y : Int) < (n : Int) by omega), cond_false] at hn'
   exact (hn' _ _ _ _).trans (qq_ok ⟨by omega, rfl, rfl, rfl⟩)
 ·by_cases e : id = 10
  ·subst e
   obtain ⟨rfl, rfl, rfl, rfl⟩ := h
   rw [fw_next hR] at hM1
   exact IsG.here ⟨hM1, rfl, rfl, rfl⟩
  ·simp only [if_neg e] at h; exact h.elim
 obtain ⟨rfl, c, rfl, rfl, rfl⟩ := hq
 refine ReachG.seqC (zt_rnd hn hR hF hro h0' hz hx c hM1) fun r3 vs ms os hq => ?_
 obtain ⟨hM3, rfl, rfl, rfl⟩ := hq
 refine ReachG.segR (SC_ok r3) TOk.nil (tm := .nil) (L := 1) (L' := 1) (d := 1) (n0 := 0) hF hro h0' [] (on := ⟨lvZ8, [], fun vs ms os => vs = vZ8 (RS bo oo n 0) n z x (y + 1) ∧ ms = [] ∧ os = []⟩) (ox := fun _ => Outs.no) (orr := Outs.no) (fun p hp => nomatch hp) ?_ (fun vs ms os h => IsG.here ⟨n - (y + 1), by omega, y + 1, c, rfl, hM3, h⟩) (fun _ _ _ _ h => h.elim) (fun _ _ _ h => h.elim)
 have hn' := zfA r3 bo oo n z x y
 simp only [Int.ofNat_eq_natCast] at hn'
 rw [w1z y (by omega)] at hn'
 exact (hn' _ _ _ _).trans (qq_ok ⟨rfl, rfl, rfl⟩)
theorem zt_x (hn : n ≤ 12) (hR : RankOk n M) (hF : Wide F) (hro : RoRel γ none F.round) (h0' : ∀ i, 0 ≤ i → γ i = none) {z : Nat} (hz : z < n) {r : Mem} (hM : MatM γ W r0 r bo oo n bk ok M) {ox : Nat → OutsG} {orr : OutsG} :
  ReachG Tryz.prog mZt 136 F kk γ W (.block 8 (.loop (.seq Zt_15 (.seq (.block 9 (.seq Zt_16 (.block 10 (.loop Zt_17)))) Zt_18)))) r (St.of lvZ7 (vZ7 (RS bo oo n 0) n z 0) [] []) (CanG Tryz.prog mZt 136 γ W ⟨lvZ6, fun r1 vs ms os => MatM γ W r0 r1 bo oo n bk ok (fwM M z n 0) ∧ vs = vZ6 (RS bo oo n 0) n z ∧ ms = [] ∧ os = []⟩ ox orr) := by
 refine ReachG.blockC (ReachG.loopC (j := n) (lv := lvZ7) (I := fun j r1 vs ms os => ∃ x : Nat, x ≤ n ∧ j = n - x ∧ MatM γ W r0 r1 bo oo n bk ok (fwM M z x 0) ∧ vs = vZ7 (RS bo oo n 0) n z x ∧ ms = [] ∧ os = []) (fun j r1 vs ms os hI => ?_) ⟨0, by omega, rfl, by rw [fw_zero]; exact hM, rfl, rfl, rfl⟩)
 obtain ⟨x, hx, rfl, hM1, rfl, rfl, rfl⟩ := hI
 refine ReachG.seqC (o1 := ⟨lvZ7, fun r2 vs ms os => r2 = r1 ∧ x < n ∧ vs = vZ7 (RS bo oo n 0) n z x ∧ ms = [] ∧ os = []⟩) (ReachG.segR (SC_ok r1) TOk.nil (tm := .nil) (L := 1) (L' := 1) (d := 1) (n0 := 0) hF hro h0' [(8, ⟨lvZ6, [], fun vs ms os => x = n ∧ vs = vZ6 (RS bo oo n 0) n z ∧ ms = [] ∧ os = []⟩)] (on := ⟨lvZ7, [], fun vs ms os => x < n ∧ vs = vZ7 (RS bo oo n 0) n z x ∧ ms = [] ∧ os = []⟩) (ox := fun j => if j = 8 then ⟨lvZ6, [], fun vs ms os => x = n ∧ vs = vZ6 (RS bo oo n 0) n z ∧ ms = [] ∧ os = []⟩ else Outs.no) (orr := Outs.no) (fun p hp => by simp only [List.mem_cons, List.not_mem_nil, or_false] at hp; subst hp; rfl) ?_ (fun vs ms os h => IsG.here ⟨rfl, h⟩) (fun id vs ms os h => ?_) (fun _ _ _ h => h.elim)) fun r2 vs ms os hq => ?_
 ·have hn' := ztP r1 bo oo n z x
  simp only [Int.ofNat_eq_natCast] at hn'
  by_cases c : x < n
  ·simp only [dT (show (x : Int) < (n : Int) by omega), cond_true] at hn'
   exact (hn' _ _ _ _).trans (qq_ok ⟨c, rfl, rfl, rfl⟩)
  ·simp only [dF (show ¬ (x : Int) < (n : Int) by omega), cond_false] at hn'
   exact (hn' _ _ _ _).trans (qq_ok ⟨by omega, rfl, rfl, rfl⟩)
 ·by_cases e : id = 8
  ·subst e
   obtain ⟨rfl, rfl, rfl, rfl⟩ := h
   exact IsG.here ⟨hM1, rfl, rfl, rfl⟩
  ·simp only [if_neg e] at h; exact h.elim
 obtain ⟨rfl, c, rfl, rfl, rfl⟩ := hq
 refine ReachG.seqC (o1 := ⟨lvZ7, fun r3 vs ms os => MatM γ W r0 r3 bo oo n bk ok (fwM M z (x + 1) 0) ∧ vs = vZ7 (RS bo oo n 0) n z x ∧ ms = [] ∧ os = []⟩) (ReachG.blockC (ReachG.seqC (o1 := ⟨lvZ8, fun r3 vs ms os => r3 = r2 ∧ vs = vZ8 (RS bo oo n 0) n z x 0 ∧ ms = [] ∧ os = []⟩) (ReachG.segR (SC_ok r2) TOk.nil (tm := .nil) (L := 1) (L' := 1) (d := 1) (n0 := 0) hF hro h0' [] (on := ⟨lvZ8, [], fun vs ms os => vs = vZ8 (RS bo oo n 0) n z x 0 ∧ ms = [] ∧ os = []⟩) (ox := fun _ => Outs.no) (orr := Outs.no) (fun p hp => nomatch hp) ((ztQ r2 bo oo n z x _ _ _ _).trans (qq_ok ⟨rfl, rfl, rfl⟩)) (fun vs ms os h => IsG.here ⟨rfl, h⟩) (fun _ _ _ _ h => h.elim) (fun _ _ _ h => h.elim)) fun r3 vs ms os hq => ?_)) fun r3 vs ms os hq => ?_
 ·obtain ⟨rfl, rfl, rfl, rfl⟩ := hq
  exact zt_y hn hR hF hro h0' hz c hM1
 obtain ⟨hM3, rfl, rfl, rfl⟩ := hq
 refine ReachG.segR (SC_ok r3) TOk.nil (tm := .nil) (L := 1) (L' := 1) (d := 1) (n0 := 0) hF hro h0' [] (on := ⟨lvZ7, [], fun vs ms os => vs = vZ7 (RS bo oo n 0) n z (x + 1) ∧ ms = [] ∧ os = []⟩) (ox := fun _ => Outs.no) (orr := Outs.no) (fun p hp => nomatch hp) ?_ (fun vs ms os h => IsG.here ⟨n - (x + 1), by omega, x + 1, c, rfl, hM3, h⟩) (fun _ _ _ _ h => h.elim) (fun _ _ _ h => h.elim)
 have hn' := ztR r3 bo oo n z x
 simp only [Int.ofNat_eq_natCast] at hn'
 rw [w1z x (by omega)] at hn'
 exact (hn' _ _ _ _).trans (qq_ok ⟨rfl, rfl, rfl⟩)
theorem zt_z (hn : n ≤ 12) (hR : RankOk n M) (hF : Wide F) (hro : RoRel γ none F.round) (h0' : ∀ i, 0 ≤ i → γ i = none) {r : Mem} (hM : MatM γ W r0 r bo oo n bk ok M) {ox : Nat → OutsG} {orr : OutsG} :
  ReachG Tryz.prog mZt 136 F kk γ W (.block 6 (.loop (.seq Zt_13 (.seq (.block 7 (.seq Zt_14 (.block 8 (.loop (.seq Zt_15 (.seq (.block 9 (.seq Zt_16 (.block 10 (.loop Zt_17)))) Zt_18)))))) Zt_19)))) r (St.of lvZ6 (vZ6 (RS bo oo n 0) n 0) [] []) (CanG Tryz.prog mZt 136 γ W ⟨[5], fun r1 vs ms os => (∃ M', RankOk n M' ∧ TrP n M' ∧ MatM γ W r0 r1 bo oo n bk ok M') ∧ vs = [some (RS bo oo n 0)] ∧ ms = [] ∧ os = []⟩ ox orr) := by
 refine ReachG.blockC (ReachG.loopC (j := n) (lv := lvZ6) (I := fun j r1 vs ms os => ∃ z : Nat, z ≤ n ∧ j = n - z ∧ (∃ M', RankOk n M' ∧ TrP z M' ∧ MatM γ W r0 r1 bo oo n bk ok M') ∧ vs = vZ6 (RS bo oo n 0) n z ∧ ms = [] ∧ os = []) (fun j r1 vs ms os hI => ?_) ⟨0, by omega, rfl, ⟨M, hR, fun k hk => absurd hk (by omega), hM⟩, rfl, rfl, rfl⟩)
 obtain ⟨z, hz, rfl, ⟨M', hR', hT', hM1⟩, rfl, rfl, rfl⟩ := hI
 refine ReachG.seqC (o1 := ⟨lvZ6, fun r2 vs ms os => r2 = r1 ∧ z < n ∧ vs = vZ6 (RS bo oo n 0) n z ∧ ms = [] ∧ os = []⟩) (ReachG.segR (SC_ok r1) TOk.nil (tm := .nil) (L := 1) (L' := 1) (d := 1) (n0 := 0) hF hro h0' [(6, ⟨[5], [], fun vs ms os => z = n ∧ vs = [some (RS bo oo n 0)] ∧ ms = [] ∧ os = []⟩)] (on := ⟨lvZ6, [], fun vs ms os => z < n ∧ vs = vZ6 (RS bo oo n 0) n z ∧ ms = [] ∧ os = []⟩) (ox := fun j => if j = 6 then ⟨[5], [], fun vs ms os => z = n ∧ vs = [some (RS bo oo n 0)] ∧ ms = [] ∧ os = []⟩ else Outs.no) (orr := Outs.no) (fun p hp => by simp only [List.mem_cons, List.not_mem_nil, or_false] at hp; subst hp; rfl) ?_ (fun vs ms os h => IsG.here ⟨rfl, h⟩) (fun id vs ms os h => ?_) (fun _ _ _ h => h.elim)) fun r2 vs ms os hq => ?_
 ·have hn' := ztN r1 bo oo n z
  simp only [Int.ofNat_eq_natCast] at hn'
  by_cases c : z < n
  ·simp only [dT (show (z : Int) < (n : Int) by omega), cond_true] at hn'
   exact (hn' _ _ _ _).trans (qq_ok ⟨c, rfl, rfl, rfl⟩)
  ·simp only [dF (show ¬ (z : Int) < (n : Int) by omega), cond_false] at hn'
   exact (hn' _ _ _ _).trans (qq_ok ⟨by omega, rfl, rfl, rfl⟩)
 ·by_cases e : id = 6
  ·subst e
   obtain ⟨rfl, rfl, rfl, rfl⟩ := h
   exact IsG.here ⟨⟨M', hR', hT', hM1⟩, rfl, rfl, rfl⟩
  ·simp only [if_neg e] at h; exact h.elim
 obtain ⟨rfl, c, rfl, rfl, rfl⟩ := hq
 refine ReachG.seqC (o1 := ⟨lvZ6, fun r3 vs ms os => MatM γ W r0 r3 bo oo n bk ok (fwM M' z n 0) ∧ vs = vZ6 (RS bo oo n 0) n z ∧ ms = [] ∧ os = []⟩) (ReachG.blockC (ReachG.seqC (o1 := ⟨lvZ7, fun r3 vs ms os => r3 = r2 ∧ vs = vZ7 (RS bo oo n 0) n z 0 ∧ ms = [] ∧ os = []⟩) (ReachG.segR (SC_ok r2) TOk.nil (tm := .nil) (L := 1) (L' := 1) (d := 1) (n0 := 0) hF hro h0' [] (on := ⟨lvZ7, [], fun vs ms os => vs = vZ7 (RS bo oo n 0) n z 0 ∧ ms = [] ∧ os = []⟩) (ox := fun _ => Outs.no) (orr := Outs.no) (fun p hp => nomatch hp) ((ztO r2 bo oo n z _ _ _ _).trans (qq_ok ⟨rfl, rfl, rfl⟩)) (fun vs ms os h => IsG.here ⟨rfl, h⟩) (fun _ _ _ _ h => h.elim) (fun _ _ _ h => h.elim)) fun r3 vs ms os hq => ?_)) fun r3 vs ms os hq => ?_
 ·obtain ⟨rfl, rfl, rfl, rfl⟩ := hq
  exact zt_x hn hR' hF hro h0' c hM1
 obtain ⟨hM3, rfl, rfl, rfl⟩ := hq
 refine ReachG.segR (SC_ok r3) TOk.nil (tm := .nil) (L := 1) (L' := 1) (d := 1) (n0 := 0) hF hro h0' [] (on := ⟨lvZ6, [], fun vs ms os => vs = vZ6 (RS bo oo n 0) n (z + 1) ∧ ms = [] ∧ os = []⟩) (ox := fun _ => Outs.no) (orr := Outs.no) (fun p hp => nomatch hp) ?_ (fun vs ms os h => IsG.here ⟨n - (z + 1), by omega, z + 1, c, rfl, ⟨_, fw_rank hR', fw_tr hR' hT', hM3⟩, h⟩) (fun _ _ _ _ h => h.elim) (fun _ _ _ h => h.elim)
 have hn' := ztS r3 bo oo n z
 simp only [Int.ofNat_eq_natCast] at hn'
 rw [w1z z (by omega)] at hn'
 exact (hn' _ _ _ _).trans (qq_ok ⟨rfl, rfl, rfl⟩)
end
end Go.Proofs
namespace Go.Proofs
open Go Go.Ev Go.Num
theorem zT {p : Prop} {i : Decidable p} (h : p) {a b c : CR} (e : a = c) : (bif @decide p i then a else b) = c := by rw [@decide_eq_true _ i h]; exact e
theorem zF {p : Prop} {i : Decidable p} (h : ¬ p) {a b c : CR} (e : b = c) : (bif @decide p i then a else b) = c := by rw [@decide_eq_false _ i h]; exact e
theorem tmod5 {n x : Nat} (hn : 1 ≤ n) (hx : x ≤ 1000) : Int.tmod (IntKind.wrap IntKind.i64 (IntKind.wrap IntKind.i64 (((5 : Nat) : Int) * ((x : Nat) : Int)) + ((1 : Nat) : Int))) ((n : Nat) : Int) = (((5 * x + 1) % n : Nat) : Int) := by
 have e1 : IntKind.wrap IntKind.i64 (((5 : Nat) : Int) * ((x : Nat) : Int)) = ((5 * x : Nat) : Int) := by
  rw [← Int.natCast_mul]
  exact wrI (by omega)
 rw [e1, show IntKind.wrap IntKind.i64 (((5 * x : Nat) : Int) + ((1 : Nat) : Int)) = ((5 * x + 1 : Nat) : Int) from inc1' (by omega)]
 exact (Int.ofNat_tmod _ _).symm
section
variable {r0 : Mem} {bp op m bo oo n : Nat} {bk ok : Nat → Nat} {T : List (List Bool)} {F : Fence} {kk : Nat} {γ : Gam} {W : World}
theorem zu_rnd (h1 : 1 ≤ n) (hn : n ≤ 12) (hp : TabM r0 bp op T) (hTl : T.length = m) (hm : m ≤ 1000) (hF : Wide F) (hro : RoRel γ none F.round) (h0' : ∀ i, 0 ≤ i → γ i = none) {x y : Nat} (hxy : x < y) (hy : y < n) {r : Mem} {M : Nat → Nat → Bool} (hR : RankOk n M) (hM : MatM γ W r0 r bo oo n bk ok M) {ox : Nat → OutsG} {orr : OutsG} :
  ReachG Tryz.prog mZt 136 F kk γ W (.block 5 (.seq Zb0 (.seq Zb1 (.cond (.tmp 89) (.seq Zb2 Zb3) .skip)))) r (St.of lvZ3 (vZ3 (RS bp op m 0) (RS bo oo n 0) n x y) [] []) (CanG Tryz.prog mZt 136 γ W ⟨lvZ3, fun r1 vs ms os => (∃ M', RankOk n M' ∧ MatM γ W r0 r1 bo oo n bk ok M') ∧ vs = vZ3 (RS bp op m 0) (RS bo oo n 0) n x y ∧ ms = [] ∧ os = []⟩ ox orr) := by
 generalize ha : (5 * x + 1) % n = a
 generalize hb : (5 * y + 1) % n = b
 have han : a < n := by rw [← ha]; exact Nat.mod_lt _ (by omega)
 have hbn : b < n := by rw [← hb]; exact Nat.mod_lt _ (by omega)
 refine ReachG.blockC (ReachG.seqC (o1 := ⟨lvZ4, fun r1 vs ms os => r1 = r ∧ vs = vZ4 (RS bp op m 0) (RS bo oo n 0) n x y a b ∧ ms = [] ∧ os = []⟩) (ReachG.segR (SC_ok r) TOk.nil (tm := .nil) (L := 1) (L' := 1) (d := 1) (n0 := 0) hF hro h0' [] (on := ⟨lvZ4, [], fun vs ms os => vs = vZ4 (RS bp op m 0) (RS bo oo n 0) n x y a b ∧ ms = [] ∧ os = []⟩) (ox := fun _ => Outs.no) (orr := Outs.no) (fun p hp => nomatch hp) ?_ (fun vs ms os h => IsG.here ⟨rfl, h⟩) (fun _ _ _ _ h => h.elim) (fun _ _ _ h => h.elim)) fun r1 vs ms os hq => ?_)
 ·have hn' := zbA r bp op m n bo oo x y
  have z0 : (!decide ((n : Int) = 0)) = true := by rw [decide_eq_false (by omega)]; rfl
  simp only [Int.ofNat_eq_natCast, z0, cond_true] at hn'
  rw [tmod5 h1 (by omega), tmod5 h1 (by omega), ha, hb] at hn'
  exact (hn' _ _ _ _).trans (qq_ok ⟨rfl, rfl, rfl⟩)
 obtain ⟨rfl, rfl, rfl, rfl⟩ := hq
 have hp1 : ∀ i l, T[i]? = some l → ∃ v, r1 bp (op + i) = some v ∧ RowV r1 v l := fun i l hl => by
  obtain ⟨v, h2, h3⟩ := hp i l hl
  exact ⟨v, hM.le _ _ _ h2, h3.mono hM.le⟩
 have hp1 : TabM r1 bp op T := hp1
 refine ReachG.seqC (o1 := ⟨lvZ5, fun r2 vs ms os => r2 = r1 ∧ ∃ v : Bool, (v = true → n % 5 ≠ 0) ∧ vs = vZ4 (RS bp op m 0) (RS bo oo n 0) n x y a b ++ [some (.bool v)] ∧ ms = [] ∧ os = []⟩) ?_ fun r2 vs ms os hq => ?_
 ·have fin : ∀ {ox' : Nat → OutsG} (sh : Nat) (v : Bool), (v = true → n % 5 ≠ 0) → (∀ (fs : FnsC) (K : OV → List Nat → OO → CR) (kx : Nat → KS) (kr : KS), run (SS r1 sh) mZt 136 1 Zb1 fs none (rbK 0 lvZ5 [] K) kx kr [] (bT lvZ4 (vZ4 (RS bp op m 0) (RS bo oo n 0) n x y a b) .nil) [] (mkA []) = K (vZ4 (RS bp op m 0) (RS bo oo n 0) n x y a b ++ [some (.bool v)]) [] []) →
    ReachG Tryz.prog mZt 136 F kk γ W Zb1 r1 (St.of lvZ4 (vZ4 (RS bp op m 0) (RS bo oo n 0) n x y a b) [] []) (CanG Tryz.prog mZt 136 γ W ⟨lvZ5, fun r2 vs ms os => r2 = r1 ∧ ∃ v : Bool, (v = true → n % 5 ≠ 0) ∧ vs = vZ4 (RS bp op m 0) (RS bo oo n 0) n x y a b ++ [some (.bool v)] ∧ ms = [] ∧ os = []⟩ ox' orr) := fun {ox'} sh v hv h =>
   ReachG.segS (C := SS r1 sh) rfl rfl (SS_ok r1 sh) (t := fun _ => none) TOk.nil (tm := .nil) (L' := 1) (d := 1) (L := 1) (n0 := 0) hF hro h0' [] (on := ⟨lvZ5, [], fun vs ms os => vs = vZ4 (RS bp op m 0) (RS bo oo n 0) n x y a b ++ [some (.bool v)] ∧ ms = [] ∧ os = []⟩) (ox := fun _ => Outs.no) (orr := Outs.no) (fun p hp => nomatch hp) ((h _ _ _ _).trans (qq_ok ⟨rfl, rfl, rfl⟩)) (fun vs ms os h => IsG.here ⟨rfl, v, hv, h⟩) (fun _ _ _ _ h => h.elim) (fun _ _ _ h => h.elim)
  by_cases cab : a = b
  ·refine fin 1 false (fun h => nomatch h) fun fs K kx kr => ?_
   have hn' := zbBN r1 bp op m n bo oo x y a b
   simp only [Int.ofNat_eq_natCast, show ((a : Int) != (b : Int)) = false from neF (by omega), cond_false] at hn'
   exact hn' _ _ _ _
  ·have cab' : ((a : Int) != (b : Int)) = true := neT (by omega)
   by_cases cx : x < m
   ·have bx : Nat.blt x m = true := Nat.ble_eq_true_of_le (by omega)
    by_cases hz : (T.getD x []).length = 0
    ·obtain ⟨u, hu, hr⟩ := tab_row hp1 (i := x) (by omega)
     have hun : u = nilT := by
      rcases hr with ⟨_, h⟩ | ⟨h, _⟩
      ·exact h
      ·exact absurd (List.length_eq_zero_iff.1 hz) h
     subst hun
     refine fin 1 false (fun h => nomatch h) fun fs K kx kr => ?_
     have hn' := zbBN r1 bp op m n bo oo x y a b
     simp only [Int.ofNat_eq_natCast, Int.toNat_natCast, cab', dT (show (x : Int) < (m : Int) by omega), bx, e0z, hu, show isNilS nilT = true from rfl, cond_true] at hn'
     exact hn' _ _ _ _
    ·obtain ⟨b2, o2, c2, hu, hr⟩ := tab_RS hp1 (i := x) (by omega) hz
     have hn' := zbBR r1 bp op m n bo oo x y a b
     simp only [Int.ofNat_eq_natCast, Int.toNat_natCast, cab', dT (show (x : Int) < (m : Int) by omega), bx, e0z, hu, ro_RS, ln_RS, bk_RS, of_RS, cond_true] at hn'
     by_cases cy : y < (T.getD x []).length
     ·have by' : Nat.blt y (T.getD x []).length = true := Nat.ble_eq_true_of_le (by omega)
      simp only [by', hr y cy, b_bl, o_bl, cond_true] at hn'
      cases hg : gT T x y with
      | false =>
       refine fin 2 false (fun h => nomatch h) fun fs K kx kr => (hn' _ _ _ _).trans (zT (by omega) ?_)
       simp only [hg, cond_false]
       rfl
      | true =>
       by_cases c5 : n % 5 = 0
       ·refine fin 2 false (fun h => nomatch h) fun fs K kx kr => (hn' _ _ _ _).trans (zT (by omega) ?_)
        have e5 : (Int.tmod ((n : Nat) : Int) ((5 : Nat) : Int) != ((0 : Nat) : Int)) = false := neF (by rw [← Int.ofNat_tmod]; omega)
        simp only [hg, cond_true, e5, cond_false]
        rfl
       ·refine fin 2 true (fun _ => c5) fun fs K kx kr => (hn' _ _ _ _).trans (zT (by omega) ?_)
        have e5 : (Int.tmod ((n : Nat) : Int) ((5 : Nat) : Int) != ((0 : Nat) : Int)) = true := neT (by rw [← Int.ofNat_tmod]; omega)
        simp only [hg, cond_true, e5]
        rfl
     ·exact fin 2 false (fun h => nomatch h) fun fs K kx kr => (hn' _ _ _ _).trans (zF (by omega) rfl)
   ·refine fin 1 false (fun h => nomatch h) fun fs K kx kr => ?_
    have hn' := zbBN r1 bp op m n bo oo x y a b
    simp only [Int.ofNat_eq_natCast, cab', dF (show ¬ (x : Int) < (m : Int) by omega), cond_true, cond_false] at hn'
    exact hn' _ _ _ _
 obtain ⟨rfl, v, hv5, rfl, rfl, rfl⟩ := hq
 refine ReachG.cond (v := v) (by kernel_rfl) (fun hv => ?_) fun hv => ?_
 ·subst hv
  have ban : Nat.blt a n = true := Nat.ble_eq_true_of_le (by omega)
  have bbn : Nat.blt b n = true := Nat.ble_eq_true_of_le (by omega)
  refine ReachG.seqC (o1 := ⟨[3, 4, 5, 7, 8, 10, 11], fun r3 vs ms os => r3 = r2 ∧ vs = [some (RS bp op m 0), some (I (n : Nat)), some (RS bo oo n 0), some (I (x : Nat)), some (I (y : Nat)), some (I (b : Nat)), some (RS (bk a) (ok a) n n)] ∧ ms = [] ∧ os = []⟩) (ReachG.segS (C := SS r2 2) rfl rfl (SS_ok r2 2) (t := fun _ => none) TOk.nil (tm := .nil) (L' := 1) (d := 1) (L := 1) (n0 := 0) hF hro h0' [] (on := ⟨[3, 4, 5, 7, 8, 10, 11], [], fun vs ms os => vs = [some (RS bp op m 0), some (I (n : Nat)), some (RS bo oo n 0), some (I (x : Nat)), some (I (y : Nat)), some (I (b : Nat)), some (RS (bk a) (ok a) n n)] ∧ ms = [] ∧ os = []⟩) (ox := fun _ => Outs.no) (orr := Outs.no) (fun p hp => nomatch hp) ?_ (fun vs ms os h => IsG.here ⟨rfl, h⟩) (fun _ _ _ _ h => h.elim) (fun _ _ _ h => h.elim)) fun r3 vs ms os hq => ?_
  ·have hn' := zbC r2 bp op m n bo oo x y a b
   simp only [show ∀ x : Nat, Int.toNat (Int.ofNat x) = x from fun _ => rfl, ban, e0z, hM.row a han, ro_RS, ln_RS, bk_RS, of_RS, cp_RS, cond_true] at hn'
   exact (hn' _ _ _ _).trans (qq_ok ⟨rfl, rfl, rfl⟩)
  obtain ⟨rfl, rfl, rfl, rfl⟩ := hq
  refine ReachG.storeC (fl := []) SC_ok hF h0' TOk.nil (tm := .nil) (L := 1) (d := 1) 3 (s1 := [(96, .pointer (some ⟨bk a, ok a + b, some 0⟩)), (95, I (b : Nat)), (94, RS (bk a) (ok a) n n)]) (b1 := bT [3, 4, 5, 7, 8, 10, 11] [some (RS bp op m 0), some (I (n : Nat)), some (RS bo oo n 0), some (I (x : Nat)), some (I (y : Nat)), some (I (b : Nat)), some (RS (bk a) (ok a) n n)] .nil) (ms1 := []) (A1 := mkA []) (bb := bk a) (j := ok a + b) (v := .bool true) ?_ (by kernel_rfl) (hM.own a han) (hM.cell a b han hbn) rfl rfl rfl (hM.may a han) ?_
  ·have hn' := zbD r3 bp op m n bo oo x y b (bk a) (ok a)
   simp only [show ∀ x : Nat, Int.toNat (Int.ofNat x) = x from fun _ => rfl, bbn, e0z, cond_true] at hn'
   exact (hn' _ _).trans (qn_ok rfl)
  ·refine ⟨fun _ => none, TOk.nil, .nil, 1, 1, ?_⟩
   have hR2 := hR.set hn (hv5 rfl) hxy hy
   rw [ha, hb] at hR2
   exact (zbE _ bp op m n bo oo x y b (bk a) (ok a) _ _).trans (qq_ok ⟨⟨_, hR2, hM.set han hbn⟩, rfl, rfl, rfl⟩)
 ·subst hv
  exact ReachG.segR (SC_ok r2) TOk.nil (tm := .nil) (L := 1) (L' := 1) (d := 1) (n0 := 0) hF hro h0' [] (on := ⟨lvZ3, [], fun vs ms os => vs = vZ3 (RS bp op m 0) (RS bo oo n 0) n x y ∧ ms = [] ∧ os = []⟩) (ox := fun _ => Outs.no) (orr := Outs.no) (fun p hp => nomatch hp) ((zbS r2 bp op m n bo oo x y a b _ _ _ _).trans (qq_ok ⟨rfl, rfl, rfl⟩)) (fun vs ms os h => IsG.here ⟨⟨M, hR, hM⟩, h⟩) (fun _ _ _ _ h => h.elim) (fun _ _ _ h => h.elim)
end
end Go.Proofs
namespace Go.Proofs
open Go Go.Ev Go.Num
theorem frzZ (j b o n : Nat) (h : n < unk) : frzV j b o (.slice (some ⟨j, 0, none⟩) n n) = some (RS b o n n) := by
 show (match Nat.beq j j with | true => (match (Nat.beq n 0 && Nat.beq n unkE) with | true => some (Value.slice (some ⟨j, 0, none⟩) n n) | false => some (Value.slice (some ⟨b, o + 0, some 0⟩) n (frzC n))) | false => some (Value.slice (some ⟨j, 0, none⟩) n n)) = _
 rw [Nat.beq_refl, show Nat.beq n unkE = false from natFx (by unfold unkE; unfold unk at h; omega), Bool.and_false]
 have : frzC n = n := by
  unfold frzC
  rw [show Nat.blt n unk = true from Nat.ble_eq_true_of_le h]
 rw [this]; rfl
theorem frzU (j b o n : Nat) : frzV j b o (.slice (some ⟨j, 0, none⟩) n unk) = some (RS b o n 0) := by
 show (match Nat.beq j j with | true => (match (Nat.beq n 0 && Nat.beq unk unkE) with | true => some (Value.slice (some ⟨j, 0, none⟩) n unk) | false => some (Value.slice (some ⟨b, o + 0, some 0⟩) n (frzC unk))) | false => some (Value.slice (some ⟨j, 0, none⟩) n unk)) = _
 rw [Nat.beq_refl, show Nat.beq unk unkE = false by decide, Bool.and_false]
 rfl
theorem zerB (n : Nat) : zerosL (Nat.mul n 1) [.bool false] = List.replicate n (Value.bool false) := by
 show List.replicate (Nat.mul n 1) (Value.bool false) = _
 rw [Nat.mul_eq, Nat.mul_one]
theorem nnsRep (v : Value) (hv : nn v = true) : ∀ n, m_nns (List.replicate n v) = true
 | 0 => rfl
 | n + 1 => by
  have ih := nnsRep v hv n
  show (nn v && nns (List.replicate n v)) = true
  unfold m_nns at ih
  rw [hv, ih]; rfl
theorem isG_trans {P : Program} {m n : Nat} {γ0 : Gam} {W0 : World} {o1 o2 : OutsG} {r : Mem} {st : St} (h : IsG P m n γ0 W0 o1 r st) (hq : ∀ r vs ms os, o1.Q r vs ms os → IsG P m n γ0 W0 o2 r (St.of o1.lv vs ms os)) : IsG P m n γ0 W0 o2 r st := fun γ a W hs hb => by
 obtain ⟨r1, γ1, vs, ms, os, q, s, b⟩ := h γ a W hs hb
 exact hq r1 vs ms os q γ1 a W s b
structure RowsZ (γ0 : Gam) (W0 : World) (r0 r : Mem) (c : List Value) (n x : Nat) (bk ok : Nat → Nat) : Prop where
 le : Mem.le r0 r
 nn : m_nns c = true
 len : c.length = x
 row : ∀ i, i < x → c[i]? = some (RS (bk i) (ok i) n n)
 own : ∀ i, i < x → r.own (bk i) = true
 may : ∀ i, i < x → bk i < W0.heap.size → ∃ k g, γ0 k = some g ∧ g.blk = bk i
 new : ∀ i, i < x → ∀ k, r0 (bk i) k = none
 cell : ∀ i y, i < x → y < n → r (bk i) (ok i + y) = some (.bool false)
 inj : ∀ i j, i < x → j < x → bk i = bk j → i = j
theorem RowsZ.snoc {γ0 : Gam} {W0 : World} {r0 r r1 : Mem} {c : List Value} {n x : Nat} {bk ok : Nat → Nat} (h : RowsZ γ0 W0 r0 r c n x bk ok) (h1 : 1 ≤ n) {b o : Nat} (hle : Mem.le r r1) (hF : Frz γ0 W0 r r1 b) (hc : ∀ y, y < n → r1 b (o + y) = some (.bool false)) : RowsZ γ0 W0 r0 r1 (c ++ [RS b o n n]) n (x + 1) (fun i => if i = x then b else bk i) (fun i => if i = x then o else ok i) := by
 have old : ∀ i, i < x → bk i ≠ b := fun i hi e => by
  have := h.cell i 0 hi (by omega)
  rw [e, hF.fresh] at this
  cases this
 refine ⟨Mem.le_trans h.le hle, by rw [nns_app, h.nn]; rfl, by simp [h.len], fun i hi => ?_, fun i hi => ?_, fun i hi hlt => ?_, fun i hi k => ?_, fun i y hi hy => ?_, fun i j hi hj e => ?_⟩
 ·by_cases d : i = x
  ·subst d
   rw [List.getElem?_append_right (by rw [h.len]; exact Nat.le_refl _), h.len, Nat.sub_self, if_pos rfl, if_pos rfl]
   rfl
  ·rw [List.getElem?_append_left (by rw [h.len]; omega), if_neg d, if_neg d]
   exact h.row i (by omega)
 ·by_cases d : i = x
  ·rw [if_pos d]; exact hF.own
  ·rw [if_neg d, (hF.other _ (old i (by omega))).2]; exact h.own i (by omega)
 ·by_cases d : i = x
  ·simp only [if_pos d] at hlt ⊢; exact hF.may hlt
  ·simp only [if_neg d] at hlt ⊢; exact h.may i (by omega) hlt
 ·by_cases d : i = x
  ·rw [if_pos d]
   cases q : r0 b k with
   | none => rfl
   | some u => have := h.le _ _ _ q; rw [hF.fresh] at this; cases this
  ·rw [if_neg d]; exact h.new i (by omega) k
 ·by_cases d : i = x
  ·rw [if_pos d, if_pos d]; exact hc y hy
  ·rw [if_neg d, if_neg d]; exact hle _ _ _ (h.cell i y (by omega) hy)
 ·by_cases d : i = x
  ·by_cases f : j = x
   ·omega
   ·rw [if_pos d, if_neg f] at e
    exact absurd e.symm (old j (by omega))
  ·by_cases f : j = x
   ·rw [if_neg d, if_pos f] at e
    exact absurd e (old i (by omega))
   ·rw [if_neg d, if_neg f] at e
    exact h.inj i j (by omega) (by omega) e
theorem RowsZ.mat {γ0 : Gam} {W0 : World} {r0 r r1 : Mem} {c : List Value} {n : Nat} {bk ok : Nat → Nat} (h : RowsZ γ0 W0 r0 r c n n bk ok) (h1 : 1 ≤ n) {b o : Nat} (hle : Mem.le r r1) (hF : Frz γ0 W0 r r1 b) (hc : ∀ k u, c[k]? = some u → r1 b (o + k) = some u) : MatM γ0 W0 r0 r1 b o n bk ok (fun _ _ => false) := by
 have old : ∀ i, i < n → bk i ≠ b := fun i hi e => by
  have := h.cell i 0 hi (by omega)
  rw [e, hF.fresh] at this
  cases this
 exact ⟨Mem.le_trans h.le hle, fun i hi => hc i _ (h.row i hi), old, fun i hi => by rw [(hF.other _ (old i hi)).2]; exact h.own i hi, h.may, h.new, fun i y hi hy => hle _ _ _ (h.cell i y hi hy), h.inj⟩
section
variable {r0 : Mem} {bp op m n : Nat} {T : List (List Bool)} {F : Fence} {kk : Nat} {γ : Gam} {W : World}
theorem zv_x (h1 : 1 ≤ n) (hn : n ≤ 12) (hF : Wide F) (hro : RoRel γ none F.round) (h0' : ∀ i, 0 ≤ i → γ i = none) {ox : Nat → OutsG} {orr : OutsG} :
  ReachG Tryz.prog mZt 136 F kk γ W (.block 0 (.loop Zt_6)) r0 (St.of lvZ0 (vZ0 (RS bp op m 0) nilT n 0) [] []) (CanG Tryz.prog mZt 136 γ W ⟨[3, 4, 5], fun r1 vs ms os => ∃ bo oo bk ok, MatM γ W r0 r1 bo oo n bk ok (fun _ _ => false) ∧ vs = [some (RS bp op m 0), some (I (n : Nat)), some (RS bo oo n 0)] ∧ ms = [] ∧ os = []⟩ ox orr) := by
 have hunk : n < unk := by unfold unk; omega
 have b4 : Nat.ble n n = true := Nat.ble_eq_true_of_le (Nat.le_refl _)
 have b5 : Nat.ble n 1000000 = true := Nat.ble_eq_true_of_le (by omega)
 have zc : ∀ b o (r : Mem), (∀ k u, (List.replicate n (Value.bool false))[k]? = some u → r b (o + k) = some u) → ∀ y, y < n → r b (o + y) = some (.bool false) := fun b o r h y hy => h y _ (by rw [List.getElem?_replicate, if_pos hy])
 refine ReachG.blockC (ReachG.loopC (j := n) (lv := lvZ0) (I := fun j r1 vs ms os => ∃ x : Nat, x ≤ n ∧ j = n - x ∧ ms = [] ∧ ((x = 0 ∧ r1 = r0 ∧ vs = vZ0 (RS bp op m 0) nilT n 0 ∧ os = []) ∨ (1 ≤ x ∧ ∃ c bk ok, vs = vZ0 (RS bp op m 0) (gwT 0 x) n x ∧ os = [oTb c 0] ∧ RowsZ γ W r0 r1 c n x bk ok))) (fun j r1 vs ms os hI => ?_) ⟨0, by omega, rfl, rfl, .inl ⟨rfl, rfl, rfl, rfl⟩⟩)
 obtain ⟨x, hx, rfl, rfl, hcase⟩ := hI
 rcases hcase with ⟨rfl, rfl, rfl, rfl⟩ | ⟨hx1, c, bk, ok, rfl, rfl, hZ⟩
 ·refine ReachG.segR (SC_ok r1) TOk.nil (tm := .nil) (L := 1) (L' := 1) (d := 1) (n0 := 0) hF hro h0' [(0, ⟨[3, 4, 5], [], fun _ _ _ => False⟩)] (on := ⟨lvZ0, [.t, .g], fun vs ms os => vs = vZ0 (RS bp op m 0) (gwT 0 1) n 1 ∧ ms = [] ∧ os = [oTb [.slice (some ⟨1, 0, none⟩) n n] 0, oBo (List.replicate n (.bool false)) 1]⟩) (ox := fun j => if j = 0 then ⟨[3, 4, 5], [], fun _ _ _ => False⟩ else Outs.no) (orr := Outs.no) (fun p hp => by simp only [List.mem_cons, List.not_mem_nil, or_false] at hp; subst hp; rfl) ?_ ?_ (fun id vs ms os h => ?_) (fun _ _ _ h => h.elim)
  ·have hn' := ztHn r1 bp op m n 0
   simp only [show ∀ x : Nat, Int.toNat (Int.ofNat x) = x from fun _ => rfl] at hn'
   simp only [Int.ofNat_eq_natCast, dT (show ((0 : Nat) : Int) < (n : Int) by omega), b4, b5, zerB, nnsRep (.bool false) rfl n, Bool.and_true, Bool.true_and, cond_true] at hn'
   rw [w1z 0 (by omega)] at hn'
   exact (hn' _ _ _ _).trans (qq_ok ⟨rfl, rfl, rfl⟩)
  ·rintro vs ms os ⟨rfl, rfl, rfl⟩
   refine IsG.freezeO (os0 := [oTb [.slice (some ⟨1, 0, none⟩) n n] 0]) (j := 1) h0' rfl (Nat.zero_le _) rfl (nnsRep (.bool false) rfl n) fun b' o' r2 hle hFz hrow => ?_
   have hz0 : RowsZ γ W r1 r1 [] n 0 (fun _ => 0) (fun _ => 0) := ⟨Mem.le_refl _, rfl, rfl, fun i h => absurd h (by omega), fun i h => absurd h (by omega), fun i h => absurd h (by omega), fun i h => absurd h (by omega), fun i y h => absurd h (by omega), fun i j h => absurd h (by omega)⟩
   refine ⟨vZ0 (RS bp op m 0) (gwT 0 1) n 1, [oTb [RS b' o' n n] 0], rfl, ?_, n - 1, by omega, 1, h1, rfl, rfl, .inr ⟨Nat.le_refl _, _, _, _, rfl, rfl, hz0.snoc h1 hle hFz (zc b' o' r2 hrow)⟩⟩
   have e1 : frzVs 1 b' o' [.slice (some ⟨1, 0, none⟩) n n] = some [RS b' o' n n] := frzVs_one _ _ _ _ _ (frzZ 1 b' o' n hunk)
   unfold oTb
   simp only [frzAs, frzA, e1]
  ·by_cases e : id = 0
   ·subst e; exact h.elim
   ·simp only [if_neg e] at h; exact h.elim
 ·have hn' := ztHo r1 bp op m n x x c
  simp only [show ∀ x : Nat, Int.toNat (Int.ofNat x) = x from fun _ => rfl] at hn'
  by_cases cx : x < n
  ·refine ReachG.segR (SC_ok r1) TOk.nil (tm := .nil) (L := 1) (L' := 1) (d := 1) (n0 := 0) hF hro h0' [(0, ⟨[3, 4, 5], [.g], fun _ _ _ => False⟩)] (on := ⟨lvZ0, [.q [1], .g], fun vs ms os => vs = vZ0 (RS bp op m 0) (gwT 0 (x + 1)) n (x + 1) ∧ ms = [] ∧ os = [oTb (c ++ [.slice (some ⟨1, 0, none⟩) n n]) 0, oBo (List.replicate n (.bool false)) 1]⟩) (ox := fun j => if j = 0 then ⟨[3, 4, 5], [.g], fun _ _ _ => False⟩ else Outs.no) (orr := Outs.no) (fun p hp => by simp only [List.mem_cons, List.not_mem_nil, or_false] at hp; subst hp; rfl) ?_ ?_ (fun id vs ms os h => ?_) (fun _ _ _ h => h.elim)
   ·have m1 : Nat.ble (Nat.add x 1) 1000000 = true := Nat.ble_eq_true_of_le (by simp only [Nat.add_eq]; omega)
    have tk : takeAt c 0 (Nat.mul x 1) = some c := takeL_row _ _ (by rw [hZ.len]; simp)
    have s2 : m_mvq [3, 1] (c ++ [.slice (some ⟨1, 0, none⟩) n n]) = c ++ [.slice (some ⟨1, 0, none⟩) n n] := by rw [mvq_app, mvq_nn hZ.nn]; rfl
    have s3 : m_nopo (c ++ [.slice (some ⟨1, 0, none⟩) n n]) = true := by rw [nopo_app, nopo_nn hZ.nn]; rfl
    simp only [Int.ofNat_eq_natCast, dT (show (x : Int) < (n : Int) by omega), b4, b5, m1, tk, s2, s3, zerB, nnsRep (.bool false) rfl n, Bool.and_true, cond_true] at hn'
    rw [w1z x (by omega)] at hn'
    exact (hn' _ _ _ _).trans (qq_ok ⟨rfl, rfl, rfl⟩)
   ·rintro vs ms os ⟨rfl, rfl, rfl⟩
    refine IsG.freezeO (os0 := [oTb (c ++ [.slice (some ⟨1, 0, none⟩) n n]) 0]) (j := 1) h0' rfl (Nat.zero_le _) rfl (nnsRep (.bool false) rfl n) fun b' o' r2 hle hFz hrow => ?_
    refine ⟨vZ0 (RS bp op m 0) (gwT 0 (x + 1)) n (x + 1), [oTb (c ++ [RS b' o' n n]) 0], rfl, ?_, n - (x + 1), by omega, x + 1, cx, rfl, rfl, .inr ⟨by omega, _, _, _, rfl, rfl, hZ.snoc h1 hle hFz (zc b' o' r2 hrow)⟩⟩
    have e1 := frzVs_app 1 b' o' c [.slice (some ⟨1, 0, none⟩) n n] c [RS b' o' n n] (frzVs_nn 1 b' o' c hZ.nn) (frzVs_one _ _ _ _ _ (frzZ 1 b' o' n hunk))
    unfold oTb
    simp only [frzAs, frzA, e1]
   ·by_cases e : id = 0
    ·subst e; exact h.elim
    ·simp only [if_neg e] at h; exact h.elim
  ·obtain rfl : x = n := by omega
   refine ReachG.segR (SC_ok r1) TOk.nil (tm := .nil) (L := 1) (L' := 1) (d := 1) (n0 := 0) hF hro h0' [(0, ⟨[3, 4, 5], [.g], fun vs ms os => vs = [some (RS bp op m 0), some (I (x : Nat)), some (gwT 0 x)] ∧ ms = [] ∧ os = [oTb c 0]⟩)] (on := ⟨lvZ0, [.q [1], .g], fun _ _ _ => False⟩) (ox := fun j => if j = 0 then ⟨[3, 4, 5], [.g], fun vs ms os => vs = [some (RS bp op m 0), some (I (x : Nat)), some (gwT 0 x)] ∧ ms = [] ∧ os = [oTb c 0]⟩ else Outs.no) (orr := Outs.no) (fun p hp => by simp only [List.mem_cons, List.not_mem_nil, or_false] at hp; subst hp; rfl) ?_ (fun _ _ _ h => h.elim) (fun id vs ms os h => ?_) (fun _ _ _ h => h.elim)
   ·simp only [Int.ofNat_eq_natCast, dF (show ¬ (x : Int) < (x : Int) by omega), hZ.nn, Bool.and_true, cond_true, cond_false] at hn'
    exact (hn' _ _ _ _).trans (qq_ok ⟨rfl, rfl, rfl⟩)
   ·by_cases e : id = 0
    ·subst e
     obtain ⟨rfl, rfl, rfl⟩ := h
     refine IsG.freezeO (os0 := []) (j := 0) h0' rfl (Nat.zero_le _) rfl hZ.nn fun b' o' r2 hle hFz hrow => ?_
     have hf := frzU 0 b' o' x
     have hf2 : frzV 0 b' o' (RS bp op m 0) = some (RS bp op m 0) := rfl
     have hf3 : frzV 0 b' o' (I (x : Nat)) = some (I (x : Nat)) := rfl
     exact ⟨[some (RS bp op m 0), some (I (x : Nat)), some (RS b' o' x 0)], [], by simp only [frzO, hf, hf2, hf3], rfl, b', o', bk, ok, hZ.mat h1 hle hFz hrow, rfl, rfl, rfl⟩
    ·simp only [if_neg e] at h; exact h.elim
theorem zu_x {bo oo : Nat} {bk ok : Nat → Nat} (h1 : 1 ≤ n) (hn : n ≤ 12) (hp : TabM r0 bp op T) (hTl : T.length = m) (hm : m ≤ 1000) (hF : Wide F) (hro : RoRel γ none F.round) (h0' : ∀ i, 0 ≤ i → γ i = none) {r : Mem} {M : Nat → Nat → Bool} (hR : RankOk n M) (hM : MatM γ W r0 r bo oo n bk ok M) {ox : Nat → OutsG} {orr : OutsG} :
  ReachG Tryz.prog mZt 136 F kk γ W (.block 2 (.loop (.seq Zt_8 (.seq (.block 3 (.seq Zt_9 (.block 4 (.loop Zt_10)))) Zt_11)))) r (St.of lvZ2 [some (RS bp op m 0), some (I (n : Nat)), some (RS bo oo n 0), some (I (0 : Nat))] [] []) (CanG Tryz.prog mZt 136 γ W ⟨[4, 5], fun r1 vs ms os => (∃ M', RankOk n M' ∧ MatM γ W r0 r1 bo oo n bk ok M') ∧ vs = [some (I (n : Nat)), some (RS bo oo n 0)] ∧ ms = [] ∧ os = []⟩ ox orr) := by
 refine ReachG.blockC (ReachG.loopC (j := n) (lv := lvZ2) (I := fun j r1 vs ms os => ∃ x : Nat, x ≤ n ∧ j = n - x ∧ (∃ M', RankOk n M' ∧ MatM γ W r0 r1 bo oo n bk ok M') ∧ vs = [some (RS bp op m 0), some (I (n : Nat)), some (RS bo oo n 0), some (I (x : Nat))] ∧ ms = [] ∧ os = []) (fun j r1 vs ms os hI => ?_) ⟨0, by omega, rfl, ⟨M, hR, hM⟩, rfl, rfl, rfl⟩)
 obtain ⟨x, hx, rfl, ⟨M1, hR1, hM1⟩, rfl, rfl, rfl⟩ := hI
 refine ReachG.seqC (o1 := ⟨lvZ2, fun r2 vs ms os => r2 = r1 ∧ x < n ∧ vs = [some (RS bp op m 0), some (I (n : Nat)), some (RS bo oo n 0), some (I (x : Nat))] ∧ ms = [] ∧ os = []⟩) (ReachG.segR (SC_ok r1) TOk.nil (tm := .nil) (L := 1) (L' := 1) (d := 1) (n0 := 0) hF hro h0' [(2, ⟨[4, 5], [], fun vs ms os => vs = [some (I (n : Nat)), some (RS bo oo n 0)] ∧ ms = [] ∧ os = []⟩)] (on := ⟨lvZ2, [], fun vs ms os => x < n ∧ vs = [some (RS bp op m 0), some (I (n : Nat)), some (RS bo oo n 0), some (I (x : Nat))] ∧ ms = [] ∧ os = []⟩) (ox := fun j => if j = 2 then ⟨[4, 5], [], fun vs ms os => vs = [some (I (n : Nat)), some (RS bo oo n 0)] ∧ ms = [] ∧ os = []⟩ else Outs.no) (orr := Outs.no) (fun p hp => by simp only [List.mem_cons, List.not_mem_nil, or_false] at hp; subst hp; rfl) ?_ (fun vs ms os h => IsG.here ⟨rfl, h⟩) (fun id vs ms os h => ?_) (fun _ _ _ h => h.elim)) fun r2 vs ms os hq => ?_
 ·have hn' := ztJ r1 bp op m n bo oo x
  simp only [Int.ofNat_eq_natCast] at hn'
  by_cases c : x < n
  ·simp only [dT (show (x : Int) < (n : Int) by omega), cond_true] at hn'
   exact (hn' _ _ _ _).trans (qq_ok ⟨c, rfl, rfl, rfl⟩)
  ·simp only [dF (show ¬ (x : Int) < (n : Int) by omega), cond_false] at hn'
   exact (hn' _ _ _ _).trans (qq_ok ⟨rfl, rfl, rfl⟩)
 ·by_cases e : id = 2
  ·subst e
   obtain ⟨rfl, rfl, rfl⟩ := h
   exact IsG.here ⟨⟨M1, hR1, hM1⟩, rfl, rfl, rfl⟩
  ·simp only [if_neg e] at h; exact h.elim
 obtain ⟨rfl, c, rfl, rfl, rfl⟩ := hq
 refine ReachG.seqC (o1 := ⟨lvZ2, fun r3 vs ms os => (∃ M', RankOk n M' ∧ MatM γ W r0 r3 bo oo n bk ok M') ∧ vs = [some (RS bp op m 0), some (I (n : Nat)), some (RS bo oo n 0), some (I (x : Nat))] ∧ ms = [] ∧ os = []⟩) (ReachG.blockC (ReachG.seqC (o1 := ⟨lvZ3, fun r3 vs ms os => r3 = r2 ∧ vs = vZ3 (RS bp op m 0) (RS bo oo n 0) n x (x + 1) ∧ ms = [] ∧ os = []⟩) (ReachG.segR (SC_ok r2) TOk.nil (tm := .nil) (L := 1) (L' := 1) (d := 1) (n0 := 0) hF hro h0' [] (on := ⟨lvZ3, [], fun vs ms os => vs = vZ3 (RS bp op m 0) (RS bo oo n 0) n x (x + 1) ∧ ms = [] ∧ os = []⟩) (ox := fun _ => Outs.no) (orr := Outs.no) (fun p hp => nomatch hp) ?_ (fun vs ms os h => IsG.here ⟨rfl, h⟩) (fun _ _ _ _ h => h.elim) (fun _ _ _ h => h.elim)) fun r3 vs ms os hq => ?_)) fun r3 vs ms os hq => ?_
 ·have hn' := ztK r2 bp op m n bo oo x
  simp only [Int.ofNat_eq_natCast] at hn'
  rw [w1z x (by omega)] at hn'
  exact (hn' _ _ _ _).trans (qq_ok ⟨rfl, rfl, rfl⟩)
 ·obtain ⟨rfl, rfl, rfl, rfl⟩ := hq
  refine ReachG.blockC (ReachG.loopC (lv := lvZ3) (I := fun j r4 vs ms os => ∃ y : Nat, x < y ∧ y ≤ n ∧ j = n - y ∧ (∃ M', RankOk n M' ∧ MatM γ W r0 r4 bo oo n bk ok M') ∧ vs = vZ3 (RS bp op m 0) (RS bo oo n 0) n x y ∧ ms = [] ∧ os = []) (fun j r4 vs ms os hI => ?_) (j := n - (x + 1)) ⟨x + 1, by omega, by omega, rfl, ⟨M1, hR1, hM1⟩, rfl, rfl, rfl⟩)
  obtain ⟨y, hxy, hy, rfl, ⟨M4, hR4, hM4⟩, rfl, rfl, rfl⟩ := hI
  rw [Zt10_eq]
  refine ReachG.seqC (o1 := ⟨lvZ3, fun r5 vs ms os => r5 = r4 ∧ y < n ∧ vs = vZ3 (RS bp op m 0) (RS bo oo n 0) n x y ∧ ms = [] ∧ os = []⟩) (ReachG.segR (SC_ok r4) TOk.nil (tm := .nil) (L := 1) (L' := 1) (d := 1) (n0 := 0) hF hro h0' [(4, ⟨lvZ2, [], fun vs ms os => vs = [some (RS bp op m 0), some (I (n : Nat)), some (RS bo oo n 0), some (I (x : Nat))] ∧ ms = [] ∧ os = []⟩)] (on := ⟨lvZ3, [], fun vs ms os => y < n ∧ vs = vZ3 (RS bp op m 0) (RS bo oo n 0) n x y ∧ ms = [] ∧ os = []⟩) (ox := fun j => if j = 4 then ⟨lvZ2, [], fun vs ms os => vs = [some (RS bp op m 0), some (I (n : Nat)), some (RS bo oo n 0), some (I (x : Nat))] ∧ ms = [] ∧ os = []⟩ else Outs.no) (orr := Outs.no) (fun p hp => by simp only [List.mem_cons, List.not_mem_nil, or_false] at hp; subst hp; rfl) ?_ (fun vs ms os h => IsG.here ⟨rfl, h⟩) (fun id vs ms os h => ?_) (fun _ _ _ h => h.elim)) fun r5 vs ms os hq => ?_
  ·have hn' := zaA r4 bp op m n bo oo x y
   simp only [Int.ofNat_eq_natCast] at hn'
   by_cases c : y < n
   ·simp only [dT (show (y : Int) < (n : Int) by omega), cond_true] at hn'
    exact (hn' _ _ _ _).trans (qq_ok ⟨c, rfl, rfl, rfl⟩)
   ·simp only [dF (show ¬ (y : Int) < (n : Int) by omega), cond_false] at hn'
    exact (hn' _ _ _ _).trans (qq_ok ⟨rfl, rfl, rfl⟩)
  ·by_cases e : id = 4
   ·subst e
    obtain ⟨rfl, rfl, rfl⟩ := h
    exact IsG.here ⟨⟨M4, hR4, hM4⟩, rfl, rfl, rfl⟩
   ·simp only [if_neg e] at h; exact h.elim
  obtain ⟨rfl, cy, rfl, rfl, rfl⟩ := hq
  refine ReachG.seqC (zu_rnd h1 hn hp hTl hm hF hro h0' hxy cy hR4 hM4) fun r6 vs ms os hq => ?_
  obtain ⟨hM6, rfl, rfl, rfl⟩ := hq
  refine ReachG.segR (SC_ok r6) TOk.nil (tm := .nil) (L := 1) (L' := 1) (d := 1) (n0 := 0) hF hro h0' [] (on := ⟨lvZ3, [], fun vs ms os => vs = vZ3 (RS bp op m 0) (RS bo oo n 0) n x (y + 1) ∧ ms = [] ∧ os = []⟩) (ox := fun _ => Outs.no) (orr := Outs.no) (fun p hp => nomatch hp) ?_ (fun vs ms os h => IsG.here ⟨n - (y + 1), by omega, y + 1, by omega, cy, rfl, hM6, h⟩) (fun _ _ _ _ h => h.elim) (fun _ _ _ h => h.elim)
  have hn' := zcA r6 bp op m n bo oo x y
  simp only [Int.ofNat_eq_natCast] at hn'
  rw [w1z y (by omega)] at hn'
  exact (hn' _ _ _ _).trans (qq_ok ⟨rfl, rfl, rfl⟩)
 obtain ⟨hM3, rfl, rfl, rfl⟩ := hq
 refine ReachG.segR (SC_ok r3) TOk.nil (tm := .nil) (L := 1) (L' := 1) (d := 1) (n0 := 0) hF hro h0' [] (on := ⟨lvZ2, [], fun vs ms os => vs = [some (RS bp op m 0), some (I (n : Nat)), some (RS bo oo n 0), some (I ((x + 1 : Nat) : Int))] ∧ ms = [] ∧ os = []⟩) (ox := fun _ => Outs.no) (orr := Outs.no) (fun p hp => nomatch hp) ?_ (fun vs ms os h => IsG.here ⟨n - (x + 1), by omega, x + 1, c, rfl, hM3, h⟩) (fun _ _ _ _ h => h.elim) (fun _ _ _ h => h.elim)
 have hn' := ztL r3 bp op m n bo oo x
 simp only [Int.ofNat_eq_natCast] at hn'
 rw [w1z x (by omega)] at hn'
 exact (hn' _ _ _ _).trans (qq_ok ⟨rfl, rfl, rfl⟩)
end
end Go.Proofs
namespace Go.Proofs
open Go Go.Ev Go.Num
theorem reachG_thenZ {P : Program} {m n : Nat} {F : Fence} {k : Nat} {γ0 : Gam} {W0 : World} {c : Code} {r : Mem} {st : St} {o1 o2 : OutsG} {ox : Nat → OutsG} {orr : OutsG} (h : ReachG P m n F k γ0 W0 c r st (CanG P m n γ0 W0 o1 (fun _ => OutsG.no) OutsG.no)) (hq : ∀ r vs ms os, o1.Q r vs ms os → IsG P m n γ0 W0 o2 r (St.of o1.lv vs ms os)) : ReachG P m n F k γ0 W0 c r st (CanG P m n γ0 W0 o2 ox orr) :=
 ReachG.mono h fun ex r1 st h => by
  cases ex with
  | normal => exact isG_trans h hq
  | exit id =>
   intro γ' a W' hs hb
   obtain ⟨_, _, _, _, _, hf, _⟩ := h γ' a W' hs hb
   exact hf.elim
  | ret =>
   intro γ' a W' hs hb
   obtain ⟨_, _, _, _, _, hf, _⟩ := h γ' a W' hs hb
   exact hf.elim
  | _ => exact h
theorem TabC.tabMZ {r r1 : Mem} (hle : Mem.le r r1) {c : List Value} {T : List (List Bool)} (hT : TabC r c T) {b o : Nat} (hrow : ∀ k u, c[k]? = some u → r1 b (o + k) = some u) : TabM r1 b o T := fun i l hl => by
 have hi : i < T.length := (List.getElem?_eq_some_iff.1 hl).1
 obtain ⟨v, hv⟩ : ∃ v, c[i]? = some v := ⟨_, List.getElem?_eq_getElem (by rw [hT.1]; exact hi)⟩
 exact ⟨v, hrow _ _ hv, (hT.2 i v l hv hl).mono hle⟩
theorem tZc_ok {r : Mem} {bp op m : Nat} {T : List (List Bool)} (hp : TabM r bp op T) (hTl : T.length = m) (hm : m ≤ 1000) {e : Int} (he : e = (if ckO T then 0 else 100)) : TOk (SC r) (tZc (RS bp op m 0) e) := by
 refine TOk.nil.cons (EOk.ent fun args A hgd => ?_)
 have hs := @of_decide_eq_true _ (Classical.propDecidable _) hgd
 subst hs
 subst he
 exact (og_ok hp hTl hm).ro rfl A
def OrdM (r1 : Mem) (v : Value) : Prop := ∃ bo oo T, v = RS bo oo T.length 0 ∧ 1 ≤ T.length ∧ T.length ≤ 14 ∧ TabM r1 bo oo T ∧ ckO T = true
def qZt (r : Mem) : OutsG := ⟨[2], fun r1 vs ms os => ∃ v, Mem.le r r1 ∧ OrdM r1 v ∧ vs = [some v] ∧ ms = [] ∧ os = []⟩
theorem zt_ok {r : Mem} {b off n cap : Nat} (h1 : 1 ≤ n) (hin : ∀ i, i < min n 14 → ∃ u, r b (off + i) = some u ∧ ArgRow r 1 ArgBool u) : SOkG Tryz.prog r 7 [RS b off n cap] emptyA fun v A r1 => Mem.le r r1 ∧ A = mkA [] ∧ OrdM r1 v := by
 refine callOG SC_ok (by kernel_rfl) ((bodySC r _).trans Zt_eq) (nt := 136) (by kernel_rfl) (rs := [.tmp 2]) (by kernel_rfl) mZt rfl (qZt r) ?_ fun γ W F kk hwr hF hro h0' => ?_
 ·rintro r1 vs ms os ⟨v, hle, ⟨bo, oo, T, rfl, hT⟩, rfl, rfl, rfl⟩
  exact ⟨_, mkA [], by kernel_rfl, hle, rfl, bo, oo, T, rfl, hT⟩
 have h0' : ∀ i, 0 ≤ i → γ i = none := h0'
 have hTl := inTab_len r b off (min n 14)
 refine ReachG.seqC (o1 := ⟨[0], fun r1 vs ms os => r1 = r ∧ vs = [some (RS b off n cap)] ∧ ms = [] ∧ os = []⟩) (ReachG.segR (SC_ok r) TOk.nil (tm := .nil) (L := 1) (L' := 1) (d := 1) (n0 := 0) hF hro h0' [] (on := ⟨[0], [], fun vs ms os => vs = [some (RS b off n cap)] ∧ ms = [] ∧ os = []⟩) (ox := fun _ => Outs.no) (orr := Outs.no) (fun p hp => nomatch hp) ?_ (fun vs ms os h => IsG.here ⟨rfl, h⟩) (fun _ _ _ _ h => h.elim) (fun _ _ _ h => h.elim)) fun r1 vs ms os hq => ?_
 ·exact (ztA r b off n cap _ _ _ _).trans (qq_ok ⟨rfl, rfl, rfl⟩)
 obtain ⟨rfl, rfl, rfl, rfl⟩ := hq
 refine ReachG.seqC (o1 := ⟨[3], fun r2 vs ms os => ∃ bp op, Mem.le r1 r2 ∧ TabM r2 bp op (inTab r1 b off (min n 14)) ∧ vs = [some (RS bp op (min n 14) 0)] ∧ ms = [] ∧ os = []⟩) ?_ fun r2 vs ms os hq => ?_
 ·refine reachG_thenZ (o1 := ⟨[3], fun r2 vs ms os => ms = [] ∧ Mem.le r1 r2 ∧ ∃ c, vs = [some (gwT 0 (min n 14))] ∧ os = [oTb c 0] ∧ TabC r2 c (inTab r1 b off (min n 14)) ∧ m_nns c = true⟩) (ReachG.callC (fl := []) SC_ok hF h0' TOk.nil (tm := .nil) (L := 1) (d := 1) 1 (s1 := (enZ (RS b off n cap)).1) (b1 := (enZ (RS b off n cap)).2) (ms1 := []) (A1 := mkA []) (A2 := emptyA) (i := 29) (args := [RS b off n cap]) ?_ (by kernel_rfl) (ta_ok h1 hin) ?_) fun r2 vs ms os h => ?_
  ·exact (ztB r1 b off n cap _ _).trans (qn_ok rfl)
  ·rintro v A' r2 ⟨hle, c, rfl, rfl, hT, hc⟩
   refine ⟨fun _ => none, TOk.nil, .nil, 1, 1, ?_⟩
   have hn' := ztC r2 b off n cap (min n 14) c
   simp only [hc, Bool.and_true, cond_true] at hn'
   exact (hn' _ _).trans (qq_ok ⟨rfl, hle, c, rfl, rfl, hT, hc⟩)
  ·obtain ⟨rfl, hle, c, rfl, rfl, hT, hc⟩ := h
   refine IsG.freeze (os0 := []) (j := 0) h0' rfl (Nat.zero_le _) rfl hc fun b' o' r3 hle2 hrow => ?_
   have hf := frzU 0 b' o' (min n 14)
   exact ⟨[some (RS b' o' (min n 14) 0)], [], by simp only [frzO, hf], rfl, b', o', Mem.le_trans hle hle2, hT.tabMZ hle2 hrow, rfl, rfl, rfl⟩
 obtain ⟨bp, op, hle2, hp, rfl, rfl, rfl⟩ := hq
 have hm : min n 14 ≤ 1000 := by omega
 by_cases hck : ckO (inTab r1 b off (min n 14)) = true
 ·refine ReachG.seqC (o1 := ⟨[3], fun _ _ _ _ => False⟩) (ReachG.segR (SC_ok r2) (tZc_ok hp hTl hm (e := 0) (by rw [hck]; rfl)) (tm := .nil) (L := 1) (L' := 1) (d := 1) (n0 := 0) hF hro h0' [] (on := ⟨[3], [], fun _ _ _ => False⟩) (ox := fun _ => Outs.no) (orr := ⟨[2], [], fun vs ms os => vs = [some (RS bp op (min n 14) 0)] ∧ ms = [] ∧ os = []⟩) (fun p hp => nomatch hp) ?_ (fun vs ms os h => h.elim) (fun _ _ _ _ h => h.elim) ?_) fun r3 vs ms os hq => hq.elim
  ·have hn' := ztD0 r2 bp op (min n 14)
   simp only [svv_rfl, cond_true] at hn'
   exact (hn' _ _ _).trans (qq_ok ⟨rfl, rfl, rfl⟩)
  ·rintro vs ms os ⟨rfl, rfl, rfl⟩
   exact IsG.here ⟨_, hle2, ⟨bp, op, inTab r1 b off (min n 14), by rw [hTl], by rw [hTl]; omega, by rw [hTl]; omega, hp, hck⟩, rfl, rfl, rfl⟩
 refine ReachG.seqC (o1 := ⟨[3], fun r3 vs ms os => r3 = r2 ∧ vs = [some (RS bp op (min n 14) 0)] ∧ ms = [] ∧ os = []⟩) (ReachG.segR (SC_ok r2) (tZc_ok hp hTl hm (e := 100) (by rw [if_neg hck])) (tm := .nil) (L := 1) (L' := 1) (d := 1) (n0 := 0) hF hro h0' [] (on := ⟨[3], [], fun vs ms os => vs = [some (RS bp op (min n 14) 0)] ∧ ms = [] ∧ os = []⟩) (ox := fun _ => Outs.no) (orr := ⟨[2], [], fun _ _ _ => False⟩) (fun p hp => nomatch hp) ?_ (fun vs ms os h => IsG.here ⟨rfl, h⟩) (fun _ _ _ _ h => h.elim) (fun _ _ _ h => h.elim)) fun r3 vs ms os hq => ?_
 ·have hn' := ztD100 r2 bp op (min n 14)
  simp only [svv_rfl, cond_true] at hn'
  exact (hn' _ _ _).trans (qq_ok ⟨rfl, rfl, rfl⟩)
 obtain ⟨rfl, rfl, rfl, rfl⟩ := hq
 obtain ⟨q, hqe⟩ : ∃ q, q = 1 + min n 14 % 12 := ⟨_, rfl⟩
 have hq1 : 1 ≤ q := by omega
 have hq12 : q ≤ 12 := by omega
 have hw : IntKind.wrap .i64 (1 + Int.tmod (min n 14 : Nat) 12) = (q : Nat) := by
  have e1 : Int.tmod ((min n 14 : Nat) : Int) 12 = ((min n 14 % 12 : Nat) : Int) := rfl
  rw [e1]
  have e2 : (1 : Int) + ((min n 14 % 12 : Nat) : Int) = ((q : Nat) : Int) := by omega
  rw [e2]
  exact wrI (by omega)
 refine ReachG.seqC (o1 := ⟨[3, 4], fun r4 vs ms os => r4 = r3 ∧ vs = [some (RS bp op (min n 14) 0), some (I (q : Nat))] ∧ ms = [] ∧ os = []⟩) (ReachG.segR (SC_ok r3) TOk.nil (tm := .nil) (L := 1) (L' := 1) (d := 1) (n0 := 0) hF hro h0' [] (on := ⟨[3, 4], [], fun vs ms os => vs = [some (RS bp op (min n 14) 0), some (I (q : Nat))] ∧ ms = [] ∧ os = []⟩) (ox := fun _ => Outs.no) (orr := Outs.no) (fun p hp => nomatch hp) ?_ (fun vs ms os h => IsG.here ⟨rfl, h⟩) (fun _ _ _ _ h => h.elim) (fun _ _ _ h => h.elim)) fun r4 vs ms os hq => ?_
 ·have hn' := ztE r3 bp op (min n 14)
  simp only [Int.ofNat_eq_natCast] at hn'
  simp only [show ((1 : Nat) : Int) = 1 from rfl, show ((12 : Nat) : Int) = 12 from rfl, hw] at hn'
  exact (hn' _ _ _ _).trans (qq_ok ⟨rfl, rfl, rfl⟩)
 obtain ⟨rfl, rfl, rfl, rfl⟩ := hq
 refine ReachG.seqC (o1 := ⟨[3, 4, 5], fun r5 vs ms os => r5 = r4 ∧ vs = [some (RS bp op (min n 14) 0), some (I (q : Nat)), some nilT] ∧ ms = [] ∧ os = []⟩) (ReachG.segR (SC_ok r4) TOk.nil (tm := .nil) (L := 1) (L' := 1) (d := 1) (n0 := 0) hF hro h0' [] (on := ⟨[3, 4, 5], [], fun vs ms os => vs = [some (RS bp op (min n 14) 0), some (I (q : Nat)), some nilT] ∧ ms = [] ∧ os = []⟩) (ox := fun _ => Outs.no) (orr := Outs.no) (fun p hp => nomatch hp) ((ztF r4 bp op (min n 14) q _ _ _ _).trans (qq_ok ⟨rfl, rfl, rfl⟩)) (fun vs ms os h => IsG.here ⟨rfl, h⟩) (fun _ _ _ _ h => h.elim) (fun _ _ _ h => h.elim)) fun r5 vs ms os hq => ?_
 obtain ⟨rfl, rfl, rfl, rfl⟩ := hq
 refine ReachG.seqC (o1 := ⟨[3, 4, 5], fun r6 vs ms os => ∃ bo oo bk ok, MatM γ W r5 r6 bo oo q bk ok (fun _ _ => false) ∧ vs = [some (RS bp op (min n 14) 0), some (I (q : Nat)), some (RS bo oo q 0)] ∧ ms = [] ∧ os = []⟩) (ReachG.seqC (o1 := ⟨lvZ0, fun r6 vs ms os => r6 = r5 ∧ vs = vZ0 (RS bp op (min n 14) 0) nilT q 0 ∧ ms = [] ∧ os = []⟩) (ReachG.segR (SC_ok r5) TOk.nil (tm := .nil) (L := 1) (L' := 1) (d := 1) (n0 := 0) hF hro h0' [] (on := ⟨lvZ0, [], fun vs ms os => vs = vZ0 (RS bp op (min n 14) 0) nilT q 0 ∧ ms = [] ∧ os = []⟩) (ox := fun _ => Outs.no) (orr := Outs.no) (fun p hp => nomatch hp) ((ztG r5 bp op (min n 14) q _ _ _ _).trans (qq_ok ⟨rfl, rfl, rfl⟩)) (fun vs ms os h => IsG.here ⟨rfl, h⟩) (fun _ _ _ _ h => h.elim) (fun _ _ _ h => h.elim)) fun r6 vs ms os hq => ?_) fun r6 vs ms os hq => ?_
 ·obtain ⟨rfl, rfl, rfl, rfl⟩ := hq
  exact zv_x hq1 hq12 hF hro h0'
 obtain ⟨bo, oo, bk, ok, hM6, rfl, rfl, rfl⟩ := hq
 refine ReachG.seqC (o1 := ⟨[4, 5], fun r7 vs ms os => (∃ M', RankOk q M' ∧ MatM γ W r5 r7 bo oo q bk ok M') ∧ vs = [some (I (q : Nat)), some (RS bo oo q 0)] ∧ ms = [] ∧ os = []⟩) (ReachG.seqC (o1 := ⟨lvZ2, fun r7 vs ms os => r7 = r6 ∧ vs = [some (RS bp op (min n 14) 0), some (I (q : Nat)), some (RS bo oo q 0), some (I (0 : Nat))] ∧ ms = [] ∧ os = []⟩) (ReachG.segR (SC_ok r6) TOk.nil (tm := .nil) (L := 1) (L' := 1) (d := 1) (n0 := 0) hF hro h0' [] (on := ⟨lvZ2, [], fun vs ms os => vs = [some (RS bp op (min n 14) 0), some (I (q : Nat)), some (RS bo oo q 0), some (I (0 : Nat))] ∧ ms = [] ∧ os = []⟩) (ox := fun _ => Outs.no) (orr := Outs.no) (fun p hp => nomatch hp) ((ztI r6 bp op (min n 14) q bo oo _ _ _ _).trans (qq_ok ⟨rfl, rfl, rfl⟩)) (fun vs ms os h => IsG.here ⟨rfl, h⟩) (fun _ _ _ _ h => h.elim) (fun _ _ _ h => h.elim)) fun r7 vs ms os hq => ?_) fun r7 vs ms os hq => ?_
 ·obtain ⟨rfl, rfl, rfl, rfl⟩ := hq
  exact zu_x hq1 hq12 hp hTl hm hF hro h0' (RankOk.none q) hM6
 obtain ⟨⟨M', hR7, hM7⟩, rfl, rfl, rfl⟩ := hq
 refine ReachG.seqC (o1 := ⟨[5], fun r8 vs ms os => (∃ M', RankOk q M' ∧ TrP q M' ∧ MatM γ W r5 r8 bo oo q bk ok M') ∧ vs = [some (RS bo oo q 0)] ∧ ms = [] ∧ os = []⟩) (ReachG.seqC (o1 := ⟨lvZ6, fun r8 vs ms os => r8 = r7 ∧ vs = vZ6 (RS bo oo q 0) q 0 ∧ ms = [] ∧ os = []⟩) (ReachG.segR (SC_ok r7) TOk.nil (tm := .nil) (L := 1) (L' := 1) (d := 1) (n0 := 0) hF hro h0' [] (on := ⟨lvZ6, [], fun vs ms os => vs = vZ6 (RS bo oo q 0) q 0 ∧ ms = [] ∧ os = []⟩) (ox := fun _ => Outs.no) (orr := Outs.no) (fun p hp => nomatch hp) ((ztM r7 bo oo q _ _ _ _).trans (qq_ok ⟨rfl, rfl, rfl⟩)) (fun vs ms os h => IsG.here ⟨rfl, h⟩) (fun _ _ _ _ h => h.elim) (fun _ _ _ h => h.elim)) fun r8 vs ms os hq => ?_) fun r8 vs ms os hq => ?_
 ·obtain ⟨rfl, rfl, rfl, rfl⟩ := hq
  exact zt_z hq12 hR7 hF hro h0' hM7
 obtain ⟨⟨M8, hR8, hT8, hM8⟩, rfl, rfl, rfl⟩ := hq
 have hl8 := tbM_len M8 q
 refine ReachG.segR (SC_ok r8) TOk.nil (tm := .nil) (L := 1) (L' := 1) (d := 1) (n0 := 0) hF hro h0' [] (on := ⟨[2], [], fun _ _ _ => False⟩) (ox := fun _ => Outs.no) (orr := ⟨[2], [], fun vs ms os => vs = [some (RS bo oo q 0)] ∧ ms = [] ∧ os = []⟩) (fun p hp => nomatch hp) ((ztT r8 bo oo q _ _ _ _).trans (qq_ok ⟨rfl, rfl, rfl⟩)) (fun vs ms os h => h.elim) (fun _ _ _ _ h => h.elim) ?_
 rintro vs ms os ⟨rfl, rfl, rfl⟩
 exact IsG.here ⟨_, Mem.le_trans hle2 hM8.le, ⟨bo, oo, tbM M8 q, by rw [hl8], by rw [hl8]; exact hq1, by rw [hl8]; omega, hM8.tab hq1, tbM_ck hq1 hq12 hR8 hT8⟩, rfl, rfl, rfl⟩
theorem zt_end {P : Program} {r : Mem} {γ : Gam} {W : World} (h0' : ∀ i, 0 ≤ i → γ i = none) {m n : Nat} : ∀ vs ms os, vs = [some (gwT 0 1)] ∧ ms = [] ∧ os = [oTb [.slice (some ⟨1, 0, none⟩) 1 1] 0, oBo [.bool false] 1] → IsG P m n γ W (qZt r) r (St.of [2] vs ms os) := by
 rintro vs ms os ⟨rfl, rfl, rfl⟩
 refine isG_trans (o1 := ⟨[2], fun r1 vs ms os => Mem.le r r1 ∧ ∃ b1 o1, r1 b1 (o1 + 0) = some (.bool false) ∧ vs = [some (gwT 0 1)] ∧ ms = [] ∧ os = [oTb [RS b1 o1 1 1] 0]⟩) (IsG.freeze (os0 := [oTb [.slice (some ⟨1, 0, none⟩) 1 1] 0]) (j := 1) h0' rfl (Nat.zero_le _) rfl rfl fun b' o' r2 hle hrow => ?_) ?_
 ·refine ⟨[some (gwT 0 1)], [oTb [RS b' o' 1 1] 0], rfl, ?_, hle, b', o', hrow 0 _ rfl, rfl, rfl, rfl⟩
  have e1 : frzVs 1 b' o' [.slice (some ⟨1, 0, none⟩) 1 1] = some [RS b' o' 1 1] := frzVs_one _ _ _ _ _ (frzZ 1 b' o' 1 (by unfold unk; omega))
  unfold oTb
  simp only [frzAs, frzA, e1]
 ·rintro r1 vs ms os ⟨hle, b1, o1, h1, rfl, rfl, rfl⟩
  refine IsG.freeze (os0 := []) (j := 0) h0' rfl (Nat.zero_le _) rfl rfl fun b' o' r2 hle2 hrow => ?_
  have hf := frzU 0 b' o' 1
  refine ⟨[some (RS b' o' 1 0)], [], by simp only [frzO, hf], rfl, _, Mem.le_trans hle hle2, ⟨b', o', [[false]], rfl, Nat.le_refl _, by decide, ?_, by decide⟩, rfl, rfl, rfl⟩
  intro i l hl
  match i, hl with
  | 0, hl =>
   cases hl
   exact ⟨_, hrow 0 _ rfl, .inr ⟨by decide, b1, o1, 1, rfl, fun j x hx => by
    match j, hx with
    | 0, hx => cases hx; exact hle2 _ _ _ h1⟩⟩
theorem zt_nil {r : Mem} : SOkG Tryz.prog r 7 [nilT] emptyA fun v A r1 => Mem.le r r1 ∧ A = mkA [] ∧ OrdM r1 v := by
 refine callOG SC_ok (by kernel_rfl) (c := cZt) (bodySC r _) (nt := 136) (by kernel_rfl) (rs := [.tmp 2]) (by kernel_rfl) mZt rfl (qZt r) ?_ fun γ W F kk hwr hF hro h0' => ?_
 ·rintro r1 vs ms os ⟨v, hle, ⟨bo, oo, T, rfl, hT⟩, rfl, rfl, rfl⟩
  exact ⟨_, mkA [], by kernel_rfl, hle, rfl, bo, oo, T, rfl, hT⟩
 have h0' : ∀ i, 0 ≤ i → γ i = none := h0'
 exact ReachG.segR (SC_ok r) TOk.nil (tm := .nil) (L := 3) (L' := 3) (d := 8) (n0 := 0) hF hro h0' [] (on := ⟨[2], [], fun _ _ _ => False⟩) (ox := fun _ => Outs.no) (orr := ⟨[2], [.t, .t], fun vs ms os => vs = [some (gwT 0 1)] ∧ ms = [] ∧ os = [oTb [.slice (some ⟨1, 0, none⟩) 1 1] 0, oBo [.bool false] 1]⟩) (fun p hp => nomatch hp) ((ztX r _ _ _).trans (qq_ok ⟨rfl, rfl, rfl⟩)) (fun vs ms os h => h.elim) (fun _ _ _ _ h => h.elim) (zt_end h0')
theorem zt_emp {r : Mem} {b off cap : Nat} : SOkG Tryz.prog r 7 [RS b off 0 cap] emptyA fun v A r1 => Mem.le r r1 ∧ A = mkA [] ∧ OrdM r1 v := by
 refine callOG SC_ok (by kernel_rfl) (c := cZt) (bodySC r _) (nt := 136) (by kernel_rfl) (rs := [.tmp 2]) (by kernel_rfl) mZt rfl (qZt r) ?_ fun γ W F kk hwr hF hro h0' => ?_
 ·rintro r1 vs ms os ⟨v, hle, ⟨bo, oo, T, rfl, hT⟩, rfl, rfl, rfl⟩
  exact ⟨_, mkA [], by kernel_rfl, hle, rfl, bo, oo, T, rfl, hT⟩
 have h0' : ∀ i, 0 ≤ i → γ i = none := h0'
 exact ReachG.segR (SC_ok r) TOk.nil (tm := .nil) (L := 3) (L' := 3) (d := 8) (n0 := 0) hF hro h0' [] (on := ⟨[2], [], fun _ _ _ => False⟩) (ox := fun _ => Outs.no) (orr := ⟨[2], [.t, .t], fun vs ms os => vs = [some (gwT 0 1)] ∧ ms = [] ∧ os = [oTb [.slice (some ⟨1, 0, none⟩) 1 1] 0, oBo [.bool false] 1]⟩) (fun p hp => nomatch hp) ((ztY r b off cap _ _ _).trans (qq_ok ⟨rfl, rfl, rfl⟩)) (fun vs ms os h => h.elim) (fun _ _ _ _ h => h.elim) (zt_end h0')
end Go.Proofs
namespace Go.Proofs
open Go Go.Ev Go.Num
abbrev x4 (x : Nat → Int) : Value := .agg ⟨[I (x 0), I (x 1), I (x 2), I (x 3)]⟩
noncomputable def eV (a0 : List Value) (v : Bool) : Ent := ent (fun args _ => m_svv args a0) fun _ _ => .bool v
noncomputable def eRd (x : Value) (m : Nat) (w a : Nat → Nat) : Ent := ent (fun args _ => m_svv args [x]) fun _ _ => .tuple ⟨[.agg ⟨orC m w a⟩, I 0]⟩
noncomputable def m_bf (m : Nat) (w a : Nat → Nat) (o : Value) (y z : Int) : Bool := @decide (o = .agg ⟨orC m w a⟩ ∧ 0 ≤ y ∧ y < 12 ∧ 0 ≤ z ∧ z < 12) (Classical.propDecidable _)
noncomputable def m_bv (w : Nat → Nat) (y z : Int) : Bool := (w z.toNat).testBit y.toNat
noncomputable def eBf (m : Nat) (w a : Nat → Nat) : Ent := ent (fun args _ => match args with
 | [o, .int .i64 y, .int .i64 z] => m_bf m w a o y z
 | _ => false) fun args _ => match args with
 | [_, .int .i64 y, .int .i64 z] => .bool (m_bv w y z)
 | _ => undef
noncomputable def m_ov (s o : Value) (n : Nat) (y z : Int) : Bool := @decide (o = s ∧ 0 ≤ y ∧ y < n ∧ 0 ≤ z ∧ z < n) (Classical.propDecidable _)
noncomputable def m_ovv (T : List (List Bool)) (y z : Int) : Bool := decide (y ≠ z) && (!gT T y.toNat z.toNat && !gT T z.toNat y.toNat)
noncomputable def eOv (s : Value) (n : Nat) (T : List (List Bool)) : Ent := ent (fun args _ => match args with
 | [o, .int .i64 y, .int .i64 z] => m_ov s o n y z
 | _ => false) fun args _ => match args with
 | [_, .int .i64 y, .int .i64 z] => .bool (m_ovv T y z)
 | _ => undef
noncomputable def tEl (m : Nat) (w a : Nat → Nat) (x : Nat → Int) (v : Bool) : Tbl := tcons 63 (eV [.agg ⟨orC m w a⟩, x4 x] v) (tcons 64 (eBf m w a) fun _ => none)
noncomputable def tIn (s : Value) (n : Nat) (T : List (List Bool)) (x : Nat → Int) (v : Bool) : Tbl := tcons 37 (eV [s, x4 x] v) (tcons 28 (eOv s n T) fun _ => none)
noncomputable def tSh (s : Value) (m : Nat) (w a : Nat → Nat) (x : Nat → Int) (u v : Bool) : Tbl := tcons 31 (eRd s m w a) (tcons 38 (eV [.agg ⟨orC m w a⟩, x4 x] u) (tcons 49 (eV [.agg ⟨orC m w a⟩, x4 x] v) fun _ => none))
noncomputable def m_og (m : Nat) (w a : Nat → Nat) (o : Value) (y : Int) : Bool := @decide (o = .agg ⟨orC m w a⟩ ∧ 0 ≤ y ∧ y < m) (Classical.propDecidable _)
noncomputable def m_ow (s : Nat → Nat) (y : Int) : Int := ((s y.toNat : Nat) : Int)
noncomputable def eOg (m : Nat) (w a s : Nat → Nat) : Ent := ent (fun args _ => match args with
 | [o, .int .i64 y] => m_og m w a o y
 | _ => false) fun args _ => match args with
 | [_, .int .i64 y] => V (m_ow s y)
 | _ => undef
noncomputable def eAl (m : Nat) (w a : Nat → Nat) (q : Nat) : Ent := ent (fun args _ => m_svv args [.agg ⟨orC m w a⟩]) fun _ _ => V ((q : Nat) : Int)
noncomputable def tAll (m : Nat) (w a : Nat → Nat) (q : Nat) : Tbl := tcons 94 (eAl m w a q) fun _ => none
noncomputable def tEh (m : Nat) (w a s : Nat → Nat) (q : Nat) (x : Nat → Int) : Tbl := tcons 95 (eOg m w a s) (tcons 94 (eAl m w a q) (tEl m w a x true))
def qe (y : Nat → Nat) (i : Nat) : Bool := m_eqv (I (Int.ofNat (y i))) (I (Int.ofNat (y i)))
theorem juB (r : Mem) (m : Nat) (w a : Nat → Nat) (y z : Nat) : (lvlT (SC r) (fun _ => none) .nil 2 3).call 64 [.agg ⟨orC m w a⟩, I (y : Nat), I (z : Nat)] emptyA fin =
    bif Nat.blt (Int.toNat (Int.ofNat z)) 12 then Option.casesOn (orC m w a)[Nat.add 1 (Nat.mul (Int.toNat (Int.ofNat z)) 1)]? (.fail 423) fun val => bif isI IntKind.u16 val then bif ibits BinOp.and IntKind.u16 (Int.fdiv (ofI val) (Int.ofNat 2 ^ min (Int.toNat (Int.ofNat y)) 16)) (Int.ofNat 1) == Int.ofNat 1 then .ret (.bool true) (AW.mk 0 .nil .nil) else .ret (.bool false) (AW.mk 0 .nil .nil) else .fail 420 else .fail 420 := by kernel_rfl
theorem juE (r : Mem) (m : Nat) (w a : Nat → Nat) (x : Nat → Int) : (lvlT (SC r) (fun _ => none) .nil 6 8).call 63 [.agg ⟨orC m w a⟩, x4 x] emptyA fin =
    bif decide (x 0 ≥ 0) then bif decide (x 0 < Int.ofNat m) then bif decide (x 1 ≥ 0) then bif decide (x 1 < Int.ofNat m) then bif decide (x 2 ≥ 0) then bif decide (x 2 < Int.ofNat m) then bif decide (x 3 ≥ 0) then bif decide (x 3 < Int.ofNat m) then .ret (.bool true) (AW.mk 0 .nil .nil) else .ret (.bool false) (AW.mk 0 .nil .nil) else .ret (.bool false) (AW.mk 0 .nil .nil) else .ret (.bool false) (AW.mk 0 .nil .nil) else .ret (.bool false) (AW.mk 0 .nil .nil) else .ret (.bool false) (AW.mk 0 .nil .nil) else .ret (.bool false) (AW.mk 0 .nil .nil) else .ret (.bool false) (AW.mk 0 .nil .nil) else .ret (.bool false) (AW.mk 0 .nil .nil) := by kernel_rfl
theorem juI (r : Mem) (b off n cap : Nat) (x : Nat → Int) : (lvlT (SC r) (fun _ => none) .nil 6 8).call 37 [RS b off n cap, x4 x] emptyA fin =
    bif decide (x 0 < 0) then .ret (.bool false) (AW.mk 0 .nil .nil) else bif decide (x 0 ≥ Int.ofNat n) then .ret (.bool false) (AW.mk 0 .nil .nil) else bif decide (x 1 < 0) then .ret (.bool false) (AW.mk 0 .nil .nil) else bif decide (x 1 ≥ Int.ofNat n) then .ret (.bool false) (AW.mk 0 .nil .nil) else bif decide (x 2 < 0) then .ret (.bool false) (AW.mk 0 .nil .nil) else bif decide (x 2 ≥ Int.ofNat n) then .ret (.bool false) (AW.mk 0 .nil .nil) else bif decide (x 3 < 0) then .ret (.bool false) (AW.mk 0 .nil .nil) else bif decide (x 3 ≥ Int.ofNat n) then .ret (.bool false) (AW.mk 0 .nil .nil) else .ret (.bool true) (AW.mk 0 .nil .nil) := by kernel_rfl
theorem juT (r : Mem) (m : Nat) (w a : Nat → Nat) (x : Nat → Int) : (lvlT (SC r) (tEl m w a x true) .nil 2 3).call 38 [.agg ⟨orC m w a⟩, x4 x] emptyA fin =
    bif m_svv [.agg ⟨(orC m w a)⟩, .agg ⟨[I (x 0), I (x 1), I (x 2), I (x 3)]⟩] [.agg ⟨(orC m w a)⟩, .agg ⟨[I (x 0), I (x 1), I (x 2), I (x 3)]⟩] then bif m_bf m w a (.agg ⟨(orC m w a)⟩) (x 0) (x 1) then bif m_bv w (x 0) (x 1) then bif m_bf m w a (.agg ⟨(orC m w a)⟩) (x 2) (x 3) then bif m_bv w (x 2) (x 3) then bif m_bf m w a (.agg ⟨(orC m w a)⟩) (x 0) (x 3) then bif m_bv w (x 0) (x 3) then .ret (.bool false) (AW.mk 0 .nil .nil) else bif m_bf m w a (.agg ⟨(orC m w a)⟩) (x 2) (x 1) then bif m_bv w (x 2) (x 1) then .ret (.bool false) (AW.mk 0 .nil .nil) else .ret (.bool true) (AW.mk 0 .nil .nil) else .fail 420 else .fail 420 else .ret (.bool false) (AW.mk 0 .nil .nil) else .fail 420 else .ret (.bool false) (AW.mk 0 .nil .nil) else .fail 420 else .fail 420 := by kernel_rfl
theorem juTf (r : Mem) (m : Nat) (w a : Nat → Nat) (x : Nat → Int) : (lvlT (SC r) (tEl m w a x false) .nil 2 3).call 38 [.agg ⟨orC m w a⟩, x4 x] emptyA fin =
    bif m_svv [.agg ⟨(orC m w a)⟩, .agg ⟨[I (x 0), I (x 1), I (x 2), I (x 3)]⟩] [.agg ⟨(orC m w a)⟩, .agg ⟨[I (x 0), I (x 1), I (x 2), I (x 3)]⟩] then .ret (.bool false) (AW.mk 0 .nil .nil) else .fail 420 := by kernel_rfl
theorem juH (r : Mem) (m : Nat) (w a s : Nat → Nat) (q : Nat) (y : Nat → Nat) : (lvlT (SC r) (tEh m w a s q (fun i => (y i : Nat))) .nil 6 8).call 49 [.agg ⟨orC m w a⟩, x4 fun i => (y i : Nat)] emptyA fin =
    bif m_svv [.agg ⟨(orC m w a)⟩, .agg ⟨[I (Int.ofNat (y 0)), I (Int.ofNat (y 1)), I (Int.ofNat (y 2)), I (Int.ofNat (y 3))]⟩] [.agg ⟨(orC m w a)⟩, .agg ⟨[I (Int.ofNat (y 0)), I (Int.ofNat (y 1)), I (Int.ofNat (y 2)), I (Int.ofNat (y 3))]⟩] then bif m_bf m w a (.agg ⟨(orC m w a)⟩) (Int.ofNat (y 0)) (Int.ofNat (y 1)) then bif m_bv w (Int.ofNat (y 0)) (Int.ofNat (y 1)) then bif m_bf m w a (.agg ⟨(orC m w a)⟩) (Int.ofNat (y 1)) (Int.ofNat (y 2)) then bif m_bv w (Int.ofNat (y 1)) (Int.ofNat (y 2)) then bif m_svv [.agg ⟨(orC m w a)⟩] [.agg ⟨(orC m w a)⟩] then bif m_og m w a (.agg ⟨(orC m w a)⟩) (Int.ofNat (y 0)) then bif m_og m w a (.agg ⟨(orC m w a)⟩) (Int.ofNat (y 1)) then bif m_og m w a (.agg ⟨(orC m w a)⟩) (Int.ofNat (y 2)) then bif ibits BinOp.and IntKind.u16 (Int.fdiv (ibits BinOp.and IntKind.u16 (ibits BinOp.and IntKind.u16 (ibits BinOp.and IntKind.u16 (Int.ofNat q) (m_ow s (Int.ofNat (y 0)))) (m_ow s (Int.ofNat (y 1)))) (m_ow s (Int.ofNat (y 2)))) (Int.ofNat 2 ^ min (Int.toNat (Int.ofNat (y 3))) 16)) (Int.ofNat 1) == Int.ofNat 1 then .ret (.bool true) (AW.mk 0 .nil .nil) else .ret (.bool false) (AW.mk 0 .nil .nil) else .fail 420 else .fail 420 else .fail 420 else .fail 420 else .ret (.bool false) (AW.mk 0 .nil .nil) else .fail 420 else .ret (.bool false) (AW.mk 0 .nil .nil) else .fail 420 else .fail 420 := by kernel_rfl
theorem juHf (r : Mem) (m : Nat) (w a : Nat → Nat) (x : Nat → Int) : (lvlT (SC r) (tEl m w a x false) .nil 2 3).call 49 [.agg ⟨orC m w a⟩, x4 x] emptyA fin =
    bif m_svv [.agg ⟨(orC m w a)⟩, .agg ⟨[I (x 0), I (x 1), I (x 2), I (x 3)]⟩] [.agg ⟨(orC m w a)⟩, .agg ⟨[I (x 0), I (x 1), I (x 2), I (x 3)]⟩] then .ret (.bool false) (AW.mk 0 .nil .nil) else .fail 420 := by kernel_rfl
theorem juS (r : Mem) (b off n cap m : Nat) (w a : Nat → Nat) (x : Nat → Int) (u v : Bool) : (lvlT (SC r) (tSh (RS b off n cap) m w a x u v) .nil 2 3).call 14 [RS b off n cap, x4 x] emptyA fin =
    bif m_svv [.slice (some ⟨b, off, some 0⟩) n cap] [.slice (some ⟨b, off, some 0⟩) n cap] then bif m_svv [.agg ⟨(orC m w a)⟩, .agg ⟨[I (x 0), I (x 1), I (x 2), I (x 3)]⟩] [.agg ⟨(orC m w a)⟩, .agg ⟨[I (x 0), I (x 1), I (x 2), I (x 3)]⟩] then bif u then .ret (.bool true) (AW.mk 0 .nil .nil) else .ret (.bool false) (AW.mk 0 .nil .nil) else .fail 420 else .fail 420 := by kernel_rfl
theorem juV (r : Mem) (b off n cap m : Nat) (w a : Nat → Nat) (x : Nat → Int) (u v : Bool) : (lvlT (SC r) (tSh (RS b off n cap) m w a x u v) .nil 2 3).call 26 [RS b off n cap, x4 x] emptyA fin =
    bif m_svv [.slice (some ⟨b, off, some 0⟩) n cap] [.slice (some ⟨b, off, some 0⟩) n cap] then bif m_svv [.agg ⟨(orC m w a)⟩, .agg ⟨[I (x 0), I (x 1), I (x 2), I (x 3)]⟩] [.agg ⟨(orC m w a)⟩, .agg ⟨[I (x 0), I (x 1), I (x 2), I (x 3)]⟩] then bif v then .ret (.bool true) (AW.mk 0 .nil .nil) else .ret (.bool false) (AW.mk 0 .nil .nil) else .fail 420 else .fail 420 := by kernel_rfl
theorem jrT (r : Mem) (b off n cap : Nat) (y : Nat → Nat) (T : List (List Bool)) : (lvlT (SS r 2) (tIn (RS b off n cap) n T (fun i => (y i : Nat)) true) .nil 2 3).call 13 [RS b off n cap, x4 fun i => (y i : Nat)] emptyA fin =
    bif m_svv [.slice (some ⟨b, off, some 0⟩) n cap, .agg ⟨[I (Int.ofNat (y 0)), I (Int.ofNat (y 1)), I (Int.ofNat (y 2)), I (Int.ofNat (y 3))]⟩] [.slice (some ⟨b, off, some 0⟩) n cap, .agg ⟨[I (Int.ofNat (y 0)), I (Int.ofNat (y 1)), I (Int.ofNat (y 2)), I (Int.ofNat (y 3))]⟩] then bif Nat.blt (Int.toNat (Int.ofNat (y 0))) n then Option.casesOn (r b (Nat.add off (Nat.mul (Int.toNat (Int.ofNat (y 0))) 1))) (.fail 423) fun val => bif isRoS val then bif Nat.blt (Int.toNat (Int.ofNat (y 1))) (lnOf val) then Option.casesOn (r (blkOf val) (Nat.add (offOf val) (Nat.mul (Int.toNat (Int.ofNat (y 1))) 1))) (.fail 423) fun val => bif isB val then bif ofB val then bif Nat.blt (Int.toNat (Int.ofNat (y 2))) n then Option.casesOn (r b (Nat.add off (Nat.mul (Int.toNat (Int.ofNat (y 2))) 1))) (.fail 423) fun val => bif isRoS val then bif Nat.blt (Int.toNat (Int.ofNat (y 3))) (lnOf val) then Option.casesOn (r (blkOf val) (Nat.add (offOf val) (Nat.mul (Int.toNat (Int.ofNat (y 3))) 1))) (.fail 423) fun val => bif isB val then bif ofB val then bif Nat.blt (Int.toNat (Int.ofNat (y 0))) n then Option.casesOn (r b (Nat.add off (Nat.mul (Int.toNat (Int.ofNat (y 0))) 1))) (.fail 423) fun val => bif isRoS val then bif Nat.blt (Int.toNat (Int.ofNat (y 3))) (lnOf val) then Option.casesOn (r (blkOf val) (Nat.add (offOf val) (Nat.mul (Int.toNat (Int.ofNat (y 3))) 1))) (.fail 423) fun val => bif isB val then bif ofB val then bif qe y 3 then bif qe y 0 then bif qe y 3 then bif qe y 2 then bif qe y 1 then bif qe y 0 then bif m_eqv (.agg ⟨[I (Int.ofNat (y 0)), I (Int.ofNat (y 1)), I (Int.ofNat (y 2)), I (Int.ofNat (y 3))]⟩) (.agg ⟨[I (Int.ofNat (y 0)), I (Int.ofNat (y 1)), I (Int.ofNat (y 2)), I (Int.ofNat (y 3))]⟩) then .ret (.bool false) (AW.mk 0 .nil .nil) else .fail 420 else .fail 420 else .fail 420 else .fail 420 else .fail 420 else .fail 420 else .fail 420 else bif Nat.blt (Int.toNat (Int.ofNat (y 2))) n then Option.casesOn (r b (Nat.add off (Nat.mul (Int.toNat (Int.ofNat (y 2))) 1))) (.fail 423) fun val => bif isRoS val then bif Nat.blt (Int.toNat (Int.ofNat (y 1))) (lnOf val) then Option.casesOn (r (blkOf val) (Nat.add (offOf val) (Nat.mul (Int.toNat (Int.ofNat (y 1))) 1))) (.fail 423) fun val => bif isB val then bif ofB val then bif qe y 1 then bif qe y 2 then bif qe y 3 then bif qe y 0 then bif qe y 3 then bif qe y 2 then bif qe y 1 then bif qe y 0 then bif m_eqv (.agg ⟨[I (Int.ofNat (y 0)), I (Int.ofNat (y 1)), I (Int.ofNat (y 2)), I (Int.ofNat (y 3))]⟩) (.agg ⟨[I (Int.ofNat (y 0)), I (Int.ofNat (y 1)), I (Int.ofNat (y 2)), I (Int.ofNat (y 3))]⟩) then .ret (.bool false) (AW.mk 0 .nil .nil) else .fail 420 else .fail 420 else .fail 420 else .fail 420 else .fail 420 else .fail 420 else .fail 420 else .fail 420 else .fail 420 else bif qe y 1 then bif qe y 2 then bif qe y 3 then bif qe y 0 then bif qe y 3 then bif qe y 2 then bif qe y 1 then bif qe y 0 then bif m_eqv (.agg ⟨[I (Int.ofNat (y 0)), I (Int.ofNat (y 1)), I (Int.ofNat (y 2)), I (Int.ofNat (y 3))]⟩) (.agg ⟨[I (Int.ofNat (y 0)), I (Int.ofNat (y 1)), I (Int.ofNat (y 2)), I (Int.ofNat (y 3))]⟩) then .ret (.bool true) (AW.mk 0 .nil .nil) else .fail 420 else .fail 420 else .fail 420 else .fail 420 else .fail 420 else .fail 420 else .fail 420 else .fail 420 else .fail 420 else .fail 420 else .fail 420 else .fail 420 else .fail 420 else .fail 420 else .fail 420 else .fail 420 else .fail 420 else bif qe y 3 then bif qe y 2 then bif qe y 1 then bif qe y 0 then bif m_eqv (.agg ⟨[I (Int.ofNat (y 0)), I (Int.ofNat (y 1)), I (Int.ofNat (y 2)), I (Int.ofNat (y 3))]⟩) (.agg ⟨[I (Int.ofNat (y 0)), I (Int.ofNat (y 1)), I (Int.ofNat (y 2)), I (Int.ofNat (y 3))]⟩) then .ret (.bool false) (AW.mk 0 .nil .nil) else .fail 420 else .fail 420 else .fail 420 else .fail 420 else .fail 420 else .fail 420 else .fail 420 else .fail 420 else .fail 420 else bif qe y 1 then bif qe y 0 then bif m_eqv (.agg ⟨[I (Int.ofNat (y 0)), I (Int.ofNat (y 1)), I (Int.ofNat (y 2)), I (Int.ofNat (y 3))]⟩) (.agg ⟨[I (Int.ofNat (y 0)), I (Int.ofNat (y 1)), I (Int.ofNat (y 2)), I (Int.ofNat (y 3))]⟩) then .ret (.bool false) (AW.mk 0 .nil .nil) else .fail 420 else .fail 420 else .fail 420 else .fail 420 else .fail 420 else .fail 420 else .fail 420 else .fail 420 := by kernel_rfl
theorem jrTf (r : Mem) (b off n cap : Nat) (x : Nat → Int) (T : List (List Bool)) : (lvlT (SC r) (tIn (RS b off n cap) n T x false) .nil 2 3).call 13 [RS b off n cap, x4 x] emptyA fin =
    bif m_svv [.slice (some ⟨b, off, some 0⟩) n cap, .agg ⟨[I (x 0), I (x 1), I (x 2), I (x 3)]⟩] [.slice (some ⟨b, off, some 0⟩) n cap, .agg ⟨[I (x 0), I (x 1), I (x 2), I (x 3)]⟩] then bif m_eqv (.agg ⟨[I (x 0), I (x 1), I (x 2), I (x 3)]⟩) (.agg ⟨[I (x 0), I (x 1), I (x 2), I (x 3)]⟩) then .ret (.bool false) (AW.mk 0 .nil .nil) else .fail 420 else .fail 420 := by kernel_rfl
theorem jrO (r : Mem) (b off n cap : Nat) (y z : Nat) : (lvlT (SS r 2) (fun _ => none) .nil 2 3).call 28 [RS b off n cap, I (y : Nat), I (z : Nat)] emptyA fin =
    bif Int.ofNat y != Int.ofNat z then bif Nat.blt (Int.toNat (Int.ofNat y)) n then Option.casesOn (r b (Nat.add off (Nat.mul (Int.toNat (Int.ofNat y)) 1))) (.fail 423) fun val => bif isRoS val then bif Nat.blt (Int.toNat (Int.ofNat z)) (lnOf val) then Option.casesOn (r (blkOf val) (Nat.add (offOf val) (Nat.mul (Int.toNat (Int.ofNat z)) 1))) (.fail 423) fun val => bif isB val then bif ofB val then .ret (.bool false) (AW.mk 0 .nil .nil) else bif Nat.blt (Int.toNat (Int.ofNat z)) n then Option.casesOn (r b (Nat.add off (Nat.mul (Int.toNat (Int.ofNat z)) 1))) (.fail 423) fun val => bif isRoS val then bif Nat.blt (Int.toNat (Int.ofNat y)) (lnOf val) then Option.casesOn (r (blkOf val) (Nat.add (offOf val) (Nat.mul (Int.toNat (Int.ofNat y)) 1))) (.fail 423) fun val => bif isB val then bif ofB val then .ret (.bool false) (AW.mk 0 .nil .nil) else .ret (.bool true) (AW.mk 0 .nil .nil) else .fail 420 else .fail 420 else .fail 420 else .fail 420 else .fail 420 else .fail 420 else .fail 420 else .fail 420 else .ret (.bool false) (AW.mk 0 .nil .nil) := by kernel_rfl
theorem jrH (r : Mem) (b off n cap : Nat) (y : Nat → Nat) (T : List (List Bool)) : (lvlT (SS r 2) (tIn (RS b off n cap) n T (fun i => (y i : Nat)) true) .nil 2 3).call 21 [RS b off n cap, x4 fun i => (y i : Nat)] emptyA fin =
    bif m_svv [.slice (some ⟨b, off, some 0⟩) n cap, .agg ⟨[I (Int.ofNat (y 0)), I (Int.ofNat (y 1)), I (Int.ofNat (y 2)), I (Int.ofNat (y 3))]⟩] [.slice (some ⟨b, off, some 0⟩) n cap, .agg ⟨[I (Int.ofNat (y 0)), I (Int.ofNat (y 1)), I (Int.ofNat (y 2)), I (Int.ofNat (y 3))]⟩] then bif Nat.blt (Int.toNat (Int.ofNat (y 0))) n then Option.casesOn (r b (Nat.add off (Nat.mul (Int.toNat (Int.ofNat (y 0))) 1))) (.fail 423) fun val => bif isRoS val then bif Nat.blt (Int.toNat (Int.ofNat (y 1))) (lnOf val) then Option.casesOn (r (blkOf val) (Nat.add (offOf val) (Nat.mul (Int.toNat (Int.ofNat (y 1))) 1))) (.fail 423) fun val => bif isB val then bif ofB val then bif Nat.blt (Int.toNat (Int.ofNat (y 1))) n then Option.casesOn (r b (Nat.add off (Nat.mul (Int.toNat (Int.ofNat (y 1))) 1))) (.fail 423) fun val => bif isRoS val then bif Nat.blt (Int.toNat (Int.ofNat (y 2))) (lnOf val) then Option.casesOn (r (blkOf val) (Nat.add (offOf val) (Nat.mul (Int.toNat (Int.ofNat (y 2))) 1))) (.fail 423) fun val => bif isB val then bif ofB val then bif m_ov (.slice (some ⟨b, off, some 0⟩) n cap) (.slice (some ⟨b, off, some 0⟩) n cap) n (Int.ofNat (y 3)) (Int.ofNat (y 0)) then bif m_ovv T (Int.ofNat (y 3)) (Int.ofNat (y 0)) then bif m_ov (.slice (some ⟨b, off, some 0⟩) n cap) (.slice (some ⟨b, off, some 0⟩) n cap) n (Int.ofNat (y 3)) (Int.ofNat (y 1)) then bif m_ovv T (Int.ofNat (y 3)) (Int.ofNat (y 1)) then bif m_ov (.slice (some ⟨b, off, some 0⟩) n cap) (.slice (some ⟨b, off, some 0⟩) n cap) n (Int.ofNat (y 3)) (Int.ofNat (y 2)) then bif m_ovv T (Int.ofNat (y 3)) (Int.ofNat (y 2)) then bif qe y 2 then bif qe y 3 then bif qe y 1 then bif qe y 3 then bif qe y 0 then bif qe y 3 then bif qe y 2 then bif qe y 1 then bif qe y 1 then bif qe y 0 then bif m_eqv (.agg ⟨[I (Int.ofNat (y 0)), I (Int.ofNat (y 1)), I (Int.ofNat (y 2)), I (Int.ofNat (y 3))]⟩) (.agg ⟨[I (Int.ofNat (y 0)), I (Int.ofNat (y 1)), I (Int.ofNat (y 2)), I (Int.ofNat (y 3))]⟩) then .ret (.bool true) (AW.mk 0 .nil .nil) else .fail 420 else .fail 420 else .fail 420 else .fail 420 else .fail 420 else .fail 420 else .fail 420 else .fail 420 else .fail 420 else .fail 420 else .fail 420 else bif qe y 2 then bif qe y 3 then bif qe y 1 then bif qe y 3 then bif qe y 0 then bif qe y 3 then bif qe y 2 then bif qe y 1 then bif qe y 1 then bif qe y 0 then bif m_eqv (.agg ⟨[I (Int.ofNat (y 0)), I (Int.ofNat (y 1)), I (Int.ofNat (y 2)), I (Int.ofNat (y 3))]⟩) (.agg ⟨[I (Int.ofNat (y 0)), I (Int.ofNat (y 1)), I (Int.ofNat (y 2)), I (Int.ofNat (y 3))]⟩) then .ret (.bool false) (AW.mk 0 .nil .nil) else .fail 420 else .fail 420 else .fail 420 else .fail 420 else .fail 420 else .fail 420 else .fail 420 else .fail 420 else .fail 420 else .fail 420 else .fail 420 else .fail 420 else bif qe y 1 then bif qe y 3 then bif qe y 0 then bif qe y 3 then bif qe y 2 then bif qe y 1 then bif qe y 1 then bif qe y 0 then bif m_eqv (.agg ⟨[I (Int.ofNat (y 0)), I (Int.ofNat (y 1)), I (Int.ofNat (y 2)), I (Int.ofNat (y 3))]⟩) (.agg ⟨[I (Int.ofNat (y 0)), I (Int.ofNat (y 1)), I (Int.ofNat (y 2)), I (Int.ofNat (y 3))]⟩) then .ret (.bool false) (AW.mk 0 .nil .nil) else .fail 420 else .fail 420 else .fail 420 else .fail 420 else .fail 420 else .fail 420 else .fail 420 else .fail 420 else .fail 420 else .fail 420 else bif qe y 0 then bif qe y 3 then bif qe y 2 then bif qe y 1 then bif qe y 1 then bif qe y 0 then bif m_eqv (.agg ⟨[I (Int.ofNat (y 0)), I (Int.ofNat (y 1)), I (Int.ofNat (y 2)), I (Int.ofNat (y 3))]⟩) (.agg ⟨[I (Int.ofNat (y 0)), I (Int.ofNat (y 1)), I (Int.ofNat (y 2)), I (Int.ofNat (y 3))]⟩) then .ret (.bool false) (AW.mk 0 .nil .nil) else .fail 420 else .fail 420 else .fail 420 else .fail 420 else .fail 420 else .fail 420 else .fail 420 else .fail 420 else bif qe y 2 then bif qe y 1 then bif qe y 1 then bif qe y 0 then bif m_eqv (.agg ⟨[I (Int.ofNat (y 0)), I (Int.ofNat (y 1)), I (Int.ofNat (y 2)), I (Int.ofNat (y 3))]⟩) (.agg ⟨[I (Int.ofNat (y 0)), I (Int.ofNat (y 1)), I (Int.ofNat (y 2)), I (Int.ofNat (y 3))]⟩) then .ret (.bool false) (AW.mk 0 .nil .nil) else .fail 420 else .fail 420 else .fail 420 else .fail 420 else .fail 420 else .fail 420 else .fail 420 else .fail 420 else .fail 420 else bif qe y 1 then bif qe y 0 then bif m_eqv (.agg ⟨[I (Int.ofNat (y 0)), I (Int.ofNat (y 1)), I (Int.ofNat (y 2)), I (Int.ofNat (y 3))]⟩) (.agg ⟨[I (Int.ofNat (y 0)), I (Int.ofNat (y 1)), I (Int.ofNat (y 2)), I (Int.ofNat (y 3))]⟩) then .ret (.bool false) (AW.mk 0 .nil .nil) else .fail 420 else .fail 420 else .fail 420 else .fail 420 else .fail 420 else .fail 420 else .fail 420 else .fail 420 := by kernel_rfl
theorem jrHf (r : Mem) (b off n cap : Nat) (x : Nat → Int) (T : List (List Bool)) : (lvlT (SC r) (tIn (RS b off n cap) n T x false) .nil 2 3).call 21 [RS b off n cap, x4 x] emptyA fin =
    bif m_svv [.slice (some ⟨b, off, some 0⟩) n cap, .agg ⟨[I (x 0), I (x 1), I (x 2), I (x 3)]⟩] [.slice (some ⟨b, off, some 0⟩) n cap, .agg ⟨[I (x 0), I (x 1), I (x 2), I (x 3)]⟩] then bif m_eqv (.agg ⟨[I (x 0), I (x 1), I (x 2), I (x 3)]⟩) (.agg ⟨[I (x 0), I (x 1), I (x 2), I (x 3)]⟩) then .ret (.bool false) (AW.mk 0 .nil .nil) else .fail 420 else .fail 420 := by kernel_rfl
theorem jvA (r : Mem) (m : Nat) (w a : Nat → Nat) : (lvlT (SC r) (fun _ => none) .nil 2 3).call 94 [.agg ⟨orC m w a⟩] emptyA fin =
    .ret (.int .u16 (IntKind.wrap .u16 (IntKind.wrap .u16 (Int.ofNat 1 * Int.ofNat 2 ^ min (Int.toNat (Int.ofNat m)) 16) - Int.ofNat 1))) (AW.mk 0 .nil .nil) := by kernel_rfl
theorem jvO (r : Mem) (m : Nat) (w a : Nat → Nat) (q x : Nat) : (lvlT (SC r) (tAll m w a q) .nil 2 3).call 95 [.agg ⟨orC m w a⟩, I (x : Nat)] emptyA fin =
    bif m_svv [.agg ⟨(orC m w a)⟩] [.agg ⟨(orC m w a)⟩] then bif Nat.blt (Int.toNat (Int.ofNat x)) 12 then Option.casesOn (orC m w a)[Nat.add 1 (Nat.mul (Int.toNat (Int.ofNat x)) 1)]? (.fail 423) fun val => bif isI IntKind.u16 val then bif Nat.blt (Int.toNat (Int.ofNat x)) 12 then Option.casesOn (orC m w a)[Nat.add 13 (Nat.mul (Int.toNat (Int.ofNat x)) 1)]? (.fail 423) fun val_1 => bif isI IntKind.u16 val_1 then Option.casesOn (orC m w a)[Nat.add 13 (Nat.mul (Int.toNat (Int.ofNat x)) 1)]? (.fail 423) fun val_2 => bif isI IntKind.u16 val_2 then bif m_eqv (.int .u16 (ofI val_2)) (.int .u16 (ofI val_1)) then Option.casesOn (orC m w a)[Nat.add 13 (Nat.mul (Int.toNat (Int.ofNat x)) 1)]? (.fail 423) fun val_3 => bif isI IntKind.u16 val_3 then bif m_eqv (.int .u16 (ofI val_3)) (.int .u16 (ofI val_1)) then Option.casesOn (orC m w a)[Nat.add 13 (Nat.mul (Int.toNat (Int.ofNat x)) 1)]? (.fail 423) fun val_4 => bif isI IntKind.u16 val_4 then bif m_eqv (.int .u16 (ofI val_4)) (.int .u16 (ofI val_1)) then Option.casesOn (orC m w a)[Nat.add 1 (Nat.mul (Int.toNat (Int.ofNat x)) 1)]? (.fail 423) fun val_5 => bif isI IntKind.u16 val_5 then bif m_eqv (.int .u16 (ofI val_5)) (.int .u16 (ofI val)) then Option.casesOn (orC m w a)[Nat.add 1 (Nat.mul (Int.toNat (Int.ofNat x)) 1)]? (.fail 423) fun val_6 => bif isI IntKind.u16 val_6 then bif m_eqv (.int .u16 (ofI val_6)) (.int .u16 (ofI val)) then Option.casesOn (orC m w a)[Nat.add 1 (Nat.mul (Int.toNat (Int.ofNat x)) 1)]? (.fail 423) fun val_7 => bif isI IntKind.u16 val_7 then bif m_eqv (.int .u16 (ofI val_7)) (.int .u16 (ofI val)) then bif m_eqv (.agg ⟨(orC m w a)⟩) (.agg ⟨(orC m w a)⟩) then .ret (.int .u16 (ibits BinOp.andNot IntKind.u16 (Int.ofNat q) (ibits BinOp.or IntKind.u16 (ibits BinOp.or IntKind.u16 (ofI val) (ofI val_1)) (IntKind.wrap .u16 (Int.ofNat 1 * Int.ofNat 2 ^ min (Int.toNat (Int.ofNat x)) 16))))) (AW.mk 0 .nil .nil) else .fail 420 else .fail 420 else .fail 420 else .fail 420 else .fail 420 else .fail 420 else .fail 420 else .fail 420 else .fail 420 else .fail 420 else .fail 420 else .fail 420 else .fail 420 else .fail 420 else .fail 420 else .fail 420 else .fail 420 else .fail 420 := by kernel_rfl
end Go.Proofs
namespace Go.Proofs
open Go Go.Ev Go.Num
theorem rwO_bitJ (T : List (List Bool)) (v : Nat) : ∀ k j, (rwO T v k).testBit j = (decide (j < k) && gT T v j)
 | 0, j => by simp [rwO]
 | k + 1, j => by
  have ih := rwO_bitJ T v k j
  rw [rwO]
  by_cases c : gT T v k = true
  ·rw [if_pos c, Nat.testBit_or, ih, Nat.testBit_two_pow]
   by_cases e : k = j
   ·subst e; simp [c]
   ·by_cases h : j < k
    ·simp [h, e, show j < k + 1 by omega]
    ·simp [h, e, show ¬ j < k + 1 by omega]
  ·rw [if_neg c, ih]
   by_cases e : k = j
   ·subst e; simp at c; simp [c]
   ·by_cases h : j < k
    ·simp [h, show j < k + 1 by omega]
    ·simp [h, show ¬ j < k + 1 by omega]
theorem eqv_or (m : Nat) (w a : Nat → Nat) : m_eqv (.agg ⟨orC m w a⟩) (.agg ⟨orC m w a⟩) = true := by
 simp [m_eqv, veq, veqs, orC, List.range, List.range.loop]
theorem eqv_x4 (a b c d : Int) : m_eqv (.agg ⟨[I a, I b, I c, I d]⟩) (.agg ⟨[I a, I b, I c, I d]⟩) = true := by
 simp [m_eqv, veq, veqs]
def insB (n : Nat) (x : Nat → Int) : Bool := decide (0 ≤ x 0 ∧ x 0 < n) && (decide (0 ≤ x 1 ∧ x 1 < n) && (decide (0 ≤ x 2 ∧ x 2 < n) && decide (0 ≤ x 3 ∧ x 3 < n)))
theorem insB_iff {n : Nat} {x : Nat → Int} : insB n x = true ↔ (0 ≤ x 0 ∧ x 0 < n) ∧ (0 ≤ x 1 ∧ x 1 < n) ∧ (0 ≤ x 2 ∧ x 2 < n) ∧ (0 ≤ x 3 ∧ x 3 < n) := by
 unfold insB
 simp only [Bool.and_eq_true, decide_eq_true_eq]
def twB (T : List (List Bool)) (x : Nat → Int) : Bool := insB T.length x && (gT T (x 0).toNat (x 1).toNat && (gT T (x 2).toNat (x 3).toNat && (!gT T (x 0).toNat (x 3).toNat && !gT T (x 2).toNat (x 1).toNat)))
noncomputable def thB (T : List (List Bool)) (x : Nat → Int) : Bool := insB T.length x && (gT T (x 0).toNat (x 1).toNat && (gT T (x 1).toNat (x 2).toNat && (m_ovv T (x 3) (x 0) && (m_ovv T (x 3) (x 1) && m_ovv T (x 3) (x 2)))))
theorem x4_nat {n : Nat} {x : Nat → Int} (h : insB n x = true) : ∃ y : Nat → Nat, x4 x = x4 (fun i => (y i : Nat)) ∧ (∀ i, i < 4 → x i = (y i : Nat)) ∧ ∀ i, i < 4 → y i < n := by
 rw [insB_iff] at h
 have e : ∀ i, i < 4 → 0 ≤ x i ∧ x i < n := fun i hi => by
  match i, hi with
  | 0, _ => exact h.1
  | 1, _ => exact h.2.1
  | 2, _ => exact h.2.2.1
  | 3, _ => exact h.2.2.2
 have e2 : ∀ i, i < 4 → x i = ((x i).toNat : Nat) := fun i hi => by have := e i hi; omega
 refine ⟨fun i => (x i).toNat, ?_, e2, fun i hi => by have := e i hi; show (x i).toNat < n; omega⟩
 unfold x4
 have a0 := e2 0 (by omega)
 have a1 := e2 1 (by omega)
 have a2 := e2 2 (by omega)
 have a3 := e2 3 (by omega)
 show Value.agg ⟨[I (x 0), I (x 1), I (x 2), I (x 3)]⟩ = Value.agg ⟨[I ((x 0).toNat : Nat), I ((x 1).toNat : Nat), I ((x 2).toNat : Nat), I ((x 3).toNat : Nat)]⟩
 rw [← a0, ← a1, ← a2, ← a3]
theorem eV_ok {r : Mem} {f : Nat} {a0 : List Value} {v : Bool} (ha : roVs a0 = true) (h : GrT Tryz.prog r f a0 (.bool v)) : EOk (SC r) f (eV a0 v) := EOk.ent fun args A hgd => by
 have hs := @of_decide_eq_true _ (Classical.propDecidable _) hgd
 subst hs
 exact h.ro ha A
section
variable {r : Mem} {m : Nat} {w a : Nat → Nat}
def ovW (m : Nat) (w a : Nat → Nat) (x : Nat) : Nat := anN (2 ^ m - 1) ((w x ||| a x) ||| 2 ^ x)
theorem m_lt16 (hm : m ≤ 12) : 2 ^ m - 1 < 4096 := by
 have : 2 ^ m ≤ 2 ^ 12 := Nat.pow_le_pow_right (by decide) hm
 omega
theorem ovW_lt (hm : m ≤ 12) (x : Nat) : ovW m w a x < 4096 := by
 have := m_lt16 hm
 exact an_lt (k := 12) this
theorem bef_ok (hw : ∀ j, w j < 4096) {y z : Nat} (hy : y < 12) (hz : z < 12) : GrT Tryz.prog r 64 [.agg ⟨orC m w a⟩, I (y : Nat), I (z : Nat)] (.bool ((w z).testBit y)) := by
 refine GrT.of (SC_ok r) TOk.nil .nil rfl ⟨2, 3, ?_⟩
 have hn' := juB r m w a y z
 have b1 : Nat.blt z 12 = true := Nat.ble_eq_true_of_le hz
 have g1 : (orC m w a)[Nat.add 1 (Nat.mul z 1)]? = some (V ((w z : Nat) : Int)) := by
  rw [show Nat.add 1 (Nat.mul z 1) = 1 + z by simp]; exact orC_w hz
 have := hw z
 simp only [show ∀ x : Nat, Int.toNat (Int.ofNat x) = x from fun _ => rfl, b1, g1, isV_V, ofI_V, has_v (show w z < 65536 by omega) (show y ≤ 16 by omega), cond_true] at hn'
 refine hn'.trans ?_
 cases (w z).testBit y <;> rfl
theorem eBf_ok (hw : ∀ j, w j < 4096) : EOk (SC r) 64 (eBf m w a) := EOk.ent fun args A hgd => by
 split at hgd
 ·rename_i o y z
  obtain ⟨rfl, h1, h2, h3, h4⟩ := @of_decide_eq_true _ (Classical.propDecidable _) hgd
  have h := bef_ok (r := r) (m := m) (a := a) hw (y := y.toNat) (z := z.toNat) (by omega) (by omega)
  rw [show ((y.toNat : Nat) : Int) = y by omega, show ((z.toNat : Nat) : Int) = z by omega] at h
  exact h.ro (by rfl) A
 ·cases hgd
theorem all_okJ (hm : m ≤ 12) : GrT Tryz.prog r 94 [.agg ⟨orC m w a⟩] (V ((2 ^ m - 1 : Nat) : Int)) := by
 refine GrT.of (SC_ok r) TOk.nil .nil rfl ⟨2, 3, ?_⟩
 have hn' := jvA r m w a
 have e1 : IntKind.wrap .u16 (((2 ^ m : Nat) : Int) - Int.ofNat 1) = ((2 ^ m - 1 : Nat) : Int) := by
  have h0 : 1 ≤ 2 ^ m := Nat.one_le_two_pow
  have h1 := m_lt16 hm
  have h2 : ((2 ^ m : Nat) : Int) - Int.ofNat 1 = ((2 ^ m - 1 : Nat) : Int) := by
   show ((2 ^ m : Nat) : Int) - 1 = _
   omega
  rw [h2]
  exact wrapV (by omega)
 simp only [show ∀ x : Nat, Int.toNat (Int.ofNat x) = x from fun _ => rfl, shlV (show m < 16 by omega), e1] at hn'
 exact hn'.trans rfl
theorem eAl_ok (hm : m ≤ 12) : EOk (SC r) 94 (eAl m w a (2 ^ m - 1)) := EOk.ent fun args A hgd => by
 have hs := @of_decide_eq_true _ (Classical.propDecidable _) hgd
 subst hs
 exact (all_okJ hm).ro rfl A
theorem ol_ok (hm : m ≤ 12) (hw : ∀ j, w j < 4096) (ha : ∀ j, a j < 4096) {x : Nat} (hx : x < 12) : GrT Tryz.prog r 95 [.agg ⟨orC m w a⟩, I (x : Nat)] (V ((ovW m w a x : Nat) : Int)) := by
 refine GrT.of (SC_ok r) (t := tAll m w a (2 ^ m - 1)) (TOk.nil.cons (eAl_ok hm)) .nil rfl ⟨2, 3, ?_⟩
 have hn' := jvO r m w a (2 ^ m - 1) x
 have b1 : Nat.blt x 12 = true := Nat.ble_eq_true_of_le hx
 have g1 : (orC m w a)[Nat.add 1 (Nat.mul x 1)]? = some (V ((w x : Nat) : Int)) := by
  rw [show Nat.add 1 (Nat.mul x 1) = 1 + x by simp]; exact orC_w hx
 have g2 : (orC m w a)[Nat.add 13 (Nat.mul x 1)]? = some (V ((a x : Nat) : Int)) := by
  rw [show Nat.add 13 (Nat.mul x 1) = 13 + x by simp]; exact orC_a hx
 have h1 := hw x
 have h2 := ha x
 have h3 := m_lt16 hm
 have h4 : 2 ^ x < 65536 := Nat.pow_lt_pow_right (n := 16) (by decide) (by omega)
 have h5 : w x ||| a x < 65536 := Nat.or_lt_two_pow (n := 16) (by omega) (by omega)
 have h6 : (w x ||| a x) ||| 2 ^ x < 65536 := Nat.or_lt_two_pow (n := 16) h5 h4
 have o1 := (uV (show w x < 65536 by omega) (show a x < 65536 by omega)).1
 have o2 := (uV h5 h4).1
 have o3 := (uV (show 2 ^ m - 1 < 65536 by omega) h6).2.2
 simp only [show ∀ x : Nat, Int.toNat (Int.ofNat x) = x from fun _ => rfl, b1, g1, g2, svv_rfl, isV_V, ofI_V, eqv_v, cond_true, shlV (show x < 16 by omega), o1, o2, eqv_or] at hn'
 simp only [Int.ofNat_eq_natCast, o3] at hn'
 exact hn'.trans rfl
theorem eOg_ok (hm : m ≤ 12) (hw : ∀ j, w j < 4096) (ha : ∀ j, a j < 4096) : EOk (SC r) 95 (eOg m w a (ovW m w a)) := EOk.ent fun args A hgd => by
 split at hgd
 ·rename_i o y
  obtain ⟨rfl, h1, h2⟩ := @of_decide_eq_true _ (Classical.propDecidable _) hgd
  have h := ol_ok (r := r) hm hw ha (x := y.toNat) (by omega)
  rw [show ((y.toNat : Nat) : Int) = y by omega] at h
  exact h.ro (by rfl) A
 ·cases hgd
theorem el_ok (x : Nat → Int) : GrT Tryz.prog r 63 [.agg ⟨orC m w a⟩, x4 x] (.bool (insB m x)) := by
 refine GrT.of (SC_ok r) TOk.nil .nil rfl ⟨6, 8, ?_⟩
 refine (juE r m w a x).trans ?_
 unfold insB
 simp only [ge_iff_le, Int.ofNat_eq_natCast, Bool.decide_and]
 cases decide (0 ≤ x 0) <;> cases decide (x 0 < (m : Int)) <;> cases decide (0 ≤ x 1) <;> cases decide (x 1 < (m : Int)) <;> cases decide (0 ≤ x 2) <;> cases decide (x 2 < (m : Int)) <;> cases decide (0 ≤ x 3) <;> cases decide (x 3 < (m : Int)) <;> rfl
end
section
variable {r : Mem} {b off n cap : Nat} {T : List (List Bool)}
theorem in_ok (x : Nat → Int) : GrT Tryz.prog r 37 [RS b off n cap, x4 x] (.bool (insB n x)) := by
 refine GrT.of (SC_ok r) TOk.nil .nil rfl ⟨6, 8, ?_⟩
 refine (juI r b off n cap x).trans ?_
 unfold insB
 have e : ∀ i, decide (0 ≤ x i ∧ x i < (n : Int)) = (!decide (x i < 0) && !decide (x i ≥ Int.ofNat n)) := fun i => by
  rw [Bool.eq_iff_iff]
  simp
 simp only [e]
 cases decide (x 0 < 0) <;> cases decide (x 0 ≥ Int.ofNat n) <;> cases decide (x 1 < 0) <;> cases decide (x 1 ≥ Int.ofNat n) <;> cases decide (x 2 < 0) <;> cases decide (x 2 ≥ Int.ofNat n) <;> cases decide (x 3 < 0) <;> cases decide (x 3 ≥ Int.ofNat n) <;> rfl
end
end Go.Proofs
namespace Go.Proofs
open Go Go.Ev Go.Num
theorem fin_b (v : Bool) : (bif v then CR.ret (.bool true) emptyA else CR.ret (.bool false) emptyA) = .ret (.bool v) emptyA := by cases v <;> rfl
section
variable {r : Mem} {m : Nat} {w a : Nat → Nat}
theorem tEl_ok (hm : m ≤ 12) (hw : ∀ j, w j < 4096) {x : Nat → Int} {v : Bool} (hv : insB m x = v) : TOk (SC r) (tEl m w a x v) := (TOk.nil.cons (eBf_ok hw)).cons (eV_ok rfl (by subst hv; exact el_ok x))
theorem tEh_ok (hm : m ≤ 12) (hw : ∀ j, w j < 4096) (ha : ∀ j, a j < 4096) {x : Nat → Int} (hv : insB m x = true) : TOk (SC r) (tEh m w a (ovW m w a) (2 ^ m - 1) x) := (((tEl_ok hm hw hv)).cons (eAl_ok hm)).cons (eOg_ok hm hw ha)
theorem bf_t {x y : Int} (hx : 0 ≤ x ∧ x < m) (hy : 0 ≤ y ∧ y < m) (hm : m ≤ 12) : m_bf m w a (.agg ⟨orC m w a⟩) x y = true := @decide_eq_true _ (Classical.propDecidable _) ⟨rfl, by omega, by omega, by omega, by omega⟩
theorem og_t {x : Int} (hx : 0 ≤ x ∧ x < m) : m_og m w a (.agg ⟨orC m w a⟩) x = true := @decide_eq_true _ (Classical.propDecidable _) ⟨rfl, hx.1, hx.2⟩
theorem tw_or (hm : m ≤ 12) (hw : ∀ j, w j < 4096) (x : Nat → Int) : GrT Tryz.prog r 38 [.agg ⟨orC m w a⟩, x4 x] (.bool (insB m x && (m_bv w (x 0) (x 1) && (m_bv w (x 2) (x 3) && (!m_bv w (x 0) (x 3) && !m_bv w (x 2) (x 1)))))) := by
 by_cases c : insB m x = true
 ·have hi := insB_iff.1 c
  refine GrT.of (SC_ok r) (tEl_ok (a := a) hm hw c) .nil rfl ⟨2, 3, ?_⟩
  have hn' := juT r m w a x
  simp only [svv_rfl, bf_t hi.1 hi.2.1 hm, bf_t hi.2.2.1 hi.2.2.2 hm, bf_t hi.1 hi.2.2.2 hm, bf_t hi.2.2.1 hi.2.1 hm, cond_true] at hn'
  refine hn'.trans ?_
  rw [c]
  cases m_bv w (x 0) (x 1) <;> cases m_bv w (x 2) (x 3) <;> cases m_bv w (x 0) (x 3) <;> cases m_bv w (x 2) (x 1) <;> rfl
 ·have c : insB m x = false := by simpa using c
  refine GrT.of (SC_ok r) (tEl_ok (a := a) hm hw c) .nil rfl ⟨2, 3, ?_⟩
  have hn' := juTf r m w a x
  simp only [svv_rfl, cond_true] at hn'
  refine hn'.trans ?_
  rw [c]; rfl
def ovB (w a : Nat → Nat) (x d : Nat) : Bool := !(w x).testBit d && (!(a x).testBit d && !decide (x = d))
theorem ovW_bit (x : Nat) {d : Nat} (hd : d < m) : (ovW m w a x).testBit d = ovB w a x d := by
 unfold ovW ovB
 rw [an_bit, Nat.testBit_two_pow_sub_one, Nat.testBit_or, Nat.testBit_or, Nat.testBit_two_pow]
 simp only [hd, decide_true, Bool.true_and, Bool.not_or, Bool.and_assoc]
theorem th_or (hm : m ≤ 12) (hw : ∀ j, w j < 4096) (ha : ∀ j, a j < 4096) (x : Nat → Int) : GrT Tryz.prog r 49 [.agg ⟨orC m w a⟩, x4 x] (.bool (insB m x && (m_bv w (x 0) (x 1) && (m_bv w (x 1) (x 2) && (ovB w a (x 0).toNat (x 3).toNat && (ovB w a (x 1).toNat (x 3).toNat && ovB w a (x 2).toNat (x 3).toNat)))))) := by
 by_cases c : insB m x = true
 ·have hi := insB_iff.1 c
  obtain ⟨y, hy, hxy, hyn⟩ := x4_nat c
  have c2 : insB m (fun i => (y i : Nat)) = true := by
   rw [insB_iff]
   have h0 := hyn 0 (by omega)
   have h1 := hyn 1 (by omega)
   have h2 := hyn 2 (by omega)
   have h3 := hyn 3 (by omega)
   exact ⟨⟨by omega, by omega⟩, ⟨by omega, by omega⟩, ⟨by omega, by omega⟩, by omega, by omega⟩
  have i2 := insB_iff.1 c2
  rw [hy, c, hxy 0 (by omega), hxy 1 (by omega), hxy 2 (by omega), hxy 3 (by omega)]
  refine GrT.of (SC_ok r) (tEh_ok hm hw ha c2) .nil rfl ⟨6, 8, ?_⟩
  have hn' := juH r m w a (ovW m w a) (2 ^ m - 1) y
  have l := fun x => ovW_lt (m := m) (w := w) (a := a) hm x
  have l0 := l (y 0)
  have l1 := l (y 1)
  have l2 := l (y 2)
  have lm := m_lt16 hm
  have a1 : 2 ^ m - 1 &&& ovW m w a (y 0) < 65536 := Nat.and_lt_two_pow (n := 16) _ (by omega)
  have a2 : (2 ^ m - 1 &&& ovW m w a (y 0)) &&& ovW m w a (y 1) < 65536 := Nat.and_lt_two_pow (n := 16) _ (by omega)
  have a3 : ((2 ^ m - 1 &&& ovW m w a (y 0)) &&& ovW m w a (y 1)) &&& ovW m w a (y 2) < 65536 := Nat.and_lt_two_pow (n := 16) _ (by omega)
  have o1 := (uV (show 2 ^ m - 1 < 65536 by omega) (show ovW m w a (y 0) < 65536 by omega)).2.1
  have o2 := (uV a1 (show ovW m w a (y 1) < 65536 by omega)).2.1
  have o3 := (uV a2 (show ovW m w a (y 2) < 65536 by omega)).2.1
  have hd := hyn 3 (by omega)
  have ow : ∀ z : Nat, m_ow (ovW m w a) (Int.ofNat z) = ((ovW m w a z : Nat) : Int) := fun _ => rfl
  have t1 : ((((2 ^ m - 1 &&& ovW m w a (y 0)) &&& ovW m w a (y 1)) &&& ovW m w a (y 2))).testBit (y 3) = (ovB w a (y 0) (y 3) && (ovB w a (y 1) (y 3) && ovB w a (y 2) (y 3))) := by
   rw [Nat.testBit_and, Nat.testBit_and, Nat.testBit_and, Nat.testBit_two_pow_sub_one, ovW_bit _ hd, ovW_bit _ hd, ovW_bit _ hd]
   simp only [hd, decide_true, Bool.true_and, Bool.and_assoc]
  have b0 : ∀ (i j : Nat), i < 4 → j < 4 → m_bf m w a (.agg ⟨orC m w a⟩) (Int.ofNat (y i)) (Int.ofNat (y j)) = true := fun i j hi hj => by
   have h1 := hyn i hi
   have h2 := hyn j hj
   exact bf_t ⟨by simp, by simpa using h1⟩ ⟨by simp, by simpa using h2⟩ hm
  have b1 : ∀ (i : Nat), i < 4 → m_og m w a (.agg ⟨orC m w a⟩) (Int.ofNat (y i)) = true := fun i hi => by
   have h1 := hyn i hi
   exact og_t ⟨by simp, by simpa using h1⟩
  have q0 : (Int.ofNat (2 ^ m - 1)) = ((2 ^ m - 1 : Nat) : Int) := rfl
  simp only [svv_rfl, b0 0 1 (by omega) (by omega), b0 1 2 (by omega) (by omega), b1 0 (by omega), b1 1 (by omega), b1 2 (by omega), cond_true, ow, q0, o1, o2, o3] at hn'
  simp only [show ∀ x : Nat, Int.toNat (Int.ofNat x) = x from fun _ => rfl, has_v a3 (show y 3 ≤ 16 by omega), t1] at hn'
  refine hn'.trans ?_
  simp only [Int.ofNat_eq_natCast, Int.toNat_natCast]
  cases m_bv w (y 0 : Nat) (y 1 : Nat) <;> cases m_bv w (y 1 : Nat) (y 2 : Nat) <;> cases ovB w a (y 0) (y 3) <;> cases ovB w a (y 1) (y 3) <;> cases ovB w a (y 2) (y 3) <;> rfl
 ·have c : insB m x = false := by simpa using c
  refine GrT.of (SC_ok r) (tEl_ok (a := a) hm hw c) .nil rfl ⟨2, 3, ?_⟩
  have hn' := juHf r m w a x
  simp only [svv_rfl, cond_true] at hn'
  refine hn'.trans ?_
  rw [c]; rfl
end
section
variable {r : Mem} {b off n cap : Nat} {T : List (List Bool)}
theorem ck_len (hc : ckO T = true) : 1 ≤ T.length ∧ T.length ≤ 12 := by
 unfold ckO at hc
 rw [Bool.and_eq_true, decide_eq_true_eq] at hc
 exact hc.1
theorem ck_row (hc : ckO T = true) {i : Nat} (hi : i < T.length) : (T.getD i []).length = T.length ∧ gT T i i = false := by
 unfold ckO at hc
 rw [Bool.and_eq_true, Bool.and_eq_true] at hc
 exact lenI_get hc.2.1 i hi
theorem wB_bitJ {i j : Nat} (hi : i < T.length) : (wB T T.length 0 j).testBit i = gT T i j := by
 rw [wB_cl, clW_bit]
 simp [hi]
theorem wA_bitJ {i j : Nat} (hi : i < T.length) (hj : j < T.length) : (wA T T.length 0 j).testBit i = gT T j i := by
 unfold wA
 rw [if_pos hj, rwO_bitJ]
 simp [hi]
theorem rd_okJ (hmt : ∀ b j u, tabM b j = some u → r b j = some u) (hM : TabM r b off T) (hn : T.length = n) (hc : ckO T = true) {x : Nat → Int} {u v : Bool} (hu : ∀ r : Mem, GrT Tryz.prog r 38 [.agg ⟨orC n (wB T n 0) (wA T n 0)⟩, x4 x] (.bool u)) (hv : ∀ r : Mem, GrT Tryz.prog r 49 [.agg ⟨orC n (wB T n 0) (wA T n 0)⟩, x4 x] (.bool v)) : TOk (SC r) (tSh (RS b off n cap) n (wB T n 0) (wA T n 0) x u v) := by
 refine ((TOk.nil.cons (eV_ok rfl (hv r))).cons (eV_ok rfl (hu r))).cons (EOk.ent fun args A hgd => ?_)
 have hs := @of_decide_eq_true _ (Classical.propDecidable _) hgd
 subst hs
 have h := ro_ok (cap := cap) hmt hM hn (by have := (ck_len hc).2; omega)
 unfold roC at h
 rw [hc, if_pos rfl, if_pos rfl, hn] at h
 exact h.ro rfl A
theorem toN {x : Int} {n : Nat} (h : 0 ≤ x ∧ x < n) : x.toNat < n := by omega
theorem sh_tw (hmt : ∀ b j u, tabM b j = some u → r b j = some u) (hM : TabM r b off T) (hn : T.length = n) (hc : ckO T = true) (x : Nat → Int) : GrT Tryz.prog r 14 [RS b off n cap, x4 x] (.bool (twB T x)) := by
 have hl := (ck_len hc).2
 subst hn
 have hw : ∀ j, wB T T.length 0 j < 4096 := fun j => by rw [wB_cl]; exact Nat.lt_of_lt_of_le (clO_lt T j T.length) (Nat.pow_le_pow_right (by decide) hl)
 have ha : ∀ j, wA T T.length 0 j < 4096 := fun j => wA_lt hl (by omega) _ j
 refine GrT.of (SC_ok r) (rd_okJ (cap := cap) hmt hM rfl hc (fun r => tw_or hl hw x) (fun r => th_or hl hw ha x)) .nil rfl ⟨2, 3, ?_⟩
 have hn' := juS r b off T.length cap T.length (wB T T.length 0) (wA T T.length 0) x
 simp only [svv_rfl, cond_true] at hn'
 refine ((hn' _ _).trans (fin_b _)).trans ?_
 unfold twB
 by_cases c : insB T.length x = true
 ·have hi := insB_iff.1 c
  unfold m_bv
  rw [wB_bitJ (toN hi.1), wB_bitJ (toN hi.2.2.1), wB_bitJ (toN hi.1), wB_bitJ (toN hi.2.2.1)]
 ·have c : insB T.length x = false := by simpa using c
  rw [c, Bool.false_and, Bool.false_and]
theorem sh_th (hmt : ∀ b j u, tabM b j = some u → r b j = some u) (hM : TabM r b off T) (hn : T.length = n) (hc : ckO T = true) (x : Nat → Int) : GrT Tryz.prog r 26 [RS b off n cap, x4 x] (.bool (thB T x)) := by
 have hl := (ck_len hc).2
 subst hn
 have hw : ∀ j, wB T T.length 0 j < 4096 := fun j => by rw [wB_cl]; exact Nat.lt_of_lt_of_le (clO_lt T j T.length) (Nat.pow_le_pow_right (by decide) hl)
 have ha : ∀ j, wA T T.length 0 j < 4096 := fun j => wA_lt hl (by omega) _ j
 refine GrT.of (SC_ok r) (rd_okJ (cap := cap) hmt hM rfl hc (fun r => tw_or hl hw x) (fun r => th_or hl hw ha x)) .nil rfl ⟨2, 3, ?_⟩
 have hn' := juV r b off T.length cap T.length (wB T T.length 0) (wA T T.length 0) x
 simp only [svv_rfl, cond_true] at hn'
 refine ((hn' _ _).trans (fin_b _)).trans ?_
 unfold thB
 by_cases c : insB T.length x = true
 ·have hi := insB_iff.1 c
  have ov : ∀ i, i < 4 → (0 ≤ x i ∧ x i < T.length) → ovB (wB T T.length 0) (wA T T.length 0) (x i).toNat (x 3).toNat = m_ovv T (x 3) (x i) := fun i hi4 h => by
   unfold ovB m_ovv
   have h3 := hi.2.2.2
   rw [wB_bitJ (toN h3), wA_bitJ (toN h3) (toN h)]
   have e : (!decide ((x i).toNat = (x 3).toNat)) = decide (x 3 ≠ x i) := by
    rw [Bool.eq_iff_iff]
    simp
    omega
   rw [e]
   cases gT T (x 3).toNat (x i).toNat <;> cases gT T (x i).toNat (x 3).toNat <;> cases decide (x 3 ≠ x i) <;> rfl
  unfold m_bv
  rw [wB_bitJ (toN hi.1), wB_bitJ (toN hi.2.1), ov 0 (by omega) hi.1, ov 1 (by omega) hi.2.1, ov 2 (by omega) hi.2.2.1]
 ·have c : insB T.length x = false := by simpa using c
  rw [c, Bool.false_and, Bool.false_and]
end
end Go.Proofs
namespace Go.Proofs
open Go Go.Ev Go.Num
section
variable {r : Mem} {b off n cap : Nat} {T : List (List Bool)}
theorem qe_t (y : Nat → Nat) (i : Nat) : qe y i = true := eqv_i _
theorem tab_all (hM : TabM r b off T) (hc : ckO T = true) (hn : T.length = n) : ∃ b2 o2 c2 : Nat → Nat, ∀ i, i < n → r b (off + i) = some (RS (b2 i) (o2 i) n (c2 i)) ∧ ∀ k, k < n → r (b2 i) (o2 i + k) = some (.bool (gT T i k)) := by
 subst hn
 have h : ∀ i, ∃ q : Nat × Nat × Nat, i < T.length → r b (off + i) = some (RS q.1 q.2.1 T.length q.2.2) ∧ ∀ k, k < T.length → r q.1 (q.2.1 + k) = some (.bool (gT T i k)) := fun i => by
  by_cases hi : i < T.length
  ·have hr := (ck_row hc hi).1
   obtain ⟨b2, o2, c2, h1, h2⟩ := tab_RS hM hi (by rw [hr]; omega)
   rw [hr] at h1 h2
   exact ⟨(b2, o2, c2), fun _ => ⟨h1, h2⟩⟩
  ·exact ⟨(0, 0, 0), fun h => absurd h hi⟩
 exact ⟨fun i => (Classical.choose (h i)).1, fun i => (Classical.choose (h i)).2.1, fun i => (Classical.choose (h i)).2.2, fun i hi => Classical.choose_spec (h i) hi⟩
theorem rf_ov (hM : TabM r b off T) (hn : T.length = n) (hc : ckO T = true) {y z : Nat} (hy : y < n) (hz : z < n) : GrT Tryz.prog r 28 [RS b off n cap, I (y : Nat), I (z : Nat)] (.bool (m_ovv T (y : Nat) (z : Nat))) := by
 obtain ⟨b2, o2, c2, h⟩ := tab_all hM hc hn
 refine GrT.of (C := SS r 2) (SS_ok r 2) TOk.nil .nil rfl ⟨2, 3, ?_⟩
 have hn' := jrO r b off n cap y z
 have b1 : Nat.blt y n = true := Nat.ble_eq_true_of_le hy
 have b2' : Nat.blt z n = true := Nat.ble_eq_true_of_le hz
 have e0 : ∀ o k : Nat, Nat.add o (Nat.mul k 1) = o + k := fun o k => by simp
 simp only [show ∀ x : Nat, Int.toNat (Int.ofNat x) = x from fun _ => rfl, b1, b2', e0, (h y hy).1, (h z hz).1, (h y hy).2 z hz, (h z hz).2 y hy, ro_RS, ln_RS, bk_RS, of_RS, b_bl, o_bl, cond_true] at hn'
 refine hn'.trans ?_
 have e1 : (Int.ofNat y != Int.ofNat z) = decide ((y : Int) ≠ (z : Int)) := by
  rw [Bool.eq_iff_iff]; simp
 rw [e1]
 unfold m_ovv
 simp only [Int.toNat_natCast]
 cases decide ((y : Int) ≠ (z : Int)) <;> cases gT T y z <;> cases gT T z y <;> rfl
theorem eOv_ok (hM : TabM r b off T) (hn : T.length = n) (hc : ckO T = true) {sh : Nat} : EOk (SS r sh) 28 (eOv (RS b off n cap) n T) := EOk.ent fun args A hgd => by
 split at hgd
 ·rename_i o y z
  obtain ⟨rfl, h1, h2, h3, h4⟩ := @of_decide_eq_true _ (Classical.propDecidable _) hgd
  have h := rf_ov (cap := cap) hM hn hc (y := y.toNat) (z := z.toNat) (by omega) (by omega)
  rw [show ((y.toNat : Nat) : Int) = y by omega, show ((z.toNat : Nat) : Int) = z by omega] at h
  exact GrT.ro (C := SS r sh) h (by rfl) A
 ·cases hgd
theorem tIn_ok (hM : TabM r b off T) (hn : T.length = n) (hc : ckO T = true) {x : Nat → Int} {v : Bool} (hv : insB n x = v) : TOk (SC r) (tIn (RS b off n cap) n T x v) := (TOk.nil.cons (eOv_ok (sh := 0) hM hn hc)).cons (eV_ok rfl (by subst hv; exact in_ok x))
theorem ov_t {s : Value} {x y : Int} (hx : 0 ≤ x ∧ x < n) (hy : 0 ≤ y ∧ y < n) : m_ov s s n x y = true := @decide_eq_true _ (Classical.propDecidable _) ⟨rfl, hx.1, hx.2, hy.1, hy.2⟩
theorem rf_tw (hM : TabM r b off T) (hn : T.length = n) (hc : ckO T = true) (x : Nat → Int) : GrT Tryz.prog r 13 [RS b off n cap, x4 x] (.bool (twB T x)) := by
 subst hn
 by_cases c : insB T.length x = true
 ·obtain ⟨y, hy, hxy, hyn⟩ := x4_nat c
  have c2 : insB T.length (fun i => (y i : Nat)) = true := by
   rw [insB_iff]
   have h0 := hyn 0 (by omega)
   have h1 := hyn 1 (by omega)
   have h2 := hyn 2 (by omega)
   have h3 := hyn 3 (by omega)
   exact ⟨⟨by omega, by omega⟩, ⟨by omega, by omega⟩, ⟨by omega, by omega⟩, by omega, by omega⟩
  unfold twB
  rw [hy, c, hxy 0 (by omega), hxy 1 (by omega), hxy 2 (by omega), hxy 3 (by omega)]
  obtain ⟨b2, o2, c2', h⟩ := tab_all hM hc rfl
  refine GrT.of (C := SS r 2) (SS_ok r 2) (TOk.sh 2 (tIn_ok (cap := cap) hM rfl hc c2)) .nil rfl ⟨2, 3, ?_⟩
  have hn' := jrT r b off T.length cap y T
  have b1 : ∀ i, i < 4 → Nat.blt (y i) T.length = true := fun i hi => Nat.ble_eq_true_of_le (hyn i hi)
  have e0 : ∀ o k : Nat, Nat.add o (Nat.mul k 1) = o + k := fun o k => by simp
  have h0 := hyn 0 (by omega)
  have h1 := hyn 1 (by omega)
  have h2 := hyn 2 (by omega)
  have h3 := hyn 3 (by omega)
  simp only [svv_rfl, qe_t, eqv_i, eqv_x4, show ∀ x : Nat, Int.toNat (Int.ofNat x) = x from fun _ => rfl, b1 0 (by omega), b1 1 (by omega), b1 2 (by omega), b1 3 (by omega), e0, (h _ h0).1, (h _ h2).1, (h _ h0).2 _ h1, (h _ h2).2 _ h3, (h _ h0).2 _ h3, (h _ h2).2 _ h1, ro_RS, ln_RS, bk_RS, of_RS, b_bl, o_bl, cond_true] at hn'
  refine hn'.trans ?_
  simp only [Int.toNat_natCast]
  cases gT T (y 0) (y 1) <;> cases gT T (y 2) (y 3) <;> cases gT T (y 0) (y 3) <;> cases gT T (y 2) (y 1) <;> rfl
 ·have c : insB T.length x = false := by simpa using c
  refine GrT.of (SC_ok r) (tIn_ok (cap := cap) hM rfl hc c) .nil rfl ⟨2, 3, ?_⟩
  have hn' := jrTf r b off T.length cap x T
  simp only [svv_rfl, eqv_x4, cond_true] at hn'
  refine hn'.trans ?_
  unfold twB
  rw [c]; rfl
theorem rf_th (hM : TabM r b off T) (hn : T.length = n) (hc : ckO T = true) (x : Nat → Int) : GrT Tryz.prog r 21 [RS b off n cap, x4 x] (.bool (thB T x)) := by
 subst hn
 by_cases c : insB T.length x = true
 ·obtain ⟨y, hy, hxy, hyn⟩ := x4_nat c
  have c2 : insB T.length (fun i => (y i : Nat)) = true := by
   rw [insB_iff]
   have h0 := hyn 0 (by omega)
   have h1 := hyn 1 (by omega)
   have h2 := hyn 2 (by omega)
   have h3 := hyn 3 (by omega)
   exact ⟨⟨by omega, by omega⟩, ⟨by omega, by omega⟩, ⟨by omega, by omega⟩, by omega, by omega⟩
  have i2 := insB_iff.1 c2
  unfold thB
  rw [hy, c, hxy 0 (by omega), hxy 1 (by omega), hxy 2 (by omega), hxy 3 (by omega)]
  obtain ⟨b2, o2, c2', h⟩ := tab_all hM hc rfl
  refine GrT.of (C := SS r 2) (SS_ok r 2) (TOk.sh 2 (tIn_ok (cap := cap) hM rfl hc c2)) .nil rfl ⟨2, 3, ?_⟩
  have hn' := jrH r b off T.length cap y T
  have b1 : ∀ i, i < 4 → Nat.blt (y i) T.length = true := fun i hi => Nat.ble_eq_true_of_le (hyn i hi)
  have e0 : ∀ o k : Nat, Nat.add o (Nat.mul k 1) = o + k := fun o k => by simp
  have h0 := hyn 0 (by omega)
  have h1 := hyn 1 (by omega)
  have h2 := hyn 2 (by omega)
  have h3 := hyn 3 (by omega)
  have v0 : m_ov (RS b off T.length cap) (RS b off T.length cap) T.length (Int.ofNat (y 3)) (Int.ofNat (y 0)) = true := ov_t i2.2.2.2 i2.1
  have v1 : m_ov (RS b off T.length cap) (RS b off T.length cap) T.length (Int.ofNat (y 3)) (Int.ofNat (y 1)) = true := ov_t i2.2.2.2 i2.2.1
  have v2 : m_ov (RS b off T.length cap) (RS b off T.length cap) T.length (Int.ofNat (y 3)) (Int.ofNat (y 2)) = true := ov_t i2.2.2.2 i2.2.2.1
  simp only [svv_rfl, qe_t, eqv_i, eqv_x4, v0, v1, v2, show ∀ x : Nat, Int.toNat (Int.ofNat x) = x from fun _ => rfl, b1 0 (by omega), b1 1 (by omega), b1 2 (by omega), b1 3 (by omega), e0, (h _ h0).1, (h _ h1).1, (h _ h0).2 _ h1, (h _ h1).2 _ h2, ro_RS, ln_RS, bk_RS, of_RS, b_bl, o_bl, cond_true] at hn'
  refine hn'.trans ?_
  simp only [Int.toNat_natCast, Int.ofNat_eq_natCast]
  cases gT T (y 0) (y 1) <;> cases gT T (y 1) (y 2) <;> cases m_ovv T (y 3 : Nat) (y 0 : Nat) <;> cases m_ovv T (y 3 : Nat) (y 1 : Nat) <;> cases m_ovv T (y 3 : Nat) (y 2 : Nat) <;> rfl
 ·have c : insB T.length x = false := by simpa using c
  refine GrT.of (SC_ok r) (tIn_ok (cap := cap) hM rfl hc c) .nil rfl ⟨2, 3, ?_⟩
  have hn' := jrHf r b off T.length cap x T
  simp only [svv_rfl, eqv_x4, cond_true] at hn'
  refine hn'.trans ?_
  unfold thB
  rw [c]; rfl
end
end Go.Proofs
namespace Go.Proofs
open Go Go.Ev Go.Num
noncomputable def cJr : Code := bodyOf S0 22
noncomputable def Jr_0 : Code := (lc cJr)
noncomputable def Jr_1 : Code := (lc (rc cJr))
noncomputable def Jr_2 : Code := (lc (lc (rc (rc cJr))))
noncomputable def Jr_3 : Code := (lc (ic (ic (rc (lc (rc (rc cJr)))))))
noncomputable def Jr_4 : Code := (lc (ic (lc (rc (ic (ic (rc (lc (rc (rc cJr))))))))))
noncomputable def Jr_5 : Code := (ic (ic (rc (ic (lc (rc (ic (ic (rc (lc (rc (rc cJr))))))))))))
noncomputable def Jr_6 : Code := (rc (rc (ic (ic (rc (lc (rc (rc cJr))))))))
noncomputable def Jr_7 : Code := (rc (rc (rc cJr)))
theorem Jr_eq : cJr = (.seq Jr_0 (.seq Jr_1 (.seq (.seq Jr_2 (.block 0 (.loop (.seq Jr_3 (.seq (.block 1 (.seq Jr_4 (.block 2 (.loop Jr_5)))) Jr_6))))) Jr_7))) := by kernel_rfl
noncomputable def cJq : Code := bodyOf S0 50
noncomputable def Jq_0 : Code := (lc cJq)
noncomputable def Jq_1 : Code := (lc (rc cJq))
noncomputable def Jq_2 : Code := (lc (lc (rc (rc cJq))))
noncomputable def Jq_3 : Code := (lc (ic (ic (rc (lc (rc (rc cJq)))))))
noncomputable def Jq_4 : Code := (lc (rc (ic (ic (rc (lc (rc (rc cJq))))))))
noncomputable def Jq_5 : Code := (lc (ic (lc (rc (rc (ic (ic (rc (lc (rc (rc cJq)))))))))))
noncomputable def Jq_6 : Code := (lc (rc (ic (lc (rc (rc (ic (ic (rc (lc (rc (rc cJq))))))))))))
noncomputable def Jq_7 : Code := (ic (ic (rc (rc (ic (lc (rc (rc (ic (ic (rc (lc (rc (rc cJq))))))))))))))
noncomputable def Jq_8 : Code := (rc (rc (rc (ic (ic (rc (lc (rc (rc cJq)))))))))
noncomputable def Jq_9 : Code := (rc (rc (rc cJq)))
theorem Jq_eq : cJq = (.seq Jq_0 (.seq Jq_1 (.seq (.seq Jq_2 (.block 0 (.loop (.seq Jq_3 (.seq Jq_4 (.seq (.block 1 (.seq Jq_5 (.seq Jq_6 (.block 2 (.loop Jq_7))))) Jq_8)))))) Jq_9))) := by kernel_rfl
noncomputable def m_far (x y w : Int) : Bool := decide (y > x) && decide (IntKind.wrap .u64 (IntKind.wrap .u64 y - IntKind.wrap .u64 x) > IntKind.wrap .u64 w)
def g3I (args : List Value) : Bool := match args with
 | [.int .i64 _, .int .i64 _, .int .i64 _] => true
 | _ => false
noncomputable def eFa : Ent := ent (fun args _ => g3I args) fun args _ => match args with
 | [.int .i64 x, .int .i64 y, .int .i64 w] => .bool (m_far x y w)
 | _ => undef
noncomputable def eMo : Ent := ent (fun args _ => g3I args) fun args _ => match args with
 | [.int .i64 y, .int .i64 x, .int .i64 w] => .bool (m_far x y w)
 | _ => undef
noncomputable def tFa : Tbl := tcons 48 eFa fun _ => none
noncomputable def tMo (m : Nat) (w a : Nat → Nat) : Tbl := tcons 77 eMo (tcons 64 (eBf m w a) fun _ => none)
def lvR0 : List Nat := [0, 1, 2]
def lvR1 : List Nat := [0, 1, 2, 7]
def lvR2 : List Nat := [0, 1, 2, 7, 8]
def vR0 (b off n cap b2 o2 k c2 : Nat) (w : Int) : OV := [some (RS b off n cap), some (RS b2 o2 k c2), some (I w)]
def vR1 (b off n cap b2 o2 k c2 : Nat) (w : Int) (x : Nat) : OV := [some (RS b off n cap), some (RS b2 o2 k c2), some (I w), some (I (x : Nat))]
def vR2 (b off n cap b2 o2 k c2 : Nat) (w : Int) (x y : Nat) : OV := [some (RS b off n cap), some (RS b2 o2 k c2), some (I w), some (I (x : Nat)), some (I (y : Nat))]
def mJq : Nat := 1 + 2 + 4 + 8 + 64 + 128 + 256 + 512 + 1024 + 2 ^ 20 + 2 ^ 21 + 2 ^ 22 + 2 ^ 23 + 2 ^ 27 + 2 ^ 28 + 2 ^ 29
def lvQ0 : List Nat := [1, 2, 3]
def lvQ1 : List Nat := [1, 2, 3, 20, 21, 22]
def lvQ2 : List Nat := [1, 2, 3, 20, 21, 22, 23]
def lvQ3 : List Nat := [1, 2, 3, 20, 21, 22, 7, 8]
def lvQ4 : List Nat := [1, 2, 3, 20, 21, 22, 7, 8, 27, 28, 29]
def vQ0 (b2 o2 k c2 : Nat) (wd : Int) : OV := [some (RS b2 o2 k c2), some (I wd), some (pq 0)]
def vQ1 (b2 o2 k c2 : Nat) (wd : Int) (x : Nat) : OV := vQ0 b2 o2 k c2 wd ++ [some (RS b2 o2 k c2), some (I (k : Nat)), some (I (x : Nat))]
def vQ3 (b2 o2 k c2 : Nat) (wd : Int) (x : Nat) (f : Int) : OV := vQ1 b2 o2 k c2 wd x ++ [some (I (x : Nat)), some (I f)]
def vQ4 (b2 o2 k c2 : Nat) (wd : Int) (x y : Nat) (f : Int) : OV := vQ3 b2 o2 k c2 wd x f ++ [some (RS b2 o2 k c2), some (I (k : Nat)), some (I (y : Nat))]
theorem jwF (r : Mem) (x y w : Int) : (lvlT (SC r) (fun _ => none) .nil 2 3).call 48 [I x, I y, I w] emptyA fin =
    bif decide (y > x) then bif decide (IntKind.wrap .u64 (IntKind.wrap .u64 y - IntKind.wrap .u64 x) > IntKind.wrap .u64 w) then .ret (.bool true) (AW.mk 0 .nil .nil) else .ret (.bool false) (AW.mk 0 .nil .nil) else .ret (.bool false) (AW.mk 0 .nil .nil) := by kernel_rfl
theorem jwM (r : Mem) (x y w : Int) : (lvlT (SC r) (fun _ => none) .nil 2 3).call 77 [I x, I y, I w] emptyA fin =
    bif decide (x > y) then bif decide (IntKind.wrap .u64 (IntKind.wrap .u64 x - IntKind.wrap .u64 y) > IntKind.wrap .u64 w) then .ret (.bool true) (AW.mk 0 .nil .nil) else .ret (.bool false) (AW.mk 0 .nil .nil) else .ret (.bool false) (AW.mk 0 .nil .nil) := by kernel_rfl
theorem jsA (r : Mem) (b off n cap b2 o2 k c2 : Nat) (w : Int) (fs : FnsC) (K : OV → List Nat → OO → CR) (kx : Nat → KS) (KR : OV → List Nat → OO → CR) : run (SC r) 455 48 1 Jr_0 fs none (rbK 0 lvR0 [] K) kx (rbK 0 [6] [] KR) (sc0 455 [RS b off n cap, RS b2 o2 k c2, I w]) (tr0 455 [RS b off n cap, RS b2 o2 k c2, I w]) [] emptyA =
    K [some (.slice (some ⟨b, off, some 0⟩) n cap), some (.slice (some ⟨b2, o2, some 0⟩) k c2), some (I w)] [] [] := by kernel_rfl
theorem jsB (r : Mem) (b off n cap b2 o2 k c2 : Nat) (w : Int) (fs : FnsC) (K : OV → List Nat → OO → CR) (kx : Nat → KS) (KR : OV → List Nat → OO → CR) : run (SC r) 455 48 1 Jr_1 fs none (rbK 0 lvR0 [] K) kx (rbK 0 [6] [] KR) [] (bT lvR0 (vR0 b off n cap b2 o2 k c2 w) .nil) [] (mkA []) =
    bif Int.ofNat k != Int.ofNat n then KR [some (.bool false)] [] [] else bif decide (w < 0) then KR [some (.bool false)] [] [] else K [some (.slice (some ⟨b, off, some 0⟩) n cap), some (.slice (some ⟨b2, o2, some 0⟩) k c2), some (I w)] [] [] := by kernel_rfl
theorem jsC (r : Mem) (b off n cap b2 o2 k c2 : Nat) (w : Int) (fs : FnsC) (K : OV → List Nat → OO → CR) (kx : Nat → KS) (kr : KS) : run (SC r) 455 48 1 Jr_2 fs none (rbK 0 lvR1 [] K) kx kr [] (bT lvR0 (vR0 b off n cap b2 o2 k c2 w) .nil) [] (mkA []) =
    K [some (.slice (some ⟨b, off, some 0⟩) n cap), some (.slice (some ⟨b2, o2, some 0⟩) k c2), some (I w), some (I (Int.ofNat 0))] [] [] := by kernel_rfl
theorem jsD (r : Mem) (b off n cap b2 o2 k c2 : Nat) (w : Int) (x : Nat) (fs : FnsC) (K : OV → List Nat → OO → CR) (KX : Nat → OV → List Nat → OO → CR) (kr : KS) : run (SC r) 455 48 1 Jr_3 fs none (rbK 0 lvR1 [] K) (fun j => rbK 0 [] [] (KX j)) kr [] (bT lvR1 (vR1 b off n cap b2 o2 k c2 w x) .nil) [] (mkA []) =
    bif decide (Int.ofNat x < Int.ofNat n) then K [some (.slice (some ⟨b, off, some 0⟩) n cap), some (.slice (some ⟨b2, o2, some 0⟩) k c2), some (I w), some (I (Int.ofNat x))] [] [] else KX 0 [] [] [] := by kernel_rfl
theorem jsE (r : Mem) (b off n cap b2 o2 k c2 : Nat) (w : Int) (x : Nat) (fs : FnsC) (K : OV → List Nat → OO → CR) (kx : Nat → KS) (kr : KS) : run (SC r) 455 48 1 Jr_4 fs none (rbK 0 lvR2 [] K) kx kr [] (bT lvR1 (vR1 b off n cap b2 o2 k c2 w x) .nil) [] (mkA []) =
    K [some (.slice (some ⟨b, off, some 0⟩) n cap), some (.slice (some ⟨b2, o2, some 0⟩) k c2), some (I w), some (I (Int.ofNat x)), some (I (Int.ofNat 0))] [] [] := by kernel_rfl
theorem jsF (r : Mem) (b off n cap b2 o2 k c2 : Nat) (w : Int) (x y : Nat) (K : OV → List Nat → OO → CR) (KX : Nat → OV → List Nat → OO → CR) (KR : OV → List Nat → OO → CR) : run (SS r 2) 455 48 1 Jr_5 (lvlT (SS r 2) tFa .nil 1 1) none (rbK 0 lvR2 [] K) (fun j => rbK 0 lvR1 [] (KX j)) (rbK 0 [6] [] KR) [] (bT lvR2 (vR2 b off n cap b2 o2 k c2 w x y) .nil) [] (mkA []) =
    bif decide (Int.ofNat y < Int.ofNat n) then bif Nat.blt (Int.toNat (Int.ofNat x)) n then Option.casesOn (r b (Nat.add off (Nat.mul (Int.toNat (Int.ofNat x)) 1))) (.fail 423) fun val => bif isRoS val then bif Nat.blt (Int.toNat (Int.ofNat y)) (lnOf val) then Option.casesOn (r (blkOf val) (Nat.add (offOf val) (Nat.mul (Int.toNat (Int.ofNat y)) 1))) (.fail 423) fun val => bif isB val then bif ofB val then bif Nat.blt (Int.toNat (Int.ofNat x)) k then Option.casesOn (r b2 (Nat.add o2 (Nat.mul (Int.toNat (Int.ofNat x)) 1))) (.fail 423) fun val => bif isI IntKind.i64 val then bif Nat.blt (Int.toNat (Int.ofNat y)) k then Option.casesOn (r b2 (Nat.add o2 (Nat.mul (Int.toNat (Int.ofNat y)) 1))) (.fail 423) fun val_1 => bif isI IntKind.i64 val_1 then bif m_far (ofI val) (ofI val_1) w then K [some (.slice (some ⟨b, off, some 0⟩) n cap), some (.slice (some ⟨b2, o2, some 0⟩) k c2), some (I w), some (I (Int.ofNat x)), some (I (IntKind.wrap .i64 (Int.ofNat y + Int.ofNat 1)))] [] [] else KR [some (.bool false)] [] [] else .fail 420 else .fail 420 else .fail 420 else .fail 420 else bif Nat.blt (Int.toNat (Int.ofNat x)) k then Option.casesOn (r b2 (Nat.add o2 (Nat.mul (Int.toNat (Int.ofNat x)) 1))) (.fail 423) fun val => bif isI IntKind.i64 val then bif Nat.blt (Int.toNat (Int.ofNat y)) k then Option.casesOn (r b2 (Nat.add o2 (Nat.mul (Int.toNat (Int.ofNat y)) 1))) (.fail 423) fun val_1 => bif isI IntKind.i64 val_1 then bif m_far (ofI val) (ofI val_1) w then KR [some (.bool false)] [] [] else K [some (.slice (some ⟨b, off, some 0⟩) n cap), some (.slice (some ⟨b2, o2, some 0⟩) k c2), some (I w), some (I (Int.ofNat x)), some (I (IntKind.wrap .i64 (Int.ofNat y + Int.ofNat 1)))] [] [] else .fail 420 else .fail 420 else .fail 420 else .fail 420 else .fail 420 else .fail 420 else .fail 420 else .fail 420 else KX 2 [some (.slice (some ⟨b, off, some 0⟩) n cap), some (.slice (some ⟨b2, o2, some 0⟩) k c2), some (I w), some (I (Int.ofNat x))] [] [] := by kernel_rfl
theorem jsG (r : Mem) (b off n cap b2 o2 k c2 : Nat) (w : Int) (x : Nat) (fs : FnsC) (K : OV → List Nat → OO → CR) (kx : Nat → KS) (kr : KS) : run (SC r) 455 48 1 Jr_6 fs none (rbK 0 lvR1 [] K) kx kr [] (bT lvR1 (vR1 b off n cap b2 o2 k c2 w x) .nil) [] (mkA []) =
    K [some (.slice (some ⟨b, off, some 0⟩) n cap), some (.slice (some ⟨b2, o2, some 0⟩) k c2), some (I w), some (I (IntKind.wrap .i64 (Int.ofNat x + Int.ofNat 1)))] [] [] := by kernel_rfl
theorem jsH (r : Mem) (fs : FnsC) (kn : KS) (kx : Nat → KS) (KR : OV → List Nat → OO → CR) : run (SC r) 455 48 1 Jr_7 fs none kn kx (rbK 0 [6] [] KR) [] (bT [] [] .nil) [] (mkA []) =
    KR [some (.bool true)] [] [] := by kernel_rfl
theorem jqA (r : Mem) (m : Nat) (w a : Nat → Nat) (b2 o2 k c2 : Nat) (wd : Int) (fs : FnsC) (K : OV → List Nat → OO → CR) (kx : Nat → KS) (KR : OV → List Nat → OO → CR) : run (SC r) mJq 45 1 Jq_0 fs none (rbK 0 lvQ0 [] K) kx (rbK 0 [6] [] KR) (sc0 mJq [.agg ⟨orC m w a⟩, RS b2 o2 k c2, I wd]) (tr0 mJq [.agg ⟨orC m w a⟩, RS b2 o2 k c2, I wd]) [] emptyA =
    K [some (.slice (some ⟨b2, o2, some 0⟩) k c2), some (I wd), some (.pointer (some ⟨0, 0, none⟩))] [] [some (.cells (orC m w a) 59 0 0)] := by kernel_rfl
theorem jqB (r : Mem) (m : Nat) (w a : Nat → Nat) (b2 o2 k c2 : Nat) (wd : Int) (fs : FnsC) (K : OV → List Nat → OO → CR) (kx : Nat → KS) (KR : OV → List Nat → OO → CR) : run (SC r) mJq 45 1 Jq_1 fs none (rbK 0 lvQ0 [] K) kx (rbK 0 [6] [] KR) [] (bT lvQ0 (vQ0 b2 o2 k c2 wd) .nil) [] (mkA [oOr (orC m w a) 0]) =
    bif Int.ofNat k != Int.ofNat m then KR [some (.bool false)] [] [] else bif decide (wd < 0) then KR [some (.bool false)] [] [] else K [some (.slice (some ⟨b2, o2, some 0⟩) k c2), some (I wd), some (.pointer (some ⟨0, 0, none⟩))] [] [some (.cells (orC m w a) 59 0 0)] := by kernel_rfl
theorem jqC (r : Mem) (m : Nat) (w a : Nat → Nat) (b2 o2 k c2 : Nat) (wd : Int) (fs : FnsC) (K : OV → List Nat → OO → CR) (kx : Nat → KS) (kr : KS) : run (SC r) mJq 45 1 Jq_2 fs none (rbK 0 lvQ1 [] K) kx kr [] (bT lvQ0 (vQ0 b2 o2 k c2 wd) .nil) [] (mkA [oOr (orC m w a) 0]) =
    K [some (.slice (some ⟨b2, o2, some 0⟩) k c2), some (I wd), some (.pointer (some ⟨0, 0, none⟩)), some (.slice (some ⟨b2, o2, some 0⟩) k c2), some (I (Int.ofNat k)), some (I (Int.ofNat 0))] [] [some (.cells (orC m w a) 59 0 0)] := by kernel_rfl
theorem jqD (r : Mem) (m : Nat) (w a : Nat → Nat) (b2 o2 k c2 : Nat) (wd : Int) (x : Nat) (fs : FnsC) (K : OV → List Nat → OO → CR) (kx : Nat → KS) (kr : KS) : run (SC r) mJq 45 1 Jq_3 fs none (rbK 0 lvQ2 [] K) kx kr [] (bT lvQ1 (vQ1 b2 o2 k c2 wd x) .nil) [] (mkA [oOr (orC m w a) 0]) =
    bif decide (Int.ofNat x < Int.ofNat k) then K [some (.slice (some ⟨b2, o2, some 0⟩) k c2), some (I wd), some (.pointer (some ⟨0, 0, none⟩)), some (.slice (some ⟨b2, o2, some 0⟩) k c2), some (I (Int.ofNat k)), some (I (Int.ofNat x)), some (.bool true)] [] [some (.cells (orC m w a) 59 0 0)] else K [some (.slice (some ⟨b2, o2, some 0⟩) k c2), some (I wd), some (.pointer (some ⟨0, 0, none⟩)), some (.slice (some ⟨b2, o2, some 0⟩) k c2), some (I (Int.ofNat k)), some (I (Int.ofNat x)), some (.bool false)] [] [some (.cells (orC m w a) 59 0 0)] := by kernel_rfl
theorem jqE (r : Mem) (m : Nat) (w a : Nat → Nat) (b2 o2 k c2 : Nat) (wd : Int) (x : Nat) (q : Bool) (fs : FnsC) (K : OV → List Nat → OO → CR) (KX : Nat → OV → List Nat → OO → CR) (kr : KS) : run (SC r) mJq 45 1 Jq_4 fs none (rbK 0 lvQ1 [] K) (fun j => rbK 0 [] [] (KX j)) kr [] (bT lvQ2 (vQ1 b2 o2 k c2 wd x ++ [some (.bool q)]) .nil) [] (mkA [oOr (orC m w a) 0]) =
    bif q then K [some (.slice (some ⟨b2, o2, some 0⟩) k c2), some (I wd), some (.pointer (some ⟨0, 0, none⟩)), some (.slice (some ⟨b2, o2, some 0⟩) k c2), some (I (Int.ofNat k)), some (I (Int.ofNat x))] [] [some (.cells (orC m w a) 59 0 0)] else KX 0 [] [] [] := by kernel_rfl
theorem jqF (r : Mem) (m : Nat) (w a : Nat → Nat) (b2 o2 k c2 : Nat) (wd : Int) (x : Nat) (fs : FnsC) (K : OV → List Nat → OO → CR) (kx : Nat → KS) (kr : KS) : run (SC r) mJq 45 1 Jq_5 fs none (rbK 0 lvQ3 [] K) kx kr [] (bT lvQ1 (vQ1 b2 o2 k c2 wd x) .nil) [] (mkA [oOr (orC m w a) 0]) =
    bif Nat.blt (Int.toNat (Int.ofNat x)) k then Option.casesOn (r b2 (Nat.add o2 (Nat.mul (Int.toNat (Int.ofNat x)) 1))) (.fail 423) fun val => bif isI IntKind.i64 val then K [some (.slice (some ⟨b2, o2, some 0⟩) k c2), some (I wd), some (.pointer (some ⟨0, 0, none⟩)), some (.slice (some ⟨b2, o2, some 0⟩) k c2), some (I (Int.ofNat k)), some (I (Int.ofNat x)), some (I (Int.ofNat x)), some (I (ofI val))] [] [some (.cells (orC m w a) 59 0 0)] else .fail 420 else .fail 420 := by kernel_rfl
theorem jqG (r : Mem) (m : Nat) (w a : Nat → Nat) (b2 o2 k c2 : Nat) (wd : Int) (x : Nat) (f : Int) (fs : FnsC) (K : OV → List Nat → OO → CR) (kx : Nat → KS) (kr : KS) : run (SC r) mJq 45 1 Jq_6 fs none (rbK 0 lvQ4 [] K) kx kr [] (bT lvQ3 (vQ3 b2 o2 k c2 wd x f) .nil) [] (mkA [oOr (orC m w a) 0]) =
    K [some (.slice (some ⟨b2, o2, some 0⟩) k c2), some (I wd), some (.pointer (some ⟨0, 0, none⟩)), some (.slice (some ⟨b2, o2, some 0⟩) k c2), some (I (Int.ofNat k)), some (I (Int.ofNat x)), some (I (Int.ofNat x)), some (I f), some (.slice (some ⟨b2, o2, some 0⟩) k c2), some (I (Int.ofNat k)), some (I (Int.ofNat 0))] [] [some (.cells (orC m w a) 59 0 0)] := by kernel_rfl
theorem jqH (r : Mem) (m : Nat) (w a : Nat → Nat) (b2 o2 k c2 : Nat) (wd : Int) (x y : Nat) (f : Int) (K : OV → List Nat → OO → CR) (KX : Nat → OV → List Nat → OO → CR) (KR : OV → List Nat → OO → CR) : run (SC r) mJq 45 1 Jq_7 (lvlT (SC r) (tMo m w a) .nil 1 1) none (rbK 0 lvQ4 [] K) (fun j => rbK 0 lvQ1 [] (KX j)) (rbK 0 [6] [] KR) [] (bT lvQ4 (vQ4 b2 o2 k c2 wd x y f) .nil) [] (mkA [oOr (orC m w a) 0]) =
    bif decide (Int.ofNat y < Int.ofNat k) then bif Nat.blt (Int.toNat (Int.ofNat y)) k then Option.casesOn (r b2 (Nat.add o2 (Nat.mul (Int.toNat (Int.ofNat y)) 1))) (.fail 423) fun val => bif isI IntKind.i64 val then bif m_far f (ofI val) wd then bif m_bf m w a (.agg ⟨(orC m w a)⟩) (Int.ofNat x) (Int.ofNat y) then bif m_bv w (Int.ofNat x) (Int.ofNat y) then bif m_eqv (.agg ⟨(orC m w a)⟩) (.agg ⟨(orC m w a)⟩) then bif m_eqv (.agg ⟨(orC m w a)⟩) (.agg ⟨(orC m w a)⟩) then K [some (.slice (some ⟨b2, o2, some 0⟩) k c2), some (I wd), some (.pointer (some ⟨0, 0, none⟩)), some (.slice (some ⟨b2, o2, some 0⟩) k c2), some (I (Int.ofNat k)), some (I (Int.ofNat x)), some (I (Int.ofNat x)), some (I f), some (.slice (some ⟨b2, o2, some 0⟩) k c2), some (I (Int.ofNat k)), some (I (IntKind.wrap .i64 (Int.ofNat y + Int.ofNat 1)))] [] [some (.cells (orC m w a) 59 0 0)] else .fail 420 else .fail 420 else bif m_eqv (.agg ⟨(orC m w a)⟩) (.agg ⟨(orC m w a)⟩) then bif m_eqv (.agg ⟨(orC m w a)⟩) (.agg ⟨(orC m w a)⟩) then KR [some (.bool false)] [] [] else .fail 420 else .fail 420 else .fail 420 else bif m_bf m w a (.agg ⟨(orC m w a)⟩) (Int.ofNat x) (Int.ofNat y) then bif m_bv w (Int.ofNat x) (Int.ofNat y) then bif m_eqv (.agg ⟨(orC m w a)⟩) (.agg ⟨(orC m w a)⟩) then bif m_eqv (.agg ⟨(orC m w a)⟩) (.agg ⟨(orC m w a)⟩) then KR [some (.bool false)] [] [] else .fail 420 else .fail 420 else bif m_eqv (.agg ⟨(orC m w a)⟩) (.agg ⟨(orC m w a)⟩) then bif m_eqv (.agg ⟨(orC m w a)⟩) (.agg ⟨(orC m w a)⟩) then K [some (.slice (some ⟨b2, o2, some 0⟩) k c2), some (I wd), some (.pointer (some ⟨0, 0, none⟩)), some (.slice (some ⟨b2, o2, some 0⟩) k c2), some (I (Int.ofNat k)), some (I (Int.ofNat x)), some (I (Int.ofNat x)), some (I f), some (.slice (some ⟨b2, o2, some 0⟩) k c2), some (I (Int.ofNat k)), some (I (IntKind.wrap .i64 (Int.ofNat y + Int.ofNat 1)))] [] [some (.cells (orC m w a) 59 0 0)] else .fail 420 else .fail 420 else .fail 420 else .fail 420 else .fail 420 else KX 2 [some (.slice (some ⟨b2, o2, some 0⟩) k c2), some (I wd), some (.pointer (some ⟨0, 0, none⟩)), some (.slice (some ⟨b2, o2, some 0⟩) k c2), some (I (Int.ofNat k)), some (I (Int.ofNat x))] [] [some (.cells (orC m w a) 59 0 0)] := by kernel_rfl
theorem jqI (r : Mem) (m : Nat) (w a : Nat → Nat) (b2 o2 k c2 : Nat) (wd : Int) (x : Nat) (fs : FnsC) (K : OV → List Nat → OO → CR) (kx : Nat → KS) (kr : KS) : run (SC r) mJq 45 1 Jq_8 fs none (rbK 0 lvQ1 [] K) kx kr [] (bT lvQ1 (vQ1 b2 o2 k c2 wd x) .nil) [] (mkA [oOr (orC m w a) 0]) =
    K [some (.slice (some ⟨b2, o2, some 0⟩) k c2), some (I wd), some (.pointer (some ⟨0, 0, none⟩)), some (.slice (some ⟨b2, o2, some 0⟩) k c2), some (I (Int.ofNat k)), some (I (IntKind.wrap .i64 (Int.ofNat x + Int.ofNat 1)))] [] [some (.cells (orC m w a) 59 0 0)] := by kernel_rfl
theorem jqJ (r : Mem) (fs : FnsC) (kn : KS) (kx : Nat → KS) (KR : OV → List Nat → OO → CR) : run (SC r) mJq 45 1 Jq_9 fs none kn kx (rbK 0 [6] [] KR) [] (bT [] [] .nil) [] (mkA []) =
    KR [some (.bool true)] [] [] := by kernel_rfl
end Go.Proofs
namespace Go.Proofs
open Go Go.Ev Go.Num
def RepP (T : List (List Bool)) (k : Nat) (z : Nat → Int) (w : Int) : Prop := k = T.length ∧ 0 ≤ w ∧ ∀ x y, x < k → y < k → gT T x y = m_far (z x) (z y) w
noncomputable def repB (T : List (List Bool)) (k : Nat) (z : Nat → Int) (w : Int) : Bool := @decide (RepP T k z w) (Classical.propDecidable _)
theorem rep_t {T : List (List Bool)} {k : Nat} {z : Nat → Int} {w : Int} (h : RepP T k z w) : repB T k z w = true := @decide_eq_true _ (Classical.propDecidable _) h
theorem rep_f {T : List (List Bool)} {k : Nat} {z : Nat → Int} {w : Int} (h : ¬ RepP T k z w) : repB T k z w = false := @decide_eq_false _ (Classical.propDecidable _) h
theorem w1w (k : Nat) (hk : k ≤ 1000) : IntKind.wrap IntKind.i64 ((k : Int) + ((1 : Nat) : Int)) = ((k + 1 : Nat) : Int) := inc1' (by omega)
theorem e0w (o k : Nat) : Nat.add o (Nat.mul k 1) = o + k := by simp
theorem g3_use {args : List Value} (h : g3I args = true) : ∃ x y w, args = [I x, I y, I w] := by
 unfold g3I at h
 split at h
 ·exact ⟨_, _, _, rfl⟩
 ·cases h
section
variable {r : Mem}
theorem far_ok (x y w : Int) : GrT Tryz.prog Mem.no 48 [I x, I y, I w] (.bool (m_far x y w)) := by
 refine GrT.of (SC_ok Mem.no) TOk.nil .nil rfl ⟨2, 3, ?_⟩
 refine (jwF Mem.no x y w).trans ?_
 unfold m_far
 cases decide (y > x) <;> cases decide (IntKind.wrap .u64 (IntKind.wrap .u64 y - IntKind.wrap .u64 x) > IntKind.wrap .u64 w) <;> rfl
theorem more_ok (x y w : Int) : GrT Tryz.prog Mem.no 77 [I y, I x, I w] (.bool (m_far x y w)) := by
 refine GrT.of (SC_ok Mem.no) TOk.nil .nil rfl ⟨2, 3, ?_⟩
 refine (jwM Mem.no y x w).trans ?_
 unfold m_far
 cases decide (y > x) <;> cases decide (IntKind.wrap .u64 (IntKind.wrap .u64 y - IntKind.wrap .u64 x) > IntKind.wrap .u64 w) <;> rfl
theorem tFa_ok : TOk (SC r) tFa := TOk.nil.cons (EOk.ent fun args A hgd => by
 obtain ⟨x, y, w, rfl⟩ := g3_use hgd
 exact GrT.plain (C := SC r) (far_ok x y w) rfl A)
theorem tMo_ok {m : Nat} {w a : Nat → Nat} (hw : ∀ j, w j < 4096) : TOk (SC r) (tMo m w a) := (TOk.nil.cons (eBf_ok hw)).cons (EOk.ent fun args A hgd => by
 obtain ⟨y, x, w, rfl⟩ := g3_use hgd
 exact GrT.plain (C := SC r) (more_ok x y w) rfl A)
end
section
variable {r : Mem} {b off n cap b2 o2 k c2 : Nat} {T : List (List Bool)} {z : Nat → Int} {w : Int}
theorem rr_ok (hM : TabM r b off T) (hn : T.length = n) (hc : ckO T = true) (hz : rowAt r b2 o2 k z) : GrT Tryz.prog r 22 [RS b off n cap, RS b2 o2 k c2, I w] (.bool (repB T k z w)) := by
 obtain ⟨rb, ro, rc2, hrow⟩ := tab_all hM hc hn
 have hl := ck_len hc
 generalize hv : repB T k z w = v
 let E : Outs := ⟨[6], [], fun vs ms os => vs = [some (.bool v)] ∧ ms = [] ∧ os = []⟩
 refine GrT.ofS (C := SC r) rfl rfl rfl (callO (SC_ok r) (by kernel_rfl) ((bodySC r _).trans Jr_eq) (nt := 48) (by kernel_rfl) (rs := [.tmp 6]) (by kernel_rfl) 455 rfl E ?_ fun γ W F kk hwr hF hro h0' => ?_)
 ·rintro vs ms os ⟨rfl, rfl, rfl⟩
  exact ⟨_, mkA [], by kernel_rfl, rfl⟩
 have h0' : ∀ i, 0 ≤ i → γ i = none := h0'
 have bad : ¬ RepP T k z w → v = false := fun h => by rw [← hv]; exact rep_f h
 refine Go.Ev.Reach.seqC (o1 := ⟨lvR0, [], fun vs ms os => vs = vR0 b off n cap b2 o2 k c2 w ∧ ms = [] ∧ os = []⟩) (Go.Ev.Reach.segR (SC_ok r) TOk.nil (tm := .nil) (L := 1) (L' := 1) (d := 1) hF hro h0' [] (fun p hp => nomatch hp) ((jsA r b off n cap b2 o2 k c2 w _ _ _ _).trans (qq_ok ⟨rfl, rfl, rfl⟩))) ?_
 rintro vs ms os ⟨rfl, rfl, rfl⟩
 refine Go.Ev.Reach.seqC (o1 := ⟨lvR0, [], fun vs ms os => (k = n ∧ 0 ≤ w) ∧ vs = vR0 b off n cap b2 o2 k c2 w ∧ ms = [] ∧ os = []⟩) (Go.Ev.Reach.segR (SC_ok r) TOk.nil (tm := .nil) (L := 1) (L' := 1) (d := 1) hF hro h0' [] (fun p hp => nomatch hp) ?_) ?_
 ·have hn' := jsB r b off n cap b2 o2 k c2 w
  simp only [Int.ofNat_eq_natCast] at hn'
  by_cases c1 : k = n
  ·have q1 : ((k : Int) != (n : Int)) = false := neF (by omega)
   by_cases c2 : w < 0
   ·simp only [q1, dT c2, cond_true, cond_false] at hn'
    exact (hn' _ _ _ _).trans (qq_ok ⟨by rw [bad (fun h => by have := h.2.1; omega)], rfl, rfl⟩)
   ·simp only [q1, dF c2, cond_true, cond_false] at hn'
    exact (hn' _ _ _ _).trans (qq_ok ⟨⟨c1, by omega⟩, rfl, rfl, rfl⟩)
  ·have q1 : ((k : Int) != (n : Int)) = true := neT (by omega)
   simp only [q1, cond_true] at hn'
   exact (hn' _ _ _ _).trans (qq_ok ⟨by rw [bad (fun h => c1 (h.1.trans hn))], rfl, rfl⟩)
 rintro vs ms os ⟨⟨rfl, hw0⟩, rfl, rfl, rfl⟩
 refine Go.Ev.Reach.seqC (o1 := ⟨[], [], fun vs ms os => (∀ x y, x < k → y < k → gT T x y = m_far (z x) (z y) w) ∧ vs = [] ∧ ms = [] ∧ os = []⟩) (Go.Ev.Reach.seqC (o1 := ⟨lvR1, [], fun vs ms os => vs = vR1 b off k cap b2 o2 k c2 w 0 ∧ ms = [] ∧ os = []⟩) (Go.Ev.Reach.segR (SC_ok r) TOk.nil (tm := .nil) (L := 1) (L' := 1) (d := 1) hF hro h0' [] (fun p hp => nomatch hp) ((jsC r b off k cap b2 o2 k c2 w _ _ _ _).trans (qq_ok ⟨rfl, rfl, rfl⟩))) ?_) ?_
 ·rintro vs ms os ⟨rfl, rfl, rfl⟩
  refine Go.Ev.Reach.blockC (Go.Ev.Reach.loopC (j := k) (lv := lvR1) (fl := []) (I := fun j vs ms os => ∃ x : Nat, x ≤ k ∧ j = k - x ∧ (∀ x' y, x' < x → y < k → gT T x' y = m_far (z x') (z y) w) ∧ vs = vR1 b off k cap b2 o2 k c2 w x ∧ ms = [] ∧ os = []) (fun j vs ms os hI => ?_) ⟨0, by omega, rfl, fun x' y h => absurd h (by omega), rfl, rfl, rfl⟩)
  obtain ⟨x, hx, rfl, hxs, rfl, rfl, rfl⟩ := hI
  refine Go.Ev.Reach.seqC (o1 := ⟨lvR1, [], fun vs ms os => x < k ∧ vs = vR1 b off k cap b2 o2 k c2 w x ∧ ms = [] ∧ os = []⟩) (Go.Ev.Reach.segR (SC_ok r) TOk.nil (tm := .nil) (L := 1) (L' := 1) (d := 1) hF hro h0' [(0, ⟨[], [], fun vs ms os => (∀ x y, x < k → y < k → gT T x y = m_far (z x) (z y) w) ∧ vs = [] ∧ ms = [] ∧ os = []⟩)] (fun p hp => by simp only [List.mem_cons, List.not_mem_nil, or_false] at hp; subst hp; rfl) ?_) ?_
  ·have hn' := jsD r b off k cap b2 o2 k c2 w x
   simp only [Int.ofNat_eq_natCast] at hn'
   by_cases c : x < k
   ·simp only [dT (show (x : Int) < (k : Int) by omega), cond_true] at hn'
    exact (hn' _ _ _ _).trans (qq_ok ⟨c, rfl, rfl, rfl⟩)
   ·obtain rfl : x = k := by omega
    simp only [dF (show ¬ (x : Int) < (x : Int) by omega), cond_false] at hn'
    exact (hn' _ _ _ _).trans (qq_ok ⟨hxs, rfl, rfl, rfl⟩)
  rintro vs ms os ⟨c, rfl, rfl, rfl⟩
  refine Go.Ev.Reach.seqC (o1 := ⟨lvR1, [], fun vs ms os => (∀ y, y < k → gT T x y = m_far (z x) (z y) w) ∧ vs = vR1 b off k cap b2 o2 k c2 w x ∧ ms = [] ∧ os = []⟩) (Go.Ev.Reach.blockC (Go.Ev.Reach.seqC (o1 := ⟨lvR2, [], fun vs ms os => vs = vR2 b off k cap b2 o2 k c2 w x 0 ∧ ms = [] ∧ os = []⟩) (Go.Ev.Reach.segR (SC_ok r) TOk.nil (tm := .nil) (L := 1) (L' := 1) (d := 1) hF hro h0' [] (fun p hp => nomatch hp) ((jsE r b off k cap b2 o2 k c2 w x _ _ _ _).trans (qq_ok ⟨rfl, rfl, rfl⟩))) ?_)) ?_
  ·rintro vs ms os ⟨rfl, rfl, rfl⟩
   refine Go.Ev.Reach.blockC (Go.Ev.Reach.loopC (j := k) (lv := lvR2) (fl := []) (I := fun j vs ms os => ∃ y : Nat, y ≤ k ∧ j = k - y ∧ (∀ y', y' < y → gT T x y' = m_far (z x) (z y') w) ∧ vs = vR2 b off k cap b2 o2 k c2 w x y ∧ ms = [] ∧ os = []) (fun j vs ms os hI => ?_) ⟨0, by omega, rfl, fun y' h => absurd h (by omega), rfl, rfl, rfl⟩)
   obtain ⟨y, hy, rfl, hys, rfl, rfl, rfl⟩ := hI
   refine segSh 2 tFa_ok (tm := .nil) (L := 1) (L' := 1) (d := 1) hF hro h0' [(2, ⟨lvR1, [], fun vs ms os => (∀ y, y < k → gT T x y = m_far (z x) (z y) w) ∧ vs = vR1 b off k cap b2 o2 k c2 w x ∧ ms = [] ∧ os = []⟩)] (fun p hp => by simp only [List.mem_cons, List.not_mem_nil, or_false] at hp; subst hp; rfl) ?_
   have hn' := jsF r b off k cap b2 o2 k c2 w x y
   simp only [Int.ofNat_eq_natCast, Int.toNat_natCast] at hn'
   by_cases cy : y < k
   ·have q1 : Nat.blt x k = true := Nat.ble_eq_true_of_le c
    have q2 : Nat.blt y k = true := Nat.ble_eq_true_of_le cy
    simp only [dT (show (y : Int) < (k : Int) by omega), q1, q2, e0w, (hrow x c).1, (hrow x c).2 y cy, hz x c, hz y cy, ro_RS, ln_RS, bk_RS, of_RS, b_bl, o_bl, isI_I, cond_true] at hn'
    dsimp +instances only [ofI_I] at hn'
    rw [w1w y (by omega)] at hn'
    have next : gT T x y = m_far (z x) (z y) w → ∀ y', y' < y + 1 → gT T x y' = m_far (z x) (z y') w := fun h y' hy' => by
     by_cases e : y' = y
     ·rw [e]; exact h
     ·exact hys y' (by omega)
    have no : gT T x y ≠ m_far (z x) (z y) w → v = false := fun h => bad fun hp => h (hp.2.2 x y c cy)
    cases hg : gT T x y with
    | true =>
     cases hf : m_far (z x) (z y) w with
     | true =>
      simp only [hg, hf, cond_true] at hn'
      exact (hn' _ _ _).trans (qq_ok ⟨k - (y + 1), by omega, y + 1, cy, rfl, next (by rw [hg, hf]), rfl, rfl, rfl⟩)
     | false =>
      simp only [hg, hf, cond_true, cond_false] at hn'
      exact (hn' _ _ _).trans (qq_ok ⟨by rw [no (by rw [hg, hf]; simp)], rfl, rfl⟩)
    | false =>
     cases hf : m_far (z x) (z y) w with
     | true =>
      simp only [hg, hf, cond_true, cond_false] at hn'
      exact (hn' _ _ _).trans (qq_ok ⟨by rw [no (by rw [hg, hf]; simp)], rfl, rfl⟩)
     | false =>
      simp only [hg, hf, cond_false] at hn'
      exact (hn' _ _ _).trans (qq_ok ⟨k - (y + 1), by omega, y + 1, cy, rfl, next (by rw [hg, hf]), rfl, rfl, rfl⟩)
   ·obtain rfl : y = k := by omega
    simp only [dF (show ¬ (y : Int) < (y : Int) by omega), cond_false] at hn'
    exact (hn' _ _ _).trans (qq_ok ⟨hys, rfl, rfl, rfl⟩)
  rintro vs ms os ⟨hrow2, rfl, rfl, rfl⟩
  refine Go.Ev.Reach.segR (SC_ok r) TOk.nil (tm := .nil) (L := 1) (L' := 1) (d := 1) hF hro h0' [] (fun p hp => nomatch hp) ?_
  have hn' := jsG r b off k cap b2 o2 k c2 w x
  simp only [Int.ofNat_eq_natCast] at hn'
  rw [w1w x (by omega)] at hn'
  refine (hn' _ _ _ _).trans (qq_ok ⟨k - (x + 1), by omega, x + 1, c, rfl, fun x' y hx' hy => ?_, rfl, rfl, rfl⟩)
  by_cases e : x' = x
  ·rw [e]; exact hrow2 y hy
  ·exact hxs x' y (by omega) hy
 rintro vs ms os ⟨hall, rfl, rfl, rfl⟩
 have hvt : v = true := by rw [← hv]; exact rep_t ⟨hn.symm, hw0, hall⟩
 exact Go.Ev.Reach.segR (SC_ok r) TOk.nil (tm := .nil) (L := 1) (L' := 1) (d := 1) hF hro h0' [] (fun p hp => nomatch hp) ((jsH r _ _ _ _).trans (qq_ok ⟨by rw [hvt], rfl, rfl⟩))
end
end Go.Proofs
namespace Go.Proofs
open Go Go.Ev Go.Num
noncomputable def eRq (m : Nat) (w a : Nat → Nat) (s : Value) (wd : Int) (v : Bool) : Ent := eV [.agg ⟨orC m w a⟩, s, I wd] v
noncomputable def tRp (p s : Value) (m : Nat) (w a : Nat → Nat) (wd : Int) (v : Bool) : Tbl := tcons 31 (eRd p m w a) (tcons 50 (eRq m w a s wd v) fun _ => none)
theorem jxA (r : Mem) (b off n cap b2 o2 k c2 m : Nat) (w a : Nat → Nat) (wd : Int) (v : Bool) : (lvlT (SC r) (tRp (RS b off n cap) (RS b2 o2 k c2) m w a wd v) .nil 2 3).call 27 [RS b off n cap, RS b2 o2 k c2, I wd] emptyA fin =
    bif m_svv [.slice (some ⟨b, off, some 0⟩) n cap] [.slice (some ⟨b, off, some 0⟩) n cap] then bif m_svv [.agg ⟨(orC m w a)⟩, .slice (some ⟨b2, o2, some 0⟩) k c2, I wd] [.agg ⟨(orC m w a)⟩, .slice (some ⟨b2, o2, some 0⟩) k c2, I wd] then bif v then .ret (.bool true) (AW.mk 0 .nil .nil) else .ret (.bool false) (AW.mk 0 .nil .nil) else .fail 420 else .fail 420 := by kernel_rfl
section
variable {r : Mem} {b off n cap b2 o2 k c2 m : Nat} {T : List (List Bool)} {z : Nat → Int} {wd : Int} {w a : Nat → Nat}
theorem iq_ok (hm : m ≤ 12) (hw : ∀ j, w j < 4096) (hT : T.length = m) (hbit : ∀ x y : Nat, x < m → y < m → m_bv w (x : Nat) (y : Nat) = gT T x y) (hz : rowAt r b2 o2 k z) : GrT Tryz.prog r 50 [.agg ⟨orC m w a⟩, RS b2 o2 k c2, I wd] (.bool (repB T k z wd)) := by
 generalize hv : repB T k z wd = v
 let E : Outs := ⟨[6], [], fun vs ms os => vs = [some (.bool v)] ∧ ms = [] ∧ os = []⟩
 refine GrT.ofS (C := SC r) rfl rfl rfl (callO (SC_ok r) (by kernel_rfl) ((bodySC r _).trans Jq_eq) (nt := 45) (by kernel_rfl) (rs := [.tmp 6]) (by kernel_rfl) mJq rfl E ?_ fun γ W F kk hwr hF hro h0' => ?_)
 ·rintro vs ms os ⟨rfl, rfl, rfl⟩
  exact ⟨_, mkA [], by kernel_rfl, rfl⟩
 have h0' : ∀ i, 0 ≤ i → γ i = none := h0'
 have bad : ¬ RepP T k z wd → v = false := fun h => by rw [← hv]; exact rep_f h
 refine Go.Ev.Reach.seqC (o1 := ⟨lvQ0, [], fun vs ms os => vs = vQ0 b2 o2 k c2 wd ∧ ms = [] ∧ os = [oOr (orC m w a) 0]⟩) (Go.Ev.Reach.segR (SC_ok r) TOk.nil (tm := .nil) (L := 1) (L' := 1) (d := 1) hF hro h0' [] (fun p hp => nomatch hp) ((jqA r m w a b2 o2 k c2 wd _ _ _ _).trans (qq_ok ⟨rfl, rfl, rfl⟩))) ?_
 rintro vs ms os ⟨rfl, rfl, rfl⟩
 refine Go.Ev.Reach.seqC (o1 := ⟨lvQ0, [], fun vs ms os => (k = m ∧ 0 ≤ wd) ∧ vs = vQ0 b2 o2 k c2 wd ∧ ms = [] ∧ os = [oOr (orC m w a) 0]⟩) (Go.Ev.Reach.segR (SC_ok r) TOk.nil (tm := .nil) (L := 1) (L' := 1) (d := 1) hF hro h0' [] (fun p hp => nomatch hp) ?_) ?_
 ·have hn' := jqB r m w a b2 o2 k c2 wd
  simp only [show ∀ x : Nat, (Int.ofNat x) = ((x : Nat) : Int) from fun _ => rfl] at hn'
  by_cases c1 : k = m
  ·have q1 : ((k : Int) != (m : Int)) = false := neF (by omega)
   by_cases c2 : wd < 0
   ·simp only [q1, dT c2, cond_true, cond_false] at hn'
    exact (hn' _ _ _ _).trans (qq_ok ⟨by rw [bad (fun h => by have := h.2.1; omega)], rfl, rfl⟩)
   ·simp only [q1, dF c2, cond_true, cond_false] at hn'
    exact (hn' _ _ _ _).trans (qq_ok ⟨⟨c1, by omega⟩, rfl, rfl, rfl⟩)
  ·have q1 : ((k : Int) != (m : Int)) = true := neT (by omega)
   simp only [q1, cond_true] at hn'
   exact (hn' _ _ _ _).trans (qq_ok ⟨by rw [bad (fun h => c1 (h.1.trans hT))], rfl, rfl⟩)
 rintro vs ms os ⟨⟨rfl, hw0⟩, rfl, rfl, rfl⟩
 refine Go.Ev.Reach.seqC (o1 := ⟨[], [], fun vs ms os => (∀ x y, x < k → y < k → gT T x y = m_far (z x) (z y) wd) ∧ vs = [] ∧ ms = [] ∧ os = []⟩) (Go.Ev.Reach.seqC (o1 := ⟨lvQ1, [], fun vs ms os => vs = vQ1 b2 o2 k c2 wd 0 ∧ ms = [] ∧ os = [oOr (orC k w a) 0]⟩) (Go.Ev.Reach.segR (SC_ok r) TOk.nil (tm := .nil) (L := 1) (L' := 1) (d := 1) hF hro h0' [] (fun p hp => nomatch hp) ((jqC r k w a b2 o2 k c2 wd _ _ _ _).trans (qq_ok ⟨rfl, rfl, rfl⟩))) ?_) ?_
 ·rintro vs ms os ⟨rfl, rfl, rfl⟩
  refine Go.Ev.Reach.blockC (Go.Ev.Reach.loopC (j := k) (lv := lvQ1) (fl := []) (I := fun j vs ms os => ∃ x : Nat, x ≤ k ∧ j = k - x ∧ (∀ x' y, x' < x → y < k → gT T x' y = m_far (z x') (z y) wd) ∧ vs = vQ1 b2 o2 k c2 wd x ∧ ms = [] ∧ os = [oOr (orC k w a) 0]) (fun j vs ms os hI => ?_) ⟨0, by omega, rfl, fun x' y h => absurd h (by omega), rfl, rfl, rfl⟩)
  obtain ⟨x, hx, rfl, hxs, rfl, rfl, rfl⟩ := hI
  refine Go.Ev.Reach.seqC (o1 := ⟨lvQ2, [], fun vs ms os => vs = vQ1 b2 o2 k c2 wd x ++ [some (.bool (decide (x < k)))] ∧ ms = [] ∧ os = [oOr (orC k w a) 0]⟩) (Go.Ev.Reach.segR (SC_ok r) TOk.nil (tm := .nil) (L := 1) (L' := 1) (d := 1) hF hro h0' [] (fun p hp => nomatch hp) ?_) ?_
  ·have hn' := jqD r k w a b2 o2 k c2 wd x
   simp only [show ∀ x : Nat, (Int.ofNat x) = ((x : Nat) : Int) from fun _ => rfl] at hn'
   by_cases c : x < k
   ·simp only [dT (show (x : Int) < (k : Int) by omega), cond_true] at hn'
    exact (hn' _ _ _ _).trans (qq_ok ⟨by rw [dT c]; rfl, rfl, rfl⟩)
   ·simp only [dF (show ¬ (x : Int) < (k : Int) by omega), cond_false] at hn'
    exact (hn' _ _ _ _).trans (qq_ok ⟨by rw [dF c]; rfl, rfl, rfl⟩)
  rintro vs ms os ⟨rfl, rfl, rfl⟩
  refine Go.Ev.Reach.seqC (o1 := ⟨lvQ1, [], fun vs ms os => x < k ∧ vs = vQ1 b2 o2 k c2 wd x ∧ ms = [] ∧ os = [oOr (orC k w a) 0]⟩) (Go.Ev.Reach.segR (SC_ok r) TOk.nil (tm := .nil) (L := 1) (L' := 1) (d := 1) hF hro h0' [(0, ⟨[], [], fun vs ms os => (∀ x y, x < k → y < k → gT T x y = m_far (z x) (z y) wd) ∧ vs = [] ∧ ms = [] ∧ os = []⟩)] (fun p hp => by simp only [List.mem_cons, List.not_mem_nil, or_false] at hp; subst hp; rfl) ?_) ?_
  ·have hn' := jqE r k w a b2 o2 k c2 wd x (decide (x < k))
   by_cases c : x < k
   ·rw [dT c] at hn' ⊢
    simp only [cond_true] at hn'
    exact (hn' _ _ _ _).trans (qq_ok ⟨c, rfl, rfl, rfl⟩)
   ·obtain rfl : x = k := by omega
    rw [dF c] at hn' ⊢
    simp only [cond_false] at hn'
    exact (hn' _ _ _ _).trans (qq_ok ⟨hxs, rfl, rfl, rfl⟩)
  rintro vs ms os ⟨c, rfl, rfl, rfl⟩
  have q1 : Nat.blt x k = true := Nat.ble_eq_true_of_le c
  refine Go.Ev.Reach.seqC (o1 := ⟨lvQ1, [], fun vs ms os => (∀ y, y < k → gT T x y = m_far (z x) (z y) wd) ∧ vs = vQ1 b2 o2 k c2 wd x ∧ ms = [] ∧ os = [oOr (orC k w a) 0]⟩) (Go.Ev.Reach.blockC (Go.Ev.Reach.seqC (o1 := ⟨lvQ3, [], fun vs ms os => vs = vQ3 b2 o2 k c2 wd x (z x) ∧ ms = [] ∧ os = [oOr (orC k w a) 0]⟩) (Go.Ev.Reach.segR (SC_ok r) TOk.nil (tm := .nil) (L := 1) (L' := 1) (d := 1) hF hro h0' [] (fun p hp => nomatch hp) ?_) ?_)) ?_
  ·have hn' := jqF r k w a b2 o2 k c2 wd x
   simp only [show ∀ x : Nat, (Int.ofNat x) = ((x : Nat) : Int) from fun _ => rfl, Int.toNat_natCast, q1, e0w, hz x c, isI_I, cond_true] at hn'
   dsimp +instances only [ofI_I] at hn'
   exact (hn' _ _ _ _).trans (qq_ok ⟨rfl, rfl, rfl⟩)
  ·rintro vs ms os ⟨rfl, rfl, rfl⟩
   refine Go.Ev.Reach.seqC (o1 := ⟨lvQ4, [], fun vs ms os => vs = vQ4 b2 o2 k c2 wd x 0 (z x) ∧ ms = [] ∧ os = [oOr (orC k w a) 0]⟩) (Go.Ev.Reach.segR (SC_ok r) TOk.nil (tm := .nil) (L := 1) (L' := 1) (d := 1) hF hro h0' [] (fun p hp => nomatch hp) ((jqG r k w a b2 o2 k c2 wd x (z x) _ _ _ _).trans (qq_ok ⟨rfl, rfl, rfl⟩))) ?_
   rintro vs ms os ⟨rfl, rfl, rfl⟩
   refine Go.Ev.Reach.blockC (Go.Ev.Reach.loopC (j := k) (lv := lvQ4) (fl := []) (I := fun j vs ms os => ∃ y : Nat, y ≤ k ∧ j = k - y ∧ (∀ y', y' < y → gT T x y' = m_far (z x) (z y') wd) ∧ vs = vQ4 b2 o2 k c2 wd x y (z x) ∧ ms = [] ∧ os = [oOr (orC k w a) 0]) (fun j vs ms os hI => ?_) ⟨0, by omega, rfl, fun y' h => absurd h (by omega), rfl, rfl, rfl⟩)
   obtain ⟨y, hy, rfl, hys, rfl, rfl, rfl⟩ := hI
   refine Go.Ev.Reach.segR (SC_ok r) (tMo_ok (m := k) (a := a) hw) (tm := .nil) (L := 1) (L' := 1) (d := 1) hF hro h0' [(2, ⟨lvQ1, [], fun vs ms os => (∀ y, y < k → gT T x y = m_far (z x) (z y) wd) ∧ vs = vQ1 b2 o2 k c2 wd x ∧ ms = [] ∧ os = [oOr (orC k w a) 0]⟩)] (fun p hp => by simp only [List.mem_cons, List.not_mem_nil, or_false] at hp; subst hp; rfl) ?_
   have hn' := jqH r k w a b2 o2 k c2 wd x y (z x)
   simp only [show ∀ x : Nat, (Int.ofNat x) = ((x : Nat) : Int) from fun _ => rfl, Int.toNat_natCast] at hn'
   by_cases cy : y < k
   ·have q2 : Nat.blt y k = true := Nat.ble_eq_true_of_le cy
    have q3 : m_bf k w a (.agg ⟨orC k w a⟩) (x : Nat) (y : Nat) = true := bf_t ⟨by omega, by omega⟩ ⟨by omega, by omega⟩ hm
    simp only [dT (show (y : Int) < (k : Int) by omega), q2, q3, e0w, hz y cy, isI_I, hbit x y c cy, eqv_or, cond_true] at hn'
    dsimp +instances only [ofI_I] at hn'
    rw [w1w y (by omega)] at hn'
    have next : gT T x y = m_far (z x) (z y) wd → ∀ y', y' < y + 1 → gT T x y' = m_far (z x) (z y') wd := fun h y' hy' => by
     by_cases e : y' = y
     ·rw [e]; exact h
     ·exact hys y' (by omega)
    have no : gT T x y ≠ m_far (z x) (z y) wd → v = false := fun h => bad fun hp => h (hp.2.2 x y c cy)
    cases hg : gT T x y with
    | true =>
     cases hf : m_far (z x) (z y) wd with
     | true =>
      simp only [hg, hf, cond_true] at hn'
      exact (hn' _ _ _).trans (qq_ok ⟨k - (y + 1), by omega, y + 1, cy, rfl, next (by rw [hg, hf]), rfl, rfl, rfl⟩)
     | false =>
      simp only [hg, hf, cond_true, cond_false] at hn'
      exact (hn' _ _ _).trans (qq_ok ⟨by rw [no (by rw [hg, hf]; simp)], rfl, rfl⟩)
    | false =>
     cases hf : m_far (z x) (z y) wd with
     | true =>
      simp only [hg, hf, cond_true, cond_false] at hn'
      exact (hn' _ _ _).trans (qq_ok ⟨by rw [no (by rw [hg, hf]; simp)], rfl, rfl⟩)
     | false =>
      simp only [hg, hf, cond_false] at hn'
      exact (hn' _ _ _).trans (qq_ok ⟨k - (y + 1), by omega, y + 1, cy, rfl, next (by rw [hg, hf]), rfl, rfl, rfl⟩)
   ·obtain rfl : y = k := by omega
    simp only [dF (show ¬ (y : Int) < (y : Int) by omega), cond_false] at hn'
    exact (hn' _ _ _).trans (qq_ok ⟨hys, rfl, rfl, rfl⟩)
  rintro vs ms os ⟨hrow2, rfl, rfl, rfl⟩
  refine Go.Ev.Reach.segR (SC_ok r) TOk.nil (tm := .nil) (L := 1) (L' := 1) (d := 1) hF hro h0' [] (fun p hp => nomatch hp) ?_
  have hn' := jqI r k w a b2 o2 k c2 wd x
  simp only [show ∀ x : Nat, (Int.ofNat x) = ((x : Nat) : Int) from fun _ => rfl] at hn'
  rw [w1w x (by omega)] at hn'
  refine (hn' _ _ _ _).trans (qq_ok ⟨k - (x + 1), by omega, x + 1, c, rfl, fun x' y hx' hy => ?_, rfl, rfl, rfl⟩)
  by_cases e : x' = x
  ·rw [e]; exact hrow2 y hy
  ·exact hxs x' y (by omega) hy
 rintro vs ms os ⟨hall, rfl, rfl, rfl⟩
 have hvt : v = true := by rw [← hv]; exact rep_t ⟨hT.symm, hw0, hall⟩
 exact Go.Ev.Reach.segR (SC_ok r) TOk.nil (tm := .nil) (L := 1) (L' := 1) (d := 1) hF hro h0' [] (fun p hp => nomatch hp) ((jqJ r _ _ _ _).trans (qq_ok ⟨by rw [hvt], rfl, rfl⟩))
theorem sr_ok (hmt : ∀ b j u, tabM b j = some u → r b j = some u) (hM : TabM r b off T) (hn : T.length = n) (hc : ckO T = true) (hz : rowAt r b2 o2 k z) : GrT Tryz.prog r 27 [RS b off n cap, RS b2 o2 k c2, I wd] (.bool (repB T k z wd)) := by
 have hl := (ck_len hc).2
 subst hn
 have hw : ∀ j, wB T T.length 0 j < 4096 := fun j => by rw [wB_cl]; exact Nat.lt_of_lt_of_le (clO_lt T j T.length) (Nat.pow_le_pow_right (by decide) hl)
 have hq : GrT Tryz.prog r 50 [.agg ⟨orC T.length (wB T T.length 0) (wA T T.length 0)⟩, RS b2 o2 k c2, I wd] (.bool (repB T k z wd)) := iq_ok hl hw rfl (fun x y hx hy => by
  unfold m_bv
  exact wB_bitJ (by simpa using hx)) hz
 have hrd : EOk (SC r) 31 (eRd (RS b off T.length cap) T.length (wB T T.length 0) (wA T T.length 0)) := EOk.ent fun args A hgd => by
  have hs := @of_decide_eq_true _ (Classical.propDecidable _) hgd
  subst hs
  have h := ro_ok (cap := cap) hmt hM rfl (by omega)
  unfold roC at h
  rw [hc, if_pos rfl, if_pos rfl] at h
  exact h.ro rfl A
 refine GrT.of (SC_ok r) (t := tRp (RS b off T.length cap) (RS b2 o2 k c2) T.length (wB T T.length 0) (wA T T.length 0) wd (repB T k z wd)) ((TOk.nil.cons (eV_ok rfl hq)).cons hrd) .nil rfl ⟨2, 3, ?_⟩
 have hn' := jxA r b off T.length cap b2 o2 k c2 T.length (wB T T.length 0) (wA T T.length 0) wd
 simp only [svv_rfl, cond_true] at hn'
 refine (hn' _).trans ?_
 cases repB T k z wd <;> rfl
end
end Go.Proofs
