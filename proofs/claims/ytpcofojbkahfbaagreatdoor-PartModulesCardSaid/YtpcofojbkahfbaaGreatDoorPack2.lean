/- What the claim is proved with, part 2: the evaluator and the contracts of the calls. -/
import Derived.Test.YtpcofojbkahfbaaGreatDoorPack1
import Derived.Test.YtpcofojbkahfbaaGreatDoorEvOwn
import Derived.Test.YtpcofojbkahfbaaGreatDoorEvRd
import Derived.Test.YtpcofojbkahfbaaGreatDoorEvSetB
/- The graph's edges, run. -/
namespace Go.Proofs
open Go Go.Ev Go.Num
set_option linter.unusedVariables false
set_option linter.unusedSimpArgs false
set_option maxRecDepth 100000

noncomputable def cEg : Code := bodyOf S0 25
noncomputable def Eg_0 : Code := (lc cEg)
noncomputable def Eg_1 : Code := (lc (rc cEg))
noncomputable def Eg_2 : Code := (lc (lc (rc (rc cEg))))
noncomputable def Eg_3 : Code := (ic (rc (lc (rc (rc cEg)))))
noncomputable def Eg_4 : Code := (rc (rc (rc cEg)))
noncomputable def k_e1 : Code := rgA Eg_3
noncomputable def k_e2 : Code := rgB Eg_3
theorem Eg_eq : cEg = (.seq Eg_0 (.seq Eg_1 (.seq (.seq Eg_2 (.block 0 (.rangeFunc (.tmp 7) #[8, 9] k_e1 k_e2))) Eg_4))) := by kernel_rfl
noncomputable def Eg_b : Code := ic k_e2
theorem Eb_eq : k_e2 = .block 1 Eg_b := by kernel_rfl
def gC (n : Int) (w : Nat → Int) : List Value := [I n, U (w 0), U (w 1), U (w 2), U (w 3), U (w 4), U (w 5), U (w 6), U (w 7), U (w 8), U (w 9), U (w 10), U (w 11), U (w 12), U (w 13), U (w 14), U (w 15)]
def oPg (c : List Value) (i : Nat) : Option AObj := some (.cells c 55 i 0)
def oLb (v : Value) (i : Nat) : Option AObj := some (.cells [v] 22 i 0)
def oRw (c : List Value) (i : Nat) : Option AObj := some (.cells c 51 i 2)
abbrev rowV (i k : Nat) : Value := .slice (some ⟨i, 0, none⟩) k unk
abbrev nilV : Value := .slice none 0 0
def lvE : List Nat := [1, 3, 7]
def flE : List Fl := [.g, .t, .g]
def vE : OV := [some (P0 0), some (P0 1), some (.func (.func 39) ⟨[]⟩ ⟨[P0 2]⟩)]
noncomputable def rE (st : LoopState) (pend : Option Code) : AObj := .loop st pend 959 ⟨[], bT lvE vE .nil⟩ 23 #[8, 9] k_e1 k_e2 3
noncomputable def oE5 (c : List Value) (v : Value) (st : LoopState) (pend : Option Code) : OO := [oPg c 0, oLb v 1, oPg c 2, some .defd, some (rE st pend)]
def fl5 : List Fl := [.g, .t, .g, .g, .l lvE]
def lvR : List Nat := [1, 3, 4, 5]
def vR (i j : Int) : OV := [some (P0 0), some (P0 1), some (I i), some (I j)]

theorem egA (r : Mem) (n : Int) (w : Nat → Int) (K : OV → List Nat → OO → CR) (kx : Nat → KS) (kr : KS) : run (SC r) 959 23 1 (.seq Eg_0 (.seq Eg_1 Eg_2)) (lvlT (SC r) (fun _ => none) .nil 1 2) none (rbK 0 lvE flE K) kx kr (sc0 959 [.agg ⟨gC n w⟩]) (tr0 959 [.agg ⟨gC n w⟩]) [] emptyA =
    K [some (P0 0), some (P0 1), some (.func (Fn.func 39) ⟨[]⟩ ⟨[P0 2]⟩)] [] [some (.cells (gC n w) 55 0 0), some (.cells [.slice none 0 0] 22 1 0), some (.cells (gC n w) 55 2 0)] := by kernel_rfl

theorem egB1 (r : Mem) (c : List Value) (i j : Int) (fs : FnsC) (K : OV → List Nat → OO → CR) (kx : Nat → KS) (kr : KS) : run (SC r) 959 23 1 k_e1 fs (some 4) (begK 4 (rbK 5 lvR fl5 K)) kx kr [] (bT (lvE ++ [8, 9]) (vE ++ [some (I i), some (I j)]) .nil) [] (mkA (oE5 c nilV .ready none)) =
    bif m_nns c && (true && (m_nns c && true)) then K [some (P0 0), some (P0 1), some (I i), some (I j)] [] [some (.cells c 55 0 0), some (.cells [.slice none 0 0] 22 1 0), some (.cells c 55 2 0), some .defd, some (rE LoopState.busy none)] else .fail 420 := by kernel_rfl

theorem egB2 (r : Mem) (c d : List Value) (k : Nat) (i j : Int) (fs : FnsC) (K : OV → List Nat → OO → CR) (kx : Nat → KS) (kr : KS) : run (SC r) 959 23 1 k_e1 fs (some 4) (begK 4 (rbK 6 lvR (fl5 ++ [.g]) K)) kx kr [] (bT (lvE ++ [8, 9]) (vE ++ [some (I i), some (I j)]) .nil) [] (mkA (oE5 c (rowV 5 k) .ready none ++ [oRw d 5])) =
    bif m_nns c && (true && (m_nns c && (true && (true && (m_nns d && true))))) then K [some (P0 0), some (P0 1), some (I i), some (I j)] [] [some (.cells c 55 0 0), some (.cells [.slice (some ⟨5, 0, none⟩) k unk] 22 1 0), some (.cells c 55 2 0), some .defd, some (rE LoopState.busy none), some (.cells d 51 5 2)] else .fail 420 := by kernel_rfl

theorem egC1 (r : Mem) (c : List Value) (i j : Int) (K : OV → List Nat → OO → CR) (kx : Nat → KS) (kr : KS) : run (SC r) 959 23 1 Eg_b (lvlT (SC r) (fun _ => none) .nil 1 2) (some 4) (rbK 5 [] fl5 K) kx kr [] (bT lvR (vR i j) .nil) [] (mkA (oE5 c nilV .busy none)) =
    bif decide (0 ≤ i) then bif Nat.blt (Int.toNat i) 16 then Option.casesOn c[Nat.add 1 (Nat.mul (Int.toNat i) 1)]? (.fail 423) fun val => bif isI IntKind.u64 val then bif !decide (j < 0) then bif ibits BinOp.and IntKind.u64 (Int.fdiv (ofI val) (Int.ofNat 2 ^ min (Int.toNat j) 64)) (Int.ofNat 1) == Int.ofNat 1 then bif m_nns c && (true && (m_nns c && (true && (true && (m_nns [I i, I j] && true))))) then K [] [] [some (.cells c 55 0 0), some (.cells [.slice (some ⟨5, 0, none⟩) 1 unk] 22 1 0), some (.cells c 55 2 0), some .defd, some (rE LoopState.busy none), some (.cells [I i, I j] 51 5 2)] else .fail 420 else bif m_nns c && (true && (m_nns c && true)) then K [] [] [some (.cells c 55 0 0), some (.cells [.slice none 0 0] 22 1 0), some (.cells c 55 2 0), some .defd, some (rE LoopState.busy none)] else .fail 420 else .fail 420 else .fail 420 else .fail 420 else .fail 420 := by kernel_rfl

theorem egC2 (r : Mem) (c d : List Value) (k : Nat) (i j : Int) (K : OV → List Nat → OO → CR) (kx : Nat → KS) (kr : KS) : run (SC r) 959 23 1 Eg_b (lvlT (SC r) (fun _ => none) .nil 1 2) (some 4) (rbK 6 [] (fl5 ++ [.g]) K) kx kr [] (bT lvR (vR i j) .nil) [] (mkA (oE5 c (rowV 5 k) .busy none ++ [oRw d 5])) =
    bif decide (0 ≤ i) then bif Nat.blt (Int.toNat i) 16 then Option.casesOn c[Nat.add 1 (Nat.mul (Int.toNat i) 1)]? (.fail 423) fun val => bif isI IntKind.u64 val then bif !decide (j < 0) then bif ibits BinOp.and IntKind.u64 (Int.fdiv (ofI val) (Int.ofNat 2 ^ min (Int.toNat j) 64)) (Int.ofNat 1) == Int.ofNat 1 then bif Nat.ble (Nat.add k 1) 1000000 then Option.casesOn (takeAt d 0 (Nat.mul k 2)) (.fail 439) fun val => bif m_nns c && (true && (m_nns c && (true && (true && (m_nns (val ++ [I i, I j]) && true))))) then K [] [] [some (.cells c 55 0 0), some (.cells [.slice (some ⟨6, 0, none⟩) (Nat.add k 1) unk] 22 1 0), some (.cells c 55 2 0), some .defd, some (rE LoopState.busy none), none, some (.cells (val ++ [I i, I j]) 51 6 2)] else .fail 420 else .fail 420 else bif m_nns c && (true && (m_nns c && (true && (true && (m_nns d && true))))) then K [] [] [some (.cells c 55 0 0), some (.cells [.slice (some ⟨5, 0, none⟩) k unk] 22 1 0), some (.cells c 55 2 0), some .defd, some (rE LoopState.busy none), some (.cells d 51 5 2)] else .fail 420 else .fail 420 else .fail 420 else .fail 420 else .fail 420 := by kernel_rfl

theorem egT1 (r : Mem) (c : List Value) (K : OV → List Nat → OO → CR) (kx : Nat → KS) (kr : KS) : tailRK 4 ⟨[], bT lvE vE .nil⟩ [3] (rbK 0 [3] [.t] K) kx kr (mkA (oE5 c nilV .ready none)) =
    K [some (P0 0)] [] [some (.cells [.slice none 0 0] 22 0 0)] := by kernel_rfl

theorem egT2 (r : Mem) (c d : List Value) (k : Nat) (K : OV → List Nat → OO → CR) (kx : Nat → KS) (kr : KS) : tailRK 4 ⟨[], bT lvE vE .nil⟩ [3] (rbK 0 [3] [.t] K) kx kr (mkA (oE5 c (rowV 5 k) .ready none ++ [oRw d 5])) =
    bif true && (m_nns d && true) then K [some (P0 0)] [] [some (.cells [.slice (some ⟨1, 0, none⟩) k unk] 22 0 0), some (.cells d 51 1 2)] else .fail 420 := by kernel_rfl

theorem egZ1 (r : Mem) (fs : FnsC) (K KR : OV → List Nat → OO → CR) (kx : Nat → KS) : run (SC r) 959 23 1 Eg_4 fs none (rbK 0 [2] [] K) kx (rbK 0 [2] [] KR) [] (bT [3] [some (P0 0)] .nil) [] (mkA [oLb nilV 0]) =
    KR [some (.slice none 0 0)] [] [] := by kernel_rfl

theorem egZ2 (r : Mem) (d : List Value) (k : Nat) (fs : FnsC) (K KR : OV → List Nat → OO → CR) (kx : Nat → KS) : run (SC r) 959 23 1 Eg_4 fs none (rbK 0 [2] [] K) kx (rbK 0 [2] [] KR) [] (bT [3] [some (P0 0)] .nil) [] (mkA [oLb (rowV 1 k) 0, oRw d 1]) =
    bif m_nns d && true then KR [some (.slice (some ⟨0, 0, none⟩) k unk)] [] [some (.cells d 51 0 2)] else .fail 420 := by kernel_rfl

end Go.Proofs

/- The graph's edges: what the call answers. -/
namespace Go.Proofs
open Go Go.Ev Go.Num
set_option linter.unusedVariables false
set_option linter.unusedSimpArgs false
set_option maxRecDepth 100000

theorem gC_get (n : Int) (w : Nat → Int) : ∀ i, i < 16 → (gC n w)[Nat.add 1 (Nat.mul i 1)]? = some (U (w i))
 | 0, _ => rfl | 1, _ => rfl | 2, _ => rfl | 3, _ => rfl | 4, _ => rfl | 5, _ => rfl | 6, _ => rfl | 7, _ => rfl
 | 8, _ => rfl | 9, _ => rfl | 10, _ => rfl | 11, _ => rfl | 12, _ => rfl | 13, _ => rfl | 14, _ => rfl | 15, _ => rfl
 | i + 16, h => absurd h (by omega)
theorem bitU {x k : Nat} (hx : x < 65536) (hk : k ≤ 16) : (ibits BinOp.and IntKind.u64 (Int.fdiv ((x : Nat) : Int) (Int.ofNat 2 ^ min k 64)) (Int.ofNat 1) == Int.ofNat 1) = btN x k := by
 rw [shr_nat x k (by omega)]
 have hle : x / 2 ^ k ≤ x := Nat.div_le_self _ _
 rw [show (Int.ofNat 1 : Int) = ((1 : Nat) : Int) from rfl, (uO (by omega) (by decide)).2.1, Nat.and_one_is_mod]
 unfold btN
 rcases Nat.mod_two_eq_zero_or_one (x / 2 ^ k) with h | h <;> rw [h] <;> rfl

noncomputable def oEd (n : Int) (w : Nat → Int) (st : LoopState) : List (Nat × Nat) → OO
 | [] => oE5 (gC n w) nilV st none
 | p :: l => oE5 (gC n w) (rowV 5 (l.length + 1)) st none ++ [oRw (pcE (p :: l)) 5]
theorem oEd_next (n : Int) (w : Nat → Int) : (mkA (oEd n w .ready [])).next = 5 := by kernel_rfl
theorem oEd_cn (n : Int) (w : Nat → Int) (l : List (Nat × Nat)) : Cn 5 fl5 (mkA (oEd n w .ready l)) (oEd n w .ready l) := by
 cases l with
 | nil => exact ⟨by kernel_rfl, by kernel_rfl⟩
 | cons p l => exact ⟨by kernel_rfl, by
   have h : m_nns (pcE (p :: l)) = true := pcE_nn _
   show (true && (true && (true && (true && (true && (m_nns (pcE (p :: l)) && true)))))) = true
   rw [h]
   rfl⟩
theorem oEd_end (n : Int) (w : Nat → Int) (l : List (Nat × Nat)) : endR 4 none (St.of [] [] [] (oEd n w .busy l)) = .ret (.bool true) (mkA (oEd n w .ready l)) := by
 cases l with
 | nil => kernel_rfl
 | cons p l => kernel_rfl

noncomputable def oEg (n : Int) (w : Nat → Int) (st : LoopState) (p : Nat × Nat) (l : List (Nat × Nat)) : OO := oE5 (gC n w) (rowV 6 (l.length + 1)) st none ++ [none, oRw (pcE (p :: l)) 6]
theorem oEg_cn (n : Int) (w : Nat → Int) (p : Nat × Nat) (l : List (Nat × Nat)) : Cn 5 fl5 (mkA (oEg n w .ready p l)) (oEd n w .ready (p :: l)) := ⟨by kernel_rfl, (oEd_cn n w (p :: l)).2⟩
theorem oEg_end (n : Int) (w : Nat → Int) (p : Nat × Nat) (l : List (Nat × Nat)) : endR 4 none (St.of [] [] [] (oEg n w .busy p l)) = .ret (.bool true) (mkA (oEg n w .ready p l)) := by kernel_rfl

theorem yE {r : Mem} {n : Nat} (hn : n ≤ 16) {w : Nat → Nat} (hw : ∀ i, w i < 65536) {i j : Nat} (hij : i < j) (hj : j < n) (l : List (Nat × Nat)) (hlen : l.length ≤ 300) {P E : OO → Prop} (hP : P (oEd (n : Nat) (fun i => (w i : Nat)) .ready (l ++ if btN (w i) j = true then [(i, j)] else []))) :
  YOk (SC r) 4 [I (i : Nat), I (j : Nat)] (mkA (oEd (n : Nat) (fun i => (w i : Nat)) .ready l)) fun v A' => ∃ os', Cn 5 fl5 A' os' ∧ ((v = .bool true ∧ P os') ∨ (v = .bool false ∧ E os')) := by
 have p0 : ∀ k : Nat, decide (0 ≤ (k : Int)) = true := fun k => decide_eq_true (by omega)
 have n0 : ∀ k : Nat, decide ((k : Int) < 0) = false := fun k => decide_eq_false (by omega)
 have bl : Nat.blt i 16 = true := Nat.ble_eq_true_of_le (by omega)
 have ii : ∀ x, isI IntKind.u64 (U x) = true := fun _ => rfl
 have oo : ∀ x, ofI (U x) = x := fun _ => rfl
 have hc : m_nns (gC (n : Nat) fun i => (w i : Nat)) = true := rfl
 have gg := gC_get (n : Nat) (fun i => (w i : Nat)) i (by omega)
 have h2 : ∀ a b : Int, m_nns [I a, I b] = true := fun _ _ => rfl
 cases l with
 | nil =>
  have hnx : (mkA (oEd (n : Nat) (fun i => (w i : Nat)) .ready [])).next = 5 := by kernel_rfl
  refine YOk.of (SC_ok r) (i := 4) (st := .ready) (pend := none) (m := 959) (n := 23) (en := ⟨[], bT lvE vE .nil⟩) (params := #[8, 9]) (assign := k_e1) (body := k_e2) (d := 3) (by kernel_rfl) (s0 := []) (b0 := bT (lvE ++ [8, 9]) (vE ++ [some (I (i : Nat)), some (I (j : Nat))]) .nil) (by kernel_rfl) TOk.nil (tm := .nil) (L := 1) (L' := 1) (d' := 2)
   ⟨lvR, fl5, fun vs ms os => vs = vR (i : Nat) (j : Nat) ∧ ms = [] ∧ os = oEd (n : Nat) (fun i => (w i : Nat)) .busy ([])⟩
   ⟨[], fl5, fun vs ms os => vs = [] ∧ ms = [] ∧ os = oEd (n : Nat) (fun i => (w i : Nat)) .busy (([]) ++ if btN (w i) j = true then [(i, j)] else [])⟩
   (fun _ => Outs.no) Outs.no ?_ ?_ ?_ ?_ ?_
  ·rw [hnx]
   have hn := egB1 r (gC (n : Nat) fun i => (w i : Nat)) i j
   simp only [hc, Bool.and_self, cond_true] at hn
   exact (hn _ _ _ _).trans (qq_ok ⟨rfl, rfl, rfl⟩)
  ·rintro F k γ W hF hro h0 vs ms os ⟨rfl, rfl, rfl⟩
   rw [hnx] at h0
   rw [Eb_eq]
   refine Go.Ev.Reach.blockC (Go.Ev.Reach.segR (SC_ok r) TOk.nil (tm := .nil) (L := 1) (L' := 1) (d := 2) hF hro h0 [] (fun p hp => nomatch hp) ?_)
   have hn := egC1 r (gC (n : Nat) fun i => (w i : Nat)) i j
   simp only [p0, n0, bl, Int.toNat_natCast, gg, ii, oo, Bool.not_false, cond_true, bitU (hw i) (show j ≤ 16 by omega), hc, h2, Bool.and_self] at hn
   cases hb : btN (w i) j with
   | true =>
    simp only [hb, cond_true] at hn
    exact (hn _ _ _).trans (qq_ok ⟨rfl, rfl, rfl⟩)
   | false =>
    simp only [hb, cond_false] at hn
    exact (hn _ _ _).trans (qq_ok ⟨rfl, rfl, rfl⟩)
  ·rintro vs ms os ⟨rfl, rfl, rfl⟩
   exact ⟨_, _, oEd_end _ _ _, _, oEd_cn _ _ _, .inl ⟨rfl, hP⟩⟩
  ·rintro id vs ms os hf
   exact hf.elim
  ·rintro vs ms os hf
   exact hf.elim
 | cons p l =>
  have hnx : (mkA (oEd (n : Nat) (fun i => (w i : Nat)) .ready (p :: l))).next = 6 := by kernel_rfl
  have hlen' : l.length + 1 ≤ 300 := hlen
  refine YOk.of (SC_ok r) (i := 4) (st := .ready) (pend := none) (m := 959) (n := 23) (en := ⟨[], bT lvE vE .nil⟩) (params := #[8, 9]) (assign := k_e1) (body := k_e2) (d := 3) (by kernel_rfl) (s0 := []) (b0 := bT (lvE ++ [8, 9]) (vE ++ [some (I (i : Nat)), some (I (j : Nat))]) .nil) (by kernel_rfl) TOk.nil (tm := .nil) (L := 1) (L' := 1) (d' := 2)
   ⟨lvR, fl5 ++ [.g], fun vs ms os => vs = vR (i : Nat) (j : Nat) ∧ ms = [] ∧ os = oEd (n : Nat) (fun i => (w i : Nat)) .busy (p :: l)⟩
   ⟨[], fl5 ++ [.g], fun vs ms os => vs = [] ∧ ms = [] ∧ ((btN (w i) j = true ∧ os = oEg (n : Nat) (fun i => (w i : Nat)) .busy p (l ++ [(i, j)])) ∨ (btN (w i) j = false ∧ os = oEd (n : Nat) (fun i => (w i : Nat)) .busy (p :: l)))⟩
   (fun _ => Outs.no) Outs.no ?_ ?_ ?_ ?_ ?_
  ·rw [hnx]
   have hn := egB2 r (gC (n : Nat) fun i => (w i : Nat)) (pcE (p :: l)) (l.length + 1) i j
   simp only [hc, pcE_nn, Bool.and_self, cond_true] at hn
   exact (hn _ _ _ _).trans (qq_ok ⟨rfl, rfl, rfl⟩)
  ·rintro F k γ W hF hro h0 vs ms os ⟨rfl, rfl, rfl⟩
   rw [hnx] at h0
   rw [Eb_eq]
   refine Go.Ev.Reach.blockC (Go.Ev.Reach.segR (SC_ok r) TOk.nil (tm := .nil) (L := 1) (L' := 1) (d := 2) hF hro h0 [] (fun p hp => nomatch hp) ?_)
   have hn := egC2 r (gC (n : Nat) fun i => (w i : Nat)) (pcE (p :: l)) (l.length + 1) i j
   have m1 : Nat.ble (Nat.add (l.length + 1) 1) 1000000 = true := Nat.ble_eq_true_of_le (by simp only [Nat.add_eq]; omega)
   have tk : takeAt (pcE (p :: l)) 0 (Nat.mul (l.length + 1) 2) = some (pcE (p :: l)) := takeL_all _ _ (by rw [pcE_len]; simp [Nat.mul_comm])
   have ap : pcE (p :: l) ++ [I (i : Nat), I (j : Nat)] = pcE (p :: (l ++ [(i, j)])) := by rw [show p :: (l ++ [(i, j)]) = (p :: l) ++ [(i, j)] from rfl, pcE_app]; rfl
   have al : Nat.add (l.length + 1) 1 = (l ++ [(i, j)]).length + 1 := by simp
   simp only [p0, n0, bl, Int.toNat_natCast, gg, ii, oo, Bool.not_false, cond_true, bitU (hw i) (show j ≤ 16 by omega), hc, m1, tk, ap, al, pcE_nn, Bool.and_self] at hn
   cases hb : btN (w i) j with
   | true =>
    simp only [hb, cond_true] at hn
    rw [al] at m1
    simp only [m1, cond_true] at hn
    exact (hn _ _ _).trans (qq_ok ⟨rfl, rfl, .inl ⟨rfl, rfl⟩⟩)
   | false =>
    simp only [hb, cond_false] at hn
    exact (hn _ _ _).trans (qq_ok ⟨rfl, rfl, .inr ⟨rfl, rfl⟩⟩)
  ·rintro vs ms os ⟨rfl, rfl, ⟨hb, rfl⟩ | ⟨hb, rfl⟩⟩
   ·exact ⟨_, _, oEg_end _ _ _ _, _, oEg_cn _ _ _ _, .inl ⟨rfl, by rw [if_pos hb] at hP; exact hP⟩⟩
   ·exact ⟨_, _, oEd_end _ _ _, _, oEd_cn _ _ _, .inl ⟨rfl, by rw [if_neg (by rw [hb]; decide), List.append_nil] at hP; exact hP⟩⟩
  ·rintro id vs ms os hf
   exact hf.elim
  ·rintro vs ms os hf
   exact hf.elim

theorem edges_ok' (r : Mem) {n : Nat} (hn : n ≤ 16) {w : Nat → Nat} (hw : ∀ i, w i < 65536) :
  SOk (SC r) 25 [.agg ⟨gC (n : Nat) fun i => (w i : Nat)⟩] emptyA fun v A => v = vL (alE w n n) ∧ A = mkA (oL (alE w n n)) := by
 refine callO (SC_ok r) (by kernel_rfl) ((bodySC r _).trans Eg_eq) (nt := 23) (by kernel_rfl) (rs := [.tmp 2]) (by kernel_rfl) 959 rfl
  ⟨[2], [], fun vs ms os => vs = [some (vL (alE w n n))] ∧ ms = [] ∧ os = oL (alE w n n)⟩ ?_ fun γ W F k hwr hF hro h0 => ?_
 ·rintro vs ms os ⟨rfl, rfl, rfl⟩
  generalize alE w n n = l
  cases l with
  | nil => exact ⟨_, mkA [], by kernel_rfl, rfl, rfl⟩
  | cons p l => exact ⟨_, mkA [some (.cells (pcE (p :: l)) 51 0 2)], by kernel_rfl, rfl, rfl⟩
 have h0 : ∀ i, 0 ≤ i → γ i = none := h0
 have lens : ∀ i j, i ≤ n → j ≤ n + 1 → (alE w n i ++ rwE w i j).length ≤ 300 := fun i j hi hj => by
  have h1 := alE_len w n i
  have h2 := rwE_len w i j
  have h3 : i * n ≤ 16 * 16 := Nat.mul_le_mul (by omega) (by omega)
  rw [List.length_append]
  omega
 refine Go.Ev.Reach.after3R (SC_ok r) TOk.nil (tm := .nil) (L := 1) (L' := 1) (d := 2) hF hro h0 (.step (.step .base))
  (o1 := ⟨lvE, flE, fun vs ms os => vs = vE ∧ ms = [] ∧ os = [oPg (gC (n : Nat) fun i => (w i : Nat)) 0, oLb nilV 1, oPg (gC (n : Nat) fun i => (w i : Nat)) 2]⟩)
  (o2 := ⟨[3], [.t], fun vs ms os => vs = [some (P0 0)] ∧ ms = [] ∧ os = match alE w n n with | [] => [oLb nilV 0] | p :: l => [oLb (rowV 1 (l.length + 1)) 0, oRw (pcE (p :: l)) 1]⟩) [] (fun p hp => nomatch hp) ?_ ?_ ?_
 ·rintro vs ms os ⟨rfl, rfl, rfl⟩
  have hl : ((mkA [oPg (gC (n : Nat) fun i => (w i : Nat)) 0, oLb nilV 1, oPg (gC (n : Nat) fun i => (w i : Nat)) 2]).new .defd).next = 4 := by kernel_rfl
  refine Go.Ev.Reach.blockC (Go.Ev.Reach.rangeC (SC_ok r) hF hro h0 (d := 3) (marks := [3]) (A1 := (mkA [oPg (gC (n : Nat) fun i => (w i : Nat)) 0, oLb nilV 1, oPg (gC (n : Nat) fun i => (w i : Nat)) 2]).new .defd) (g := 39) (first := []) (captured := [P0 2]) (S := fun v A' => ∃ os, A' = mkA os ∧ os = oEd (n : Nat) (fun i => (w i : Nat)) .ready (alE w n n)) [] (fun p hp => nomatch hp) (by kernel_rfl) (by kernel_rfl) (by kernel_rfl) ?_ ?_)
  ·have hE : ((mkA [oPg (gC (n : Nat) fun i => (w i : Nat)) 0, oLb nilV 1, oPg (gC (n : Nat) fun i => (w i : Nat)) 2]).new .defd).new (.loop .ready none 959 ⟨[], bT lvE vE .nil⟩ 23 #[8, 9] k_e1 k_e2 3) = mkA (oEd (n : Nat) (fun i => (w i : Nat)) .ready []) := by kernel_rfl
   show SOk _ _ _ (((mkA [oPg (gC (n : Nat) fun i => (w i : Nat)) 0, oLb nilV 1, oPg (gC (n : Nat) fun i => (w i : Nat)) 2]).new .defd).new (.loop .ready none 959 ⟨[], bT lvE vE .nil⟩ 23 #[8, 9] k_e1 k_e2 3)) _
   rw [hE, hl]
   refine pairs_iter r (l := 4) (p := 2) (fl := fl5) hn (J := fun i j os => i ≤ n ∧ j ≤ n + 1 ∧ os = oEd (n : Nat) (fun i => (w i : Nat)) .ready (alE w n i ++ rwE w i j)) (E := fun os => os = oEd (n : Nat) (fun i => (w i : Nat)) .ready (alE w n n)) (os0 := oEd (n : Nat) (fun i => (w i : Nat)) .ready [])
    ?_ ?_ ?_ ?_ ⟨Nat.zero_le _, by omega, ?_⟩ (by kernel_rfl) (by kernel_rfl)
   ·rintro i j os ⟨_, _, rfl⟩
    generalize alE w n i ++ rwE w i j = l
    cases l with
    | nil => exact ⟨(gC (n : Nat) fun i => (w i : Nat)).tail, 55, 2, 0, by kernel_rfl⟩
    | cons p l => exact ⟨(gC (n : Nat) fun i => (w i : Nat)).tail, 55, 2, 0, by kernel_rfl⟩
   ·rintro i os hi ⟨_, _, rfl⟩
    exact ⟨hi, by omega, by rw [rwE_nil w (i + 1) (i + 2) (Nat.le_refl _), List.append_nil]; rfl⟩
   ·rintro i j os hij hj ⟨hi, hj', rfl⟩
    rw [oEd_next]
    refine yE (r := r) hn hw hij hj _ (lens i j hi hj') ⟨hi, by omega, ?_⟩
    rw [List.append_assoc, rwE]
    congr 2
    by_cases c : btN (w i) j = true
    ·rw [if_pos c, if_pos ⟨hij, c⟩]
    ·rw [if_neg c, if_neg fun h => c h.2]
   ·rintro os ⟨_, _, rfl⟩
    rw [rwE_nil w n (n + 1) (Nat.le_refl _), List.append_nil]
   ·rw [rwE_nil w 0 1 (Nat.le_refl _)]
    rfl
  ·rintro v A' ⟨os, rfl, rfl⟩
   rw [hl]
   generalize alE w n n = l
   cases l with
   | nil => exact (egT1 r (gC (n : Nat) fun i => (w i : Nat)) _ _ _).trans (qq_ok ⟨rfl, rfl, rfl⟩)
   | cons p l =>
    have hn := egT2 r (gC (n : Nat) fun i => (w i : Nat)) (pcE (p :: l)) (l.length + 1)
    simp only [pcE_nn, Bool.and_self, cond_true] at hn
    exact (hn _ _ _).trans (qq_ok ⟨rfl, rfl, rfl⟩)
 ·rintro vs ms os ⟨rfl, rfl, rfl⟩
  generalize alE w n n = l
  cases l with
  | nil => exact Go.Ev.Reach.segR (SC_ok r) TOk.nil (tm := .nil) (L := 1) (L' := 1) (d := 1) hF hro h0 [] (fun p hp => nomatch hp) ((egZ1 r _ _ _ _).trans (qq_ok ⟨rfl, rfl, rfl⟩))
  | cons p l =>
   have hn := egZ2 r (pcE (p :: l)) (l.length + 1)
   simp only [pcE_nn, Bool.and_self, cond_true] at hn
   exact Go.Ev.Reach.segR (SC_ok r) TOk.nil (tm := .nil) (L := 1) (L' := 1) (d := 1) hF hro h0 [] (fun p hp => nomatch hp) ((hn _ _ _ _).trans (qq_ok ⟨rfl, rfl, rfl⟩))
 ·exact (egA r (n : Nat) (fun i => (w i : Nat)) _ _ _).trans (qq_ok ⟨rfl, rfl, rfl⟩)

end Go.Proofs

/- A row of pairs of the caller's, as memory. -/
namespace Go.Proofs
open Go Go.Ev Go.Num
set_option linter.unusedVariables false
set_option linter.unusedSimpArgs false
set_option maxRecDepth 100000

noncomputable def m_okL2 (c : List Value) (k len : Nat) : Bool := @decide (len ≤ 1000000 ∧ ∀ j, j < 2 * len → ∃ z : Int, c[k + j]? = some (I z)) (Classical.propDecidable _)
def zAt2 (c : List Value) (j : Nat) : Int := match c[j]? with
 | some (.int _ z) => z
 | _ => 0
theorem memW_tab {r : Mem} (hm : ∀ b j u, tabM b j = some u → r b j = some u) {γ : Gam} {W : World} (hR : Ro r γ W) : ∀ b j u, tabM b j = some u → memW W b j = some u := fun b j u h => by
 have hg : gnd u = true := by
  unfold tabM at h
  split at h
  ·unfold memL u8s at h
   rw [List.getElem?_map] at h
   cases h1 : tab64[j]? with
   | none => rw [h1] at h; cases h
   | some x => rw [h1] at h; cases h; rfl
  ·split at h
   ·unfold memL u8s at h
    rw [List.getElem?_map] at h
    cases h1 : tab32[j]? with
    | none => rw [h1] at h; cases h
    | some x => rw [h1] at h; cases h; rfl
   ·cases h
 obtain ⟨_, cc, e, fr, v', h1, h2, h3⟩ := hR b j u (hm b j u h)
 have := (h3 γ).eq_of_gnd hg
 subst this
 unfold memW
 rw [h1]
 simp only [h2, Option.bind_some]
 exact mark_gnd hg

theorem own_mem {r : Mem} {γ : Gam} {A : AW} {W : World} (hw : WRel γ A W) (hR : Ro r γ W) {n : Int} {i k len cap : Nat} {c l : List Value} {e f z : Nat} (hget : A.heap.get i = some (.cells c e f z)) (hok : m_okL2 c k len = true) (hcap : Nat.beq cap unkE = false) (hl : gnds l = true)
  {args' : Array Value} (ha : VsRel γ (.int .i64 n :: .slice (some ⟨i, k, none⟩) len cap :: l) args'.toList) :
  ∃ b k', VsRel noG (I n :: RS2 b k' len 0 :: l) args'.toList ∧ rowAt (memW W) b k' (2 * len) (fun j => zAt2 c (k + j)) ∧ len ≤ 1000000 := by
 obtain ⟨h1, h2⟩ := @of_decide_eq_true _ (Classical.propDecidable _) hok
 obtain ⟨la⟩ := args'
 cases ha with
 | cons hn hrest =>
 cases hn
 cases hrest with
 | cons hv hrest =>
 obtain ⟨b, k', c', rfl, hrd⟩ := rd_world hw hR hv hcap
 refine ⟨b, k', .cons (.int _ _) (.cons (.sliceRo _ _ _ _ _ _ (by decide) (Nat.zero_le _)) ?_), fun j hj => ?_, h1⟩
 ·rw [hrest.eq_of_gnds hl]
  exact VsRel.of_gnds noG l hl
 ·obtain ⟨z, hz⟩ := h2 j hj
  have e1 : zAt2 c (k + j) = z := by unfold zAt2; rw [hz]
  show memW W b (k' + j) = some (I (zAt2 c (k + j)))
  rw [e1]
  refine hrd j _ ?_ rfl
  simp only [AW.rd, AW.cell, hget]
  exact hz

theorem natFK2 {i j : Nat} (h : i ≠ j) : Nat.beq i j = false := by
 cases e : Nat.beq i j with
 | false => rfl
 | true => exact absurd (Nat.eq_of_beq_eq_true e) h

abbrev Tab (r : Mem) : Prop := ∀ b j u, tabM b j = some u → r b j = some u


end Go.Proofs

/- Entries that laws over small graphs share: tame, Of. -/
namespace Go.Proofs
open Go Go.Ev Go.Num
set_option linter.unusedVariables false
set_option linter.unusedSimpArgs false
set_option maxRecDepth 100000

noncomputable def eOf1 (m len : Nat) (c g : List Value) : Ent := ⟨fun args A => match args with
  | [.int .i64 n, .slice (some ⟨i, k, none⟩) l cap] => match A.heap.get i with
   | some (.cells c' _ _ _) => m_same [.int .i64 n, .slice (some ⟨0, k, none⟩) l cap, .agg ⟨c'⟩] [.int .i64 m, .slice (some ⟨0, 0, none⟩) len unk, .agg ⟨c⟩]
   | _ => false
  | _ => false, fun _ _ => true, fun _ A => .slice (some ⟨A.next, 0, none⟩) m m, fun _ A => A.new (.cells g 3 A.next 1), fun _ _ => undef, fun _ A => A⟩
noncomputable def eOf0 (m : Nat) (g : List Value) : Ent := ⟨fun args _ => m_same args [I (m : Nat), .slice none 0 0], fun _ _ => true, fun _ A => .slice (some ⟨A.next, 0, none⟩) m m, fun _ A => A.new (.cells g 3 A.next 1), fun _ _ => undef, fun _ A => A⟩
noncomputable def eTm1 (a0 : List Value) (m len : Nat) (c : List Value) : Ent := ⟨fun args _ => m_same args a0, fun _ _ => true, fun _ A => .tuple ⟨[I (m : Nat), .slice (some ⟨A.next, 0, none⟩) len unk]⟩, fun _ A => A.new (.cells c 51 A.next 2), fun _ _ => undef, fun _ A => A⟩
theorem zAt2_E (E : List (Nat × Nat)) {j : Nat} (h : j < 2 * E.length) : zAt2 (pcE E) (0 + j) = zE E j := by
 unfold zAt2
 rw [Nat.zero_add, pcE_get E j h]
theorem okL2_E (E : List (Nat × Nat)) (h : E.length ≤ 1000000) : m_okL2 (pcE E) 0 E.length = true := @decide_eq_true _ (Classical.propDecidable _) ⟨h, fun j hj => ⟨_, by rw [Nat.zero_add]; exact pcE_get E j hj⟩⟩
theorem rowE {r : Mem} {b k : Nat} {E : List (Nat × Nat)} (h : rowAt r b k (2 * E.length) (fun j => zAt2 (pcE E) (0 + j))) : rowAt r b k (2 * E.length) (zE E) := fun j hj => by
 have := h j hj
 simp only at this
 rw [this, zAt2_E E hj]
theorem own_ws {r : Mem} {γ : Gam} {A : AW} {W : World} (hw : WRel γ A W) (hR : Ro r γ W) {i m : Nat} (hm : m ≤ 16) {ws : List Nat} (hlw : ws.length = m) {e f z : Nat} (hget : A.heap.get i = some (.cells (m_ws ws) e f z)) {l : List Value} (hl : gnds l = true) {args' : Array Value} (ha : VsRel γ (.slice (some ⟨i, 0, none⟩) m m :: l) args'.toList) :
  ∃ b k', VsRel noG (RS b k' m 0 :: l) args'.toList ∧ ∀ k, k < m → memW W b (k' + k) = some (I (ws.getD k 0 : Nat)) := by
 obtain ⟨la⟩ := args'
 cases ha with
 | cons hv hrest =>
 obtain ⟨b, k', c', rfl, hrd⟩ := rd_world hw hR hv (natFK2 (by unfold unkE; omega))
 refine ⟨b, k', .cons (.sliceRo _ _ _ _ _ _ (by decide) (Nat.zero_le _)) ?_, fun j hj => ?_⟩
 ·rw [hrest.eq_of_gnds hl]
  exact VsRel.of_gnds noG l hl
 ·refine hrd j _ ?_ rfl
  simp only [AW.rd, AW.cell, hget]
  have := ws_get (ws := ws) (k := j) (by omega)
  rw [Nat.mul_eq, Nat.mul_one, Nat.add_eq] at this
  exact this

theorem ofV_row {m : Nat} (h : m ≤ 16) : ofV 0 (.slice (some ⟨0, 0, none⟩) m m) = true := by simp [ofV, of1]
theorem eOf1_ok (r : Mem) {m : Nat} (h1 : 1 ≤ m) (hm16 : m ≤ 16) {E : List (Nat × Nat)} (hE : okAll (m : Int) (zE E) E.length = true) (hl : E.length ≤ 1000000) : EOk (SC r) 6 (eOf1 m E.length (pcE E) (m_ws (nbN m (zE E) E.length))) := fun args A hgd F hF k γ W args' hw hR ha => by
 refine ⟨fun hcc => ?_, fun h => nomatch h⟩
 clear hcc
 dsimp only [eOf1] at hgd ⊢
 split at hgd
 ·rename_i n i k0 l cap
  split at hgd
  ·rename_i c' e f z hget
   have hs := @of_decide_eq_true _ (Classical.propDecidable _) hgd
   simp only [List.cons.injEq, Value.int.injEq, Value.slice.injEq, Option.some.injEq, Addr.mk.injEq, Value.agg.injEq, Array.mk.injEq, and_true, true_and] at hs
   obtain ⟨rfl, ⟨rfl, rfl, rfl⟩, rfl⟩ := hs
   obtain ⟨b, k', p1, p2, p3⟩ := own_mem hw hR hget (okL2_E E hl) rfl rfl ha
   have h := of_ok (memW W) m h1 (by omega) b k' E.length 0 _ (rowE p2) p3 hE
   exact h.ends (γ := γ) (A := A) (ofV_row (by omega)) (ws_gnd _) hF hw (memW_ro W) p1 ha
  ·cases hgd
 ·cases hgd

theorem oN1 : (lvlT (SC fun _ _ => none) (fun _ => none) .nil 20 3).call 6 [I 1, .slice none 0 0] emptyA finM = .ret (.slice (some ⟨0, 0, none⟩) 1 1) (rowA (m_ws (List.replicate 1 0)) 3 1) := by kernel_rfl
theorem oN2 : (lvlT (SC fun _ _ => none) (fun _ => none) .nil 20 3).call 6 [I 2, .slice none 0 0] emptyA finM = .ret (.slice (some ⟨0, 0, none⟩) 2 2) (rowA (m_ws (List.replicate 2 0)) 3 1) := by kernel_rfl
theorem oN3 : (lvlT (SC fun _ _ => none) (fun _ => none) .nil 20 3).call 6 [I 3, .slice none 0 0] emptyA finM = .ret (.slice (some ⟨0, 0, none⟩) 3 3) (rowA (m_ws (List.replicate 3 0)) 3 1) := by kernel_rfl
theorem oN4 : (lvlT (SC fun _ _ => none) (fun _ => none) .nil 20 3).call 6 [I 4, .slice none 0 0] emptyA finM = .ret (.slice (some ⟨0, 0, none⟩) 4 4) (rowA (m_ws (List.replicate 4 0)) 3 1) := by kernel_rfl
theorem oN5 : (lvlT (SC fun _ _ => none) (fun _ => none) .nil 20 3).call 6 [I 5, .slice none 0 0] emptyA finM = .ret (.slice (some ⟨0, 0, none⟩) 5 5) (rowA (m_ws (List.replicate 5 0)) 3 1) := by kernel_rfl
theorem oN6 : (lvlT (SC fun _ _ => none) (fun _ => none) .nil 20 3).call 6 [I 6, .slice none 0 0] emptyA finM = .ret (.slice (some ⟨0, 0, none⟩) 6 6) (rowA (m_ws (List.replicate 6 0)) 3 1) := by kernel_rfl
theorem oN7 : (lvlT (SC fun _ _ => none) (fun _ => none) .nil 20 3).call 6 [I 7, .slice none 0 0] emptyA finM = .ret (.slice (some ⟨0, 0, none⟩) 7 7) (rowA (m_ws (List.replicate 7 0)) 3 1) := by kernel_rfl
theorem oN8 : (lvlT (SC fun _ _ => none) (fun _ => none) .nil 20 3).call 6 [I 8, .slice none 0 0] emptyA finM = .ret (.slice (some ⟨0, 0, none⟩) 8 8) (rowA (m_ws (List.replicate 8 0)) 3 1) := by kernel_rfl
theorem oN9 : (lvlT (SC fun _ _ => none) (fun _ => none) .nil 20 3).call 6 [I 9, .slice none 0 0] emptyA finM = .ret (.slice (some ⟨0, 0, none⟩) 9 9) (rowA (m_ws (List.replicate 9 0)) 3 1) := by kernel_rfl
theorem oN10 : (lvlT (SC fun _ _ => none) (fun _ => none) .nil 20 3).call 6 [I 10, .slice none 0 0] emptyA finM = .ret (.slice (some ⟨0, 0, none⟩) 10 10) (rowA (m_ws (List.replicate 10 0)) 3 1) := by kernel_rfl
theorem oN11 : (lvlT (SC fun _ _ => none) (fun _ => none) .nil 20 3).call 6 [I 11, .slice none 0 0] emptyA finM = .ret (.slice (some ⟨0, 0, none⟩) 11 11) (rowA (m_ws (List.replicate 11 0)) 3 1) := by kernel_rfl
theorem oN12 : (lvlT (SC fun _ _ => none) (fun _ => none) .nil 20 3).call 6 [I 12, .slice none 0 0] emptyA finM = .ret (.slice (some ⟨0, 0, none⟩) 12 12) (rowA (m_ws (List.replicate 12 0)) 3 1) := by kernel_rfl
theorem oN13 : (lvlT (SC fun _ _ => none) (fun _ => none) .nil 20 3).call 6 [I 13, .slice none 0 0] emptyA finM = .ret (.slice (some ⟨0, 0, none⟩) 13 13) (rowA (m_ws (List.replicate 13 0)) 3 1) := by kernel_rfl
theorem oN14 : (lvlT (SC fun _ _ => none) (fun _ => none) .nil 20 3).call 6 [I 14, .slice none 0 0] emptyA finM = .ret (.slice (some ⟨0, 0, none⟩) 14 14) (rowA (m_ws (List.replicate 14 0)) 3 1) := by kernel_rfl
theorem oN15 : (lvlT (SC fun _ _ => none) (fun _ => none) .nil 20 3).call 6 [I 15, .slice none 0 0] emptyA finM = .ret (.slice (some ⟨0, 0, none⟩) 15 15) (rowA (m_ws (List.replicate 15 0)) 3 1) := by kernel_rfl
theorem oN16 : (lvlT (SC fun _ _ => none) (fun _ => none) .nil 20 3).call 6 [I 16, .slice none 0 0] emptyA finM = .ret (.slice (some ⟨0, 0, none⟩) 16 16) (rowA (m_ws (List.replicate 16 0)) 3 1) := by kernel_rfl
theorem ofN_ok {m : Nat} (h1 : 1 ≤ m) (h2 : m ≤ 16) : GrM Tryz.prog (fun _ _ => none) 6 [I (m : Nat), .slice none 0 0] (.slice (some ⟨0, 0, none⟩) m m) (rowA (m_ws (nbN m (zE []) 0)) 3 1) := by
 have : m = 1 ∨ m = 2 ∨ m = 3 ∨ m = 4 ∨ m = 5 ∨ m = 6 ∨ m = 7 ∨ m = 8 ∨ m = 9 ∨ m = 10 ∨ m = 11 ∨ m = 12 ∨ m = 13 ∨ m = 14 ∨ m = 15 ∨ m = 16 := by omega
 rcases this with rfl | rfl | rfl | rfl | rfl | rfl | rfl | rfl | rfl | rfl | rfl | rfl | rfl | rfl | rfl | rfl
 ·exact GrM.of (SC_ok fun _ _ => none) TOk.nil .nil ⟨20, 3, oN1⟩
 ·exact GrM.of (SC_ok fun _ _ => none) TOk.nil .nil ⟨20, 3, oN2⟩
 ·exact GrM.of (SC_ok fun _ _ => none) TOk.nil .nil ⟨20, 3, oN3⟩
 ·exact GrM.of (SC_ok fun _ _ => none) TOk.nil .nil ⟨20, 3, oN4⟩
 ·exact GrM.of (SC_ok fun _ _ => none) TOk.nil .nil ⟨20, 3, oN5⟩
 ·exact GrM.of (SC_ok fun _ _ => none) TOk.nil .nil ⟨20, 3, oN6⟩
 ·exact GrM.of (SC_ok fun _ _ => none) TOk.nil .nil ⟨20, 3, oN7⟩
 ·exact GrM.of (SC_ok fun _ _ => none) TOk.nil .nil ⟨20, 3, oN8⟩
 ·exact GrM.of (SC_ok fun _ _ => none) TOk.nil .nil ⟨20, 3, oN9⟩
 ·exact GrM.of (SC_ok fun _ _ => none) TOk.nil .nil ⟨20, 3, oN10⟩
 ·exact GrM.of (SC_ok fun _ _ => none) TOk.nil .nil ⟨20, 3, oN11⟩
 ·exact GrM.of (SC_ok fun _ _ => none) TOk.nil .nil ⟨20, 3, oN12⟩
 ·exact GrM.of (SC_ok fun _ _ => none) TOk.nil .nil ⟨20, 3, oN13⟩
 ·exact GrM.of (SC_ok fun _ _ => none) TOk.nil .nil ⟨20, 3, oN14⟩
 ·exact GrM.of (SC_ok fun _ _ => none) TOk.nil .nil ⟨20, 3, oN15⟩
 ·exact GrM.of (SC_ok fun _ _ => none) TOk.nil .nil ⟨20, 3, oN16⟩
theorem eOf0_ok (r : Mem) {m : Nat} (h1 : 1 ≤ m) (hm16 : m ≤ 16) : EOk (SC r) 6 (eOf0 m (m_ws (nbN m (zE []) 0))) := fun args A hgd F hF k γ W args' hw hR ha => by
 refine ⟨fun hcc => ?_, fun h => nomatch h⟩
 have hs := @of_decide_eq_true _ (Classical.propDecidable _) hgd
 subst hs
 have := (ofN_ok h1 hm16).ends (args := [I (m : Nat), .slice none 0 0]) (γ := γ) (A := A) (ofV_row (by omega)) (ws_gnd _) hF hw (fun b j u h => nomatch h) (k := k) (args' := args') ?_ ha
 ·exact this
 ·rw [ha.eq_of_gnds rfl]
  exact VsRel.of_gnds noG _ rfl
theorem eTm1_ok (r : Mem) {a0 : List Value} (hro : roVs a0 = true) {m : Nat} {p : Nat × Nat} {l : List (Nat × Nat)} (h : SOk (SC r) 5 a0 emptyA fun v A => v = vTa m (p :: l) ∧ A = mkA (oL (p :: l))) : EOk (SC r) 5 (eTm1 a0 m (l.length + 1) (pcE (p :: l))) := fun args A hgd F hF k γ W args' hw hR ha => by
 refine ⟨fun hcc => ?_, fun h => nomatch h⟩
 have hs := @of_decide_eq_true _ (Classical.propDecidable _) hgd
 subst hs
 have hg : GrM Tryz.prog r 5 args (vTa m (p :: l)) (rowA (pcE (p :: l)) 51 2) := GrM.ofS (C := SC r) rfl rfl h
 have hof : ofV 0 (vTa m (p :: l)) = true := by simp [vTa, vL, ofV, of1, gnd]
 exact hg.ends (γ := γ) (A := A) hof (pcE_gnd _) hF hw (hR.noG noG fun _ => rfl) (ha.of_ros hro) ha
theorem tm0_ok (r : Mem) {a0 : List Value} {m : Nat} (h : SOk (SC r) 5 a0 emptyA fun v A => v = vTa m [] ∧ A = mkA (oL [])) : GrT Tryz.prog r 5 a0 (.tuple ⟨[I (m : Nat), .slice none 0 0]⟩) :=
 GrT.ofS (C := SC r) rfl rfl rfl fun F hF k γ W args' hw hR ha => (h F hF k γ W args' hw hR ha).mono fun e W' ⟨u, B, ⟨h, _⟩, he⟩ => ⟨u, B, h, he⟩

theorem gE_len (n most : Int) (len : Nat) (z : Nat → Int) (h1 : 1 ≤ most) (h2 : most ≤ 16) : (gE n most len z).length ≤ 1000000 := by
 have hg := (gM_ok n h1 h2).2.2
 unfold gE
 have := alE_len (fun k => (tmN (gM n most) z (min 60 len)).getD k 0) (gM n most) (gM n most)
 have : gM n most * gM n most ≤ 16 * 16 := Nat.mul_le_mul hg hg
 omega


end Go.Proofs

/- The program's words of neighbours are the reference's. -/
set_option linter.unusedVariables false
set_option linter.unusedSimpArgs false
namespace Go.Proofs
open Go Go.Ev Go.Num

theorem addB_nat (ws : List Nat) (i b : Nat) (hw : ∀ w ∈ ws, w < 65536) (hb : b < 16) : addB (ws.map fun (w : Nat) => (w : Int)) i (bit b) = (orN ws i b).map fun (w : Nat) => (w : Int) := by
 have e : (ws.map fun (w : Nat) => (w : Int)).getD i 0 = ((ws.getD i 0 : Nat) : Int) := by
  rw [List.getD_eq_getElem?_getD, List.getD_eq_getElem?_getD, List.getElem?_map]
  cases ws[i]? <;> rfl
 have e2 : bit b = ((2 ^ b : Nat) : Int) := by unfold bit; simp
 unfold addB orN orB
 rw [e, e2, or_nat (.inl rfl) (getD_lt hw i) (bit16 hb), List.map_set]

theorem nbz_nat (z : Nat → Int) {n : Int} (hn : n ≤ 16) : ∀ k, (∀ i, i < k → 0 ≤ ea z i ∧ ea z i < eb z i ∧ eb z i < n) → nbz z k = (nbN 16 z k).map fun (w : Nat) => (w : Int)
 | 0, _ => by simp [nbz, nbN]
 | k + 1, h => by
  obtain ⟨b1, b2, b3⟩ := h k (by omega)
  have hw := nbN_lt 16 z hn k fun i hi => h i (by omega)
  rw [nbz, nbN, nbz_nat z hn k fun i hi => h i (by omega), jnZ, jnN, addB_nat _ _ _ hw (by omega), addB_nat _ _ _ (orN_lt hw _ (by omega)) (by omega)]

theorem orN_take (ws : List Nat) (m i b : Nat) (hi : i < m) : (orN ws i b).take m = orN (ws.take m) i b := by
 unfold orN
 rw [List.take_set]
 congr 2
 rw [List.getD_eq_getElem?_getD, List.getD_eq_getElem?_getD, List.getElem?_take_of_lt hi]
theorem nbN_take (z : Nat → Int) {m : Nat} (hm : m ≤ 16) : ∀ k, (∀ i, i < k → 0 ≤ ea z i ∧ ea z i < eb z i ∧ eb z i < m) → (nbN 16 z k).take m = nbN m z k
 | 0, _ => by simp only [nbN, List.take_replicate]; congr 1; omega
 | k + 1, h => by
  obtain ⟨b1, b2, b3⟩ := h k (by omega)
  rw [nbN, nbN, jnN, jnN, orN_take _ _ _ _ (by omega), orN_take _ _ _ _ (by omega), nbN_take z hm k fun i hi => h i (by omega)]

end Go.Proofs

/- What the laws of part share. -/
namespace Go.Num
open Go.Proofs

theorem nb_irr {M m : Nat} (hmM : m ≤ M) (z : Nat → Int) : ∀ k, (∀ i, i < k → 0 ≤ ea z i ∧ ea z i < eb z i ∧ eb z i < m) → ∀ i, ((nbN M z k).getD i 0).testBit i = false
 | 0, _, i => by
  rw [nbN, List.getD_eq_getElem?_getD, List.getElem?_replicate]
  split <;> simp
 | k + 1, h, i => by
  obtain ⟨b1, b2, b3⟩ := h k (by omega)
  have ih := nb_irr hmM z k (fun i hi => h i (by omega)) i
  have hl : (nbN M z k).length = M := nbN_len M z k
  have hb := jn_bit (ws := nbN M z k) (a := (ea z k).toNat) (b := (eb z k).toNat) (by omega) (by omega)
  rw [nbN, hb, ih, Bool.false_or, Bool.or_eq_false_iff, decide_eq_false_iff_not, decide_eq_false_iff_not]
  omega

end Go.Num
namespace Go.Proofs
open Go Go.Ev Go.Num
set_option linter.unusedVariables false
set_option linter.unusedSimpArgs false
set_option maxRecDepth 100000


theorem rdN (r : Mem) (n : Int) : (lvlT (SC r) (fun _ => none) .nil 1 3).call 23 [I n, .slice none 0 0] emptyA fin =
    bif decide (n < 1) then .ret (.tuple ⟨[.agg ⟨[I (Int.ofNat 0), U (Int.ofNat 0), U (Int.ofNat 0), U (Int.ofNat 0), U (Int.ofNat 0), U (Int.ofNat 0), U (Int.ofNat 0), U (Int.ofNat 0), U (Int.ofNat 0), U (Int.ofNat 0), U (Int.ofNat 0), U (Int.ofNat 0), U (Int.ofNat 0), U (Int.ofNat 0), U (Int.ofNat 0), U (Int.ofNat 0), U (Int.ofNat 0)]⟩, I (Int.ofNat 1)]⟩) (AW.mk 0 .nil .nil) else bif decide (n > 16) then .ret (.tuple ⟨[.agg ⟨[I (Int.ofNat 0), U (Int.ofNat 0), U (Int.ofNat 0), U (Int.ofNat 0), U (Int.ofNat 0), U (Int.ofNat 0), U (Int.ofNat 0), U (Int.ofNat 0), U (Int.ofNat 0), U (Int.ofNat 0), U (Int.ofNat 0), U (Int.ofNat 0), U (Int.ofNat 0), U (Int.ofNat 0), U (Int.ofNat 0), U (Int.ofNat 0), U (Int.ofNat 0)]⟩, I (Int.ofNat 1)]⟩) (AW.mk 0 .nil .nil) else .ret (.tuple ⟨[.agg ⟨[I n, U (Int.ofNat 0), U (Int.ofNat 0), U (Int.ofNat 0), U (Int.ofNat 0), U (Int.ofNat 0), U (Int.ofNat 0), U (Int.ofNat 0), U (Int.ofNat 0), U (Int.ofNat 0), U (Int.ofNat 0), U (Int.ofNat 0), U (Int.ofNat 0), U (Int.ofNat 0), U (Int.ofNat 0), U (Int.ofNat 0), U (Int.ofNat 0)]⟩, I (Int.ofNat 0)]⟩) (AW.mk 0 .nil .nil) := by kernel_rfl

theorem iInc {a : Nat} (h : a < 1000000) : IntKind.wrap IntKind.i64 (((a : Nat) : Int) + Int.ofNat 1) = ((a + 1 : Nat) : Int) := by rw [wrI (by simp; omega)]; simp
theorem bitT {x k : Nat} (hk : k ≤ 16) : (Int.tmod (Int.fdiv ((x : Nat) : Int) (Int.ofNat 2 ^ min k 64)) (Int.ofNat 2) == Int.ofNat 1) = btN x k := by
 rw [shr_nat x k (by omega)]
 unfold btN
 have : ∀ x : Nat, Int.tmod (x : Int) (Int.ofNat 2) = ((x % 2 : Nat) : Int) := fun x => by
  show Int.tmod (x : Int) 2 = _
  rw [Int.tmod_eq_emod_of_nonneg (by omega)]
  omega
 rw [this]
 rcases Nat.mod_two_eq_zero_or_one (x / 2 ^ k) with h | h <;> rw [h] <;> rfl
noncomputable def eOwn (a0 : List Value) (m : Nat) (c : List Value) : Ent := ⟨fun args _ => m_same args a0, fun _ _ => true, fun _ A => .slice (some ⟨A.next, 0, none⟩) m unk, fun _ A => A.new (.cells c 51 A.next 2), fun _ _ => undef, fun _ A => A⟩
def oV (x : Int) (i : Nat) : Option AObj := some (.cells [U x] 52 i 0)
abbrev fEc (i : Nat) : Value := .func (.func 53) ⟨[]⟩ ⟨[P0 i]⟩
theorem ei (k : IntKind) (z : Int) : m_eqv (.int k z) (.int k z) = true := by simp [m_eqv, veq]
theorem ebv (b : Bool) : m_eqv (.bool b) (.bool b) = true := by simp [m_eqv, veq]
theorem n1 (x : Int) : m_nns [I x] = true := rfl
theorem nU (x : Int) : m_nns [U x] = true := rfl
theorem shl1 {b : Nat} (h : b < 16) : IntKind.wrap IntKind.u64 (Int.ofNat 1 * Int.ofNat 2 ^ min b 64) = ((2 ^ b : Nat) : Int) := by
 have h1 : 2 ^ b < 65536 := Nat.pow_lt_pow_right (n := 16) (by decide) h
 rw [Nat.min_eq_left (by omega), wrU, show (Int.ofNat 1 * Int.ofNat 2 ^ b : Int) = ((2 ^ b : Nat) : Int) by simp]
 generalize 2 ^ b = x at *
 omega
theorem uAn {a b : Nat} (ha : a < 18446744073709551616) (hb : b < 18446744073709551616) : ibits .andNot .u64 ((a : Nat) : Int) ((b : Nat) : Int) = ((anN a b : Nat) : Int) := (uO ha hb).2.2

theorem eOwn_ok (r : Mem) {g : List Value} (hg : gnd (.agg ⟨g⟩) = true) {p : Nat × Nat} {l : List (Nat × Nat)} (h : SOk (SC r) 25 [.agg ⟨g⟩] emptyA fun v A => v = vL (p :: l) ∧ A = mkA (oL (p :: l))) : EOk (SC r) 25 (eOwn [.agg ⟨g⟩] (l.length + 1) (pcE (p :: l))) := fun args A hgd F hF k γ W args' hw hR ha => by
 refine ⟨fun _ => ?_, fun h => nomatch h⟩
 have hs := @of_decide_eq_true _ (Classical.propDecidable _) hgd
 subst hs
 have hgm : GrM Tryz.prog r 25 [.agg ⟨g⟩] (vL (p :: l)) (rowA (pcE (p :: l)) 51 2) := GrM.ofS (C := SC r) rfl rfl h
 have hof : ofV 0 (vL (p :: l)) = true := by simp [vL, ofV, of1, gnd]
 exact hgm.ends (γ := γ) (A := A) hof (pcE_gnd _) hF hw (hR.noG noG fun _ => rfl) (ha.of_ros (by
  show roVs [.agg ⟨g⟩] = true
  simp only [roVs, roV, hg, Bool.or_true, Bool.true_or, Bool.and_self])) ha

def wS (E : List (Nat × Nat)) (i : Nat) : Nat := (nbN 16 (zE E) E.length).getD i 0
theorem m_gC (n : Int) {zs : List Int} (h : zs.length = 16) : m_g n zs = gC n fun i => zs.getD i 0 := by
 obtain ⟨z0, z1, z2, z3, z4, z5, z6, z7, z8, z9, z10, z11, z12, z13, z14, z15, rfl⟩ := list16 h
 rfl
theorem getD_map (ws : List Nat) (i : Nat) : (ws.map fun (w : Nat) => (w : Int)).getD i 0 = ((ws.getD i 0 : Nat) : Int) := by
 rw [List.getD_eq_getElem?_getD, List.getD_eq_getElem?_getD, List.getElem?_map]
 cases ws[i]? <;> rfl
theorem rdg_gC {m : Nat} (h1 : 1 ≤ m) (hm16 : m ≤ 16) {E : List (Nat × Nat)} (hE : okAll (m : Int) (zE E) E.length = true) : ckG (m : Int) (zE E) E.length = 0 ∧ m_rdg (m : Int) (zE E) E.length = gC (m : Nat) fun i => (wS E i : Nat) := by
 have hck : ckG (m : Int) (zE E) E.length = 0 := by unfold ckG; rw [if_neg (by omega), if_pos hE]
 refine ⟨hck, ?_⟩
 unfold m_rdg
 rw [if_pos hck, m_gC _ (nbz_len _ _), nbz_nat (zE E) (n := (m : Int)) (by omega) E.length fun i hi => okAll_at hE i hi]
 simp only [getD_map]
 rfl
theorem wS_lt {m : Nat} (hm16 : m ≤ 16) {E : List (Nat × Nat)} (hE : okAll (m : Int) (zE E) E.length = true) (i : Nat) : wS E i < 65536 := getD_lt (nbN_lt 16 (zE E) (n := (m : Int)) (by omega) E.length fun i hi => okAll_at hE i hi) i
def wR (m : Nat) (E : List (Nat × Nat)) (i : Nat) : Nat := (nbN m (zE E) E.length).getD i 0
theorem wR_eq {m : Nat} (hm16 : m ≤ 16) {E : List (Nat × Nat)} (hE : okAll (m : Int) (zE E) E.length = true) (i : Nat) (hi : i < m) : wS E i = wR m E i := nb_ext hm16 (zE E) E.length (fun i hi => okAll_at hE i hi) i hi

end Go.Proofs

/- The least bit of a word: what the call answers. -/
namespace Go.Num
open Go Go.Proofs Go.Ev

def tzI (t : Nat) : Int := Int.fdiv (m_mulU ((2 ^ t : Nat) : Int) (Int.ofNat 285870213051353865)) (Int.ofNat 288230376151711744)
def tzC (t : Nat) : Bool := decide (0 ≤ tzI t) && (Nat.blt (tzI t).toNat 64 && match tabM 1 (Nat.add 0 (Nat.mul (tzI t).toNat 1)) with
 | some (.int .u8 z) => decide (z = (t : Int))
 | _ => false)
theorem tzC_all : ∀ t : Fin 16, tzC t.val = true := by decide +kernel
theorem tz16 {s : Nat} (h : s < 65536) (h0 : s ≠ 0) : tzN 64 s < 16 := by
 obtain ⟨_, h2, _⟩ := tz_bit 64 s (by omega) h0
 rcases Nat.lt_or_ge (tzN 64 s) 16 with c | c
 ·exact c
 ·rw [high (m := 16) (by omega) c] at h2
  exact nomatch h2

end Go.Num
namespace Go.Proofs
open Go Go.Ev Go.Num
set_option linter.unusedVariables false
set_option linter.unusedSimpArgs false
set_option maxRecDepth 100000

theorem tz_ok (r : Mem) (hm : ∀ b j u, tabM b j = some u → r b j = some u) (s : Nat) (h0 : s ≠ 0) (h : s < 65536) : GrT Tryz.prog r 70 [U (s : Nat)] (I (tzN 64 s : Nat)) :=
 GrT.of (SC_ok r) TOk.nil .nil rfl ⟨2, 4, by
  rw [tzA]
  have c1 : ((s : Int) == Int.ofNat 0) = false := by simp; omega
  have e1 : IntKind.wrap IntKind.u64 (Int.ofNat 0 - (s : Int)) = ((2 ^ 64 - s : Nat) : Int) := by rw [wrU]; simp; omega
  have e2 : ibits BinOp.and IntKind.u64 (s : Int) ((2 ^ 64 - s : Nat) : Int) = ((s &&& (2 ^ 64 - s) : Nat) : Int) := (uO (by omega) (by omega)).2.1
  have ht := tz16 h h0
  have hc := tzC_all ⟨tzN 64 s, ht⟩
  rw [c1, cond_false, e1, e2, low_pow 64 s (by omega) h0]
  generalize tzN 64 s = t at ht hc
  unfold tzC at hc
  rw [Bool.and_eq_true, Bool.and_eq_true] at hc
  obtain ⟨d1, d2, d3⟩ := hc
  change decide (0 ≤ tzI t) = true at d1
  change (bif decide (0 ≤ tzI t) then bif Nat.blt (Int.toNat (tzI t)) 64 then Option.casesOn (r 1 (Nat.add 0 (Nat.mul (Int.toNat (tzI t)) 1))) (CR.fail 423) fun val => bif isI IntKind.u8 val then CR.ret (Value.int IntKind.i64 (IntKind.wrap IntKind.i64 (ofI val))) (AW.mk 0 Tr.nil Tr.nil) else CR.fail 420 else CR.fail 420 else CR.fail 420) = _
  rw [d1, cond_true, d2, cond_true]
  split at d3
  ·rename_i z hz
   rw [hm _ _ _ hz]
   have hz' : z = (t : Int) := of_decide_eq_true d3
   subst hz'
   show CR.ret (Value.int IntKind.i64 (IntKind.wrap IntKind.i64 (t : Int))) _ = _
   rw [wrI (by omega)]
   rfl
  ·exact nomatch d3⟩
theorem tEs_ok (r : Mem) (hm : ∀ b j u, tabM b j = some u → r b j = some u) : TOk (SC r) tEs := TOk.cons TOk.nil (eU1_ok fun a ha => by
 have h := of_decide_eq_true ha
 have := tz_ok r hm a.toNat (by omega) (by omega)
 rw [show ((a.toNat : Nat) : Int) = a by omega] at this
 exact this)

end Go.Proofs

/- A walk over the bits of a word, whatever is done in its rounds. -/
namespace Go.Proofs
open Go Go.Ev Go.Num
set_option linter.unusedVariables false
set_option linter.unusedSimpArgs false
set_option maxRecDepth 100000

noncomputable def cEs : Code := bodyOf S0 53
noncomputable def Es_0 : Code := (lc cEs)
noncomputable def Es_1 : Code := (lc (ic (ic (rc cEs))))
noncomputable def Es_2 : Code := (lc (ic (lc (rc (ic (ic (rc cEs)))))))
noncomputable def Es_3 : Code := (rc (ic (lc (rc (ic (ic (rc cEs)))))))
noncomputable def Es_4 : Code := (rc (rc (ic (ic (rc cEs)))))
theorem Es_eq : cEs = (.seq Es_0 (.block 0 (.loop (.seq Es_1 (.seq (.block 1 (.seq Es_2 Es_3)) Es_4))))) := by kernel_rfl
def lvEs : List Nat := [0, 3]
def tEb (l : Nat) (t : Int) : Tr Value := bT lvEs [some (fY l), some (U t)] .nil

theorem ebA (r : Mem) (l p : Nat) (A : AW) (fs : FnsC) (K : KS) (kx : Nat → KS) (kr : KS) : run (SC r) 11 16 1 Es_0 fs none K kx kr (sc0 11 [fY l, .pointer (some ⟨p, 0, none⟩)]) (tr0 11 [fY l, .pointer (some ⟨p, 0, none⟩)]) [] A =
    Option.casesOn (match Tr.get (AW.heap A) p with | some (.cells c elem fam sz) => c[0]? | x => none) (.fail 423) fun val => bif isI IntKind.u64 val then K [(4, U (ofI val))] (.node (.node (.node .nil (some (U (ofI val))) .nil) (some (.pointer (some ⟨p, 0, none⟩))) .nil) (some (.func (Fn.yield l) ⟨[]⟩ ⟨[]⟩)) .nil) [] A else .fail 420 := by kernel_rfl

theorem ebB (r : Mem) (l : Nat) (t : Int) (A : AW) (fs : FnsC) (K : KS) (kx : Nat → KS) (kr : KS) : run (SC r) 11 16 1 Es_1 fs none K kx kr [] (tEb l t) [] A =
    bif t != Int.ofNat 0 then K [(6, .bool true), (5, U t)] (.node (.node (.node .nil (some (U t)) .nil) none .nil) (some (.func (Fn.yield l) ⟨[]⟩ ⟨[]⟩)) .nil) [] A else kx 0 [(6, .bool false), (5, U t)] (.node (.node (.node .nil (some (U t)) .nil) none .nil) (some (.func (Fn.yield l) ⟨[]⟩ ⟨[]⟩)) .nil) [] A := by kernel_rfl

theorem ebC (r : Mem) (l : Nat) (t : Int) (A : AW) (K : KS) : preK (SC r) 11 16 Es_2 3 (lvlT (SC r) tEs .nil 1 2) K [] (tEb l t) [] A =
    bif m_twG t then K [(13, I (m_tw t)), (12, U t), (11, .func (Fn.yield l) ⟨[]⟩ ⟨[]⟩)] (.node (.node (.node .nil (some (U t)) .nil) none .nil) (some (.func (Fn.yield l) ⟨[]⟩ ⟨[]⟩)) .nil) [] A else .fail 420 := by kernel_rfl

theorem ebD (r : Mem) (l : Nat) (t u : Int) (v : Bool) (A : AW) (fs : FnsC) (K : KS) (kx : Nat → KS) (kr : KS) : tailK (SC r) 11 16 Es_2 3 fs (run (SC r) 11 16 1 Es_3 fs none (run (SC r) 11 16 1 Es_4 fs none K kx kr) (fun j => match Nat.beq j 1 with | true => run (SC r) 11 16 1 Es_4 fs none K kx kr | false => kx j) kr) (.bool v) [(13, I u), (12, U t), (11, fY l)] (tEb l t) [] A =
    bif v then K [(10, U (ibits BinOp.and IntKind.u64 t (IntKind.wrap .u64 (t - Int.ofNat 1)))), (9, U (IntKind.wrap .u64 (t - Int.ofNat 1))), (8, U t), (7, U t)] (.node (.node (.node .nil (some (U (ibits BinOp.and IntKind.u64 t (IntKind.wrap .u64 (t - Int.ofNat 1))))) .nil) none .nil) (some (.func (Fn.yield l) ⟨[]⟩ ⟨[]⟩)) .nil) [] A else kr [(15, .bool true), (14, .bool false), (13, I u), (12, U t), (11, .func (Fn.yield l) ⟨[]⟩ ⟨[]⟩)] (.node (.node (.node .nil (some (U t)) .nil) none .nil) (some (.func (Fn.yield l) ⟨[]⟩ ⟨[]⟩)) .nil) [] A := by kernel_rfl

end Go.Proofs

/- A walk over the bits of a word, whatever is done in its rounds: what the call leaves. -/
namespace Go.Proofs
open Go Go.Ev Go.Num
set_option linter.unusedVariables false
set_option linter.unusedSimpArgs false
set_option maxRecDepth 100000

theorem skipTo {J : Nat → OO → Prop} {s : Nat} (hskip : ∀ v os, v < 16 → s.testBit v = false → J v os → J (v + 1) os) {os : OO} : ∀ d v, J v os → (∀ i, v ≤ i → i < v + d → s.testBit i = false) → v + d ≤ 16 → J (v + d) os
 | 0, v, h, _, _ => h
 | d + 1, v, h, hb, hd => by
  rw [show v + (d + 1) = v + 1 + d by omega]
  exact skipTo hskip d (v + 1) (hskip v os (by omega) (hb v (Nat.le_refl _) (by omega)) h) (fun i h1 h2 => hb i (by omega) (by omega)) (by omega)

theorem each_iter (r : Mem) (hm : ∀ b j u, tabM b j = some u → r b j = some u) {l p : Nat} {fl : List Fl} {s : Nat} (hs : s < 65536) {J : Nat → OO → Prop} {E : OO → Prop} {os0 : OO}
  (hbox : ∃ e f z, (mkA os0).heap.get p = some (.cells [U (s : Nat)] e f z))
  (hskip : ∀ v os, v < 16 → s.testBit v = false → J v os → J (v + 1) os)
  (hY : ∀ v os, v < 16 → s.testBit v = true → J v os → YOk (SC r) l [I (v : Nat)] (mkA os) fun w A' => ∃ os', Cn (mkA os0).next fl A' os' ∧ ((w = .bool true ∧ J (v + 1) os') ∨ (w = .bool false ∧ E os')))
  (hE : ∀ os, J 16 os → E os) (h0 : J 0 os0) (hl : oldV (mkA os0) (fY l) = true) :
  SOk (SC r) 53 [fY l, P0 p] (mkA os0) fun v A' => ∃ os, A' = mkA os ∧ E os := by
 obtain ⟨be, bf, bz, hbox⟩ := hbox
 refine callG (SC_ok r) (by kernel_rfl) ((bodySC r _).trans Es_eq) (nt := 16) (by kernel_rfl) (rs := []) (by kernel_rfl) 11 rfl fun γ W F k hw hF hro hfr => ?_
 have ht := TOk.nil (C := SC r)
 have hte := tEs_ok r hm
 have old : ∀ t : Nat, ∀ v, some v ∈ [some (fY l), some (U (t : Nat))] → oldV (mkA os0) v = true := fun t v hv => by
  simp only [List.mem_cons, Option.some.injEq, List.not_mem_nil, or_false] at hv
  rcases hv with rfl | rfl
  ·exact hl
  ·rfl
 refine Go.Ev.Reach.seq (Go.Ev.Reach.mono (Go.Ev.Reach.segP (kn := asks fun st => ∃ sx T, st = ⟨⟨sx, T⟩, [], mkA os0⟩ ∧ lvEs.map T.get = [some (fY l), some (U (s : Nat))]) (kx := fun _ _ _ _ _ => .fail 0) (kr := fun _ _ _ _ => .fail 0) (SC_ok r) ht (tm := .nil) (L := 1) (L' := 1) (d := 1) hF hro ?_) fun ex st hq => ?_)
 ·have hn := ebA r l p (mkA os0)
  simp only [hbox, List.getElem?_cons_zero, show isI IntKind.u64 (U (s : Nat)) = true from rfl, show ofI (U (s : Nat)) = ((s : Nat) : Int) from rfl, cond_true] at hn
  exact (hn _ _ _ _).trans (qq_ok ⟨_, _, rfl, rfl⟩)
 ·cases ex with
  | normal =>
   obtain ⟨sx0, T0, e, hT⟩ : ∃ sx T, st = ⟨⟨sx, T⟩, [], mkA os0⟩ ∧ lvEs.map T.get = [some (fY l), some (U (s : Nat))] := qq_use hq
   subst e
   refine Go.Ev.Reach.block (Go.Ev.Reach.loop (I := fun j st => ∃ v os, j = 16 - v ∧ v ≤ 16 ∧ J v os ∧ Ren (SC r) 11 16 γ W st ⟨⟨[], tEb l (hiN s v : Nat)⟩, [], mkA os⟩) (fun j st ⟨v, os, hj, hv, hJ, hren⟩ => Go.Ev.Reach.pre hren ?_) (j := 16) ⟨0, os0, rfl, by decide, h0, by
    rw [hi_zero]
    exact Ren.world hw (lv := lvEs) (vs := [some (fY l), some (U (s : Nat))]) hT (old _) (RenA.refl _)⟩)
   have hhi : hiN s v < 65536 := Nat.lt_of_le_of_lt (hi_le s v) hs
   refine Go.Ev.Reach.seq (Go.Ev.Reach.mono (Go.Ev.Reach.segP (kn := asks fun st => hiN s v ≠ 0 ∧ ∃ sx, st = ⟨⟨sx, tEb l (hiN s v : Nat)⟩, [], mkA os⟩) (kx := fun i => match i with | 0 => asks fun st => hiN s v = 0 ∧ ∃ sx T, st = ⟨⟨sx, T⟩, [], mkA os⟩ | _ => fun _ _ _ _ => .fail 0) (kr := fun _ _ _ _ => .fail 0) (SC_ok r) ht (tm := .nil) (L := 1) (L' := 1) (d := 1) hF hro ?_) fun ex st hq => ?_)
   ·have hn := ebB r l (hiN s v : Nat) (mkA os)
    by_cases c : hiN s v = 0
    ·have ne : (((hiN s v : Nat) : Int) != Int.ofNat 0) = false := by simp [c]
     simp only [ne, cond_false] at hn
     exact (hn _ _ _ _).trans (qq_ok ⟨c, _, _, rfl⟩)
    ·have ne : (((hiN s v : Nat) : Int) != Int.ofNat 0) = true := by simp [c]
     simp only [ne, cond_true] at hn
     exact (hn _ _ _ _).trans (qq_ok ⟨c, _, rfl⟩)
   ·cases ex with
    | exit i =>
     cases i with
     | zero =>
      obtain ⟨c, sx, T, e⟩ : hiN s v = 0 ∧ ∃ sx T, st = ⟨⟨sx, T⟩, [], mkA os⟩ := qq_use hq
      subst e
      have hE' : E os := hE os (by
       have := skipTo hskip (16 - v) v hJ (fun i h1 _ => hi_none c h1) (by omega)
       rwa [show v + (16 - v) = 16 by omega] at this)
      exact ⟨.inl rfl, _, .tuple ⟨[]⟩, mkA os, Ren.world hw (lv := []) (vs := []) rfl (fun v hv => nomatch hv) (RenA.refl _), rfl, os, rfl, hE'⟩
     | succ i => cases hq
    | normal =>
     obtain ⟨c, sx, e⟩ : hiN s v ≠ 0 ∧ ∃ sx, st = ⟨⟨sx, tEb l (hiN s v : Nat)⟩, [], mkA os⟩ := qq_use hq
     subst e
     obtain ⟨n1, n2, n3, n4, n5⟩ := hi_next (b := 64) (s := s) (v := v) (by omega) c
     have ht16 := tz16 hhi c
     have e6 : m_tw ((hiN s v : Nat) : Int) = ((tzN 64 (hiN s v) : Nat) : Int) := by unfold m_tw; rw [Int.toNat_natCast]
     have hJt : J (tzN 64 (hiN s v)) os := by
      have := skipTo hskip (tzN 64 (hiN s v) - v) v hJ (fun i h1 h2 => n4 i h1 (by omega)) (by omega)
      rwa [show v + (tzN 64 (hiN s v) - v) = tzN 64 (hiN s v) by omega] at this
     have e7 : ibits .and .u64 ((hiN s v : Nat) : Int) (IntKind.wrap .u64 (((hiN s v : Nat) : Int) - Int.ofNat 1)) = ((hiN s (tzN 64 (hiN s v) + 1) : Nat) : Int) := by
      have : IntKind.wrap .u64 (((hiN s v : Nat) : Int) - Int.ofNat 1) = ((hiN s v - 1 : Nat) : Int) := by rw [wrU]; simp; omega
      rw [this, (uO (by omega) (by omega)).2.1, n5]
     generalize htz : tzN 64 (hiN s v) = t at *
     let Pn : St → Prop := fun st => ∃ sx A', st = ⟨⟨sx, tEb l (hiN s (t + 1) : Nat)⟩, [], A'⟩ ∧ ∃ os', Cn (mkA os0).next fl A' os' ∧ J (t + 1) os'
     let Pr : St → Prop := fun st => ∃ sx T A', st = ⟨⟨sx, T⟩, [], A'⟩ ∧ ∃ os', Cn (mkA os0).next fl A' os' ∧ E os'
     refine Go.Ev.Reach.mono (Go.Ev.Reach.first (kn := asks Pn) (kx := fun _ _ _ _ _ => .fail 0) (kr := asks Pr) (SC_ok r) hte (tm := .nil) (L := 1) (L' := 1) (d := 2) hF hro (.seq (.block (.seq .here))) (Go.Ev.Reach.yieldK (SC_ok r) hF hte (tm := .nil) (L := 1) (d := 2) 3 (s1 := [(13, I (t : Nat)), (12, U (hiN s v : Nat)), (11, fY l)]) (b1 := tEb l (hiN s v : Nat)) (ms1 := []) (A1 := mkA os) (A2 := mkA os) (i := l) (args := [I (t : Nat)]) ?_ (by kernel_rfl) (hY t os ht16 n3 hJt) fun w A' hS => ?_)) fun ex st' hq => ?_
     ·have hn := ebC r l (hiN s v : Nat) (mkA os)
      have c2 : m_twG ((hiN s v : Nat) : Int) = true := decide_eq_true ⟨by omega, by omega⟩
      simp only [c2, cond_true, e6] at hn
      exact (hn _).trans (qn_ok rfl)
     ·obtain ⟨os', hcn, hv⟩ := hS
      rcases hv with ⟨rfl, hJ'⟩ | ⟨rfl, hE'⟩
      ·have hn := ebD r l (hiN s v : Nat) (t : Nat) true A'
       simp only [cond_true, e7] at hn
       exact (hn _ _ _ _).trans (qq_ok ⟨_, _, rfl, os', hcn, hJ'⟩)
      ·have hn := ebD r l (hiN s v : Nat) (t : Nat) false A'
       simp only [cond_false] at hn
       exact (hn _ _ _ _).trans (qq_ok ⟨_, _, _, rfl, os', hcn, hE'⟩)
     ·cases ex with
      | normal =>
       obtain ⟨sx, A', e, os', hcn, hJ'⟩ : Pn st' := qq_use hq
       subst e
       exact ⟨16 - (t + 1), by omega, t + 1, os', rfl, by omega, hJ', Ren.world hw (lv := lvEs) (vs := [some (fY l), some (U (hiN s (t + 1) : Nat))]) rfl (old _) (hcn.ren hfr)⟩
      | ret =>
       obtain ⟨sx, T, A', e, os', hcn, hE'⟩ : Pr st' := qq_use hq
       subst e
       exact ⟨.inr rfl, _, .tuple ⟨[]⟩, mkA os', Ren.world hw (lv := []) (vs := []) rfl (fun v hv => nomatch hv) (hcn.ren hfr), rfl, os', rfl, hE'⟩
      | exit i => cases hq
      | _ => exact hq.elim
    | ret => cases hq
    | _ => exact hq.elim
  | exit i => cases hq
  | ret => cases hq
  | _ => exact hq.elim

end Go.Proofs

/- The splitters of a set, run. -/
namespace Go.Proofs
open Go Go.Ev Go.Num
set_option linter.unusedVariables false
set_option linter.unusedSimpArgs false
set_option maxRecDepth 100000

noncomputable def cSp : Code := bodyOf S0 40
noncomputable def Sp_0 : Code := (lc cSp)
noncomputable def Sp_1 : Code := (lc (rc cSp))
noncomputable def Sp_2 : Code := (lc (lc (rc (rc cSp))))
noncomputable def Sp_3 : Code := (ic (rc (lc (rc (rc cSp)))))
noncomputable def Sp_4 : Code := (rc (rc (rc cSp)))
noncomputable def k_s1 : Code := rgA Sp_3
noncomputable def k_s2 : Code := rgB Sp_3
theorem Sp_eq : cSp = (.seq Sp_0 (.seq Sp_1 (.seq (.seq Sp_2 (.block 0 (.rangeFunc (.tmp 12) #[13] k_s1 k_s2))) Sp_4))) := by kernel_rfl
noncomputable def Sp_b : Code := ic k_s2
theorem Sb_eq : k_s2 = .block 1 Sp_b := by kernel_rfl
def lvSp : List Nat := [2, 3, 5, 12]
def vSp : OV := [some (P0 0), some (P0 1), some (P0 2), some (fEc 3)]
def flSp : List Fl := [.g, .t, .t, .t]
def oSp (g : List Value) (s f a : Int) : OO := [oPg g 0, oV s 1, oV f 2, oV a 3]
noncomputable def rSp (st : LoopState) : AObj := .loop st none 12543 ⟨[], bT lvSp vSp .nil⟩ 32 #[13] k_s1 k_s2 4
noncomputable def oS6 (g : List Value) (s f a : Int) (st : LoopState) : OO := oSp g s f a ++ [some .defd, some (rSp st)]
def flS6 : List Fl := flSp ++ [.t, .l lvSp]
def lvSb : List Nat := [2, 3, 5, 6]

theorem spA (r : Mem) (n : Int) (w : Nat → Int) (s : Int) (K : OV → List Nat → OO → CR) (kx : Nat → KS) (kr : KS) : run (SC r) 12543 32 1 (.seq Sp_0 (.seq Sp_1 Sp_2)) (lvlT (SC r) (fun _ => none) .nil 1 3) none (rbK 0 lvSp flSp K) kx kr (sc0 12543 [.agg ⟨gC n w⟩, U s]) (tr0 12543 [.agg ⟨gC n w⟩, U s]) [] emptyA =
    bif !decide (n < 0) then bif m_eqv (U s) (U s) then bif m_eqv (U s) (U s) then bif m_eqv (.agg ⟨(gC n w)⟩) (.agg ⟨(gC n w)⟩) then K [some (P0 0), some (P0 1), some (P0 2), some (.func (Fn.func 53) ⟨[]⟩ ⟨[P0 3]⟩)] [] [some (.cells (gC n w) 55 0 0), some (.cells [U s] 52 1 0), some (.cells [U (Int.ofNat 0)] 52 2 0), some (.cells [U (ibits BinOp.andNot IntKind.u64 (IntKind.wrap .u64 (IntKind.wrap .u64 (Int.ofNat 1 * Int.ofNat 2 ^ min (Int.toNat n) 64) - Int.ofNat 1)) s)] 52 3 0)] else .fail 420 else .fail 420 else .fail 420 else .fail 420 := by kernel_rfl

theorem spB (r : Mem) (g : List Value) (s f a v : Int) (fs : FnsC) (K : OV → List Nat → OO → CR) (kx : Nat → KS) (kr : KS) : run (SC r) 12543 32 1 k_s1 fs (some 5) (begK 5 (rbK 6 lvSb flS6 K)) kx kr [] (bT (lvSp ++ [13]) (vSp ++ [some (I v)]) .nil) [] (mkA (oS6 g s f a .ready)) =
    bif m_nns g && (true && (true && (true && true))) then K [some (P0 0), some (P0 1), some (P0 2), some (I v)] [] [some (.cells g 55 0 0), some (.cells [U s] 52 1 0), some (.cells [U f] 52 2 0), some (.cells [U a] 52 3 0), some .defd, some (rSp LoopState.busy)] else .fail 420 := by kernel_rfl

theorem spC (r : Mem) (g : List Value) (s f a v : Int) (K : OV → List Nat → OO → CR) (kx : Nat → KS) (kr : KS) : run (SC r) 12543 32 1 Sp_b (lvlT (SC r) (fun _ => none) .nil 1 3) (some 5) (rbK 6 [] flS6 K) kx kr [] (bT lvSb [some (P0 0), some (P0 1), some (P0 2), some (I v)] .nil) [] (mkA (oS6 g s f a .busy)) =
    bif decide (0 ≤ v) then bif Nat.blt (Int.toNat v) 16 then Option.casesOn g[Nat.add 1 (Nat.mul (Int.toNat v) 1)]? (.fail 423) fun val => bif isI IntKind.u64 val then bif ibits BinOp.and IntKind.u64 (ofI val) s != Int.ofNat 0 then bif ibits BinOp.and IntKind.u64 (ofI val) s != s then bif !decide (v < 0) then bif m_eqv (U f) (U f) then bif m_eqv (U f) (U f) then bif m_nns g && (true && (true && (true && true))) then K [] [] [some (.cells g 55 0 0), some (.cells [U s] 52 1 0), some (.cells [U (ibits BinOp.or IntKind.u64 f (IntKind.wrap .u64 (Int.ofNat 1 * Int.ofNat 2 ^ min (Int.toNat v) 64)))] 52 2 0), some (.cells [U a] 52 3 0), some .defd, some (rSp LoopState.busy)] else .fail 420 else .fail 420 else .fail 420 else .fail 420 else bif m_nns g && (true && (true && (true && true))) then K [] [] [some (.cells g 55 0 0), some (.cells [U s] 52 1 0), some (.cells [U f] 52 2 0), some (.cells [U a] 52 3 0), some .defd, some (rSp LoopState.busy)] else .fail 420 else bif m_nns g && (true && (true && (true && true))) then K [] [] [some (.cells g 55 0 0), some (.cells [U s] 52 1 0), some (.cells [U f] 52 2 0), some (.cells [U a] 52 3 0), some .defd, some (rSp LoopState.busy)] else .fail 420 else .fail 420 else .fail 420 else .fail 420 := by kernel_rfl

theorem spT (r : Mem) (g : List Value) (s f a : Int) (K : OV → List Nat → OO → CR) (kx : Nat → KS) (kr : KS) : tailRK 5 ⟨[], bT lvSp vSp .nil⟩ [4] (rbK 0 [5] [.t] K) kx kr (mkA (oS6 g s f a .ready)) =
    K [some (P0 0)] [] [some (.cells [U f] 52 0 0)] := by kernel_rfl

theorem spZ (r : Mem) (f : Int) (fs : FnsC) (K KR : OV → List Nat → OO → CR) (kx : Nat → KS) : run (SC r) 12543 32 1 Sp_4 fs none (rbK 0 [4] [] K) kx (rbK 0 [4] [] KR) [] (bT [5] [some (P0 0)] .nil) [] (mkA [oV f 0]) =
    KR [some (U f)] [] [] := by kernel_rfl

end Go.Proofs

/- A graph's complement, run. -/
namespace Go.Proofs
open Go Go.Ev Go.Num
set_option linter.unusedVariables false
set_option linter.unusedSimpArgs false
set_option maxRecDepth 100000

noncomputable def cCm : Code := bodyOf S0 24
noncomputable def Cm_0 : Code := (lc cCm)
noncomputable def Cm_1 : Code := (lc (rc cCm))
noncomputable def Cm_2 : Code := (lc (lc (rc (rc cCm))))
noncomputable def Cm_3 : Code := (ic (ic (rc (lc (rc (rc cCm))))))
noncomputable def Cm_4 : Code := (rc (rc (rc cCm)))
theorem Cm_eq : cCm = (.seq Cm_0 (.seq Cm_1 (.seq (.seq Cm_2 (.block 0 (.loop Cm_3))) Cm_4))) := by kernel_rfl
def lvCm : List Nat := [1, 2, 3, 9, 10]
def vCm (n i : Int) : OV := [some (P0 0), some (P0 1), some (P0 2), some (I n), some (I i)]
def zG : List Value := gC 0 fun _ => 0
def oCm (n : Int) (w w' : Nat → Int) : OO := [oPg (gC n w) 0, oPg zG 1, oPg (gC n w') 2]

theorem cqA (r : Mem) (n : Int) (w : Nat → Int) (K : OV → List Nat → OO → CR) (kx : Nat → KS) (kr : KS) : run (SC r) 1567 28 1 (.seq Cm_0 (.seq Cm_1 Cm_2)) (lvlT (SC r) (fun _ => none) .nil 1 2) none (rbK 0 lvCm [.g, .g, .g] K) kx kr (sc0 1567 [.agg ⟨gC n w⟩]) (tr0 1567 [.agg ⟨gC n w⟩]) [] emptyA =
    K [some (P0 0), some (P0 1), some (P0 2), some (I n), some (I (Int.ofNat 0))] [] [some (.cells (gC n w) 55 0 0), some (.cells [I (Int.ofNat 0), U (Int.ofNat 0), U (Int.ofNat 0), U (Int.ofNat 0), U (Int.ofNat 0), U (Int.ofNat 0), U (Int.ofNat 0), U (Int.ofNat 0), U (Int.ofNat 0), U (Int.ofNat 0), U (Int.ofNat 0), U (Int.ofNat 0), U (Int.ofNat 0), U (Int.ofNat 0), U (Int.ofNat 0), U (Int.ofNat 0), U (Int.ofNat 0)] 55 1 0), some (.cells [I n, U (Int.ofNat 0), U (Int.ofNat 0), U (Int.ofNat 0), U (Int.ofNat 0), U (Int.ofNat 0), U (Int.ofNat 0), U (Int.ofNat 0), U (Int.ofNat 0), U (Int.ofNat 0), U (Int.ofNat 0), U (Int.ofNat 0), U (Int.ofNat 0), U (Int.ofNat 0), U (Int.ofNat 0), U (Int.ofNat 0), U (Int.ofNat 0)] 55 2 0)] := by kernel_rfl

theorem cqB (r : Mem) (n : Int) (w w' : Nat → Int) (i : Int) (K : OV → List Nat → OO → CR) (KX : Nat → OV → List Nat → OO → CR) (kr : KS) : run (SC r) 1567 28 1 Cm_3 (lvlT (SC r) (fun _ => none) .nil 1 3) none (rbK 0 lvCm [.g, .g, .g] K) (fun i => rbK 0 [2, 3] [.g, .g] (KX i)) kr [] (bT lvCm (vCm n i) .nil) [] (mkA (oCm n w w')) =
    bif decide (i < n) then bif !decide (n < 0) then bif decide (0 ≤ i) then bif Nat.blt (Int.toNat i) 16 then Option.casesOn (gC n w)[Nat.add 1 (Nat.mul (Int.toNat i) 1)]? (.fail 423) fun val => bif isI IntKind.u64 val then bif !decide (i < 0) then bif decide (0 ≤ i) then bif Nat.blt (Int.toNat i) 16 then bif Nat.blt (Nat.add 1 (Nat.mul (Int.toNat i) 1)) (List.length (gC n w')) then Option.casesOn (gC n w)[Nat.add 1 (Nat.mul (Int.toNat i) 1)]? (.fail 423) fun val_1 => bif isI IntKind.u64 val_1 then bif m_eqv (U (ofI val_1)) (U (ofI val)) then Option.casesOn (gC n w)[Nat.add 1 (Nat.mul (Int.toNat i) 1)]? (.fail 423) fun val_2 => bif isI IntKind.u64 val_2 then bif m_eqv (U (ofI val_2)) (U (ofI val)) then Option.casesOn (gC n w)[Nat.add 1 (Nat.mul (Int.toNat i) 1)]? (.fail 423) fun val_3 => bif isI IntKind.u64 val_3 then bif m_eqv (U (ofI val_3)) (U (ofI val)) then bif m_eqv (.agg ⟨(gC n w)⟩) (.agg ⟨(gC n w)⟩) then bif m_nns (gC n w) && (true && (m_nns (List.set (gC n w') (Nat.add 1 (Nat.mul (Int.toNat i) 1)) (U (ibits BinOp.andNot IntKind.u64 (ibits BinOp.andNot IntKind.u64 (IntKind.wrap .u64 (IntKind.wrap .u64 (Int.ofNat 1 * Int.ofNat 2 ^ min (Int.toNat n) 64) - Int.ofNat 1)) (ofI val)) (IntKind.wrap .u64 (Int.ofNat 1 * Int.ofNat 2 ^ min (Int.toNat i) 64))))) && true)) then K [some (P0 0), some (P0 1), some (P0 2), some (I n), some (I (IntKind.wrap .i64 (i + Int.ofNat 1)))] [] [some (.cells (gC n w) 55 0 0), some (.cells [I (Int.ofNat 0), U (Int.ofNat 0), U (Int.ofNat 0), U (Int.ofNat 0), U (Int.ofNat 0), U (Int.ofNat 0), U (Int.ofNat 0), U (Int.ofNat 0), U (Int.ofNat 0), U (Int.ofNat 0), U (Int.ofNat 0), U (Int.ofNat 0), U (Int.ofNat 0), U (Int.ofNat 0), U (Int.ofNat 0), U (Int.ofNat 0), U (Int.ofNat 0)] 55 1 0), some (.cells (List.set (gC n w') (Nat.add 1 (Nat.mul (Int.toNat i) 1)) (U (ibits BinOp.andNot IntKind.u64 (ibits BinOp.andNot IntKind.u64 (IntKind.wrap .u64 (IntKind.wrap .u64 (Int.ofNat 1 * Int.ofNat 2 ^ min (Int.toNat n) 64) - Int.ofNat 1)) (ofI val)) (IntKind.wrap .u64 (Int.ofNat 1 * Int.ofNat 2 ^ min (Int.toNat i) 64))))) 55 2 0)] else .fail 420 else .fail 420 else .fail 420 else .fail 420 else .fail 420 else .fail 420 else .fail 420 else .fail 420 else .fail 420 else .fail 420 else .fail 420 else .fail 420 else .fail 420 else .fail 420 else .fail 420 else .fail 420 else KX 0 [some (P0 0), some (P0 1)] [] [some (.cells [I (Int.ofNat 0), U (Int.ofNat 0), U (Int.ofNat 0), U (Int.ofNat 0), U (Int.ofNat 0), U (Int.ofNat 0), U (Int.ofNat 0), U (Int.ofNat 0), U (Int.ofNat 0), U (Int.ofNat 0), U (Int.ofNat 0), U (Int.ofNat 0), U (Int.ofNat 0), U (Int.ofNat 0), U (Int.ofNat 0), U (Int.ofNat 0), U (Int.ofNat 0)] 55 0 0), some (.cells (gC n w') 55 1 0)] := by kernel_rfl

theorem cqC (r : Mem) (n : Int) (w' : Nat → Int) (fs : FnsC) (K KR : OV → List Nat → OO → CR) (kx : Nat → KS) : run (SC r) 1567 28 1 Cm_4 fs none (rbK 0 [2] [.g] K) kx (rbK 0 [2] [.g] KR) [] (bT [2, 3] [some (P0 0), some (P0 1)] .nil) [] (mkA [oPg zG 0, oPg (gC n w') 1]) =
    KR [some (P0 0)] [] [some (.cells (gC n w') 55 0 0)] := by kernel_rfl

end Go.Proofs

/- A graph's complement: what the call answers. -/
namespace Go.Num
open Go.Proofs

def wcN (w : Nat → Nat) (n i : Nat) : Nat := anN (anN (2 ^ n - 1) (w i)) (2 ^ i)
def wcK (w : Nat → Nat) (n k i : Nat) : Nat := if i < k then wcN w n i else 0

end Go.Num
namespace Go.Proofs
open Go Go.Ev Go.Num
set_option linter.unusedVariables false
set_option linter.unusedSimpArgs false
set_option maxRecDepth 100000

theorem gC_set (n : Int) (w : Nat → Int) (x : Int) : ∀ i, i < 16 → (gC n w).set (Nat.add 1 (Nat.mul i 1)) (U x) = gC n fun j => if j = i then x else w j
 | 0, _ => rfl | 1, _ => rfl | 2, _ => rfl | 3, _ => rfl | 4, _ => rfl | 5, _ => rfl | 6, _ => rfl | 7, _ => rfl
 | 8, _ => rfl | 9, _ => rfl | 10, _ => rfl | 11, _ => rfl | 12, _ => rfl | 13, _ => rfl | 14, _ => rfl | 15, _ => rfl
 | i + 16, h => absurd h (by omega)
theorem gC_nns (n : Int) (w : Nat → Int) : m_nns (gC n w) = true := rfl
theorem gC_len (n : Int) (w : Nat → Int) : (gC n w).length = 17 := rfl
theorem gC_eqv (n : Int) (w : Nat → Int) : m_eqv (.agg ⟨gC n w⟩) (.agg ⟨gC n w⟩) = true := by simp [m_eqv, veq, veqs, gC]
theorem allU {n : Nat} (h : n ≤ 16) : IntKind.wrap .u64 (IntKind.wrap .u64 (Int.ofNat 1 * Int.ofNat 2 ^ min n 64) - Int.ofNat 1) = ((2 ^ n - 1 : Nat) : Int) := by
 have h1 : 2 ^ n ≤ 65536 := Nat.pow_le_pow_right (n := 2) (by decide) h
 have h2 := Nat.two_pow_pos n
 rw [Nat.min_eq_left (by omega), wrU, wrU, show (Int.ofNat 1 * Int.ofNat 2 ^ n : Int) = ((2 ^ n : Nat) : Int) by simp]
 generalize 2 ^ n = x at *
 simp
 omega
theorem all16 {n : Nat} (h : n ≤ 16) : 2 ^ n - 1 < 65536 := by
 have h1 : 2 ^ n ≤ 65536 := Nat.pow_le_pow_right (n := 2) (by decide) h
 omega

theorem compl_ok (r : Mem) {n : Nat} (hn : n ≤ 16) {w : Nat → Nat} (hw : ∀ i, w i < 65536) :
  GrT Tryz.prog r 24 [.agg ⟨gC (n : Nat) fun i => (w i : Nat)⟩] (.agg ⟨gC (n : Nat) fun i => (wcK w n n i : Nat)⟩) := by
 have hA := all16 hn
 refine GrT.ofS (C := SC r) rfl rfl rfl (callL (SC_ok r) (by kernel_rfl) ((bodySC r _).trans Cm_eq) (nt := 28) (by kernel_rfl) (rs := [.cell 2 55]) (by kernel_rfl) 1567 rfl (.step (.step .base)) TOk.nil (tm := .nil) (L := 1) (d := 2) lvCm [.g, .g, .g]
  (fun j vs ms os => ∃ k, k ≤ n ∧ j = n - k ∧ vs = vCm (n : Nat) (k : Nat) ∧ ms = [] ∧ os = oCm (n : Nat) (fun i => (w i : Nat)) fun i => (wcK w n k i : Nat))
  ⟨[2, 3], [.g, .g], fun vs ms os => vs = [some (P0 0), some (P0 1)] ∧ ms = [] ∧ os = [oPg zG 0, oPg (gC (n : Nat) fun i => (wcK w n n i : Nat)) 1]⟩
  ⟨[2], [.g], fun vs ms os => vs = [some (P0 0)] ∧ ms = [] ∧ os = [oPg (gC (n : Nat) fun i => (wcK w n n i : Nat)) 0]⟩ ?_ ?_ ?_ ?_)
 ·exact (cqA r (n : Nat) (fun i => (w i : Nat)) _ _ _).trans (qq_ok ⟨n, 0, Nat.zero_le _, rfl, rfl, rfl, rfl⟩)
 ·rintro j vs ms os ⟨k, hk, rfl, rfl, rfl, rfl⟩
  refine ⟨_, TOk.nil, .nil, 1, 1, 3, ?_⟩
  have hn' := cqB r (n : Nat) (fun i => (w i : Nat)) (fun i => (wcK w n k i : Nat)) k
  by_cases c : k < n
  ·have u1 := uAn (show 2 ^ n - 1 < 18446744073709551616 by omega) (show w k < 18446744073709551616 by have := hw k; omega)
   have h1 : anN (2 ^ n - 1) (w k) < 65536 := an_lt (k := 16) hA
   have h2 : 2 ^ k < 65536 := Nat.pow_lt_pow_right (n := 16) (by decide) (by omega)
   have u2 := uAn (show anN (2 ^ n - 1) (w k) < 18446744073709551616 by omega) (show 2 ^ k < 18446744073709551616 by omega)
   have hb : Nat.blt (Nat.add 1 (Nat.mul k 1)) 17 = true := Nat.ble_eq_true_of_le (by simp; omega)
   have hf : (fun j => if j = k then ((wcN w n k : Nat) : Int) else ((wcK w n k j : Nat) : Int)) = fun j => ((wcK w n (k + 1) j : Nat) : Int) := by
    funext j
    unfold wcK
    by_cases e : j = k
    ·subst e; rw [if_pos rfl, if_pos (by omega)]
    ·rw [if_neg e]
     by_cases e2 : j < k
     ·rw [if_pos e2, if_pos (by omega)]
     ·rw [if_neg e2, if_neg (by omega)]
   change ibits .andNot .u64 _ _ = ((wcN w n k : Nat) : Int) at u2
   simp only [dT (show (k : Int) < (n : Int) by omega), dF (show ¬ (n : Int) < 0 by omega), dF (show ¬ (k : Int) < 0 by omega), dT (show 0 ≤ (k : Int) by omega), show Nat.blt k 16 = true from Nat.ble_eq_true_of_le (by omega), Int.toNat_natCast, gC_get (n : Nat) (fun i => ((w i : Nat) : Int)) k (by omega), show ∀ x, isI IntKind.u64 (U x) = true from fun _ => rfl, show ∀ x, ofI (U x) = x from fun _ => rfl, gC_len, hb, ei, gC_eqv, allU hn, shl1 (show k < 16 by omega), u1, u2, gC_set _ _ _ k (show k < 16 by omega), hf, gC_nns, iInc (show k < 1000000 by omega), Bool.not_false, Bool.and_self, cond_true] at hn'
   exact (hn' _ _ _).trans (qq_ok ⟨n - (k + 1), by omega, k + 1, c, rfl, rfl, rfl, rfl⟩)
  ·obtain rfl : k = n := by omega
   simp only [dF (show ¬ (k : Int) < (k : Int) by omega), cond_false, show m_nns zG = true from rfl, gC_nns, Bool.and_self, cond_true] at hn'
   exact (hn' _ _ _).trans (qq_ok ⟨rfl, rfl, rfl⟩)
 ·rintro vs ms os ⟨rfl, rfl, rfl⟩
  exact ⟨_, TOk.nil, .nil, 1, 1, 1, (cqC r (n : Nat) (fun i => (wcK w n n i : Nat)) _ _ _ _).trans (qq_ok ⟨rfl, rfl, rfl⟩)⟩
 ·rintro vs ms os ⟨rfl, rfl, rfl⟩
  exact ⟨_, mkA [oPg (gC (n : Nat) fun i => (wcK w n n i : Nat)) 0], by kernel_rfl, rfl⟩

end Go.Proofs

/- The splitters of a set; modules: what the calls answer. -/
namespace Go.Num
open Go.Proofs

def sxC (w : Nat → Nat) (s v : Nat) : Bool := !(w v &&& s == 0) && !(w v &&& s == s)
def spN (w : Nat → Nat) (a s : Nat) : Nat → Nat
 | 0 => 0
 | v + 1 => spN w a s v ||| (if a.testBit v = true ∧ sxC w s v = true then 2 ^ v else 0)
theorem spN_lt (w : Nat → Nat) (a s : Nat) : ∀ k, k ≤ 16 → spN w a s k < 65536
 | 0, _ => by rw [spN]; decide
 | k + 1, h => by
  rw [spN]
  refine or16 (spN_lt w a s k (by omega)) ?_
  split
  ·exact Nat.pow_lt_pow_right (n := 16) (by decide) (by omega)
  ·decide

end Go.Num
namespace Go.Proofs
open Go Go.Ev Go.Num
set_option linter.unusedVariables false
set_option linter.unusedSimpArgs false
set_option maxRecDepth 100000

theorem oS6_cn {g : List Value} (hg : m_nns g = true) (s f a : Int) : Cn 6 flS6 (mkA (oS6 g s f a .ready)) (oS6 g s f a .ready) := ⟨by kernel_rfl, by
 have h : gdAs flS6 (oS6 g s f a .ready) = (m_nns g && (true && (true && (true && (true && (true && true)))))) := by kernel_rfl
 rw [h, hg]; rfl⟩
theorem oS6_end (g : List Value) (s f a : Int) : endR 5 none (St.of [] [] [] (oS6 g s f a .busy)) = .ret (.bool true) (mkA (oS6 g s f a .ready)) := by kernel_rfl

theorem y5 {r : Mem} {g : List Value} (hg : m_nns g = true) {w : Nat → Nat} (hw : ∀ i, w i < 65536) (hgr : ∀ i, i < 16 → g[Nat.add 1 (Nat.mul i 1)]? = some (U (w i : Nat))) {s f v : Nat} (hs : s < 65536) (hf : f < 65536) (hv : v < 16) (a : Int) {P E : OO → Prop} (hP : P (oS6 g (s : Nat) (f ||| (if sxC w s v = true then 2 ^ v else 0) : Nat) a .ready)) :
  YOk (SC r) 5 [I (v : Nat)] (mkA (oS6 g (s : Nat) (f : Nat) a .ready)) fun x A' => ∃ os', Cn 6 flS6 A' os' ∧ ((x = .bool true ∧ P os') ∨ (x = .bool false ∧ E os')) := by
 have hnx : (mkA (oS6 g (s : Nat) (f : Nat) a .ready)).next = 6 := by kernel_rfl
 have h2 : 2 ^ v < 65536 := Nat.pow_lt_pow_right (n := 16) (by decide) hv
 refine YOk.of (SC_ok r) (i := 5) (st := .ready) (pend := none) (m := 12543) (n := 32) (en := ⟨[], bT lvSp vSp .nil⟩) (params := #[13]) (assign := k_s1) (body := k_s2) (d := 4) (by kernel_rfl) (s0 := []) (b0 := bT (lvSp ++ [13]) (vSp ++ [some (I (v : Nat))]) .nil) (by kernel_rfl) TOk.nil (tm := .nil) (L := 1) (L' := 1) (d' := 3)
  ⟨lvSb, flS6, fun vs ms os => vs = [some (P0 0), some (P0 1), some (P0 2), some (I (v : Nat))] ∧ ms = [] ∧ os = oS6 g (s : Nat) (f : Nat) a .busy⟩
  ⟨[], flS6, fun vs ms os => vs = [] ∧ ms = [] ∧ os = oS6 g (s : Nat) (f ||| (if sxC w s v = true then 2 ^ v else 0) : Nat) a .busy⟩
  (fun _ => Outs.no) Outs.no ?_ ?_ ?_ ?_ ?_
 ·rw [hnx]
  have hn := spB r g (s : Nat) (f : Nat) a v
  simp only [hg, Bool.and_self, cond_true] at hn
  exact (hn _ _ _ _).trans (qq_ok ⟨rfl, rfl, rfl⟩)
 ·rintro F k γ W hF hro h0 vs ms os ⟨rfl, rfl, rfl⟩
  rw [hnx] at h0
  rw [Sb_eq]
  refine Go.Ev.Reach.blockC (Go.Ev.Reach.segR (SC_ok r) TOk.nil (tm := .nil) (L := 1) (L' := 1) (d := 3) hF hro h0 [] (fun p hp => nomatch hp) ?_)
  have hn := spC r g (s : Nat) (f : Nat) a v
  have e1 : ibits .and .u64 ((w v : Nat) : Int) ((s : Nat) : Int) = ((w v &&& s : Nat) : Int) := (uO (by have := hw v; omega) (by omega)).2.1
  have e2 : ibits .or .u64 ((f : Nat) : Int) ((2 ^ v : Nat) : Int) = ((f ||| 2 ^ v : Nat) : Int) := (uO (by omega) (by omega)).1
  have nn : ∀ x y : Nat, (((x : Nat) : Int) != ((y : Nat) : Int)) = !(x == y) := fun x y => by rw [Bool.eq_iff_iff]; simp; exact not_congr Int.ofNat_inj
  simp only [dF (show ¬ (v : Int) < 0 by omega), dT (show 0 ≤ (v : Int) by omega), show Nat.blt v 16 = true from Nat.ble_eq_true_of_le (by omega), Int.toNat_natCast, hgr v hv, show ∀ x, isI IntKind.u64 (U x) = true from fun _ => rfl, show ∀ x, ofI (U x) = x from fun _ => rfl, e1, ei, shl1 hv, e2, show (Int.ofNat 0 : Int) = ((0 : Nat) : Int) from rfl, nn, hg, Bool.not_false, Bool.and_self, cond_true] at hn
  cases c1 : (w v &&& s == 0) with
  | true =>
   simp only [c1, Bool.not_true, cond_false] at hn
   exact (hn _ _ _).trans (qq_ok ⟨rfl, rfl, by rw [if_neg (by unfold sxC; rw [c1]; simp), Nat.or_zero]; rfl⟩)
  | false =>
   cases c2 : (w v &&& s == s) with
   | true =>
    simp only [c1, c2, Bool.not_true, Bool.not_false, cond_true, cond_false] at hn
    exact (hn _ _ _).trans (qq_ok ⟨rfl, rfl, by rw [if_neg (by unfold sxC; rw [c1, c2]; simp), Nat.or_zero]; rfl⟩)
   | false =>
    simp only [c1, c2, Bool.not_false, cond_true] at hn
    exact (hn _ _ _).trans (qq_ok ⟨rfl, rfl, by rw [if_pos (by unfold sxC; rw [c1, c2]; rfl)]; rfl⟩)
 ·rintro vs ms os ⟨rfl, rfl, rfl⟩
  exact ⟨_, _, oS6_end _ _ _ _, _, oS6_cn hg _ _ _, .inl ⟨rfl, hP⟩⟩
 ·rintro id vs ms os hf
  exact hf.elim
 ·rintro vs ms os hf
  exact hf.elim

theorem split_ok (r : Mem) (hm : ∀ b j u, tabM b j = some u → r b j = some u) {n : Nat} (hn : n ≤ 16) {w : Nat → Nat} (hw : ∀ i, w i < 65536) {s : Nat} (hs : s < 65536) :
  GrT Tryz.prog r 40 [.agg ⟨gC (n : Nat) fun i => (w i : Nat)⟩, U (s : Nat)] (U (spN w (anN (2 ^ n - 1) s) s 16 : Nat)) := by
 have hA := all16 hn
 have ha : anN (2 ^ n - 1) s < 65536 := an_lt (k := 16) hA
 have u1 := uAn (show 2 ^ n - 1 < 18446744073709551616 by omega) (show s < 18446744073709551616 by omega)
 have hgr := gC_get (n : Nat) fun i => ((w i : Nat) : Int)
 have hgn := gC_nns (n : Nat) fun i => ((w i : Nat) : Int)
 refine GrT.ofS (C := SC r) rfl rfl rfl (callO (SC_ok r) (by kernel_rfl) ((bodySC r _).trans Sp_eq) (nt := 32) (by kernel_rfl) (rs := [.tmp 4]) (by kernel_rfl) 12543 rfl
  ⟨[4], [], fun vs ms os => vs = [some (U (spN w (anN (2 ^ n - 1) s) s 16 : Nat))] ∧ ms = [] ∧ os = []⟩ ?_ fun γ W F k hwr hF hro h0 => ?_)
 ·rintro vs ms os ⟨rfl, rfl, rfl⟩
  exact ⟨_, mkA [], by kernel_rfl, rfl⟩
 have h0 : ∀ i, 0 ≤ i → γ i = none := h0
 have hp := spA r (n : Nat) (fun i => ((w i : Nat) : Int)) (s : Nat)
 simp only [dF (show ¬ (n : Int) < 0 by omega), ei, gC_eqv, Int.toNat_natCast, allU hn, u1, Bool.not_false, cond_true] at hp
 generalize hgg : gC (n : Nat) (fun i => ((w i : Nat) : Int)) = g at *
 generalize anN (2 ^ n - 1) s = a at *
 refine Go.Ev.Reach.after3R (SC_ok r) TOk.nil (tm := .nil) (L := 1) (L' := 1) (d := 3) hF hro h0 (.step (.step .base))
  (o1 := ⟨lvSp, flSp, fun vs ms os => vs = vSp ∧ ms = [] ∧ os = oSp g (s : Nat) ((0 : Nat) : Int) (a : Nat)⟩)
  (o2 := ⟨[5], [.t], fun vs ms os => vs = [some (P0 0)] ∧ ms = [] ∧ os = [oV (spN w a s 16 : Nat) 0]⟩) [] (fun p hp => nomatch hp) ?_ ?_ ?_
 ·rintro vs ms os ⟨rfl, rfl, rfl⟩
  have hl : ((mkA (oSp g (s : Nat) ((0 : Nat) : Int) (a : Nat))).new .defd).next = 5 := by kernel_rfl
  refine Go.Ev.Reach.blockC (Go.Ev.Reach.rangeC (SC_ok r) hF hro h0 (d := 4) (marks := [4]) (A1 := (mkA (oSp g (s : Nat) ((0 : Nat) : Int) (a : Nat))).new .defd) (g := 53) (first := []) (captured := [P0 3]) (S := fun v A' => ∃ os, A' = mkA os ∧ os = oS6 g (s : Nat) (spN w a s 16 : Nat) (a : Nat) .ready) [] (fun p hp => nomatch hp) (by kernel_rfl) (by kernel_rfl) (by kernel_rfl) ?_ ?_)
  ·have hE : ((mkA (oSp g (s : Nat) ((0 : Nat) : Int) (a : Nat))).new .defd).new (.loop .ready none 12543 ⟨[], bT lvSp vSp .nil⟩ 32 #[13] k_s1 k_s2 4) = mkA (oS6 g (s : Nat) ((0 : Nat) : Int) (a : Nat) .ready) := by kernel_rfl
   show SOk _ _ _ (((mkA (oSp g (s : Nat) ((0 : Nat) : Int) (a : Nat))).new .defd).new (.loop .ready none 12543 ⟨[], bT lvSp vSp .nil⟩ 32 #[13] k_s1 k_s2 4)) _
   rw [hE, hl]
   have hnx : (mkA (oS6 g (s : Nat) ((0 : Nat) : Int) (a : Nat) .ready)).next = 6 := by kernel_rfl
   refine each_iter r hm (l := 5) (p := 3) (fl := flS6) (s := a) ha (J := fun v os => v ≤ 16 ∧ os = oS6 g (s : Nat) (spN w a s v : Nat) (a : Nat) .ready) (E := fun os => os = oS6 g (s : Nat) (spN w a s 16 : Nat) (a : Nat) .ready) (os0 := oS6 g (s : Nat) ((0 : Nat) : Int) (a : Nat) .ready)
    ⟨52, 3, 0, by kernel_rfl⟩ ?_ ?_ ?_ ⟨by decide, rfl⟩ (by kernel_rfl)
   ·rintro v os hv hbv ⟨_, h2⟩
    refine ⟨hv, ?_⟩
    rw [h2, spN, if_neg fun h => (Bool.noConfusion (hbv.symm.trans h.1)), Nat.or_zero]
   ·rintro v os hv hbv ⟨_, rfl⟩
    rw [hnx]
    refine y5 hgn hw hgr hs (spN_lt w a s v (by omega)) hv _ ⟨hv, ?_⟩
    rw [spN]
    congr 3
    by_cases c : sxC w s v = true
    ·rw [if_pos c, if_pos ⟨hbv, c⟩]
    ·rw [if_neg c, if_neg fun h => c h.2]
   ·rintro os ⟨_, h⟩
    exact h
  ·rintro v A' ⟨os, rfl, rfl⟩
   rw [hl]
   exact (spT r g (s : Nat) (spN w a s 16 : Nat) (a : Nat) _ _ _).trans (qq_ok ⟨rfl, rfl, rfl⟩)
 ·rintro vs ms os ⟨rfl, rfl, rfl⟩
  exact Go.Ev.Reach.segR (SC_ok r) TOk.nil (tm := .nil) (L := 1) (L' := 1) (d := 1) hF hro h0 [] (fun p hp => nomatch hp) ((spZ r _ _ _ _ _).trans (qq_ok ⟨rfl, rfl, rfl⟩))
 ·exact (hp _ _ _).trans (qq_ok ⟨rfl, rfl, rfl⟩)

end Go.Proofs

/- The reference's modules, complement, twins; rows compared: run. -/
namespace Go.Proofs
open Go Go.Ev Go.Num
set_option linter.unusedVariables false
set_option linter.unusedSimpArgs false
set_option maxRecDepth 100000

noncomputable def cRi : Code := bodyOf S0 15
noncomputable def Ri_0 : Code := (lc cRi)
noncomputable def Ri_1 : Code := (lc (lc (rc cRi)))
noncomputable def Ri_2 : Code := (ic (ic (rc (lc (rc cRi)))))
noncomputable def Ri_3 : Code := (rc (rc cRi))
theorem Ri_eq : cRi = (.seq Ri_0 (.seq (.seq Ri_1 (.block 0 (.loop Ri_2))) Ri_3)) := by kernel_rfl
def lvRi : List Nat := [0, 1, 5]

noncomputable def cPx : Code := bodyOf S0 9
noncomputable def Px_0 : Code := (lc cPx)
noncomputable def Px_1 : Code := (lc (rc cPx))
noncomputable def Px_2 : Code := (lc (lc (rc (rc cPx))))
noncomputable def Px_3 : Code := (ic (ic (rc (lc (rc (rc cPx))))))
noncomputable def Px_4 : Code := (rc (rc (rc cPx)))
theorem Px_eq : cPx = (.seq Px_0 (.seq Px_1 (.seq (.seq Px_2 (.block 0 (.loop Px_3))) Px_4))) := by kernel_rfl
def lvPq : List Nat := [0, 1, 5]

noncomputable def cIq : Code := bodyOf S0 18
noncomputable def Iq_0 : Code := (lc cIq)
noncomputable def Iq_1 : Code := (lc (rc cIq))
noncomputable def Iq_2 : Code := (lc (lc (rc (rc cIq))))
noncomputable def Iq_3 : Code := (ic (ic (rc (lc (rc (rc cIq))))))
noncomputable def Iq_4 : Code := (rc (rc (rc cIq)))
theorem Iq_eq : cIq = (.seq Iq_0 (.seq Iq_1 (.seq (.seq Iq_2 (.block 0 (.loop Iq_3))) Iq_4))) := by kernel_rfl

theorem riA (r : Mem) (b off len cap : Nat) (s : Int) (fs : FnsC) (K : OV → List Nat → OO → CR) (kx : Nat → KS) (kr : KS) : run (SC r) 51 38 1 (.seq Ri_0 Ri_1) fs none (rbK 0 lvRi [] K) kx kr (sc0 51 [RS b off len cap, I s]) (tr0 51 [RS b off len cap, I s]) [] emptyA =
    K [some (.slice (some ⟨b, off, some 0⟩) len cap), some (I s), some (I (Int.ofNat 0))] [] [] := by kernel_rfl

theorem riB (r : Mem) (b off len cap : Nat) (s i : Int) (fs : FnsC) (K : OV → List Nat → OO → CR) (KX : Nat → OV → List Nat → OO → CR) (KR : OV → List Nat → OO → CR) : run (SC r) 51 38 1 Ri_2 fs none (rbK 0 lvRi [] K) (fun i => rbK 0 [1] [] (KX i)) (rbK 0 [4] [] KR) [] (bT lvRi [some (RS b off len cap), some (I s), some (I i)] .nil) [] (mkA []) =
    bif decide (i < Int.ofNat len) then bif !decide (i < 0) then bif Int.tmod (Int.fdiv s (Int.ofNat 2 ^ min (Int.toNat i) 64)) (Int.ofNat 2) == Int.ofNat 0 then bif decide (0 ≤ i) then bif Nat.blt (Int.toNat i) len then Option.casesOn (r b (Nat.add off (Nat.mul (Int.toNat i) 1))) (.fail 423) fun val => bif isI IntKind.i64 val then bif ibits BinOp.and IntKind.i64 (ofI val) s != Int.ofNat 0 then bif decide (0 ≤ i) then bif Nat.blt (Int.toNat i) len then Option.casesOn (r b (Nat.add off (Nat.mul (Int.toNat i) 1))) (.fail 423) fun val => bif isI IntKind.i64 val then bif ibits BinOp.and IntKind.i64 (ofI val) s != s then KR [some (.bool false)] [] [] else K [some (.slice (some ⟨b, off, some 0⟩) len cap), some (I s), some (I (IntKind.wrap .i64 (i + Int.ofNat 1)))] [] [] else .fail 420 else .fail 420 else .fail 420 else K [some (.slice (some ⟨b, off, some 0⟩) len cap), some (I s), some (I (IntKind.wrap .i64 (i + Int.ofNat 1)))] [] [] else .fail 420 else .fail 420 else .fail 420 else K [some (.slice (some ⟨b, off, some 0⟩) len cap), some (I s), some (I (IntKind.wrap .i64 (i + Int.ofNat 1)))] [] [] else .fail 420 else KX 0 [some (I s)] [] [] := by kernel_rfl

theorem riC (r : Mem) (s : Int) (fs : FnsC) (K KR : OV → List Nat → OO → CR) (kx : Nat → KS) : run (SC r) 51 38 1 Ri_3 fs none (rbK 0 [4] [] K) kx (rbK 0 [4] [] KR) [] (bT [1] [some (I s)] .nil) [] (mkA []) =
    bif s != Int.ofNat 0 then KR [some (.bool true)] [] [] else KR [some (.bool false)] [] [] := by kernel_rfl

theorem raA (r : Mem) (b off len cap : Nat) : (lvlT (SC r) (fun _ => none) .nil 1 2).call 14 [RS b off len cap] emptyA fin =
    .ret (I (IntKind.wrap .i64 (IntKind.wrap .i64 (Int.ofNat 1 * Int.ofNat 2 ^ min (Int.toNat (Int.ofNat len)) 64) - Int.ofNat 1))) (AW.mk 0 .nil .nil) := by kernel_rfl

theorem pxA (r : Mem) (b off len cap b' off' len' cap' : Nat) (fs : FnsC) (K KR : OV → List Nat → OO → CR) (kx : Nat → KS) : run (SC r) 51 26 1 (.seq Px_0 (.seq Px_1 Px_2)) fs none (rbK 0 lvPq [] K) kx (rbK 0 [4] [] KR) (sc0 51 [RS2 b off len cap, RS2 b' off' len' cap']) (tr0 51 [RS2 b off len cap, RS2 b' off' len' cap']) [] emptyA =
    bif Int.ofNat len != Int.ofNat len' then KR [some (.bool false)] [] [] else K [some (.slice (some ⟨b, off, some 0⟩) len cap), some (.slice (some ⟨b', off', some 0⟩) len' cap'), some (I (Int.ofNat 0))] [] [] := by kernel_rfl

theorem pxB (r : Mem) (b off len cap b' off' len' cap' : Nat) (i : Int) (fs : FnsC) (K KR : OV → List Nat → OO → CR) (KX : Nat → OV → List Nat → OO → CR) : run (SC r) 51 26 1 Px_3 fs none (rbK 0 lvPq [] K) (fun i => rbK 0 [] [] (KX i)) (rbK 0 [4] [] KR) [] (bT lvPq [some (RS2 b off len cap), some (RS2 b' off' len' cap'), some (I i)] .nil) [] (mkA []) =
    bif decide (i < Int.ofNat len) then bif decide (0 ≤ i) then bif Nat.blt (Int.toNat i) len then Option.casesOn (r b (Nat.add off (Nat.mul (Int.toNat i) 2))) (.fail 423) fun val => bif isI IntKind.i64 val then Option.casesOn (r b (Nat.succ (Nat.add off (Nat.mul (Int.toNat i) 2)))) (.fail 423) fun val_1 => bif isI IntKind.i64 val_1 then bif decide (0 ≤ i) then bif Nat.blt (Int.toNat i) len' then Option.casesOn (r b' (Nat.add off' (Nat.mul (Int.toNat i) 2))) (.fail 423) fun val_2 => bif isI IntKind.i64 val_2 then Option.casesOn (r b' (Nat.succ (Nat.add off' (Nat.mul (Int.toNat i) 2)))) (.fail 423) fun val_3 => bif isI IntKind.i64 val_3 then bif !(ofI val == ofI val_2 && (ofI val_1 == ofI val_3 && true)) then KR [some (.bool false)] [] [] else K [some (.slice (some ⟨b, off, some 0⟩) len cap), some (.slice (some ⟨b', off', some 0⟩) len' cap'), some (I (IntKind.wrap .i64 (i + Int.ofNat 1)))] [] [] else .fail 420 else .fail 420 else .fail 420 else .fail 420 else .fail 420 else .fail 420 else .fail 420 else .fail 420 else KX 0 [] [] [] := by kernel_rfl

theorem pxC (r : Mem) (fs : FnsC) (K KR : OV → List Nat → OO → CR) (kx : Nat → KS) : run (SC r) 51 26 1 Px_4 fs none (rbK 0 [4] [] K) kx (rbK 0 [4] [] KR) [] (bT [] [] .nil) [] (mkA []) =
    KR [some (.bool true)] [] [] := by kernel_rfl

theorem pqNN (r : Mem) : (lvlT (SC r) (fun _ => none) .nil 1 1).call 9 [.slice none 0 0, .slice none 0 0] emptyA fin =
    .ret (.bool true) (AW.mk 0 .nil .nil) := by kernel_rfl

theorem pqNR (r : Mem) (b off len cap : Nat) : (lvlT (SC r) (fun _ => none) .nil 1 1).call 9 [.slice none 0 0, RS2 b off (len + 1) cap] emptyA fin =
    .ret (.bool false) (AW.mk 0 .nil .nil) := by kernel_rfl

theorem pqRN (r : Mem) (b off len cap : Nat) : (lvlT (SC r) (fun _ => none) .nil 1 1).call 9 [RS2 b off (len + 1) cap, .slice none 0 0] emptyA fin =
    .ret (.bool false) (AW.mk 0 .nil .nil) := by kernel_rfl

theorem inqA (r : Mem) (b off len cap b' off' len' cap' : Nat) (fs : FnsC) (K KR : OV → List Nat → OO → CR) (kx : Nat → KS) : run (SC r) 51 26 1 (.seq Iq_0 (.seq Iq_1 Iq_2)) fs none (rbK 0 lvPq [] K) kx (rbK 0 [4] [] KR) (sc0 51 [RS b off len cap, RS b' off' len' cap']) (tr0 51 [RS b off len cap, RS b' off' len' cap']) [] emptyA =
    bif Int.ofNat len != Int.ofNat len' then KR [some (.bool false)] [] [] else K [some (.slice (some ⟨b, off, some 0⟩) len cap), some (.slice (some ⟨b', off', some 0⟩) len' cap'), some (I (Int.ofNat 0))] [] [] := by kernel_rfl

theorem inqB (r : Mem) (b off len cap b' off' len' cap' : Nat) (i : Int) (fs : FnsC) (K KR : OV → List Nat → OO → CR) (KX : Nat → OV → List Nat → OO → CR) : run (SC r) 51 26 1 Iq_3 fs none (rbK 0 lvPq [] K) (fun i => rbK 0 [] [] (KX i)) (rbK 0 [4] [] KR) [] (bT lvPq [some (RS b off len cap), some (RS b' off' len' cap'), some (I i)] .nil) [] (mkA []) =
    bif decide (i < Int.ofNat len) then bif decide (0 ≤ i) then bif Nat.blt (Int.toNat i) len then Option.casesOn (r b (Nat.add off (Nat.mul (Int.toNat i) 1))) (.fail 423) fun val => bif isI IntKind.i64 val then bif decide (0 ≤ i) then bif Nat.blt (Int.toNat i) len' then Option.casesOn (r b' (Nat.add off' (Nat.mul (Int.toNat i) 1))) (.fail 423) fun val_1 => bif isI IntKind.i64 val_1 then bif ofI val != ofI val_1 then KR [some (.bool false)] [] [] else K [some (.slice (some ⟨b, off, some 0⟩) len cap), some (.slice (some ⟨b', off', some 0⟩) len' cap'), some (I (IntKind.wrap .i64 (i + Int.ofNat 1)))] [] [] else .fail 420 else .fail 420 else .fail 420 else .fail 420 else .fail 420 else .fail 420 else KX 0 [] [] [] := by kernel_rfl

theorem inqC (r : Mem) (fs : FnsC) (K KR : OV → List Nat → OO → CR) (kx : Nat → KS) : run (SC r) 51 26 1 Iq_4 fs none (rbK 0 [4] [] K) kx (rbK 0 [4] [] KR) [] (bT [] [] .nil) [] (mkA []) =
    KR [some (.bool true)] [] [] := by kernel_rfl

end Go.Proofs

/- The reference's modules, complement, twins: rows that grow; run. -/
namespace Go.Proofs
open Go Go.Ev Go.Num
set_option linter.unusedVariables false
set_option linter.unusedSimpArgs false
set_option maxRecDepth 100000

def m_w16 (s : Int) : Bool := decide (0 ≤ s ∧ s < 65536)
noncomputable def eRM (g : Value) (q : Int → Bool) : Ent := ent (fun args _ => match args with | [v, .int .i64 s] => m_same [v] [g] && m_w16 s | _ => false) (fun args _ => match args with | [_, .int .i64 s] => .bool (q s) | _ => undef)
noncomputable def tRx (g : Value) (a : Int) (q : Int → Bool) : Tbl := tcons 15 (eRM g q) (tcons 14 (entV [g] (I a)) fun _ => none)

noncomputable def cRx : Code := bodyOf S0 19
noncomputable def Rx_0 : Code := (lc cRx)
noncomputable def Rx_1 : Code := (lc (rc cRx))
noncomputable def Rx_2 : Code := (lc (lc (rc (rc cRx))))
noncomputable def Rx_3 : Code := (ic (ic (rc (lc (rc (rc cRx))))))
noncomputable def Rx_4 : Code := (rc (rc (rc cRx)))
theorem Rx_eq : cRx = (.seq Rx_0 (.seq Rx_1 (.seq (.seq Rx_2 (.block 0 (.loop Rx_3))) Rx_4))) := by kernel_rfl
def lvRx : List Nat := [0, 3, 4]

noncomputable def cRw : Code := bodyOf S0 11
noncomputable def Rw_0 : Code := (lc cRw)
noncomputable def Rw_1 : Code := (lc (rc cRw))
noncomputable def Rw_2 : Code := (lc (lc (rc (rc cRw))))
noncomputable def Rw_3 : Code := (ic (ic (rc (lc (rc (rc cRw))))))
noncomputable def Rw_4 : Code := (rc (rc (rc cRw)))
theorem Rw_eq : cRw = (.seq Rw_0 (.seq Rw_1 (.seq (.seq Rw_2 (.block 0 (.loop Rw_3))) Rw_4))) := by kernel_rfl

noncomputable def cRt : Code := bodyOf S0 12
noncomputable def Rt_0 : Code := (lc cRt)
noncomputable def Rt_1 : Code := (lc (rc cRt))
noncomputable def Rt_2 : Code := (lc (lc (rc (rc cRt))))
noncomputable def Rt_3 : Code := (lc (ic (ic (rc (lc (rc (rc cRt)))))))
noncomputable def Rt_4 : Code := (lc (ic (lc (rc (ic (ic (rc (lc (rc (rc cRt))))))))))
noncomputable def Rt_5 : Code := (ic (ic (rc (ic (lc (rc (ic (ic (rc (lc (rc (rc cRt))))))))))))
noncomputable def Rt_6 : Code := (rc (rc (ic (ic (rc (lc (rc (rc cRt))))))))
noncomputable def Rt_7 : Code := (rc (rc (rc cRt)))
theorem Rt_eq : cRt = (.seq Rt_0 (.seq Rt_1 (.seq (.seq Rt_2 (.block 0 (.loop (.seq Rt_3 (.seq (.block 1 (.seq Rt_4 (.block 2 (.loop Rt_5)))) Rt_6))))) Rt_7))) := by kernel_rfl
def lvRt : List Nat := [0, 3, 4]
def lvRu : List Nat := [0, 3, 4, 5]

theorem rxA (r : Mem) (b off len cap : Nat) (fs : FnsC) (K : OV → List Nat → OO → CR) (kx : Nat → KS) (kr : KS) : run (SC r) 29 19 1 (.seq Rx_0 (.seq Rx_1 Rx_2)) fs none (rbK 0 lvRx [] K) kx kr (sc0 29 [RS b off len cap]) (tr0 29 [RS b off len cap]) [] emptyA =
    K [some (.slice (some ⟨b, off, some 0⟩) len cap), some (.slice none 0 0), some (I (Int.ofNat 1))] [] [] := by kernel_rfl

theorem rxB1 (r : Mem) (b off len cap : Nat) (i a : Int) (q : Int → Bool) (K : OV → List Nat → OO → CR) (KX : Nat → OV → List Nat → OO → CR) (kr : KS) : run (SC r) 29 19 1 Rx_3 (lvlT (SC r) (tRx (RS b off len cap) a q) .nil 1 1) none (rbK 0 lvRx [] K) (fun i => rbK 0 [3] [] (KX i)) kr [] (bT lvRx [some (RS b off len cap), some (.slice none 0 0), some (I i)] .nil) [] (mkA []) =
    bif m_same [.slice (some ⟨b, off, some 0⟩) len cap] [.slice (some ⟨b, off, some 0⟩) len cap] then bif decide (i ≤ a) then bif m_same [.slice (some ⟨b, off, some 0⟩) len cap] [.slice (some ⟨b, off, some 0⟩) len cap] && m_w16 i then bif q i then K [some (.slice (some ⟨b, off, some 0⟩) len cap), some (.slice (some ⟨0, 0, none⟩) 1 unk), some (I (IntKind.wrap .i64 (i + Int.ofNat 1)))] [] [some (.cells [I i] 3 0 1)] else K [some (.slice (some ⟨b, off, some 0⟩) len cap), some (.slice none 0 0), some (I (IntKind.wrap .i64 (i + Int.ofNat 1)))] [] [] else .fail 420 else KX 0 [some (.slice none 0 0)] [] [] else .fail 420 := by kernel_rfl

theorem rxB2 (r : Mem) (b off len cap k : Nat) (i a : Int) (c : List Value) (q : Int → Bool) (K : OV → List Nat → OO → CR) (KX : Nat → OV → List Nat → OO → CR) (kr : KS) : run (SC r) 29 19 1 Rx_3 (lvlT (SC r) (tRx (RS b off len cap) a q) .nil 1 1) none (rbK 0 lvRx [] K) (fun i => rbK 0 [3] [] (KX i)) kr [] (bT lvRx [some (RS b off len cap), some (.slice (some ⟨0, 0, none⟩) k unk), some (I i)] .nil) [] (mkA [some (.cells c 3 0 1)]) =
    bif m_same [.slice (some ⟨b, off, some 0⟩) len cap] [.slice (some ⟨b, off, some 0⟩) len cap] then bif decide (i ≤ a) then bif m_same [.slice (some ⟨b, off, some 0⟩) len cap] [.slice (some ⟨b, off, some 0⟩) len cap] && m_w16 i then bif q i then bif Nat.ble (Nat.add k 1) 1000000 then Option.casesOn (takeAt c 0 (Nat.mul k 1)) (.fail 439) fun val => bif m_nns (val ++ [I i]) && true then K [some (.slice (some ⟨b, off, some 0⟩) len cap), some (.slice (some ⟨0, 0, none⟩) (Nat.add k 1) unk), some (I (IntKind.wrap .i64 (i + Int.ofNat 1)))] [] [some (.cells (val ++ [I i]) 3 0 1)] else .fail 420 else .fail 420 else bif m_nns c && true then K [some (.slice (some ⟨b, off, some 0⟩) len cap), some (.slice (some ⟨0, 0, none⟩) k unk), some (I (IntKind.wrap .i64 (i + Int.ofNat 1)))] [] [some (.cells c 3 0 1)] else .fail 420 else .fail 420 else bif m_nns c && true then KX 0 [some (.slice (some ⟨0, 0, none⟩) k unk)] [] [some (.cells c 3 0 1)] else .fail 420 else .fail 420 := by kernel_rfl

theorem rxC1 (r : Mem) (fs : FnsC) (K KR : OV → List Nat → OO → CR) (kx : Nat → KS) : run (SC r) 29 19 1 Rx_4 fs none (rbK 0 [2] [] K) kx (rbK 0 [2] [] KR) [] (bT [3] [some (.slice none 0 0)] .nil) [] (mkA []) =
    KR [some (.slice none 0 0)] [] [] := by kernel_rfl

theorem rxC2 (r : Mem) (k : Nat) (c : List Value) (fs : FnsC) (K KR : OV → List Nat → OO → CR) (kx : Nat → KS) : run (SC r) 29 19 1 Rx_4 fs none (rbK 0 [2] [] K) kx (rbK 0 [2] [] KR) [] (bT [3] [some (.slice (some ⟨0, 0, none⟩) k unk)] .nil) [] (mkA [some (.cells c 3 0 1)]) =
    bif m_nns c && true then KR [some (.slice (some ⟨0, 0, none⟩) k unk)] [] [some (.cells c 3 0 1)] else .fail 420 := by kernel_rfl

theorem rwA (r : Mem) (b off len cap : Nat) (fs : FnsC) (K : OV → List Nat → OO → CR) (kx : Nat → KS) (kr : KS) : run (SC r) 29 28 1 (.seq Rw_0 (.seq Rw_1 Rw_2)) fs none (rbK 0 lvRx [] K) kx kr (sc0 29 [RS b off len cap]) (tr0 29 [RS b off len cap]) [] emptyA =
    bif Nat.ble (Int.toNat (Int.ofNat len)) (Int.toNat (Int.ofNat len)) then bif Nat.ble (Int.toNat (Int.ofNat len)) 1000000 then bif m_nns (zerosL (Nat.mul (Int.toNat (Int.ofNat len)) 1) [I (Int.ofNat 0)]) && true then K [some (.slice (some ⟨b, off, some 0⟩) len cap), some (.slice (some ⟨0, 0, none⟩) (Int.toNat (Int.ofNat len)) (Int.toNat (Int.ofNat len))), some (I (Int.ofNat 0))] [] [some (.cells (zerosL (Nat.mul (Int.toNat (Int.ofNat len)) 1) [I (Int.ofNat 0)]) 3 0 1)] else .fail 420 else .fail 420 else .fail 420 := by kernel_rfl

theorem rwB (r : Mem) (b off len cap : Nat) (i a : Int) (c : List Value) (K : OV → List Nat → OO → CR) (KX : Nat → OV → List Nat → OO → CR) (kr : KS) : run (SC r) 29 28 1 Rw_3 (lvlT (SC r) (tcons 14 (entV [RS b off len cap] (I a)) fun _ => none) .nil 1 1) none (rbK 0 lvRx [] K) (fun i => rbK 0 [3] [] (KX i)) kr [] (bT lvRx [some (RS b off len cap), some (.slice (some ⟨0, 0, none⟩) len len), some (I i)] .nil) [] (mkA [some (.cells c 3 0 1)]) =
    bif decide (i < Int.ofNat len) then bif m_same [.slice (some ⟨b, off, some 0⟩) len cap] [.slice (some ⟨b, off, some 0⟩) len cap] then bif decide (0 ≤ i) then bif Nat.blt (Int.toNat i) len then Option.casesOn (r b (Nat.add off (Nat.mul (Int.toNat i) 1))) (.fail 423) fun val => bif isI IntKind.i64 val then bif !decide (i < 0) then bif decide (0 ≤ i) then bif Nat.blt (Int.toNat i) len then bif Nat.blt (Nat.add 0 (Nat.mul (Int.toNat i) 1)) (List.length c) then Option.casesOn (r b (Nat.add off (Nat.mul (Int.toNat i) 1))) (.fail 423) fun val_1 => bif isI IntKind.i64 val_1 then bif m_eqv (I (ofI val_1)) (I (ofI val)) then Option.casesOn (r b (Nat.add off (Nat.mul (Int.toNat i) 1))) (.fail 423) fun val_2 => bif isI IntKind.i64 val_2 then bif m_eqv (I (ofI val_2)) (I (ofI val)) then bif m_nns (List.set c (Nat.add 0 (Nat.mul (Int.toNat i) 1)) (I (ibits BinOp.andNot IntKind.i64 (ibits BinOp.andNot IntKind.i64 a (ofI val)) (IntKind.wrap .i64 (Int.ofNat 1 * Int.ofNat 2 ^ min (Int.toNat i) 64))))) && true then K [some (.slice (some ⟨b, off, some 0⟩) len cap), some (.slice (some ⟨0, 0, none⟩) len len), some (I (IntKind.wrap .i64 (i + Int.ofNat 1)))] [] [some (.cells (List.set c (Nat.add 0 (Nat.mul (Int.toNat i) 1)) (I (ibits BinOp.andNot IntKind.i64 (ibits BinOp.andNot IntKind.i64 a (ofI val)) (IntKind.wrap .i64 (Int.ofNat 1 * Int.ofNat 2 ^ min (Int.toNat i) 64))))) 3 0 1)] else .fail 420 else .fail 420 else .fail 420 else .fail 420 else .fail 420 else .fail 420 else .fail 420 else .fail 420 else .fail 420 else .fail 420 else .fail 420 else .fail 420 else .fail 420 else bif m_nns c && true then KX 0 [some (.slice (some ⟨0, 0, none⟩) len len)] [] [some (.cells c 3 0 1)] else .fail 420 := by kernel_rfl

theorem rwC (r : Mem) (len : Nat) (c : List Value) (fs : FnsC) (K KR : OV → List Nat → OO → CR) (kx : Nat → KS) : run (SC r) 29 28 1 Rw_4 fs none (rbK 0 [2] [] K) kx (rbK 0 [2] [] KR) [] (bT [3] [some (.slice (some ⟨0, 0, none⟩) len len)] .nil) [] (mkA [some (.cells c 3 0 1)]) =
    bif m_nns c && true then KR [some (.slice (some ⟨0, 0, none⟩) len len)] [] [some (.cells c 3 0 1)] else .fail 420 := by kernel_rfl

theorem rtA (r : Mem) (b off m cap : Nat) (fs : FnsC) (K : OV → List Nat → OO → CR) (kx : Nat → KS) (kr : KS) : run (SC r) 125 47 1 (.seq Rt_0 (.seq Rt_1 Rt_2)) fs none (rbK 0 lvRt [] K) kx kr (sc0 125 [RS b off m cap]) (tr0 125 [RS b off m cap]) [] emptyA =
    K [some (.slice (some ⟨b, off, some 0⟩) m cap), some (.slice none 0 0), some (I (Int.ofNat 0))] [] [] := by kernel_rfl

theorem rtB1 (r : Mem) (b off m cap : Nat) (i : Int) (fs : FnsC) (K : OV → List Nat → OO → CR) (KX : Nat → OV → List Nat → OO → CR) (kr : KS) : run (SC r) 125 47 1 Rt_3 fs none (rbK 0 lvRt [] K) (fun i => rbK 0 [3] [] (KX i)) kr [] (bT lvRt [some (RS b off m cap), some (.slice none 0 0), some (I i)] .nil) [] (mkA []) =
    bif decide (i < Int.ofNat m) then K [some (.slice (some ⟨b, off, some 0⟩) m cap), some (.slice none 0 0), some (I i)] [] [] else KX 0 [some (.slice none 0 0)] [] [] := by kernel_rfl

theorem rtB2 (r : Mem) (b off m cap k : Nat) (i : Int) (c : List Value) (fs : FnsC) (K : OV → List Nat → OO → CR) (KX : Nat → OV → List Nat → OO → CR) (kr : KS) : run (SC r) 125 47 1 Rt_3 fs none (rbK 0 lvRt [] K) (fun i => rbK 0 [3] [] (KX i)) kr [] (bT lvRt [some (RS b off m cap), some (.slice (some ⟨0, 0, none⟩) k unk), some (I i)] .nil) [] (mkA [some (.cells c 51 0 2)]) =
    bif decide (i < Int.ofNat m) then bif m_nns c && true then K [some (.slice (some ⟨b, off, some 0⟩) m cap), some (.slice (some ⟨0, 0, none⟩) k unk), some (I i)] [] [some (.cells c 51 0 2)] else .fail 420 else bif m_nns c && true then KX 0 [some (.slice (some ⟨0, 0, none⟩) k unk)] [] [some (.cells c 51 0 2)] else .fail 420 := by kernel_rfl

theorem rtC1 (r : Mem) (b off m cap : Nat) (i : Int) (fs : FnsC) (K : OV → List Nat → OO → CR) (kx : Nat → KS) (kr : KS) : run (SC r) 125 47 1 Rt_4 fs none (rbK 0 lvRu [] K) kx kr [] (bT lvRt [some (RS b off m cap), some (.slice none 0 0), some (I i)] .nil) [] (mkA []) =
    K [some (.slice (some ⟨b, off, some 0⟩) m cap), some (.slice none 0 0), some (I i), some (I (IntKind.wrap .i64 (i + Int.ofNat 1)))] [] [] := by kernel_rfl

theorem rtC2 (r : Mem) (b off m cap k : Nat) (i : Int) (c : List Value) (fs : FnsC) (K : OV → List Nat → OO → CR) (kx : Nat → KS) (kr : KS) : run (SC r) 125 47 1 Rt_4 fs none (rbK 0 lvRu [] K) kx kr [] (bT lvRt [some (RS b off m cap), some (.slice (some ⟨0, 0, none⟩) k unk), some (I i)] .nil) [] (mkA [some (.cells c 51 0 2)]) =
    bif m_nns c && true then K [some (.slice (some ⟨b, off, some 0⟩) m cap), some (.slice (some ⟨0, 0, none⟩) k unk), some (I i), some (I (IntKind.wrap .i64 (i + Int.ofNat 1)))] [] [some (.cells c 51 0 2)] else .fail 420 := by kernel_rfl

theorem rtD1 (r : Mem) (b off m cap : Nat) (i j : Int) (fs : FnsC) (K : OV → List Nat → OO → CR) (KX : Nat → OV → List Nat → OO → CR) (kr : KS) : run (SC r) 125 47 1 Rt_5 fs none (rbK 0 lvRu [] K) (fun i => rbK 0 lvRt [] (KX i)) kr [] (bT lvRu [some (RS b off m cap), some (.slice none 0 0), some (I i), some (I j)] .nil) [] (mkA []) =
    bif decide (j < Int.ofNat m) then bif !decide (i < 0) then bif !decide (j < 0) then bif decide (0 ≤ i) then bif Nat.blt (Int.toNat i) m then Option.casesOn (r b (Nat.add off (Nat.mul (Int.toNat i) 1))) (.fail 423) fun val => bif isI IntKind.i64 val then bif decide (0 ≤ j) then bif Nat.blt (Int.toNat j) m then Option.casesOn (r b (Nat.add off (Nat.mul (Int.toNat j) 1))) (.fail 423) fun val_1 => bif isI IntKind.i64 val_1 then bif ibits BinOp.and IntKind.i64 (ofI val) (IntKind.wrap .i64 (Int.ofNat (Nat.bitwise bne 18446744073709551615 (Int.toNat (ibits BinOp.or IntKind.i64 (IntKind.wrap .i64 (Int.ofNat 1 * Int.ofNat 2 ^ min (Int.toNat i) 64)) (IntKind.wrap .i64 (Int.ofNat 1 * Int.ofNat 2 ^ min (Int.toNat j) 64)) % Int.ofNat 18446744073709551616))))) == ibits BinOp.and IntKind.i64 (ofI val_1) (IntKind.wrap .i64 (Int.ofNat (Nat.bitwise bne 18446744073709551615 (Int.toNat (ibits BinOp.or IntKind.i64 (IntKind.wrap .i64 (Int.ofNat 1 * Int.ofNat 2 ^ min (Int.toNat i) 64)) (IntKind.wrap .i64 (Int.ofNat 1 * Int.ofNat 2 ^ min (Int.toNat j) 64)) % Int.ofNat 18446744073709551616))))) then K [some (.slice (some ⟨b, off, some 0⟩) m cap), some (.slice (some ⟨0, 0, none⟩) 1 unk), some (I i), some (I (IntKind.wrap .i64 (j + Int.ofNat 1)))] [] [some (.cells [I i, I j] 51 0 2)] else K [some (.slice (some ⟨b, off, some 0⟩) m cap), some (.slice none 0 0), some (I i), some (I (IntKind.wrap .i64 (j + Int.ofNat 1)))] [] [] else .fail 420 else .fail 420 else .fail 420 else .fail 420 else .fail 420 else .fail 420 else .fail 420 else .fail 420 else KX 2 [some (.slice (some ⟨b, off, some 0⟩) m cap), some (.slice none 0 0), some (I i)] [] [] := by kernel_rfl

theorem rtD2 (r : Mem) (b off m cap k : Nat) (i j : Int) (c : List Value) (fs : FnsC) (K : OV → List Nat → OO → CR) (KX : Nat → OV → List Nat → OO → CR) (kr : KS) : run (SC r) 125 47 1 Rt_5 fs none (rbK 0 lvRu [] K) (fun i => rbK 0 lvRt [] (KX i)) kr [] (bT lvRu [some (RS b off m cap), some (.slice (some ⟨0, 0, none⟩) k unk), some (I i), some (I j)] .nil) [] (mkA [some (.cells c 51 0 2)]) =
    bif decide (j < Int.ofNat m) then bif !decide (i < 0) then bif !decide (j < 0) then bif decide (0 ≤ i) then bif Nat.blt (Int.toNat i) m then Option.casesOn (r b (Nat.add off (Nat.mul (Int.toNat i) 1))) (.fail 423) fun val => bif isI IntKind.i64 val then bif decide (0 ≤ j) then bif Nat.blt (Int.toNat j) m then Option.casesOn (r b (Nat.add off (Nat.mul (Int.toNat j) 1))) (.fail 423) fun val_1 => bif isI IntKind.i64 val_1 then bif ibits BinOp.and IntKind.i64 (ofI val) (IntKind.wrap .i64 (Int.ofNat (Nat.bitwise bne 18446744073709551615 (Int.toNat (ibits BinOp.or IntKind.i64 (IntKind.wrap .i64 (Int.ofNat 1 * Int.ofNat 2 ^ min (Int.toNat i) 64)) (IntKind.wrap .i64 (Int.ofNat 1 * Int.ofNat 2 ^ min (Int.toNat j) 64)) % Int.ofNat 18446744073709551616))))) == ibits BinOp.and IntKind.i64 (ofI val_1) (IntKind.wrap .i64 (Int.ofNat (Nat.bitwise bne 18446744073709551615 (Int.toNat (ibits BinOp.or IntKind.i64 (IntKind.wrap .i64 (Int.ofNat 1 * Int.ofNat 2 ^ min (Int.toNat i) 64)) (IntKind.wrap .i64 (Int.ofNat 1 * Int.ofNat 2 ^ min (Int.toNat j) 64)) % Int.ofNat 18446744073709551616))))) then bif Nat.ble (Nat.add k 1) 1000000 then Option.casesOn (takeAt c 0 (Nat.mul k 2)) (.fail 439) fun val => bif m_nns (val ++ [I i, I j]) && true then K [some (.slice (some ⟨b, off, some 0⟩) m cap), some (.slice (some ⟨0, 0, none⟩) (Nat.add k 1) unk), some (I i), some (I (IntKind.wrap .i64 (j + Int.ofNat 1)))] [] [some (.cells (val ++ [I i, I j]) 51 0 2)] else .fail 420 else .fail 420 else bif m_nns c && true then K [some (.slice (some ⟨b, off, some 0⟩) m cap), some (.slice (some ⟨0, 0, none⟩) k unk), some (I i), some (I (IntKind.wrap .i64 (j + Int.ofNat 1)))] [] [some (.cells c 51 0 2)] else .fail 420 else .fail 420 else .fail 420 else .fail 420 else .fail 420 else .fail 420 else .fail 420 else .fail 420 else .fail 420 else bif m_nns c && true then KX 2 [some (.slice (some ⟨b, off, some 0⟩) m cap), some (.slice (some ⟨0, 0, none⟩) k unk), some (I i)] [] [some (.cells c 51 0 2)] else .fail 420 := by kernel_rfl

theorem rtE1 (r : Mem) (b off m cap : Nat) (i : Int) (fs : FnsC) (K : OV → List Nat → OO → CR) (kx : Nat → KS) (kr : KS) : run (SC r) 125 47 1 Rt_6 fs none (rbK 0 lvRt [] K) kx kr [] (bT lvRt [some (RS b off m cap), some (.slice none 0 0), some (I i)] .nil) [] (mkA []) =
    K [some (.slice (some ⟨b, off, some 0⟩) m cap), some (.slice none 0 0), some (I (IntKind.wrap .i64 (i + Int.ofNat 1)))] [] [] := by kernel_rfl

theorem rtE2 (r : Mem) (b off m cap k : Nat) (i : Int) (c : List Value) (fs : FnsC) (K : OV → List Nat → OO → CR) (kx : Nat → KS) (kr : KS) : run (SC r) 125 47 1 Rt_6 fs none (rbK 0 lvRt [] K) kx kr [] (bT lvRt [some (RS b off m cap), some (.slice (some ⟨0, 0, none⟩) k unk), some (I i)] .nil) [] (mkA [some (.cells c 51 0 2)]) =
    bif m_nns c && true then K [some (.slice (some ⟨b, off, some 0⟩) m cap), some (.slice (some ⟨0, 0, none⟩) k unk), some (I (IntKind.wrap .i64 (i + Int.ofNat 1)))] [] [some (.cells c 51 0 2)] else .fail 420 := by kernel_rfl

theorem rtF1 (r : Mem) (fs : FnsC) (K KR : OV → List Nat → OO → CR) (kx : Nat → KS) : run (SC r) 125 47 1 Rt_7 fs none (rbK 0 [2] [] K) kx (rbK 0 [2] [] KR) [] (bT [3] [some (.slice none 0 0)] .nil) [] (mkA []) =
    KR [some (.slice none 0 0)] [] [] := by kernel_rfl

theorem rtF2 (r : Mem) (k : Nat) (c : List Value) (fs : FnsC) (K KR : OV → List Nat → OO → CR) (kx : Nat → KS) : run (SC r) 125 47 1 Rt_7 fs none (rbK 0 [2] [] K) kx (rbK 0 [2] [] KR) [] (bT [3] [some (.slice (some ⟨0, 0, none⟩) k unk)] .nil) [] (mkA [some (.cells c 51 0 2)]) =
    bif m_nns c && true then KR [some (.slice (some ⟨0, 0, none⟩) k unk)] [] [some (.cells c 51 0 2)] else .fail 420 := by kernel_rfl

end Go.Proofs

/- Modules listed; the program's functions, run. -/
namespace Go.Proofs
open Go Go.Ev Go.Num
set_option linter.unusedVariables false
set_option linter.unusedSimpArgs false
set_option maxRecDepth 100000

noncomputable def tIm (n : Int) (w : Nat → Int) (s sp : Int) : Tbl := tcons 40 (entV [.agg ⟨gC n w⟩, U s] (U sp)) fun _ => none
noncomputable def eIm (c : List Value) (q : Int → Bool) : Ent := ent (fun args _ => match args with | [.agg ⟨l⟩, .int .u64 s] => m_same l c && m_w16 s | _ => false) (fun args _ => match args with | [_, .int .u64 s] => .bool (q s) | _ => undef)
noncomputable def tMo (c : List Value) (q : Int → Bool) : Tbl := tcons 27 (eIm c q) fun _ => none
noncomputable def cMo : Code := bodyOf S0 31
noncomputable def Mo_0 : Code := (lc cMo)
noncomputable def Mo_1 : Code := (lc (rc cMo))
noncomputable def Mo_2 : Code := (lc (lc (rc (rc cMo))))
noncomputable def Mo_3 : Code := (ic (ic (rc (lc (rc (rc cMo))))))
noncomputable def Mo_4 : Code := (rc (rc (rc cMo)))
theorem Mo_eq : cMo = (.seq Mo_0 (.seq Mo_1 (.seq (.seq Mo_2 (.block 0 (.loop Mo_3))) Mo_4))) := by kernel_rfl
def lvMo : List Nat := [1, 3, 4]
def oRv (c : List Value) (i : Nat) : Option AObj := some (.cells c 52 i 1)
noncomputable def cNu : Code := bodyOf S0 30
noncomputable def Nu_0 : Code := (lc cNu)
noncomputable def Nu_1 : Code := (lc (rc cNu))
noncomputable def Nu_2 : Code := (lc (lc (rc (rc cNu))))
noncomputable def Nu_3 : Code := (ic (ic (rc (lc (rc (rc cNu))))))
noncomputable def Nu_4 : Code := (rc (rc (rc cNu)))
theorem Nu_eq : cNu = (.seq Nu_0 (.seq Nu_1 (.seq (.seq Nu_2 (.block 0 (.loop Nu_3))) Nu_4))) := by kernel_rfl
def lvNu : List Nat := [3, 9, 10, 11]
noncomputable def eOwnV (a0 : List Value) (m : Nat) (c : List Value) : Ent := ⟨fun args _ => m_same args a0, fun _ _ => true, fun _ A => .slice (some ⟨A.next, 0, none⟩) m unk, fun _ A => A.new (.cells c 52 A.next 1), fun _ _ => undef, fun _ A => A⟩
noncomputable def eNu (k : Nat) (d g : List Value) : Ent := ⟨fun args A => match args with
  | [.slice (some ⟨i, k0, none⟩) l cap] => match A.heap.get i with
   | some (.cells c' _ _ _) => m_same [.slice (some ⟨0, k0, none⟩) l cap, .agg ⟨c'⟩] [.slice (some ⟨0, 0, none⟩) k unk, .agg ⟨d⟩]
   | _ => false
  | _ => false, fun _ _ => true, fun _ A => .slice (some ⟨A.next, 0, none⟩) k k, fun _ A => A.new (.cells g 3 A.next 1), fun _ _ => undef, fun _ A => A⟩
noncomputable def tRd (n : Int) (sl : Value) (w : Nat → Int) : Tbl := tcons 23 (entV [I n, sl] (.tuple ⟨[.agg ⟨gC n w⟩, I 0]⟩)) fun _ => none
noncomputable def tYm (n : Int) (sl : Value) (w : Nat → Int) (k : Nat) (d g : List Value) : Tbl := tcons 31 (eOwnV [.agg ⟨gC n w⟩] k d) (tcons 30 (eNu k d g) (tRd n sl w))
noncomputable def tYi (n : Int) (sl : Value) (w : Nat → Int) (q : Int → Bool) : Tbl := tcons 27 (eIm (gC n w) q) (tRd n sl w)
noncomputable def tYc1 (n : Int) (sl : Value) (w w' : Nat → Int) (k : Nat) (d : List Value) : Tbl := tcons 24 (entV [.agg ⟨gC n w⟩] (.agg ⟨gC n w'⟩)) (tcons 25 (eOwn [.agg ⟨gC n w'⟩] k d) (tRd n sl w))
noncomputable def tYc0 (n : Int) (sl : Value) (w w' : Nat → Int) : Tbl := tcons 24 (entV [.agg ⟨gC n w⟩] (.agg ⟨gC n w'⟩)) (tcons 25 (entV [.agg ⟨gC n w'⟩] (.slice none 0 0)) (tRd n sl w))

theorem imA (r : Mem) (n : Int) (w : Nat → Int) (s sp : Int) : (lvlT (SC r) (tIm n w s sp) .nil 1 2).call 27 [.agg ⟨gC n w⟩, U s] emptyA fin =
    bif s != Int.ofNat 0 then bif m_same [.agg ⟨(gC n w)⟩, U s] [.agg ⟨(gC n w)⟩, U s] then bif sp == Int.ofNat 0 then .ret (.bool true) (AW.mk 0 .nil .nil) else .ret (.bool false) (AW.mk 0 .nil .nil) else .fail 420 else .ret (.bool false) (AW.mk 0 .nil .nil) := by kernel_rfl

theorem moA (r : Mem) (n : Int) (w : Nat → Int) (fs : FnsC) (K : OV → List Nat → OO → CR) (kx : Nat → KS) (kr : KS) : run (SC r) 31 19 1 (.seq Mo_0 (.seq Mo_1 Mo_2)) fs none (rbK 0 lvMo [.g] K) kx kr (sc0 31 [.agg ⟨gC n w⟩]) (tr0 31 [.agg ⟨gC n w⟩]) [] emptyA =
    K [some (.pointer (some ⟨0, 0, none⟩)), some (.slice none 0 0), some (U (Int.ofNat 1))] [] [some (.cells (gC n w) 55 0 0)] := by kernel_rfl

theorem moB1 (r : Mem) (n : Int) (w : Nat → Int) (s : Int) (q : Int → Bool) (K : OV → List Nat → OO → CR) (KX : Nat → OV → List Nat → OO → CR) (kr : KS) : run (SC r) 31 19 1 Mo_3 (lvlT (SC r) (tMo (gC n w) q) .nil 1 3) none (rbK 0 lvMo [.g] K) (fun i => rbK 0 [3] [] (KX i)) kr [] (bT lvMo [some (P0 0), some (.slice none 0 0), some (U s)] .nil) [] (mkA [oPg (gC n w) 0]) =
    bif !decide (n < 0) then bif decide (s ≤ IntKind.wrap .u64 (IntKind.wrap .u64 (Int.ofNat 1 * Int.ofNat 2 ^ min (Int.toNat n) 64) - Int.ofNat 1)) then bif m_same (gC n w) (gC n w) && m_w16 s then bif q s then K [some (.pointer (some ⟨0, 0, none⟩)), some (.slice (some ⟨1, 0, none⟩) 1 unk), some (U (IntKind.wrap .u64 (s + Int.ofNat 1)))] [] [some (.cells (gC n w) 55 0 0), some (.cells [U s] 52 1 1)] else K [some (.pointer (some ⟨0, 0, none⟩)), some (.slice none 0 0), some (U (IntKind.wrap .u64 (s + Int.ofNat 1)))] [] [some (.cells (gC n w) 55 0 0)] else .fail 420 else KX 0 [some (.slice none 0 0)] [] [] else .fail 420 := by kernel_rfl

theorem moB2 (r : Mem) (n : Int) (w : Nat → Int) (s : Int) (k : Nat) (c : List Value) (q : Int → Bool) (K : OV → List Nat → OO → CR) (KX : Nat → OV → List Nat → OO → CR) (kr : KS) : run (SC r) 31 19 1 Mo_3 (lvlT (SC r) (tMo (gC n w) q) .nil 1 3) none (rbK 0 lvMo [.g] K) (fun i => rbK 0 [3] [] (KX i)) kr [] (bT lvMo [some (P0 0), some (rowV 1 k), some (U s)] .nil) [] (mkA [oPg (gC n w) 0, oRv c 1]) =
    bif !decide (n < 0) then bif decide (s ≤ IntKind.wrap .u64 (IntKind.wrap .u64 (Int.ofNat 1 * Int.ofNat 2 ^ min (Int.toNat n) 64) - Int.ofNat 1)) then bif m_same (gC n w) (gC n w) && m_w16 s then bif q s then bif Nat.ble (Nat.add k 1) 1000000 then Option.casesOn (takeAt c 0 (Nat.mul k 1)) (.fail 439) fun val => bif m_nns (gC n w) && (m_nns (val ++ [U s]) && true) then K [some (.pointer (some ⟨0, 0, none⟩)), some (.slice (some ⟨1, 0, none⟩) (Nat.add k 1) unk), some (U (IntKind.wrap .u64 (s + Int.ofNat 1)))] [] [some (.cells (gC n w) 55 0 0), some (.cells (val ++ [U s]) 52 1 1)] else .fail 420 else .fail 420 else bif m_nns (gC n w) && (m_nns c && true) then K [some (.pointer (some ⟨0, 0, none⟩)), some (.slice (some ⟨1, 0, none⟩) k unk), some (U (IntKind.wrap .u64 (s + Int.ofNat 1)))] [] [some (.cells (gC n w) 55 0 0), some (.cells c 52 1 1)] else .fail 420 else .fail 420 else bif m_nns c && true then KX 0 [some (.slice (some ⟨0, 0, none⟩) k unk)] [] [some (.cells c 52 0 1)] else .fail 420 else .fail 420 := by kernel_rfl

theorem moC (r : Mem) (k : Nat) (c : List Value) (fs : FnsC) (K KR : OV → List Nat → OO → CR) (kx : Nat → KS) : run (SC r) 31 19 1 Mo_4 fs none (rbK 0 [2] [] K) kx (rbK 0 [2] [] KR) [] (bT [3] [some (rowV 0 k)] .nil) [] (mkA [oRv c 0]) =
    bif m_nns c && true then KR [some (.slice (some ⟨0, 0, none⟩) k unk)] [] [some (.cells c 52 0 1)] else .fail 420 := by kernel_rfl

theorem nuA (r : Mem) (b off len cap : Nat) (fs : FnsC) (K : OV → List Nat → OO → CR) (kx : Nat → KS) (kr : KS) : run (SC r) 3645 23 1 (.seq Nu_0 (.seq Nu_1 Nu_2)) fs none (rbK 0 lvNu [] K) kx kr (sc0 3645 [RS b off len cap]) (tr0 3645 [RS b off len cap]) [] emptyA =
    bif Nat.ble (Int.toNat (Int.ofNat len)) (Int.toNat (Int.ofNat len)) then bif Nat.ble (Int.toNat (Int.ofNat len)) 1000000 then bif m_nns (zerosL (Nat.mul (Int.toNat (Int.ofNat len)) 1) [I (Int.ofNat 0)]) && true then K [some (.slice (some ⟨0, 0, none⟩) (Int.toNat (Int.ofNat len)) (Int.toNat (Int.ofNat len))), some (.slice (some ⟨b, off, some 0⟩) len cap), some (I (Int.ofNat len)), some (I (Int.ofNat 0))] [] [some (.cells (zerosL (Nat.mul (Int.toNat (Int.ofNat len)) 1) [I (Int.ofNat 0)]) 3 0 1)] else .fail 420 else .fail 420 else .fail 420 := by kernel_rfl

theorem nuB (r : Mem) (b off len cap : Nat) (i : Int) (c : List Value) (fs : FnsC) (K : OV → List Nat → OO → CR) (KX : Nat → OV → List Nat → OO → CR) (kr : KS) : run (SC r) 3645 23 1 Nu_3 fs none (rbK 0 lvNu [] K) (fun i => rbK 0 [3] [] (KX i)) kr [] (bT lvNu [some (.slice (some ⟨0, 0, none⟩) len len), some (RS b off len cap), some (I (len : Nat)), some (I i)] .nil) [] (mkA [some (.cells c 3 0 1)]) =
    bif decide (i < Int.ofNat len) then bif decide (0 ≤ i) then bif Nat.blt (Int.toNat i) len then Option.casesOn (r b (Nat.add off (Nat.mul (Int.toNat i) 1))) (.fail 423) fun val => bif isI IntKind.u64 val then bif decide (0 ≤ i) then bif Nat.blt (Int.toNat i) len then bif Nat.blt (Nat.add 0 (Nat.mul (Int.toNat i) 1)) (List.length c) then bif m_nns (List.set c (Nat.add 0 (Nat.mul (Int.toNat i) 1)) (I (IntKind.wrap .i64 (ofI val)))) && true then K [some (.slice (some ⟨0, 0, none⟩) len len), some (.slice (some ⟨b, off, some 0⟩) len cap), some (I (Int.ofNat len)), some (I (IntKind.wrap .i64 (i + Int.ofNat 1)))] [] [some (.cells (List.set c (Nat.add 0 (Nat.mul (Int.toNat i) 1)) (I (IntKind.wrap .i64 (ofI val)))) 3 0 1)] else .fail 420 else .fail 420 else .fail 420 else .fail 420 else .fail 420 else .fail 420 else .fail 420 else bif m_nns c && true then KX 0 [some (.slice (some ⟨0, 0, none⟩) len len)] [] [some (.cells c 3 0 1)] else .fail 420 := by kernel_rfl

theorem nuC (r : Mem) (len : Nat) (c : List Value) (fs : FnsC) (K KR : OV → List Nat → OO → CR) (kx : Nat → KS) : run (SC r) 3645 23 1 Nu_4 fs none (rbK 0 [2] [] K) kx (rbK 0 [2] [] KR) [] (bT [3] [some (.slice (some ⟨0, 0, none⟩) len len)] .nil) [] (mkA [some (.cells c 3 0 1)]) =
    bif m_nns c && true then KR [some (.slice (some ⟨0, 0, none⟩) len len)] [] [some (.cells c 3 0 1)] else .fail 420 := by kernel_rfl

theorem pmR (r : Mem) (n : Int) (b off len0 cap : Nat) (w : Nat → Int) (k : Nat) (d g : List Value) (K : Value → AW → CR) : (lvlT (SC r) (tYm n (RS2 b off len0 cap) w k d g) .nil 1 2).call 16 [I n, RS2 b off len0 cap] emptyA K =
    bif m_same [I n, .slice (some ⟨b, off, some 0⟩) len0 cap] [I n, .slice (some ⟨b, off, some 0⟩) len0 cap] then bif decide (n > 10) then K (.tuple ⟨[.slice none 0 0, I (Int.ofNat 2)]⟩) (AW.mk 1 (.node .nil (some (.cells (gC n w) 55 0 0)) .nil) .nil) else bif m_same [.agg ⟨(gC n w)⟩] [.agg ⟨(gC n w)⟩] then bif m_same [.slice (some ⟨0, 0, none⟩) k unk, .agg ⟨d⟩] [.slice (some ⟨0, 0, none⟩) k unk, .agg ⟨d⟩] then K (.tuple ⟨[.slice (some ⟨2, 0, none⟩) k k, I (Int.ofNat 0)]⟩) (AW.mk 3 (.node (.node .nil (some (.cells d 52 1 1)) .nil) (some (.cells (gC n w) 55 0 0)) (.node .nil (some (.cells g 3 2 1)) .nil)) .nil) else .fail 420 else .fail 420 else .fail 420 := by kernel_rfl

theorem pmN (r : Mem) (n : Int) (w : Nat → Int) (k : Nat) (d g : List Value) (K : Value → AW → CR) : (lvlT (SC r) (tYm n (.slice none 0 0) w k d g) .nil 1 2).call 16 [I n, .slice none 0 0] emptyA K =
    bif m_same [I n, .slice none 0 0] [I n, .slice none 0 0] then bif decide (n > 10) then K (.tuple ⟨[.slice none 0 0, I (Int.ofNat 2)]⟩) (AW.mk 1 (.node .nil (some (.cells (gC n w) 55 0 0)) .nil) .nil) else bif m_same [.agg ⟨(gC n w)⟩] [.agg ⟨(gC n w)⟩] then bif m_same [.slice (some ⟨0, 0, none⟩) k unk, .agg ⟨d⟩] [.slice (some ⟨0, 0, none⟩) k unk, .agg ⟨d⟩] then K (.tuple ⟨[.slice (some ⟨2, 0, none⟩) k k, I (Int.ofNat 0)]⟩) (AW.mk 3 (.node (.node .nil (some (.cells d 52 1 1)) .nil) (some (.cells (gC n w) 55 0 0)) (.node .nil (some (.cells g 3 2 1)) .nil)) .nil) else .fail 420 else .fail 420 else .fail 420 := by kernel_rfl

theorem piR (r : Mem) (n set : Int) (b off len0 cap : Nat) (w : Nat → Int) (q : Int → Bool) : (lvlT (SC r) (tYi n (RS2 b off len0 cap) w q) .nil 1 3).call 13 [I n, RS2 b off len0 cap, I set] emptyA fin =
    bif m_same [I n, .slice (some ⟨b, off, some 0⟩) len0 cap] [I n, .slice (some ⟨b, off, some 0⟩) len0 cap] then bif decide (set < 0) then .ret (.tuple ⟨[.bool false, I (Int.ofNat 1)]⟩) (AW.mk 0 .nil .nil) else bif !decide (n < 0) then bif decide (set > IntKind.wrap .i64 (IntKind.wrap .u64 (IntKind.wrap .u64 (Int.ofNat 1 * Int.ofNat 2 ^ min (Int.toNat n) 64) - Int.ofNat 1))) then .ret (.tuple ⟨[.bool false, I (Int.ofNat 1)]⟩) (AW.mk 0 .nil .nil) else bif m_same (gC n w) (gC n w) && m_w16 (IntKind.wrap .u64 set) then bif q (IntKind.wrap .u64 set) then .ret (.tuple ⟨[.bool true, I (Int.ofNat 0)]⟩) (AW.mk 0 .nil .nil) else .ret (.tuple ⟨[.bool false, I (Int.ofNat 0)]⟩) (AW.mk 0 .nil .nil) else .fail 420 else .fail 420 else .fail 420 := by kernel_rfl

theorem piN (r : Mem) (n set : Int) (w : Nat → Int) (q : Int → Bool) : (lvlT (SC r) (tYi n (.slice none 0 0) w q) .nil 1 3).call 13 [I n, .slice none 0 0, I set] emptyA fin =
    bif m_same [I n, .slice none 0 0] [I n, .slice none 0 0] then bif decide (set < 0) then .ret (.tuple ⟨[.bool false, I (Int.ofNat 1)]⟩) (AW.mk 0 .nil .nil) else bif !decide (n < 0) then bif decide (set > IntKind.wrap .i64 (IntKind.wrap .u64 (IntKind.wrap .u64 (Int.ofNat 1 * Int.ofNat 2 ^ min (Int.toNat n) 64) - Int.ofNat 1))) then .ret (.tuple ⟨[.bool false, I (Int.ofNat 1)]⟩) (AW.mk 0 .nil .nil) else bif m_same (gC n w) (gC n w) && m_w16 (IntKind.wrap .u64 set) then bif q (IntKind.wrap .u64 set) then .ret (.tuple ⟨[.bool true, I (Int.ofNat 0)]⟩) (AW.mk 0 .nil .nil) else .ret (.tuple ⟨[.bool false, I (Int.ofNat 0)]⟩) (AW.mk 0 .nil .nil) else .fail 420 else .fail 420 else .fail 420 := by kernel_rfl

theorem pc1R (r : Mem) (n : Int) (b off len0 cap : Nat) (w w' : Nat → Int) (k : Nat) (d : List Value) : (lvlT (SC r) (tYc1 n (RS2 b off len0 cap) w w' k d) .nil 1 2).call 7 [I n, RS2 b off len0 cap] emptyA finM =
    bif m_same [I n, .slice (some ⟨b, off, some 0⟩) len0 cap] [I n, .slice (some ⟨b, off, some 0⟩) len0 cap] then bif m_same [.agg ⟨(gC n w)⟩] [.agg ⟨(gC n w)⟩] then bif m_same [.agg ⟨(gC n w')⟩] [.agg ⟨(gC n w')⟩] then bif gnds d then .ret (.tuple ⟨[.slice (some ⟨0, 0, none⟩) k unk, I (Int.ofNat 0)]⟩) (AW.mk 1 (.node .nil (some (.cells d 51 0 2)) .nil) .nil) else .fail 420 else .fail 420 else .fail 420 else .fail 420 := by kernel_rfl

theorem pc1N (r : Mem) (n : Int) (w w' : Nat → Int) (k : Nat) (d : List Value) : (lvlT (SC r) (tYc1 n (.slice none 0 0) w w' k d) .nil 1 2).call 7 [I n, .slice none 0 0] emptyA finM =
    bif m_same [I n, .slice none 0 0] [I n, .slice none 0 0] then bif m_same [.agg ⟨(gC n w)⟩] [.agg ⟨(gC n w)⟩] then bif m_same [.agg ⟨(gC n w')⟩] [.agg ⟨(gC n w')⟩] then bif gnds d then .ret (.tuple ⟨[.slice (some ⟨0, 0, none⟩) k unk, I (Int.ofNat 0)]⟩) (AW.mk 1 (.node .nil (some (.cells d 51 0 2)) .nil) .nil) else .fail 420 else .fail 420 else .fail 420 else .fail 420 := by kernel_rfl

theorem pc0R (r : Mem) (n : Int) (b off len0 cap : Nat) (w w' : Nat → Int) : (lvlT (SC r) (tYc0 n (RS2 b off len0 cap) w w') .nil 1 2).call 7 [I n, RS2 b off len0 cap] emptyA fin =
    bif m_same [I n, .slice (some ⟨b, off, some 0⟩) len0 cap] [I n, .slice (some ⟨b, off, some 0⟩) len0 cap] then bif m_same [.agg ⟨(gC n w)⟩] [.agg ⟨(gC n w)⟩] then bif m_same [.agg ⟨(gC n w')⟩] [.agg ⟨(gC n w')⟩] then .ret (.tuple ⟨[.slice none 0 0, I (Int.ofNat 0)]⟩) (AW.mk 0 .nil .nil) else .fail 420 else .fail 420 else .fail 420 := by kernel_rfl

theorem pc0N (r : Mem) (n : Int) (w w' : Nat → Int) : (lvlT (SC r) (tYc0 n (.slice none 0 0) w w') .nil 1 2).call 7 [I n, .slice none 0 0] emptyA fin =
    bif m_same [I n, .slice none 0 0] [I n, .slice none 0 0] then bif m_same [.agg ⟨(gC n w)⟩] [.agg ⟨(gC n w)⟩] then bif m_same [.agg ⟨(gC n w')⟩] [.agg ⟨(gC n w')⟩] then .ret (.tuple ⟨[.slice none 0 0, I (Int.ofNat 0)]⟩) (AW.mk 0 .nil .nil) else .fail 420 else .fail 420 else .fail 420 := by kernel_rfl

end Go.Proofs

/- The reference's modules; rows compared: what the calls answer. -/
namespace Go.Num
open Go.Proofs

def rmN (w : Nat → Nat) (s : Nat) : Nat → Bool
 | 0 => true
 | k + 1 => rmN w s k && !(!btN s k && sxC w s k)
def isM (w : Nat → Nat) (m s : Nat) : Bool := rmN w s m && !(s == 0)
def eqR (z z' : Nat → Int) : Nat → Bool
 | 0 => true
 | k + 1 => eqR z z' k && (z k == z' k)
theorem eqR_iff (z z' : Nat → Int) : ∀ k, eqR z z' k = true ↔ ∀ i, i < k → z i = z' i
 | 0 => by simp [eqR]
 | k + 1 => by
  rw [eqR, Bool.and_eq_true, eqR_iff z z' k, beq_iff_eq]
  constructor
  ·rintro ⟨h1, h2⟩ i hi
   by_cases c : i = k
   ·subst c; exact h2
   ·exact h1 i (by omega)
  ·exact fun h => ⟨fun i hi => h i (by omega), h k (by omega)⟩

end Go.Num
namespace Go.Proofs
open Go Go.Ev Go.Num
set_option linter.unusedVariables false
set_option linter.unusedSimpArgs false
set_option maxRecDepth 100000

theorem rall_ok (r : Mem) (b off m cap : Nat) (hm : m ≤ 16) : GrT Tryz.prog r 14 [RS b off m cap] (I (2 ^ m - 1 : Nat)) :=
 GrT.of (SC_ok r) TOk.nil .nil rfl ⟨1, 2, by
  rw [raA]
  have h1 : 2 ^ m ≤ 65536 := Nat.pow_le_pow_right (n := 2) (by decide) hm
  have h2 := Nat.two_pow_pos m
  have e : IntKind.wrap .i64 (IntKind.wrap .i64 (Int.ofNat 1 * Int.ofNat 2 ^ min (Int.toNat (Int.ofNat m)) 64) - Int.ofNat 1) = ((2 ^ m - 1 : Nat) : Int) := by
   rw [show Int.toNat (Int.ofNat m) = m from rfl, Nat.min_eq_left (by omega), show (Int.ofNat 1 * Int.ofNat 2 ^ m : Int) = ((2 ^ m : Nat) : Int) by simp]
   generalize 2 ^ m = x at *
   have e0 : IntKind.wrap .i64 ((x : Nat) : Int) = ((x : Nat) : Int) := wrI (by omega)
   rw [e0, show (Int.ofNat 1 : Int) = 1 from rfl, wrI (by omega)]
   omega
  rw [e]
  rfl⟩

theorem rism_ok (r : Mem) (b off m cap : Nat) (hm : m ≤ 16) (w : Nat → Nat) (hr : ∀ k, k < m → r b (off + k) = some (I (w k : Nat))) (hw : ∀ k, k < m → w k < 65536) {s : Nat} (hs : s < 65536) :
  GrT Tryz.prog r 15 [RS b off m cap, I (s : Nat)] (.bool (isM w m s)) := by
 have nn : ∀ x y : Nat, (((x : Nat) : Int) != ((y : Nat) : Int)) = !(x == y) := fun x y => by rw [Bool.eq_iff_iff]; simp; exact not_congr Int.ofNat_inj
 have bt0 : ∀ k, k ≤ 16 → (Int.tmod (Int.fdiv ((s : Nat) : Int) (Int.ofNat 2 ^ min k 64)) (Int.ofNat 2) == Int.ofNat 0) = !btN s k := fun k hk => by
  rw [shr_nat s k (by omega)]
  unfold btN
  have : ∀ x : Nat, Int.tmod (x : Int) (Int.ofNat 2) = ((x % 2 : Nat) : Int) := fun x => by
   show Int.tmod (x : Int) 2 = _
   rw [Int.tmod_eq_emod_of_nonneg (by omega)]
   omega
  rw [this]
  rcases Nat.mod_two_eq_zero_or_one (s / 2 ^ k) with h | h <;> rw [h] <;> rfl
 refine GrT.ofS (C := SC r) rfl rfl rfl (callL (SC_ok r) (by kernel_rfl) ((bodySC r _).trans Ri_eq) (nt := 38) (by kernel_rfl) (rs := [.tmp 4]) (by kernel_rfl) 51 rfl (.step .base) TOk.nil (tm := .nil) (L := 1) (d := 1) lvRi []
  (fun j vs ms os => ∃ k, k ≤ m ∧ j = m - k ∧ rmN w s k = true ∧ vs = [some (RS b off m cap), some (I (s : Nat)), some (I (k : Nat))] ∧ ms = [] ∧ os = [])
  ⟨[1], [], fun vs ms os => rmN w s m = true ∧ vs = [some (I (s : Nat))] ∧ ms = [] ∧ os = []⟩
  ⟨[4], [], fun vs ms os => vs = [some (.bool (isM w m s))] ∧ ms = [] ∧ os = []⟩ ?_ ?_ ?_ ?_)
 ·exact (riA r b off m cap s _ _ _ _).trans (qq_ok ⟨m, 0, Nat.zero_le _, rfl, rfl, rfl, rfl, rfl⟩)
 ·rintro j vs ms os ⟨k, hk, rfl, hq, rfl, rfl, rfl⟩
  refine ⟨_, TOk.nil, .nil, 1, 1, 1, ?_⟩
  have hn := riB r b off m cap s k
  by_cases c : k < m
  ·have e1 : r b (Nat.add off (Nat.mul k 1)) = some (I (w k : Nat)) := by rw [Nat.mul_eq, Nat.mul_one]; exact hr k c
   have e4 : ibits .and .i64 ((w k : Nat) : Int) ((s : Nat) : Int) = ((w k &&& s : Nat) : Int) := (iO (hw k c) hs).2.1
   have fin : ∀ x, rmN w s (k + 1) = x → x = true → ∃ j', j' < m - k ∧ ∃ k', k' ≤ m ∧ j' = m - k' ∧ rmN w s k' = true ∧ [some (RS b off m cap), some (I (s : Nat)), some (I ((k + 1 : Nat) : Int))] = [some (RS b off m cap), some (I (s : Nat)), some (I (k' : Nat))] ∧ ([] : List Nat) = [] ∧ ([] : OO) = [] := fun x h1 h2 => ⟨m - (k + 1), by omega, k + 1, c, rfl, by rw [h1, h2], rfl, rfl, rfl⟩
   simp only [dT (show (k : Int) < Int.ofNat m by simp; omega), dF (show ¬ (k : Int) < 0 by omega), dT (show 0 ≤ (k : Int) by omega), show Nat.blt k m = true from Nat.ble_eq_true_of_le c, Int.toNat_natCast, e1, show ∀ x, isI IntKind.i64 (I x) = true from fun _ => rfl, show ∀ x, ofI (I x) = x from fun _ => rfl, e4, bt0 k (by omega), iInc (show k < 1000000 by omega), Bool.not_false, cond_true] at hn
   simp only [show (Int.ofNat 0 : Int) = ((0 : Nat) : Int) from rfl, nn] at hn
   cases c0 : btN s k with
   | true =>
    simp only [c0, Bool.not_true, cond_false] at hn
    exact (hn _ _ _ _).trans (qq_ok (fin _ rfl (by rw [rmN, hq, c0]; rfl)))
   | false =>
    cases c1 : (w k &&& s == 0) with
    | true =>
     simp only [c0, c1, Bool.not_true, Bool.not_false, cond_true, cond_false] at hn
     exact (hn _ _ _ _).trans (qq_ok (fin _ rfl (by rw [rmN, hq, c0]; unfold sxC; rw [c1]; rfl)))
    | false =>
     cases c2 : (w k &&& s == s) with
     | true =>
      simp only [c0, c1, c2, Bool.not_true, Bool.not_false, cond_true, cond_false] at hn
      exact (hn _ _ _ _).trans (qq_ok (fin _ rfl (by rw [rmN, hq, c0]; unfold sxC; rw [c1, c2]; rfl)))
     | false =>
      simp only [c0, c1, c2, Bool.not_false, cond_true] at hn
      have hf : rmN w s m = false := by
       have h1 : rmN w s (k + 1) = false := by rw [rmN, hq, c0]; unfold sxC; rw [c1, c2]; rfl
       have : ∀ d, rmN w s (k + 1 + d) = false := fun d => by
        induction d with
        | zero => exact h1
        | succ d ih => rw [show k + 1 + (d + 1) = (k + 1 + d) + 1 by omega, rmN, ih]; rfl
       have := this (m - (k + 1))
       rwa [show k + 1 + (m - (k + 1)) = m by omega] at this
      exact (hn _ _ _ _).trans (qq_ok ⟨by unfold isM; rw [hf]; rfl, rfl, rfl⟩)
  ·obtain rfl : k = m := by omega
   simp only [dF (show ¬ (k : Int) < Int.ofNat k by simp), cond_false] at hn
   exact (hn _ _ _ _).trans (qq_ok ⟨hq, rfl, rfl, rfl⟩)
 ·rintro vs ms os ⟨hq, rfl, rfl, rfl⟩
  refine ⟨_, TOk.nil, .nil, 1, 1, 1, ?_⟩
  have hn := riC r s
  rw [show (Int.ofNat 0 : Int) = ((0 : Nat) : Int) from rfl, nn] at hn
  cases c : (s == 0) with
  | true =>
   simp only [c, Bool.not_true, cond_false] at hn
   exact (hn _ _ _ _).trans (qq_ok ⟨by unfold isM; rw [hq, c]; rfl, rfl, rfl⟩)
  | false =>
   simp only [c, Bool.not_false, cond_true] at hn
   exact (hn _ _ _ _).trans (qq_ok ⟨by unfold isM; rw [hq, c]; rfl, rfl, rfl⟩)
 ·rintro vs ms os ⟨rfl, rfl, rfl⟩
  exact ⟨_, mkA [], by kernel_rfl, rfl⟩

theorem ints_ok (r : Mem) (b off len cap b' off' len' cap' : Nat) (hl : len < 1000000) (z z' : Nat → Int) (hz : ∀ k, k < len → r b (off + k) = some (I (z k))) (hz' : ∀ k, k < len' → r b' (off' + k) = some (I (z' k))) :
  GrT Tryz.prog r 18 [RS b off len cap, RS b' off' len' cap'] (.bool ((len == len') && eqR z z' len)) := by
 refine GrT.ofS (C := SC r) rfl rfl rfl (callL (SC_ok r) (by kernel_rfl) ((bodySC r _).trans Iq_eq) (nt := 26) (by kernel_rfl) (rs := [.tmp 4]) (by kernel_rfl) 51 rfl (.step (.step .base)) TOk.nil (tm := .nil) (L := 1) (d := 1) lvPq []
  (fun j vs ms os => len = len' ∧ ∃ k, k ≤ len ∧ j = len - k ∧ eqR z z' k = true ∧ vs = [some (RS b off len cap), some (RS b' off' len' cap'), some (I (k : Nat))] ∧ ms = [] ∧ os = [])
  ⟨[], [], fun vs ms os => len = len' ∧ eqR z z' len = true ∧ vs = [] ∧ ms = [] ∧ os = []⟩
  ⟨[4], [], fun vs ms os => vs = [some (.bool ((len == len') && eqR z z' len))] ∧ ms = [] ∧ os = []⟩ ?_ ?_ ?_ ?_)
 ·have hn := inqA r b off len cap b' off' len' cap'
  by_cases c : len = len'
  ·subst c
   simp only [show (Int.ofNat len != Int.ofNat len) = false by simp, cond_false] at hn
   exact (hn _ _ _ _).trans (qq_ok ⟨len, rfl, 0, Nat.zero_le _, rfl, rfl, rfl, rfl, rfl⟩)
  ·simp only [show (Int.ofNat len != Int.ofNat len') = true by simp; exact fun h => c (Int.ofNat_inj.1 h), cond_true] at hn
   exact (hn _ _ _ _).trans (qq_ok ⟨by rw [show (len == len') = false by simp [c]]; rfl, rfl, rfl⟩)
 ·rintro j vs ms os ⟨rfl, k, hk, rfl, hq, rfl, rfl, rfl⟩
  refine ⟨_, TOk.nil, .nil, 1, 1, 1, ?_⟩
  have hn := inqB r b off len cap b' off' len cap' k
  by_cases c : k < len
  ·have e1 : r b (Nat.add off (Nat.mul k 1)) = some (I (z k)) := by rw [Nat.mul_eq, Nat.mul_one]; exact hz k c
   have e2 : r b' (Nat.add off' (Nat.mul k 1)) = some (I (z' k)) := by rw [Nat.mul_eq, Nat.mul_one]; exact hz' k c
   simp only [dT (show (k : Int) < Int.ofNat len by simp; omega), dT (show 0 ≤ (k : Int) by omega), show Nat.blt k len = true from Nat.ble_eq_true_of_le c, Int.toNat_natCast, e1, e2, show ∀ x, isI IntKind.i64 (I x) = true from fun _ => rfl, show ∀ x, ofI (I x) = x from fun _ => rfl, iInc (show k < 1000000 by omega), cond_true] at hn
   by_cases d : z k = z' k
   ·simp only [d, show (z' k != z' k) = false by simp, cond_false] at hn
    exact (hn _ _ _ _).trans (qq_ok ⟨len - (k + 1), by omega, rfl, k + 1, c, rfl, by rw [eqR, hq, d]; simp, rfl, rfl, rfl⟩)
   ·simp only [show (z k != z' k) = true by simp [d], cond_true] at hn
    have hf : eqR z z' len = false := by
     cases h : eqR z z' len with
     | false => rfl
     | true => exact absurd ((eqR_iff z z' len).1 h k c) d
    exact (hn _ _ _ _).trans (qq_ok ⟨by rw [hf, Bool.and_false], rfl, rfl⟩)
  ·obtain rfl : k = len := by omega
   simp only [dF (show ¬ (k : Int) < Int.ofNat k by simp), cond_false] at hn
   exact (hn _ _ _ _).trans (qq_ok ⟨rfl, hq, rfl, rfl, rfl⟩)
 ·rintro vs ms os ⟨h1, h2, rfl, rfl, rfl⟩
  exact ⟨_, TOk.nil, .nil, 1, 1, 1, (inqC r _ _ _ _).trans (qq_ok ⟨by rw [h2, h1]; simp, rfl, rfl⟩)⟩
 ·rintro vs ms os ⟨rfl, rfl, rfl⟩
  exact ⟨_, mkA [], by kernel_rfl, rfl⟩

theorem pairs_ok (r : Mem) (b off len cap b' off' len' cap' : Nat) (hl : len < 1000000) (z z' : Nat → Int) (hz : rowAt r b off (2 * len) z) (hz' : rowAt r b' off' (2 * len') z') :
  GrT Tryz.prog r 9 [RS2 b off len cap, RS2 b' off' len' cap'] (.bool ((len == len') && eqR z z' (2 * len))) := by
 refine GrT.ofS (C := SC r) rfl rfl rfl (callL (SC_ok r) (by kernel_rfl) ((bodySC r _).trans Px_eq) (nt := 26) (by kernel_rfl) (rs := [.tmp 4]) (by kernel_rfl) 51 rfl (.step (.step .base)) TOk.nil (tm := .nil) (L := 1) (d := 1) lvPq []
  (fun j vs ms os => len = len' ∧ ∃ k, k ≤ len ∧ j = len - k ∧ eqR z z' (2 * k) = true ∧ vs = [some (RS2 b off len cap), some (RS2 b' off' len' cap'), some (I (k : Nat))] ∧ ms = [] ∧ os = [])
  ⟨[], [], fun vs ms os => len = len' ∧ eqR z z' (2 * len) = true ∧ vs = [] ∧ ms = [] ∧ os = []⟩
  ⟨[4], [], fun vs ms os => vs = [some (.bool ((len == len') && eqR z z' (2 * len)))] ∧ ms = [] ∧ os = []⟩ ?_ ?_ ?_ ?_)
 ·have hn := pxA r b off len cap b' off' len' cap'
  by_cases c : len = len'
  ·subst c
   simp only [show (Int.ofNat len != Int.ofNat len) = false by simp, cond_false] at hn
   exact (hn _ _ _ _).trans (qq_ok ⟨len, rfl, 0, Nat.zero_le _, rfl, rfl, rfl, rfl, rfl⟩)
  ·simp only [show (Int.ofNat len != Int.ofNat len') = true by simp; exact fun h => c (Int.ofNat_inj.1 h), cond_true] at hn
   exact (hn _ _ _ _).trans (qq_ok ⟨by rw [show (len == len') = false by simp [c]]; rfl, rfl, rfl⟩)
 ·rintro j vs ms os ⟨rfl, k, hk, rfl, hq, rfl, rfl, rfl⟩
  refine ⟨_, TOk.nil, .nil, 1, 1, 1, ?_⟩
  have hn := pxB r b off len cap b' off' len cap' k
  by_cases c : k < len
  ·have e1 : r b (Nat.add off (Nat.mul k 2)) = some (I (z (2 * k))) := by rw [Nat.mul_eq, Nat.mul_comm]; exact hz (2 * k) (by omega)
   have e2 : r b' (Nat.add off' (Nat.mul k 2)) = some (I (z' (2 * k))) := by rw [Nat.mul_eq, Nat.mul_comm]; exact hz' (2 * k) (by omega)
   have e3 : r b (Nat.succ (Nat.add off (Nat.mul k 2))) = some (I (z (2 * k + 1))) := by rw [Nat.mul_eq, Nat.mul_comm]; exact hz (2 * k + 1) (by omega)
   have e4 : r b' (Nat.succ (Nat.add off' (Nat.mul k 2))) = some (I (z' (2 * k + 1))) := by rw [Nat.mul_eq, Nat.mul_comm]; exact hz' (2 * k + 1) (by omega)
   simp only [dT (show (k : Int) < Int.ofNat len by simp; omega), dT (show 0 ≤ (k : Int) by omega), show Nat.blt k len = true from Nat.ble_eq_true_of_le c, Int.toNat_natCast, e1, e2, e3, e4, show ∀ x, isI IntKind.i64 (I x) = true from fun _ => rfl, show ∀ x, ofI (I x) = x from fun _ => rfl, iInc (show k < 1000000 by omega), cond_true] at hn
   have hS : eqR z z' (2 * (k + 1)) = ((z (2 * k) == z' (2 * k)) && (z (2 * k + 1) == z' (2 * k + 1))) := by
    rw [show 2 * (k + 1) = (2 * k + 1) + 1 by omega, eqR, eqR, hq, Bool.true_and]
   cases d : ((z (2 * k) == z' (2 * k)) && (z (2 * k + 1) == z' (2 * k + 1))) with
   | true =>
    rw [d] at hS
    simp only [Bool.and_true, d, Bool.not_true, cond_false] at hn
    exact (hn _ _ _ _).trans (qq_ok ⟨len - (k + 1), by omega, rfl, k + 1, c, rfl, hS, rfl, rfl, rfl⟩)
   | false =>
    rw [d] at hS
    simp only [Bool.and_true, d, Bool.not_false, cond_true] at hn
    have hf : eqR z z' (2 * len) = false := by
     cases h : eqR z z' (2 * len) with
     | false => rfl
     | true =>
      have h' := (eqR_iff z z' _).1 h
      rw [(eqR_iff z z' _).2 fun i hi => h' i (by omega)] at hS
      cases hS
    exact (hn _ _ _ _).trans (qq_ok ⟨by rw [hf, Bool.and_false], rfl, rfl⟩)
  ·obtain rfl : k = len := by omega
   simp only [dF (show ¬ (k : Int) < Int.ofNat k by simp), cond_false] at hn
   exact (hn _ _ _ _).trans (qq_ok ⟨rfl, hq, rfl, rfl, rfl⟩)
 ·rintro vs ms os ⟨h1, h2, rfl, rfl, rfl⟩
  exact ⟨_, TOk.nil, .nil, 1, 1, 1, (pxC r _ _ _ _).trans (qq_ok ⟨by rw [h2, h1]; simp, rfl, rfl⟩)⟩
 ·rintro vs ms os ⟨rfl, rfl, rfl⟩
  exact ⟨_, mkA [], by kernel_rfl, rfl⟩

end Go.Proofs

/- The reference's modules, complement, twins: what the calls answer. -/
namespace Go.Num
open Go.Proofs

def rwP (P : Nat → Nat → Bool) (i : Nat) : Nat → List (Nat × Nat)
 | 0 => []
 | j + 1 => rwP P i j ++ (if i < j ∧ P i j = true then [(i, j)] else [])
def alP (P : Nat → Nat → Bool) (m : Nat) : Nat → List (Nat × Nat)
 | 0 => []
 | i + 1 => alP P m i ++ rwP P i m
theorem rwP_nil (P : Nat → Nat → Bool) (i : Nat) : ∀ j, j ≤ i + 1 → rwP P i j = []
 | 0, _ => rfl
 | j + 1, h => by rw [rwP, rwP_nil P i j (by omega), if_neg (by omega)]; rfl
theorem rwP_len (P : Nat → Nat → Bool) (i : Nat) : ∀ j, (rwP P i j).length ≤ j
 | 0 => Nat.le_refl _
 | j + 1 => by
  rw [rwP, List.length_append]
  have := rwP_len P i j
  split <;> simp <;> omega
theorem alP_len (P : Nat → Nat → Bool) (m : Nat) : ∀ i, (alP P m i).length ≤ i * m
 | 0 => by simp [alP]
 | i + 1 => by
  rw [alP, List.length_append, Nat.succ_mul]
  have := alP_len P m i
  have := rwP_len P i m
  omega
theorem alP_congr {P Q : Nat → Nat → Bool} {m : Nat} (h : ∀ i j, i < m → j < m → i < j → P i j = Q i j) : ∀ i, i ≤ m → alP P m i = alP Q m i
 | 0, _ => rfl
 | i + 1, hi => by
  have : ∀ j, j ≤ m → rwP P i j = rwP Q i j := fun j => by
   induction j with
   | zero => intro _; rfl
   | succ j ih =>
    intro hj
    rw [rwP, rwP, ih (by omega)]
    congr 1
    by_cases c : i < j
    ·rw [h i j (by omega) (by omega) c]
    ·rw [if_neg fun x => c x.1, if_neg fun x => c x.1]
  rw [alP, alP, alP_congr h i (by omega), this m (Nat.le_refl _)]
def twN (w : Nat → Nat) (i j : Nat) : Bool := anN (w i) (2 ^ i ||| 2 ^ j) == anN (w j) (2 ^ i ||| 2 ^ j)
def moL (q : Nat → Bool) : Nat → List Nat
 | 0 => []
 | k + 1 => moL q k ++ (if 1 ≤ k ∧ q k = true then [k] else [])
theorem moL_len (q : Nat → Bool) : ∀ k, (moL q k).length ≤ k
 | 0 => Nat.le_refl _
 | k + 1 => by
  rw [moL, List.length_append]
  have := moL_len q k
  split <;> simp <;> omega
theorem moL_congr {q q' : Nat → Bool} : ∀ {k : Nat}, (∀ s, s < k → q s = q' s) → moL q k = moL q' k
 | 0, _ => rfl
 | k + 1, h => by rw [moL, moL, moL_congr fun s hs => h s (by omega), h k (by omega)]
def wcL (w : Nat → Nat) (m k : Nat) : List Nat := (List.range m).map (wcK w m k)
theorem wcL_len (w : Nat → Nat) (m k : Nat) : (wcL w m k).length = m := by simp [wcL]
theorem wcL_get (w : Nat → Nat) {m i : Nat} (h : i < m) (k : Nat) : (wcL w m k)[i]? = some (wcK w m k i) := by
 unfold wcL
 rw [List.getElem?_map, List.getElem?_range h]
 rfl
theorem wcL_set (w : Nat → Nat) {m k : Nat} (hk : k < m) : (wcL w m k).set k (wcN w m k) = wcL w m (k + 1) := by
 apply List.ext_getElem?
 intro i
 by_cases hi : i < m
 ·rw [List.getElem?_set, wcL_get w hi, wcL_get w hi, wcL_len]
  unfold wcK
  by_cases e : k = i
  ·subst e; rw [if_pos rfl, if_pos hk, if_pos (Nat.lt_succ_self _)]
  ·rw [if_neg e]
   by_cases c : i < k
   ·rw [if_pos c, if_pos (show i < k + 1 by omega)]
   ·rw [if_neg c, if_neg (show ¬ i < k + 1 by omega)]
 ·rw [List.getElem?_eq_none (by rw [List.length_set, wcL_len]; omega), List.getElem?_eq_none (by rw [wcL_len]; omega)]

end Go.Num
namespace Go.Proofs
open Go Go.Ev Go.Num
set_option linter.unusedVariables false
set_option linter.unusedSimpArgs false
set_option maxRecDepth 100000

theorem ofInt_wrap (z : Int) : BitVec.ofInt 64 (IntKind.wrap .i64 z) = BitVec.ofInt 64 z := by
 apply BitVec.eq_of_toNat_eq
 rw [BitVec.toNat_ofInt, BitVec.toNat_ofInt]
 congr 1
 simp [IntKind.wrap, IntKind.bits, IntKind.signed]
 omega
theorem notA {a x : Nat} (ha : a < 65536) (hx : x < 65536) : ibits .and .i64 ((a : Nat) : Int) (IntKind.wrap .i64 (Int.ofNat (Nat.bitwise bne 18446744073709551615 (Int.toNat (((x : Nat) : Int) % Int.ofNat 18446744073709551616))))) = ((anN a x : Nat) : Int) := by
 have e0 : Int.toNat (((x : Nat) : Int) % Int.ofNat 18446744073709551616) = x := by
  rw [show (Int.ofNat 18446744073709551616 : Int) = 18446744073709551616 from rfl]
  omega
 rw [e0]
 have hb : (18446744073709551615 ^^^ x) < 18446744073709551616 := Nat.xor_lt_two_pow (n := 64) (by decide) (by omega)
 have h := (ibO (k := .i64) (.inr rfl) (a := a) (b := 18446744073709551615 ^^^ x) (by omega) hb).2.1
 have e1 : ibits .and .i64 ((a : Nat) : Int) (IntKind.wrap .i64 ((18446744073709551615 ^^^ x : Nat) : Int)) = ibits .and .i64 ((a : Nat) : Int) ((18446744073709551615 ^^^ x : Nat) : Int) := by
  show IntKind.wrap .i64 ((BitVec.ofInt 64 (a : Int) &&& BitVec.ofInt 64 (IntKind.wrap .i64 _)).toNat : Int) = IntKind.wrap .i64 ((BitVec.ofInt 64 (a : Int) &&& BitVec.ofInt 64 _).toNat : Int)
  rw [ofInt_wrap]
 refine Eq.trans (show _ = ibits .and .i64 ((a : Nat) : Int) (IntKind.wrap .i64 ((18446744073709551615 ^^^ x : Nat) : Int)) from rfl) ?_
 rw [e1, h]
 have e2 : a &&& (18446744073709551615 ^^^ x) = anN a x := by
  apply Nat.eq_of_testBit_eq
  intro i
  rw [an_bit, Nat.testBit_and, Nat.testBit_xor, show (18446744073709551615 : Nat) = 2 ^ 64 - 1 by decide, Nat.testBit_two_pow_sub_one]
  by_cases c : i < 64
  ·rw [decide_eq_true c]
   cases x.testBit i <;> rfl
  ·rw [high (m := 16) (x := a) (by omega) (by omega)]
   rfl
 rw [e2]
 have : anN a x < 65536 := an_lt (k := 16) ha
 exact wrI (by omega)

theorem twins_ok (r : Mem) (b off m cap : Nat) (w : Nat → Nat) (hr : ∀ k, k < m → r b (off + k) = some (I (w k : Nat))) (hm : m ≤ 16) (hw : ∀ k, k < m → w k < 65536) :
  SOk (SC r) 12 [RS b off m cap] emptyA fun v A => v = vL (alP (twN w) m m) ∧ A = mkA (oL (alP (twN w) m m)) := by
 refine callLL (SC_ok r) (by kernel_rfl) ((bodySC r _).trans Rt_eq) (nt := 47) (by kernel_rfl) (rs := [.tmp 2]) (by kernel_rfl) 125 rfl (.step (.step .base)) TOk.nil (tm := .nil) (L := 1) (d := 1) lvRt []
  (fun d vs ms os => ∃ i, i ≤ m ∧ d = m - i ∧ ∃ l, l = alP (twN w) m i ∧ vs = liV b off m cap l i ∧ ms = [] ∧ os = oL l)
  ⟨[3], [], fun vs ms os => ∃ l, l = alP (twN w) m m ∧ vs = [some (vL l)] ∧ ms = [] ∧ os = oL l⟩
  ⟨[2], [], fun vs ms os => ∃ l, l = alP (twN w) m m ∧ vs = [some (vL l)] ∧ ms = [] ∧ os = oL l⟩
  (fun d => ⟨lvRt, [], fun vs ms os => ∃ i, i < m ∧ d = m - i ∧ ∃ l, l = alP (twN w) m i ∧ vs = liV b off m cap l i ∧ ms = [] ∧ os = oL l⟩)
  lvRu [] (fun d e vs ms os => ∃ i, i < m ∧ d = m - i ∧ ∃ j, j ≤ m ∧ e = m - j ∧ ∃ l, l = alP (twN w) m i ++ rwP (twN w) i j ∧ i < j ∧ vs = liW b off m cap l i j ∧ ms = [] ∧ os = oL l)
  (fun d => ⟨lvRt, [], fun vs ms os => ∃ i, i < m ∧ d = m - i ∧ ∃ l, l = alP (twN w) m (i + 1) ∧ vs = liV b off m cap l i ∧ ms = [] ∧ os = oL l⟩)
  ?_ ?_ ?_ ?_ ?_ ?_ ?_
 ·exact (rtA r b off m cap _ _ _ _).trans (qq_ok ⟨m, 0, Nat.zero_le _, rfl, [], rfl, rfl, rfl, rfl⟩)
 ·rintro d vs ms os ⟨i, hi, rfl, l, hl, rfl, rfl, rfl⟩
  refine ⟨_, TOk.nil, .nil, 1, 1, 1, ?_⟩
  by_cases c : i < m
  ·have c1 : (i : Int) < Int.ofNat m := by simp; omega
   cases l with
   | nil =>
    have hn := rtB1 r b off m cap i
    simp only [dT c1, cond_true] at hn
    exact (hn _ _ _ _).trans (qq_ok ⟨i, c, rfl, [], hl, rfl, rfl, rfl⟩)
   | cons p l =>
    have hn := rtB2 r b off m cap (l.length + 1) i (pcE (p :: l))
    simp only [dT c1, cond_true, pcE_nn, Bool.and_true] at hn
    exact (hn _ _ _ _).trans (qq_ok ⟨i, c, rfl, p :: l, hl, rfl, rfl, rfl⟩)
  ·obtain rfl : i = m := by omega
   have c1 : ¬ (i : Int) < Int.ofNat i := by simp
   cases l with
   | nil =>
    have hn := rtB1 r b off i cap i
    simp only [dF c1, cond_false] at hn
    exact (hn _ _ _ _).trans (qq_ok ⟨[], hl, rfl, rfl, rfl⟩)
   | cons p l =>
    have hn := rtB2 r b off i cap (l.length + 1) i (pcE (p :: l))
    simp only [dF c1, cond_false, cond_true, pcE_nn, Bool.and_true] at hn
    exact (hn _ _ _ _).trans (qq_ok ⟨p :: l, hl, rfl, rfl, rfl⟩)
 ·rintro d vs ms os ⟨i, hi, rfl, l, hl, rfl, rfl, rfl⟩
  refine ⟨_, TOk.nil, .nil, 1, 1, 1, ?_⟩
  have e3 : IntKind.wrap IntKind.i64 ((i : Int) + Int.ofNat 1) = ((i + 1 : Nat) : Int) := by rw [wrI (by simp; omega)]; simp
  have hl' : l = alP (twN w) m i ++ rwP (twN w) i (i + 1) := by rw [rwP_nil (twN w) i (i + 1) (Nat.le_refl _), List.append_nil]; exact hl
  cases l with
  | nil =>
   have hn := rtC1 r b off m cap i
   simp only [e3] at hn
   exact (hn _ _ _ _).trans (qq_ok ⟨m - (i + 1), i, hi, rfl, i + 1, hi, rfl, [], hl', Nat.lt_succ_self _, rfl, rfl, rfl⟩)
  | cons p l =>
   have hn := rtC2 r b off m cap (l.length + 1) i (pcE (p :: l))
   simp only [e3, pcE_nn, Bool.and_true, cond_true] at hn
   exact (hn _ _ _ _).trans (qq_ok ⟨m - (i + 1), i, hi, rfl, i + 1, hi, rfl, p :: l, hl', Nat.lt_succ_self _, rfl, rfl, rfl⟩)
 ·rintro d e vs ms os ⟨i, hi, rfl, j, hj, rfl, l, hl, hij, rfl, rfl, rfl⟩
  refine ⟨_, TOk.nil, .nil, 1, 1, 1, ?_⟩
  by_cases c : j < m
  ·have c1 : (j : Int) < Int.ofNat m := by simp; omega
   have c2 : 0 ≤ (i : Int) := by omega
   have c3 : Nat.blt i m = true := Nat.ble_eq_true_of_le hi
   have c4 : ¬ (j : Int) < 0 := by omega
   have e1 : r b (Nat.add off (Nat.mul i 1)) = some (I (w i : Nat)) := by rw [Nat.mul_eq, Nat.mul_one]; exact hr i hi
   have c5 : ¬ (i : Int) < 0 := by omega
   have c6 : 0 ≤ (j : Int) := by omega
   have c7 : Nat.blt j m = true := Nat.ble_eq_true_of_le c
   have e5 : r b (Nat.add off (Nat.mul j 1)) = some (I (w j : Nat)) := by rw [Nat.mul_eq, Nat.mul_one]; exact hr j c
   have p1 : 2 ^ i < 65536 := Nat.pow_lt_pow_right (n := 16) (by decide) (by omega)
   have p2 : 2 ^ j < 65536 := Nat.pow_lt_pow_right (n := 16) (by decide) (by omega)
   have eo : ibits .or .i64 ((2 ^ i : Nat) : Int) ((2 ^ j : Nat) : Int) = ((2 ^ i ||| 2 ^ j : Nat) : Int) := (iO p1 p2).1
   have po : 2 ^ i ||| 2 ^ j < 65536 := or16 p1 p2
   have eqn : ∀ x y : Nat, (((x : Nat) : Int) == ((y : Nat) : Int)) = (x == y) := fun x y => by rw [Bool.eq_iff_iff, beq_iff_eq, beq_iff_eq]; exact Int.ofNat_inj
   have e2 : (anN (w i) (2 ^ i ||| 2 ^ j) == anN (w j) (2 ^ i ||| 2 ^ j)) = twN w i j := rfl
   have e3 : IntKind.wrap IntKind.i64 ((j : Int) + Int.ofNat 1) = ((j + 1 : Nat) : Int) := by rw [wrI (by simp; omega)]; simp
   have hlen : l.length ≤ 300 := by
    have h1 := alP_len (twN w) m i
    have h2 := rwP_len (twN w) i j
    have h3 : i * m ≤ 16 * 16 := Nat.mul_le_mul (by omega) (by omega)
    rw [hl, List.length_append]
    omega
   have st : ∀ l', l' = alP (twN w) m i ++ rwP (twN w) i (j + 1) → ∃ i', i' < m - j ∧ ∃ i'', i'' < m ∧ m - i = m - i'' ∧ ∃ j', j' ≤ m ∧ i' = m - j' ∧ ∃ l, l = alP (twN w) m i'' ++ rwP (twN w) i'' j' ∧ i'' < j' ∧ liW b off m cap l' i (j + 1) = liW b off m cap l i'' j' ∧ ([] : List Nat) = [] ∧ oL l' = oL l := fun l' hl' => ⟨m - (j + 1), by omega, i, hi, rfl, j + 1, c, rfl, l', hl', by omega, rfl, rfl, rfl⟩
   cases hb : twN w i j with
   | true =>
    have hs : rwP (twN w) i (j + 1) = rwP (twN w) i j ++ [(i, j)] := by rw [rwP, if_pos ⟨hij, hb⟩]
    cases l with
    | nil =>
     have hn := rtD1 r b off m cap i j
     simp only [dT c1, dT c2, dF c4, Bool.not_false, cond_true, Int.toNat_natCast, c3, e1, dF c5, dT c6, c7, e5, sh16 (show i < 16 by omega), sh16 (show j < 16 by omega), eo, notA (hw i hi) po, notA (hw j c) po, eqn, show ∀ x, isI IntKind.i64 (I x) = true from fun _ => rfl, show ∀ x, ofI (I x) = x from fun _ => rfl, e2, hb, e3] at hn
     exact (hn _ _ _ _).trans (qq_ok (st [(i, j)] (by rw [hs, ← List.append_assoc, ← hl]; rfl)))
    | cons p l =>
     have hn := rtD2 r b off m cap (l.length + 1) i j (pcE (p :: l))
     have m1 : Nat.ble ((l ++ [(i, j)]).length + 1) 1000000 = true := Nat.ble_eq_true_of_le (by simp at hlen ⊢; omega)
     have tk : takeAt (pcE (p :: l)) 0 (Nat.mul (l.length + 1) 2) = some (pcE (p :: l)) := takeL_all _ _ (by rw [pcE_len]; simp [Nat.mul_comm])
     have ap : pcE (p :: l) ++ [I (i : Nat), I (j : Nat)] = pcE (p :: (l ++ [(i, j)])) := by rw [show p :: (l ++ [(i, j)]) = (p :: l) ++ [(i, j)] from rfl, pcE_app]; rfl
     have al : Nat.add (l.length + 1) 1 = (l ++ [(i, j)]).length + 1 := by simp
     simp only [dT c1, dT c2, dF c4, Bool.not_false, cond_true, Int.toNat_natCast, c3, e1, dF c5, dT c6, c7, e5, sh16 (show i < 16 by omega), sh16 (show j < 16 by omega), eo, notA (hw i hi) po, notA (hw j c) po, eqn, show ∀ x, isI IntKind.i64 (I x) = true from fun _ => rfl, show ∀ x, ofI (I x) = x from fun _ => rfl, e2, hb, e3, m1, tk, ap, al, pcE_nn, Bool.and_true] at hn
     exact (hn _ _ _ _).trans (qq_ok (st (p :: (l ++ [(i, j)])) (by rw [hs, ← List.append_assoc, ← hl]; rfl)))
   | false =>
    have hs : rwP (twN w) i (j + 1) = rwP (twN w) i j := by rw [rwP, if_neg (by simp [hb]), List.append_nil]
    cases l with
    | nil =>
     have hn := rtD1 r b off m cap i j
     simp only [dT c1, dT c2, dF c4, Bool.not_false, cond_true, cond_false, Int.toNat_natCast, c3, e1, dF c5, dT c6, c7, e5, sh16 (show i < 16 by omega), sh16 (show j < 16 by omega), eo, notA (hw i hi) po, notA (hw j c) po, eqn, show ∀ x, isI IntKind.i64 (I x) = true from fun _ => rfl, show ∀ x, ofI (I x) = x from fun _ => rfl, e2, hb, e3] at hn
     exact (hn _ _ _ _).trans (qq_ok (st [] (by rw [hs]; exact hl)))
    | cons p l =>
     have hn := rtD2 r b off m cap (l.length + 1) i j (pcE (p :: l))
     simp only [dT c1, dT c2, dF c4, Bool.not_false, cond_true, cond_false, Int.toNat_natCast, c3, e1, dF c5, dT c6, c7, e5, sh16 (show i < 16 by omega), sh16 (show j < 16 by omega), eo, notA (hw i hi) po, notA (hw j c) po, eqn, show ∀ x, isI IntKind.i64 (I x) = true from fun _ => rfl, show ∀ x, ofI (I x) = x from fun _ => rfl, e2, hb, e3, pcE_nn, Bool.and_true] at hn
     exact (hn _ _ _ _).trans (qq_ok (st (p :: l) (by rw [hs]; exact hl)))
  ·obtain rfl : j = m := by omega
   have c1 : ¬ (j : Int) < Int.ofNat j := by simp
   cases l with
   | nil =>
    have hn := rtD1 r b off j cap i j
    simp only [dF c1, cond_false] at hn
    exact (hn _ _ _ _).trans (qq_ok ⟨i, hi, rfl, [], hl, rfl, rfl, rfl⟩)
   | cons p l =>
    have hn := rtD2 r b off j cap (l.length + 1) i j (pcE (p :: l))
    simp only [dF c1, cond_false, cond_true, pcE_nn, Bool.and_true] at hn
    exact (hn _ _ _ _).trans (qq_ok ⟨i, hi, rfl, p :: l, hl, rfl, rfl, rfl⟩)
 ·rintro d vs ms os ⟨i, hi, rfl, l, hl, rfl, rfl, rfl⟩
  refine ⟨_, TOk.nil, .nil, 1, 1, 1, ?_⟩
  have e3 : IntKind.wrap IntKind.i64 ((i : Int) + Int.ofNat 1) = ((i + 1 : Nat) : Int) := by rw [wrI (by simp; omega)]; simp
  cases l with
  | nil =>
   have hn := rtE1 r b off m cap i
   simp only [e3] at hn
   exact (hn _ _ _ _).trans (qq_ok ⟨m - (i + 1), by omega, i + 1, hi, rfl, [], hl, rfl, rfl, rfl⟩)
  | cons p l =>
   have hn := rtE2 r b off m cap (l.length + 1) i (pcE (p :: l))
   simp only [e3, pcE_nn, Bool.and_true, cond_true] at hn
   exact (hn _ _ _ _).trans (qq_ok ⟨m - (i + 1), by omega, i + 1, hi, rfl, p :: l, hl, rfl, rfl, rfl⟩)
 ·rintro vs ms os ⟨l, hl, rfl, rfl, rfl⟩
  refine ⟨_, TOk.nil, .nil, 1, 1, 1, ?_⟩
  cases l with
  | nil => exact (rtF1 r _ _ _ _).trans (qq_ok ⟨[], hl, rfl, rfl, rfl⟩)
  | cons p l =>
   have hn := rtF2 r (l.length + 1) (pcE (p :: l))
   simp only [pcE_nn, Bool.and_true, cond_true] at hn
   exact (hn _ _ _ _).trans (qq_ok ⟨p :: l, hl, rfl, rfl, rfl⟩)
 ·rintro vs ms os ⟨l, rfl, rfl, rfl, rfl⟩
  generalize alP (twN w) m m = l
  cases l with
  | nil => exact ⟨_, mkA [], by kernel_rfl, rfl, rfl⟩
  | cons p l => exact ⟨_, mkA [some (.cells (pcE (p :: l)) 51 0 2)], by kernel_rfl, rfl, rfl⟩


def vN : List Nat → Value
 | [] => .slice none 0 0
 | _ :: l => .slice (some ⟨0, 0, none⟩) (l.length + 1) unk
def oN : List Nat → OO
 | [] => []
 | p :: l => [some (.cells (m_ws (p :: l)) 3 0 1)]

theorem rmod_ok (r : Mem) (b off m cap : Nat) (hm : m ≤ 16) (w : Nat → Nat) (hr : ∀ k, k < m → r b (off + k) = some (I (w k : Nat))) (hw : ∀ k, k < m → w k < 65536) :
  SOk (SC r) 19 [RS b off m cap] emptyA fun v A => v = vN (moL (isM w m) (2 ^ m)) ∧ A = mkA (oN (moL (isM w m) (2 ^ m))) := by
 have sm : ∀ l : List Value, m_same l l = true := same_rfl
 have h1 : 2 ^ m ≤ 65536 := Nat.pow_le_pow_right (n := 2) (by decide) hm
 have h2 := Nat.two_pow_pos m
 have ht : TOk (SC r) (tRx (RS b off m cap) (2 ^ m - 1 : Nat) fun s => isM w m s.toNat) := TOk.cons (TOk.cons TOk.nil (entV_ok (rall_ok r b off m cap hm) rfl)) (EOk.ent fun args A hg => by
  split at hg
  ·rename_i v s
   simp only [Bool.and_eq_true] at hg
   have h1 := @of_decide_eq_true _ (Classical.propDecidable _) hg.1
   have h2 := of_decide_eq_true hg.2
   cases h1
   have := rism_ok r b off m cap hm w hr hw (s := s.toNat) (by omega)
   rw [show ((s.toNat : Nat) : Int) = s by omega] at this
   exact this.ro rfl A
  ·cases hg)
 generalize isM w m = q at *
 generalize 2 ^ m = A at *
 refine callL (SC_ok r) (by kernel_rfl) ((bodySC r _).trans Rx_eq) (nt := 19) (by kernel_rfl) (rs := [.tmp 2]) (by kernel_rfl) 29 rfl (.step (.step .base)) TOk.nil (tm := .nil) (L := 1) (d := 1) lvRx []
  (fun j vs ms os => ∃ k, 1 ≤ k ∧ k ≤ A ∧ j = A - k ∧ ∃ l, l = moL q k ∧ vs = [some (RS b off m cap), some (vN l), some (I (k : Nat))] ∧ ms = [] ∧ os = oN l)
  ⟨[3], [], fun vs ms os => ∃ l, l = moL q A ∧ vs = [some (vN l)] ∧ ms = [] ∧ os = oN l⟩
  ⟨[2], [], fun vs ms os => ∃ l, l = moL q A ∧ vs = [some (vN l)] ∧ ms = [] ∧ os = oN l⟩ ?_ ?_ ?_ ?_
 ·exact (rxA r b off m cap _ _ _ _).trans (qq_ok ⟨A - 1, 1, Nat.le_refl _, by omega, rfl, [], rfl, rfl, rfl, rfl⟩)
 ·rintro j vs ms os ⟨k, hk1, hk, rfl, l, hl, rfl, rfl, rfl⟩
  refine ⟨_, ht, .nil, 1, 1, 1, ?_⟩
  have wk : k < A → m_w16 ((k : Nat) : Int) = true := fun h => decide_eq_true ⟨by omega, by omega⟩
  have hlen := moL_len q k
  rw [← hl] at hlen
  by_cases c : k < A
  ·have cc : decide ((k : Int) ≤ ((A - 1 : Nat) : Int)) = true := decide_eq_true (by omega)
   have st : ∀ l', l' = moL q (k + 1) → ∃ j', j' < A - k ∧ ∃ k', 1 ≤ k' ∧ k' ≤ A ∧ j' = A - k' ∧ ∃ l, l = moL q k' ∧ [some (RS b off m cap), some (vN l'), some (I ((k + 1 : Nat) : Int))] = [some (RS b off m cap), some (vN l), some (I (k' : Nat))] ∧ ([] : List Nat) = [] ∧ oN l' = oN l := fun l' hl' => ⟨A - (k + 1), by omega, k + 1, by omega, c, rfl, l', hl', rfl, rfl, rfl⟩
   cases hq : q k with
   | true =>
    have hs : moL q (k + 1) = moL q k ++ [k] := by rw [moL, if_pos ⟨hk1, hq⟩]
    cases l with
    | nil =>
     have hn := rxB1 r b off m cap k (A - 1 : Nat) fun s => q s.toNat
     simp only [sm, cc, wk c, Int.toNat_natCast, hq, iInc (show k < 1000000 by omega), Bool.and_self, cond_true] at hn
     exact (hn _ _ _).trans (qq_ok (st [k] (by rw [hs, ← hl]; rfl)))
    | cons p l =>
     have hn := rxB2 r b off m cap (l.length + 1) k (A - 1 : Nat) (m_ws (p :: l)) fun s => q s.toNat
     have m1 : Nat.ble (Nat.add (l.length + 1) 1) 1000000 = true := Nat.ble_eq_true_of_le (by simp at hlen ⊢; omega)
     have tk : takeAt (m_ws (p :: l)) 0 (Nat.mul (l.length + 1) 1) = some (m_ws (p :: l)) := takeL_all _ _ (by simp [m_ws])
     have ap : m_ws (p :: l) ++ [I (k : Nat)] = m_ws (p :: (l ++ [k])) := by simp [m_ws]
     have al : Nat.add (l.length + 1) 1 = (l ++ [k]).length + 1 := by simp
     simp only [sm, cc, wk c, Int.toNat_natCast, hq, iInc (show k < 1000000 by omega), m1, tk, ap, ws_nn, Bool.and_self, cond_true] at hn
     rw [al] at hn
     exact (hn _ _ _).trans (qq_ok (st (p :: (l ++ [k])) (by rw [hs, ← hl]; rfl)))
   | false =>
    have hs : moL q (k + 1) = moL q k := by rw [moL, if_neg (by simp [hq]), List.append_nil]
    cases l with
    | nil =>
     have hn := rxB1 r b off m cap k (A - 1 : Nat) fun s => q s.toNat
     simp only [sm, cc, wk c, Int.toNat_natCast, hq, iInc (show k < 1000000 by omega), Bool.and_self, cond_true, cond_false] at hn
     exact (hn _ _ _).trans (qq_ok (st [] (by rw [hs]; exact hl)))
    | cons p l =>
     have hn := rxB2 r b off m cap (l.length + 1) k (A - 1 : Nat) (m_ws (p :: l)) fun s => q s.toNat
     simp only [sm, cc, wk c, Int.toNat_natCast, hq, iInc (show k < 1000000 by omega), ws_nn, Bool.and_self, cond_true, cond_false] at hn
     exact (hn _ _ _).trans (qq_ok (st (p :: l) (by rw [hs]; exact hl)))
  ·obtain rfl : k = A := by omega
   have cc : decide ((k : Int) ≤ ((k - 1 : Nat) : Int)) = false := decide_eq_false (by omega)
   cases l with
   | nil =>
    have hn := rxB1 r b off m cap k (k - 1 : Nat) fun s => q s.toNat
    simp only [sm, cc, cond_true, cond_false] at hn
    exact (hn _ _ _).trans (qq_ok ⟨[], hl, rfl, rfl, rfl⟩)
   | cons p l =>
    have hn := rxB2 r b off m cap (l.length + 1) k (k - 1 : Nat) (m_ws (p :: l)) fun s => q s.toNat
    simp only [sm, cc, ws_nn, Bool.and_self, cond_true, cond_false] at hn
    exact (hn _ _ _).trans (qq_ok ⟨p :: l, hl, rfl, rfl, rfl⟩)
 ·rintro vs ms os ⟨l, hl, rfl, rfl, rfl⟩
  refine ⟨_, TOk.nil, .nil, 1, 1, 1, ?_⟩
  cases l with
  | nil => exact (rxC1 r _ _ _ _).trans (qq_ok ⟨[], hl, rfl, rfl, rfl⟩)
  | cons p l =>
   have hn := rxC2 r (l.length + 1) (m_ws (p :: l))
   simp only [ws_nn, Bool.and_self, cond_true] at hn
   exact (hn _ _ _ _).trans (qq_ok ⟨p :: l, hl, rfl, rfl, rfl⟩)
 ·rintro vs ms os ⟨l, rfl, rfl, rfl, rfl⟩
  generalize moL q A = l
  cases l with
  | nil => exact ⟨_, mkA [], by kernel_rfl, rfl, rfl⟩
  | cons p l => exact ⟨_, mkA [some (.cells (m_ws (p :: l)) 3 0 1)], by kernel_rfl, rfl, rfl⟩

theorem rcom_ok (r : Mem) (b off m cap : Nat) (hm : m ≤ 16) (w : Nat → Nat) (hr : ∀ k, k < m → r b (off + k) = some (I (w k : Nat))) (hw : ∀ k, k < m → w k < 65536) :
  SOk (SC r) 11 [RS b off m cap] emptyA fun v A => v = .slice (some ⟨0, 0, none⟩) m m ∧ A = mkA [some (.cells (m_ws (wcL w m m)) 3 0 1)] := by
 have sm : ∀ l : List Value, m_same l l = true := same_rfl
 have hA := all16 hm
 refine callL (SC_ok r) (by kernel_rfl) ((bodySC r _).trans Rw_eq) (nt := 28) (by kernel_rfl) (rs := [.tmp 2]) (by kernel_rfl) 29 rfl (.step (.step .base)) TOk.nil (tm := .nil) (L := 1) (d := 1) lvRx []
  (fun j vs ms os => ∃ k, k ≤ m ∧ j = m - k ∧ vs = [some (RS b off m cap), some (.slice (some ⟨0, 0, none⟩) m m), some (I (k : Nat))] ∧ ms = [] ∧ os = [some (.cells (m_ws (wcL w m k)) 3 0 1)])
  ⟨[3], [], fun vs ms os => vs = [some (.slice (some ⟨0, 0, none⟩) m m)] ∧ ms = [] ∧ os = [some (.cells (m_ws (wcL w m m)) 3 0 1)]⟩
  ⟨[2], [], fun vs ms os => vs = [some (.slice (some ⟨0, 0, none⟩) m m)] ∧ ms = [] ∧ os = [some (.cells (m_ws (wcL w m m)) 3 0 1)]⟩ ?_ ?_ ?_ ?_
 ·have e0 : zerosL (Nat.mul m 1) [Value.int IntKind.i64 (Int.ofNat 0)] = m_ws (wcL w m 0) := by
   have h : ∀ k, zerosL k [Value.int IntKind.i64 (Int.ofNat 0)] = (List.replicate k (Value.int IntKind.i64 (Int.ofNat 0))) := fun k => by
    induction k with
    | zero => rfl
    | succ k ih => rw [List.replicate_succ, ← ih]; rfl
   rw [Nat.mul_eq, Nat.mul_one, h]
   unfold m_ws wcL wcK
   apply List.ext_getElem
   ·simp
   ·intro i h1 h2
    simp
  have hn := rwA r b off m cap
  simp only [show Int.toNat (Int.ofNat m) = m from rfl, show Nat.ble m m = true from Nat.ble_eq_true_of_le (Nat.le_refl _), show Nat.ble m 1000000 = true from Nat.ble_eq_true_of_le (by omega), e0, ws_nn, Bool.and_self, cond_true] at hn
  exact (hn _ _ _ _).trans (qq_ok ⟨m, 0, Nat.zero_le _, rfl, rfl, rfl, rfl⟩)
 ·rintro j vs ms os ⟨k, hk, rfl, rfl, rfl, rfl⟩
  refine ⟨_, TOk.cons TOk.nil (entV_ok (rall_ok r b off m cap hm) rfl), .nil, 1, 1, 1, ?_⟩
  have hn := rwB r b off m cap k (2 ^ m - 1 : Nat) (m_ws (wcL w m k))
  by_cases c : k < m
  ·have e1 : r b (Nat.add off (Nat.mul k 1)) = some (I (w k : Nat)) := by rw [Nat.mul_eq, Nat.mul_one]; exact hr k c
   have h1 : anN (2 ^ m - 1) (w k) < 65536 := an_lt (k := 16) hA
   have h2 : 2 ^ k < 65536 := Nat.pow_lt_pow_right (n := 16) (by decide) (by omega)
   have u1 := (iO hA (hw k c)).2.2
   have u2 := (iO h1 h2).2.2
   change ibits .andNot .i64 _ _ = ((wcN w m k : Nat) : Int) at u2
   have hset : List.set (m_ws (wcL w m k)) (Nat.add 0 (Nat.mul k 1)) (I (wcN w m k : Nat)) = m_ws (wcL w m (k + 1)) := by
    rw [show Nat.add 0 (Nat.mul k 1) = k by simp, ← wcL_set w c]
    unfold m_ws
    rw [List.map_set]
   have hb : Nat.blt (Nat.add 0 (Nat.mul k 1)) (m_ws (wcL w m k)).length = true := Nat.ble_eq_true_of_le (by simp [m_ws, wcL]; omega)
   simp only [dT (show (k : Int) < Int.ofNat m by simp; omega), sm, dT (show 0 ≤ (k : Int) by omega), dF (show ¬ (k : Int) < 0 by omega), show Nat.blt k m = true from Nat.ble_eq_true_of_le c, Int.toNat_natCast, e1, show ∀ x, isI IntKind.i64 (I x) = true from fun _ => rfl, show ∀ x, ofI (I x) = x from fun _ => rfl, hb, ei, sh16 (show k < 16 by omega), u1, u2, hset, ws_nn, iInc (show k < 1000000 by omega), Bool.not_false, Bool.and_self, cond_true] at hn
   exact (hn _ _ _).trans (qq_ok ⟨m - (k + 1), by omega, k + 1, c, rfl, rfl, rfl, rfl⟩)
  ·obtain rfl : k = m := by omega
   simp only [dF (show ¬ (k : Int) < Int.ofNat k by simp), ws_nn, Bool.and_self, cond_true, cond_false] at hn
   exact (hn _ _ _).trans (qq_ok ⟨rfl, rfl, rfl⟩)
 ·rintro vs ms os ⟨rfl, rfl, rfl⟩
  refine ⟨_, TOk.nil, .nil, 1, 1, 1, ?_⟩
  have hn := rwC r m (m_ws (wcL w m m))
  simp only [ws_nn, Bool.and_self, cond_true] at hn
  exact (hn _ _ _ _).trans (qq_ok ⟨rfl, rfl, rfl⟩)
 ·rintro vs ms os ⟨rfl, rfl, rfl⟩
  exact ⟨_, mkA [some (.cells (m_ws (wcL w m m)) 3 0 1)], by kernel_rfl, rfl, rfl⟩

end Go.Proofs

/- maps.Keys and slices.AppendSeq over it, run: keys of kind u16. -/
namespace Go.Proofs.VK
open Go Go.Ev Go.Proofs
set_option maxRecDepth 100000
set_option linter.unusedVariables false
set_option linter.unusedSimpArgs false

def rfAs : Code → Code | .rangeFunc _ _ a _ => a | c => c
def rfBd : Code → Code | .rangeFunc _ _ _ b => b | c => c
noncomputable def cKs : Code := bodyOf S0 112
noncomputable def cAq : Code := bodyOf S0 113
noncomputable def cCo : Code := bodyOf S0 100

abbrev seqV : Value := .func (.func 112) ⟨[]⟩ ⟨[.pointer (some ⟨0, 0, none⟩)]⟩
def AK0 (e z clock : Nat) (es : List MapEntry) : AW := ⟨2, .node (.node .nil (some (.map es clock)) .nil) (some (.cells [.map (some 1)] e 0 z)) .nil, .nil⟩

noncomputable def k_aqA : Code := rfAs (ic (rc (lc (rc cAq))))
noncomputable def k_aqB : Code := rfBd (ic (rc (lc (rc cAq))))
def TQ : Tr Value := .node (.node .nil (some seqV) .nil) (some (.slice none 0 0)) (.node (.node .nil (some (.slice none 0 0)) .nil) (some (.pointer (some ⟨2, 0, none⟩))) .nil)
noncomputable def AKg (e z clock : Nat) (es : List MapEntry) (n : Nat) (sv : Value) (s5 s6 : Tr AObj) : AW :=
 ⟨n, .node (.node (.node .nil (some .defd) .nil) (some (.map es clock)) s5) (some (.cells [.map (some 1)] e 0 z)) (.node (.node .nil (some (.loop .ready none 183 ⟨[(6, seqV)], TQ⟩ 13 ⟨[7]⟩ k_aqA k_aqB 3)) .nil) (some (.cells [sv] 67 2 0)) s6), .nil⟩
def miT (clock : Nat) (seen : List Nat) : Tr AObj := .node .nil (some (.miter 1 clock seen clock)) .nil
def rwT (i : Nat) (l : List Value) : Tr AObj := .node .nil (some (.cells l 52 i 1)) .nil
def yK : List Value := [.func (.yield 4) ⟨[]⟩ ⟨[]⟩, .pointer (some ⟨0, 0, none⟩)]

def TK : Tr Value := .node (.node .nil (some (.pointer (some ⟨0, 0, none⟩))) (.node .nil (some (.pointer (some ⟨5, 0, none⟩))) .nil)) (some (.func (.yield 4) ⟨[]⟩ ⟨[]⟩)) .nil
def TKz (z : Int) : Tr Value := .node (.node (.node .nil (some (.int .u64 z)) .nil) (some (.pointer (some ⟨0, 0, none⟩))) (.node .nil (some (.pointer (some ⟨5, 0, none⟩))) .nil)) (some (.func (.yield 4) ⟨[]⟩ ⟨[]⟩)) .nil

theorem kyA (r : Mem) (L : Nat) (fs : FnsC) (e z clock : Nat) (es : List MapEntry) (kn : KS) (kx : Nat → KS) (kr : KS) (ms : List Nat) : run (SC r) 183 13 L (.seq (lc cAq) (lc (lc (rc cAq)))) fs none kn kx kr (sc0 183 [.slice none 0 0, seqV]) (tr0 183 [.slice none 0 0, seqV]) ms (AK0 e z clock es) =
    kn [(6, .func (Fn.func 112) ⟨[]⟩ ⟨[.pointer (some ⟨0, 0, none⟩)]⟩)] (.node (.node .nil (some (.func (Fn.func 112) ⟨[]⟩ ⟨[.pointer (some ⟨0, 0, none⟩)]⟩)) .nil) (some (.slice none 0 0)) (.node (.node .nil (some (.slice none 0 0)) .nil) (some (.pointer (some ⟨2, 0, none⟩))) .nil)) ms (AW.mk 3 (.node (.node .nil (some (AObj.map es clock)) .nil) (some (.cells [Value.map (some 1)] e 0 z)) (.node .nil (some (.cells [.slice none 0 0] 67 2 0)) .nil)) .nil) := by kernel_rfl

theorem kyB (r : Mem) (L : Nat) (fs : FnsC) (e z clock : Nat) (es : List MapEntry) (kn : KS) (kx : Nat → KS) (kr : KS) (ms : List Nat) : run (SC r) 43 14 L (lc cKs) fs none kn kx kr (sc0 43 yK) (tr0 43 yK) ms (AKg e z clock es 5 (.slice none 0 0) .nil .nil) =
    kn [(4, Value.map (some 1))] (.node (.node .nil (some (.pointer (some ⟨0, 0, none⟩))) (.node .nil (some (.pointer (some ⟨5, 0, none⟩))) .nil)) (some (.func (Fn.yield 4) ⟨[]⟩ ⟨[]⟩)) .nil) ms (AW.mk 6 (.node (.node (.node .nil (some .defd) .nil) (some (AObj.map es clock)) (.node .nil (some (AObj.miter 1 clock [] clock)) .nil)) (some (.cells [Value.map (some 1)] e 0 z)) (.node (.node .nil (some (AObj.loop LoopState.ready none 183 (En.mk [(6, .func (Fn.func 112) ⟨[]⟩ ⟨[.pointer (some ⟨0, 0, none⟩)]⟩)] (.node (.node .nil (some (.func (Fn.func 112) ⟨[]⟩ ⟨[.pointer (some ⟨0, 0, none⟩)]⟩)) .nil) (some (.slice none 0 0)) (.node (.node .nil (some (.slice none 0 0)) .nil) (some (.pointer (some ⟨2, 0, none⟩))) .nil))) 13 ⟨[7]⟩ (Code.region 2 #[Oper.mk (some 5) (Op.assign (Operand.tmp 7)) 52 "iter.go:51" #[] none] false) (Code.block 1 (Code.region 3 #[Oper.mk (some 8) (Op.load 67 (Operand.tmp 2)) 67 "iter.go:52" #[] none, Oper.mk (some 9) (Op.move (Operand.tmp 5)) 52 "iter.go:52" #[] none, Oper.mk (some 10) (Op.buildSlice 67 1 #[(0, Operand.tmp 9)]) 67 "iter.go:52" #[Edge.mk 1 Ground.data] none, Oper.mk (some 11) (Op.call (Call.mk (Callee.builtin Builtin.append) #[Operand.tmp 8, Operand.tmp 10] #[67, 67])) 67 "iter.go:52" #[Edge.mk 0 Ground.data, Edge.mk 2 Ground.data] none, Oper.mk none (Op.store 67 (Operand.tmp 2) (Operand.tmp 11)) 0 "iter.go:52" #[Edge.mk 3 Ground.data, Edge.mk 3 Ground.chain, Edge.mk 0 Ground.phase, Edge.mk 1 Ground.phase, Edge.mk 2 Ground.phase, Edge.mk 3 Ground.phase] none] false)) 3)) .nil) (some (.cells [.slice none 0 0] 67 2 0)) .nil)) .nil) := by kernel_rfl

theorem kyC (r : Mem) (L : Nat) (fs : FnsC) (s : List (Nat × Value)) (b : Tr Value) (q : Bool) (kn : KS) (kx : Nat → KS) (kr : KS) (ms : List Nat) (A : AW) : run (SC r) 43 14 L (lc (rc (ic (ic (rc cKs))))) fs none kn kx kr ((7, .bool q) :: s) b ms A =
    bif q then kn ((7, .bool q) :: s) b ms A else kx 0 ((7, .bool q) :: s) b ms A := by kernel_rfl

theorem kyP (r : Mem) (fs : FnsC) (kn : KS) (ms : List Nat) (A : AW) : preK (SC r) 43 14 (lc (ic (ic (rc cKs)))) 0 fs kn [] TK ms A =
    kn [] (.node (.node .nil (some (.pointer (some ⟨0, 0, none⟩))) (.node .nil (some (.pointer (some ⟨5, 0, none⟩))) .nil)) (some (.func (Fn.yield 4) ⟨[]⟩ ⟨[]⟩)) .nil) ms A := by kernel_rfl

theorem kyN (r : Mem) (fs : FnsC) (x : Int) (vb : Bool) (kn : KS) (ms : List Nat) (A : AW) : tailK (SC r) 43 14 (lc (ic (ic (rc cKs)))) 0 fs kn (.tuple ⟨[.bool true, .int .u64 x, .bool vb]⟩) [] TK ms A =
    kn [(7, .bool true), (6, .tuple ⟨[.bool true, .int .u64 x, .bool vb]⟩)] (.node (.node .nil (some (.pointer (some ⟨0, 0, none⟩))) (.node .nil (some (.pointer (some ⟨5, 0, none⟩))) .nil)) (some (.func (Fn.yield 4) ⟨[]⟩ ⟨[]⟩)) .nil) ms A := by kernel_rfl

theorem kyM (r : Mem) (fs : FnsC) (kn : KS) (ms : List Nat) (A : AW) : tailK (SC r) 43 14 (lc (ic (ic (rc cKs)))) 0 fs kn (.tuple ⟨[.bool false]⟩) [] TK ms A =
    kn [(7, .bool false), (6, .tuple ⟨[.bool false]⟩)] (.node (.node .nil (some (.pointer (some ⟨0, 0, none⟩))) (.node .nil (some (.pointer (some ⟨5, 0, none⟩))) .nil)) (some (.func (Fn.yield 4) ⟨[]⟩ ⟨[]⟩)) .nil) ms A := by kernel_rfl

theorem kyQ (r : Mem) (fs : FnsC) (kn : KS) (ms : List Nat) (A : AW) : preK (SC r) 43 14 (lc (ic (rc (rc (ic (ic (rc cKs))))))) 0 fs kn [] TK ms A =
    kn [] (.node (.node .nil (some (.pointer (some ⟨0, 0, none⟩))) (.node .nil (some (.pointer (some ⟨5, 0, none⟩))) .nil)) (some (.func (Fn.yield 4) ⟨[]⟩ ⟨[]⟩)) .nil) ms A := by kernel_rfl

theorem kyE (r : Mem) (fs : FnsC) (x : Int) (vb : Bool) (kn : KS) (ms : List Nat) (A : AW) : tailK (SC r) 43 14 (lc (ic (rc (rc (ic (ic (rc cKs))))))) 0 fs kn (.tuple ⟨[.int .u64 x, .bool vb]⟩) [] TK ms A =
    kn [(9, .int .u64 x), (8, .tuple ⟨[.int .u64 x, .bool vb]⟩)] (.node (.node (.node .nil (some (.int .u64 x)) .nil) (some (.pointer (some ⟨0, 0, none⟩))) (.node .nil (some (.pointer (some ⟨5, 0, none⟩))) .nil)) (some (.func (Fn.yield 4) ⟨[]⟩ ⟨[]⟩)) .nil) ms A := by kernel_rfl

theorem kyY (r : Mem) (L : Nat) (tm : Tr Nat) (e z clock : Nat) (es : List MapEntry) (seen : List Nat) (x : Int) (s : List (Nat × Value)) (kn : KS) (kx : Nat → KS) (kr : KS) (ms : List Nat) : run (SC r) 43 14 L (rc (ic (rc (rc (ic (ic (rc cKs))))))) (lvlT (SC r) (fun _ => none) tm L 1) none kn kx kr s (TKz x) ms (AKg e z clock es 6 (.slice none 0 0) (miT clock seen) .nil) =
    kn [(13, .bool false), (12, .bool true), (11, .int .u64 x), (10, .func (Fn.yield 4) ⟨[]⟩ ⟨[]⟩)] (.node (.node (.node .nil (some (.int .u64 x)) .nil) (some (.pointer (some ⟨0, 0, none⟩))) (.node .nil (some (.pointer (some ⟨5, 0, none⟩))) .nil)) (some (.func (Fn.yield 4) ⟨[]⟩ ⟨[]⟩)) .nil) ms (AW.mk 8 (.node (.node (.node (.node .nil (some (.cells [.int .u64 x] 52 7 1)) .nil) (some .defd) .nil) (some (AObj.map es clock)) (.node .nil (some (AObj.miter 1 clock seen clock)) .nil)) (some (.cells [Value.map (some 1)] e 0 z)) (.node (.node .nil (some (AObj.loop LoopState.ready none 183 (En.mk [(6, .func (Fn.func 112) ⟨[]⟩ ⟨[.pointer (some ⟨0, 0, none⟩)]⟩)] (.node (.node .nil (some (.func (Fn.func 112) ⟨[]⟩ ⟨[.pointer (some ⟨0, 0, none⟩)]⟩)) .nil) (some (.slice none 0 0)) (.node (.node .nil (some (.slice none 0 0)) .nil) (some (.pointer (some ⟨2, 0, none⟩))) .nil))) 13 ⟨[7]⟩ (Code.region 2 #[Oper.mk (some 5) (Op.assign (Operand.tmp 7)) 52 "iter.go:51" #[] none] false) (Code.block 1 (Code.region 3 #[Oper.mk (some 8) (Op.load 67 (Operand.tmp 2)) 67 "iter.go:52" #[] none, Oper.mk (some 9) (Op.move (Operand.tmp 5)) 52 "iter.go:52" #[] none, Oper.mk (some 10) (Op.buildSlice 67 1 #[(0, Operand.tmp 9)]) 67 "iter.go:52" #[Edge.mk 1 Ground.data] none, Oper.mk (some 11) (Op.call (Call.mk (Callee.builtin Builtin.append) #[Operand.tmp 8, Operand.tmp 10] #[67, 67])) 67 "iter.go:52" #[Edge.mk 0 Ground.data, Edge.mk 2 Ground.data] none, Oper.mk none (Op.store 67 (Operand.tmp 2) (Operand.tmp 11)) 0 "iter.go:52" #[Edge.mk 3 Ground.data, Edge.mk 3 Ground.chain, Edge.mk 0 Ground.phase, Edge.mk 1 Ground.phase, Edge.mk 2 Ground.phase, Edge.mk 3 Ground.phase] none] false)) 3)) .nil) (some (.cells [.slice (some ⟨7, 0, none⟩) 1 unk] 67 2 0)) (.node .nil (some (.cells [.int .u64 x] 52 6 1)) .nil))) .nil) := by kernel_rfl

theorem kyZ (r : Mem) (L : Nat) (tm : Tr Nat) (e z clock : Nat) (es : List MapEntry) (seen : List Nat) (x : Int) (l : List Value) (n : Nat) (s : List (Nat × Value)) (kn : KS) (kx : Nat → KS) (kr : KS) (ms : List Nat) : run (SC r) 43 14 L (rc (ic (rc (rc (ic (ic (rc cKs))))))) (lvlT (SC r) (fun _ => none) tm L 1) none kn kx kr s (TKz x) ms (AKg e z clock es 7 (.slice (some ⟨6, 0, none⟩) n unk) (miT clock seen) (rwT 6 l)) =
    bif Nat.ble (Nat.add n 1) 1000000 then Option.casesOn (takeAt l 0 (Nat.mul n 1)) (.fail 439) fun val => kn [(13, .bool false), (12, .bool true), (11, .int .u64 x), (10, .func (Fn.yield 4) ⟨[]⟩ ⟨[]⟩)] (.node (.node (.node .nil (some (.int .u64 x)) .nil) (some (.pointer (some ⟨0, 0, none⟩))) (.node .nil (some (.pointer (some ⟨5, 0, none⟩))) .nil)) (some (.func (Fn.yield 4) ⟨[]⟩ ⟨[]⟩)) .nil) ms (AW.mk 9 (.node (.node (.node (.node .nil (some (.cells [.int .u64 x] 52 7 1)) .nil) (some .defd) .nil) (some (AObj.map es clock)) (.node .nil (some (AObj.miter 1 clock seen clock)) .nil)) (some (.cells [Value.map (some 1)] e 0 z)) (.node (.node (.node .nil (some (.cells (val ++ [.int .u64 x]) 52 6 1)) .nil) (some (AObj.loop LoopState.ready none 183 (En.mk [(6, .func (Fn.func 112) ⟨[]⟩ ⟨[.pointer (some ⟨0, 0, none⟩)]⟩)] (.node (.node .nil (some (.func (Fn.func 112) ⟨[]⟩ ⟨[.pointer (some ⟨0, 0, none⟩)]⟩)) .nil) (some (.slice none 0 0)) (.node (.node .nil (some (.slice none 0 0)) .nil) (some (.pointer (some ⟨2, 0, none⟩))) .nil))) 13 ⟨[7]⟩ (Code.region 2 #[Oper.mk (some 5) (Op.assign (Operand.tmp 7)) 52 "iter.go:51" #[] none] false) (Code.block 1 (Code.region 3 #[Oper.mk (some 8) (Op.load 67 (Operand.tmp 2)) 67 "iter.go:52" #[] none, Oper.mk (some 9) (Op.move (Operand.tmp 5)) 52 "iter.go:52" #[] none, Oper.mk (some 10) (Op.buildSlice 67 1 #[(0, Operand.tmp 9)]) 67 "iter.go:52" #[Edge.mk 1 Ground.data] none, Oper.mk (some 11) (Op.call (Call.mk (Callee.builtin Builtin.append) #[Operand.tmp 8, Operand.tmp 10] #[67, 67])) 67 "iter.go:52" #[Edge.mk 0 Ground.data, Edge.mk 2 Ground.data] none, Oper.mk none (Op.store 67 (Operand.tmp 2) (Operand.tmp 11)) 0 "iter.go:52" #[Edge.mk 3 Ground.data, Edge.mk 3 Ground.chain, Edge.mk 0 Ground.phase, Edge.mk 1 Ground.phase, Edge.mk 2 Ground.phase, Edge.mk 3 Ground.phase] none] false)) 3)) .nil) (some (.cells [.slice (some ⟨8, 0, none⟩) (Nat.add n 1) unk] 67 2 0)) (.node .nil none .nil))) (.node .nil none (.node .nil none (.node .nil (some [8]) .nil)))) else .fail 420 := by kernel_rfl

end Go.Proofs.VK

/- maps.Keys over slices.AppendSeq: the walk, each key once, in any order. -/
namespace Go.Proofs.VK
open Go Go.Ev Go.Proofs
set_option maxRecDepth 100000
set_option linter.unusedVariables false
set_option linter.unusedSimpArgs false

abbrev K16 : Type := {x : Int // 0 ≤ x ∧ x < 65536}
abbrev KT : Type := K16 × Bool × Nat
def mkE (t : KT) : MapEntry := ⟨.int .u64 t.1.1, .bool t.2.1, t.2.2⟩
def rowK (l : List KT) : List Value := l.map fun t => .int .u64 t.1.1
def bornK (l : List KT) : List Nat := l.map fun t => t.2.2
theorem rowK_len (l : List KT) : (rowK l).length = l.length := by simp [rowK]
theorem rowK_gnd (l : List KT) : ∀ v ∈ rowK l, gnd v = true := fun v hv => by
 obtain ⟨t, _, rfl⟩ := List.mem_map.1 hv
 rfl
theorem takeAt_fullK (l : List Value) (n : Nat) (h : l.length = n) : takeAt l 0 n = some l := takeAt_all l n 0 l h fun j _ => by rw [Nat.zero_add]
theorem natFK {i j : Nat} (h : i ≠ j) : Nat.beq i j = false := by
 cases e : Nat.beq i j with
 | false => rfl
 | true => exact absurd (Nat.eq_of_beq_eq_true e) h

structure KOk (q : List KT) (clock : Nat) : Prop where
 born : ∀ t ∈ q, t.2.2 < clock
 nodup : (bornK q).Nodup
 few : q.length < 1000000

theorem left_mem {q : List KT} {seen : List Nat} {e : MapEntry} (h : e ∈ nextLeft (q.map mkE) seen) : ∃ t ∈ q, e = mkE t ∧ t.2.2 ∉ seen := by
 unfold nextLeft at h
 obtain ⟨h1, h2⟩ := List.mem_filter.1 h
 obtain ⟨t, ht, rfl⟩ := List.mem_map.1 h1
 refine ⟨t, ht, rfl, fun hm => ?_⟩
 simp [mkE, hm] at h2

theorem left_nil {q : List KT} {seen : List Nat} (h : nextLeft (q.map mkE) seen = []) : ∀ t ∈ q, t.2.2 ∈ seen := fun t ht => by
 unfold nextLeft at h
 have := List.filter_eq_nil_iff.1 h (mkE t) (List.mem_map_of_mem ht)
 simpa [mkE] using this

theorem left_done {q vis rest : List KT} {clock : Nat} (hq : KOk q clock) (hp : (vis ++ rest).Perm q) (h : nextLeft (q.map mkE) (bornK vis) = []) : rest = [] := by
 cases rest with
 | nil => rfl
 | cons t l =>
  exfalso
  have h1 := left_nil h t (hp.mem_iff.1 (by simp))
  have h2 : (bornK (vis ++ t :: l)).Nodup := (hp.map _).nodup_iff.2 hq.nodup
  unfold bornK at h1 h2
  rw [List.map_append, List.nodup_append] at h2
  exact h2.2.2 _ h1 t.2.2 (by simp) rfl

theorem left_more {q vis rest : List KT} {clock : Nat} (hq : KOk q clock) (hp : (vis ++ rest).Perm q) {e : MapEntry} (h : e ∈ nextLeft (q.map mkE) (bornK vis)) : ∃ t rest', e = mkE t ∧ rest'.length < rest.length ∧ ((vis ++ [t]) ++ rest').Perm q := by
 obtain ⟨t, ht, rfl, hn⟩ := left_mem h
 have hm : t ∈ rest := by
  rcases List.mem_append.1 (hp.mem_iff.2 ht) with h1 | h1
  ·exact absurd (List.mem_map_of_mem (f := fun t : KT => t.2.2) h1) hn
  ·exact h1
 obtain ⟨a, b, rfl⟩ := List.append_of_mem hm
 refine ⟨t, a ++ b, rfl, by simp, List.Perm.trans ?_ hp⟩
 rw [List.append_assoc]
 refine List.Perm.append_left vis ?_
 simpa using List.perm_middle.symm

theorem same_ok {q : List KT} {clock : Nat} (hq : KOk q clock) (seen : List Nat) : nextSame (q.map mkE) clock seen clock = true := by
 unfold nextSame
 simp only [Bool.and_eq_true, Bool.not_eq_true', List.all_eq_true, decide_eq_true_eq]
 refine ⟨?_, fun e he => ?_⟩
 ·cases q with
  | nil => simp
  | cons t l =>
   have := hq.born t (by simp)
   have h2 : (List.map mkE (t :: l)).all (fun e => decide (clock ≤ e.born)) = false := by
    simp [mkE]
    intro h
    omega
   rw [h2]
   simp
 ·obtain ⟨t, ht, rfl, _⟩ := left_mem he
  exact hq.born t ht

theorem find_ok {q : List KT} {clock : Nat} (hq : KOk q clock) {t : KT} (ht : t ∈ q) : (q.map mkE).find? (fun e => Nat.beq e.born t.2.2) = some (mkE t) := by
 have key : ∀ (l : List KT), (bornK l).Nodup → t ∈ l → (l.map mkE).find? (fun e => Nat.beq e.born t.2.2) = some (mkE t) := by
  intro l
  induction l with
  | nil => intro _ h; cases h
  | cons x l ih =>
   intro hn hm
   rw [List.map_cons, List.find?_cons]
   unfold bornK at hn
   rw [List.map_cons, List.nodup_cons] at hn
   rcases List.mem_cons.1 hm with rfl | hm
   ·rw [show Nat.beq (mkE t).born t.2.2 = true from Nat.beq_refl _]
   ·have hne : x.2.2 ≠ t.2.2 := fun h => hn.1 (by rw [h]; exact List.mem_map_of_mem (f := fun t : KT => t.2.2) hm)
    rw [show Nat.beq (mkE x).born t.2.2 = false from natFK hne]
    exact ih hn.2 hm
 exact key q hq.nodup ht

section
variable {r : Mem} {γ0 : Gam} {W0 : World} {e z clock : Nat} {q : List KT}

noncomputable def AKv (e z clock : Nat) (q : List KT) : List KT → AW
 | [] => AKg e z clock (q.map mkE) 6 (.slice none 0 0) (miT clock []) .nil
 | t :: l => AKg e z clock (q.map mkE) 7 (.slice (some ⟨6, 0, none⟩) (t :: l).length unk) (miT clock (bornK (t :: l))) (rwT 6 (rowK (t :: l)))
noncomputable def AKf (e z clock : Nat) (q : List KT) : List KT → AW
 | [] => AKg e z clock (q.map mkE) 5 (.slice none 0 0) .nil .nil
 | t :: l => AKg e z clock (q.map mkE) 6 (.slice (some ⟨5, 0, none⟩) (t :: l).length unk) (rwT 5 (rowK (t :: l))) .nil
noncomputable def AKn (e z clock : Nat) (q : List KT) (seen : List Nat) : List KT → AW
 | [] => AKg e z clock (q.map mkE) 6 (.slice none 0 0) (miT clock seen) .nil
 | t :: l => AKg e z clock (q.map mkE) 7 (.slice (some ⟨6, 0, none⟩) (t :: l).length unk) (miT clock seen) (rwT 6 (rowK (t :: l)))


theorem ksG (q : List KT) : ∀ x ∈ q.map mkE, gnd x.key = true ∧ gnd x.val = true := fun x hx => by
 obtain ⟨t, _, rfl⟩ := List.mem_map.1 hx
 exact ⟨rfl, rfl⟩

theorem ren_start (h0 : ∀ i, 5 ≤ i → γ0 i = none) (s : List (Nat × Value)) : Ren (SC r) 43 14 γ0 W0 ⟨⟨s, TK⟩, [], AKv e z clock q []⟩ ⟨⟨[], TK⟩, [], AKv e z clock q []⟩ := by
 refine Ren.of (fun i => i) 5 rfl h0 (Nat.le_of_ble_eq_true rfl) (fun i hi => rfl) ?_ rfl ?_ trivial
 ·simp only [Tr.All, TK]
  repeat' (first | exact trivial | apply And.intro)
  all_goals exact ⟨_, rfl, rfl⟩
 ·simp only [Tr.All, AKv, AKg, miT]
  repeat' (first | exact trivial | apply And.intro)
  all_goals first | rfl | exact .head _ | exact ⟨_, rfl, .defd⟩ | exact ⟨_, rfl, .map (ksG q)⟩ | exact ⟨_, rfl, .miter rfl rfl⟩ | exact ⟨_, rfl, .cells rfl⟩ | exact ⟨_, rfl, .plain (by skip)⟩ | skip
  refine ⟨_, rfl, .same ?_ ?_ rfl rfl⟩
  ·simp only [Tr.All, TQ]
   repeat' (first | exact trivial | apply And.intro)
   all_goals rfl
  ·simp only [scrFix]
   repeat' (first | exact trivial | apply And.intro)
   all_goals rfl

def KeySt (e z clock : Nat) (q : List KT) (j : Nat) (st : St) : Prop := ∃ vis rest, rest.length = j ∧ (vis ++ rest).Perm q ∧ st = ⟨⟨[], TK⟩, [], AKv e z clock q vis⟩

def KeyQ (r : Mem) (γ0 : Gam) (W0 : World) (e z clock : Nat) (q : List KT) : Exit → St → Prop
 | .exit id, st => id = 0 ∧ ∃ vis, vis.Perm q ∧ ∃ st1, Ren (SC r) 43 14 γ0 W0 st st1 ∧ st1 = ⟨⟨[], .nil⟩, [], AKf e z clock q vis⟩
 | _, _ => False

theorem ren_out (h0 : ∀ i, 5 ≤ i → γ0 i = none) (s : List (Nat × Value)) (vis : List KT) : Ren (SC r) 43 14 γ0 W0 ⟨⟨s, TK⟩, [], AKv e z clock q vis⟩ ⟨⟨[], .nil⟩, [], AKf e z clock q vis⟩ := by
 cases vis with
 | nil =>
  refine Ren.of (fun i => i) 5 rfl h0 (Nat.le_of_ble_eq_true rfl) (fun i hi => rfl) ?_ rfl ?_ trivial
  ·simp only [Tr.All, TK]
   repeat' (first | exact trivial | apply And.intro)
   all_goals exact ⟨_, rfl, rfl⟩
  ·simp only [Tr.All, AKv, AKf, AKg, miT]
   repeat' (first | exact trivial | apply And.intro)
   all_goals first | rfl | exact .head _ | exact ⟨_, rfl, .defd⟩ | exact ⟨_, rfl, .map (ksG q)⟩ | exact ⟨_, rfl, .miter rfl rfl⟩ | exact ⟨_, rfl, .cells rfl⟩ | exact ⟨_, rfl, .plain (by skip)⟩ | skip
   refine ⟨_, rfl, .same ?_ ?_ rfl rfl⟩
   ·simp only [Tr.All, TQ]
    repeat' (first | exact trivial | apply And.intro)
    all_goals rfl
   ·simp only [scrFix]
    repeat' (first | exact trivial | apply And.intro)
    all_goals rfl
 | cons t l =>
  refine Ren.of (fun i => bif Nat.beq i 5 then 6 else i) 5 rfl h0 (Nat.le_of_ble_eq_true rfl) (fun i hi => by have : Nat.beq i 5 = false := natFK (by omega); rw [this]; rfl) ?_ rfl ?_ trivial
  ·simp only [Tr.All, TK]
   repeat' (first | exact trivial | apply And.intro)
   all_goals exact ⟨_, rfl, rfl⟩
  ·simp only [Tr.All, AKv, AKf, AKg, miT, rwT]
   repeat' (first | exact trivial | apply And.intro)
   all_goals first | rfl | exact .head _ | exact ⟨_, rfl, .defd⟩ | exact ⟨_, rfl, .map (ksG q)⟩ | exact ⟨_, rfl, .miter rfl rfl⟩ | exact ⟨_, rfl, .cells rfl⟩ | exact ⟨_, rfl, .plain (by exact rowK_gnd (t :: l))⟩ | skip
   refine ⟨_, rfl, .same ?_ ?_ rfl rfl⟩
   ·simp only [Tr.All, TQ]
    repeat' (first | exact trivial | apply And.intro)
    all_goals rfl
   ·simp only [scrFix]
    repeat' (first | exact trivial | apply And.intro)
    all_goals rfl

theorem put_seen {vis : List KT} {seen : List Nat} : ({ AKv e z clock q vis with heap := (AKv e z clock q vis).heap.put 5 (some (.miter 1 clock seen clock)) } : AW) = AKn e z clock q seen vis := by
 cases vis <;> rfl

theorem key_body (hq : KOk q clock) (h0 : ∀ i, 5 ≤ i → γ0 i = none) {F : Fence} {k : Nat} (hF : Wide F) (hro : F.round = none) {j : Nat} {st : St} (hs : KeySt e z clock q j st) :
  Go.Ev.Reach (SC r) 43 14 F k γ0 W0 (ic (ic (rc cKs))) st fun ex st' => match ex with
   | .normal => ∃ j', j' < j ∧ ∃ st1, Ren (SC r) 43 14 γ0 W0 st' st1 ∧ KeySt e z clock q j' st1
   | ex => KeyQ r γ0 W0 e z clock q ex st' := by
 obtain ⟨vis, rest, rfl, hp, rfl⟩ := hs
 rw [show ic (ic (rc cKs)) = Code.seq (lc (ic (ic (rc cKs)))) (.seq (lc (rc (ic (ic (rc cKs))))) (.block 1 (ic (rc (rc (ic (ic (rc cKs)))))))) from by kernel_rfl]
 have hi : (AKv e z clock q vis).heap.get 5 = some (.miter 1 clock (bornK vis) clock) := by cases vis <;> rfl
 have hm : (AKv e z clock q vis).heap.get 1 = some (.map (q.map mkE) clock) := by cases vis <;> rfl
 refine Go.Ev.Reach.seq (Go.Ev.Reach.nextP (SC_ok r) hF TOk.nil (tm := .nil) (L := 0) (d := 0) 0 (s1 := []) (b1 := TK) (ms1 := []) (A1 := AKv e z clock q vis) ?_ (by kernel_rfl) hi hm (same_ok hq _) fun v A' hv => ?_)
 ·rw [kyP]
  exact qn_ok rfl
 rcases hv with ⟨hnil, rfl, rfl⟩ | ⟨x, hx, rfl, rfl⟩
 ·rw [kyM]
  refine qn_ok (Go.Ev.Reach.seq (Go.Ev.Reach.seg (SC_ok r) TOk.nil (tm := .nil) (L := 1) (L' := 1) (d := 1) hF hro ?_))
  rw [kyC]
  simp only [cond_false]
  have := left_done hq hp hnil
  subst this
  rw [List.append_nil] at hp
  exact qn_ok ⟨rfl, vis, hp, _, ren_out h0 _ vis, rfl⟩
 ·obtain ⟨t, rest', rfl, hlt, hp'⟩ := left_more hq hp hx
  rw [show (mkE t).key = .int .u64 t.1.1 from rfl, show (mkE t).val = .bool t.2.1 from rfl, show (mkE t).born = t.2.2 from rfl, kyN, put_seen]
  refine qn_ok (Go.Ev.Reach.seq (Go.Ev.Reach.seg (SC_ok r) TOk.nil (tm := .nil) (L := 1) (L' := 1) (d := 1) hF hro ?_))
  rw [kyC]
  simp only [cond_true]
  have ht : t ∈ q := hp'.mem_iff.1 (by simp)
  have hi : (AKn e z clock q (bornK vis ++ [t.2.2]) vis).heap.get 5 = some (.miter 1 clock (bornK vis ++ [t.2.2]) clock) := by cases vis <;> rfl
  have hm : (AKn e z clock q (bornK vis ++ [t.2.2]) vis).heap.get 1 = some (.map (q.map mkE) clock) := by cases vis <;> rfl
  refine qn_ok (Go.Ev.Reach.block ?_)
  rw [show ic (rc (rc (ic (ic (rc cKs))))) = Code.seq (lc (ic (rc (rc (ic (ic (rc cKs))))))) (rc (ic (rc (rc (ic (ic (rc cKs))))))) from by kernel_rfl]
  refine Go.Ev.Reach.seq (Go.Ev.Reach.entryP (SC_ok r) hF TOk.nil (tm := .nil) (L := 0) (d := 0) 0 (s1 := []) (b1 := TK) (ms1 := []) (A1 := AKn e z clock q (bornK vis ++ [t.2.2]) vis) (i := 5) ?_ (by kernel_rfl) hi hm (by simp) (find_ok hq ht) ?_)
  ·exact (kyQ ..).trans (qn_ok rfl)
  rw [show (mkE t).key = .int .u64 t.1.1 from rfl, show (mkE t).val = .bool t.2.1 from rfl, kyE]
  refine qn_ok (Go.Ev.Reach.seg (SC_ok r) TOk.nil (tm := .nil) (L := 1) (L' := 1) (d := 1) hF hro ?_)
  cases vis with
  | nil =>
   refine (kyY ..).trans (qn_ok ⟨rest'.length, hlt, _, ?_, [t], rest', rfl, hp', rfl⟩)
   show Ren _ _ _ _ _ _ ⟨⟨[], TK⟩, [], AKg e z clock (q.map mkE) 7 (.slice (some ⟨6, 0, none⟩) 1 unk) (miT clock [t.2.2]) (rwT 6 [.int .u64 t.1.1])⟩
   refine Ren.of (fun i => bif Nat.beq i 6 then 7 else i) 5 rfl h0 (Nat.le_of_ble_eq_true rfl) (fun i hi => by have : Nat.beq i 6 = false := natFK (by omega); rw [this]; rfl) ?_ rfl ?_ trivial
   ·simp only [Tr.All, TK]
    repeat' (first | exact trivial | apply And.intro)
    all_goals exact ⟨_, rfl, rfl⟩
   ·simp only [Tr.All, AKg, miT, rwT]
    repeat' (first | exact trivial | apply And.intro)
    all_goals first | rfl | exact .head _ | exact ⟨_, rfl, .defd⟩ | exact ⟨_, rfl, .map (ksG q)⟩ | exact ⟨_, rfl, .miter rfl rfl⟩ | exact ⟨_, rfl, .cells rfl⟩ | exact ⟨_, rfl, .plain (by intro v hv; rw [List.mem_singleton.1 hv]; rfl)⟩ | skip
    refine ⟨_, rfl, .same ?_ ?_ rfl rfl⟩
    ·simp only [Tr.All, TQ]
     repeat' (first | exact trivial | apply And.intro)
     all_goals rfl
    ·simp only [scrFix]
     repeat' (first | exact trivial | apply And.intro)
     all_goals rfl
  | cons t0 l =>
   have hlen : (t0 :: l).length + 1 ≤ q.length := by
    have := hp'.length_eq
    simp only [List.length_append, List.length_cons, List.length_nil] at this ⊢
    omega
   have hfew := hq.few
   have g1 : Nat.ble (Nat.add (t0 :: l).length 1) 1000000 = true := Nat.ble_eq_true_of_le (by simp only [Nat.add_eq]; omega)
   have g2 : takeAt (rowK (t0 :: l)) 0 (Nat.mul (t0 :: l).length 1) = some (rowK (t0 :: l)) := takeAt_fullK _ _ (by rw [rowK_len]; simp)
   refine (kyZ ..).trans ?_
   rw [g1, g2]
   simp only [cond_true]
   refine qn_ok ⟨rest'.length, hlt, _, ?_, (t0 :: l) ++ [t], rest', rfl, hp', rfl⟩
   show Ren _ _ _ _ _ _ ⟨⟨[], TK⟩, [], AKg e z clock (q.map mkE) 7 (.slice (some ⟨6, 0, none⟩) ((t0 :: l) ++ [t]).length unk) (miT clock (bornK ((t0 :: l) ++ [t]))) (rwT 6 (rowK ((t0 :: l) ++ [t])))⟩
   have e1 : ((t0 :: l) ++ [t]).length = Nat.add (t0 :: l).length 1 := by simp
   have e2 : bornK ((t0 :: l) ++ [t]) = bornK (t0 :: l) ++ [t.2.2] := by simp [bornK]
   have e3 : rowK ((t0 :: l) ++ [t]) = rowK (t0 :: l) ++ [.int .u64 t.1.1] := by simp [rowK]
   rw [e1, e2, e3]
   refine Ren.of (fun i => bif Nat.beq i 6 then 8 else i) 5 rfl h0 (Nat.le_of_ble_eq_true rfl) (fun i hi => by have : Nat.beq i 6 = false := natFK (by omega); rw [this]; rfl) ?_ rfl ?_ trivial
   ·simp only [Tr.All, TK]
    repeat' (first | exact trivial | apply And.intro)
    all_goals exact ⟨_, rfl, rfl⟩
   ·simp only [Tr.All, AKg, miT, rwT]
    repeat' (first | exact trivial | apply And.intro)
    all_goals first | rfl | exact .head _ | exact ⟨_, rfl, .defd⟩ | exact ⟨_, rfl, .map (ksG q)⟩ | exact ⟨_, rfl, .miter rfl rfl⟩ | exact ⟨_, rfl, .cells rfl⟩ | exact ⟨_, rfl, .plain (by exact e3 ▸ rowK_gnd ((t0 :: l) ++ [t]))⟩ | skip
    refine ⟨_, rfl, .same ?_ ?_ rfl rfl⟩
    ·simp only [Tr.All, TQ]
     repeat' (first | exact trivial | apply And.intro)
     all_goals rfl
    ·simp only [scrFix]
     repeat' (first | exact trivial | apply And.intro)
     all_goals rfl

theorem keys_S (hq : KOk q clock) : SOk (SC r) 112 yK (AKg e z clock (q.map mkE) 5 (.slice none 0 0) .nil .nil) fun v A' => v = .tuple ⟨[]⟩ ∧ ∃ vis, vis.Perm q ∧ A' = AKf e z clock q vis := by
 obtain ⟨fn, h1, h2, h3, h4⟩ := fn_of (C := SC r) (f := 112) (by kernel_rfl)
 have hn : fn.ntmps = 14 := h3.trans (by kernel_rfl)
 have hr : fn.results.toList = [] := h4.trans (by kernel_rfl)
 rw [bodySC] at h2
 refine call_reachS (SC_ok r) h1 h2 43 (by rw [hn]; rfl) fun γ W F k hw hF hro => ?_
 rw [hn, hr]
 have h0 : ∀ i, 5 ≤ i → γ i = none := hw.fresh
 show Go.Ev.Reach (SC r) 43 14 F k γ W cKs _ _
 rw [show cKs = Code.seq (lc cKs) (.block 0 (.loop (ic (ic (rc cKs))))) from by kernel_rfl]
 refine Go.Ev.Reach.seq (Go.Ev.Reach.seg (SC_ok r) TOk.nil (tm := .nil) (L := 1) (L' := 1) (d := 1) hF hro ((kyB ..).trans (qn_ok ?_)))
 refine Go.Ev.Reach.pre (ren_start h0 _) ?_
 refine Go.Ev.Reach.block ?_
 refine Go.Ev.Reach.loop (I := fun j st => ∃ st1, Ren (SC r) 43 14 γ W st st1 ∧ KeySt e z clock q j st1) (fun j st ⟨st1, hr, hs⟩ => Go.Ev.Reach.pre hr (Go.Ev.Reach.mono (key_body hq h0 hF hro hs) fun ex st' h => ?_)) ⟨_, Ren.refl _, [], q, rfl, by simp, rfl⟩
 cases ex with
 | normal => exact h
 | exit id =>
  obtain ⟨rfl, vis, hv, st2, hr2, rfl⟩ := h
  exact ⟨.inl rfl, _, _, _, hr2, rfl, rfl, vis, hv, rfl⟩
 | _ => exact h.elim

end

end Go.Proofs.VK

/- slices.AppendSeq and Collect over maps.Keys: one row, the keys in any order. -/
namespace Go.Proofs.VK
open Go Go.Ev Go.Proofs
set_option maxRecDepth 100000
set_option linter.unusedVariables false
set_option linter.unusedSimpArgs false

def TQ0 : Tr Value := .node (.node .nil (some seqV) .nil) (some (.slice none 0 0)) .nil
def AR (e z clock : Nat) (es : List MapEntry) (l : List Value) : AW := ⟨4, .node (.node (.node .nil none .nil) (some (.map es clock)) .nil) (some (.cells [.map (some 1)] e 0 z)) (.node .nil (some (.cells l 52 2 1)) .nil), .nil⟩
noncomputable def AR3 (e z clock : Nat) (es : List MapEntry) (l : List Value) : AW := ⟨4, .node (.node (.node .nil (some .defd) .nil) (some (.map es clock)) .nil) (some (.cells [.map (some 1)] e 0 z)) (.node .nil (some (.cells l 52 2 1)) .nil), .nil⟩
noncomputable def AKh (e z clock : Nat) (es : List MapEntry) (n : Nat) (sv : Value) (s5 : Tr AObj) : AW :=
 ⟨n, .node (.node (.node .nil (some .defd) .nil) (some (.map es clock)) s5) (some (.cells [.map (some 1)] e 0 z)) (.node (.node .nil (some (.loop .exhausted none 183 ⟨[(6, seqV)], TQ⟩ 13 ⟨[7]⟩ k_aqA k_aqB 3)) .nil) (some (.cells [sv] 67 2 0)) .nil), .nil⟩
def TQ4 (sv : Value) : Tr Value := .node .nil none (.node (.node .nil (some sv) .nil) none .nil)

def TC0 (v : Value) : Tr Value := .node .nil (some seqV) (.node .nil (some v) .nil)

theorem kcA (r : Mem) (L : Nat) (fs : FnsC) (e z clock : Nat) (es : List MapEntry) (kn : KS) (kx : Nat → KS) (kr : KS) (ms : List Nat) : run (SC r) 183 13 L (lc cAq) fs none kn kx kr (sc0 183 [.slice none 0 0, seqV]) (tr0 183 [.slice none 0 0, seqV]) ms (AK0 e z clock es) =
    kn [] (.node (.node .nil (some (.func (Fn.func 112) ⟨[]⟩ ⟨[.pointer (some ⟨0, 0, none⟩)]⟩)) .nil) (some (.slice none 0 0)) (.node (.node .nil (some (.slice none 0 0)) .nil) (some (.pointer (some ⟨2, 0, none⟩))) .nil)) ms (AW.mk 3 (.node (.node .nil (some (AObj.map es clock)) .nil) (some (.cells [Value.map (some 1)] e 0 z)) (.node .nil (some (.cells [.slice none 0 0] 67 2 0)) .nil)) .nil) := by kernel_rfl

theorem kcB (r : Mem) (L : Nat) (fs : FnsC) (s : List (Nat × Value)) (kn : KS) (kx : Nat → KS) (kr : KS) (ms : List Nat) (A : AW) : run (SC r) 183 13 L (lc (lc (rc cAq))) fs none kn kx kr s TQ ms A =
    kn [(6, .func (Fn.func 112) ⟨[]⟩ ⟨[.pointer (some ⟨0, 0, none⟩)]⟩)] (.node (.node .nil (some (.func (Fn.func 112) ⟨[]⟩ ⟨[.pointer (some ⟨0, 0, none⟩)]⟩)) .nil) (some (.slice none 0 0)) (.node (.node .nil (some (.slice none 0 0)) .nil) (some (.pointer (some ⟨2, 0, none⟩))) .nil)) ms A := by kernel_rfl

theorem kcC (r : Mem) (L : Nat) (fs : FnsC) (e z clock : Nat) (es : List MapEntry) (n : Nat) (l : List Value) (kn : KS) (kx : Nat → KS) (kr : KS) : run (SC r) 183 13 L (rc (rc cAq)) fs none kn kx kr [(6, seqV)] TQ [3] (AKh e z clock es 6 (.slice (some ⟨5, 0, none⟩) n unk) (rwT 5 l)) =
    kr [(12, .slice (some ⟨5, 0, none⟩) n unk)] (.node (.node .nil (some (.func (Fn.func 112) ⟨[]⟩ ⟨[.pointer (some ⟨0, 0, none⟩)]⟩)) .nil) (some (.slice none 0 0)) (.node (.node .nil (some (.slice (some ⟨5, 0, none⟩) n unk)) .nil) (some (.pointer (some ⟨2, 0, none⟩))) .nil)) [3] (AW.mk 6 (.node (.node (.node .nil (some .defd) .nil) (some (AObj.map es clock)) (.node .nil (some (.cells l 52 5 1)) .nil)) (some (.cells [Value.map (some 1)] e 0 z)) (.node (.node .nil (some (AObj.loop LoopState.exhausted none 183 (En.mk [(6, .func (Fn.func 112) ⟨[]⟩ ⟨[.pointer (some ⟨0, 0, none⟩)]⟩)] (.node (.node .nil (some (.func (Fn.func 112) ⟨[]⟩ ⟨[.pointer (some ⟨0, 0, none⟩)]⟩)) .nil) (some (.slice none 0 0)) (.node (.node .nil (some (.slice none 0 0)) .nil) (some (.pointer (some ⟨2, 0, none⟩))) .nil))) 13 ⟨[7]⟩ (Code.region 2 #[Oper.mk (some 5) (Op.assign (Operand.tmp 7)) 52 "iter.go:51" #[] none] false) (Code.block 1 (Code.region 3 #[Oper.mk (some 8) (Op.load 67 (Operand.tmp 2)) 67 "iter.go:52" #[] none, Oper.mk (some 9) (Op.move (Operand.tmp 5)) 52 "iter.go:52" #[] none, Oper.mk (some 10) (Op.buildSlice 67 1 #[(0, Operand.tmp 9)]) 67 "iter.go:52" #[Edge.mk 1 Ground.data] none, Oper.mk (some 11) (Op.call (Call.mk (Callee.builtin Builtin.append) #[Operand.tmp 8, Operand.tmp 10] #[67, 67])) 67 "iter.go:52" #[Edge.mk 0 Ground.data, Edge.mk 2 Ground.data] none, Oper.mk none (Op.store 67 (Operand.tmp 2) (Operand.tmp 11)) 0 "iter.go:52" #[Edge.mk 3 Ground.data, Edge.mk 3 Ground.chain, Edge.mk 0 Ground.phase, Edge.mk 1 Ground.phase, Edge.mk 2 Ground.phase, Edge.mk 3 Ground.phase] none] false)) 3)) .nil) (some (.cells [.slice (some ⟨5, 0, none⟩) n unk] 67 2 0)) .nil)) .nil) := by kernel_rfl

theorem kcF (r : Mem) (e z clock : Nat) (es : List MapEntry) (n : Nat) (l : List Value) (k : KV) : finK (SC r) 183 (resOf (SC r) 113) k [] (TQ4 (.slice (some ⟨2, 0, none⟩) n unk)) [3] (AR3 e z clock es l) =
    k (.slice (some ⟨2, 0, none⟩) n unk) (AW.mk 4 (.node (.node (.node .nil none .nil) (some (AObj.map es clock)) .nil) (some (.cells [Value.map (some 1)] e 0 z)) (.node .nil (some (.cells l 52 2 1)) .nil)) .nil) := by kernel_rfl

theorem kcG (r : Mem) (L : Nat) (fs : FnsC) (kn : KS) (kx : Nat → KS) (kr : KS) (ms : List Nat) (A : AW) : run (SC r) 5 5 L (lc cCo) fs none kn kx kr (sc0 5 [seqV]) (tr0 5 [seqV]) ms A =
    kn [] (.node .nil (some (.func (Fn.func 112) ⟨[]⟩ ⟨[.pointer (some ⟨0, 0, none⟩)]⟩)) (.node .nil (some (.slice none 0 0)) .nil)) ms A := by kernel_rfl

theorem kcH (r : Mem) (fs : FnsC) (kn : KS) (ms : List Nat) (A : AW) : preK (SC r) 5 5 (lc (rc cCo)) 1 fs kn [] (TC0 (.slice none 0 0)) ms A =
    kn [(3, .func (Fn.func 112) ⟨[]⟩ ⟨[.pointer (some ⟨0, 0, none⟩)]⟩)] (.node .nil (some (.func (Fn.func 112) ⟨[]⟩ ⟨[.pointer (some ⟨0, 0, none⟩)]⟩)) (.node .nil (some (.slice none 0 0)) .nil)) ms A := by kernel_rfl

theorem kcI (r : Mem) (fs : FnsC) (n : Nat) (kn : KS) (ms : List Nat) (A : AW) : tailK (SC r) 5 5 (lc (rc cCo)) 1 fs kn (.slice (some ⟨2, 0, none⟩) n unk) [(3, seqV)] (TC0 (.slice none 0 0)) ms A =
    kn [(4, .slice (some ⟨2, 0, none⟩) n unk), (3, .func (Fn.func 112) ⟨[]⟩ ⟨[.pointer (some ⟨0, 0, none⟩)]⟩)] (.node .nil (some (.func (Fn.func 112) ⟨[]⟩ ⟨[.pointer (some ⟨0, 0, none⟩)]⟩)) (.node .nil (some (.slice (some ⟨2, 0, none⟩) n unk)) .nil)) ms A := by kernel_rfl

theorem kcK (r : Mem) (L : Nat) (fs : FnsC) (s : List (Nat × Value)) (n : Nat) (kn : KS) (kx : Nat → KS) (kr : KS) (ms : List Nat) (A : AW) : run (SC r) 5 5 L (rc (rc cCo)) fs none kn kx kr s (TC0 (.slice (some ⟨2, 0, none⟩) n unk)) ms A =
    kr s (.node .nil (some (.func (Fn.func 112) ⟨[]⟩ ⟨[.pointer (some ⟨0, 0, none⟩)]⟩)) (.node .nil (some (.slice (some ⟨2, 0, none⟩) n unk)) .nil)) ms A := by kernel_rfl

theorem kcL (r : Mem) (s : List (Nat × Value)) (n : Nat) (k : KV) (A : AW) : finK (SC r) 5 (resOf (SC r) 100) k s (TC0 (.slice (some ⟨2, 0, none⟩) n unk)) [] A =
    k (.slice (some ⟨2, 0, none⟩) n unk) A := by kernel_rfl

theorem kcJ (r : Mem) (A : AW) : callAt (SC r) 5 (lc (rc cCo)) 1 ⟨[(3, seqV)], TC0 (.slice none 0 0)⟩ A = some (113, [.slice none 0 0, seqV], A) := by kernel_rfl

section
variable {r : Mem} {γ0 : Gam} {W0 : World} {e z clock : Nat} {q : List KT}


theorem append_S (hq : KOk q clock) (hne : q ≠ []) : SOk (SC r) 113 [.slice none 0 0, seqV] (AK0 e z clock (q.map mkE)) fun v A' => ∃ vis, vis.Perm q ∧ v = .slice (some ⟨2, 0, none⟩) vis.length unk ∧ A' = AR e z clock (q.map mkE) (rowK vis) := by
 obtain ⟨fn, h1, h2, h3, h4⟩ := fn_of (C := SC r) (f := 113) (by kernel_rfl)
 have hn : fn.ntmps = 13 := h3.trans (by kernel_rfl)
 rw [bodySC] at h2
 refine call_reachS (SC_ok r) h1 h2 183 (by rw [hn]; rfl) fun γ W F k hw hF hro => ?_
 rw [hn, h4]
 have h0 : ∀ i, 2 ≤ i → γ i = none := hw.fresh
 show Go.Ev.Reach (SC r) 183 13 F k γ W cAq _ _
 obtain ⟨fo, ps, hrf⟩ : ∃ fo ps, cAq = Code.seq (lc cAq) (.seq (.seq (lc (lc (rc cAq))) (.block 0 (.rangeFunc fo ps k_aqA k_aqB))) (rc (rc cAq))) ∧ ps = ⟨[7]⟩ ∧ fo = .tmp 6 := ⟨.tmp 6, ⟨[7]⟩, by kernel_rfl, rfl, rfl⟩
 obtain ⟨hrf, rfl, rfl⟩ := hrf
 rw [hrf]
 refine Go.Ev.Reach.seq (Go.Ev.Reach.seg (SC_ok r) TOk.nil (tm := .nil) (L := 1) (L' := 1) (d := 1) hF hro ((kcA ..).trans (qn_ok ?_)))
 refine Go.Ev.Reach.seq (Go.Ev.Reach.seq (Go.Ev.Reach.seg (SC_ok r) TOk.nil (tm := .nil) (L := 1) (L' := 1) (d := 1) hF hro ((kcB r 1 _ [] _ _ _ [] _).trans (qn_ok ?_))))
 have eA : (((⟨3, .node (.node .nil (some (.map (q.map mkE) clock)) .nil) (some (.cells [.map (some 1)] e 0 z)) (.node .nil (some (.cells [.slice none 0 0] 67 2 0)) .nil), .nil⟩ : AW).new .defd).new (.loop .ready none 183 ⟨[(6, seqV)], TQ⟩ 13 ⟨[7]⟩ k_aqA k_aqB 3)) = AKg e z clock (q.map mkE) 5 (.slice none 0 0) .nil .nil := by kernel_rfl
 have hkey := keys_S (r := r) (e := e) (z := z) hq
 rw [← eA] at hkey
 refine Go.Ev.Reach.block (Go.Ev.Reach.rangeS (SC_ok r) hF hro (g := 112) (first := []) (captured := [.pointer (some ⟨0, 0, none⟩)]) rfl (by kernel_rfl) hkey fun v A' ⟨_, vis, hv, hA⟩ => ?_)
 subst hA
 cases vis with
 | nil => exact absurd hv.nil_eq.symm hne
 | cons t l =>
  refine ⟨⟨⟨[(6, seqV)], TQ⟩, [3], AKh e z clock (q.map mkE) 6 (.slice (some ⟨5, 0, none⟩) (t :: l).length unk) (rwT 5 (rowK (t :: l)))⟩, by kernel_rfl, ?_⟩
  refine Go.Ev.Reach.seg (SC_ok r) TOk.nil (tm := .nil) (L := 1) (L' := 1) (d := 1) hF hro ((kcC ..).trans (qn_ok ⟨.inr rfl, ⟨⟨[], TQ4 (.slice (some ⟨2, 0, none⟩) (t :: l).length unk)⟩, [3], AR3 e z clock (q.map mkE) (rowK (t :: l))⟩, _, _, ?_, ?_, t :: l, hv, rfl, rfl⟩))
  ·
   refine Ren.of (fun i => bif Nat.beq i 2 then 5 else i) 2 rfl h0 (Nat.le_of_ble_eq_true rfl) (fun i hi => by have : Nat.beq i 2 = false := natFK (by omega); rw [this]; rfl) ?_ rfl ?_ trivial
   ·simp only [Tr.All, TQ4]
    repeat' (first | exact trivial | apply And.intro)
    all_goals exact ⟨_, rfl, rfl⟩
   ·simp only [Tr.All, AR3]
    repeat' (first | exact trivial | apply And.intro)
    all_goals first | rfl | exact .head _ | exact ⟨_, rfl, .defd⟩ | exact ⟨_, rfl, .map (ksG q)⟩ | exact ⟨_, rfl, .cells rfl⟩ | exact ⟨_, rfl, .plain (by exact rowK_gnd (t :: l))⟩
  ·rw [← finK_finish]
   exact kcF ..

theorem collect_S (hq : KOk q clock) (hne : q ≠ []) : SOk (SC r) 100 [seqV] (AK0 e z clock (q.map mkE)) fun v A' => ∃ vis, vis.Perm q ∧ v = .slice (some ⟨2, 0, none⟩) vis.length unk ∧ A' = AR e z clock (q.map mkE) (rowK vis) := by
 obtain ⟨fn, h1, h2, h3, h4⟩ := fn_of (C := SC r) (f := 100) (by kernel_rfl)
 have hn : fn.ntmps = 5 := h3.trans (by kernel_rfl)
 rw [bodySC] at h2
 refine call_reachS (SC_ok r) h1 h2 5 (by rw [hn]; rfl) fun γ W F k hw hF hro => ?_
 rw [hn, h4]
 show Go.Ev.Reach (SC r) 5 5 F k γ W cCo _ _
 rw [show cCo = Code.seq (lc cCo) (.seq (lc (rc cCo)) (rc (rc cCo))) from by kernel_rfl]
 refine Go.Ev.Reach.seq (Go.Ev.Reach.seg (SC_ok r) TOk.nil (tm := .nil) (L := 1) (L' := 1) (d := 1) hF hro ((kcG ..).trans (qn_ok ?_)))
 refine Go.Ev.Reach.seq (Go.Ev.Reach.callP (SC_ok r) hF TOk.nil (tm := .nil) (L := 0) (d := 0) 1 ((kcH ..).trans (qn_ok rfl)) (kcJ ..) (append_S (e := e) (z := z) hq hne) fun v A' ⟨vis, hv, h1, h2⟩ => ?_)
 subst h1 h2
 refine (kcI ..).trans (qn_ok (Go.Ev.Reach.seg (SC_ok r) TOk.nil (tm := .nil) (L := 1) (L' := 1) (d := 1) hF hro ((kcK ..).trans (qn_ok ⟨.inr rfl, _, _, _, Ren.refl _, ?_, vis, hv, rfl, rfl⟩))))
 rw [← finK_finish]
 exact kcL ..

end

end Go.Proofs.VK

/- The insertion sort of a row of at most twelve, run. -/
namespace Go.Proofs
open Go Go.Ev
set_option linter.unusedVariables false
set_option linter.unusedSimpArgs false
set_option maxRecDepth 100000

noncomputable def cIn : Code := bodyOf S0 117
abbrev slW (n : Nat) : Value := .slice (some ⟨2, 0, none⟩) n unk
noncomputable def yIn : Code := ic (lc (rc (ic (ic (rc cIn)))))
noncomputable def bIn : Code := ic (ic (rc yIn))
def wj (j : Int) : Tr Value := .node (.node .nil (some (I j)) .nil) none .nil
def TIn (n : Nat) (i : Int) (w : Tr Value) : Tr Value := .node (.node w (some (I 0)) .nil) (some (slW n)) (.node .nil (some (I n)) (.node .nil (some (I i)) .nil))
def m_less (x y : Int) : Bool := decide (x < y)
def eLess : Ent := ent (fun args _ => match args with | [.int .u64 _, .int .u64 _] => true | _ => false) (fun args _ => match args with | [.int .u64 x, .int .u64 y] => .bool (m_less x y) | _ => undef)
def tLess : Tbl := tcons 123 eLess fun _ => none

theorem inL (r : Mem) (x y : Int) : (lvlT (SC r) (fun _ => none) .nil 2 2).call 123 [.int .u64 x, .int .u64 y] emptyA fin =
    bif x != x then bif y != y then bif decide (x < y) then .ret (.bool true) (AW.mk 0 .nil .nil) else .ret (.bool false) (AW.mk 0 .nil .nil) else .ret (.bool true) (AW.mk 0 .nil .nil) else bif decide (x < y) then .ret (.bool true) (AW.mk 0 .nil .nil) else .ret (.bool false) (AW.mk 0 .nil .nil) := by kernel_rfl

theorem inA (r : Mem) (L : Nat) (fs : FnsC) (n : Nat) (A : AW) (kn : KS) (kx : Nat → KS) (kr : KS) (ms : List Nat) : run (SC r) 199 49 L (lc cIn) fs none kn kx kr (sc0 199 [slW n, I 0, I n]) (tr0 199 [slW n, I 0, I n]) ms A =
    kn [(9, I (Int.ofNat 1)), (8, I (Int.ofNat 0))] (.node (.node .nil (some (I (Int.ofNat 0))) .nil) (some (.slice (some ⟨2, 0, none⟩) n unk)) (.node .nil (some (I (Int.ofNat n))) (.node .nil (some (I (Int.ofNat 1))) .nil))) ms A := by kernel_rfl

theorem inB (r : Mem) (L : Nat) (fs : FnsC) (n : Nat) (i : Int) (w : Tr Value) (A : AW) (s : List (Nat × Value)) (kn : KS) (kx : Nat → KS) (kr : KS) (ms : List Nat) : run (SC r) 199 49 L (lc (ic (ic (rc cIn)))) fs none kn kx kr s (TIn n i w) ms A =
    bif decide (i < Int.ofNat n) then kn [(12, .bool true), (11, I (Int.ofNat n)), (10, I i)] (.node (.node w (some (I (Int.ofNat 0))) .nil) (some (.slice (some ⟨2, 0, none⟩) n unk)) (.node .nil (some (I (Int.ofNat n))) (.node .nil (some (I i)) .nil))) ms A else kx 0 [(12, .bool false), (11, I (Int.ofNat n)), (10, I i)] (.node (.node w (some (I (Int.ofNat 0))) .nil) (some (.slice (some ⟨2, 0, none⟩) n unk)) (.node .nil (some (I (Int.ofNat n))) (.node .nil (some (I i)) .nil))) ms A := by kernel_rfl

theorem inC (r : Mem) (L : Nat) (fs : FnsC) (n : Nat) (i : Int) (A : AW) (s : List (Nat × Value)) (kn : KS) (kx : Nat → KS) (kr : KS) (ms : List Nat) : run (SC r) 199 49 L (lc (ic (lc (rc (ic (ic (rc cIn))))))) fs none kn kx kr s (TIn n i .nil) ms A =
    kn [(15, I i)] (.node (.node (.node (.node .nil (some (I i)) .nil) none .nil) (some (I (Int.ofNat 0))) .nil) (some (.slice (some ⟨2, 0, none⟩) n unk)) (.node .nil (some (I (Int.ofNat n))) (.node .nil (some (I i)) .nil))) ms A := by kernel_rfl

theorem inC2 (r : Mem) (L : Nat) (fs : FnsC) (n : Nat) (i j : Int) (A : AW) (s : List (Nat × Value)) (kn : KS) (kx : Nat → KS) (kr : KS) (ms : List Nat) : run (SC r) 199 49 L (lc (ic (lc (rc (ic (ic (rc cIn))))))) fs none kn kx kr s (TIn n i (wj j)) ms A =
    kn [(15, I i)] (.node (.node (.node (.node .nil (some (I i)) .nil) none .nil) (some (I (Int.ofNat 0))) .nil) (some (.slice (some ⟨2, 0, none⟩) n unk)) (.node .nil (some (I (Int.ofNat n))) (.node .nil (some (I i)) .nil))) ms A := by kernel_rfl

theorem inD (r : Mem) (L : Nat) (tm : Tr Nat) (n : Nat) (i j : Int) (e z clock : Nat) (es : List MapEntry) (l : List Value) (s : List (Nat × Value)) (kn : KS) (kx : Nat → KS) (kr : KS) (ms : List Nat) : run (SC r) 199 49 L bIn (lvlT (SC r) tLess tm L 0) none kn kx kr s (TIn n i (wj j)) ms (VK.AR e z clock es l) =
    bif decide (j > 0) then bif decide (0 ≤ j) then bif Nat.blt (Int.toNat j) n then Option.casesOn l[Nat.add 0 (Nat.mul (Int.toNat j) 1)]? (.fail 423) fun val => bif isI IntKind.u64 val then bif decide (0 ≤ IntKind.wrap .i64 (j - Int.ofNat 1)) then bif Nat.blt (Int.toNat (IntKind.wrap .i64 (j - Int.ofNat 1))) n then Option.casesOn l[Nat.add 0 (Nat.mul (Int.toNat (IntKind.wrap .i64 (j - Int.ofNat 1))) 1)]? (.fail 423) fun val_1 => bif isI IntKind.u64 val_1 then bif m_less (ofI val) (ofI val_1) then Option.casesOn l[Nat.add 0 (Nat.mul (Int.toNat (IntKind.wrap .i64 (j - Int.ofNat 1))) 1)]? (.fail 423) fun val_2 => bif isI IntKind.u64 val_2 then bif m_eqv (.int .u64 (ofI val_2)) (.int .u64 (ofI val_1)) then Option.casesOn l[Nat.add 0 (Nat.mul (Int.toNat j) 1)]? (.fail 423) fun val_3 => bif isI IntKind.u64 val_3 then bif m_eqv (.int .u64 (ofI val_3)) (.int .u64 (ofI val)) then bif decide (0 ≤ IntKind.wrap .i64 (j - Int.ofNat 1)) then bif Nat.blt (Int.toNat (IntKind.wrap .i64 (j - Int.ofNat 1))) n then Option.casesOn l[Nat.add 0 (Nat.mul (Int.toNat (IntKind.wrap .i64 (j - Int.ofNat 1))) 1)]? (.fail 423) fun val => bif isI IntKind.u64 val then bif decide (0 ≤ j) then bif Nat.blt (Int.toNat j) n then Option.casesOn l[Nat.add 0 (Nat.mul (Int.toNat j) 1)]? (.fail 423) fun val_4 => bif isI IntKind.u64 val_4 then bif decide (0 ≤ j) then bif Nat.blt (Int.toNat j) n then bif Nat.blt (Nat.add 0 (Nat.mul (Int.toNat j) 1)) (List.length l) then bif decide (0 ≤ IntKind.wrap .i64 (j - Int.ofNat 1)) then bif Nat.blt (Int.toNat (IntKind.wrap .i64 (j - Int.ofNat 1))) n then bif Nat.blt (Nat.add 0 (Nat.mul (Int.toNat (IntKind.wrap .i64 (j - Int.ofNat 1))) 1)) (List.length (List.set l (Nat.add 0 (Nat.mul (Int.toNat j) 1)) (.int .u64 (ofI val)))) then Option.casesOn l[Nat.add 0 (Nat.mul (Int.toNat j) 1)]? (.fail 423) fun val_5 => bif isI IntKind.u64 val_5 then bif m_eqv (.int .u64 (ofI val_5)) (.int .u64 (ofI val_4)) then Option.casesOn l[Nat.add 0 (Nat.mul (Int.toNat (IntKind.wrap .i64 (j - Int.ofNat 1))) 1)]? (.fail 423) fun val_6 => bif isI IntKind.u64 val_6 then bif m_eqv (.int .u64 (ofI val_6)) (.int .u64 (ofI val)) then kn [(32, I (IntKind.wrap .i64 (j - Int.ofNat 1))), (31, I j)] (.node (.node (.node (.node .nil (some (I (IntKind.wrap .i64 (j - Int.ofNat 1)))) .nil) none .nil) (some (I (Int.ofNat 0))) .nil) (some (.slice (some ⟨2, 0, none⟩) n unk)) (.node .nil (some (I (Int.ofNat n))) (.node .nil (some (I i)) .nil))) ms (AW.mk 4 (.node (.node (.node .nil none .nil) (some (AObj.map es clock)) .nil) (some (.cells [Value.map (some 1)] e 0 z)) (.node .nil (some (.cells (List.set (List.set l (Nat.add 0 (Nat.mul (Int.toNat j) 1)) (.int .u64 (ofI val))) (Nat.add 0 (Nat.mul (Int.toNat (IntKind.wrap .i64 (j - Int.ofNat 1))) 1)) (.int .u64 (ofI val_4))) 52 2 1)) .nil)) .nil) else .fail 420 else .fail 420 else .fail 420 else .fail 420 else .fail 420 else .fail 420 else .fail 420 else .fail 420 else .fail 420 else .fail 420 else .fail 420 else .fail 420 else .fail 420 else .fail 420 else .fail 420 else .fail 420 else .fail 420 else .fail 420 else .fail 420 else .fail 420 else Option.casesOn l[Nat.add 0 (Nat.mul (Int.toNat (IntKind.wrap .i64 (j - Int.ofNat 1))) 1)]? (.fail 423) fun val_2 => bif isI IntKind.u64 val_2 then bif m_eqv (.int .u64 (ofI val_2)) (.int .u64 (ofI val_1)) then Option.casesOn l[Nat.add 0 (Nat.mul (Int.toNat j) 1)]? (.fail 423) fun val_3 => bif isI IntKind.u64 val_3 then bif m_eqv (.int .u64 (ofI val_3)) (.int .u64 (ofI val)) then kx 2 [(30, .bool false), (29, .bool false), (28, .int .u64 (ofI val_1)), (27, .pointer (some ⟨2, (Nat.add 0 (Nat.mul (Int.toNat (IntKind.wrap .i64 (j - Int.ofNat 1))) 1)), none⟩)), (26, I (IntKind.wrap .i64 (j - Int.ofNat 1))), (25, I j), (24, .slice (some ⟨2, 0, none⟩) n unk), (23, .int .u64 (ofI val)), (22, .pointer (some ⟨2, (Nat.add 0 (Nat.mul (Int.toNat j) 1)), none⟩)), (21, I j), (20, .slice (some ⟨2, 0, none⟩) n unk), (19, .bool true), (18, .bool true), (17, I (Int.ofNat 0)), (16, I j)] (.node (.node (.node (.node .nil (some (I j)) .nil) none .nil) (some (I (Int.ofNat 0))) .nil) (some (.slice (some ⟨2, 0, none⟩) n unk)) (.node .nil (some (I (Int.ofNat n))) (.node .nil (some (I i)) .nil))) ms (AW.mk 4 (.node (.node (.node .nil none .nil) (some (AObj.map es clock)) .nil) (some (.cells [Value.map (some 1)] e 0 z)) (.node .nil (some (.cells l 52 2 1)) .nil)) .nil) else .fail 420 else .fail 420 else .fail 420 else .fail 420 else .fail 420 else .fail 420 else .fail 420 else .fail 420 else .fail 420 else .fail 420 else kx 2 [(30, .bool false), (29, .tuple ⟨[]⟩), (28, .tuple ⟨[]⟩), (27, .tuple ⟨[]⟩), (26, .tuple ⟨[]⟩), (25, .tuple ⟨[]⟩), (24, .tuple ⟨[]⟩), (23, .tuple ⟨[]⟩), (22, .tuple ⟨[]⟩), (21, .tuple ⟨[]⟩), (20, .tuple ⟨[]⟩), (19, .bool false), (18, .bool false), (17, I (Int.ofNat 0)), (16, I j)] (.node (.node (.node (.node .nil (some (I j)) .nil) none .nil) (some (I (Int.ofNat 0))) .nil) (some (.slice (some ⟨2, 0, none⟩) n unk)) (.node .nil (some (I (Int.ofNat n))) (.node .nil (some (I i)) .nil))) ms (AW.mk 4 (.node (.node (.node .nil none .nil) (some (AObj.map es clock)) .nil) (some (.cells [Value.map (some 1)] e 0 z)) (.node .nil (some (.cells l 52 2 1)) .nil)) .nil) := by kernel_rfl

theorem inE (r : Mem) (L : Nat) (fs : FnsC) (n : Nat) (i j : Int) (A : AW) (s : List (Nat × Value)) (kn : KS) (kx : Nat → KS) (kr : KS) (ms : List Nat) : run (SC r) 199 49 L (rc (rc (ic (ic (rc cIn))))) fs none kn kx kr s (TIn n i (wj j)) ms A =
    kn [(14, I (IntKind.wrap .i64 (i + Int.ofNat 1))), (13, I i)] (.node (.node (.node (.node .nil (some (I j)) .nil) none .nil) (some (I (Int.ofNat 0))) .nil) (some (.slice (some ⟨2, 0, none⟩) n unk)) (.node .nil (some (I (Int.ofNat n))) (.node .nil (some (I (IntKind.wrap .i64 (i + Int.ofNat 1)))) .nil))) ms A := by kernel_rfl

theorem inF (r : Mem) (n : Nat) (i : Int) (s : List (Nat × Value)) (w : Tr Value) (k : KV) (A : AW) : finK (SC r) 199 (resOf (SC r) 117) k s (TIn n i w) [] A =
    k (.tuple ⟨[]⟩) A := by kernel_rfl

end Go.Proofs

/- The insertion sort of a row of at most twelve: what it leaves. -/
namespace Go.Proofs
open Go Go.Ev
set_option linter.unusedVariables false
set_option linter.unusedSimpArgs false
set_option maxRecDepth 100000

abbrev Uv (z : Int) : Value := .int .u64 z
def rowU (l : List Int) : List Value := l.map Uv
theorem rowU_len (l : List Int) : (rowU l).length = l.length := by simp [rowU]

theorem less_calls (r : Mem) (x y : Int) : GrT Tryz.prog r 123 [.int .u64 x, .int .u64 y] (.bool (m_less x y)) := by
 refine GrT.of (SC_ok r) TOk.nil .nil rfl ⟨2, 2, (inL r x y).trans ?_⟩
 simp only [neF (show x = x from rfl), neF (show y = y from rfl), cond_false, m_less]
 cases decide (x < y) <;> rfl
theorem eLess_ok (r : Mem) : EOk (SC r) 123 eLess := EOk.ent fun args A hg => by
 split at hg
 ·exact (less_calls r _ _).ro rfl A
 ·cases hg
theorem tLess_ok (r : Mem) : TOk (SC r) tLess := TOk.nil.cons (eLess_ok r)

def Srt (l : List Int) : Prop := l.Pairwise (· ≤ ·)

theorem set_swap (A : List Int) (x y : Int) (T : List Int) : List.set (List.set (rowU (A ++ y :: x :: T)) (A.length + 1) (Uv y)) A.length (Uv x) = rowU (A ++ x :: y :: T) := by
 simp only [rowU, List.map_append, List.map_cons]
 have e : A.length = (A.map Uv).length := by simp
 rw [e]
 generalize A.map Uv = a
 generalize T.map Uv = t
 rw [List.set_append_right _ _ (by omega), List.set_append_right _ _ (by omega)]
 simp
theorem get_x (A : List Int) (x y : Int) (T : List Int) : (rowU (A ++ y :: x :: T))[A.length + 1]? = some (Uv x) := by
 simp only [rowU, List.map_append, List.map_cons]
 rw [List.getElem?_append_right (by simp)]
 simp
theorem get_y (A : List Int) (x y : Int) (T : List Int) : (rowU (A ++ y :: x :: T))[A.length]? = some (Uv y) := by
 simp only [rowU, List.map_append, List.map_cons]
 rw [List.getElem?_append_right (by simp)]
 simp

theorem srt_stop {A B : List Int} {x : Int} (h : Srt (A ++ B)) (hb : ∀ b ∈ B, x ≤ b) (ha : ∀ a ∈ A, a ≤ x) : Srt (A ++ x :: B) := by
 unfold Srt at *
 rw [List.pairwise_append] at h ⊢
 refine ⟨h.1, List.pairwise_cons.2 ⟨hb, h.2.1⟩, fun a ha' b hb' => ?_⟩
 rcases List.mem_cons.1 hb' with rfl | hb'
 ·exact ha a ha'
 ·exact h.2.2 a ha' b hb'

section
variable {r : Mem} {γ0 : Gam} {W0 : World} {e z clock n : Nat} {es : List MapEntry} {zs : List Int}

def InJ (e z clock n : Nat) (es : List MapEntry) (zs R : List Int) (i : Nat) (j : Nat) (st : St) : Prop :=
 ∃ s A x B, A.length = j ∧ A.length + B.length = i ∧ Srt (A ++ B) ∧ (∀ b ∈ B, x ≤ b) ∧ (A ++ x :: (B ++ R)).Perm zs ∧ st = ⟨⟨s, TIn n i (wj j)⟩, [], VK.AR e z clock es (rowU (A ++ x :: (B ++ R)))⟩
def InQ (e z clock n : Nat) (es : List MapEntry) (zs R : List Int) (i : Nat) : Exit → St → Prop
 | .exit id, st => id = 2 ∧ ∃ s j S, S.length = i + 1 ∧ Srt S ∧ (S ++ R).Perm zs ∧ st = ⟨⟨s, TIn n i (wj j)⟩, [], VK.AR e z clock es (rowU (S ++ R))⟩
 | _, _ => False

theorem in_body (hn : zs.length = n) (h12 : n ≤ 1000000) {R : List Int} {i : Nat} {F : Fence} {k : Nat} (hF : Wide F) (hro : F.round = none) {j : Nat} {st : St} (hs : InJ e z clock n es zs R i j st) :
  Go.Ev.Reach (SC r) 199 49 F k γ0 W0 bIn st fun ex st' => match ex with
   | .normal => ∃ j', j' < j ∧ InJ e z clock n es zs R i j' st'
   | ex => InQ e z clock n es zs R i ex st' := by
 obtain ⟨s, A, x, B, rfl, hi, hsrt, hB, hp, rfl⟩ := hs
 refine Go.Ev.Reach.seg (SC_ok r) (tLess_ok r) (tm := .nil) (L := 1) (L' := 1) (d := 0) hF hro ?_
 rw [inD]
 rcases List.eq_nil_or_concat A with rfl | ⟨A', y, hA⟩
 ·have h0 : ¬ ((([] : List Int).length : Nat) : Int) > 0 := by simp
  simp only [h0, decide_false, cond_false]
  exact qn_ok ⟨rfl, _, _, x :: B, by simp at hi ⊢; omega, srt_stop (A := []) hsrt hB (by simp), by simpa using hp, rfl⟩
 ·rw [List.concat_eq_append] at hA
  subst hA
  have hl : (A' ++ [y] ++ x :: (B ++ R)).length = n := by rw [hp.length_eq, hn]
  simp only [List.length_append, List.length_cons, List.length_nil] at hl hi
  have hlen : (A' ++ [y]).length = A'.length + 1 := by simp
  rw [show (A' ++ [y]) ++ x :: (B ++ R) = A' ++ y :: x :: (B ++ R) by simp] at hp ⊢
  rw [hlen]
  have g1 : ((A'.length + 1 : Nat) : Int) > 0 := by omega
  have g2 : (0 : Int) ≤ ((A'.length + 1 : Nat) : Int) := by omega
  have g3 : Nat.blt (A'.length + 1) n = true := Nat.ble_eq_true_of_le (by omega)
  have g4 : IntKind.wrap IntKind.i64 (((A'.length + 1 : Nat) : Int) - Int.ofNat 1) = ((A'.length : Nat) : Int) := by
   rw [wrI (by simp; omega)]
   simp
  have g5 : (0 : Int) ≤ ((A'.length : Nat) : Int) := by omega
  have g6 : Nat.blt A'.length n = true := Nat.ble_eq_true_of_le (by omega)
  have g7 : Nat.blt (A'.length + 1) (rowU (A' ++ y :: x :: (B ++ R))).length = true := Nat.ble_eq_true_of_le (by rw [rowU_len]; simp; omega)
  have g8 : Nat.blt A'.length (rowU (A' ++ y :: x :: (B ++ R))).length = true := Nat.ble_eq_true_of_le (by rw [rowU_len]; simp)
  have eqv : ∀ a : Int, m_eqv (Value.int IntKind.u64 a) (Value.int IntKind.u64 a) = true := fun a => by simp [m_eqv, veq]
  simp only [dT g1, dT g2, g3, g4, dT g5, g6, g7, g8, cond_true, Int.toNat_natCast, Nat.add_eq, Nat.mul_eq, Nat.mul_one, Nat.zero_add, get_x, get_y, isI, ofI, decide_true, List.length_set, set_swap, eqv]
  by_cases c : x < y
  ·rw [show m_less x y = true from dT c, cond_true]
   refine qn_ok ⟨A'.length, by omega, _, A', x, y :: B, rfl, by simp only [List.length_cons]; omega, ?_, fun b hb => ?_, ?_, rfl⟩
   ·rw [show A' ++ y :: B = A' ++ [y] ++ B by simp]; exact hsrt
   ·rcases List.mem_cons.1 hb with rfl | hb
    ·omega
    ·exact hB b hb
   ·exact (List.Perm.append_left A' (List.Perm.swap ..)).trans hp
  ·rw [show m_less x y = false from dF c, cond_false]
   have e3 : A' ++ y :: x :: (B ++ R) = A' ++ [y] ++ x :: B ++ R := by simp
   rw [e3] at hp ⊢
   refine qn_ok ⟨rfl, _, ((A'.length + 1 : Nat) : Int), A' ++ [y] ++ x :: B, by simp only [List.length_append, List.length_cons, List.length_nil]; omega, srt_stop hsrt hB fun a ha => ?_, hp, rfl⟩
   rcases List.mem_append.1 ha with ha | ha
   ·have h1 := (List.pairwise_append.1 (List.pairwise_append.1 hsrt).1).2.2 a ha y (by simp)
    omega
   ·rw [List.mem_singleton.1 ha]; omega

theorem Srt.one (x : Int) : Srt [x] := List.pairwise_singleton ..

def InI (e z clock n : Nat) (es : List MapEntry) (zs : List Int) (j : Nat) (st : St) : Prop :=
 ∃ s w S R, (w = .nil ∨ ∃ j, w = wj j) ∧ R.length = j ∧ 1 ≤ S.length ∧ Srt S ∧ (S ++ R).Perm zs ∧ st = ⟨⟨s, TIn n S.length w⟩, [], VK.AR e z clock es (rowU (S ++ R))⟩

theorem in_outer (hn : zs.length = n) (h12 : n ≤ 1000000) {F : Fence} {k : Nat} (hF : Wide F) (hro : F.round = none) {j : Nat} {st : St} (hs : InI e z clock n es zs j st) :
  Go.Ev.Reach (SC r) 199 49 F k γ0 W0 (ic (ic (rc cIn))) st fun ex st' => match ex with
   | .normal => ∃ j', j' < j ∧ InI e z clock n es zs j' st'
   | .exit id => id = 0 ∧ ∃ s w S, Srt S ∧ S.Perm zs ∧ st' = ⟨⟨s, TIn n n w⟩, [], VK.AR e z clock es (rowU S)⟩
   | _ => False := by
 obtain ⟨s, w, S, R, hw, rfl, h1, hsrt, hp, rfl⟩ := hs
 have hlen : S.length + R.length = n := by rw [← hn, ← hp.length_eq, List.length_append]
 rw [show ic (ic (rc cIn)) = Code.seq (lc (ic (ic (rc cIn)))) (.seq (.block 1 (.seq (lc yIn) (.block 2 (.loop bIn)))) (rc (rc (ic (ic (rc cIn)))))) from by kernel_rfl]
 refine Go.Ev.Reach.seq (Go.Ev.Reach.seg (SC_ok r) TOk.nil (tm := .nil) (L := 1) (L' := 1) (d := 1) hF hro ?_)
 rw [inB]
 cases R with
 | nil =>
  have hn0 : S.length = n := by simpa using hlen
  have c : ¬ ((S.length : Nat) : Int) < Int.ofNat n := by rw [hn0]; simp
  rw [dF c, cond_false]
  rw [List.append_nil] at hp ⊢
  rw [hn0]
  exact qn_ok ⟨rfl, _, w, S, hsrt, hp, rfl⟩
 | cons x R =>
  simp only [List.length_cons] at hlen
  have c : ((S.length : Nat) : Int) < Int.ofNat n := by simp; omega
  rw [dT c, cond_true]
  have inner : ∀ s, Go.Ev.Reach (SC r) 199 49 F k γ0 W0 (.block 2 (.loop bIn)) ⟨⟨s, TIn n S.length (wj S.length)⟩, [], VK.AR e z clock es (rowU (S ++ x :: R))⟩ fun ex st' => ex = .normal ∧ ∃ s j S', S'.length = S.length + 1 ∧ Srt S' ∧ (S' ++ R).Perm zs ∧ st' = ⟨⟨s, TIn n S.length (wj j)⟩, [], VK.AR e z clock es (rowU (S' ++ R))⟩ := fun s => by
   refine Go.Ev.Reach.block (Go.Ev.Reach.loop (I := InJ e z clock n es zs R S.length) (fun j st h => Go.Ev.Reach.mono (in_body hn h12 hF hro h) fun ex st' h => ?_) (j := S.length) ⟨s, S, x, [], rfl, by simp, by simpa using hsrt, by simp, by simpa using hp, rfl⟩)
   cases ex with
   | normal => exact h
   | exit id =>
    obtain ⟨rfl, s, j, S', q⟩ := h
    exact ⟨rfl, s, j, S', q⟩
   | _ => exact h.elim
  have go : ∀ s, Go.Ev.Reach (SC r) 199 49 F k γ0 W0 (.block 2 (.loop bIn)) ⟨⟨s, TIn n S.length (wj S.length)⟩, [], VK.AR e z clock es (rowU (S ++ x :: R))⟩ fun ex st' => ex = .normal ∧ Go.Ev.Reach (SC r) 199 49 F k γ0 W0 (rc (rc (ic (ic (rc cIn))))) st' fun ex st' => match ex with
   | .normal => ∃ j', j' < (x :: R).length ∧ InI e z clock n es zs j' st'
   | .exit id => id = 0 ∧ ∃ s w S, Srt S ∧ S.Perm zs ∧ st' = ⟨⟨s, TIn n n w⟩, [], VK.AR e z clock es (rowU S)⟩
   | _ => False := fun s => Go.Ev.Reach.mono (inner s) fun ex st' ⟨hex, s, j, S', h1', h2, h3, hst⟩ => by
    refine ⟨hex, ?_⟩
    subst hst
    refine Go.Ev.Reach.seg (SC_ok r) TOk.nil (tm := .nil) (L := 1) (L' := 1) (d := 1) hF hro ?_
    rw [inE]
    have g : IntKind.wrap IntKind.i64 (((S.length : Nat) : Int) + Int.ofNat 1) = ((S'.length : Nat) : Int) := by rw [wrI (by simp; omega), h1']; simp
    rw [g]
    exact qn_ok ⟨R.length, by simp, _, wj j, S', R, .inr ⟨j, rfl⟩, rfl, by omega, h2, h3, rfl⟩
  refine qn_ok (Go.Ev.Reach.seq (Go.Ev.Reach.block (Go.Ev.Reach.seq ?_)))
  rcases hw with rfl | ⟨j, rfl⟩
  ·refine Go.Ev.Reach.seg (SC_ok r) TOk.nil (tm := .nil) (L := 1) (L' := 1) (d := 1) hF hro ?_
   rw [show lc yIn = lc (ic (lc (rc (ic (ic (rc cIn)))))) from rfl]
   refine (inC ..).trans (qn_ok (Go.Ev.Reach.mono (go _) fun ex st' ⟨hex, h⟩ => ?_))
   subst hex
   exact h
  ·refine Go.Ev.Reach.seg (SC_ok r) TOk.nil (tm := .nil) (L := 1) (L' := 1) (d := 1) hF hro ?_
   rw [show lc yIn = lc (ic (lc (rc (ic (ic (rc cIn)))))) from rfl]
   refine (inC2 ..).trans (qn_ok (Go.Ev.Reach.mono (go _) fun ex st' ⟨hex, h⟩ => ?_))
   subst hex
   exact h

theorem srt_one {S T : List Int} (h1 : Srt S) (h2 : Srt T) (hp : S.Perm T) : S = T := hp.eq_of_pairwise (fun a b _ _ => Int.le_antisymm) h1 h2

theorem insertion_S (hn : zs.length = n) (h12 : n ≤ 1000000) (h1 : 1 ≤ n) {T : List Int} (hT : Srt T) (hp : T.Perm zs) :
  SOk (SC r) 117 [slW n, I 0, I n] (VK.AR e z clock es (rowU zs)) fun v A' => v = .tuple ⟨[]⟩ ∧ A' = VK.AR e z clock es (rowU T) := by
 obtain ⟨fn, h1', h2, h3, h4⟩ := fn_of (C := SC r) (f := 117) (by kernel_rfl)
 have hn' : fn.ntmps = 49 := h3.trans (by kernel_rfl)
 rw [bodySC] at h2
 refine call_reachS (SC_ok r) h1' h2 199 (by rw [hn']; rfl) fun γ W F k hw hF hro => ?_
 rw [hn', h4]
 show Go.Ev.Reach (SC r) 199 49 F k γ W cIn _ _
 rw [show cIn = Code.seq (lc cIn) (.block 0 (.loop (ic (ic (rc cIn))))) from by kernel_rfl]
 refine Go.Ev.Reach.seq (Go.Ev.Reach.seg (SC_ok r) TOk.nil (tm := .nil) (L := 1) (L' := 1) (d := 1) hF hro ((inA ..).trans (qn_ok ?_)))
 cases hz : zs with
 | nil => rw [hz] at hn; simp at hn; omega
 | cons x R =>
  refine Go.Ev.Reach.block (Go.Ev.Reach.loop (I := InI e z clock n es zs) (fun j st h => Go.Ev.Reach.mono (in_outer hn h12 hF hro h) fun ex st' h => ?_) (j := R.length) ⟨_, .nil, [x], R, .inl rfl, rfl, by simp, Srt.one x, by rw [hz]; exact .refl _, rfl⟩)
  cases ex with
  | normal => exact h
  | exit id =>
   obtain ⟨rfl, s, w, S, q1, q2, rfl⟩ := h
   refine ⟨.inl rfl, _, _, _, Ren.refl _, ?_, rfl, rfl⟩
   rw [← finK_finish, srt_one hT q1 (hp.trans q2.symm)]
   exact inF ..
  | _ => exact h.elim

end

end Go.Proofs

