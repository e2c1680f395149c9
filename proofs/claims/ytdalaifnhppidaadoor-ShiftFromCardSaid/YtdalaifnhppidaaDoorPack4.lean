/- What the claim is proved with, part 4: the evaluator and the contracts of the calls. -/
import Derived.Test.YtdalaifnhppidaaDoorPack1
import Derived.Test.YtdalaifnhppidaaDoorPack3
import Derived.Test.YtdalaifnhppidaaDoorPack2
/- The order that intervals represent, run. -/
namespace Go.Proofs
open Go Go.Ev Go.Num
set_option linter.unusedVariables false
set_option linter.unusedSimpArgs false
set_option maxRecDepth 100000

noncomputable def cYo : Code := bodyOf S0 20
noncomputable def Yo_0 : Code := (lc cYo)
noncomputable def Yo_1 : Code := (lc (rc cYo))
noncomputable def Yo_2 : Code := (lc (lc (rc (rc cYo))))
noncomputable def Yo_3 : Code := (lc (ic (ic (rc (lc (rc (rc cYo)))))))
noncomputable def Yo_4 : Code := (lc (rc (ic (ic (rc (lc (rc (rc cYo))))))))
noncomputable def Yo_5 : Code := (lc (ic (lc (rc (rc (ic (ic (rc (lc (rc (rc cYo)))))))))))
noncomputable def Yo_6 : Code := (lc (rc (ic (lc (rc (rc (ic (ic (rc (lc (rc (rc cYo))))))))))))
noncomputable def Yo_7 : Code := (ic (ic (rc (rc (ic (lc (rc (rc (ic (ic (rc (lc (rc (rc cYo))))))))))))))
noncomputable def Yo_8 : Code := (rc (rc (rc (ic (ic (rc (lc (rc (rc cYo)))))))))
noncomputable def Yo_9 : Code := (rc (rc (rc cYo)))
theorem Yo_eq : cYo = (.seq Yo_0 (.seq Yo_1 (.seq (.seq Yo_2 (.block 0 (.loop (.seq Yo_3 (.seq Yo_4 (.seq (.block 1 (.seq Yo_5 (.seq Yo_6 (.block 2 (.loop Yo_7))))) Yo_8)))))) Yo_9))) := by kernel_rfl
def oSn (x y : Int) (i : Nat) : Option AObj := some (.cells [I x, I y] 75 i 0)
def lvYo : List Nat := [2, 3, 0, 11, 12, 13]
def vYo (b off n cap i : Nat) : OV := [some (pq 0), some (pq 1), some (RS2 b off n cap), some (RS2 b off n cap), some (I (n : Nat)), some (I (i : Nat))]
def lvYoi : List Nat := [2, 3, 5, 0, 11, 12, 13, 4, 18, 19, 20]
def vYoi (b off n cap i k : Nat) : OV := [some (pq 0), some (pq 1), some (pq 2), some (RS2 b off n cap), some (RS2 b off n cap), some (I (n : Nat)), some (I (i : Nat)), some (I (i : Nat)), some (RS2 b off n cap), some (I (n : Nat)), some (I (k : Nat))]
def oYo (c : List Value) : OO := [oOr z25 0, oOr c 1]
def oYoi (c : List Value) (x y : Int) : OO := oYo c ++ [oSn x y 2]


theorem yoA (r : Mem) (b off n cap : Nat) (fs : FnsC) (K : OV → List Nat → OO → CR) (kx : Nat → KS) (kr : KS) : run (SC r) 1849597 36 1 (.seq Yo_0 (.seq Yo_1 Yo_2)) fs none (rbK 0 lvYo [] K) kx kr (sc0 1849597 [RS2 b off n cap]) (tr0 1849597 [RS2 b off n cap]) [] emptyA =
    K [some (.pointer (some ⟨0, 0, none⟩)), some (.pointer (some ⟨1, 0, none⟩)), some (.slice (some ⟨b, off, some 0⟩) n cap), some (.slice (some ⟨b, off, some 0⟩) n cap), some (I (Int.ofNat n)), some (I (Int.ofNat 0))] [] [some (.cells z25 56 0 0), some (.cells [I (Int.ofNat n), .int .u16 (Int.ofNat 0), .int .u16 (Int.ofNat 0), .int .u16 (Int.ofNat 0), .int .u16 (Int.ofNat 0), .int .u16 (Int.ofNat 0), .int .u16 (Int.ofNat 0), .int .u16 (Int.ofNat 0), .int .u16 (Int.ofNat 0), .int .u16 (Int.ofNat 0), .int .u16 (Int.ofNat 0), .int .u16 (Int.ofNat 0), .int .u16 (Int.ofNat 0), .int .u16 (Int.ofNat 0), .int .u16 (Int.ofNat 0), .int .u16 (Int.ofNat 0), .int .u16 (Int.ofNat 0), .int .u16 (Int.ofNat 0), .int .u16 (Int.ofNat 0), .int .u16 (Int.ofNat 0), .int .u16 (Int.ofNat 0), .int .u16 (Int.ofNat 0), .int .u16 (Int.ofNat 0), .int .u16 (Int.ofNat 0), .int .u16 (Int.ofNat 0)] 56 1 0)] := by kernel_rfl

theorem yoB (r : Mem) (b off n cap i : Nat) (c : List Value) (fs : FnsC) (K : OV → List Nat → OO → CR) (KX : Nat → OV → List Nat → OO → CR) (kr : KS) : run (SC r) 1849597 36 1 (.seq Yo_3 Yo_4) fs none (rbK 0 lvYo [] K) (fun j => rbK 0 [2, 3] [] (KX j)) kr [] (bT lvYo (vYo b off n cap i) .nil) [] (mkA (oYo c)) =
    bif decide (Int.ofNat i < Int.ofNat n) then bif true && (m_nns c && true) then K [some (.pointer (some ⟨0, 0, none⟩)), some (.pointer (some ⟨1, 0, none⟩)), some (.slice (some ⟨b, off, some 0⟩) n cap), some (.slice (some ⟨b, off, some 0⟩) n cap), some (I (Int.ofNat n)), some (I (Int.ofNat i))] [] [some (.cells z25 56 0 0), some (.cells c 56 1 0)] else .fail 420 else bif true && (m_nns c && true) then KX 0 [some (.pointer (some ⟨0, 0, none⟩)), some (.pointer (some ⟨1, 0, none⟩))] [] [some (.cells z25 56 0 0), some (.cells c 56 1 0)] else .fail 420 := by kernel_rfl

theorem yoC (r : Mem) (b off n cap i : Nat) (c : List Value) (fs : FnsC) (K : OV → List Nat → OO → CR) (kx : Nat → KS) (kr : KS) : run (SC r) 1849597 36 1 (.seq Yo_5 Yo_6) fs none (rbK 0 lvYoi [] K) kx kr [] (bT lvYo (vYo b off n cap i) .nil) [] (mkA (oYo c)) =
    bif Nat.blt (Int.toNat (Int.ofNat i)) n then Option.casesOn (r b (Nat.add off (Nat.mul (Int.toNat (Int.ofNat i)) 2))) (.fail 423) fun val => bif isI IntKind.i64 val then Option.casesOn (r b (Nat.succ (Nat.add off (Nat.mul (Int.toNat (Int.ofNat i)) 2)))) (.fail 423) fun val_1 => bif isI IntKind.i64 val_1 then bif true && (m_nns c && (m_nns [I (ofI val), I (ofI val_1)] && true)) then K [some (.pointer (some ⟨0, 0, none⟩)), some (.pointer (some ⟨1, 0, none⟩)), some (.pointer (some ⟨2, 0, none⟩)), some (.slice (some ⟨b, off, some 0⟩) n cap), some (.slice (some ⟨b, off, some 0⟩) n cap), some (I (Int.ofNat n)), some (I (Int.ofNat i)), some (I (Int.ofNat i)), some (.slice (some ⟨b, off, some 0⟩) n cap), some (I (Int.ofNat n)), some (I (Int.ofNat 0))] [] [some (.cells z25 56 0 0), some (.cells c 56 1 0), some (.cells [I (ofI val), I (ofI val_1)] 75 2 0)] else .fail 420 else .fail 420 else .fail 420 else .fail 420 := by kernel_rfl

theorem yoD (r : Mem) (b off n cap i k : Nat) (x y : Int) (c : List Value) (K : OV → List Nat → OO → CR) (KX : Nat → OV → List Nat → OO → CR) (kr : KS) : run (SC r) 1849597 36 1 Yo_7 (lvlT (SC r) (fun _ => none) .nil 1 3) none (rbK 0 lvYoi [] K) (fun j => rbK 0 lvYo [] (KX j)) kr [] (bT lvYoi (vYoi b off n cap i k) .nil) [] (mkA (oYoi c x y)) =
    bif decide (Int.ofNat k < Int.ofNat n) then bif Nat.blt (Int.toNat (Int.ofNat k)) n then Option.casesOn (r b (Nat.add off (Nat.mul (Int.toNat (Int.ofNat k)) 2))) (.fail 423) fun val => bif isI IntKind.i64 val then Option.casesOn (r b (Nat.succ (Nat.add off (Nat.mul (Int.toNat (Int.ofNat k)) 2)))) (.fail 423) fun val_1 => bif isI IntKind.i64 val_1 then bif decide (y < ofI val) then bif Nat.blt (Int.toNat (Int.ofNat k)) 12 then Option.casesOn c[Nat.add 1 (Nat.mul (Int.toNat (Int.ofNat k)) 1)]? (.fail 423) fun val => bif isI IntKind.u16 val then bif Nat.blt (Int.toNat (Int.ofNat k)) 12 then bif Nat.blt (Nat.add 1 (Nat.mul (Int.toNat (Int.ofNat k)) 1)) (List.length c) then Option.casesOn c[Nat.add 1 (Nat.mul (Int.toNat (Int.ofNat k)) 1)]? (.fail 423) fun val_2 => bif isI IntKind.u16 val_2 then bif m_eqv (.int .u16 (ofI val_2)) (.int .u16 (ofI val)) then Option.casesOn c[Nat.add 1 (Nat.mul (Int.toNat (Int.ofNat k)) 1)]? (.fail 423) fun val_3 => bif isI IntKind.u16 val_3 then bif m_eqv (.int .u16 (ofI val_3)) (.int .u16 (ofI val)) then bif Nat.blt (Int.toNat (Int.ofNat i)) 12 then Option.casesOn (List.set c (Nat.add 1 (Nat.mul (Int.toNat (Int.ofNat k)) 1)) (.int .u16 (ibits BinOp.or IntKind.u16 (ofI val) (IntKind.wrap .u16 (Int.ofNat 1 * Int.ofNat 2 ^ min (Int.toNat (Int.ofNat i)) 16)))))[Nat.add 13 (Nat.mul (Int.toNat (Int.ofNat i)) 1)]? (.fail 423) fun val_4 => bif isI IntKind.u16 val_4 then bif Nat.blt (Int.toNat (Int.ofNat i)) 12 then bif Nat.blt (Nat.add 13 (Nat.mul (Int.toNat (Int.ofNat i)) 1)) (List.length (List.set c (Nat.add 1 (Nat.mul (Int.toNat (Int.ofNat k)) 1)) (.int .u16 (ibits BinOp.or IntKind.u16 (ofI val) (IntKind.wrap .u16 (Int.ofNat 1 * Int.ofNat 2 ^ min (Int.toNat (Int.ofNat i)) 16)))))) then Option.casesOn (List.set c (Nat.add 1 (Nat.mul (Int.toNat (Int.ofNat k)) 1)) (.int .u16 (ibits BinOp.or IntKind.u16 (ofI val) (IntKind.wrap .u16 (Int.ofNat 1 * Int.ofNat 2 ^ min (Int.toNat (Int.ofNat i)) 16)))))[Nat.add 13 (Nat.mul (Int.toNat (Int.ofNat i)) 1)]? (.fail 423) fun val_5 => bif isI IntKind.u16 val_5 then bif m_eqv (.int .u16 (ofI val_5)) (.int .u16 (ofI val_4)) then Option.casesOn (List.set c (Nat.add 1 (Nat.mul (Int.toNat (Int.ofNat k)) 1)) (.int .u16 (ibits BinOp.or IntKind.u16 (ofI val) (IntKind.wrap .u16 (Int.ofNat 1 * Int.ofNat 2 ^ min (Int.toNat (Int.ofNat i)) 16)))))[Nat.add 13 (Nat.mul (Int.toNat (Int.ofNat i)) 1)]? (.fail 423) fun val_6 => bif isI IntKind.u16 val_6 then bif m_eqv (.int .u16 (ofI val_6)) (.int .u16 (ofI val_4)) then bif true && (m_nns (List.set (List.set c (Nat.add 1 (Nat.mul (Int.toNat (Int.ofNat k)) 1)) (.int .u16 (ibits BinOp.or IntKind.u16 (ofI val) (IntKind.wrap .u16 (Int.ofNat 1 * Int.ofNat 2 ^ min (Int.toNat (Int.ofNat i)) 16))))) (Nat.add 13 (Nat.mul (Int.toNat (Int.ofNat i)) 1)) (.int .u16 (ibits BinOp.or IntKind.u16 (ofI val_4) (IntKind.wrap .u16 (Int.ofNat 1 * Int.ofNat 2 ^ min (Int.toNat (Int.ofNat k)) 16))))) && (m_nns [I x, I y] && true)) then K [some (.pointer (some ⟨0, 0, none⟩)), some (.pointer (some ⟨1, 0, none⟩)), some (.pointer (some ⟨2, 0, none⟩)), some (.slice (some ⟨b, off, some 0⟩) n cap), some (.slice (some ⟨b, off, some 0⟩) n cap), some (I (Int.ofNat n)), some (I (Int.ofNat i)), some (I (Int.ofNat i)), some (.slice (some ⟨b, off, some 0⟩) n cap), some (I (Int.ofNat n)), some (I (IntKind.wrap .i64 (Int.ofNat k + Int.ofNat 1)))] [] [some (.cells z25 56 0 0), some (.cells (List.set (List.set c (Nat.add 1 (Nat.mul (Int.toNat (Int.ofNat k)) 1)) (.int .u16 (ibits BinOp.or IntKind.u16 (ofI val) (IntKind.wrap .u16 (Int.ofNat 1 * Int.ofNat 2 ^ min (Int.toNat (Int.ofNat i)) 16))))) (Nat.add 13 (Nat.mul (Int.toNat (Int.ofNat i)) 1)) (.int .u16 (ibits BinOp.or IntKind.u16 (ofI val_4) (IntKind.wrap .u16 (Int.ofNat 1 * Int.ofNat 2 ^ min (Int.toNat (Int.ofNat k)) 16))))) 56 1 0), some (.cells [I x, I y] 75 2 0)] else .fail 420 else .fail 420 else .fail 420 else .fail 420 else .fail 420 else .fail 420 else .fail 420 else .fail 420 else .fail 420 else .fail 420 else .fail 420 else .fail 420 else .fail 420 else .fail 420 else .fail 420 else .fail 420 else .fail 420 else bif true && (m_nns c && (m_nns [I x, I y] && true)) then K [some (.pointer (some ⟨0, 0, none⟩)), some (.pointer (some ⟨1, 0, none⟩)), some (.pointer (some ⟨2, 0, none⟩)), some (.slice (some ⟨b, off, some 0⟩) n cap), some (.slice (some ⟨b, off, some 0⟩) n cap), some (I (Int.ofNat n)), some (I (Int.ofNat i)), some (I (Int.ofNat i)), some (.slice (some ⟨b, off, some 0⟩) n cap), some (I (Int.ofNat n)), some (I (IntKind.wrap .i64 (Int.ofNat k + Int.ofNat 1)))] [] [some (.cells z25 56 0 0), some (.cells c 56 1 0), some (.cells [I x, I y] 75 2 0)] else .fail 420 else .fail 420 else .fail 420 else .fail 420 else bif true && (m_nns c && true) then KX 2 [some (.pointer (some ⟨0, 0, none⟩)), some (.pointer (some ⟨1, 0, none⟩)), some (.slice (some ⟨b, off, some 0⟩) n cap), some (.slice (some ⟨b, off, some 0⟩) n cap), some (I (Int.ofNat n)), some (I (Int.ofNat i))] [] [some (.cells z25 56 0 0), some (.cells c 56 1 0)] else .fail 420 := by kernel_rfl

theorem yoE (r : Mem) (b off n cap i : Nat) (c : List Value) (fs : FnsC) (K : OV → List Nat → OO → CR) (kx : Nat → KS) (kr : KS) : run (SC r) 1849597 36 1 Yo_8 fs none (rbK 0 lvYo [] K) kx kr [] (bT lvYo (vYo b off n cap i) .nil) [] (mkA (oYo c)) =
    bif true && (m_nns c && true) then K [some (.pointer (some ⟨0, 0, none⟩)), some (.pointer (some ⟨1, 0, none⟩)), some (.slice (some ⟨b, off, some 0⟩) n cap), some (.slice (some ⟨b, off, some 0⟩) n cap), some (I (Int.ofNat n)), some (I (IntKind.wrap .i64 (Int.ofNat i + Int.ofNat 1)))] [] [some (.cells z25 56 0 0), some (.cells c 56 1 0)] else .fail 420 := by kernel_rfl

theorem yoF (r : Mem) (n : Nat) (w a : Nat → Nat) (fs : FnsC) (K KR : OV → List Nat → OO → CR) (kx : Nat → KS) : run (SC r) 1849597 36 1 Yo_9 fs none (rbK 0 [2] [] K) kx (rbK 0 [2] [] KR) [] (bT [2, 3] [some (pq 0), some (pq 1)] .nil) [] (mkA (oYo (orC n w a))) =
    KR [some (.pointer (some ⟨0, 0, none⟩))] [] [some (.cells (orC n w a) 56 0 0)] := by kernel_rfl

end Go.Proofs

/- The order that intervals represent: what the call answers. -/
namespace Go.Proofs
open Go Go.Ev Go.Num
set_option linter.unusedVariables false
set_option linter.unusedSimpArgs false
set_option maxRecDepth 100000

def tS (z : Nat → Int) (n : Nat) : List (List Bool) := (List.range n).map fun i => (List.range n).map fun k => decide (eb z i < ea z k)
theorem tS_len (z : Nat → Int) (n : Nat) : (tS z n).length = n := by simp [tS]
theorem tS_get {z : Nat → Int} {n i : Nat} (h : i < n) : (tS z n)[i]? = some ((List.range n).map fun k => decide (eb z i < ea z k)) := by
 unfold tS
 rw [List.getElem?_map, List.getElem?_range h]
 rfl
theorem tS_row {z : Nat → Int} {n i : Nat} (h : i < n) : (tS z n).getD i [] = (List.range n).map fun k => decide (eb z i < ea z k) := by
 rw [List.getD_eq_getElem?_getD, tS_get h]
 rfl
theorem tS_rl {z : Nat → Int} {n i : Nat} (h : i < n) : ((tS z n).getD i []).length = n := by rw [tS_row h]; simp
theorem tS_at {z : Nat → Int} {n i k : Nat} (h : i < n) (hk : k < n) : gT (tS z n) i k = decide (eb z i < ea z k) := by
 unfold gT
 rw [tS_row h, List.getD_eq_getElem?_getD, List.getElem?_map, List.getElem?_range hk]
 rfl
section
variable {r : Mem} {b off n cap : Nat} {z : Nat → Int}
theorem yo_ok (hz : rowAt r b off (2 * n) z) (hn : n ≤ 12) : GrT Tryd.prog r 20 [RS2 b off n cap] (.agg ⟨orC n (wB (tS z n) n 0) (wA (tS z n) n 0)⟩) := by
 have hTl := tS_len z n
 let st : Nat → Nat → List Value := fun i k => orC n (wB (tS z n) i k) (wA (tS z n) i k)
 have snn : ∀ i k, m_nns (st i k) = true := fun i k => orC_nn _ _ _
 refine GrT.ofS (C := SC r) rfl rfl rfl (callO (SC_ok r) (by kernel_rfl) ((bodySC r _).trans Yo_eq) (nt := 36) (by kernel_rfl) (rs := [.cell 2 56]) (by kernel_rfl) 1849597 rfl ⟨[2], [], fun vs ms os => vs = [some (pq 0)] ∧ ms = [] ∧ os = [oOr (st n 0) 0]⟩ ?_ fun γ W F kk hwr hF hro h0' => ?_)
 ·rintro vs ms os ⟨rfl, rfl, rfl⟩
  exact ⟨_, mkA [oOr (st n 0) 0], by kernel_rfl, rfl⟩
 have h0' : ∀ i, 0 ≤ i → γ i = none := h0'
 have w1 : ∀ k : Nat, k ≤ 1000 → IntKind.wrap IntKind.i64 ((k : Int) + ((1 : Nat) : Int)) = ((k + 1 : Nat) : Int) := fun k hk => inc1' (by omega)
 refine Go.Ev.Reach.after3R (SC_ok r) TOk.nil (tm := .nil) (L := 1) (L' := 1) (d := 1) hF hro h0' (.step (.step .base))
  (o1 := ⟨lvYo, [], fun vs ms os => vs = vYo b off n cap 0 ∧ ms = [] ∧ os = oYo (st 0 0)⟩)
  (o2 := ⟨[2, 3], [], fun vs ms os => vs = [some (pq 0), some (pq 1)] ∧ ms = [] ∧ os = oYo (st n 0)⟩) [] (fun p hp => nomatch hp) ?_ ?_ ?_
 ·rintro vs ms os ⟨rfl, rfl, rfl⟩
  refine Go.Ev.Reach.blockC (Go.Ev.Reach.loopC (j := n) (lv := lvYo) (fl := []) (I := fun j vs ms os => ∃ i : Nat, i ≤ n ∧ j = n - i ∧ vs = vYo b off n cap i ∧ ms = [] ∧ os = oYo (st i 0)) (fun j vs ms os hI => ?_) ⟨0, by omega, rfl, rfl, rfl, rfl⟩)
  obtain ⟨i, hi, rfl, rfl, rfl, rfl⟩ := hI
  have hB := yoB r b off n cap i (st i 0)
  simp only [Int.ofNat_eq_natCast, snn, Bool.and_true, Bool.true_and, cond_true] at hB
  by_cases c : i < n
  ·simp only [dT (show (i : Int) < (n : Int) by omega), cond_true] at hB
   refine Go.Ev.Reach.afterR (SC_ok r) TOk.nil (tm := .nil) (L := 1) (L' := 1) (d := 1) hF hro h0' (.step .base) (o1 := ⟨lvYo, [], fun vs ms os => vs = vYo b off n cap i ∧ ms = [] ∧ os = oYo (st i 0)⟩) [(0, ⟨[2, 3], [], fun vs ms os => vs = [some (pq 0), some (pq 1)] ∧ ms = [] ∧ os = oYo (st n 0)⟩)] (fun p hp => by simp only [List.mem_cons, List.not_mem_nil, or_false] at hp; subst hp; rfl) (fun vs ms os hq => ?_) ((hB _ _ _ _).trans (qq_ok ⟨rfl, rfl, rfl⟩))
   obtain ⟨rfl, rfl, rfl⟩ := hq
   refine Go.Ev.Reach.seqC (o1 := ⟨lvYo, [], fun vs ms os => vs = vYo b off n cap i ∧ ms = [] ∧ os = oYo (st (i + 1) 0)⟩) (Go.Ev.Reach.blockC ?_) fun vs ms os hq => ?_
   ·have b1 : Nat.blt i n = true := Nat.ble_eq_true_of_le (by omega)
    have hC := yoC r b off n cap i (st i 0)
    simp only [show ∀ x : Nat, Int.toNat (Int.ofNat x) = x from fun _ => rfl, b1, row_a hz c, row_b hz c, isI_I, cond_true] at hC
    dsimp +instances only [ofI_I] at hC
    simp only [snn, show m_nns [I (ea z i), I (eb z i)] = true from rfl, Bool.and_true, Bool.true_and, cond_true] at hC
    refine Go.Ev.Reach.afterR (SC_ok r) TOk.nil (tm := .nil) (L := 1) (L' := 1) (d := 1) hF hro h0' (.step .base) (o1 := ⟨lvYoi, [], fun vs ms os => vs = vYoi b off n cap i 0 ∧ ms = [] ∧ os = oYoi (st i 0) (ea z i) (eb z i)⟩) [] (fun p hp => nomatch hp) (fun vs ms os hq => ?_) ((hC _ _ _ _).trans (qq_ok ⟨rfl, rfl, rfl⟩))
    obtain ⟨rfl, rfl, rfl⟩ := hq
    refine Go.Ev.Reach.blockC (Go.Ev.Reach.loopC (j := n) (lv := lvYoi) (fl := []) (I := fun j vs ms os => ∃ k : Nat, k ≤ n ∧ j = n - k ∧ vs = vYoi b off n cap i k ∧ ms = [] ∧ os = oYoi (st i k) (ea z i) (eb z i)) (fun j vs ms os hI => ?_) ⟨0, by omega, rfl, rfl, rfl, rfl⟩)
    obtain ⟨k, hk, rfl, rfl, rfl, rfl⟩ := hI
    refine Go.Ev.Reach.segR (SC_ok r) TOk.nil (tm := .nil) (L := 1) (L' := 1) (d := 3) hF hro h0' [(2, ⟨lvYo, [], fun vs ms os => vs = vYo b off n cap i ∧ ms = [] ∧ os = oYo (st (i + 1) 0)⟩)] (fun p hp => by simp only [List.mem_cons, List.not_mem_nil, or_false] at hp; subst hp; rfl) ?_
    have hn' := yoD r b off n cap i k (ea z i) (eb z i) (st i k)
    simp only [show ∀ x : Nat, Int.toNat (Int.ofNat x) = x from fun _ => rfl] at hn'
    by_cases ck : k < n
    ·have b3 : Nat.blt k n = true := Nat.ble_eq_true_of_le (by omega)
     have b4 : Nat.blt i 12 = true := Nat.ble_eq_true_of_le (by omega)
     have b4' : Nat.blt k 12 = true := Nat.ble_eq_true_of_le (by omega)
     have hlw := wB_lt (T := tS z n) (i := i) (by omega) k k
     have hla := wA_lt (T := tS z n) (by omega) (k := k) (by omega) i i
     have h2i : 2 ^ i < 4096 := Nat.pow_lt_pow_right (n := 12) (by decide) (by omega)
     have h2k : 2 ^ k < 4096 := Nat.pow_lt_pow_right (n := 12) (by decide) (by omega)
     have ho1 : ibits .or .u16 ((wB (tS z n) i k k : Nat) : Int) ((2 ^ i : Nat) : Int) = ((wB (tS z n) i k k ||| 2 ^ i : Nat) : Int) := (uV (by omega) (by omega)).1
     have ho2 : ibits .or .u16 ((wA (tS z n) i k i : Nat) : Int) ((2 ^ k : Nat) : Int) = ((wA (tS z n) i k i ||| 2 ^ k : Nat) : Int) := (uV (by omega) (by omega)).1
     have g1 : (st i k)[1 + k]? = some (V ((wB (tS z n) i k k : Nat) : Int)) := orC_w (by omega)
     have b5 : Nat.blt (1 + k) (st i k).length = true := by rw [show (st i k).length = 25 from rfl]; exact Nat.ble_eq_true_of_le (by omega)
     have hset1 : (st i k).set (1 + k) (V ((wB (tS z n) i k k ||| 2 ^ i : Nat) : Int)) = orC n (fun j => if j = k then wB (tS z n) i k k ||| 2 ^ i else wB (tS z n) i k j) (wA (tS z n) i k) := orC_setw (by omega)
     have hs1 := shlV (b := i) (by omega)
     have hs2 := shlV (b := k) (by omega)
     have e0 : ∀ o k : Nat, Nat.add o (Nat.mul k 1) = o + k := fun o k => by simp
     simp only [dT (show (Int.ofNat k) < (Int.ofNat n) by simp; omega), b3, b4, b4', row_a hz ck, row_b hz ck, e0, isI_I, cond_true] at hn'
     dsimp +instances only [ofI_I] at hn'
     rw [show IntKind.wrap IntKind.i64 (Int.ofNat k + Int.ofNat 1) = ((k + 1 : Nat) : Int) from w1 k (by omega)] at hn'
     cases hg : gT (tS z n) i k with
     | true =>
      have hput : ((st i k).set (1 + k) (V ((wB (tS z n) i k k ||| 2 ^ i : Nat) : Int))).set (13 + i) (V ((wA (tS z n) i k i ||| 2 ^ k : Nat) : Int)) = st i (k + 1) := put_ok (by omega) (by omega) hg
      have g2 : ((st i k).set (1 + k) (V ((wB (tS z n) i k k ||| 2 ^ i : Nat) : Int)))[13 + i]? = some (V ((wA (tS z n) i k i : Nat) : Int)) := by rw [hset1]; exact orC_a (by omega)
      have b6 : Nat.blt (13 + i) ((st i k).set (1 + k) (V ((wB (tS z n) i k k ||| 2 ^ i : Nat) : Int))).length = true := by rw [List.length_set, show (st i k).length = 25 from rfl]; exact Nat.ble_eq_true_of_le (by omega)
      have hlt : decide (eb z i < ea z k) = true := by rw [← tS_at c ck]; exact hg
      simp only [hlt, cond_true, g1, isV_V, b5] at hn'
      dsimp +instances only [ofI_V] at hn'
      simp only [eqv_v, cond_true, hs1, ho1, g2, isV_V, b6] at hn'
      dsimp +instances only [ofI_V] at hn'
      simp only [eqv_v, cond_true, hs2, ho2, hput, snn, show m_nns [I (ea z i), I (eb z i)] = true from rfl, Bool.and_true, Bool.true_and] at hn'
      exact (hn' _ _ _).trans (qq_ok ⟨n - (k + 1), by omega, k + 1, ck, rfl, rfl, rfl, rfl⟩)
     | false =>
      have hlt : decide (eb z i < ea z k) = false := by rw [← tS_at c ck]; exact hg
      simp only [hlt, cond_false, snn, show m_nns [I (ea z i), I (eb z i)] = true from rfl, Bool.and_true, Bool.true_and, cond_true] at hn'
      have hsk : st i k = st i (k + 1) := skip_ok hg
      rw [hsk] at hn'
      rw [hsk]
      exact (hn' _ _ _).trans (qq_ok ⟨n - (k + 1), by omega, k + 1, ck, rfl, rfl, rfl, rfl⟩)
    ·obtain rfl : k = n := by omega
     simp only [Int.ofNat_eq_natCast, dF (show ¬ (k : Int) < (k : Int) by omega), cond_false, snn, Bool.and_true, Bool.true_and, cond_true] at hn'
     have hne := next_ok (T := tS z k) (n := k) (i := i) (by rw [tS_rl c, hTl])
     rw [hTl] at hne
     exact (hn' _ _ _).trans (qq_ok ⟨rfl, rfl, by rw [show st (i + 1) 0 = st i k from hne.symm]; rfl⟩)
   ·obtain ⟨rfl, rfl, rfl⟩ := hq
    refine Go.Ev.Reach.segR (SC_ok r) TOk.nil (tm := .nil) (L := 1) (L' := 1) (d := 1) hF hro h0' [] (fun p hp => nomatch hp) ?_
    have hn' := yoE r b off n cap i (st (i + 1) 0)
    simp only [Int.ofNat_eq_natCast, snn, Bool.and_true, Bool.true_and, cond_true, w1 i (by omega)] at hn'
    exact (hn' _ _ _ _).trans (qq_ok ⟨n - (i + 1), by omega, i + 1, c, rfl, rfl, rfl, rfl⟩)
  ·obtain rfl : i = n := by omega
   simp only [dF (show ¬ (i : Int) < (i : Int) by omega), cond_false] at hB
   exact Go.Ev.Reach.afterR (SC_ok r) TOk.nil (tm := .nil) (L := 1) (L' := 1) (d := 1) hF hro h0' (.step .base) (o1 := ⟨lvYo, [], fun _ _ _ => False⟩) [(0, ⟨[2, 3], [], fun vs ms os => vs = [some (pq 0), some (pq 1)] ∧ ms = [] ∧ os = oYo (st i 0)⟩)] (fun p hp => by simp only [List.mem_cons, List.not_mem_nil, or_false] at hp; subst hp; rfl) (fun vs ms os hq => hq.elim) ((hB _ _ _ _).trans (qq_ok ⟨rfl, rfl, rfl⟩))
 ·rintro vs ms os ⟨rfl, rfl, rfl⟩
  exact Go.Ev.Reach.segR (SC_ok r) TOk.nil (tm := .nil) (L := 1) (L' := 1) (d := 1) hF hro h0' [] (fun p hp => nomatch hp) ((yoF r n (wB (tS z n) n 0) (wA (tS z n) n 0) _ _ _ _).trans (qq_ok ⟨rfl, rfl, rfl⟩))
 ·exact (yoA r b off n cap _ _ _ _).trans (qq_ok ⟨rfl, rfl, rfl⟩)
end

end Go.Proofs

/- The reference of intervals, run: peak, right boats, errors, tables compared. -/
namespace Go.Proofs
open Go Go.Ev Go.Num
set_option linter.unusedVariables false
set_option linter.unusedSimpArgs false
set_option maxRecDepth 100000

noncomputable def cYp : Code := bodyOf S0 10
noncomputable def Yp_0 : Code := (lc cYp)
noncomputable def Yp_1 : Code := (lc (rc cYp))
noncomputable def Yp_2 : Code := (lc (lc (rc (rc cYp))))
noncomputable def Yp_3 : Code := (lc (ic (ic (rc (lc (rc (rc cYp)))))))
noncomputable def Yp_4 : Code := (lc (ic (lc (rc (ic (ic (rc (lc (rc (rc cYp))))))))))
noncomputable def Yp_5 : Code := (lc (lc (rc (ic (lc (rc (ic (ic (rc (lc (rc (rc cYp))))))))))))
noncomputable def Yp_6 : Code := (ic (ic (rc (lc (rc (ic (lc (rc (ic (ic (rc (lc (rc (rc cYp))))))))))))))
noncomputable def Yp_7 : Code := (rc (rc (ic (lc (rc (ic (ic (rc (lc (rc (rc cYp)))))))))))
noncomputable def Yp_8 : Code := (rc (rc (ic (ic (rc (lc (rc (rc cYp))))))))
noncomputable def Yp_9 : Code := (rc (rc (rc cYp)))
theorem Yp_eq : cYp = (.seq Yp_0 (.seq Yp_1 (.seq (.seq Yp_2 (.block 0 (.loop (.seq Yp_3 (.seq (.block 1 (.seq Yp_4 (.seq (.seq Yp_5 (.block 2 (.loop Yp_6))) Yp_7))) Yp_8))))) Yp_9))) := by kernel_rfl
noncomputable def cYr : Code := bodyOf S0 13
noncomputable def Yr_0 : Code := (lc cYr)
noncomputable def Yr_1 : Code := (lc (rc cYr))
noncomputable def Yr_2 : Code := (lc (lc (rc (rc cYr))))
noncomputable def Yr_3 : Code := (lc (ic (ic (rc (lc (rc (rc cYr)))))))
noncomputable def Yr_4 : Code := (lc (ic (lc (rc (ic (ic (rc (lc (rc (rc cYr))))))))))
noncomputable def Yr_5 : Code := (lc (rc (ic (lc (rc (ic (ic (rc (lc (rc (rc cYr)))))))))))
noncomputable def Yr_6 : Code := (ic (ic (rc (rc (ic (lc (rc (ic (ic (rc (lc (rc (rc cYr)))))))))))))
noncomputable def Yr_7 : Code := (rc (rc (ic (ic (rc (lc (rc (rc cYr))))))))
noncomputable def Yr_8 : Code := (rc (rc (rc cYr)))
theorem Yr_eq : cYr = (.seq Yr_0 (.seq Yr_1 (.seq (.seq Yr_2 (.block 0 (.loop (.seq Yr_3 (.seq (.block 1 (.seq Yr_4 (.seq Yr_5 (.block 2 (.loop Yr_6))))) Yr_7))))) Yr_8))) := by kernel_rfl
noncomputable def cYi : Code := bodyOf S0 8
noncomputable def Yi_0 : Code := (lc cYi)
noncomputable def Yi_1 : Code := (lc (rc cYi))
noncomputable def Yi_2 : Code := (lc (rc (rc cYi)))
noncomputable def Yi_3 : Code := (lc (lc (rc (rc (rc cYi)))))
noncomputable def Yi_4 : Code := (ic (ic (rc (lc (rc (rc (rc cYi)))))))
noncomputable def Yi_5 : Code := (rc (rc (rc (rc cYi))))
theorem Yi_eq : cYi = (.seq Yi_0 (.seq Yi_1 (.seq Yi_2 (.seq (.seq Yi_3 (.block 0 (.loop Yi_4))) Yi_5)))) := by kernel_rfl
noncomputable def cYs : Code := bodyOf S0 11
noncomputable def Ys_0 : Code := (lc cYs)
noncomputable def Ys_1 : Code := (lc (rc cYs))
noncomputable def Ys_2 : Code := (lc (lc (rc (rc cYs))))
noncomputable def Ys_3 : Code := (lc (ic (ic (rc (lc (rc (rc cYs)))))))
noncomputable def Ys_4 : Code := (lc (ic (lc (rc (ic (ic (rc (lc (rc (rc cYs))))))))))
noncomputable def Ys_5 : Code := (lc (rc (ic (lc (rc (ic (ic (rc (lc (rc (rc cYs)))))))))))
noncomputable def Ys_6 : Code := (ic (ic (rc (rc (ic (lc (rc (ic (ic (rc (lc (rc (rc cYs)))))))))))))
noncomputable def Ys_7 : Code := (rc (rc (ic (ic (rc (lc (rc (rc cYs))))))))
noncomputable def Ys_8 : Code := (rc (rc (rc cYs)))
theorem Ys_eq : cYs = (.seq Ys_0 (.seq Ys_1 (.seq (.seq Ys_2 (.block 0 (.loop (.seq Ys_3 (.seq (.block 1 (.seq Ys_4 (.seq Ys_5 (.block 2 (.loop Ys_6))))) Ys_7))))) Ys_8))) := by kernel_rfl
def lvYp : List Nat := [0, 4, 5, 6]
def lvYq : List Nat := [0, 4, 5, 6, 7, 8]
def vYp (b off n cap : Nat) (m p : Int) (i : Nat) : OV := [some (RS2 b off n cap), some (I m), some (I p), some (I (i : Nat))]
def vYq (b off n cap : Nat) (m p : Int) (i : Nat) (c : Int) (k : Nat) : OV := [some (RS2 b off n cap), some (I m), some (I p), some (I (i : Nat)), some (I c), some (I (k : Nat))]
def lvYr : List Nat := [0, 1, 2, 7]
def lvYs : List Nat := [0, 1, 2, 7, 8]
def vYr (b off n cap b2 o2 c2 m i : Nat) : OV := [some (RS2 b off n cap), some (RS b2 o2 n c2), some (I (m : Nat)), some (I (i : Nat))]
def vYs (b off n cap b2 o2 c2 m i k : Nat) : OV := [some (RS2 b off n cap), some (RS b2 o2 n c2), some (I (m : Nat)), some (I (i : Nat)), some (I (k : Nat))]
def lvYt : List Nat := [0, 1, 5]
def lvYu : List Nat := [0, 1, 5, 6]
def vYt (b off n cap b2 o2 c2 i : Nat) : OV := [some (RS b off n cap), some (RS b2 o2 n c2), some (I (i : Nat))]
def vYu (b off n cap b2 o2 c2 i k : Nat) : OV := [some (RS b off n cap), some (RS b2 o2 n c2), some (I (i : Nat)), some (I (k : Nat))]

theorem ypA (r : Mem) (b off n cap : Nat) (fs : FnsC) (K : OV → List Nat → OO → CR) (kx : Nat → KS) (kr : KS) : run (SC r) 509 72 1 (.seq Yp_0 (.seq Yp_1 Yp_2)) fs none (rbK 0 lvYp [] K) kx kr (sc0 509 [RS2 b off n cap]) (tr0 509 [RS2 b off n cap]) [] emptyA =
    K [some (.slice (some ⟨b, off, some 0⟩) n cap), some (I (Int.ofNat 0)), some (I (Int.ofNat 0)), some (I (Int.ofNat 0))] [] [] := by kernel_rfl

theorem ypB (r : Mem) (b off n cap : Nat) (m p : Int) (i : Nat) (fs : FnsC) (K : OV → List Nat → OO → CR) (KX : Nat → OV → List Nat → OO → CR) (kr : KS) : run (SC r) 509 72 1 Yp_3 fs none (rbK 0 lvYp [] K) (fun j => rbK 0 [4, 5] [] (KX j)) kr [] (bT lvYp (vYp b off n cap m p i) .nil) [] (mkA []) =
    bif decide (Int.ofNat i < Int.ofNat n) then K [some (.slice (some ⟨b, off, some 0⟩) n cap), some (I m), some (I p), some (I (Int.ofNat i))] [] [] else KX 0 [some (I m), some (I p)] [] [] := by kernel_rfl

theorem ypC (r : Mem) (b off n cap : Nat) (m p : Int) (i : Nat) (fs : FnsC) (K : OV → List Nat → OO → CR) (kx : Nat → KS) (kr : KS) : run (SC r) 509 72 1 (.seq Yp_4 Yp_5) fs none (rbK 0 lvYq [] K) kx kr [] (bT lvYp (vYp b off n cap m p i) .nil) [] (mkA []) =
    K [some (.slice (some ⟨b, off, some 0⟩) n cap), some (I m), some (I p), some (I (Int.ofNat i)), some (I (Int.ofNat 0)), some (I (Int.ofNat 0))] [] [] := by kernel_rfl

theorem ypD (r : Mem) (b off n cap : Nat) (m p : Int) (i : Nat) (c : Int) (k : Nat) (fs : FnsC) (K : OV → List Nat → OO → CR) (KX : Nat → OV → List Nat → OO → CR) (kr : KS) : run (SC r) 509 72 1 Yp_6 fs none (rbK 0 lvYq [] K) (fun j => rbK 0 [0, 4, 5, 6, 7] [] (KX j)) kr [] (bT lvYq (vYq b off n cap m p i c k) .nil) [] (mkA []) =
    bif decide (Int.ofNat k < Int.ofNat n) then bif Nat.blt (Int.toNat (Int.ofNat k)) n then Option.casesOn (r b (Nat.add (Nat.add off (Nat.mul (Int.toNat (Int.ofNat k)) 2)) 0)) (.fail 423) fun val => bif isI IntKind.i64 val then bif Nat.blt (Int.toNat (Int.ofNat i)) n then Option.casesOn (r b (Nat.add (Nat.add off (Nat.mul (Int.toNat (Int.ofNat i)) 2)) 0)) (.fail 423) fun val_1 => bif isI IntKind.i64 val_1 then bif decide (ofI val ≤ ofI val_1) then bif Nat.blt (Int.toNat (Int.ofNat i)) n then Option.casesOn (r b (Nat.add (Nat.add off (Nat.mul (Int.toNat (Int.ofNat i)) 2)) 0)) (.fail 423) fun val => bif isI IntKind.i64 val then bif Nat.blt (Int.toNat (Int.ofNat k)) n then Option.casesOn (r b (Nat.add (Nat.add off (Nat.mul (Int.toNat (Int.ofNat k)) 2)) 1)) (.fail 423) fun val_2 => bif isI IntKind.i64 val_2 then bif decide (ofI val ≤ ofI val_2) then K [some (.slice (some ⟨b, off, some 0⟩) n cap), some (I m), some (I p), some (I (Int.ofNat i)), some (I (IntKind.wrap .i64 (c + Int.ofNat 1))), some (I (IntKind.wrap .i64 (Int.ofNat k + Int.ofNat 1)))] [] [] else K [some (.slice (some ⟨b, off, some 0⟩) n cap), some (I m), some (I p), some (I (Int.ofNat i)), some (I c), some (I (IntKind.wrap .i64 (Int.ofNat k + Int.ofNat 1)))] [] [] else .fail 420 else .fail 420 else .fail 420 else .fail 420 else K [some (.slice (some ⟨b, off, some 0⟩) n cap), some (I m), some (I p), some (I (Int.ofNat i)), some (I c), some (I (IntKind.wrap .i64 (Int.ofNat k + Int.ofNat 1)))] [] [] else .fail 420 else .fail 420 else .fail 420 else .fail 420 else KX 2 [some (.slice (some ⟨b, off, some 0⟩) n cap), some (I m), some (I p), some (I (Int.ofNat i)), some (I c)] [] [] := by kernel_rfl

theorem ypE (r : Mem) (b off n cap : Nat) (m p : Int) (i : Nat) (c : Int) (fs : FnsC) (K : OV → List Nat → OO → CR) (kx : Nat → KS) (kr : KS) : run (SC r) 509 72 1 Yp_7 fs none (rbK 0 lvYp [] K) kx kr [] (bT [0, 4, 5, 6, 7] [some (RS2 b off n cap), some (I m), some (I p), some (I (i : Nat)), some (I c)] .nil) [] (mkA []) =
    bif decide (c > m) then bif Nat.blt (Int.toNat (Int.ofNat i)) n then Option.casesOn (r b (Nat.add (Nat.add off (Nat.mul (Int.toNat (Int.ofNat i)) 2)) 0)) (.fail 423) fun val => bif isI IntKind.i64 val then K [some (.slice (some ⟨b, off, some 0⟩) n cap), some (I c), some (I (ofI val)), some (I (Int.ofNat i))] [] [] else .fail 420 else .fail 420 else bif c == m then bif Nat.blt (Int.toNat (Int.ofNat i)) n then Option.casesOn (r b (Nat.add (Nat.add off (Nat.mul (Int.toNat (Int.ofNat i)) 2)) 0)) (.fail 423) fun val => bif isI IntKind.i64 val then bif decide (ofI val < p) then bif Nat.blt (Int.toNat (Int.ofNat i)) n then Option.casesOn (r b (Nat.add (Nat.add off (Nat.mul (Int.toNat (Int.ofNat i)) 2)) 0)) (.fail 423) fun val => bif isI IntKind.i64 val then K [some (.slice (some ⟨b, off, some 0⟩) n cap), some (I c), some (I (ofI val)), some (I (Int.ofNat i))] [] [] else .fail 420 else .fail 420 else K [some (.slice (some ⟨b, off, some 0⟩) n cap), some (I m), some (I p), some (I (Int.ofNat i))] [] [] else .fail 420 else .fail 420 else K [some (.slice (some ⟨b, off, some 0⟩) n cap), some (I m), some (I p), some (I (Int.ofNat i))] [] [] := by kernel_rfl

theorem ypF (r : Mem) (b off n cap : Nat) (m p : Int) (i : Nat) (fs : FnsC) (K : OV → List Nat → OO → CR) (kx : Nat → KS) (kr : KS) : run (SC r) 509 72 1 Yp_8 fs none (rbK 0 lvYp [] K) kx kr [] (bT lvYp (vYp b off n cap m p i) .nil) [] (mkA []) =
    K [some (.slice (some ⟨b, off, some 0⟩) n cap), some (I m), some (I p), some (I (IntKind.wrap .i64 (Int.ofNat i + Int.ofNat 1)))] [] [] := by kernel_rfl

theorem ypG (r : Mem) (m p : Int) (fs : FnsC) (K : OV → List Nat → OO → CR) (KR : OV → List Nat → OO → CR) (kx : Nat → KS) : run (SC r) 509 72 1 Yp_9 fs none (rbK 0 [2, 3] [] K) kx (rbK 0 [2, 3] [] KR) [] (bT [4, 5] [some (I m), some (I p)] .nil) [] (mkA []) =
    KR [some (I m), some (I p)] [] [] := by kernel_rfl

theorem yrA (r : Mem) (b off n cap b2 o2 c2 m : Nat) (fs : FnsC) (K : OV → List Nat → OO → CR) (kx : Nat → KS) (KR : OV → List Nat → OO → CR) : run (SC r) 455 73 1 (.seq Yr_0 (.seq Yr_1 Yr_2)) fs none (rbK 0 lvYr [] K) kx (rbK 0 [6] [] KR) (sc0 455 [RS2 b off n cap, RS b2 o2 n c2, I (m : Nat)]) (tr0 455 [RS2 b off n cap, RS b2 o2 n c2, I (m : Nat)]) [] emptyA =
    bif Int.ofNat n != Int.ofNat n then KR [some (.bool false)] [] [] else K [some (.slice (some ⟨b, off, some 0⟩) n cap), some (.slice (some ⟨b2, o2, some 0⟩) n c2), some (I (Int.ofNat m)), some (I (Int.ofNat 0))] [] [] := by kernel_rfl

theorem yrB (r : Mem) (b off n cap b2 o2 c2 m : Nat) (i : Nat) (fs : FnsC) (K : OV → List Nat → OO → CR) (KX : Nat → OV → List Nat → OO → CR) (kr : KS) : run (SC r) 455 73 1 Yr_3 fs none (rbK 0 lvYr [] K) (fun j => rbK 0 [] [] (KX j)) kr [] (bT lvYr (vYr b off n cap b2 o2 c2 m i) .nil) [] (mkA []) =
    bif decide (Int.ofNat i < Int.ofNat n) then K [some (.slice (some ⟨b, off, some 0⟩) n cap), some (.slice (some ⟨b2, o2, some 0⟩) n c2), some (I (Int.ofNat m)), some (I (Int.ofNat i))] [] [] else KX 0 [] [] [] := by kernel_rfl

theorem yrC (r : Mem) (b off n cap b2 o2 c2 m : Nat) (i : Nat) (fs : FnsC) (K : OV → List Nat → OO → CR) (kx : Nat → KS) (KR : OV → List Nat → OO → CR) : run (SC r) 455 73 1 (.seq Yr_4 Yr_5) fs none (rbK 0 lvYs [] K) kx (rbK 0 [6] [] KR) [] (bT lvYr (vYr b off n cap b2 o2 c2 m i) .nil) [] (mkA []) =
    bif Nat.blt (Int.toNat (Int.ofNat i)) n then Option.casesOn (r b2 (Nat.add o2 (Nat.mul (Int.toNat (Int.ofNat i)) 1))) (.fail 423) fun val => bif isI IntKind.i64 val then bif decide (ofI val < 0) then KR [some (.bool false)] [] [] else bif Nat.blt (Int.toNat (Int.ofNat i)) n then Option.casesOn (r b2 (Nat.add o2 (Nat.mul (Int.toNat (Int.ofNat i)) 1))) (.fail 423) fun val => bif isI IntKind.i64 val then bif decide (ofI val ≥ Int.ofNat m) then KR [some (.bool false)] [] [] else K [some (.slice (some ⟨b, off, some 0⟩) n cap), some (.slice (some ⟨b2, o2, some 0⟩) n c2), some (I (Int.ofNat m)), some (I (Int.ofNat i)), some (I (Int.ofNat 0))] [] [] else .fail 420 else .fail 420 else .fail 420 else .fail 420 := by kernel_rfl

theorem yrD (r : Mem) (b off n cap b2 o2 c2 m : Nat) (i : Nat) (k : Nat) (fs : FnsC) (K : OV → List Nat → OO → CR) (KX : Nat → OV → List Nat → OO → CR) (KR : OV → List Nat → OO → CR) : run (SC r) 455 73 1 Yr_6 fs none (rbK 0 lvYs [] K) (fun j => rbK 0 lvYr [] (KX j)) (rbK 0 [6] [] KR) [] (bT lvYs (vYs b off n cap b2 o2 c2 m i k) .nil) [] (mkA []) =
    bif decide (Int.ofNat k < Int.ofNat i) then bif Nat.blt (Int.toNat (Int.ofNat i)) n then Option.casesOn (r b2 (Nat.add o2 (Nat.mul (Int.toNat (Int.ofNat i)) 1))) (.fail 423) fun val => bif isI IntKind.i64 val then bif Nat.blt (Int.toNat (Int.ofNat k)) n then Option.casesOn (r b2 (Nat.add o2 (Nat.mul (Int.toNat (Int.ofNat k)) 1))) (.fail 423) fun val_1 => bif isI IntKind.i64 val_1 then bif ofI val == ofI val_1 then bif Nat.blt (Int.toNat (Int.ofNat i)) n then Option.casesOn (r b (Nat.add (Nat.add off (Nat.mul (Int.toNat (Int.ofNat i)) 2)) 0)) (.fail 423) fun val => bif isI IntKind.i64 val then bif Nat.blt (Int.toNat (Int.ofNat k)) n then Option.casesOn (r b (Nat.add (Nat.add off (Nat.mul (Int.toNat (Int.ofNat k)) 2)) 1)) (.fail 423) fun val_2 => bif isI IntKind.i64 val_2 then bif decide (ofI val ≤ ofI val_2) then bif Nat.blt (Int.toNat (Int.ofNat k)) n then Option.casesOn (r b (Nat.add (Nat.add off (Nat.mul (Int.toNat (Int.ofNat k)) 2)) 0)) (.fail 423) fun val => bif isI IntKind.i64 val then bif Nat.blt (Int.toNat (Int.ofNat i)) n then Option.casesOn (r b (Nat.add (Nat.add off (Nat.mul (Int.toNat (Int.ofNat i)) 2)) 1)) (.fail 423) fun val_3 => bif isI IntKind.i64 val_3 then bif decide (ofI val ≤ ofI val_3) then KR [some (.bool false)] [] [] else K [some (.slice (some ⟨b, off, some 0⟩) n cap), some (.slice (some ⟨b2, o2, some 0⟩) n c2), some (I (Int.ofNat m)), some (I (Int.ofNat i)), some (I (IntKind.wrap .i64 (Int.ofNat k + Int.ofNat 1)))] [] [] else .fail 420 else .fail 420 else .fail 420 else .fail 420 else K [some (.slice (some ⟨b, off, some 0⟩) n cap), some (.slice (some ⟨b2, o2, some 0⟩) n c2), some (I (Int.ofNat m)), some (I (Int.ofNat i)), some (I (IntKind.wrap .i64 (Int.ofNat k + Int.ofNat 1)))] [] [] else .fail 420 else .fail 420 else .fail 420 else .fail 420 else K [some (.slice (some ⟨b, off, some 0⟩) n cap), some (.slice (some ⟨b2, o2, some 0⟩) n c2), some (I (Int.ofNat m)), some (I (Int.ofNat i)), some (I (IntKind.wrap .i64 (Int.ofNat k + Int.ofNat 1)))] [] [] else .fail 420 else .fail 420 else .fail 420 else .fail 420 else KX 2 [some (.slice (some ⟨b, off, some 0⟩) n cap), some (.slice (some ⟨b2, o2, some 0⟩) n c2), some (I (Int.ofNat m)), some (I (Int.ofNat i))] [] [] := by kernel_rfl

theorem yrE (r : Mem) (b off n cap b2 o2 c2 m : Nat) (i : Nat) (fs : FnsC) (K : OV → List Nat → OO → CR) (kx : Nat → KS) (kr : KS) : run (SC r) 455 73 1 Yr_7 fs none (rbK 0 lvYr [] K) kx kr [] (bT lvYr (vYr b off n cap b2 o2 c2 m i) .nil) [] (mkA []) =
    K [some (.slice (some ⟨b, off, some 0⟩) n cap), some (.slice (some ⟨b2, o2, some 0⟩) n c2), some (I (Int.ofNat m)), some (I (IntKind.wrap .i64 (Int.ofNat i + Int.ofNat 1)))] [] [] := by kernel_rfl

theorem yrF (r : Mem) (fs : FnsC) (K : OV → List Nat → OO → CR) (KR : OV → List Nat → OO → CR) (kx : Nat → KS) : run (SC r) 455 73 1 Yr_8 fs none (rbK 0 [6] [] K) kx (rbK 0 [6] [] KR) [] (bT [] [] .nil) [] (mkA []) =
    KR [some (.bool true)] [] [] := by kernel_rfl

theorem yiA (r : Mem) (b off n cap : Nat) (fs : FnsC) (K : OV → List Nat → OO → CR) (kx : Nat → KS) (KR : OV → List Nat → OO → CR) : run (SC r) 13 27 1 (.seq Yi_0 (.seq Yi_1 (.seq Yi_2 Yi_3))) fs none (rbK 0 [0, 3] [] K) kx (rbK 0 [2] [] KR) (sc0 13 [RS2 b off n cap]) (tr0 13 [RS2 b off n cap]) [] emptyA =
    bif decide (Int.ofNat n > 12) then KR [some (I (Int.ofNat 2))] [] [] else bif Int.ofNat n == Int.ofNat 0 then KR [some (I (Int.ofNat 1))] [] [] else K [some (.slice (some ⟨b, off, some 0⟩) n cap), some (I (Int.ofNat 0))] [] [] := by kernel_rfl

theorem yiB (r : Mem) (b off n cap : Nat) (i : Nat) (fs : FnsC) (K : OV → List Nat → OO → CR) (KX : Nat → OV → List Nat → OO → CR) (KR : OV → List Nat → OO → CR) : run (SC r) 13 27 1 Yi_4 fs none (rbK 0 [0, 3] [] K) (fun j => rbK 0 [] [] (KX j)) (rbK 0 [2] [] KR) [] (bT [0, 3] [some (RS2 b off n cap), some (I (i : Nat))] .nil) [] (mkA []) =
    bif decide (Int.ofNat i < Int.ofNat n) then bif Nat.blt (Int.toNat (Int.ofNat i)) n then Option.casesOn (r b (Nat.add (Nat.add off (Nat.mul (Int.toNat (Int.ofNat i)) 2)) 0)) (.fail 423) fun val => bif isI IntKind.i64 val then bif Nat.blt (Int.toNat (Int.ofNat i)) n then Option.casesOn (r b (Nat.add (Nat.add off (Nat.mul (Int.toNat (Int.ofNat i)) 2)) 1)) (.fail 423) fun val_1 => bif isI IntKind.i64 val_1 then bif decide (ofI val > ofI val_1) then KR [some (I (Int.ofNat 1))] [] [] else K [some (.slice (some ⟨b, off, some 0⟩) n cap), some (I (IntKind.wrap .i64 (Int.ofNat i + Int.ofNat 1)))] [] [] else .fail 420 else .fail 420 else .fail 420 else .fail 420 else KX 0 [] [] [] := by kernel_rfl

theorem yiC (r : Mem) (fs : FnsC) (K : OV → List Nat → OO → CR) (KR : OV → List Nat → OO → CR) (kx : Nat → KS) : run (SC r) 13 27 1 Yi_5 fs none (rbK 0 [2] [] K) kx (rbK 0 [2] [] KR) [] (bT [] [] .nil) [] (mkA []) =
    KR [some (I (Int.ofNat 0))] [] [] := by kernel_rfl

theorem ysA (r : Mem) (b off n cap b2 o2 c2 : Nat) (fs : FnsC) (K : OV → List Nat → OO → CR) (kx : Nat → KS) (KR : OV → List Nat → OO → CR) : run (SC r) 115 53 1 (.seq Ys_0 (.seq Ys_1 Ys_2)) fs none (rbK 0 lvYt [] K) kx (rbK 0 [4] [] KR) (sc0 115 [RS b off n cap, RS b2 o2 n c2]) (tr0 115 [RS b off n cap, RS b2 o2 n c2]) [] emptyA =
    bif Int.ofNat n != Int.ofNat n then KR [some (.bool false)] [] [] else K [some (.slice (some ⟨b, off, some 0⟩) n cap), some (.slice (some ⟨b2, o2, some 0⟩) n c2), some (I (Int.ofNat 0))] [] [] := by kernel_rfl

theorem ysB (r : Mem) (b off n cap b2 o2 c2 : Nat) (i : Nat) (fs : FnsC) (K : OV → List Nat → OO → CR) (KX : Nat → OV → List Nat → OO → CR) (kr : KS) : run (SC r) 115 53 1 Ys_3 fs none (rbK 0 lvYt [] K) (fun j => rbK 0 [] [] (KX j)) kr [] (bT lvYt (vYt b off n cap b2 o2 c2 i) .nil) [] (mkA []) =
    bif decide (Int.ofNat i < Int.ofNat n) then K [some (.slice (some ⟨b, off, some 0⟩) n cap), some (.slice (some ⟨b2, o2, some 0⟩) n c2), some (I (Int.ofNat i))] [] [] else KX 0 [] [] [] := by kernel_rfl

theorem ysC (r : Mem) (b off n cap b2 o2 c2 : Nat) (i : Nat) (fs : FnsC) (K : OV → List Nat → OO → CR) (kx : Nat → KS) (KR : OV → List Nat → OO → CR) : run (SS r 2) 115 53 1 (.seq Ys_4 Ys_5) fs none (rbK 0 lvYu [] K) kx (rbK 0 [4] [] KR) [] (bT lvYt (vYt b off n cap b2 o2 c2 i) .nil) [] (mkA []) =
    bif Nat.blt (Int.toNat (Int.ofNat i)) n then Option.casesOn (r b (Nat.add off (Nat.mul (Int.toNat (Int.ofNat i)) 1))) (.fail 423) fun val => bif isRoS val then bif Nat.blt (Int.toNat (Int.ofNat i)) n then Option.casesOn (r b2 (Nat.add o2 (Nat.mul (Int.toNat (Int.ofNat i)) 1))) (.fail 423) fun val_1 => bif isRoS val_1 then bif Int.ofNat (lnOf val) != Int.ofNat (lnOf val_1) then KR [some (.bool false)] [] [] else K [some (.slice (some ⟨b, off, some 0⟩) n cap), some (.slice (some ⟨b2, o2, some 0⟩) n c2), some (I (Int.ofNat i)), some (I (Int.ofNat 0))] [] [] else .fail 420 else .fail 420 else .fail 420 else .fail 420 := by kernel_rfl

theorem ysD (r : Mem) (b off n cap b2 o2 c2 : Nat) (i : Nat) (k : Nat) (fs : FnsC) (K : OV → List Nat → OO → CR) (KX : Nat → OV → List Nat → OO → CR) (KR : OV → List Nat → OO → CR) : run (SS r 2) 115 53 1 Ys_6 fs none (rbK 0 lvYu [] K) (fun j => rbK 0 lvYt [] (KX j)) (rbK 0 [4] [] KR) [] (bT lvYu (vYu b off n cap b2 o2 c2 i k) .nil) [] (mkA []) =
    bif Nat.blt (Int.toNat (Int.ofNat i)) n then Option.casesOn (r b (Nat.add off (Nat.mul (Int.toNat (Int.ofNat i)) 1))) (.fail 423) fun val => bif isRoS val then bif decide (Int.ofNat k < Int.ofNat (lnOf val)) then bif Nat.blt (Int.toNat (Int.ofNat i)) n then Option.casesOn (r b (Nat.add off (Nat.mul (Int.toNat (Int.ofNat i)) 1))) (.fail 423) fun val => bif isRoS val then bif Nat.blt (Int.toNat (Int.ofNat k)) (lnOf val) then Option.casesOn (r (blkOf val) (Nat.add (offOf val) (Nat.mul (Int.toNat (Int.ofNat k)) 1))) (.fail 423) fun val => bif isB val then bif ofB val then bif Nat.blt (Int.toNat (Int.ofNat i)) n then Option.casesOn (r b2 (Nat.add o2 (Nat.mul (Int.toNat (Int.ofNat i)) 1))) (.fail 423) fun val => bif isRoS val then bif Nat.blt (Int.toNat (Int.ofNat k)) (lnOf val) then Option.casesOn (r (blkOf val) (Nat.add (offOf val) (Nat.mul (Int.toNat (Int.ofNat k)) 1))) (.fail 423) fun val => bif isB val then bif ofB val then K [some (.slice (some ⟨b, off, some 0⟩) n cap), some (.slice (some ⟨b2, o2, some 0⟩) n c2), some (I (Int.ofNat i)), some (I (IntKind.wrap .i64 (Int.ofNat k + Int.ofNat 1)))] [] [] else KR [some (.bool false)] [] [] else .fail 420 else .fail 420 else .fail 420 else .fail 420 else bif Nat.blt (Int.toNat (Int.ofNat i)) n then Option.casesOn (r b2 (Nat.add o2 (Nat.mul (Int.toNat (Int.ofNat i)) 1))) (.fail 423) fun val => bif isRoS val then bif Nat.blt (Int.toNat (Int.ofNat k)) (lnOf val) then Option.casesOn (r (blkOf val) (Nat.add (offOf val) (Nat.mul (Int.toNat (Int.ofNat k)) 1))) (.fail 423) fun val => bif isB val then bif ofB val then KR [some (.bool false)] [] [] else K [some (.slice (some ⟨b, off, some 0⟩) n cap), some (.slice (some ⟨b2, o2, some 0⟩) n c2), some (I (Int.ofNat i)), some (I (IntKind.wrap .i64 (Int.ofNat k + Int.ofNat 1)))] [] [] else .fail 420 else .fail 420 else .fail 420 else .fail 420 else .fail 420 else .fail 420 else .fail 420 else .fail 420 else KX 2 [some (.slice (some ⟨b, off, some 0⟩) n cap), some (.slice (some ⟨b2, o2, some 0⟩) n c2), some (I (Int.ofNat i))] [] [] else .fail 420 else .fail 420 := by kernel_rfl

theorem ysE (r : Mem) (b off n cap b2 o2 c2 : Nat) (i : Nat) (fs : FnsC) (K : OV → List Nat → OO → CR) (kx : Nat → KS) (kr : KS) : run (SC r) 115 53 1 Ys_7 fs none (rbK 0 lvYt [] K) kx kr [] (bT lvYt (vYt b off n cap b2 o2 c2 i) .nil) [] (mkA []) =
    K [some (.slice (some ⟨b, off, some 0⟩) n cap), some (.slice (some ⟨b2, o2, some 0⟩) n c2), some (I (IntKind.wrap .i64 (Int.ofNat i + Int.ofNat 1)))] [] [] := by kernel_rfl

theorem ysF (r : Mem) (fs : FnsC) (K : OV → List Nat → OO → CR) (KR : OV → List Nat → OO → CR) (kx : Nat → KS) : run (SC r) 115 53 1 Ys_8 fs none (rbK 0 [4] [] K) kx (rbK 0 [4] [] KR) [] (bT [] [] .nil) [] (mkA []) =
    KR [some (.bool true)] [] [] := by kernel_rfl

end Go.Proofs

/- The reference of intervals: what the calls answer. -/
namespace Go.Proofs
open Go Go.Ev Go.Num
set_option linter.unusedVariables false
set_option linter.unusedSimpArgs false
set_option maxRecDepth 100000

theorem cnN_le (A B : Nat → Int) (k : Int) : ∀ n, cnN A B k n ≤ n
 | 0 => Nat.le_refl _
 | n + 1 => by
  have := cnN_le A B k n
  rw [cnN]
  split <;> omega
theorem w1k (k : Nat) (hk : k ≤ 1000) : IntKind.wrap IntKind.i64 ((k : Int) + ((1 : Nat) : Int)) = ((k + 1 : Nat) : Int) := inc1' (by omega)
theorem cT {p : Prop} {i : Decidable p} (h : p) {a b c : CR} (e : a = c) : (bif @decide p i then a else b) = c := by rw [@decide_eq_true _ i h]; exact e
theorem cF {p : Prop} {i : Decidable p} (h : ¬ p) {a b c : CR} (e : b = c) : (bif @decide p i then a else b) = c := by rw [@decide_eq_false _ i h]; exact e
section
variable {r : Mem} {b off n cap : Nat} {z : Nat → Int}
theorem yp_ok (hz : rowAt r b off (2 * n) z) (hn : n ≤ 1000) : GrT Tryd.prog r 10 [RS2 b off n cap] (.tuple ⟨[I ((pkB (ea z) (eb z) n n).2 : Nat), I (pkB (ea z) (eb z) n n).1]⟩) := by
 generalize hv : (.tuple ⟨[I ((pkB (ea z) (eb z) n n).2 : Nat), I (pkB (ea z) (eb z) n n).1]⟩ : Value) = v
 have hg : gnd v = true := by rw [← hv]; rfl
 refine GrT.ofS (C := SC r) rfl rfl hg (callO (SC_ok r) (by kernel_rfl) ((bodySC r _).trans Yp_eq) (nt := 72) (by kernel_rfl) (rs := [.tmp 2, .tmp 3]) (by kernel_rfl) 509 rfl ⟨[2, 3], [], fun vs ms os => vs = [some (I ((pkB (ea z) (eb z) n n).2 : Nat)), some (I (pkB (ea z) (eb z) n n).1)] ∧ ms = [] ∧ os = []⟩ ?_ fun γ W F kk hwr hF hro h0' => ?_)
 ·rintro vs ms os ⟨rfl, rfl, rfl⟩
  exact ⟨_, mkA [], by kernel_rfl, hv⟩
 have h0' : ∀ i, 0 ≤ i → γ i = none := h0'
 let P : Nat → Int × Nat := pkB (ea z) (eb z) n
 refine Go.Ev.Reach.after3R (SC_ok r) TOk.nil (tm := .nil) (L := 1) (L' := 1) (d := 1) hF hro h0' (.step (.step .base))
  (o1 := ⟨lvYp, [], fun vs ms os => vs = vYp b off n cap ((P 0).2 : Nat) (P 0).1 0 ∧ ms = [] ∧ os = []⟩)
  (o2 := ⟨[4, 5], [], fun vs ms os => vs = [some (I ((P n).2 : Nat)), some (I (P n).1)] ∧ ms = [] ∧ os = []⟩) [] (fun p hp => nomatch hp) ?_ ?_ ?_
 ·rintro vs ms os ⟨rfl, rfl, rfl⟩
  refine Go.Ev.Reach.blockC (Go.Ev.Reach.loopC (j := n) (lv := lvYp) (fl := []) (I := fun j vs ms os => ∃ i : Nat, i ≤ n ∧ j = n - i ∧ vs = vYp b off n cap ((P i).2 : Nat) (P i).1 i ∧ ms = [] ∧ os = []) (fun j vs ms os hI => ?_) ⟨0, by omega, rfl, rfl, rfl, rfl⟩)
  obtain ⟨i, hi, rfl, rfl, rfl, rfl⟩ := hI
  refine Go.Ev.Reach.seqC (o1 := ⟨lvYp, [], fun vs ms os => i < n ∧ vs = vYp b off n cap ((P i).2 : Nat) (P i).1 i ∧ ms = [] ∧ os = []⟩) (Go.Ev.Reach.segR (SC_ok r) TOk.nil (tm := .nil) (L := 1) (L' := 1) (d := 1) hF hro h0' [(0, ⟨[4, 5], [], fun vs ms os => vs = [some (I ((P n).2 : Nat)), some (I (P n).1)] ∧ ms = [] ∧ os = []⟩)] (fun p hp => by simp only [List.mem_cons, List.not_mem_nil, or_false] at hp; subst hp; rfl) ?_) fun vs ms os hq => ?_
  ·have hn' := ypB r b off n cap ((P i).2 : Nat) (P i).1 i
   simp only [Int.ofNat_eq_natCast] at hn'
   by_cases c : i < n
   ·simp only [dT (show (i : Int) < (n : Int) by omega), cond_true] at hn'
    exact (hn' _ _ _ _).trans (qq_ok ⟨c, rfl, rfl, rfl⟩)
   ·obtain rfl : i = n := by omega
    simp only [dF (show ¬ (i : Int) < (i : Int) by omega), cond_false] at hn'
    exact (hn' _ _ _ _).trans (qq_ok ⟨rfl, rfl, rfl⟩)
  obtain ⟨c, rfl, rfl, rfl⟩ := hq
  refine Go.Ev.Reach.seqC (o1 := ⟨lvYp, [], fun vs ms os => vs = vYp b off n cap ((P (i + 1)).2 : Nat) (P (i + 1)).1 i ∧ ms = [] ∧ os = []⟩) (Go.Ev.Reach.blockC ?_) fun vs ms os hq => ?_
  ·refine Go.Ev.Reach.after3R (SC_ok r) TOk.nil (tm := .nil) (L := 1) (L' := 1) (d := 1) hF hro h0' (.step .base)
    (o1 := ⟨lvYq, [], fun vs ms os => vs = vYq b off n cap ((P i).2 : Nat) (P i).1 i (cnN (ea z) (eb z) (ea z i) 0 : Nat) 0 ∧ ms = [] ∧ os = []⟩)
    (o2 := ⟨[0, 4, 5, 6, 7], [], fun vs ms os => vs = [some (RS2 b off n cap), some (I ((P i).2 : Nat)), some (I (P i).1), some (I (i : Nat)), some (I (cnN (ea z) (eb z) (ea z i) n : Nat))] ∧ ms = [] ∧ os = []⟩) [] (fun p hp => nomatch hp) ?_ ?_ ((ypC r b off n cap _ _ i _ _ _ _).trans (qq_ok ⟨rfl, rfl, rfl⟩))
   ·rintro vs ms os ⟨rfl, rfl, rfl⟩
    refine Go.Ev.Reach.blockC (Go.Ev.Reach.loopC (j := n) (lv := lvYq) (fl := []) (I := fun j vs ms os => ∃ k : Nat, k ≤ n ∧ j = n - k ∧ vs = vYq b off n cap ((P i).2 : Nat) (P i).1 i (cnN (ea z) (eb z) (ea z i) k : Nat) k ∧ ms = [] ∧ os = []) (fun j vs ms os hI => ?_) ⟨0, by omega, rfl, rfl, rfl, rfl⟩)
    obtain ⟨k, hk, rfl, rfl, rfl, rfl⟩ := hI
    refine Go.Ev.Reach.segR (SC_ok r) TOk.nil (tm := .nil) (L := 1) (L' := 1) (d := 1) hF hro h0' [(2, ⟨[0, 4, 5, 6, 7], [], fun vs ms os => vs = [some (RS2 b off n cap), some (I ((P i).2 : Nat)), some (I (P i).1), some (I (i : Nat)), some (I (cnN (ea z) (eb z) (ea z i) n : Nat))] ∧ ms = [] ∧ os = []⟩)] (fun p hp => by simp only [List.mem_cons, List.not_mem_nil, or_false] at hp; subst hp; rfl) ?_
    have hn' := ypD r b off n cap ((P i).2 : Nat) (P i).1 i (cnN (ea z) (eb z) (ea z i) k : Nat) k
    simp only [Int.ofNat_eq_natCast, Int.toNat_natCast] at hn'
    by_cases ck : k < n
    ·have b1 : Nat.blt k n = true := Nat.ble_eq_true_of_le (by omega)
     have b2 : Nat.blt i n = true := Nat.ble_eq_true_of_le (by omega)
     have hcl := cnN_le (ea z) (eb z) (ea z i) k
     simp only [dT (show (k : Int) < (n : Int) by omega), b1, b2, row_a0 hz ck, row_a0 hz c, row_b1 hz ck, isI_I, cond_true] at hn'
     dsimp +instances only [ofI_I] at hn'
     rw [w1k k (by omega), w1k _ (by omega)] at hn'
     have hne : cnN (ea z) (eb z) (ea z i) (k + 1) = cnN (ea z) (eb z) (ea z i) k + if ea z k ≤ ea z i ∧ ea z i ≤ eb z k then 1 else 0 := rfl
     by_cases q1 : ea z k ≤ ea z i
     ·simp only [dT q1, cond_true] at hn'
      by_cases q2 : ea z i ≤ eb z k
      ·simp only [dT q2, cond_true] at hn'
       rw [if_pos ⟨q1, q2⟩] at hne
       exact (hn' _ _ _ _).trans (qq_ok ⟨n - (k + 1), by omega, k + 1, ck, rfl, by rw [hne]; rfl, rfl, rfl⟩)
      ·simp only [dF q2, cond_false] at hn'
       rw [if_neg (fun h => q2 h.2)] at hne
       exact (hn' _ _ _ _).trans (qq_ok ⟨n - (k + 1), by omega, k + 1, ck, rfl, by rw [hne]; rfl, rfl, rfl⟩)
     ·simp only [dF q1, cond_false] at hn'
      rw [if_neg (fun h => q1 h.1)] at hne
      exact (hn' _ _ _ _).trans (qq_ok ⟨n - (k + 1), by omega, k + 1, ck, rfl, by rw [hne]; rfl, rfl, rfl⟩)
    ·obtain rfl : k = n := by omega
     simp only [dF (show ¬ (k : Int) < (k : Int) by omega), cond_false] at hn'
     exact (hn' _ _ _ _).trans (qq_ok ⟨rfl, rfl, rfl⟩)
   ·rintro vs ms os ⟨rfl, rfl, rfl⟩
    refine Go.Ev.Reach.segR (SC_ok r) TOk.nil (tm := .nil) (L := 1) (L' := 1) (d := 1) hF hro h0' [] (fun p hp => nomatch hp) ?_
    have hn' := ypE r b off n cap ((P i).2 : Nat) (P i).1 i (cnN (ea z) (eb z) (ea z i) n : Nat)
    have b2 : Nat.blt i n = true := Nat.ble_eq_true_of_le (by omega)
    simp only [Int.ofNat_eq_natCast, Int.toNat_natCast, b2, row_a0 hz c, isI_I, cond_true] at hn'
    dsimp +instances only [ofI_I] at hn'
    have hP : P (i + 1) = if (P i).2 < cnN (ea z) (eb z) (ea z i) n ∨ (cnN (ea z) (eb z) (ea z i) n = (P i).2 ∧ ea z i < (P i).1) then (ea z i, cnN (ea z) (eb z) (ea z i) n) else P i := rfl
    generalize cnN (ea z) (eb z) (ea z i) n = w at hn' hP ⊢
    by_cases q1 : (P i).2 < w
    ·simp only [dT (show (w : Int) > ((P i).2 : Int) by omega), cond_true] at hn'
     rw [if_pos (.inl q1)] at hP
     exact (hn' _ _ _ _).trans (qq_ok ⟨by rw [hP]; rfl, rfl, rfl⟩)
    ·simp only [dF (show ¬ (w : Int) > ((P i).2 : Int) by omega), cond_false] at hn'
     by_cases q2 : w = (P i).2
     ·simp only [show ((w : Int) == ((P i).2 : Int)) = true by rw [q2]; exact beq_self_eq_true _, cond_true] at hn'
      by_cases q3 : ea z i < (P i).1
      ·simp only [dT q3, cond_true] at hn'
       rw [if_pos (.inr ⟨q2, q3⟩)] at hP
       exact (hn' _ _ _ _).trans (qq_ok ⟨by rw [hP]; rfl, rfl, rfl⟩)
      ·simp only [dF q3, cond_false] at hn'
       rw [if_neg (by rintro (h | h) <;> omega)] at hP
       exact (hn' _ _ _ _).trans (qq_ok ⟨by rw [hP]; rfl, rfl, rfl⟩)
     ·simp only [show ((w : Int) == ((P i).2 : Int)) = false by simpa using fun h => q2 (by omega), cond_false] at hn'
      rw [if_neg (by rintro (h | h) <;> omega)] at hP
      exact (hn' _ _ _ _).trans (qq_ok ⟨by rw [hP]; rfl, rfl, rfl⟩)
  ·obtain ⟨rfl, rfl, rfl⟩ := hq
   refine Go.Ev.Reach.segR (SC_ok r) TOk.nil (tm := .nil) (L := 1) (L' := 1) (d := 1) hF hro h0' [] (fun p hp => nomatch hp) ?_
   have hn' := ypF r b off n cap ((P (i + 1)).2 : Nat) (P (i + 1)).1 i
   simp only [Int.ofNat_eq_natCast] at hn'
   rw [w1k i (by omega)] at hn'
   exact (hn' _ _ _ _).trans (qq_ok ⟨n - (i + 1), by omega, i + 1, c, rfl, rfl, rfl, rfl⟩)
 ·rintro vs ms os ⟨rfl, rfl, rfl⟩
  exact Go.Ev.Reach.segR (SC_ok r) TOk.nil (tm := .nil) (L := 1) (L' := 1) (d := 1) hF hro h0' [] (fun p hp => nomatch hp) ((ypG r _ _ _ _ _ _).trans (qq_ok ⟨rfl, rfl, rfl⟩))
 ·exact (ypA r b off n cap _ _ _ _).trans (qq_ok ⟨rfl, rfl, rfl⟩)

theorem yi_ok (hz : rowAt r b off (2 * n) z) (hn : n ≤ 1000) (v : Int) (h1 : (1 ≤ n ∧ n ≤ 12 ∧ okS z n) → v = 0) (h2 : ¬ (1 ≤ n ∧ n ≤ 12 ∧ okS z n) → v = erS n) : GrT Tryd.prog r 8 [RS2 b off n cap] (I v) := by
 refine GrT.ofS (C := SC r) rfl rfl rfl (callO (SC_ok r) (by kernel_rfl) ((bodySC r _).trans Yi_eq) (nt := 27) (by kernel_rfl) (rs := [.tmp 2]) (by kernel_rfl) 13 rfl ⟨[2], [], fun vs ms os => vs = [some (I v)] ∧ ms = [] ∧ os = []⟩ ?_ fun γ W F kk hwr hF hro h0' => ?_)
 ·rintro vs ms os ⟨rfl, rfl, rfl⟩
  exact ⟨_, mkA [], by kernel_rfl, rfl⟩
 have h0' : ∀ i, 0 ≤ i → γ i = none := h0'
 refine Go.Ev.Reach.after3R (SC_ok r) TOk.nil (tm := .nil) (L := 1) (L' := 1) (d := 1) hF hro h0' (.step (.step (.step .base)))
  (o1 := ⟨[0, 3], [], fun vs ms os => (1 ≤ n ∧ n ≤ 12) ∧ vs = [some (RS2 b off n cap), some (I (0 : Nat))] ∧ ms = [] ∧ os = []⟩)
  (o2 := ⟨[], [], fun vs ms os => (1 ≤ n ∧ n ≤ 12 ∧ okS z n) ∧ vs = [] ∧ ms = [] ∧ os = []⟩) [] (fun p hp => nomatch hp) ?_ ?_ ?_
 ·rintro vs ms os ⟨⟨hn1, hn12⟩, rfl, rfl, rfl⟩
  refine Go.Ev.Reach.blockC (Go.Ev.Reach.loopC (j := n) (lv := [0, 3]) (fl := []) (I := fun j vs ms os => ∃ i : Nat, i ≤ n ∧ j = n - i ∧ okS z i ∧ vs = [some (RS2 b off n cap), some (I (i : Nat))] ∧ ms = [] ∧ os = []) (fun j vs ms os hI => ?_) ⟨0, by omega, rfl, fun j h => absurd h (by omega), rfl, rfl, rfl⟩)
  obtain ⟨i, hi, rfl, hok, rfl, rfl, rfl⟩ := hI
  refine Go.Ev.Reach.segR (SC_ok r) TOk.nil (tm := .nil) (L := 1) (L' := 1) (d := 1) hF hro h0' [(0, ⟨[], [], fun vs ms os => (1 ≤ n ∧ n ≤ 12 ∧ okS z n) ∧ vs = [] ∧ ms = [] ∧ os = []⟩)] (fun p hp => by simp only [List.mem_cons, List.not_mem_nil, or_false] at hp; subst hp; rfl) ?_
  have hn' := yiB r b off n cap i
  simp only [Int.ofNat_eq_natCast, Int.toNat_natCast] at hn'
  by_cases c : i < n
  ·have b1 : Nat.blt i n = true := Nat.ble_eq_true_of_le (by omega)
   simp only [dT (show (i : Int) < (n : Int) by omega), b1, row_a0 hz c, row_b1 hz c, isI_I, cond_true] at hn'
   dsimp +instances only [ofI_I] at hn'
   rw [w1k i (by omega)] at hn'
   by_cases q : ea z i ≤ eb z i
   ·simp only [dF (show ¬ ea z i > eb z i by omega), cond_false] at hn'
    exact (hn' _ _ _ _).trans (qq_ok ⟨n - (i + 1), by omega, i + 1, c, rfl, fun j hj => by
     by_cases e : j = i
     ·rw [e]; exact q
     ·exact hok j (by omega), rfl, rfl, rfl⟩)
   ·simp only [dT (show ea z i > eb z i by omega), cond_true] at hn'
    have hv := h2 fun h => q (h.2.2 i c)
    unfold erS at hv
    rw [if_pos hn12] at hv
    exact (hn' _ _ _ _).trans (qq_ok ⟨by rw [hv]; rfl, rfl, rfl⟩)
  ·obtain rfl : i = n := by omega
   simp only [dF (show ¬ (i : Int) < (i : Int) by omega), cond_false] at hn'
   exact (hn' _ _ _ _).trans (qq_ok ⟨⟨hn1, hn12, hok⟩, rfl, rfl, rfl⟩)
 ·rintro vs ms os ⟨hh, rfl, rfl, rfl⟩
  have hv := h1 hh
  subst hv
  exact Go.Ev.Reach.segR (SC_ok r) TOk.nil (tm := .nil) (L := 1) (L' := 1) (d := 1) hF hro h0' [] (fun p hp => nomatch hp) ((yiC r _ _ _ _).trans (qq_ok ⟨rfl, rfl, rfl⟩))
 ·have hn' := yiA r b off n cap
  simp only [Int.ofNat_eq_natCast] at hn'
  by_cases c : n ≤ 12
  ·simp only [dF (show ¬ (n : Int) > 12 by omega), cond_false] at hn'
   by_cases c0 : n = 0
   ·have hv := h2 fun h => by omega
    unfold erS at hv
    rw [if_pos c] at hv
    simp only [show ((n : Int) == ((0 : Nat) : Int)) = true by rw [c0]; rfl, cond_true] at hn'
    exact (hn' _ _ _ _).trans (qq_ok ⟨by rw [hv]; rfl, rfl, rfl⟩)
   ·simp only [show ((n : Int) == ((0 : Nat) : Int)) = false by simpa using c0, cond_false] at hn'
    exact (hn' _ _ _ _).trans (qq_ok ⟨⟨by omega, c⟩, rfl, rfl, rfl⟩)
  ·have hv := h2 fun h => c h.2.1
   unfold erS at hv
   rw [if_neg c] at hv
   simp only [dT (show (n : Int) > 12 by omega), cond_true] at hn'
   exact (hn' _ _ _ _).trans (qq_ok ⟨by rw [hv]; rfl, rfl, rfl⟩)

theorem yr_ok {b2 o2 c2 m : Nat} {f : Nat → Nat} (hz : rowAt r b off (2 * n) z) (hn : n ≤ 1000) (hf : ∀ i, i < n → r b2 (o2 + i) = some (I (f i : Nat))) (hm : ∀ i, i < n → f i < m) (hap : ∀ i k, k < i → i < n → f i = f k → ¬ (ea z i ≤ eb z k ∧ ea z k ≤ eb z i)) : GrT Tryd.prog r 13 [RS2 b off n cap, RS b2 o2 n c2, I (m : Nat)] (.bool true) := by
 refine GrT.ofS (C := SC r) rfl rfl rfl (callO (SC_ok r) (by kernel_rfl) ((bodySC r _).trans Yr_eq) (nt := 73) (by kernel_rfl) (rs := [.tmp 6]) (by kernel_rfl) 455 rfl ⟨[6], [], fun vs ms os => vs = [some (.bool true)] ∧ ms = [] ∧ os = []⟩ ?_ fun γ W F kk hwr hF hro h0' => ?_)
 ·rintro vs ms os ⟨rfl, rfl, rfl⟩
  exact ⟨_, mkA [], by kernel_rfl, rfl⟩
 have h0' : ∀ i, 0 ≤ i → γ i = none := h0'
 have hf' : ∀ i, i < n → r b2 (Nat.add o2 (Nat.mul i 1)) = some (I (f i : Nat)) := fun i hi => by rw [show Nat.add o2 (Nat.mul i 1) = o2 + i by simp]; exact hf i hi
 refine Go.Ev.Reach.after3R (SC_ok r) TOk.nil (tm := .nil) (L := 1) (L' := 1) (d := 1) hF hro h0' (.step (.step .base))
  (o1 := ⟨lvYr, [], fun vs ms os => vs = vYr b off n cap b2 o2 c2 m 0 ∧ ms = [] ∧ os = []⟩)
  (o2 := ⟨[], [], fun vs ms os => vs = [] ∧ ms = [] ∧ os = []⟩) [] (fun p hp => nomatch hp) ?_ ?_ ?_
 ·rintro vs ms os ⟨rfl, rfl, rfl⟩
  refine Go.Ev.Reach.blockC (Go.Ev.Reach.loopC (j := n) (lv := lvYr) (fl := []) (I := fun j vs ms os => ∃ i : Nat, i ≤ n ∧ j = n - i ∧ vs = vYr b off n cap b2 o2 c2 m i ∧ ms = [] ∧ os = []) (fun j vs ms os hI => ?_) ⟨0, by omega, rfl, rfl, rfl, rfl⟩)
  obtain ⟨i, hi, rfl, rfl, rfl, rfl⟩ := hI
  refine Go.Ev.Reach.seqC (o1 := ⟨lvYr, [], fun vs ms os => i < n ∧ vs = vYr b off n cap b2 o2 c2 m i ∧ ms = [] ∧ os = []⟩) (Go.Ev.Reach.segR (SC_ok r) TOk.nil (tm := .nil) (L := 1) (L' := 1) (d := 1) hF hro h0' [(0, ⟨[], [], fun vs ms os => vs = [] ∧ ms = [] ∧ os = []⟩)] (fun p hp => by simp only [List.mem_cons, List.not_mem_nil, or_false] at hp; subst hp; rfl) ?_) fun vs ms os hq => ?_
  ·have hn' := yrB r b off n cap b2 o2 c2 m i
   simp only [Int.ofNat_eq_natCast] at hn'
   by_cases c : i < n
   ·simp only [dT (show (i : Int) < (n : Int) by omega), cond_true] at hn'
    exact (hn' _ _ _ _).trans (qq_ok ⟨c, rfl, rfl, rfl⟩)
   ·obtain rfl : i = n := by omega
    simp only [dF (show ¬ (i : Int) < (i : Int) by omega), cond_false] at hn'
    exact (hn' _ _ _ _).trans (qq_ok ⟨rfl, rfl, rfl⟩)
  obtain ⟨c, rfl, rfl, rfl⟩ := hq
  have b1 : Nat.blt i n = true := Nat.ble_eq_true_of_le (by omega)
  have hfi := hm i c
  refine Go.Ev.Reach.seqC (o1 := ⟨lvYr, [], fun vs ms os => vs = vYr b off n cap b2 o2 c2 m i ∧ ms = [] ∧ os = []⟩) (Go.Ev.Reach.blockC ?_) fun vs ms os hq => ?_
  ·have hC := yrC r b off n cap b2 o2 c2 m i
   simp only [Int.ofNat_eq_natCast, Int.toNat_natCast, b1, hf' i c, isI_I, cond_true] at hC
   dsimp +instances only [ofI_I] at hC
   simp only [dF (show ¬ ((f i : Nat) : Int) < 0 by omega), dF (show ¬ ((f i : Nat) : Int) ≥ (m : Int) by omega), cond_false] at hC
   refine Go.Ev.Reach.afterR (SC_ok r) TOk.nil (tm := .nil) (L := 1) (L' := 1) (d := 1) hF hro h0' (.step .base) (o1 := ⟨lvYs, [], fun vs ms os => vs = vYs b off n cap b2 o2 c2 m i 0 ∧ ms = [] ∧ os = []⟩) [] (fun p hp => nomatch hp) (fun vs ms os hq => ?_) ((hC _ _ _ _).trans (qq_ok ⟨rfl, rfl, rfl⟩))
   obtain ⟨rfl, rfl, rfl⟩ := hq
   refine Go.Ev.Reach.blockC (Go.Ev.Reach.loopC (j := i) (lv := lvYs) (fl := []) (I := fun j vs ms os => ∃ k : Nat, k ≤ i ∧ j = i - k ∧ vs = vYs b off n cap b2 o2 c2 m i k ∧ ms = [] ∧ os = []) (fun j vs ms os hI => ?_) ⟨0, by omega, rfl, rfl, rfl, rfl⟩)
   obtain ⟨k, hk, rfl, rfl, rfl, rfl⟩ := hI
   refine Go.Ev.Reach.segR (SC_ok r) TOk.nil (tm := .nil) (L := 1) (L' := 1) (d := 1) hF hro h0' [(2, ⟨lvYr, [], fun vs ms os => vs = vYr b off n cap b2 o2 c2 m i ∧ ms = [] ∧ os = []⟩)] (fun p hp => by simp only [List.mem_cons, List.not_mem_nil, or_false] at hp; subst hp; rfl) ?_
   have hn' := yrD r b off n cap b2 o2 c2 m i k
   simp only [Int.ofNat_eq_natCast, Int.toNat_natCast] at hn'
   by_cases ck : k < i
   ·have hkn : k < n := by omega
    have b2' : Nat.blt k n = true := Nat.ble_eq_true_of_le (by omega)
    have ha := hap i k ck c
    simp only [dT (show (k : Int) < (i : Int) by omega), b1, b2', hf' i c, hf' k hkn, row_a0 hz c, row_b1 hz c, row_a0 hz hkn, row_b1 hz hkn, isI_I, cond_true] at hn'
    dsimp +instances only [ofI_I] at hn'
    rw [w1k k (by omega)] at hn'
    by_cases q1 : f i = f k
    ·simp only [show (((f i : Nat) : Int) == ((f k : Nat) : Int)) = true by rw [q1]; exact beq_self_eq_true _, cond_true] at hn'
     by_cases q2 : ea z i ≤ eb z k
     ·simp only [dT q2, cond_true, dF (fun q3 => ha q1 ⟨q2, q3⟩), cond_false] at hn'
      exact (hn' _ _ _ _).trans (qq_ok ⟨i - (k + 1), by omega, k + 1, ck, rfl, rfl, rfl, rfl⟩)
     ·simp only [dF q2, cond_false] at hn'
      exact (hn' _ _ _ _).trans (qq_ok ⟨i - (k + 1), by omega, k + 1, ck, rfl, rfl, rfl, rfl⟩)
    ·simp only [show (((f i : Nat) : Int) == ((f k : Nat) : Int)) = false by simpa using fun h => q1 (by omega), cond_false] at hn'
     exact (hn' _ _ _ _).trans (qq_ok ⟨i - (k + 1), by omega, k + 1, ck, rfl, rfl, rfl, rfl⟩)
   ·obtain rfl : k = i := by omega
    simp only [dF (show ¬ (k : Int) < (k : Int) by omega), cond_false] at hn'
    exact (hn' _ _ _ _).trans (qq_ok ⟨rfl, rfl, rfl⟩)
  ·obtain ⟨rfl, rfl, rfl⟩ := hq
   refine Go.Ev.Reach.segR (SC_ok r) TOk.nil (tm := .nil) (L := 1) (L' := 1) (d := 1) hF hro h0' [] (fun p hp => nomatch hp) ?_
   have hn' := yrE r b off n cap b2 o2 c2 m i
   simp only [Int.ofNat_eq_natCast] at hn'
   rw [w1k i (by omega)] at hn'
   exact (hn' _ _ _ _).trans (qq_ok ⟨n - (i + 1), by omega, i + 1, c, rfl, rfl, rfl, rfl⟩)
 ·rintro vs ms os ⟨rfl, rfl, rfl⟩
  exact Go.Ev.Reach.segR (SC_ok r) TOk.nil (tm := .nil) (L := 1) (L' := 1) (d := 1) hF hro h0' [] (fun p hp => nomatch hp) ((yrF r _ _ _ _).trans (qq_ok ⟨rfl, rfl, rfl⟩))
 ·have hn' := yrA r b off n cap b2 o2 c2 m
  simp only [show (Int.ofNat n != Int.ofNat n) = false from neF rfl, cond_false] at hn'
  exact (hn' _ _ _ _).trans (qq_ok ⟨rfl, rfl, rfl⟩)

theorem ys_ok {b2 o2 c2 : Nat} {T : List (List Bool)} (hn : n ≤ 1000) (hTl : T.length = n) (hrl : ∀ i, i < n → (T.getD i []).length = n) (h1 : TabM r b off T) (h2 : TabM r b2 o2 T) : GrT Tryd.prog r 11 [RS b off n cap, RS b2 o2 n c2] (.bool true) := by
 refine GrT.ofS (C := SC r) rfl rfl rfl (callO (SC_ok r) (by kernel_rfl) ((bodySC r _).trans Ys_eq) (nt := 53) (by kernel_rfl) (rs := [.tmp 4]) (by kernel_rfl) 115 rfl ⟨[4], [], fun vs ms os => vs = [some (.bool true)] ∧ ms = [] ∧ os = []⟩ ?_ fun γ W F kk hwr hF hro h0' => ?_)
 ·rintro vs ms os ⟨rfl, rfl, rfl⟩
  exact ⟨_, mkA [], by kernel_rfl, rfl⟩
 have h0' : ∀ i, 0 ≤ i → γ i = none := h0'
 have e0 : ∀ o k : Nat, Nat.add o (Nat.mul k 1) = o + k := fun o k => by simp
 have row : ∀ {b off : Nat}, TabM r b off T → ∀ i, i < n → ∃ bi oi ci, r b (off + i) = some (RS bi oi n ci) ∧ ∀ k, k < n → r bi (oi + k) = some (.bool (gT T i k)) := fun hM i hi => by
  have h := tab_RS hM (i := i) (by omega) (by rw [hrl i hi]; omega)
  rw [hrl i hi] at h
  exact h
 refine Go.Ev.Reach.after3R (SC_ok r) TOk.nil (tm := .nil) (L := 1) (L' := 1) (d := 1) hF hro h0' (.step (.step .base))
  (o1 := ⟨lvYt, [], fun vs ms os => vs = vYt b off n cap b2 o2 c2 0 ∧ ms = [] ∧ os = []⟩)
  (o2 := ⟨[], [], fun vs ms os => vs = [] ∧ ms = [] ∧ os = []⟩) [] (fun p hp => nomatch hp) ?_ ?_ ?_
 ·rintro vs ms os ⟨rfl, rfl, rfl⟩
  refine Go.Ev.Reach.blockC (Go.Ev.Reach.loopC (j := n) (lv := lvYt) (fl := []) (I := fun j vs ms os => ∃ i : Nat, i ≤ n ∧ j = n - i ∧ vs = vYt b off n cap b2 o2 c2 i ∧ ms = [] ∧ os = []) (fun j vs ms os hI => ?_) ⟨0, by omega, rfl, rfl, rfl, rfl⟩)
  obtain ⟨i, hi, rfl, rfl, rfl, rfl⟩ := hI
  refine Go.Ev.Reach.seqC (o1 := ⟨lvYt, [], fun vs ms os => i < n ∧ vs = vYt b off n cap b2 o2 c2 i ∧ ms = [] ∧ os = []⟩) (Go.Ev.Reach.segR (SC_ok r) TOk.nil (tm := .nil) (L := 1) (L' := 1) (d := 1) hF hro h0' [(0, ⟨[], [], fun vs ms os => vs = [] ∧ ms = [] ∧ os = []⟩)] (fun p hp => by simp only [List.mem_cons, List.not_mem_nil, or_false] at hp; subst hp; rfl) ?_) fun vs ms os hq => ?_
  ·have hn' := ysB r b off n cap b2 o2 c2 i
   simp only [Int.ofNat_eq_natCast] at hn'
   by_cases c : i < n
   ·simp only [dT (show (i : Int) < (n : Int) by omega), cond_true] at hn'
    exact (hn' _ _ _ _).trans (qq_ok ⟨c, rfl, rfl, rfl⟩)
   ·obtain rfl : i = n := by omega
    simp only [dF (show ¬ (i : Int) < (i : Int) by omega), cond_false] at hn'
    exact (hn' _ _ _ _).trans (qq_ok ⟨rfl, rfl, rfl⟩)
  obtain ⟨c, rfl, rfl, rfl⟩ := hq
  have b1 : Nat.blt i n = true := Nat.ble_eq_true_of_le (by omega)
  obtain ⟨bi, oi, ci, u1, u2⟩ := row h1 i c
  obtain ⟨bj, oj, cj, v1, v2⟩ := row h2 i c
  refine Go.Ev.Reach.seqC (o1 := ⟨lvYt, [], fun vs ms os => vs = vYt b off n cap b2 o2 c2 i ∧ ms = [] ∧ os = []⟩) (Go.Ev.Reach.blockC ?_) fun vs ms os hq => ?_
  ·have hC := ysC r b off n cap b2 o2 c2 i
   simp only [Int.ofNat_eq_natCast, Int.toNat_natCast, b1, e0, u1, v1, ro_RS, ln_RS, cond_true] at hC
   simp only [show ((n : Int) != (n : Int)) = false from neF rfl, cond_false] at hC
   refine reach_hs (sh := 2) (Go.Ev.Reach.afterR (SS_ok r 2) (TOk.sh 2 TOk.nil) (tm := .nil) (L := 1) (L' := 1) (d := 1) hF hro h0' (.step .base) (o1 := ⟨lvYu, [], fun vs ms os => vs = vYu b off n cap b2 o2 c2 i 0 ∧ ms = [] ∧ os = []⟩) [] (fun p hp => nomatch hp) (fun vs ms os hq => ?_) ((hC _ _ _ _).trans (qq_ok ⟨rfl, rfl, rfl⟩)))
   obtain ⟨rfl, rfl, rfl⟩ := hq
   refine Go.Ev.Reach.blockC (Go.Ev.Reach.loopC (j := n) (lv := lvYu) (fl := []) (I := fun j vs ms os => ∃ k : Nat, k ≤ n ∧ j = n - k ∧ vs = vYu b off n cap b2 o2 c2 i k ∧ ms = [] ∧ os = []) (fun j vs ms os hI => ?_) ⟨0, by omega, rfl, rfl, rfl, rfl⟩)
   obtain ⟨k, hk, rfl, rfl, rfl, rfl⟩ := hI
   refine Go.Ev.Reach.segR (SS_ok r 2) (TOk.sh 2 TOk.nil) (tm := .nil) (L := 1) (L' := 1) (d := 1) hF hro h0' [(2, ⟨lvYt, [], fun vs ms os => vs = vYt b off n cap b2 o2 c2 i ∧ ms = [] ∧ os = []⟩)] (fun p hp => by simp only [List.mem_cons, List.not_mem_nil, or_false] at hp; subst hp; rfl) ?_
   have hn' := ysD r b off n cap b2 o2 c2 i k
   simp only [Int.ofNat_eq_natCast, Int.toNat_natCast, b1, e0, u1, ro_RS, cond_true] at hn'
   by_cases ck : k < n
   ·have b3 : Nat.blt k n = true := Nat.ble_eq_true_of_le (by omega)
    simp only [ln_RS, b3, bk_RS, of_RS, u2 k ck, v1, ro_RS, ln_RS, v2 k ck, b_bl, o_bl, cond_true] at hn'
    rw [w1k k (by omega)] at hn'
    cases hg : gT T i k with
    | true =>
     simp only [hg, cond_true] at hn'
     exact (hn' _ _ _ _).trans (cT (by omega) (qq_ok ⟨n - (k + 1), by omega, k + 1, ck, rfl, rfl, rfl, rfl⟩))
    | false =>
     simp only [hg, cond_false] at hn'
     exact (hn' _ _ _ _).trans (cT (by omega) (qq_ok ⟨n - (k + 1), by omega, k + 1, ck, rfl, rfl, rfl, rfl⟩))
   ·obtain rfl : k = n := by omega
    simp only [ln_RS] at hn'
    exact (hn' _ _ _ _).trans (cF (by omega) (qq_ok ⟨rfl, rfl, rfl⟩))
  ·obtain ⟨rfl, rfl, rfl⟩ := hq
   refine Go.Ev.Reach.segR (SC_ok r) TOk.nil (tm := .nil) (L := 1) (L' := 1) (d := 1) hF hro h0' [] (fun p hp => nomatch hp) ?_
   have hn' := ysE r b off n cap b2 o2 c2 i
   simp only [Int.ofNat_eq_natCast] at hn'
   rw [w1k i (by omega)] at hn'
   exact (hn' _ _ _ _).trans (qq_ok ⟨n - (i + 1), by omega, i + 1, c, rfl, rfl, rfl, rfl⟩)
 ·rintro vs ms os ⟨rfl, rfl, rfl⟩
  exact Go.Ev.Reach.segR (SC_ok r) TOk.nil (tm := .nil) (L := 1) (L' := 1) (d := 1) hF hro h0' [] (fun p hp => nomatch hp) ((ysF r _ _ _ _).trans (qq_ok ⟨rfl, rfl, rfl⟩))
 ·have hn' := ysA r b off n cap b2 o2 c2
  simp only [show (Int.ofNat n != Int.ofNat n) = false from neF rfl, cond_false] at hn'
  exact (hn' _ _ _ _).trans (qq_ok ⟨rfl, rfl, rfl⟩)
end

end Go.Proofs

/- The order of intervals as a table, of the reference: run. -/
namespace Go.Proofs
open Go Go.Ev Go.Num
set_option linter.unusedVariables false
set_option linter.unusedSimpArgs false
set_option maxRecDepth 100000

noncomputable def cYg : Code := bodyOf S0 12
noncomputable def Yg_0 : Code := (lc cYg)
noncomputable def Yg_1 : Code := (lc (rc cYg))
noncomputable def Yg_2 : Code := (lc (lc (rc (rc cYg))))
noncomputable def Yg_3 : Code := (lc (ic (ic (rc (lc (rc (rc cYg)))))))
noncomputable def Yg_4 : Code := (lc (ic (lc (rc (ic (ic (rc (lc (rc (rc cYg))))))))))
noncomputable def Yg_5 : Code := (lc (lc (rc (ic (lc (rc (ic (ic (rc (lc (rc (rc cYg))))))))))))
noncomputable def Yg_6 : Code := (ic (ic (rc (lc (rc (ic (lc (rc (ic (ic (rc (lc (rc (rc cYg))))))))))))))
noncomputable def Yg_7 : Code := (rc (rc (ic (lc (rc (ic (ic (rc (lc (rc (rc cYg)))))))))))
noncomputable def Yg_8 : Code := (rc (rc (ic (ic (rc (lc (rc (rc cYg))))))))
noncomputable def Yg_9 : Code := (rc (rc (rc cYg)))
theorem Yg_eq : cYg = (.seq Yg_0 (.seq Yg_1 (.seq (.seq Yg_2 (.block 0 (.loop (.seq Yg_3 (.seq (.block 1 (.seq Yg_4 (.seq (.seq Yg_5 (.block 2 (.loop Yg_6))) Yg_7))) Yg_8))))) Yg_9))) := by kernel_rfl
def lvYg : List Nat := [0, 3, 4]
def lvYh : List Nat := [0, 3, 4, 5, 6]
def lvYk : List Nat := [0, 3, 4, 5]
def vYg (b off n cap : Nat) (E : Value) (i : Nat) : OV := [some (RS2 b off n cap), some E, some (I (i : Nat))]
def vYk (b off n cap : Nat) (E : Value) (i : Nat) (R : Value) : OV := [some (RS2 b off n cap), some E, some (I (i : Nat)), some R]
def vYh (b off n cap : Nat) (E : Value) (i : Nat) (R : Value) (k : Nat) : OV := [some (RS2 b off n cap), some E, some (I (i : Nat)), some R, some (I (k : Nat))]

theorem ygA (r : Mem) (b off n cap : Nat) (fs : FnsC) (K : OV → List Nat → OO → CR) (kx : Nat → KS) (kr : KS) : run (SC r) 125 38 1 (.seq Yg_0 (.seq Yg_1 Yg_2)) fs none (rbK 0 lvYg [] K) kx kr (sc0 125 [RS2 b off n cap]) (tr0 125 [RS2 b off n cap]) [] emptyA =
    K [some (.slice (some ⟨b, off, some 0⟩) n cap), some (.slice none 0 0), some (I (Int.ofNat 0))] [] [] := by kernel_rfl

theorem ygBn (r : Mem) (b off n cap : Nat) (i : Nat) (fs : FnsC) (K : OV → List Nat → OO → CR) (KX : Nat → OV → List Nat → OO → CR) (kr : KS) : run (SC r) 125 38 1 Yg_3 fs none (rbK 0 lvYg [] K) (fun j => rbK 0 [3] [] (KX j)) kr [] (bT lvYg (vYg b off n cap nilT i) .nil) [] (mkA []) =
    bif decide (Int.ofNat i < Int.ofNat n) then K [some (.slice (some ⟨b, off, some 0⟩) n cap), some (.slice none 0 0), some (I (Int.ofNat i))] [] [] else KX 0 [some (.slice none 0 0)] [] [] := by kernel_rfl

theorem ygCn (r : Mem) (b off n cap : Nat) (i : Nat) (fs : FnsC) (K : OV → List Nat → OO → CR) (kx : Nat → KS) (kr : KS) : run (SC r) 125 38 1 (.seq Yg_4 Yg_5) fs none (rbK 0 lvYh [] K) kx kr [] (bT lvYg (vYg b off n cap nilT i) .nil) [] (mkA []) =
    K [some (.slice (some ⟨b, off, some 0⟩) n cap), some (.slice none 0 0), some (I (Int.ofNat i)), some (.slice none 0 0), some (I (Int.ofNat 0))] [] [] := by kernel_rfl

theorem ygDnn (r : Mem) (b off n cap : Nat) (i k : Nat) (fs : FnsC) (K : OV → List Nat → OO → CR) (KX : Nat → OV → List Nat → OO → CR) (kr : KS) : run (SC r) 125 38 1 Yg_6 fs none (rbK 0 lvYh [.g] K) (fun j => rbK 0 lvYk [] (KX j)) kr [] (bT lvYh (vYh b off n cap nilT i nilT k) .nil) [] (mkA []) =
    bif decide (Int.ofNat k < Int.ofNat n) then bif Nat.blt (Int.toNat (Int.ofNat i)) n then Option.casesOn (r b (Nat.add (Nat.add off (Nat.mul (Int.toNat (Int.ofNat i)) 2)) 1)) (.fail 423) fun val => bif isI IntKind.i64 val then bif Nat.blt (Int.toNat (Int.ofNat k)) n then Option.casesOn (r b (Nat.add (Nat.add off (Nat.mul (Int.toNat (Int.ofNat k)) 2)) 0)) (.fail 423) fun val_1 => bif isI IntKind.i64 val_1 then bif decide (ofI val < ofI val_1) then K [some (.slice (some ⟨b, off, some 0⟩) n cap), some (.slice none 0 0), some (I (Int.ofNat i)), some (.slice (some ⟨0, 0, none⟩) 1 unk), some (I (IntKind.wrap .i64 (Int.ofNat k + Int.ofNat 1)))] [] [some (.cells [.bool true] 4 0 1)] else K [some (.slice (some ⟨b, off, some 0⟩) n cap), some (.slice none 0 0), some (I (Int.ofNat i)), some (.slice (some ⟨0, 0, none⟩) 1 unk), some (I (IntKind.wrap .i64 (Int.ofNat k + Int.ofNat 1)))] [] [some (.cells [.bool false] 4 0 1)] else .fail 420 else .fail 420 else .fail 420 else .fail 420 else KX 2 [some (.slice (some ⟨b, off, some 0⟩) n cap), some (.slice none 0 0), some (I (Int.ofNat i)), some (.slice none 0 0)] [] [] := by kernel_rfl

theorem ygDno (r : Mem) (b off n cap : Nat) (d : List Value) (i k : Nat) (fs : FnsC) (K : OV → List Nat → OO → CR) (KX : Nat → OV → List Nat → OO → CR) (kr : KS) : run (SC r) 125 38 1 Yg_6 fs none (rbK 0 lvYh [.g] K) (fun j => rbK 0 lvYk [.g] (KX j)) kr [] (bT lvYh (vYh b off n cap nilT i (gwT 0 k) k) .nil) [] (mkA [oBo d 0]) =
    bif decide (Int.ofNat k < Int.ofNat n) then bif Nat.blt (Int.toNat (Int.ofNat i)) n then Option.casesOn (r b (Nat.add (Nat.add off (Nat.mul (Int.toNat (Int.ofNat i)) 2)) 1)) (.fail 423) fun val => bif isI IntKind.i64 val then bif Nat.blt (Int.toNat (Int.ofNat k)) n then Option.casesOn (r b (Nat.add (Nat.add off (Nat.mul (Int.toNat (Int.ofNat k)) 2)) 0)) (.fail 423) fun val_1 => bif isI IntKind.i64 val_1 then bif decide (ofI val < ofI val_1) then bif Nat.ble (Nat.add k 1) 1000000 then Option.casesOn (takeAt d 0 (Nat.mul k 1)) (.fail 439) fun val => bif m_nns (val ++ [.bool true]) && true then K [some (.slice (some ⟨b, off, some 0⟩) n cap), some (.slice none 0 0), some (I (Int.ofNat i)), some (.slice (some ⟨0, 0, none⟩) (Nat.add k 1) unk), some (I (IntKind.wrap .i64 (Int.ofNat k + Int.ofNat 1)))] [] [some (.cells (val ++ [.bool true]) 4 0 1)] else .fail 420 else .fail 420 else bif Nat.ble (Nat.add k 1) 1000000 then Option.casesOn (takeAt d 0 (Nat.mul k 1)) (.fail 439) fun val => bif m_nns (val ++ [.bool false]) && true then K [some (.slice (some ⟨b, off, some 0⟩) n cap), some (.slice none 0 0), some (I (Int.ofNat i)), some (.slice (some ⟨0, 0, none⟩) (Nat.add k 1) unk), some (I (IntKind.wrap .i64 (Int.ofNat k + Int.ofNat 1)))] [] [some (.cells (val ++ [.bool false]) 4 0 1)] else .fail 420 else .fail 420 else .fail 420 else .fail 420 else .fail 420 else .fail 420 else bif m_nns d && true then KX 2 [some (.slice (some ⟨b, off, some 0⟩) n cap), some (.slice none 0 0), some (I (Int.ofNat i)), some (.slice (some ⟨0, 0, none⟩) k unk)] [] [some (.cells d 4 0 1)] else .fail 420 := by kernel_rfl

theorem ygEn (r : Mem) (b off n cap : Nat) (d : List Value) (i k : Nat) (fs : FnsC) (K : OV → List Nat → OO → CR) (kx : Nat → KS) (kr : KS) : run (SC r) 125 38 1 Yg_7 fs none (rbK 0 lvYg [.t, .g] K) kx kr [] (bT lvYk (vYk b off n cap nilT i (gwT 0 k)) .nil) [] (mkA [oBo d 0]) =
    bif true && (m_nns d && true) then K [some (.slice (some ⟨b, off, some 0⟩) n cap), some (.slice (some ⟨0, 0, none⟩) 1 unk), some (I (Int.ofNat i))] [] [some (.cells [.slice (some ⟨1, 0, none⟩) k unk] 64 0 1), some (.cells d 4 1 1)] else .fail 420 := by kernel_rfl

theorem ygBo (r : Mem) (b off n cap : Nat) (m : Nat) (c : List Value) (i : Nat) (fs : FnsC) (K : OV → List Nat → OO → CR) (KX : Nat → OV → List Nat → OO → CR) (kr : KS) : run (SC r) 125 38 1 Yg_3 fs none (rbK 0 lvYg [.g] K) (fun j => rbK 0 [3] [.g] (KX j)) kr [] (bT lvYg (vYg b off n cap (gwT 0 m) i) .nil) [] (mkA [oTb c 0]) =
    bif decide (Int.ofNat i < Int.ofNat n) then bif m_nns c && true then K [some (.slice (some ⟨b, off, some 0⟩) n cap), some (.slice (some ⟨0, 0, none⟩) m unk), some (I (Int.ofNat i))] [] [some (.cells c 64 0 1)] else .fail 420 else bif m_nns c && true then KX 0 [some (.slice (some ⟨0, 0, none⟩) m unk)] [] [some (.cells c 64 0 1)] else .fail 420 := by kernel_rfl

theorem ygCo (r : Mem) (b off n cap : Nat) (m : Nat) (c : List Value) (i : Nat) (fs : FnsC) (K : OV → List Nat → OO → CR) (kx : Nat → KS) (kr : KS) : run (SC r) 125 38 1 (.seq Yg_4 Yg_5) fs none (rbK 0 lvYh [.g] K) kx kr [] (bT lvYg (vYg b off n cap (gwT 0 m) i) .nil) [] (mkA [oTb c 0]) =
    bif m_nns c && true then K [some (.slice (some ⟨b, off, some 0⟩) n cap), some (.slice (some ⟨0, 0, none⟩) m unk), some (I (Int.ofNat i)), some (.slice none 0 0), some (I (Int.ofNat 0))] [] [some (.cells c 64 0 1)] else .fail 420 := by kernel_rfl

theorem ygDon (r : Mem) (b off n cap : Nat) (m : Nat) (c : List Value) (i k : Nat) (fs : FnsC) (K : OV → List Nat → OO → CR) (KX : Nat → OV → List Nat → OO → CR) (kr : KS) : run (SC r) 125 38 1 Yg_6 fs none (rbK 0 lvYh [.g, .g] K) (fun j => rbK 0 lvYk [.g] (KX j)) kr [] (bT lvYh (vYh b off n cap (gwT 0 m) i nilT k) .nil) [] (mkA [oTb c 0]) =
    bif decide (Int.ofNat k < Int.ofNat n) then bif Nat.blt (Int.toNat (Int.ofNat i)) n then Option.casesOn (r b (Nat.add (Nat.add off (Nat.mul (Int.toNat (Int.ofNat i)) 2)) 1)) (.fail 423) fun val => bif isI IntKind.i64 val then bif Nat.blt (Int.toNat (Int.ofNat k)) n then Option.casesOn (r b (Nat.add (Nat.add off (Nat.mul (Int.toNat (Int.ofNat k)) 2)) 0)) (.fail 423) fun val_1 => bif isI IntKind.i64 val_1 then bif decide (ofI val < ofI val_1) then bif m_nns c && (m_nns [.bool true] && true) then K [some (.slice (some ⟨b, off, some 0⟩) n cap), some (.slice (some ⟨0, 0, none⟩) m unk), some (I (Int.ofNat i)), some (.slice (some ⟨1, 0, none⟩) 1 unk), some (I (IntKind.wrap .i64 (Int.ofNat k + Int.ofNat 1)))] [] [some (.cells c 64 0 1), some (.cells [.bool true] 4 1 1)] else .fail 420 else bif m_nns c && (m_nns [.bool false] && true) then K [some (.slice (some ⟨b, off, some 0⟩) n cap), some (.slice (some ⟨0, 0, none⟩) m unk), some (I (Int.ofNat i)), some (.slice (some ⟨1, 0, none⟩) 1 unk), some (I (IntKind.wrap .i64 (Int.ofNat k + Int.ofNat 1)))] [] [some (.cells c 64 0 1), some (.cells [.bool false] 4 1 1)] else .fail 420 else .fail 420 else .fail 420 else .fail 420 else .fail 420 else bif m_nns c && true then KX 2 [some (.slice (some ⟨b, off, some 0⟩) n cap), some (.slice (some ⟨0, 0, none⟩) m unk), some (I (Int.ofNat i)), some (.slice none 0 0)] [] [some (.cells c 64 0 1)] else .fail 420 := by kernel_rfl

theorem ygDoo (r : Mem) (b off n cap : Nat) (m : Nat) (c : List Value) (d : List Value) (i k : Nat) (fs : FnsC) (K : OV → List Nat → OO → CR) (KX : Nat → OV → List Nat → OO → CR) (kr : KS) : run (SC r) 125 38 1 Yg_6 fs none (rbK 0 lvYh [.g, .g] K) (fun j => rbK 0 lvYk [.g, .g] (KX j)) kr [] (bT lvYh (vYh b off n cap (gwT 0 m) i (gwT 1 k) k) .nil) [] (mkA [oTb c 0, oBo d 1]) =
    bif decide (Int.ofNat k < Int.ofNat n) then bif Nat.blt (Int.toNat (Int.ofNat i)) n then Option.casesOn (r b (Nat.add (Nat.add off (Nat.mul (Int.toNat (Int.ofNat i)) 2)) 1)) (.fail 423) fun val => bif isI IntKind.i64 val then bif Nat.blt (Int.toNat (Int.ofNat k)) n then Option.casesOn (r b (Nat.add (Nat.add off (Nat.mul (Int.toNat (Int.ofNat k)) 2)) 0)) (.fail 423) fun val_1 => bif isI IntKind.i64 val_1 then bif decide (ofI val < ofI val_1) then bif Nat.ble (Nat.add k 1) 1000000 then Option.casesOn (takeAt d 0 (Nat.mul k 1)) (.fail 439) fun val => bif m_nns c && (m_nns (val ++ [.bool true]) && true) then K [some (.slice (some ⟨b, off, some 0⟩) n cap), some (.slice (some ⟨0, 0, none⟩) m unk), some (I (Int.ofNat i)), some (.slice (some ⟨1, 0, none⟩) (Nat.add k 1) unk), some (I (IntKind.wrap .i64 (Int.ofNat k + Int.ofNat 1)))] [] [some (.cells c 64 0 1), some (.cells (val ++ [.bool true]) 4 1 1)] else .fail 420 else .fail 420 else bif Nat.ble (Nat.add k 1) 1000000 then Option.casesOn (takeAt d 0 (Nat.mul k 1)) (.fail 439) fun val => bif m_nns c && (m_nns (val ++ [.bool false]) && true) then K [some (.slice (some ⟨b, off, some 0⟩) n cap), some (.slice (some ⟨0, 0, none⟩) m unk), some (I (Int.ofNat i)), some (.slice (some ⟨1, 0, none⟩) (Nat.add k 1) unk), some (I (IntKind.wrap .i64 (Int.ofNat k + Int.ofNat 1)))] [] [some (.cells c 64 0 1), some (.cells (val ++ [.bool false]) 4 1 1)] else .fail 420 else .fail 420 else .fail 420 else .fail 420 else .fail 420 else .fail 420 else bif m_nns c && (m_nns d && true) then KX 2 [some (.slice (some ⟨b, off, some 0⟩) n cap), some (.slice (some ⟨0, 0, none⟩) m unk), some (I (Int.ofNat i)), some (.slice (some ⟨1, 0, none⟩) k unk)] [] [some (.cells c 64 0 1), some (.cells d 4 1 1)] else .fail 420 := by kernel_rfl

theorem ygEo (r : Mem) (b off n cap : Nat) (m : Nat) (c : List Value) (d : List Value) (i k : Nat) (fs : FnsC) (K : OV → List Nat → OO → CR) (kx : Nat → KS) (kr : KS) : run (SC r) 125 38 1 Yg_7 fs none (rbK 0 lvYg [.q [1], .g] K) kx kr [] (bT lvYk (vYk b off n cap (gwT 0 m) i (gwT 1 k)) .nil) [] (mkA [oTb c 0, oBo d 1]) =
    bif Nat.ble (Nat.add m 1) 1000000 then Option.casesOn (takeAt c 0 (Nat.mul m 1)) (.fail 439) fun val => bif m_nopo (m_mvq [3, 1] (val ++ [.slice (some ⟨1, 0, none⟩) k unk])) && (m_nns d && true) then K [some (.slice (some ⟨b, off, some 0⟩) n cap), some (.slice (some ⟨0, 0, none⟩) (Nat.add m 1) unk), some (I (Int.ofNat i))] [] [some (.cells (m_mvq [3, 1] (val ++ [.slice (some ⟨1, 0, none⟩) k unk])) 64 0 1), some (.cells d 4 1 1)] else .fail 420 else .fail 420 := by kernel_rfl

theorem ygF (r : Mem) (b off n cap : Nat) (m : Nat) (c : List Value) (i : Nat) (fs : FnsC) (K : OV → List Nat → OO → CR) (kx : Nat → KS) (kr : KS) : run (SC r) 125 38 1 Yg_8 fs none (rbK 0 lvYg [.g] K) kx kr [] (bT lvYg (vYg b off n cap (gwT 0 m) i) .nil) [] (mkA [oTb c 0]) =
    bif m_nns c && true then K [some (.slice (some ⟨b, off, some 0⟩) n cap), some (.slice (some ⟨0, 0, none⟩) m unk), some (I (IntKind.wrap .i64 (Int.ofNat i + Int.ofNat 1)))] [] [some (.cells c 64 0 1)] else .fail 420 := by kernel_rfl

theorem ygG (r : Mem) (m : Nat) (c : List Value) (fs : FnsC) (K : OV → List Nat → OO → CR) (KR : OV → List Nat → OO → CR) (kx : Nat → KS) : run (SC r) 125 38 1 Yg_9 fs none (rbK 0 [2] [.g] K) kx (rbK 0 [2] [.g] KR) [] (bT [3] [some (gwT 0 m)] .nil) [] (mkA [oTb c 0]) =
    bif m_nns c && true then KR [some (.slice (some ⟨0, 0, none⟩) m unk)] [] [some (.cells c 64 0 1)] else .fail 420 := by kernel_rfl

end Go.Proofs

/- The order of intervals as a table, of the reference: what the call answers. -/
namespace Go.Proofs
open Go Go.Ev Go.Num
set_option linter.unusedVariables false
set_option linter.unusedSimpArgs false
set_option maxRecDepth 100000

def tR (z : Nat → Int) (i k : Nat) : List Bool := (List.range k).map fun j => decide (eb z i < ea z j)
def tP (z : Nat → Int) (n i : Nat) : List (List Bool) := (List.range i).map fun j => tR z j n
theorem tP_all (z : Nat → Int) (n : Nat) : tP z n n = tS z n := rfl
theorem tR_len (z : Nat → Int) (i k : Nat) : (tR z i k).length = k := by simp [tR]
theorem tP_len (z : Nat → Int) (n i : Nat) : (tP z n i).length = i := by simp [tP]
theorem tR_succ (z : Nat → Int) (i k : Nat) : tR z i (k + 1) = tR z i k ++ [decide (eb z i < ea z k)] := by
 unfold tR
 rw [List.range_succ, List.map_append]
 rfl
theorem tP_succ (z : Nat → Int) (n i : Nat) : tP z n (i + 1) = tP z n i ++ [tR z i n] := by
 unfold tP
 rw [List.range_succ, List.map_append]
 rfl
theorem boL_snoc (l : List Bool) (x : Bool) : boL l ++ [.bool x] = boL (l ++ [x]) := by simp [boL]
theorem reach_no {C : Cfg} {m n : Nat} {F : Fence} {k : Nat} {γ0 : Gam} {W0 : World} {c : Code} {st : St} {on : Outs} {ox ox' : Nat → Outs} {orr orr' : Outs} (h : Go.Ev.Reach C m n F k γ0 W0 c st (CanQ C m n γ0 W0 on ox' orr')) (hx : ∀ id vs ms os, ¬ (ox' id).Q vs ms os) (hr : ∀ vs ms os, ¬ orr'.Q vs ms os) : Go.Ev.Reach C m n F k γ0 W0 c st (CanQ C m n γ0 W0 on ox orr) :=
 Go.Ev.Reach.mono h fun ex st h => by
  cases ex with
  | normal => exact h
  | exit id => obtain ⟨vs, ms, os, _, hq⟩ := h; exact absurd hq (hx id vs ms os)
  | ret => obtain ⟨vs, ms, os, _, hq⟩ := h; exact absurd hq (hr vs ms os)
  | _ => exact h
def YgO (z : Nat → Int) (n : Nat) (r1 : Mem) (i : Nat) (E : Value) (os : OO) : Prop := (i = 0 ∧ E = nilT ∧ os = []) ∨ (1 ≤ i ∧ ∃ c, E = gwT 0 i ∧ os = [oTb c 0] ∧ TabC r1 c (tP z n i) ∧ m_nns c = true)
section
variable {r : Mem} {b off n cap : Nat} {z : Nat → Int}
theorem yg_n (hz : rowAt r b off (2 * n) z) (h1 : 1 ≤ n) (hn : n ≤ 1000) {i : Nat} (hi : i < n) {F : Fence} {kk : Nat} {γ : Gam} {W : World} (hF : Wide F) (hro : RoRel γ none F.round) (h0' : ∀ i, 0 ≤ i → γ i = none) {ox : Nat → Outs} {orr : Outs} :
  Go.Ev.Reach (SC r) 125 38 F kk γ W (.block 2 (.loop Yg_6)) (St.of lvYh (vYh b off n cap nilT i nilT 0) [] []) (CanQ (SC r) 125 38 γ W ⟨lvYk, [.g], fun vs ms os => vs = vYk b off n cap nilT i (gwT 0 n) ∧ ms = [] ∧ os = [oBo (boL (tR z i n)) 0]⟩ ox orr) := by
 refine Go.Ev.Reach.blockC (Go.Ev.Reach.loopC (j := n) (lv := lvYh) (fl := [.g]) (I := fun j vs ms os => ∃ k : Nat, k ≤ n ∧ j = n - k ∧ ms = [] ∧ ((k = 0 ∧ vs = vYh b off n cap nilT i nilT 0 ∧ os = []) ∨ (1 ≤ k ∧ vs = vYh b off n cap nilT i (gwT 0 k) k ∧ os = [oBo (boL (tR z i k)) 0]))) (fun j vs ms os hI => ?_) ⟨0, by omega, rfl, rfl, .inl ⟨rfl, rfl, rfl⟩⟩)
 obtain ⟨k, hk, rfl, rfl, hcase⟩ := hI
 have b2 : Nat.blt i n = true := Nat.ble_eq_true_of_le (by omega)
 rcases hcase with ⟨rfl, rfl, rfl⟩ | ⟨hk1, rfl, rfl⟩
 ·have b1 : Nat.blt 0 n = true := Nat.ble_eq_true_of_le (by omega)
  refine reach_no (Go.Ev.Reach.segR (SC_ok r) TOk.nil (tm := .nil) (L := 1) (L' := 1) (d := 1) (n0 := 0) hF hro h0' [(2, ⟨lvYk, [], fun _ _ _ => False⟩)] (ox := fun j => if j = 2 then ⟨lvYk, [], fun _ _ _ => False⟩ else Outs.no) (orr := Outs.no) (fun p hp => by simp only [List.mem_cons, List.not_mem_nil, or_false] at hp; subst hp; rfl) ?_) (fun id vs ms os h => ?_) (fun _ _ _ h => h.elim)
  ·have hn' := ygDnn r b off n cap i 0
   simp only [Int.ofNat_eq_natCast, Int.toNat_natCast, dT (show ((0 : Nat) : Int) < (n : Int) by omega), b1, b2, row_b1 hz hi, row_a0 hz (show 0 < n by omega), isI_I, cond_true] at hn'
   dsimp +instances only [ofI_I] at hn'
   rw [w1k 0 (by omega)] at hn'
   have hR : tR z i 1 = [decide (eb z i < ea z 0)] := rfl
   by_cases q : eb z i < ea z 0
   ·simp only [dT q, cond_true] at hn'
    exact (hn' _ _ _ _).trans (qq_ok ⟨n - 1, by omega, 1, h1, rfl, rfl, .inr ⟨Nat.le_refl _, rfl, by rw [hR, dT q]; rfl⟩⟩)
   ·simp only [dF q, cond_false] at hn'
    exact (hn' _ _ _ _).trans (qq_ok ⟨n - 1, by omega, 1, h1, rfl, rfl, .inr ⟨Nat.le_refl _, rfl, by rw [hR, dF q]; rfl⟩⟩)
  ·by_cases e : id = 2
   ·subst e; exact h
   ·rw [if_neg e] at h; exact h
 ·refine Go.Ev.Reach.segR (SC_ok r) TOk.nil (tm := .nil) (L := 1) (L' := 1) (d := 1) hF hro h0' [(2, ⟨lvYk, [.g], fun vs ms os => vs = vYk b off n cap nilT i (gwT 0 n) ∧ ms = [] ∧ os = [oBo (boL (tR z i n)) 0]⟩)] (fun p hp => by simp only [List.mem_cons, List.not_mem_nil, or_false] at hp; subst hp; rfl) ?_
  have hn' := ygDno r b off n cap (boL (tR z i k)) i k
  simp only [Int.ofNat_eq_natCast, Int.toNat_natCast] at hn'
  by_cases c : k < n
  ·have b1 : Nat.blt k n = true := Nat.ble_eq_true_of_le (by omega)
   have m1 : Nat.ble (Nat.add k 1) 1000000 = true := Nat.ble_eq_true_of_le (by simp only [Nat.add_eq]; omega)
   have tk : takeAt (boL (tR z i k)) 0 (Nat.mul k 1) = some (boL (tR z i k)) := takeL_row _ _ (by rw [boL_len, tR_len]; simp)
   simp only [dT (show (k : Int) < (n : Int) by omega), b1, b2, row_b1 hz hi, row_a0 hz c, isI_I, cond_true] at hn'
   dsimp +instances only [ofI_I] at hn'
   rw [w1k k (by omega)] at hn'
   have hR := tR_succ z i k
   by_cases q : eb z i < ea z k
   ·simp only [dT q, cond_true, m1, tk, boL_snoc, boL_nn, Bool.and_true] at hn'
    exact (hn' _ _ _ _).trans (qq_ok ⟨n - (k + 1), by omega, k + 1, c, rfl, rfl, .inr ⟨by omega, rfl, by rw [hR, dT q]; rfl⟩⟩)
   ·simp only [dF q, cond_false, cond_true, m1, tk, boL_snoc, boL_nn, Bool.and_true] at hn'
    exact (hn' _ _ _ _).trans (qq_ok ⟨n - (k + 1), by omega, k + 1, c, rfl, rfl, .inr ⟨by omega, rfl, by rw [hR, dF q]; rfl⟩⟩)
  ·obtain rfl : k = n := by omega
   simp only [dF (show ¬ (k : Int) < (k : Int) by omega), cond_false, cond_true, boL_nn, Bool.and_true] at hn'
   exact (hn' _ _ _ _).trans (qq_ok ⟨rfl, rfl, rfl⟩)
theorem yg_o (hz : rowAt r b off (2 * n) z) (h1 : 1 ≤ n) (hn : n ≤ 1000) {c0 : List Value} (hc0 : m_nns c0 = true) {i : Nat} (hi : i < n) {F : Fence} {kk : Nat} {γ : Gam} {W : World} (hF : Wide F) (hro : RoRel γ none F.round) (h0' : ∀ i, 0 ≤ i → γ i = none) {ox : Nat → Outs} {orr : Outs} :
  Go.Ev.Reach (SC r) 125 38 F kk γ W (.block 2 (.loop Yg_6)) (St.of lvYh (vYh b off n cap (gwT 0 i) i nilT 0) [] [oTb c0 0]) (CanQ (SC r) 125 38 γ W ⟨lvYk, [.g, .g], fun vs ms os => vs = vYk b off n cap (gwT 0 i) i (gwT 1 n) ∧ ms = [] ∧ os = [oTb c0 0, oBo (boL (tR z i n)) 1]⟩ ox orr) := by
 refine Go.Ev.Reach.blockC (Go.Ev.Reach.loopC (j := n) (lv := lvYh) (fl := [.g, .g]) (I := fun j vs ms os => ∃ k : Nat, k ≤ n ∧ j = n - k ∧ ms = [] ∧ ((k = 0 ∧ vs = vYh b off n cap (gwT 0 i) i nilT 0 ∧ os = [oTb c0 0]) ∨ (1 ≤ k ∧ vs = vYh b off n cap (gwT 0 i) i (gwT 1 k) k ∧ os = [oTb c0 0, oBo (boL (tR z i k)) 1]))) (fun j vs ms os hI => ?_) ⟨0, by omega, rfl, rfl, .inl ⟨rfl, rfl, rfl⟩⟩)
 obtain ⟨k, hk, rfl, rfl, hcase⟩ := hI
 have b2 : Nat.blt i n = true := Nat.ble_eq_true_of_le (by omega)
 rcases hcase with ⟨rfl, rfl, rfl⟩ | ⟨hk1, rfl, rfl⟩
 ·have b1 : Nat.blt 0 n = true := Nat.ble_eq_true_of_le (by omega)
  refine reach_no (Go.Ev.Reach.segR (SC_ok r) TOk.nil (tm := .nil) (L := 1) (L' := 1) (d := 1) (n0 := 0) hF hro h0' [(2, ⟨lvYk, [.g], fun _ _ _ => False⟩)] (ox := fun j => if j = 2 then ⟨lvYk, [.g], fun _ _ _ => False⟩ else Outs.no) (orr := Outs.no) (fun p hp => by simp only [List.mem_cons, List.not_mem_nil, or_false] at hp; subst hp; rfl) ?_) (fun id vs ms os h => ?_) (fun _ _ _ h => h.elim)
  ·have hn' := ygDon r b off n cap i c0 i 0
   simp only [Int.ofNat_eq_natCast, Int.toNat_natCast, dT (show ((0 : Nat) : Int) < (n : Int) by omega), b1, b2, row_b1 hz hi, row_a0 hz (show 0 < n by omega), isI_I, cond_true] at hn'
   dsimp +instances only [ofI_I] at hn'
   rw [w1k 0 (by omega)] at hn'
   have hR : tR z i 1 = [decide (eb z i < ea z 0)] := rfl
   by_cases q : eb z i < ea z 0
   ·simp only [dT q, cond_true, cond_true, hc0, Bool.and_true, Bool.and_self, show m_nns [.bool true] = true from rfl, show m_nns [.bool false] = true from rfl] at hn'
    exact (hn' _ _ _ _).trans (qq_ok ⟨n - 1, by omega, 1, h1, rfl, rfl, .inr ⟨Nat.le_refl _, rfl, by rw [hR, dT q]; rfl⟩⟩)
   ·simp only [dF q, cond_false, cond_true, hc0, Bool.and_true, Bool.and_self, show m_nns [.bool true] = true from rfl, show m_nns [.bool false] = true from rfl] at hn'
    exact (hn' _ _ _ _).trans (qq_ok ⟨n - 1, by omega, 1, h1, rfl, rfl, .inr ⟨Nat.le_refl _, rfl, by rw [hR, dF q]; rfl⟩⟩)
  ·by_cases e : id = 2
   ·subst e; exact h
   ·rw [if_neg e] at h; exact h
 ·refine Go.Ev.Reach.segR (SC_ok r) TOk.nil (tm := .nil) (L := 1) (L' := 1) (d := 1) hF hro h0' [(2, ⟨lvYk, [.g, .g], fun vs ms os => vs = vYk b off n cap (gwT 0 i) i (gwT 1 n) ∧ ms = [] ∧ os = [oTb c0 0, oBo (boL (tR z i n)) 1]⟩)] (fun p hp => by simp only [List.mem_cons, List.not_mem_nil, or_false] at hp; subst hp; rfl) ?_
  have hn' := ygDoo r b off n cap i c0 (boL (tR z i k)) i k
  simp only [Int.ofNat_eq_natCast, Int.toNat_natCast] at hn'
  by_cases c : k < n
  ·have b1 : Nat.blt k n = true := Nat.ble_eq_true_of_le (by omega)
   have m1 : Nat.ble (Nat.add k 1) 1000000 = true := Nat.ble_eq_true_of_le (by simp only [Nat.add_eq]; omega)
   have tk : takeAt (boL (tR z i k)) 0 (Nat.mul k 1) = some (boL (tR z i k)) := takeL_row _ _ (by rw [boL_len, tR_len]; simp)
   simp only [dT (show (k : Int) < (n : Int) by omega), b1, b2, row_b1 hz hi, row_a0 hz c, isI_I, cond_true] at hn'
   dsimp +instances only [ofI_I] at hn'
   rw [w1k k (by omega)] at hn'
   have hR := tR_succ z i k
   by_cases q : eb z i < ea z k
   ·simp only [dT q, cond_true, m1, tk, boL_snoc, boL_nn, Bool.and_true, cond_true, hc0, Bool.and_true, Bool.and_self, show m_nns [.bool true] = true from rfl, show m_nns [.bool false] = true from rfl] at hn'
    exact (hn' _ _ _ _).trans (qq_ok ⟨n - (k + 1), by omega, k + 1, c, rfl, rfl, .inr ⟨by omega, rfl, by rw [hR, dT q]; rfl⟩⟩)
   ·simp only [dF q, cond_false, cond_true, m1, tk, boL_snoc, boL_nn, Bool.and_true, cond_true, hc0, Bool.and_true, Bool.and_self, show m_nns [.bool true] = true from rfl, show m_nns [.bool false] = true from rfl] at hn'
    exact (hn' _ _ _ _).trans (qq_ok ⟨n - (k + 1), by omega, k + 1, c, rfl, rfl, .inr ⟨by omega, rfl, by rw [hR, dF q]; rfl⟩⟩)
  ·obtain rfl : k = n := by omega
   simp only [dF (show ¬ (k : Int) < (k : Int) by omega), cond_false, cond_true, boL_nn, Bool.and_true, cond_true, hc0, Bool.and_true, Bool.and_self, show m_nns [.bool true] = true from rfl, show m_nns [.bool false] = true from rfl] at hn'
   exact (hn' _ _ _ _).trans (qq_ok ⟨rfl, rfl, rfl⟩)

theorem yg_ok (hz : rowAt r b off (2 * n) z) (h1 : 1 ≤ n) (hn : n ≤ 1000) : SOkG Tryd.prog r 12 [RS2 b off n cap] emptyA fun v A r1 => Mem.le r r1 ∧ ∃ c, v = gwT 0 n ∧ A = mkA [oTb c 0] ∧ TabC r1 c (tS z n) ∧ m_nns c = true := by
 refine callOG SC_ok (by kernel_rfl) ((bodySC r _).trans Yg_eq) (nt := 38) (by kernel_rfl) (rs := [.tmp 2]) (by kernel_rfl) 125 rfl ⟨[2], fun r1 vs ms os => ms = [] ∧ Mem.le r r1 ∧ ∃ c, vs = [some (gwT 0 n)] ∧ os = [oTb c 0] ∧ TabC r1 c (tS z n) ∧ m_nns c = true⟩ ?_ fun γ W F kk hwr hF hro h0' => ?_
 ·rintro r1 vs ms os ⟨rfl, hle, c, rfl, rfl, hc, hcn⟩
  exact ⟨_, mkA [oTb c 0], by kernel_rfl, hle, c, rfl, rfl, hc, hcn⟩
 have h0' : ∀ i, 0 ≤ i → γ i = none := h0'
 refine ReachG.after3 (SC_ok r) TOk.nil (tm := .nil) (L := 1) (L' := 1) (d := 1) hF hro h0' (.step (.step .base)) (orr := Outs.no)
  (o1 := ⟨lvYg, [], fun vs ms os => vs = vYg b off n cap nilT 0 ∧ ms = [] ∧ os = []⟩)
  (g2 := ⟨[3], fun r1 vs ms os => ms = [] ∧ Mem.le r r1 ∧ ∃ c, vs = [some (gwT 0 n)] ∧ os = [oTb c 0] ∧ TabC r1 c (tS z n) ∧ m_nns c = true⟩) (fun _ _ _ h => h.elim) ?_ ?_ ?_
 ·rintro vs ms os ⟨rfl, rfl, rfl⟩
  refine ReachG.blockC (ReachG.loopC (j := n) (lv := lvYg) (I := fun j r1 vs ms os => ∃ i : Nat, i ≤ n ∧ j = n - i ∧ ms = [] ∧ Mem.le r r1 ∧ ∃ E, vs = vYg b off n cap E i ∧ YgO z n r1 i E os) (fun j r1 vs ms os hI => ?_) ⟨0, by omega, rfl, rfl, Mem.le_refl r, nilT, rfl, .inl ⟨rfl, rfl, rfl⟩⟩)
  obtain ⟨i, hi, rfl, rfl, hle, E, rfl, hO⟩ := hI
  have hz1 : rowAt r1 b off (2 * n) z := fun j hj => hle _ _ _ (hz j hj)
  have one : ∀ id vs ms os, ¬ ((fun j => if j = 0 then (⟨[3], [], fun _ _ _ => False⟩ : Outs) else Outs.no) id).Q vs ms os := fun id vs ms os h => by
   by_cases e : id = 0
   ·subst e; exact h
   ·simp only [if_neg e] at h; exact h
  rcases hO with ⟨rfl, rfl, rfl⟩ | ⟨hi1, c0, rfl, rfl, hT, hcn⟩
  ·refine ReachG.seqC (o1 := ⟨lvYg, fun r2 vs ms os => r2 = r1 ∧ vs = vYg b off n cap nilT 0 ∧ ms = [] ∧ os = []⟩) (ReachG.segR (SC_ok r1) TOk.nil (tm := .nil) (L := 1) (L' := 1) (d := 1) (n0 := 0) hF hro h0' [(0, ⟨[3], [], fun _ _ _ => False⟩)] (on := ⟨lvYg, [], fun vs ms os => vs = vYg b off n cap nilT 0 ∧ ms = [] ∧ os = []⟩) (ox := fun j => if j = 0 then ⟨[3], [], fun _ _ _ => False⟩ else Outs.no) (orr := Outs.no) (fun p hp => by simp only [List.mem_cons, List.not_mem_nil, or_false] at hp; subst hp; rfl) ?_ (fun vs ms os h => IsG.here ⟨rfl, h⟩) (fun id vs ms os h => absurd h (one id vs ms os)) (fun _ _ _ h => h.elim)) fun r2 vs ms os hq => ?_
   ·have hn' := ygBn r1 b off n cap 0
    simp only [Int.ofNat_eq_natCast, dT (show ((0 : Nat) : Int) < (n : Int) by omega), cond_true] at hn'
    exact (hn' _ _ _ _).trans (qq_ok ⟨rfl, rfl, rfl⟩)
   obtain ⟨rfl, rfl, rfl, rfl⟩ := hq
   refine ReachG.seqC (o1 := ⟨lvYg, fun r3 vs ms os => ms = [] ∧ Mem.le r r3 ∧ ∃ c, vs = vYg b off n cap (gwT 0 1) 0 ∧ os = [oTb c 0] ∧ TabC r3 c (tP z n 1) ∧ m_nns c = true⟩) (ReachG.blockC ?_) fun r3 vs ms os hq => ?_
   ·refine ReachG.after3 (SC_ok r2) TOk.nil (tm := .nil) (L := 1) (L' := 1) (d := 1) hF hro h0' (.step .base) (orr := Outs.no)
     (o1 := ⟨lvYh, [], fun vs ms os => vs = vYh b off n cap nilT 0 nilT 0 ∧ ms = [] ∧ os = []⟩)
     (g2 := ⟨lvYk, fun r3 vs ms os => r3 = r2 ∧ vs = vYk b off n cap nilT 0 (gwT 0 n) ∧ ms = [] ∧ os = [oBo (boL (tR z 0 n)) 0]⟩) (fun _ _ _ h => h.elim) ?_ ?_ ((ygCn r2 b off n cap 0 _ _ _ _).trans (qq_ok ⟨rfl, rfl, rfl⟩))
    ·rintro vs ms os ⟨rfl, rfl, rfl⟩
     exact ReachG.lift (yg_n hz1 h1 hn (show 0 < n by omega) hF hro h0' (ox := fun _ => Outs.no) (orr := Outs.no)) (fun vs ms os h => IsG.here ⟨rfl, h⟩) (fun _ _ _ _ h => h.elim) (fun _ _ _ h => h.elim)
    ·rintro r3 vs ms os ⟨rfl, rfl, rfl, rfl⟩
     refine ReachG.segR (SC_ok r3) TOk.nil (tm := .nil) (L := 1) (L' := 1) (d := 1) (n0 := 0) hF hro h0' [] (on := ⟨lvYg, [.t, .g], fun vs ms os => vs = vYg b off n cap (gwT 0 1) 0 ∧ ms = [] ∧ os = [oTb [gwT 1 n] 0, oBo (boL (tR z 0 n)) 1]⟩) (ox := fun _ => Outs.no) (orr := Outs.no) (fun p hp => nomatch hp) ?_ ?_ (fun _ _ _ _ h => h.elim) (fun _ _ _ h => h.elim)
     ·have hn' := ygEn r3 b off n cap (boL (tR z 0 n)) 0 n
      simp only [boL_nn, Bool.and_true, cond_true] at hn'
      exact (hn' _ _ _ _).trans (qq_ok ⟨rfl, rfl, rfl⟩)
     ·rintro vs ms os ⟨rfl, rfl, rfl⟩
      refine IsG.freeze (os0 := [oTb [gwT 1 n] 0]) (j := 1) h0' rfl (Nat.zero_le _) rfl (boL_nn _) fun b' o' r4 hle2 hrow => ?_
      refine ⟨vYg b off n cap (gwT 0 1) 0, [oTb [RS b' o' n 0] 0], rfl, ?_, rfl, Mem.le_trans hle hle2, [RS b' o' n 0], rfl, rfl, ?_, rfl⟩
      ·have e1 : frzVs 1 b' o' [gwT 1 n] = some [RS b' o' n 0] := frzVs_one _ _ _ _ _ (by
        show (match (Nat.beq n 0 && Nat.beq unk unkE) with | true => _ | false => _) = _
        rw [show Nat.beq unk unkE = false by decide, Bool.and_false]
        rfl)
       unfold oTb
       simp only [frzAs, frzA, e1]
      ·refine TabC.snoc (c := []) (T := []) ⟨rfl, fun i v l h => by simp at h⟩ (.inr ⟨fun (h : tR z 0 n = []) => by have := tR_len z 0 n; rw [h] at this; simp at this; omega, b', o', 0, by rw [tR_len], fun j x hx => hrow j _ ?_⟩)
       unfold boL
       rw [List.getElem?_map, hx]; rfl
   ·obtain ⟨rfl, hle3, c, rfl, rfl, hT, hcn⟩ := hq
    refine ReachG.segR (SC_ok r3) TOk.nil (tm := .nil) (L := 1) (L' := 1) (d := 1) (n0 := 0) hF hro h0' [] (on := ⟨lvYg, [.g], fun vs ms os => vs = vYg b off n cap (gwT 0 1) 1 ∧ ms = [] ∧ os = [oTb c 0]⟩) (ox := fun _ => Outs.no) (orr := Outs.no) (fun p hp => nomatch hp) ?_ ?_ (fun _ _ _ _ h => h.elim) (fun _ _ _ h => h.elim)
    ·have hn' := ygF r3 b off n cap 1 c 0
     simp only [hcn, Bool.and_true, cond_true, Int.ofNat_eq_natCast] at hn'
     rw [w1k 0 (by omega)] at hn'
     exact (hn' _ _ _ _).trans (qq_ok ⟨rfl, rfl, rfl⟩)
    ·rintro vs ms os ⟨rfl, rfl, rfl⟩
     exact IsG.here ⟨n - 1, by omega, 1, h1, rfl, rfl, hle3, gwT 0 1, rfl, .inr ⟨Nat.le_refl _, c, rfl, rfl, hT, hcn⟩⟩
  ·by_cases ci : i < n
   ·refine ReachG.seqC (o1 := ⟨lvYg, fun r2 vs ms os => r2 = r1 ∧ vs = vYg b off n cap (gwT 0 i) i ∧ ms = [] ∧ os = [oTb c0 0]⟩) (ReachG.segR (SC_ok r1) TOk.nil (tm := .nil) (L := 1) (L' := 1) (d := 1) (n0 := 0) hF hro h0' [(0, ⟨[3], [.g], fun _ _ _ => False⟩)] (on := ⟨lvYg, [.g], fun vs ms os => vs = vYg b off n cap (gwT 0 i) i ∧ ms = [] ∧ os = [oTb c0 0]⟩) (ox := fun j => if j = 0 then ⟨[3], [.g], fun _ _ _ => False⟩ else Outs.no) (orr := Outs.no) (fun p hp => by simp only [List.mem_cons, List.not_mem_nil, or_false] at hp; subst hp; rfl) ?_ (fun vs ms os h => IsG.here ⟨rfl, h⟩) (fun id vs ms os h => ?_) (fun _ _ _ h => h.elim)) fun r2 vs ms os hq => ?_
    ·have hn' := ygBo r1 b off n cap i c0 i
     simp only [Int.ofNat_eq_natCast, dT (show (i : Int) < (n : Int) by omega), hcn, Bool.and_true, cond_true] at hn'
     exact (hn' _ _ _ _).trans (qq_ok ⟨rfl, rfl, rfl⟩)
    ·by_cases e : id = 0
     ·subst e; exact h.elim
     ·simp only [if_neg e] at h; exact h.elim
    obtain ⟨rfl, rfl, rfl, rfl⟩ := hq
    refine ReachG.seqC (o1 := ⟨lvYg, fun r3 vs ms os => ms = [] ∧ Mem.le r r3 ∧ ∃ c, vs = vYg b off n cap (gwT 0 (i + 1)) i ∧ os = [oTb c 0] ∧ TabC r3 c (tP z n (i + 1)) ∧ m_nns c = true⟩) (ReachG.blockC ?_) fun r3 vs ms os hq => ?_
    ·refine ReachG.after3 (SC_ok r2) TOk.nil (tm := .nil) (L := 1) (L' := 1) (d := 1) hF hro h0' (.step .base) (orr := Outs.no)
      (o1 := ⟨lvYh, [.g], fun vs ms os => vs = vYh b off n cap (gwT 0 i) i nilT 0 ∧ ms = [] ∧ os = [oTb c0 0]⟩)
      (g2 := ⟨lvYk, fun r3 vs ms os => r3 = r2 ∧ vs = vYk b off n cap (gwT 0 i) i (gwT 1 n) ∧ ms = [] ∧ os = [oTb c0 0, oBo (boL (tR z i n)) 1]⟩) (fun _ _ _ h => h.elim) ?_ ?_ ?_
     ·rintro vs ms os ⟨rfl, rfl, rfl⟩
      exact ReachG.lift (yg_o hz1 h1 hn hcn ci hF hro h0' (ox := fun _ => Outs.no) (orr := Outs.no)) (fun vs ms os h => IsG.here ⟨rfl, h⟩) (fun _ _ _ _ h => h.elim) (fun _ _ _ h => h.elim)
     ·rintro r3 vs ms os ⟨rfl, rfl, rfl, rfl⟩
      refine ReachG.segR (SC_ok r3) TOk.nil (tm := .nil) (L := 1) (L' := 1) (d := 1) (n0 := 0) hF hro h0' [] (on := ⟨lvYg, [.q [1], .g], fun vs ms os => vs = vYg b off n cap (gwT 0 (i + 1)) i ∧ ms = [] ∧ os = [oTb (c0 ++ [gwT 1 n]) 0, oBo (boL (tR z i n)) 1]⟩) (ox := fun _ => Outs.no) (orr := Outs.no) (fun p hp => nomatch hp) ?_ ?_ (fun _ _ _ _ h => h.elim) (fun _ _ _ h => h.elim)
      ·have hn' := ygEo r3 b off n cap i c0 (boL (tR z i n)) i n
       have m1 : Nat.ble (Nat.add i 1) 1000000 = true := Nat.ble_eq_true_of_le (by simp only [Nat.add_eq]; omega)
       have tk : takeAt c0 0 (Nat.mul i 1) = some c0 := takeL_row _ _ (by rw [hT.1, tP_len]; simp)
       have s2 : m_mvq [3, 1] (c0 ++ [.slice (some ⟨1, 0, none⟩) n unk]) = c0 ++ [.slice (some ⟨1, 0, none⟩) n unk] := by rw [mvq_app, mvq_nn hcn]; rfl
       have s3 : m_nopo (c0 ++ [.slice (some ⟨1, 0, none⟩) n unk]) = true := by rw [nopo_app, nopo_nn hcn]; rfl
       simp only [m1, tk, s2, s3, boL_nn, Bool.and_true, cond_true] at hn'
       exact (hn' _ _ _ _).trans (qq_ok ⟨rfl, rfl, rfl⟩)
      ·rintro vs ms os ⟨rfl, rfl, rfl⟩
       refine IsG.freeze (os0 := [oTb (c0 ++ [gwT 1 n]) 0]) (j := 1) h0' rfl (Nat.zero_le _) rfl (boL_nn _) fun b' o' r4 hle2 hrow => ?_
       refine ⟨vYg b off n cap (gwT 0 (i + 1)) i, [oTb (c0 ++ [RS b' o' n 0]) 0], rfl, ?_, rfl, Mem.le_trans hle hle2, c0 ++ [RS b' o' n 0], rfl, rfl, ?_, ?_⟩
       ·have e1 := frzVs_app 1 b' o' c0 [gwT 1 n] c0 [RS b' o' n 0] (frzVs_nn 1 b' o' c0 hcn) (frzVs_one _ _ _ _ _ (by
         show (match (Nat.beq n 0 && Nat.beq unk unkE) with | true => _ | false => _) = _
         rw [show Nat.beq unk unkE = false by decide, Bool.and_false]
         rfl))
        unfold oTb
        simp only [frzAs, frzA, e1]
       ·rw [tP_succ]
        refine (hT.mono hle2).snoc (.inr ⟨fun h => by have := tR_len z i n; rw [h] at this; simp at this; omega, b', o', 0, by rw [tR_len], fun j x hx => hrow j _ ?_⟩)
        unfold boL
        rw [List.getElem?_map, hx]; rfl
       ·rw [nns_app, hcn]; rfl
     ·have hn' := ygCo r2 b off n cap i c0 i
      simp only [hcn, Bool.and_true, cond_true] at hn'
      exact (hn' _ _ _ _).trans (qq_ok ⟨rfl, rfl, rfl⟩)
    ·obtain ⟨rfl, hle3, c, rfl, rfl, hT, hcn⟩ := hq
     refine ReachG.segR (SC_ok r3) TOk.nil (tm := .nil) (L := 1) (L' := 1) (d := 1) (n0 := 0) hF hro h0' [] (on := ⟨lvYg, [.g], fun vs ms os => vs = vYg b off n cap (gwT 0 (i + 1)) (i + 1) ∧ ms = [] ∧ os = [oTb c 0]⟩) (ox := fun _ => Outs.no) (orr := Outs.no) (fun p hp => nomatch hp) ?_ ?_ (fun _ _ _ _ h => h.elim) (fun _ _ _ h => h.elim)
     ·have hn' := ygF r3 b off n cap (i + 1) c i
      simp only [hcn, Bool.and_true, cond_true, Int.ofNat_eq_natCast] at hn'
      rw [w1k i (by omega)] at hn'
      exact (hn' _ _ _ _).trans (qq_ok ⟨rfl, rfl, rfl⟩)
     ·rintro vs ms os ⟨rfl, rfl, rfl⟩
      exact IsG.here ⟨n - (i + 1), by omega, i + 1, ci, rfl, rfl, hle3, gwT 0 (i + 1), rfl, .inr ⟨by omega, c, rfl, rfl, hT, hcn⟩⟩
   ·obtain rfl : i = n := by omega
    refine ReachG.seqC (o1 := ⟨lvYg, fun _ _ _ _ => False⟩) (ReachG.segR (SC_ok r1) TOk.nil (tm := .nil) (L := 1) (L' := 1) (d := 1) (n0 := 0) hF hro h0' [(0, ⟨[3], [.g], fun vs ms os => vs = [some (gwT 0 i)] ∧ ms = [] ∧ os = [oTb c0 0]⟩)] (on := ⟨lvYg, [.g], fun _ _ _ => False⟩) (ox := fun j => if j = 0 then ⟨[3], [.g], fun vs ms os => vs = [some (gwT 0 i)] ∧ ms = [] ∧ os = [oTb c0 0]⟩ else Outs.no) (orr := Outs.no) (fun p hp => by simp only [List.mem_cons, List.not_mem_nil, or_false] at hp; subst hp; rfl) ?_ (fun vs ms os h => h.elim) (fun id vs ms os h => ?_) (fun _ _ _ h => h.elim)) fun r2 vs ms os hq => hq.elim
    ·have hn' := ygBo r1 b off i cap i c0 i
     simp only [Int.ofNat_eq_natCast, dF (show ¬ (i : Int) < (i : Int) by omega), hcn, Bool.and_true, cond_true, cond_false] at hn'
     exact (hn' _ _ _ _).trans (qq_ok ⟨rfl, rfl, rfl⟩)
    ·by_cases e : id = 0
     ·subst e
      obtain ⟨rfl, rfl, rfl⟩ := h
      exact IsG.here ⟨rfl, hle, c0, rfl, rfl, hT, hcn⟩
     ·simp only [if_neg e] at h; exact h.elim
 ·rintro r1 vs ms os ⟨rfl, hle, c, rfl, rfl, hT, hcn⟩
  refine ReachG.segR (SC_ok r1) TOk.nil (tm := .nil) (L := 1) (L' := 1) (d := 1) (n0 := 0) hF hro h0' [] (on := ⟨[2], [.g], fun _ _ _ => False⟩) (ox := fun _ => Outs.no) (orr := ⟨[2], [.g], fun vs ms os => ms = [] ∧ vs = [some (gwT 0 n)] ∧ os = [oTb c 0]⟩) (fun p hp => nomatch hp) ?_ (fun _ _ _ h => h.elim) (fun _ _ _ _ h => h.elim) ?_
  ·have hn' := ygG r1 n c
   simp only [hcn, Bool.and_true, cond_true] at hn'
   exact (hn' _ _ _ _).trans (qq_ok ⟨rfl, rfl, rfl⟩)
  ·rintro vs ms os ⟨rfl, rfl, rfl⟩
   exact IsG.here ⟨rfl, hle, c, rfl, rfl, hT, hcn⟩
 ·exact (ygA r b off n cap _ _ _ _).trans (qq_ok ⟨rfl, rfl, rfl⟩)
end

end Go.Proofs

/- An order as a table, run. -/
namespace Go.Proofs
open Go Go.Ev Go.Num
set_option linter.unusedVariables false
set_option linter.unusedSimpArgs false
set_option maxRecDepth 100000

def rgX : Code → Code
 | .rangeFunc _ _ a _ => a
 | c => c
def rgY : Code → Code
 | .rangeFunc _ _ _ b => b
 | c => c
noncomputable def cYb : Code := bodyOf S0 21
noncomputable def Yb_0 : Code := (lc cYb)
noncomputable def Yb_1 : Code := (lc (rc cYb))
noncomputable def Yb_2 : Code := (lc (lc (rc (rc cYb))))
noncomputable def Yb_3 : Code := (lc (ic (ic (rc (lc (rc (rc cYb)))))))
noncomputable def Yb_4 : Code := (lc (rc (ic (ic (rc (lc (rc (rc cYb))))))))
noncomputable def Yb_5 : Code := (lc (ic (lc (rc (rc (ic (ic (rc (lc (rc (rc cYb)))))))))))
noncomputable def Yb_6 : Code := (lc (rc (ic (lc (rc (rc (ic (ic (rc (lc (rc (rc cYb))))))))))))
noncomputable def Yb_7 : Code := (lc (rc (rc (ic (lc (rc (rc (ic (ic (rc (lc (rc (rc cYb)))))))))))))
noncomputable def Yb_8 : Code := (ic (rc (rc (rc (ic (lc (rc (rc (ic (ic (rc (lc (rc (rc cYb))))))))))))))
noncomputable def Yb_9 : Code := (rc (rc (rc (ic (ic (rc (lc (rc (rc cYb)))))))))
noncomputable def Yb_10 : Code := (rc (rc (rc cYb)))
noncomputable def k_b1 : Code := rgX Yb_8
noncomputable def k_b2 : Code := rgY Yb_8
noncomputable def Yb_b : Code := ic k_b2
theorem Yb_eq : cYb = (.seq Yb_0 (.seq Yb_1 (.seq (.seq Yb_2 (.block 0 (.loop (.seq Yb_3 (.seq Yb_4 (.seq (.block 1 (.seq Yb_5 (.seq Yb_6 (.seq Yb_7 (.block 2 (.rangeFunc (.tmp 24) #[25] k_b1 k_b2)))))) Yb_9)))))) Yb_10))) := by kernel_rfl
theorem Ybb_eq : k_b2 = .block 3 Yb_b := by kernel_rfl
abbrev fE3 (p : Nat) : Value := .func (.func 55) ⟨[]⟩ ⟨[.pointer (some ⟨p, 0, none⟩)]⟩
def oPb (v : Value) (i : Nat) : Option AObj := some (.cells [v] 24 i 0)
def oSt (w : Nat) (i : Nat) : Option AObj := some (.cells [V ((w : Nat) : Int)] 53 i 0)
def oNt (k : Nat) (i : Nat) : Option AObj := some (.cells [I ((k : Nat) : Int)] 3 i 0)
def shB (j : Nat) : Nat := 64 * 4 + j + 4
def lvYb : List Nat := [1, 3, 10, 11]
def vYb (n x : Nat) : OV := [some (pq 0), some (pq 1), some (I (n : Nat)), some (I (x : Nat))]
def oYb (oc c : List Value) (n : Nat) : OO := [oOr oc 0, oPb (ow 2 n) 1, oTb c 2]
def lvYbq : List Nat := [1, 3, 4, 10, 11, 24]
def vYbq (n x : Nat) : OV := [some (pq 0), some (pq 1), some (pq 2), some (I (n : Nat)), some (I (x : Nat)), some (fE3 3)]
noncomputable def lpYb (n x : Nat) (st : LoopState) (pd : Option Code) : AObj := .loop st pd 50334783 ⟨[], bT lvYbq (vYbq n x) .nil⟩ 34 #[25] k_b1 k_b2 6
def oYc (oc c : List Value) (n x s : Nat) (d : List Value) : OO := [oOr oc 0, oPb (ow 4 n) 1, oNt x 2, oSt s 3, oTb (c.set x (ow 5 n)) 4, oBo d 5]
noncomputable def oYd (oc c : List Value) (n x s : Nat) (d : List Value) (st : LoopState) (pd : Option Code) : OO := oYc oc c n x s d ++ [some .defd, some (lpYb n x st pd)]
def flYc : List Fl := [.g, .t, .t, .t, .q [4], .g]
def flYd : List Fl := [.g, .t, .t, .t, .q [5], .g, .t, .l lvYbq]

theorem ybA (r : Mem) (n : Nat) (w a : Nat → Nat) (fs : FnsC) (K : OV → List Nat → OO → CR) (kx : Nat → KS) (kr : KS) : run (SC r) 50334783 34 1 (.seq Yb_0 (.seq Yb_1 Yb_2)) fs none (rbK 0 lvYb [.g, .t, .g] K) kx kr (sc0 50334783 [.agg ⟨orC n w a⟩]) (tr0 50334783 [.agg ⟨orC n w a⟩]) [] emptyA =
    bif Nat.ble (Int.toNat (Int.ofNat n)) (Int.toNat (Int.ofNat n)) then bif Nat.ble (Int.toNat (Int.ofNat n)) 1000000 then bif m_nns (orC n w a) && (true && (m_nns (zerosL (Nat.mul (Int.toNat (Int.ofNat n)) 1) [.slice none 0 0]) && true)) then K [some (.pointer (some ⟨0, 0, none⟩)), some (.pointer (some ⟨1, 0, none⟩)), some (I (Int.ofNat n)), some (I (Int.ofNat 0))] [] [some (.cells (orC n w a) 56 0 0), some (.cells [.slice (some ⟨2, 0, none⟩) (Int.toNat (Int.ofNat n)) (Int.toNat (Int.ofNat n))] 24 1 0), some (.cells (zerosL (Nat.mul (Int.toNat (Int.ofNat n)) 1) [.slice none 0 0]) 64 2 1)] else .fail 420 else .fail 420 else .fail 420 := by kernel_rfl

theorem ybB (r : Mem) (n x : Nat) (oc c : List Value) (fs : FnsC) (K : OV → List Nat → OO → CR) (KX : Nat → OV → List Nat → OO → CR) (kr : KS) : run (SC r) 50334783 34 1 (.seq Yb_3 Yb_4) fs none (rbK 0 lvYb [.g, .t, .g] K) (fun j => rbK 0 [3] [.t, .g] (KX j)) kr [] (bT lvYb (vYb n x) .nil) [] (mkA (oYb oc c n)) =
    bif decide (Int.ofNat x < Int.ofNat n) then bif m_nns oc && (true && (m_nns c && true)) then K [some (.pointer (some ⟨0, 0, none⟩)), some (.pointer (some ⟨1, 0, none⟩)), some (I (Int.ofNat n)), some (I (Int.ofNat x))] [] [some (.cells oc 56 0 0), some (.cells [.slice (some ⟨2, 0, none⟩) n n] 24 1 0), some (.cells c 64 2 1)] else .fail 420 else bif true && (m_nns c && true) then KX 0 [some (.pointer (some ⟨0, 0, none⟩))] [] [some (.cells [.slice (some ⟨1, 0, none⟩) n n] 24 0 0), some (.cells c 64 1 1)] else .fail 420 := by kernel_rfl

theorem ybC (r : Mem) (n x : Nat) (oc c : List Value) (K : OV → List Nat → OO → CR) (kx : Nat → KS) (kr : KS) : run (SC r) 50334783 34 1 (.seq Yb_5 (.seq Yb_6 Yb_7)) (lvlT (SC r) (fun _ => none) .nil 1 3) none (rbK 0 lvYbq flYc K) kx kr [] (bT lvYb (vYb n x) .nil) [] (mkA (oYb oc c n)) =
    Option.casesOn oc[0]? (.fail 423) fun val => bif isI IntKind.i64 val then bif decide (0 ≤ ofI val) then bif decide (0 ≤ ofI val) then bif Nat.ble (Int.toNat (ofI val)) (Int.toNat (ofI val)) then bif Nat.ble (Int.toNat (ofI val)) 1000000 then bif Nat.blt (Int.toNat (Int.ofNat x)) n then bif Nat.blt (Nat.add 0 (Nat.mul (Int.toNat (Int.ofNat x)) 1)) (List.length c) then Option.casesOn oc[0]? (.fail 423) fun val_1 => bif isI IntKind.i64 val_1 then bif m_eqv (I (ofI val_1)) (I (ofI val)) then bif m_eqv (I (Int.ofNat x)) (I (Int.ofNat x)) then bif m_eqv (I (Int.ofNat x)) (I (Int.ofNat x)) then bif m_eqv (.slice (some ⟨2, 0, none⟩) n n) (.slice (some ⟨2, 0, none⟩) n n) then bif m_eqv (.slice (some ⟨2, 0, none⟩) n n) (.slice (some ⟨2, 0, none⟩) n n) then bif Nat.blt (Int.toNat (Int.ofNat x)) 12 then Option.casesOn oc[Nat.add 13 (Nat.mul (Int.toNat (Int.ofNat x)) 1)]? (.fail 423) fun val_2 => bif isI IntKind.u16 val_2 then bif m_nns oc && (true && (true && (true && (m_nopo (m_mvq [0, 1, 3, 5, 2, 4] (List.set c (Nat.add 0 (Nat.mul (Int.toNat (Int.ofNat x)) 1)) (.slice (some ⟨4, 0, none⟩) (Int.toNat (ofI val)) (Int.toNat (ofI val))))) && (m_nns (zerosL (Nat.mul (Int.toNat (ofI val)) 1) [.bool false]) && true))))) then K [some (.pointer (some ⟨0, 0, none⟩)), some (.pointer (some ⟨1, 0, none⟩)), some (.pointer (some ⟨2, 0, none⟩)), some (I (Int.ofNat n)), some (I (Int.ofNat x)), some (.func (Fn.func 55) ⟨[]⟩ ⟨[.pointer (some ⟨3, 0, none⟩)]⟩)] [] [some (.cells oc 56 0 0), some (.cells [.slice (some ⟨4, 0, none⟩) n n] 24 1 0), some (.cells [I (Int.ofNat x)] 3 2 0), some (.cells [.int .u16 (ofI val_2)] 53 3 0), some (.cells (m_mvq [0, 1, 3, 5, 2, 4] (List.set c (Nat.add 0 (Nat.mul (Int.toNat (Int.ofNat x)) 1)) (.slice (some ⟨4, 0, none⟩) (Int.toNat (ofI val)) (Int.toNat (ofI val))))) 64 4 1), some (.cells (zerosL (Nat.mul (Int.toNat (ofI val)) 1) [.bool false]) 4 5 1)] else .fail 420 else .fail 420 else .fail 420 else .fail 420 else .fail 420 else .fail 420 else .fail 420 else .fail 420 else .fail 420 else .fail 420 else .fail 420 else .fail 420 else .fail 420 else .fail 420 else .fail 420 else .fail 420 := by kernel_rfl

theorem ybD (r : Mem) (n x s : Nat) (oc c d : List Value) (v : Nat) (fs : FnsC) (K : OV → List Nat → OO → CR) (kx : Nat → KS) (kr : KS) : run (SC r) 50334783 34 1 k_b1 fs (some 7) (begK 7 (rbK 8 [3, 4, 5] flYd K)) kx kr [] (bT (lvYbq ++ [25]) (vYbq n x ++ [some (I (v : Nat))]) .nil) [] (mkA (oYd oc c n x s d .ready none)) =
    bif m_nns oc && (true && (true && (true && (m_nopo (m_mvq [0, 1, 2, 3, 4, 5, 6, 7] (List.set c x (.slice (some ⟨5, 0, none⟩) n n))) && (m_nns d && (true && (true && true))))))) then K [some (.pointer (some ⟨1, 0, none⟩)), some (.pointer (some ⟨2, 0, none⟩)), some (I (Int.ofNat v))] [] [some (.cells oc 56 0 0), some (.cells [.slice (some ⟨4, 0, none⟩) n n] 24 1 0), some (.cells [I (Int.ofNat x)] 3 2 0), some (.cells [.int .u16 (Int.ofNat s)] 53 3 0), some (.cells (m_mvq [0, 1, 2, 3, 4, 5, 6, 7] (List.set c x (.slice (some ⟨5, 0, none⟩) n n))) 64 4 1), some (.cells d 4 5 1), some .defd, some ((lpYb n x LoopState.busy none))] else .fail 420 := by kernel_rfl

theorem ybE (r : Mem) (n x s : Nat) (oc c d : List Value) (v : Nat) (fs : FnsC) (K : OV → List Nat → OO → CR) (kx : Nat → KS) (kr : KS) : run (SS r (shB 5)) 50334783 34 1 Yb_b fs (some 7) (rbK 8 [] flYd K) kx kr [] (bT [3, 4, 5] [some (pq 1), some (pq 2), some (I (v : Nat))] .nil) [] (mkA (oYd oc c n x s d .busy none)) =
    bif Nat.blt (Int.toNat (Int.ofNat x)) n then Option.casesOn (List.set c x (.slice (some ⟨5, 0, none⟩) n n))[Nat.add 0 (Nat.mul (Int.toNat (Int.ofNat x)) 1)]? (.fail 423) fun val => bif isOwnJ 5 val then bif Nat.blt (Int.toNat (Int.ofNat v)) (lnOf val) then bif Nat.blt (Nat.add 0 (Nat.mul (Int.toNat (Int.ofNat v)) 1)) (List.length d) then bif m_nns oc && (true && (true && (true && (m_nopo (m_mvq [0, 1, 2, 3, 4, 5, 6, 7] (List.set c x (.slice (some ⟨5, 0, none⟩) n n))) && (m_nns (List.set d (Nat.add 0 (Nat.mul (Int.toNat (Int.ofNat v)) 1)) (.bool true)) && (true && (true && true))))))) then K [] [] [some (.cells oc 56 0 0), some (.cells [.slice (some ⟨4, 0, none⟩) n n] 24 1 0), some (.cells [I (Int.ofNat x)] 3 2 0), some (.cells [.int .u16 (Int.ofNat s)] 53 3 0), some (.cells (m_mvq [0, 1, 2, 3, 4, 5, 6, 7] (List.set c x (.slice (some ⟨5, 0, none⟩) n n))) 64 4 1), some (.cells (List.set d (Nat.add 0 (Nat.mul (Int.toNat (Int.ofNat v)) 1)) (.bool true)) 4 5 1), some .defd, some ((lpYb n x LoopState.busy none))] else .fail 420 else .fail 420 else .fail 420 else .fail 420 else .fail 420 := by kernel_rfl

theorem ybT (r : Mem) (n x s : Nat) (oc c d : List Value) (K : OV → List Nat → OO → CR) (kx : Nat → KS) (kr : KS) : tailRK 7 ⟨[], bT lvYbq (vYbq n x) .nil⟩ [6] (rbK 0 lvYb [.g, .t, .q [5], .g] K) kx kr (mkA (oYd oc c n x s d .ready none)) =
    bif m_nns oc && (true && (m_nopo (m_mvq [0, 1, 4, 5] (List.set c x (.slice (some ⟨5, 0, none⟩) n n))) && (m_nns d && true))) then K [some (.pointer (some ⟨0, 0, none⟩)), some (.pointer (some ⟨1, 0, none⟩)), some (I (Int.ofNat n)), some (I (Int.ofNat x))] [] [some (.cells oc 56 0 0), some (.cells [.slice (some ⟨2, 0, none⟩) n n] 24 1 0), some (.cells (m_mvq [0, 1, 4, 5] (List.set c x (.slice (some ⟨5, 0, none⟩) n n))) 64 2 1), some (.cells d 4 3 1)] else .fail 420 := by kernel_rfl

theorem ybG (r : Mem) (n x : Nat) (oc c : List Value) (d : List Value) (fs : FnsC) (K : OV → List Nat → OO → CR) (kx : Nat → KS) (kr : KS) : run (SC r) 50334783 34 1 Yb_9 fs none (rbK 0 lvYb [.g, .t, .q [3], .g] K) kx kr [] (bT lvYb (vYb n x) .nil) [] (mkA (oYb oc (c.set x (ow 3 n)) n ++ [oBo d 3])) =
    bif m_nns oc && (true && (m_nopo (m_mvq [0, 1, 2, 3] (List.set c x (.slice (some ⟨3, 0, none⟩) n n))) && (m_nns d && true))) then K [some (.pointer (some ⟨0, 0, none⟩)), some (.pointer (some ⟨1, 0, none⟩)), some (I (Int.ofNat n)), some (I (IntKind.wrap .i64 (Int.ofNat x + Int.ofNat 1)))] [] [some (.cells oc 56 0 0), some (.cells [.slice (some ⟨2, 0, none⟩) n n] 24 1 0), some (.cells (m_mvq [0, 1, 2, 3] (List.set c x (.slice (some ⟨3, 0, none⟩) n n))) 64 2 1), some (.cells d 4 3 1)] else .fail 420 := by kernel_rfl

theorem ybH (r : Mem) (n : Nat) (c : List Value) (fs : FnsC) (K : OV → List Nat → OO → CR) (KR : OV → List Nat → OO → CR) (kx : Nat → KS) : run (SC r) 50334783 34 1 Yb_10 fs none (rbK 0 [2] [.g] K) kx (rbK 0 [2] [.g] KR) [] (bT [3] [some (pq 0)] .nil) [] (mkA [oPb (ow 1 n) 0, oTb c 1]) =
    bif m_nns c && true then KR [some (.slice (some ⟨0, 0, none⟩) n n)] [] [some (.cells c 64 0 1)] else .fail 420 := by kernel_rfl

end Go.Proofs

/- An order as a table: what the call answers. -/
namespace Go.Proofs
open Go Go.Ev Go.Num
set_option linter.unusedVariables false
set_option linter.unusedSimpArgs false
set_option maxRecDepth 100000

theorem mvq_set {ns : List Nat} {c : List Value} (hc : m_nns c = true) (x : Nat) (v : Value) : m_mvq ns (c.set x v) = c.set x (mvq1 ns v) := by
 have h := mvq_nn (ns := ns) hc
 unfold m_mvq at h ⊢
 rw [List.map_set, h]
theorem nopo_set {c : List Value} (hc : m_nns c = true) (x : Nat) {v : Value} (hv : nopo v = true) : m_nopo (c.set x v) = true := by
 have h := nopo_nn hc
 unfold m_nopo at h ⊢
 rw [List.all_eq_true] at h ⊢
 intro u hu
 rcases List.mem_or_eq_of_mem_set hu with h1 | rfl
 ·exact h u h1
 ·exact hv
theorem nns_set : ∀ {c : List Value} (x : Nat) {v : Value}, m_nns c = true → nn v = true → m_nns (c.set x v) = true
 | [], x, v, _, _ => rfl
 | u :: c, 0, v, h, hv => by
  have h' : (nn u && nns c) = true := h
  simp only [Bool.and_eq_true] at h'
  show (nn v && nns c) = true
  rw [hv, h'.2]; rfl
 | u :: c, x + 1, v, h, hv => by
  have h' : (nn u && nns c) = true := h
  simp only [Bool.and_eq_true] at h'
  have ih := nns_set x h'.2 hv
  show (nn u && nns (c.set x v)) = true
  unfold m_nns at ih
  rw [h'.1, ih]; rfl
theorem frzVs_set {j b o : Nat} {v u : Value} (hv : frzV j b o v = some u) : ∀ {c : List Value} (x : Nat), m_nns c = true → frzVs j b o (c.set x v) = some (c.set x u)
 | [], x, _ => rfl
 | w :: c, 0, h => by
  have h' : (nn w && nns c) = true := h
  simp only [Bool.and_eq_true] at h'
  simp only [List.set_cons_zero, frzVs, hv, frzVs_nn j b o c h'.2]
 | w :: c, x + 1, h => by
  have h' : (nn w && nns c) = true := h
  simp only [Bool.and_eq_true] at h'
  simp only [List.set_cons_succ, frzVs, frzV_nn j b o w h'.1, frzVs_set hv x h'.2]
theorem zer_b (n : Nat) : zerosL (Nat.mul n 1) [.bool false] = List.replicate n (Value.bool false) := by
 show List.replicate (Nat.mul n 1) (Value.bool false) = _
 rw [Nat.mul_eq, Nat.mul_one]
theorem zer_n (n : Nat) : zerosL (Nat.mul n 1) [.slice none 0 0] = List.replicate n nilT := by
 show List.replicate (Nat.mul n 1) nilT = _
 rw [Nat.mul_eq, Nat.mul_one]
theorem nns_rep (v : Value) (hv : nn v = true) : ∀ n, m_nns (List.replicate n v) = true
 | 0 => rfl
 | n + 1 => by
  have ih := nns_rep v hv n
  show (nn v && nns (List.replicate n v)) = true
  unfold m_nns at ih
  rw [hv, ih]; rfl
def bR (s v n : Nat) : List Bool := (List.range n).map fun y => decide (y < v) && s.testBit y
theorem bR_len (s v n : Nat) : (bR s v n).length = n := by simp [bR]
theorem bR_get {s v n y : Nat} (h : y < n) : (bR s v n)[y]? = some (decide (y < v) && s.testBit y) := by
 unfold bR
 rw [List.getElem?_map, List.getElem?_range h]
 rfl
theorem bR_zero (s n : Nat) : List.replicate n (Value.bool false) = boL (bR s 0 n) := by
 apply List.ext_getElem?
 intro y
 unfold boL
 by_cases c : y < n
 ·rw [List.getElem?_replicate, if_pos c, List.getElem?_map, bR_get c]
  rfl
 ·rw [List.getElem?_eq_none (by rw [List.length_replicate]; omega), List.getElem?_eq_none (by rw [List.length_map, bR_len]; omega)]
theorem bR_set {s v n : Nat} (hv : v < n) (hb : s.testBit v = true) : (boL (bR s v n)).set v (.bool true) = boL (bR s (v + 1) n) := by
 unfold boL
 apply List.ext_getElem?
 intro y
 rw [List.getElem?_set]
 by_cases c : y < n
 ·rw [List.getElem?_map, List.getElem?_map, bR_get c, bR_get c]
  by_cases e : v = y
  ·subst e
   rw [if_pos rfl, if_pos (by rw [List.length_map, bR_len]; exact c)]
   simp [hb]
  ·rw [if_neg e]
   by_cases d : y < v
   ·simp [d, show y < v + 1 by omega]
   ·simp [d, show ¬ y < v + 1 by omega]
 ·rw [List.getElem?_eq_none (by rw [List.length_map, bR_len]; omega), List.getElem?_eq_none (by rw [List.length_map, bR_len]; omega)]
  by_cases e : v = y
  ·omega
  ·rw [if_neg e]
theorem bR_skip {s v n : Nat} (hb : s.testBit v = false) : bR s v n = bR s (v + 1) n := by
 unfold bR
 refine List.map_congr_left fun y _ => ?_
 by_cases e : y = v
 ·subst e; simp [hb]
 ·by_cases d : y < v
  ·simp [d, show y < v + 1 by omega]
  ·simp [d, show ¬ y < v + 1 by omega]
theorem bR_row {T : List (List Bool)} {n x s : Nat} (hn : n ≤ 16) (hrl : (T.getD x []).length = n) (hT : ∀ y, y < n → gT T x y = s.testBit y) : T.getD x [] = bR s 16 n := by
 apply List.ext_getElem?
 intro y
 by_cases c : y < n
 ·have h := hT y c
  unfold gT at h
  rw [List.getD_eq_getElem?_getD] at h
  rw [bR_get c, decide_eq_true (show y < 16 by omega), Bool.true_and, ← h, List.getElem?_eq_getElem (by omega)]
  rfl
 ·rw [List.getElem?_eq_none (by omega), List.getElem?_eq_none (by rw [bR_len]; omega)]
def TabU (r : Mem) (c : List Value) (T : List (List Bool)) (n x : Nat) : Prop := c.length = n ∧ m_nns c = true ∧ ∀ i v l, i < x → c[i]? = some v → T[i]? = some l → RowV r v l
theorem TabU.set {r r1 : Mem} {c : List Value} {T : List (List Bool)} {n x : Nat} (h : TabU r c T n x) (hle : Mem.le r r1) {v : Value} (hv : nn v = true) (hr : ∀ l, T[x]? = some l → RowV r1 v l) : TabU r1 (c.set x v) T n (x + 1) := by
 refine ⟨by rw [List.length_set]; exact h.1, nns_set x h.2.1 hv, fun i u l hi h1 h2 => ?_⟩
 rw [List.getElem?_set] at h1
 by_cases e : x = i
 ·subst e
  rw [if_pos rfl] at h1
  split at h1
  ·cases h1; exact hr l h2
  ·cases h1
 ·rw [if_neg e] at h1
  exact (h.2.2 i u l (by omega) h1 h2).mono hle
section
variable {r : Mem} {n x s : Nat} {oc c : List Value}
theorem ybQ (hc : m_nns c = true) (n x : Nat) : m_mvq [0, 1, 2, 3, 4, 5, 6, 7] (c.set x (.slice (some ⟨5, 0, none⟩) n n)) = c.set x (.slice (some ⟨5, 0, none⟩) n n) := by
 rw [mvq_set hc]; rfl
theorem ybN (hc : m_nns c = true) (j n x : Nat) : m_nopo (c.set x (.slice (some ⟨j, 0, none⟩) n n)) = true := nopo_set hc x rfl
theorem gdYb (hoc : m_nns oc = true) (hc : m_nns c = true) (n x s : Nat) {d : List Value} (hd : m_nns d = true) : gdAs flYd (oYd oc c n x s d .ready none) = true := by
 have h : gdAs flYd (oYd oc c n x s d .ready none) = (m_nns oc && (true && (true && (true && (m_nopo (c.set x (.slice (some ⟨5, 0, none⟩) n n)) && (m_nns d && (true && (true && true)))))))) := by kernel_rfl
 simp only [h, hoc, ybN hc, hd, Bool.and_self]
theorem cnYb (hoc : m_nns oc = true) (hc : m_nns c = true) (n x s : Nat) {d : List Value} (hd : m_nns d = true) : Cn 8 flYd (mkA (oYd oc c n x s d .ready none)) (oYd oc c n x s d .ready none) := by
 refine ⟨?_, gdYb hoc hc n x s hd⟩
 have h : rb 8 [] flYd .nil [] (mkA (oYd oc c n x s d .ready none)) = some ([], [], [oOr oc 0, oPb (ow 4 n) 1, oNt x 2, oSt s 3, oTb (m_mvq [0, 1, 2, 3, 4, 5, 6, 7] (c.set x (.slice (some ⟨5, 0, none⟩) n n))) 4, oBo d 5, some .defd, some (lpYb n x .ready none)]) := by kernel_rfl
 rw [h, ybQ hc]
 rfl
theorem endYb (oc c : List Value) (n x s : Nat) (d : List Value) : endR 7 none (St.of [] [] [] (oYd oc c n x s d .busy none)) = .ret (.bool true) (mkA (oYd oc c n x s d .ready none)) := by kernel_rfl
theorem yYb (hoc : m_nns oc = true) (hc : m_nns c = true) (hcl : c.length = n) (hx : x < n) {v : Nat} (hv : v < n) (hb : s.testBit v = true) {P E : OO → Prop} (hP : P (oYd oc c n x s (boL (bR s (v + 1) n)) .ready none)) :
  YOk (SC r) 7 [I (v : Nat)] (mkA (oYd oc c n x s (boL (bR s v n)) .ready none)) fun u A' => ∃ os', Cn 8 flYd A' os' ∧ ((u = .bool true ∧ P os') ∨ (u = .bool false ∧ E os')) := by
 have hnx : (mkA (oYd oc c n x s (boL (bR s v n)) .ready none)).next = 8 := by kernel_rfl
 refine YOk.of (SC_ok r) (i := 7) (st := .ready) (pend := none) (m := 50334783) (n := 34) (en := ⟨[], bT lvYbq (vYbq n x) .nil⟩) (params := #[25]) (assign := k_b1) (body := k_b2) (d := 6) (by kernel_rfl) (s0 := []) (b0 := bT (lvYbq ++ [25]) (vYbq n x ++ [some (I (v : Nat))]) .nil) (by kernel_rfl) TOk.nil (tm := .nil) (L := 1) (L' := 1) (d' := 1)
  ⟨[3, 4, 5], flYd, fun vs ms os => vs = [some (pq 1), some (pq 2), some (I (v : Nat))] ∧ ms = [] ∧ os = oYd oc c n x s (boL (bR s v n)) .busy none⟩
  ⟨[], flYd, fun vs ms os => vs = [] ∧ ms = [] ∧ os = oYd oc c n x s (boL (bR s (v + 1) n)) .busy none⟩
  (fun _ => Outs.no) Outs.no ?_ ?_ ?_ ?_ ?_
 ·rw [hnx]
  have hn' := ybD r n x s oc c (boL (bR s v n)) v
  simp only [ybQ hc, ybN hc, hoc, boL_nn, Bool.and_self, cond_true] at hn'
  exact (hn' _ _ _ _).trans (qq_ok ⟨rfl, rfl, rfl⟩)
 ·rintro F k γ W hF hro h0 vs ms os ⟨rfl, rfl, rfl⟩
  rw [hnx] at h0
  rw [Ybb_eq]
  refine Go.Ev.Reach.blockC (segSh (shB 5) TOk.nil (tm := .nil) (L := 1) (L' := 1) (d := 1) hF hro h0 [] (fun p hp => nomatch hp) ?_)
  have hn' := ybE r n x s oc c (boL (bR s v n)) v
  have b1 : Nat.blt x n = true := Nat.ble_eq_true_of_le (by omega)
  have b2 : Nat.blt v n = true := Nat.ble_eq_true_of_le (by omega)
  have b3 : Nat.blt v (boL (bR s v n)).length = true := by rw [boL_len, bR_len]; exact b2
  have e0 : ∀ k : Nat, Nat.add 0 (Nat.mul k 1) = k := fun k => by simp
  have g1 : (c.set x (.slice (some ⟨5, 0, none⟩) n n))[x]? = some (.slice (some ⟨5, 0, none⟩) n n) := by rw [List.getElem?_set, if_pos rfl, if_pos (by omega)]
  simp only [show ∀ x : Nat, Int.toNat (Int.ofNat x) = x from fun _ => rfl, b1, e0, g1, show isOwnJ 5 (.slice (some ⟨5, 0, none⟩) n n) = true from rfl, show lnOf (.slice (some ⟨5, 0, none⟩) n n) = n from rfl, b2, b3, bR_set hv hb, ybQ hc, ybN hc, hoc, boL_nn, Bool.and_self, cond_true] at hn'
  exact (hn' _ _ _ _).trans (qq_ok ⟨rfl, rfl, rfl⟩)
 ·rintro vs ms os ⟨rfl, rfl, rfl⟩
  exact ⟨_, _, endYb _ _ _ _ _ _, _, cnYb hoc hc n x s (boL_nn _), .inl ⟨rfl, hP⟩⟩
 ·rintro id vs ms os hf
  exact hf.elim
 ·rintro vs ms os hf
  exact hf.elim
end

end Go.Proofs

/- An order as a table: what the call answers, at last. -/
namespace Go.Proofs
open Go Go.Ev Go.Num
set_option linter.unusedVariables false
set_option linter.unusedSimpArgs false
set_option maxRecDepth 100000

def oYr (oc c : List Value) (n x : Nat) (d : List Value) : OO := oYb oc (c.set x (ow 3 n)) n ++ [oBo d 3]
section
variable {r : Mem} {n : Nat} {w a : Nat → Nat}
theorem yb_rnd (hm : ∀ b j u, tabM b j = some u → r b j = some u) (hn : n ≤ 12) (ha : ∀ x, x < n → a x < 2 ^ n) {c : List Value} (hc : m_nns c = true) (hcl : c.length = n) {x : Nat} (hx : x < n) {F : Fence} {kk : Nat} {γ : Gam} {W : World} (hF : Wide F) (hro : RoRel γ none F.round) (h0' : ∀ i, 0 ≤ i → γ i = none) {ox : Nat → Outs} {orr : Outs} :
  Go.Ev.Reach (SC r) 50334783 34 F kk γ W (.seq (.block 1 (.seq Yb_5 (.seq Yb_6 (.seq Yb_7 (.block 2 (.rangeFunc (.tmp 24) #[25] k_b1 k_b2)))))) Yb_9) (St.of lvYb (vYb n x) [] (oYb (orC n w a) c n)) (CanQ (SC r) 50334783 34 γ W ⟨lvYb, [.g, .t, .q [3], .g], fun vs ms os => vs = vYb n (x + 1) ∧ ms = [] ∧ os = oYr (orC n w a) c n x (boL (bR (a x) 16 n))⟩ ox orr) := by
 have nn := orC_nn n w a
 have hax := ha x hx
 have ha4 := lt12 hn hax
 have b1 : Nat.blt x n = true := Nat.ble_eq_true_of_le (by omega)
 have b2 : Nat.blt x 12 = true := Nat.ble_eq_true_of_le (by omega)
 refine Go.Ev.Reach.seqC (o1 := ⟨lvYb, [.g, .t, .q [5], .g], fun vs ms os => vs = vYb n x ∧ ms = [] ∧ os = oYr (orC n w a) c n x (boL (bR (a x) 16 n))⟩) (Go.Ev.Reach.blockC ?_) fun vs ms os hq => ?_
 ·refine Go.Ev.Reach.afterR (SC_ok r) TOk.nil (tm := .nil) (L := 1) (L' := 1) (d := 3) hF hro h0' (.step (.step .base)) (o1 := ⟨lvYbq, flYc, fun vs ms os => vs = vYbq n x ∧ ms = [] ∧ os = oYc (orC n w a) c n x (a x) (boL (bR (a x) 0 n))⟩) [] (fun p hp => nomatch hp) ?_ ?_
  ·rintro vs ms os ⟨rfl, rfl, rfl⟩
   have hl : ((mkA (oYc (orC n w a) c n x (a x) (boL (bR (a x) 0 n)))).new .defd).next = 7 := by kernel_rfl
   refine Go.Ev.Reach.blockC (Go.Ev.Reach.rangeC (SC_ok r) hF hro h0' (d := 6) (marks := [6]) (A1 := (mkA (oYc (orC n w a) c n x (a x) (boL (bR (a x) 0 n)))).new .defd) (g := 55) (first := []) (captured := [pq 3]) (S := fun v A' => ∃ os, A' = mkA os ∧ os = oYd (orC n w a) c n x (a x) (boL (bR (a x) 16 n)) .ready none) [] (fun p hp => nomatch hp) (by kernel_rfl) (by kernel_rfl) (by kernel_rfl) ?_ ?_)
   ·have hE : ((mkA (oYc (orC n w a) c n x (a x) (boL (bR (a x) 0 n)))).new .defd).new (.loop .ready none 50334783 ⟨[], bT lvYbq (vYbq n x) .nil⟩ 34 #[25] k_b1 k_b2 6) = mkA (oYd (orC n w a) c n x (a x) (boL (bR (a x) 0 n)) .ready none) := by kernel_rfl
    show SOk _ _ _ (((mkA (oYc (orC n w a) c n x (a x) (boL (bR (a x) 0 n)))).new .defd).new (.loop .ready none 50334783 ⟨[], bT lvYbq (vYbq n x) .nil⟩ 34 #[25] k_b1 k_b2 6)) _
    rw [hE, hl]
    have hnx : (mkA (oYd (orC n w a) c n x (a x) (boL (bR (a x) 0 n)) .ready none)).next = 8 := by kernel_rfl
    refine each_iter r hm (l := 7) (p := 3) (fl := flYd) (s := a x) (by omega) (J := fun v os => os = oYd (orC n w a) c n x (a x) (boL (bR (a x) v n)) .ready none) (E := fun os => os = oYd (orC n w a) c n x (a x) (boL (bR (a x) 16 n)) .ready none) (os0 := oYd (orC n w a) c n x (a x) (boL (bR (a x) 0 n)) .ready none)
     ⟨53, 3, 0, by kernel_rfl⟩ ?_ ?_ (fun os h => h) rfl (by kernel_rfl)
    ·rintro v os hv hbv rfl
     rw [bR_skip hbv]
    ·rintro v os hv hbv rfl
     rw [hnx]
     have hvn : v < n := by
      rcases Nat.lt_or_ge v n with q | q
      ·exact q
      ·rw [high hax q] at hbv; cases hbv
     exact yYb nn hc hcl hx hvn hbv rfl
   ·rintro u A' ⟨os, rfl, rfl⟩
    rw [hl]
    have hn' := ybT r n x (a x) (orC n w a) c (boL (bR (a x) 16 n))
    have q1 : m_mvq [0, 1, 4, 5] (c.set x (.slice (some ⟨5, 0, none⟩) n n)) = c.set x (ow 3 n) := by rw [mvq_set hc]; rfl
    have q2 : m_nopo (c.set x (ow 3 n)) = true := ybN hc 3 n x
    simp only [q1, q2, nn, boL_nn, Bool.and_self, cond_true] at hn'
    exact (hn' _ _ _).trans (qq_ok ⟨rfl, rfl, rfl⟩)
  ·have hn' := ybC r n x (orC n w a) c
   have e00 : (orC n w a)[0]? = some (I (n : Nat)) := rfl
   have e0 : ∀ o k : Nat, Nat.add o (Nat.mul k 1) = o + k := fun o k => by simp
   have gx : (orC n w a)[13 + x]? = some (V ((a x : Nat) : Int)) := orC_a (by omega)
   have b3 : Nat.blt (0 + x) c.length = true := by rw [hcl]; exact Nat.ble_eq_true_of_le (by omega)
   have b4 : Nat.ble n n = true := Nat.ble_eq_true_of_le (Nat.le_refl _)
   have b5 : Nat.ble n 1000000 = true := Nat.ble_eq_true_of_le (by omega)
   have p0 : decide (0 ≤ ((n : Nat) : Int)) = true := decide_eq_true (by omega)
   have eqs : ∀ v : Value, m_eqv (.slice (some ⟨2, 0, none⟩) n n) (.slice (some ⟨2, 0, none⟩) n n) = true := fun _ => by simp [m_eqv, veq]
   simp only [e00, isI_I, cond_true] at hn'
   dsimp +instances only [ofI_I] at hn'
   have q1 : m_mvq [0, 1, 3, 5, 2, 4] (c.set (0 + x) (.slice (some ⟨4, 0, none⟩) n n)) = c.set x (ow 5 n) := by rw [Nat.zero_add, mvq_set hc]; rfl
   have q2 : m_nopo (c.set x (ow 5 n)) = true := ybN hc 5 n x
   have i1 : m_eqv (I (x : Nat)) (I (x : Nat)) = true := by simp [m_eqv, veq]
   have i2 : m_eqv (I (n : Nat)) (I (n : Nat)) = true := by simp [m_eqv, veq]
   simp only [Int.ofNat_eq_natCast, Int.toNat_natCast, p0, b1, b2, b3, b4, b5, e0, gx, isV_V, i1, i2, eqs nilT, cond_true] at hn'
   dsimp +instances only [ofI_V] at hn'
   have zb : zerosL (n * 1) [.bool false] = boL (bR (a x) 0 n) := (zer_b n).trans (bR_zero _ n)
   have zb' : zerosL (Nat.mul n 1) [.bool false] = boL (bR (a x) 0 n) := zb
   simp only [q1, q2, nn, zb, zb', boL_nn, Bool.and_self, cond_true] at hn'
   exact (hn' _ _ _).trans (qq_ok ⟨rfl, rfl, rfl⟩)
 ·obtain ⟨rfl, rfl, rfl⟩ := hq
  refine Go.Ev.Reach.segR (SC_ok r) TOk.nil (tm := .nil) (L := 1) (L' := 1) (d := 1) hF hro h0' [] (fun p hp => nomatch hp) ?_
  have hn' := ybG r n x (orC n w a) c (boL (bR (a x) 16 n))
  have q1 : m_mvq [0, 1, 2, 3] (c.set x (.slice (some ⟨3, 0, none⟩) n n)) = c.set x (ow 3 n) := by rw [mvq_set hc]; rfl
  have q2 : m_nopo (c.set x (ow 3 n)) = true := ybN hc 3 n x
  simp only [q1, q2, nn, boL_nn, Bool.and_self, cond_true, Int.ofNat_eq_natCast] at hn'
  rw [w1k x (by omega)] at hn'
  exact (hn' _ _ _ _).trans (qq_ok ⟨rfl, rfl, rfl⟩)

theorem yb_ok (hm : ∀ b j u, tabM b j = some u → r b j = some u) (h1 : 1 ≤ n) (hn : n ≤ 12) (ha : ∀ x, x < n → a x < 2 ^ n) {T : List (List Bool)} (hTl : T.length = n) (hrl : ∀ i, i < n → (T.getD i []).length = n) (hT : ∀ x y, x < n → y < n → gT T x y = (a x).testBit y) :
  SOkG Tryd.prog r 21 [.agg ⟨orC n w a⟩] emptyA fun v A r1 => Mem.le r r1 ∧ ∃ c, v = ow 0 n ∧ A = mkA [oTb c 0] ∧ TabC r1 c T ∧ m_nns c = true := by
 have nn := orC_nn n w a
 refine callOG SC_ok (by kernel_rfl) ((bodySC r _).trans Yb_eq) (nt := 34) (by kernel_rfl) (rs := [.tmp 2]) (by kernel_rfl) 50334783 rfl ⟨[2], fun r1 vs ms os => ms = [] ∧ Mem.le r r1 ∧ ∃ c, vs = [some (ow 0 n)] ∧ os = [oTb c 0] ∧ TabC r1 c T ∧ m_nns c = true⟩ ?_ fun γ W F kk hwr hF hro h0' => ?_
 ·rintro r1 vs ms os ⟨rfl, hle, c, rfl, rfl, hc, hcn⟩
  exact ⟨_, mkA [oTb c 0], by kernel_rfl, hle, c, rfl, rfl, hc, hcn⟩
 have h0' : ∀ i, 0 ≤ i → γ i = none := h0'
 refine ReachG.after3 (SC_ok r) TOk.nil (tm := .nil) (L := 1) (L' := 1) (d := 1) hF hro h0' (.step (.step .base)) (orr := Outs.no)
  (o1 := ⟨lvYb, [.g, .t, .g], fun vs ms os => vs = vYb n 0 ∧ ms = [] ∧ os = oYb (orC n w a) (List.replicate n nilT) n⟩)
  (g2 := ⟨[3], fun r1 vs ms os => ms = [] ∧ Mem.le r r1 ∧ ∃ c, vs = [some (pq 0)] ∧ os = [oPb (ow 1 n) 0, oTb c 1] ∧ TabU r1 c T n n⟩) (fun _ _ _ h => h.elim) ?_ ?_ ?_
 ·rintro vs ms os ⟨rfl, rfl, rfl⟩
  refine ReachG.blockC (ReachG.loopC (j := n) (lv := lvYb) (I := fun j r1 vs ms os => ∃ x : Nat, x ≤ n ∧ j = n - x ∧ ms = [] ∧ Mem.le r r1 ∧ ∃ c, vs = vYb n x ∧ os = oYb (orC n w a) c n ∧ TabU r1 c T n x) (fun j r1 vs ms os hI => ?_) ⟨0, by omega, rfl, rfl, Mem.le_refl r, _, rfl, rfl, by simp, nns_rep _ rfl n, fun i v l h => absurd h (by omega)⟩)
  obtain ⟨x, hx, rfl, rfl, hle, c, rfl, rfl, hU⟩ := hI
  have hcl := hU.1
  have hc := hU.2.1
  have hm1 : ∀ b j u, tabM b j = some u → r1 b j = some u := fun b j u h => hle _ _ _ (hm _ _ _ h)
  have hB := ybB r1 n x (orC n w a) c
  simp only [Int.ofNat_eq_natCast, nn, hc, Bool.and_self, Bool.and_true, cond_true] at hB
  by_cases cx : x < n
  ·simp only [dT (show (x : Int) < (n : Int) by omega), cond_true] at hB
   refine ReachG.lift (on := ⟨lvYb, [.g, .t, .q [3], .g], fun vs ms os => vs = vYb n (x + 1) ∧ ms = [] ∧ os = oYr (orC n w a) c n x (boL (bR (a x) 16 n))⟩) (ox := fun j => if j = 0 then ⟨[3], [.t, .g], fun _ _ _ => False⟩ else Outs.no) (orr := Outs.no)
    (Go.Ev.Reach.afterR (SC_ok r1) TOk.nil (tm := .nil) (L := 1) (L' := 1) (d := 1) hF hro h0' (.step .base) (o1 := ⟨lvYb, [.g, .t, .g], fun vs ms os => vs = vYb n x ∧ ms = [] ∧ os = oYb (orC n w a) c n⟩) [(0, ⟨[3], [.t, .g], fun _ _ _ => False⟩)] (fun p hp => by simp only [List.mem_cons, List.not_mem_nil, or_false] at hp; subst hp; rfl) (fun vs ms os hq => ?_) ((hB _ _ _ _).trans (qq_ok ⟨rfl, rfl, rfl⟩))) ?_ ?_ (fun _ _ _ h => h.elim)
   ·obtain ⟨rfl, rfl, rfl⟩ := hq
    exact yb_rnd hm1 hn ha hc hcl cx hF hro h0'
   ·rintro vs ms os ⟨rfl, rfl, rfl⟩
    refine IsG.freeze (os0 := oYb (orC n w a) (c.set x (ow 3 n)) n) (j := 3) h0' rfl (Nat.zero_le _) rfl (boL_nn _) fun b' o' r2 hle2 hrow => ?_
    have f1 : frzV 3 b' o' (ow 3 n) = some (RS b' o' n n) := by
     show (match (Nat.beq n 0 && Nat.beq n unkE) with | true => _ | false => _) = _
     rw [show Nat.beq n unkE = false from natFx (by unfold unkE; omega), Bool.and_false]
     show some (Value.slice (some ⟨b', o' + 0, some 0⟩) n (frzC n)) = _
     have : frzC n = n := by
      unfold frzC
      rw [show Nat.blt n unk = true from Nat.ble_eq_true_of_le (by unfold unk; omega)]
     rw [this]; rfl
    refine ⟨vYb n (x + 1), oYb (orC n w a) (c.set x (RS b' o' n n)) n, rfl, ?_, n - (x + 1), by omega, x + 1, cx, rfl, rfl, Mem.le_trans hle hle2, _, rfl, rfl, hU.set hle2 rfl fun l hl => ?_⟩
    ·have e1 := frzVs_set f1 x hc
     have e2 := frzVs_nn 3 b' o' (orC n w a) nn
     show frzAs 3 b' o' [oOr (orC n w a) 0, oPb (ow 2 n) 1, oTb (c.set x (ow 3 n)) 2] = _
     have e3 : frzVs 3 b' o' [ow 2 n] = some [ow 2 n] := rfl
     unfold oOr oTb oPb
     simp only [frzAs, frzA, e1, e2, e3]
     rfl
    ·have hr := bR_row (T := T) (x := x) (s := a x) (by omega) (hrl x cx) fun y hy => hT x y cx hy
     rw [List.getD_eq_getElem?_getD, hl] at hr
     have hr : l = bR (a x) 16 n := hr
     subst hr
     refine .inr ⟨fun h => by have := bR_len (a x) 16 n; rw [h] at this; simp at this; omega, b', o', n, by rw [bR_len], fun j y hy => hrow j _ ?_⟩
     unfold boL
     rw [List.getElem?_map, hy]; rfl
   ·intro id vs ms os h
    by_cases e : id = 0
    ·subst e; exact h.elim
    ·simp only [if_neg e] at h; exact h.elim
  ·obtain rfl : x = n := by omega
   simp only [dF (show ¬ (x : Int) < (x : Int) by omega), cond_false] at hB
   refine ReachG.lift (on := ⟨lvYb, [.g, .t, .g], fun _ _ _ => False⟩) (ox := fun j => if j = 0 then ⟨[3], [.t, .g], fun vs ms os => vs = [some (pq 0)] ∧ ms = [] ∧ os = [oPb (ow 1 x) 0, oTb c 1]⟩ else Outs.no) (orr := Outs.no)
    (Go.Ev.Reach.afterR (SC_ok r1) TOk.nil (tm := .nil) (L := 1) (L' := 1) (d := 1) hF hro h0' (.step .base) (o1 := ⟨lvYb, [.g, .t, .g], fun _ _ _ => False⟩) [(0, ⟨[3], [.t, .g], fun vs ms os => vs = [some (pq 0)] ∧ ms = [] ∧ os = [oPb (ow 1 x) 0, oTb c 1]⟩)] (fun p hp => by simp only [List.mem_cons, List.not_mem_nil, or_false] at hp; subst hp; rfl) (fun vs ms os hq => hq.elim) ((hB _ _ _ _).trans (qq_ok ⟨rfl, rfl, rfl⟩))) (fun _ _ _ h => h.elim) ?_ (fun _ _ _ h => h.elim)
   intro id vs ms os h
   by_cases e : id = 0
   ·subst e
    obtain ⟨rfl, rfl, rfl⟩ := h
    exact IsG.here ⟨rfl, hle, c, rfl, rfl, hU⟩
   ·simp only [if_neg e] at h; exact h.elim
 ·rintro r1 vs ms os ⟨rfl, hle, c, rfl, rfl, hU⟩
  obtain ⟨hcl, hc, hrow⟩ := hU
  refine ReachG.segR (SC_ok r1) TOk.nil (tm := .nil) (L := 1) (L' := 1) (d := 1) (n0 := 0) hF hro h0' [] (on := ⟨[2], [.g], fun _ _ _ => False⟩) (ox := fun _ => Outs.no) (orr := ⟨[2], [.g], fun vs ms os => ms = [] ∧ vs = [some (ow 0 n)] ∧ os = [oTb c 0]⟩) (fun p hp => nomatch hp) ?_ (fun _ _ _ h => h.elim) (fun _ _ _ _ h => h.elim) ?_
  ·have hn' := ybH r1 n c
   simp only [hc, Bool.and_true, cond_true] at hn'
   exact (hn' _ _ _ _).trans (qq_ok ⟨rfl, rfl, rfl⟩)
  ·rintro vs ms os ⟨rfl, rfl, rfl⟩
   exact IsG.here ⟨rfl, hle, c, rfl, rfl, ⟨by rw [hcl, hTl], fun i v l h1 h2 => hrow i v l (by have := (List.getElem?_eq_some_iff.1 h1).1; omega) h1 h2⟩, hc⟩
 ·have hn' := ybA r n w a
  have b4 : Nat.ble n n = true := Nat.ble_eq_true_of_le (Nat.le_refl _)
  have b5 : Nat.ble n 1000000 = true := Nat.ble_eq_true_of_le (by omega)
  simp only [show ∀ x : Nat, Int.toNat (Int.ofNat x) = x from fun _ => rfl, b4, b5, zer_n, nns_rep nilT rfl n, show m_nns (List.replicate n (Value.slice none 0 0)) = true from nns_rep nilT rfl n, nn, Bool.and_self, cond_true] at hn'
  exact (hn' _ _ _ _).trans (qq_ok ⟨rfl, rfl, rfl⟩)
end

end Go.Proofs

/- shift.FromIntervals and the law, run. -/
namespace Go.Proofs
open Go Go.Ev Go.Num
set_option linter.unusedVariables false
set_option linter.unusedSimpArgs false
set_option maxRecDepth 100000

noncomputable def cYf : Code := bodyOf S0 6
noncomputable def Yf_0 : Code := (lc cYf)
noncomputable def Yf_1 : Code := (lc (rc cYf))
noncomputable def Yf_2 : Code := (lc (rc (rc cYf)))
noncomputable def Yf_3 : Code := (lc (rc (rc (rc cYf))))
noncomputable def Yf_4 : Code := (rc (rc (rc (rc cYf))))
theorem Yf_eq : cYf = (.seq Yf_0 (.seq Yf_1 (.seq Yf_2 (.seq Yf_3 Yf_4)))) := by kernel_rfl
noncomputable def cYl : Code := bodyOf S0 3
noncomputable def Yl_0 : Code := (lc cYl)
noncomputable def Yl_1 : Code := (lc (rc cYl))
noncomputable def Yl_2 : Code := (lc (rc (rc cYl)))
noncomputable def Yl_3 : Code := (lc (rc (rc (rc cYl))))
noncomputable def Yl_4 : Code := (lc (rc (rc (rc (rc cYl)))))
noncomputable def Yl_5 : Code := (lc (rc (rc (rc (rc (rc cYl))))))
noncomputable def Yl_6 : Code := (lc (rc (rc (rc (rc (rc (rc cYl)))))))
noncomputable def Yl_7 : Code := (rc (rc (rc (rc (rc (rc (rc cYl)))))))
noncomputable def Yl_r : Code := (.seq Yl_2 (.seq Yl_3 (.seq Yl_4 (.seq Yl_5 (.seq Yl_6 Yl_7)))))
theorem Yl_eq : cYl = (.seq Yl_0 (.seq Yl_1 Yl_r)) := by kernel_rfl
def oSp2 (c : List Value) (i : Nat) : Option AObj := some (.cells c 75 i 2)
def oPr (c : List Value) (i : Nat) : Option AObj := some (.cells c 61 i 2)
noncomputable def tFr (sl : Value) (n : Nat) (c : List Value) : Tbl := tcons 19 (eRi sl n c) fun _ => none
noncomputable def tFe (sl : Value) (e : Int) : Tbl := tcons 19 (eVal [sl] (.tuple ⟨[.slice none 0 0, I e]⟩)) fun _ => none
noncomputable def tFo (sl : Value) (oc : List Value) : Tbl := tcons 20 (eVal [sl] (.agg ⟨oc⟩)) fun _ => none
noncomputable def eSp (sl : Value) (m : Nat) (c : List Value) : Ent := ⟨fun args _ => m_sv args [sl], fun _ _ => true, fun _ A => .slice (some ⟨A.next, 0, none⟩) m unk, fun _ A => A.new (.cells c 61 A.next 2), fun _ _ => undef, fun _ A => A⟩
noncomputable def eBm (sl : Value) (n : Nat) (d : List Value) (p : Int) : Ent := ⟨fun args _ => m_sv args [sl], fun _ _ => true, fun _ A => .tuple ⟨[.slice (some ⟨A.next, 0, none⟩) n n, I p, I 0]⟩, fun _ A => A.new (.cells d 3 A.next 1), fun _ _ => undef, fun _ A => A⟩
noncomputable def tAw : Tbl := tcons 9 (e0 (.bool true)) fun _ => none
noncomputable def tLs (sl : Value) (m : Nat) (c : List Value) : Tbl := tcons 5 (eSp sl m c) fun _ => none
noncomputable def tL0 (sl : Value) : Tbl := tcons 5 (eVal [sl] (.slice none 0 0)) tAw
noncomputable def tLe (sl : Value) (e : Int) : Tbl := tcons 6 (eVal [sl] (.tuple ⟨[.slice none 0 0, I e]⟩)) (tcons 7 (eVal [sl] (.tuple ⟨[.slice none 0 0, I 0, I e]⟩)) (tcons 8 (eVal [sl] (I e)) tAw))
noncomputable def tLb (sl : Value) (n : Nat) (d : List Value) (p : Int) : Tbl := tcons 7 (eBm sl n d p) fun _ => none
noncomputable def tLi (sl : Value) : Tbl := tcons 8 (eVal [sl] (I 0)) fun _ => none
noncomputable def tLp (sl : Value) (m : Nat) (p : Int) : Tbl := tcons 10 (eVal [sl] (.tuple ⟨[I (m : Nat), I p]⟩)) fun _ => none
noncomputable def gT2 (p : Value) (n : Nat) (c : List Value) (args : List Value) (A : AW) : Bool := match args with
 | [x, t] => bif gTab n c [t] A then m_svv [x, .agg ⟨c⟩] [p, .agg ⟨c⟩] else false
 | _ => false
noncomputable def tLf (p : Value) (n : Nat) (c : List Value) (sl q : Value) (m : Nat) : Tbl := tcons 11 (ent (gT2 p n c) fun _ _ => .bool true) (tcons 13 (eVal [sl, q, I (m : Nat)] (.bool true)) tAw)
def enF (sl : Value) (oc : List Value) : List (Nat × Value) × Tr Value := ([(15, .agg ⟨oc⟩), (14, sl)], bT [4] [some sl] .nil)
def enL (sl : Value) : List (Nat × Value) × Tr Value := ([(15, sl)], bT [3] [some sl] .nil)
def lvYl : List Nat := [3, 4, 5, 6, 7, 8, 10, 11]
def vYl (sl p q : Value) (pk : Int) (m : Nat) : OV := [some sl, some p, some (I 0), some q, some (I pk), some (I 0), some (I (m : Nat)), some (I pk)]

theorem yfA (r : Mem) (b off n cap : Nat) (fs : FnsC) (K : OV → List Nat → OO → CR) (kx : Nat → KS) (kr : KS) : run (SC r) 61 17 1 Yf_0 fs none (rbK 0 [0] [] K) kx kr (sc0 61 [RS2 b off n cap]) (tr0 61 [RS2 b off n cap]) [] emptyA =
    K [some (.slice (some ⟨b, off, some 0⟩) n cap)] [] [] := by kernel_rfl

theorem yfB (r : Mem) (b off n cap : Nat) (c : List Value) (K : OV → List Nat → OO → CR) (kx : Nat → KS) (kr : KS) : run (SC r) 61 17 1 Yf_1 (lvlT (SC r) (tFr (RS2 b off n cap) n c) .nil 1 1) none (rbK 0 [4, 5] [] K) kx kr [] (bT [0] [some (RS2 b off n cap)] .nil) [] (mkA []) =
    bif m_sv [.slice (some ⟨b, off, some 0⟩) n cap] [.slice (some ⟨b, off, some 0⟩) n cap] then bif m_nns c && true then K [some (.slice (some ⟨0, 0, none⟩) n n), some (I (Int.ofNat 0))] [] [some (.cells c 75 0 2)] else .fail 420 else .fail 420 := by kernel_rfl

theorem yfC (r : Mem) (n : Nat) (c : List Value) (fs : FnsC) (K : OV → List Nat → OO → CR) (kx : Nat → KS) (kr : KS) : run (SC r) 61 17 1 Yf_2 fs none (rbK 0 [4] [] K) kx kr [] (bT [4, 5] [some (ow 0 n), some (I 0)] .nil) [] (mkA [oSp2 c 0]) =
    bif m_nns c && true then K [some (.slice (some ⟨0, 0, none⟩) n n)] [] [some (.cells c 75 0 2)] else .fail 420 := by kernel_rfl

theorem yfD (r : Mem) (b off n cap : Nat) (oc : List Value) (K : KS) : preK (SC r) 61 17 Yf_3 2 (lvlT (SC r) (tFo (RS2 b off n cap) oc) .nil 1 1) K [] (bT [4] [some (RS2 b off n cap)] .nil) [] (mkA []) =
    bif m_sv [.slice (some ⟨b, off, some 0⟩) n cap] [.slice (some ⟨b, off, some 0⟩) n cap] then K [(15, .agg ⟨oc⟩), (14, .slice (some ⟨b, off, some 0⟩) n cap)] (.node .nil none (.node (.node .nil (some (.slice (some ⟨b, off, some 0⟩) n cap)) .nil) none .nil)) [] (AW.mk 0 .nil .nil) else .fail 420 := by kernel_rfl

theorem yfE (r : Mem) (b off n cap : Nat) (oc c : List Value) (fs : FnsC) (K : OV → List Nat → OO → CR) : tailK (SC r) 61 17 Yf_3 2 fs (rbK 0 [2, 3] [] K) (ow 0 n) (enF (RS2 b off n cap) oc).1 (enF (RS2 b off n cap) oc).2 [] (mkA [oTb c 0]) =
    bif m_nns c && true then K [some (.slice (some ⟨0, 0, none⟩) n n), some (I (Int.ofNat 0))] [] [some (.cells c 64 0 1)] else .fail 420 := by kernel_rfl

theorem yfF (r : Mem) (n : Nat) (c : List Value) (fs : FnsC) (K : OV → List Nat → OO → CR) (KR : OV → List Nat → OO → CR) (kx : Nat → KS) : run (SC r) 61 17 1 Yf_4 fs none (rbK 0 [2, 3] [] K) kx (rbK 0 [2, 3] [] KR) [] (bT [2, 3] [some (ow 0 n), some (I 0)] .nil) [] (mkA [oTb c 0]) =
    bif m_nns c && true then KR [some (.slice (some ⟨0, 0, none⟩) n n), some (I (Int.ofNat 0))] [] [some (.cells c 64 0 1)] else .fail 420 := by kernel_rfl

theorem yfX (r : Mem) (b off n cap : Nat) (e : Int) : (lvlT (SC r) (tFe (RS2 b off n cap) e) .nil 1 2).call 6 [RS2 b off n cap] emptyA fin =
    bif m_sv [.slice (some ⟨b, off, some 0⟩) n cap] [.slice (some ⟨b, off, some 0⟩) n cap] then bif e != Int.ofNat 0 then .ret (.tuple ⟨[.slice none 0 0, I e]⟩) (AW.mk 0 .nil .nil) else .ret (.tuple ⟨[.slice (some ⟨3, 0, none⟩) 0 0, I (Int.ofNat 0)]⟩) (AW.mk 0 .nil .nil) else .fail 420 := by kernel_rfl

theorem ylA (r : Mem) (b off n cap : Nat) (fs : FnsC) (K : OV → List Nat → OO → CR) (kx : Nat → KS) (kr : KS) : run (SC r) 4093 83 1 Yl_0 fs none (rbK 0 [0] [] K) kx kr (sc0 4093 [RS2 b off n cap]) (tr0 4093 [RS2 b off n cap]) [] emptyA =
    K [some (.slice (some ⟨b, off, some 0⟩) n cap)] [] [] := by kernel_rfl

theorem ylB (r : Mem) (b off n cap : Nat) (m : Nat) (c : List Value) (K : OV → List Nat → OO → CR) (kx : Nat → KS) (kr : KS) : run (SC r) 4093 83 1 Yl_1 (lvlT (SC r) (tLs (RS2 b off n cap) m c) .nil 1 1) none (rbK 0 [3] [] K) kx kr [] (bT [0] [some (RS2 b off n cap)] .nil) [] (mkA []) =
    bif m_sv [.slice (some ⟨b, off, some 0⟩) n cap] [.slice (some ⟨b, off, some 0⟩) n cap] then bif m_nns c && true then K [some (.slice (some ⟨0, 0, none⟩) m unk)] [] [some (.cells c 61 0 2)] else .fail 420 else .fail 420 := by kernel_rfl

theorem ylE1 (r : Mem) (b off n cap : Nat) (kn : KS) (kx : Nat → KS) (KR : OV → List Nat → OO → CR) : run (SC r) 4093 83 1 Yl_r (lvlT (SC r) (tLe (RS2 b off n cap) 1) .nil 1 1) none kn kx (rbK 0 [2] [] KR) [] (bT [3] [some (RS2 b off n cap)] .nil) [] (mkA []) =
    bif m_sv [.slice (some ⟨b, off, some 0⟩) n cap] [.slice (some ⟨b, off, some 0⟩) n cap] then bif m_sv [.slice (some ⟨b, off, some 0⟩) n cap] [.slice (some ⟨b, off, some 0⟩) n cap] then bif m_sv [.slice (some ⟨b, off, some 0⟩) n cap] [.slice (some ⟨b, off, some 0⟩) n cap] then KR [some (.bool true)] [] [] else .fail 420 else .fail 420 else .fail 420 := by kernel_rfl

theorem ylE2 (r : Mem) (b off n cap : Nat) (kn : KS) (kx : Nat → KS) (KR : OV → List Nat → OO → CR) : run (SC r) 4093 83 1 Yl_r (lvlT (SC r) (tLe (RS2 b off n cap) 2) .nil 1 1) none kn kx (rbK 0 [2] [] KR) [] (bT [3] [some (RS2 b off n cap)] .nil) [] (mkA []) =
    bif m_sv [.slice (some ⟨b, off, some 0⟩) n cap] [.slice (some ⟨b, off, some 0⟩) n cap] then bif m_sv [.slice (some ⟨b, off, some 0⟩) n cap] [.slice (some ⟨b, off, some 0⟩) n cap] then bif m_sv [.slice (some ⟨b, off, some 0⟩) n cap] [.slice (some ⟨b, off, some 0⟩) n cap] then KR [some (.bool true)] [] [] else .fail 420 else .fail 420 else .fail 420 := by kernel_rfl

theorem ylC (r : Mem) (b off n cap : Nat) (fs : FnsC) (K : KS) : preK (SC r) 4093 83 Yl_2 1 fs K [] (bT [3] [some (RS2 b off n cap)] .nil) [] (mkA []) =
    K [(15, .slice (some ⟨b, off, some 0⟩) n cap)] (.node (.node (.node .nil (some (.slice (some ⟨b, off, some 0⟩) n cap)) .nil) none .nil) none .nil) [] (AW.mk 0 .nil .nil) := by kernel_rfl

theorem ylD (r : Mem) (b off n cap : Nat) (c : List Value) (fs : FnsC) (K : OV → List Nat → OO → CR) : tailK (SC r) 4093 83 Yl_2 1 fs (rbK 0 [3, 4, 5] [] K) (.tuple ⟨[ow 0 n, I 0]⟩) (enL (RS2 b off n cap)).1 (enL (RS2 b off n cap)).2 [] (mkA [oTb c 0]) =
    bif m_nns c && true then K [some (.slice (some ⟨b, off, some 0⟩) n cap), some (.slice (some ⟨0, 0, none⟩) n n), some (I (Int.ofNat 0))] [] [some (.cells c 64 0 1)] else .fail 420 := by kernel_rfl

theorem ylG (r : Mem) (b off n cap : Nat) (b2 o2 : Nat) (d : List Value) (p : Int) (K : OV → List Nat → OO → CR) (kx : Nat → KS) (kr : KS) : run (SC r) 4093 83 1 Yl_3 (lvlT (SC r) (tLb (RS2 b off n cap) n d p) .nil 1 1) none (rbK 0 [3, 4, 5, 6, 7, 8] [] K) kx kr [] (bT [3, 4, 5] [some (RS2 b off n cap), some (RS b2 o2 n n), some (I 0)] .nil) [] (mkA []) =
    bif m_sv [.slice (some ⟨b, off, some 0⟩) n cap] [.slice (some ⟨b, off, some 0⟩) n cap] then bif m_nns d && true then K [some (.slice (some ⟨b, off, some 0⟩) n cap), some (.slice (some ⟨b2, o2, some 0⟩) n n), some (I (Int.ofNat 0)), some (.slice (some ⟨0, 0, none⟩) n n), some (I p), some (I (Int.ofNat 0))] [] [some (.cells d 3 0 1)] else .fail 420 else .fail 420 := by kernel_rfl

theorem ylH (r : Mem) (b off n cap : Nat) (b2 o2 b3 o3 : Nat) (p : Int) (K : OV → List Nat → OO → CR) (kx : Nat → KS) (kr : KS) : run (SC r) 4093 83 1 Yl_4 (lvlT (SC r) (tLi (RS2 b off n cap)) .nil 1 1) none (rbK 0 [3, 4, 5, 6, 7, 8] [] K) kx kr [] (bT [3, 4, 5, 6, 7, 8] [some (RS2 b off n cap), some (RS b2 o2 n n), some (I 0), some (RS b3 o3 n n), some (I p), some (I 0)] .nil) [] (mkA []) =
    bif m_sv [.slice (some ⟨b, off, some 0⟩) n cap] [.slice (some ⟨b, off, some 0⟩) n cap] then K [some (.slice (some ⟨b, off, some 0⟩) n cap), some (.slice (some ⟨b2, o2, some 0⟩) n n), some (I (Int.ofNat 0)), some (.slice (some ⟨b3, o3, some 0⟩) n n), some (I p), some (I (Int.ofNat 0))] [] [] else .fail 420 := by kernel_rfl

theorem ylI (r : Mem) (b off n cap : Nat) (b2 o2 b3 o3 m : Nat) (p : Int) (K : OV → List Nat → OO → CR) (kx : Nat → KS) (kr : KS) : run (SC r) 4093 83 1 Yl_5 (lvlT (SC r) (tLp (RS2 b off n cap) m p) .nil 1 1) none (rbK 0 lvYl [] K) kx kr [] (bT [3, 4, 5, 6, 7, 8] [some (RS2 b off n cap), some (RS b2 o2 n n), some (I 0), some (RS b3 o3 n n), some (I p), some (I 0)] .nil) [] (mkA []) =
    bif m_sv [.slice (some ⟨b, off, some 0⟩) n cap] [.slice (some ⟨b, off, some 0⟩) n cap] then K [some (.slice (some ⟨b, off, some 0⟩) n cap), some (.slice (some ⟨b2, o2, some 0⟩) n n), some (I (Int.ofNat 0)), some (.slice (some ⟨b3, o3, some 0⟩) n n), some (I p), some (I (Int.ofNat 0)), some (I (Int.ofNat m)), some (I p)] [] [] else .fail 420 := by kernel_rfl

theorem ylJ (r : Mem) (b off n cap : Nat) (b2 o2 b3 o3 m : Nat) (p : Int) (fs : FnsC) (K : KS) : preK (SC r) 4093 83 Yl_6 5 fs K [] (bT lvYl (vYl (RS2 b off n cap) (RS b2 o2 n n) (RS b3 o3 n n) p m) .nil) [] (mkA []) =
    K [(61, .slice (some ⟨b, off, some 0⟩) n cap), (60, .slice (some ⟨b2, o2, some 0⟩) n n), (59, .bool true), (58, .bool true), (57, I (Int.ofNat 0))] (.node (.node (.node (.node .nil (some (I p)) .nil) (some (.slice (some ⟨b, off, some 0⟩) n cap)) (.node .nil (some (I p)) .nil)) none (.node .nil (some (I (Int.ofNat 0))) .nil)) none (.node (.node (.node .nil (some (I (Int.ofNat 0))) .nil) (some (.slice (some ⟨b2, o2, some 0⟩) n n)) .nil) none (.node (.node .nil (some (I (Int.ofNat m))) .nil) (some (.slice (some ⟨b3, o3, some 0⟩) n n)) .nil))) [] (AW.mk 0 .nil .nil) := by kernel_rfl

theorem ylK (r : Mem) (b off n cap : Nat) (b2 o2 b3 o3 m : Nat) (p : Int) (c : List Value) (K : OV → List Nat → OO → CR) : tailK (SC r) 4093 83 Yl_6 5 (lvlT (SC r) (tLf (RS b2 o2 n n) n c (RS2 b off n cap) (RS b3 o3 n n) m) .nil 1 1) (rbK 0 [2] [] K) (gwT 0 n) [(61, (RS2 b off n cap)), (60, RS b2 o2 n n), (59, .bool true), (58, .bool true), (57, I 0)] (bT lvYl (vYl (RS2 b off n cap) (RS b2 o2 n n) (RS b3 o3 n n) p m) .nil) [] (mkA [oTb c 0]) =
    bif bif m_svv [.slice (some ⟨0, 0, none⟩) n unk, .agg ⟨c⟩] [.slice (some ⟨0, 0, none⟩) n unk, .agg ⟨c⟩] then m_svv [.slice (some ⟨b2, o2, some 0⟩) n n, .agg ⟨c⟩] [.slice (some ⟨b2, o2, some 0⟩) n n, .agg ⟨c⟩] else false then bif p == p then bif m_sv [.slice (some ⟨b, off, some 0⟩) n cap, .slice (some ⟨b3, o3, some 0⟩) n n, I (Int.ofNat m)] [.slice (some ⟨b, off, some 0⟩) n cap, .slice (some ⟨b3, o3, some 0⟩) n n, I (Int.ofNat m)] then K [some (.bool true)] [] [] else .fail 420 else K [some (.bool false)] [] [] else .fail 420 := by kernel_rfl

theorem ylZ (r : Mem) (fs : FnsC) (K : OV → List Nat → OO → CR) (KR : OV → List Nat → OO → CR) (kx : Nat → KS) : run (SC r) 4093 83 1 Yl_7 fs none (rbK 0 [2] [] K) kx (rbK 0 [2] [] KR) [] (bT [2] [some (.bool true)] .nil) [] (mkA []) =
    KR [some (.bool true)] [] [] := by kernel_rfl

theorem ylN (r : Mem) : (lvlT (SC r) tAw .nil 2 8).call 3 [nilT] emptyA fin =
    .ret (.bool true) (AW.mk 0 .nil .nil) := by kernel_rfl

theorem yl0 (r : Mem) (b off cap : Nat) : (lvlT (SC r) (tL0 (RS2 b off 0 cap)) .nil 2 8).call 3 [RS2 b off 0 cap] emptyA fin =
    bif m_sv [.slice (some ⟨b, off, some 0⟩) 0 cap] [.slice (some ⟨b, off, some 0⟩) 0 cap] then .ret (.bool true) (AW.mk 0 .nil .nil) else .fail 420 := by kernel_rfl

end Go.Proofs

/- shift.FromIntervals: what the call answers. -/
namespace Go.Proofs
open Go Go.Ev Go.Num
set_option linter.unusedVariables false
set_option linter.unusedSimpArgs false
set_option maxRecDepth 100000

theorem rwO_bit (T : List (List Bool)) (v : Nat) : ∀ k j, (rwO T v k).testBit j = (decide (j < k) && gT T v j)
 | 0, j => by simp [rwO]
 | k + 1, j => by
  have ih := rwO_bit T v k j
  rw [rwO]
  by_cases c : gT T v k = true
  ·rw [if_pos c, Nat.testBit_or, ih, Nat.testBit_two_pow]
   by_cases e : k = j
   ·subst e; simp [c]
   ·by_cases h : j < k
    ·simp [h, e, show j < k + 1 by omega]
    ·simp [h, e, show ¬ j < k + 1 by omega]
  ·rw [if_neg c, ih]
   by_cases e : k = j
   ·subst e; simp at c; simp [c]
   ·by_cases h : j < k
    ·simp [h, show j < k + 1 by omega]
    ·simp [h, show ¬ j < k + 1 by omega]
theorem eVal_ok {r : Mem} {f : Nat} {a0 : List Value} {v : Value} (ha : roVs a0 = true) (h : GrT Tryd.prog r f a0 v) : EOk (SC r) f (eVal a0 v) := EOk.ent fun args A hg => by
 have hs := @of_decide_eq_true _ (Classical.propDecidable _) hg
 subst hs
 exact h.ro ha A
theorem frz_n (j b o n : Nat) (h : n < unk) : frzV j b o (.slice (some ⟨j, 0, none⟩) n n) = some (.slice (some ⟨b, o, some 0⟩) n n) := by
 show (match Nat.beq j j with | true => (match (Nat.beq n 0 && Nat.beq n unkE) with | true => some (Value.slice (some ⟨j, 0, none⟩) n n) | false => some (Value.slice (some ⟨b, o + 0, some 0⟩) n (frzC n))) | false => some (Value.slice (some ⟨j, 0, none⟩) n n)) = _
 rw [Nat.beq_refl, show Nat.beq n unkE = false from natFx (by unfold unkE; unfold unk at h; omega), Bool.and_false]
 have : frzC n = n := by
  unfold frzC
  rw [show Nat.blt n unk = true from Nat.ble_eq_true_of_le h]
 rw [this]; rfl
section
variable {r : Mem} {b off n cap : Nat} {z : Nat → Int}
theorem fi_err (hz : rowAt r b off (2 * n) z) (hno : ¬ (1 ≤ n ∧ n ≤ 12 ∧ okS z n)) : GrT Tryd.prog r 6 [RS2 b off n cap] (.tuple ⟨[.slice none 0 0, I (erS n)]⟩) := by
 have hr : GrT Tryd.prog r 19 [RS2 b off n cap] (.tuple ⟨[.slice none 0 0, I (erS n)]⟩) := GrT.ofS (C := SC r) rfl rfl rfl (SOk.mono (ri_S hz) fun v A' h => by
  rcases h with ⟨h1, h2, h3, _⟩ | ⟨_, h, _⟩
  ·exact absurd ⟨h1, h2, h3⟩ hno
  ·exact h)
 refine GrT.of (SC_ok r) (t := tFe (RS2 b off n cap) (erS n)) (TOk.nil.cons (eVal_ok rfl hr)) .nil rfl ⟨1, 2, ?_⟩
 rw [yfX]
 have : (erS n != Int.ofNat 0) = true := neT (by unfold erS; split <;> decide)
 simp only [sv_rfl, this, cond_true]
 rfl
theorem fi_ok (hm : ∀ b j u, tabM b j = some u → r b j = some u) (hz : rowAt r b off (2 * n) z) (h1 : 1 ≤ n) (hn : n ≤ 12) (hok : okS z n) : SOkG Tryd.prog r 6 [RS2 b off n cap] emptyA fun v A r1 => Mem.le r r1 ∧ ∃ c, v = .tuple ⟨[ow 0 n, I 0]⟩ ∧ A = mkA [oTb c 0] ∧ TabC r1 c (tS z n) ∧ m_nns c = true := by
 refine callOG SC_ok (by kernel_rfl) ((bodySC r _).trans Yf_eq) (nt := 17) (by kernel_rfl) (rs := [.tmp 2, .tmp 3]) (by kernel_rfl) 61 rfl ⟨[2, 3], fun r1 vs ms os => ms = [] ∧ Mem.le r r1 ∧ ∃ c, vs = [some (ow 0 n), some (I 0)] ∧ os = [oTb c 0] ∧ TabC r1 c (tS z n) ∧ m_nns c = true⟩ ?_ fun γ W F kk hwr hF hro h0' => ?_
 ·rintro r1 vs ms os ⟨rfl, hle, c, rfl, rfl, hc, hcn⟩
  exact ⟨_, mkA [oTb c 0], by kernel_rfl, hle, c, rfl, rfl, hc, hcn⟩
 have h0' : ∀ i, 0 ≤ i → γ i = none := h0'
 refine ReachG.seqC (o1 := ⟨[0], fun r1 vs ms os => r1 = r ∧ vs = [some (RS2 b off n cap)] ∧ ms = [] ∧ os = []⟩) (ReachG.segR (SC_ok r) TOk.nil (tm := .nil) (L := 1) (L' := 1) (d := 1) (n0 := 0) hF hro h0' [] (on := ⟨[0], [], fun vs ms os => vs = [some (RS2 b off n cap)] ∧ ms = [] ∧ os = []⟩) (ox := fun _ => Outs.no) (orr := Outs.no) (fun p hp => nomatch hp) ((yfA r b off n cap _ _ _ _).trans (qq_ok ⟨rfl, rfl, rfl⟩)) (fun vs ms os h => IsG.here ⟨rfl, h⟩) (fun _ _ _ _ h => h.elim) (fun _ _ _ h => h.elim)) fun r1 vs ms os hq => ?_
 obtain ⟨rfl, rfl, rfl, rfl⟩ := hq
 have hxn : m_nns (ixN z (2 * n)) = true := ix_nn _ _
 refine ReachG.seqC (o1 := ⟨[4, 5], fun r2 vs ms os => r2 = r1 ∧ vs = [some (ow 0 n), some (I 0)] ∧ ms = [] ∧ os = [oSp2 (ixN z (2 * n)) 0]⟩) (ReachG.segR (SC_ok r1) (t := tFr (RS2 b off n cap) n (ixN z (2 * n))) (TOk.nil.cons (eRi_ok hz h1 hn hok)) (tm := .nil) (L := 1) (L' := 1) (d := 1) (n0 := 0) hF hro h0' [] (on := ⟨[4, 5], [], fun vs ms os => vs = [some (ow 0 n), some (I 0)] ∧ ms = [] ∧ os = [oSp2 (ixN z (2 * n)) 0]⟩) (ox := fun _ => Outs.no) (orr := Outs.no) (fun p hp => nomatch hp) ?_ (fun vs ms os h => IsG.here ⟨rfl, h⟩) (fun _ _ _ _ h => h.elim) (fun _ _ _ h => h.elim)) fun r2 vs ms os hq => ?_
 ·have hn' := yfB r1 b off n cap (ixN z (2 * n))
  simp only [sv_rfl, hxn, Bool.and_true, cond_true] at hn'
  exact (hn' _ _ _).trans (qq_ok ⟨rfl, rfl, rfl⟩)
 obtain ⟨rfl, rfl, rfl, rfl⟩ := hq
 refine ReachG.seqC (o1 := ⟨[4], fun r3 vs ms os => ∃ b' o', Mem.le r2 r3 ∧ rowAt r3 b' o' (2 * n) z ∧ vs = [some (RS2 b' o' n n)] ∧ ms = [] ∧ os = []⟩) (ReachG.segR (SC_ok r2) TOk.nil (tm := .nil) (L := 1) (L' := 1) (d := 1) (n0 := 0) hF hro h0' [] (on := ⟨[4], [], fun vs ms os => vs = [some (ow 0 n)] ∧ ms = [] ∧ os = [oSp2 (ixN z (2 * n)) 0]⟩) (ox := fun _ => Outs.no) (orr := Outs.no) (fun p hp => nomatch hp) ?_ ?_ (fun _ _ _ _ h => h.elim) (fun _ _ _ h => h.elim)) fun r3 vs ms os hq => ?_
 ·have hn' := yfC r2 n (ixN z (2 * n))
  simp only [hxn, Bool.and_true, cond_true] at hn'
  exact (hn' _ _ _ _).trans (qq_ok ⟨rfl, rfl, rfl⟩)
 ·rintro vs ms os ⟨rfl, rfl, rfl⟩
  refine IsG.freeze (os0 := []) (j := 0) h0' rfl (Nat.zero_le _) rfl hxn fun b' o' r3 hle2 hrow => ?_
  have hf := frz_n 0 b' o' n (by unfold unk; omega)
  exact ⟨[some (RS2 b' o' n n)], [], by simp only [frzO, hf], rfl, b', o', hle2, fun j hj => hrow j _ (ix_get hj), rfl, rfl, rfl⟩
 obtain ⟨b', o', hle, hz', rfl, rfl, rfl⟩ := hq
 have hm3 : ∀ b j u, tabM b j = some u → r3 b j = some u := fun b j u h => hle _ _ _ (hm _ _ _ h)
 have hTl := tS_len z n
 have htab := yb_ok (w := wB (tS z n) n 0) (a := wA (tS z n) n 0) (T := tS z n) hm3 h1 hn (fun x hx => by
  unfold wA
  rw [if_pos hx, hTl]
  exact rwO_lt _ _ _) hTl (fun i hi => tS_rl hi) (fun x y hx hy => by
  unfold wA
  rw [if_pos hx, rwO_bit, hTl, decide_eq_true hy, Bool.true_and])
 refine ReachG.seqC (o1 := ⟨[2, 3], fun r4 vs ms os => Mem.le r3 r4 ∧ ms = [] ∧ ∃ c, vs = [some (ow 0 n), some (I 0)] ∧ os = [oTb c 0] ∧ TabC r4 c (tS z n) ∧ m_nns c = true⟩) (ReachG.callC (fl := []) SC_ok hF h0' (t := tFo (RS2 b' o' n n) (orC n (wB (tS z n) n 0) (wA (tS z n) n 0))) (TOk.nil.cons (eVal_ok rfl (yo_ok hz' hn))) (tm := .nil) (L := 1) (d := 1) 2 (s1 := (enF (RS2 b' o' n n) (orC n (wB (tS z n) n 0) (wA (tS z n) n 0))).1) (b1 := (enF (RS2 b' o' n n) (orC n (wB (tS z n) n 0) (wA (tS z n) n 0))).2) (ms1 := []) (A1 := mkA []) (A2 := emptyA) (i := 21) (args := [.agg ⟨orC n (wB (tS z n) n 0) (wA (tS z n) n 0)⟩]) ?_ (by kernel_rfl) htab ?_) fun r4 vs ms os hq => ?_
 ·have hn' := yfD r3 b' o' n n (orC n (wB (tS z n) n 0) (wA (tS z n) n 0))
  simp only [sv_rfl, cond_true] at hn'
  exact (hn' _).trans (qn_ok rfl)
 ·rintro v A' r4 ⟨hle4, c, rfl, rfl, hT, hc⟩
  refine ⟨fun _ => none, TOk.nil, .nil, 1, 1, ?_⟩
  have hn' := yfE r4 b' o' n n (orC n (wB (tS z n) n 0) (wA (tS z n) n 0)) c
  simp only [hc, Bool.and_true, cond_true] at hn'
  exact (hn' _ _).trans (qq_ok ⟨hle4, rfl, c, rfl, rfl, hT, hc⟩)
 obtain ⟨hle4, rfl, c, rfl, rfl, hT, hc⟩ := hq
 refine ReachG.segR (SC_ok r4) TOk.nil (tm := .nil) (L := 1) (L' := 1) (d := 1) (n0 := 0) hF hro h0' [] (on := ⟨[2, 3], [], fun _ _ _ => False⟩) (ox := fun _ => Outs.no) (orr := ⟨[2, 3], [], fun vs ms os => vs = [some (ow 0 n), some (I 0)] ∧ ms = [] ∧ os = [oTb c 0]⟩) (fun p hp => nomatch hp) ?_ (fun _ _ _ h => h.elim) (fun _ _ _ _ h => h.elim) ?_
 ·have hn' := yfF r4 n c
  simp only [hc, Bool.and_true, cond_true] at hn'
  exact (hn' _ _ _ _).trans (qq_ok ⟨rfl, rfl, rfl⟩)
 ·rintro vs ms os ⟨rfl, rfl, rfl⟩
  exact IsG.here ⟨rfl, Mem.le_trans hle hle4, c, rfl, rfl, hT, hc⟩
end

end Go.Proofs

/- The law of orders from intervals holds. -/
namespace Go.Proofs
open Go Go.Ev Go.Num
set_option linter.unusedVariables false
set_option linter.unusedSimpArgs false
set_option maxRecDepth 100000

theorem tAw_ok {r : Mem} (hm : ∀ b j u, tabM b j = some u → r b j = some u) : TOk (SC r) tAw := TOk.nil.cons (e0_ok (awake10.more hm))
theorem reachG_then {P : Program} {m n : Nat} {F : Fence} {k : Nat} {γ0 : Gam} {W0 : World} {c : Code} {r : Mem} {st : St} {o1 o2 : OutsG} {ox : Nat → OutsG} {orr : OutsG} (h : ReachG P m n F k γ0 W0 c r st (CanG P m n γ0 W0 o1 (fun _ => OutsG.no) OutsG.no)) (hq : ∀ r vs ms os, o1.Q r vs ms os → IsG P m n γ0 W0 o2 r (St.of o1.lv vs ms os)) : ReachG P m n F k γ0 W0 c r st (CanG P m n γ0 W0 o2 ox orr) :=
 ReachG.mono h fun ex r1 st h => by
  cases ex with
  | normal =>
   intro γ' a W' hs hb
   obtain ⟨r2, γ1, vs, ms, os, q, s1, b1⟩ := h γ' a W' hs hb
   exact hq r2 vs ms os q γ1 a W' s1 b1
  | exit id =>
   intro γ' a W' hs hb
   obtain ⟨_, _, _, _, _, hf, _⟩ := h γ' a W' hs hb
   exact hf.elim
  | ret =>
   intro γ' a W' hs hb
   obtain ⟨_, _, _, _, _, hf, _⟩ := h γ' a W' hs hb
   exact hf.elim
  | _ => exact h
theorem frz_u (j b o n : Nat) : frzV j b o (.slice (some ⟨j, 0, none⟩) n unk) = some (.slice (some ⟨b, o, some 0⟩) n 0) := by
 show (match Nat.beq j j with | true => (match (Nat.beq n 0 && Nat.beq unk unkE) with | true => some (Value.slice (some ⟨j, 0, none⟩) n unk) | false => some (Value.slice (some ⟨b, o + 0, some 0⟩) n (frzC unk))) | false => some (Value.slice (some ⟨j, 0, none⟩) n unk)) = _
 rw [Nat.beq_refl, show Nat.beq unk unkE = false by decide, Bool.and_false]
 rfl
theorem TabC.tabM {r r1 : Mem} (hle : Mem.le r r1) {c : List Value} {T : List (List Bool)} (hT : TabC r c T) {b o : Nat} (hrow : ∀ k u, c[k]? = some u → r1 b (o + k) = some u) : TabM r1 b o T := fun i l hl => by
 have hi : i < T.length := (List.getElem?_eq_some_iff.1 hl).1
 obtain ⟨v, hv⟩ : ∃ v, c[i]? = some v := ⟨_, List.getElem?_eq_getElem (by rw [hT.1]; exact hi)⟩
 exact ⟨v, hrow _ _ hv, (hT.2 i v l hv hl).mono hle⟩
theorem TabM.mono {r r1 : Mem} (hle : Mem.le r r1) {b o : Nat} {T : List (List Bool)} (h : TabM r b o T) : TabM r1 b o T := fun i l hl => by
 obtain ⟨v, h1, h2⟩ := h i l hl
 exact ⟨v, hle _ _ _ h1, h2.mono hle⟩
theorem memW_tabM {r : Mem} {γ : Gam} {W : World} (hR : Ro r γ W) {b n o : Nat} {T : List (List Bool)} (hrl : ∀ (i : Nat) (l : List Bool), T[i]? = some l → l ≠ []) (h : TabM r b o T) : TabM (memW W) b o T := fun i l hl => by
 obtain ⟨v, h1, h2⟩ := h i l hl
 obtain ⟨_, cc, e, fr, v', hb, hk, hrel⟩ := hR _ _ _ h1
 obtain ⟨u, h3, h4⟩ := memW_row hR h2 (hrel γ)
 exact ⟨u, by simp only [memW, hb, hk]; exact h3, h4⟩
section
variable {r : Mem} {n : Nat} {c : List Value} {T : List (List Bool)}
theorem eSm_ok (hn : n ≤ 1000) (hTl : T.length = n) (hrl : ∀ i, i < n → (T.getD i []).length = n) {b2 o2 : Nat} (hM : TabM r b2 o2 T) (hT : TabC r c T) : EOk (SC r) 11 (ent (gT2 (RS b2 o2 n n) n c) fun _ _ => .bool true) := EOk.ent fun args A hgd => POk.of rfl fun γ W args' hw hR ha => by
 unfold gT2 at hgd
 split at hgd
 ·cases hg1 : gTab n c [_] A with
  | false => rw [hg1] at hgd; cases hgd
  | true =>
  rw [hg1, cond_true] at hgd
  have hs := @of_decide_eq_true _ (Classical.propDecidable _) hgd
  simp only [List.cons.injEq, and_true] at hs
  subst hs
  obtain ⟨la⟩ := args'
  cases ha with
  | cons hv hrest =>
  obtain ⟨b, j, p1, p2⟩ := gTab_use (args' := ⟨_⟩) hT hg1 hw hR hrest
  refine ⟨memW W, _, memW_ro W, .cons (VRel.of_nn hv rfl) p1, ys_ok hn hTl hrl ?_ p2⟩
  exact memW_tabM (n := n) hR (fun i l hl => by
   have hi : i < T.length := (List.getElem?_eq_some_iff.1 hl).1
   have := hrl i (by omega)
   rw [List.getD_eq_getElem?_getD, hl] at this
   intro e
   rw [e] at this
   simp at this
   omega) hM
 ·cases hgd
end
section
variable {r : Mem} {b off n cap m : Nat} {z : Nat → Int}
theorem eSp_ok (hl : n ≤ cap) (hc : cap ≤ maxLen) (hm : m = min n 13) (h1 : 1 ≤ m) (hz : rowAt r b off (2 * m) z) : EOk (SC r) 5 (eSp (RS2 b off n cap) m (ixN z (2 * m))) := fun args A hgd F hF k γ W args' hw hR ha => by
 refine ⟨fun hcc => ?_, fun h => nomatch h⟩
 have hs := @of_decide_eq_true _ (Classical.propDecidable _) hgd
 subst hs
 have hof : ofV 0 (gw 0 m) = true := by simp [ofV, of1]
 exact (sp_row hl hc hm h1 hz).ends (γ := γ) (A := A) hof (ix_gnd _ _) hF hw (hR.noG noG fun _ => rfl) (ha.of_ros rfl) ha
theorem eBm_ok (hz : rowAt r b off (2 * n) z) (h1 : 1 ≤ n) (hn : n ≤ 12) (hok : okS z n) : EOk (SC r) 7 (eBm (RS2 b off n cap) n (bts (pkSk z n n) n) (pkB (ea z) (eb z) n n).1) := fun args A hgd F hF k γ W args' hw hR ha => by
 refine ⟨fun hcc => ?_, fun h => nomatch h⟩
 have hs := @of_decide_eq_true _ (Classical.propDecidable _) hgd
 subst hs
 have hof : ofV 0 (.tuple ⟨[ow 0 n, I (pkB (ea z) (eb z) n n).1, I 0]⟩) = true := by simp [ofV, of1, gnd]
 exact (bo_ok hz h1 hn hok).ends (γ := γ) (A := A) hof (ix_gnd _ _) hF hw (hR.noG noG fun _ => rfl) (ha.of_ros rfl) ha
end
section
variable {r : Mem} {b off n cap : Nat} {z : Nat → Int} (hm : ∀ b j u, tabM b j = some u → r b j = some u)
include hm
theorem yl_go (hz : rowAt r b off (2 * n) z) (h1 : 1 ≤ n) (hn : n ≤ 12) (hok : ∀ j, ea z j ≤ eb z j) {γ : Gam} {W : World} {F : Fence} {kk : Nat} (hF : Wide F) (hro : RoRel γ none F.round) (h0' : ∀ i, 0 ≤ i → γ i = none) {ox : Nat → OutsG} :
  ReachG Tryd.prog 4093 83 F kk γ W Yl_r r (St.of [3] [some (RS2 b off n cap)] [] []) (CanG Tryd.prog 4093 83 γ W ⟨[2], fun r1 vs ms os => vs = [some (.bool true)] ∧ ms = [] ∧ os = []⟩ ox ⟨[2], fun r1 vs ms os => vs = [some (.bool true)] ∧ ms = [] ∧ os = []⟩) := by
 have hokS : okS z n := fun j _ => hok j
 have hTl := tS_len z n
 have hrl : ∀ i, i < n → ((tS z n).getD i []).length = n := fun i hi => tS_rl hi
 have hunk : n < unk := by unfold unk; omega
 unfold Yl_r
 refine ReachG.seqC (o1 := ⟨[3, 4, 5], fun r2 vs ms os => Mem.le r r2 ∧ ∃ b2 o2, TabM r2 b2 o2 (tS z n) ∧ vs = [some (RS2 b off n cap), some (RS b2 o2 n n), some (I 0)] ∧ ms = [] ∧ os = []⟩) ?_ fun r2 vs ms os hq => ?_
 ·refine reachG_then (o1 := ⟨[3, 4, 5], fun r1 vs ms os => Mem.le r r1 ∧ ∃ c, vs = [some (RS2 b off n cap), some (ow 0 n), some (I 0)] ∧ ms = [] ∧ os = [oTb c 0] ∧ TabC r1 c (tS z n) ∧ m_nns c = true⟩) (ReachG.callC (fl := []) SC_ok hF h0' TOk.nil (tm := .nil) (L := 1) (d := 1) 1 (s1 := (enL (RS2 b off n cap)).1) (b1 := (enL (RS2 b off n cap)).2) (ms1 := []) (A1 := mkA []) (A2 := emptyA) (i := 6) (args := [RS2 b off n cap]) ?_ (by kernel_rfl) (fi_ok hm hz h1 hn hokS) ?_) fun r1 vs ms os h => ?_
  ·exact (ylC r b off n cap _ _).trans (qn_ok rfl)
  ·rintro v A' r1 ⟨hle, c, rfl, rfl, hT, hc⟩
   refine ⟨fun _ => none, TOk.nil, .nil, 1, 1, ?_⟩
   have hn' := ylD r1 b off n cap c
   simp only [hc, Bool.and_true, cond_true] at hn'
   exact (hn' _ _).trans (qq_ok ⟨hle, c, rfl, rfl, rfl, hT, hc⟩)
  ·obtain ⟨hle, c, rfl, rfl, rfl, hT, hc⟩ := h
   refine IsG.freeze (os0 := []) (j := 0) h0' rfl (Nat.zero_le _) rfl hc fun b' o' r3 hle2 hrow => ?_
   have hf := frz_n 0 b' o' n hunk
   have hf2 : frzV 0 b' o' (RS2 b off n cap) = some (RS2 b off n cap) := rfl
   have hf3 : frzV 0 b' o' (I 0) = some (I 0) := rfl
   exact ⟨[some (RS2 b off n cap), some (RS b' o' n n), some (I 0)], [], by simp only [frzO, hf, hf2, hf3], rfl, Mem.le_trans hle hle2, b', o', hT.tabM hle2 hrow, rfl, rfl, rfl⟩
 obtain ⟨hle2, b2, o2, hM, rfl, rfl, rfl⟩ := hq
 have hz2 : rowAt r2 b off (2 * n) z := fun j hj => hle2 _ _ _ (hz j hj)
 obtain ⟨hpk, hI⟩ := pk_law (ea z) (eb z) h1 hok (srtV_perm (ea z) n) (srtV_srt (ea z) n)
 have hS : pkL (ea z) (eb z) ⟨[], fun _ => 0⟩ (srtV (ea z) n) = pkSk z n n := by
  unfold pkSk
  rw [List.take_of_length_le (by rw [srtV_len]; exact Nat.le_refl _)]
  rfl
 rw [hS] at hpk hI
 have hB := eBm_ok (cap := cap) hz2 h1 hn hokS
 have hkk := pkB_ok (ea z) (eb z) n n
 have hpos := cn_pos (ea z) (eb z) (show 0 < n by omega) hok
 have hPk : ∀ r : Mem, rowAt r b off (2 * n) z → GrT Tryd.prog r 10 [RS2 b off n cap] (.tuple ⟨[I ((pkB (ea z) (eb z) n n).2 : Nat), I (pkB (ea z) (eb z) n n).1]⟩) := fun r h => yp_ok h (by omega)
 generalize hpp : pkB (ea z) (eb z) n n = P at hpk hB hkk hPk
 obtain ⟨p, m⟩ := P
 have hcm : cnN (ea z) (eb z) p n = m := by
  rcases hkk.1 with h | h
  ·have h2 := hkk.2 0 (by omega)
   have h : m = 0 := h
   have h2 : cnN (ea z) (eb z) (ea z 0) n ≤ m := h2
   omega
  ·exact h
 have hpk : (pkSk z n n).ends.length = m := hpk.trans hcm
 have hB : EOk (SC r2) 7 (eBm (RS2 b off n cap) n (bts (pkSk z n n) n) p) := hB
 have hPk : ∀ r : Mem, rowAt r b off (2 * n) z → GrT Tryd.prog r 10 [RS2 b off n cap] (.tuple ⟨[I (m : Nat), I p]⟩) := hPk
 generalize pkSk z n n = S at hpk hI hB
 have mem : ∀ i, i < n → i ∈ srtV (ea z) n := fun i hi => ((srtV_perm (ea z) n).mem_iff).2 (List.mem_range.2 hi)
 have nd : m_nns (bts S n) = true := ix_nn _ _
 refine ReachG.seqC (o1 := ⟨[3, 4, 5, 6, 7, 8], fun r3 vs ms os => Mem.le r2 r3 ∧ ∃ b3 o3, (∀ i, i < n → r3 b3 (o3 + i) = some (I (S.boat i : Nat))) ∧ vs = [some (RS2 b off n cap), some (RS b2 o2 n n), some (I 0), some (RS b3 o3 n n), some (I p), some (I 0)] ∧ ms = [] ∧ os = []⟩) (ReachG.segR (SC_ok r2) (t := tLb (RS2 b off n cap) n (bts S n) p) (TOk.nil.cons hB) (tm := .nil) (L := 1) (L' := 1) (d := 1) (n0 := 0) hF hro h0' [] (on := ⟨[3, 4, 5, 6, 7, 8], [], fun vs ms os => vs = [some (RS2 b off n cap), some (RS b2 o2 n n), some (I 0), some (ow 0 n), some (I p), some (I 0)] ∧ ms = [] ∧ os = [oIn (bts S n) 0]⟩) (ox := fun _ => Outs.no) (orr := Outs.no) (fun p hp => nomatch hp) ?_ ?_ (fun _ _ _ _ h => h.elim) (fun _ _ _ h => h.elim)) fun r3 vs ms os hq => ?_
 ·have hn' := ylG r2 b off n cap b2 o2 (bts S n) p
  simp only [sv_rfl, nd, Bool.and_true, cond_true] at hn'
  exact (hn' _ _ _).trans (qq_ok ⟨rfl, rfl, rfl⟩)
 ·rintro vs ms os ⟨rfl, rfl, rfl⟩
  refine IsG.freeze (os0 := []) (j := 0) h0' rfl (Nat.zero_le _) rfl nd fun b' o' r3 hle3 hrow => ?_
  have hf := frz_n 0 b' o' n hunk
  have hf2 : frzV 0 b' o' (RS2 b off n cap) = some (RS2 b off n cap) := rfl
  have hf4 : frzV 0 b' o' (RS b2 o2 n n) = some (RS b2 o2 n n) := rfl
  have hf3 : ∀ x, frzV 0 b' o' (I x) = some (I x) := fun _ => rfl
  exact ⟨[some (RS2 b off n cap), some (RS b2 o2 n n), some (I 0), some (RS b' o' n n), some (I p), some (I 0)], [], by simp only [frzO, hf, hf2, hf3, hf4], rfl, hle3, b', o', fun i hi => hrow i _ (ix_get hi), rfl, rfl, rfl⟩
 obtain ⟨hle3, b3, o3, hbt, rfl, rfl, rfl⟩ := hq
 have hz3 : rowAt r3 b off (2 * n) z := fun j hj => hle3 _ _ _ (hz2 j hj)
 have hM3 := hM.mono hle3
 have hm3 : ∀ b j u, tabM b j = some u → r3 b j = some u := fun b j u h => hle3 _ _ _ (hle2 _ _ _ (hm _ _ _ h))
 refine ReachG.seqC (o1 := ⟨[3, 4, 5, 6, 7, 8], fun r4 vs ms os => r4 = r3 ∧ vs = [some (RS2 b off n cap), some (RS b2 o2 n n), some (I 0), some (RS b3 o3 n n), some (I p), some (I 0)] ∧ ms = [] ∧ os = []⟩) (ReachG.segR (SC_ok r3) (t := tLi (RS2 b off n cap)) (TOk.nil.cons (eVal_ok rfl (yi_ok hz3 (by omega) 0 (fun _ => rfl) fun h => absurd ⟨h1, hn, hokS⟩ h))) (tm := .nil) (L := 1) (L' := 1) (d := 1) (n0 := 0) hF hro h0' [] (on := ⟨[3, 4, 5, 6, 7, 8], [], fun vs ms os => vs = [some (RS2 b off n cap), some (RS b2 o2 n n), some (I 0), some (RS b3 o3 n n), some (I p), some (I 0)] ∧ ms = [] ∧ os = []⟩) (ox := fun _ => Outs.no) (orr := Outs.no) (fun p hp => nomatch hp) ?_ (fun vs ms os h => IsG.here ⟨rfl, h⟩) (fun _ _ _ _ h => h.elim) (fun _ _ _ h => h.elim)) fun r4 vs ms os hq => ?_
 ·have hn' := ylH r3 b off n cap b2 o2 b3 o3 p
  simp only [sv_rfl, cond_true] at hn'
  exact (hn' _ _ _).trans (qq_ok ⟨rfl, rfl, rfl⟩)
 obtain ⟨rfl, rfl, rfl, rfl⟩ := hq
 refine ReachG.seqC (o1 := ⟨lvYl, fun r5 vs ms os => r5 = r4 ∧ vs = vYl (RS2 b off n cap) (RS b2 o2 n n) (RS b3 o3 n n) p m ∧ ms = [] ∧ os = []⟩) (ReachG.segR (SC_ok r4) (t := tLp (RS2 b off n cap) m p) (TOk.nil.cons (eVal_ok rfl (hPk r4 hz3))) (tm := .nil) (L := 1) (L' := 1) (d := 1) (n0 := 0) hF hro h0' [] (on := ⟨lvYl, [], fun vs ms os => vs = vYl (RS2 b off n cap) (RS b2 o2 n n) (RS b3 o3 n n) p m ∧ ms = [] ∧ os = []⟩) (ox := fun _ => Outs.no) (orr := Outs.no) (fun p hp => nomatch hp) ?_ (fun vs ms os h => IsG.here ⟨rfl, h⟩) (fun _ _ _ _ h => h.elim) (fun _ _ _ h => h.elim)) fun r5 vs ms os hq => ?_
 ·have hn' := ylI r4 b off n cap b2 o2 b3 o3 m p
  simp only [sv_rfl, cond_true] at hn'
  exact (hn' _ _ _).trans (qq_ok ⟨rfl, rfl, rfl⟩)
 obtain ⟨rfl, rfl, rfl, rfl⟩ := hq
 refine ReachG.seqC (o1 := ⟨[2], fun r6 vs ms os => vs = [some (.bool true)] ∧ ms = [] ∧ os = []⟩) (ReachG.callC (fl := []) SC_ok hF h0' TOk.nil (tm := .nil) (L := 1) (d := 1) 5 (s1 := [(61, RS2 b off n cap), (60, RS b2 o2 n n), (59, .bool true), (58, .bool true), (57, I 0)]) (b1 := bT lvYl (vYl (RS2 b off n cap) (RS b2 o2 n n) (RS b3 o3 n n) p m) .nil) (ms1 := []) (A1 := mkA []) (A2 := emptyA) (i := 12) (args := [RS2 b off n cap]) ?_ (by kernel_rfl) (yg_ok hz3 h1 (by omega)) ?_) fun r6 vs ms os hq => ?_
 ·exact (ylJ r5 b off n cap b2 o2 b3 o3 m p _ _).trans (qn_ok rfl)
 ·rintro v A' r6 ⟨hle6, c, rfl, rfl, hT, hc⟩
  have hz6 : rowAt r6 b off (2 * n) z := fun j hj => hle6 _ _ _ (hz3 j hj)
  have hm6 : ∀ b j u, tabM b j = some u → r6 b j = some u := fun b j u h => hle6 _ _ _ (hm3 _ _ _ h)
  have hRt : GrT Tryd.prog r6 13 [RS2 b off n cap, RS b3 o3 n n, I (m : Nat)] (.bool true) := yr_ok hz6 (by omega) (fun i hi => hle6 _ _ _ (hbt i hi)) (fun i hi => by have := (hI.le i (mem i hi)).1; omega) fun i k hk hi hf => by
   rcases hI.apart i k (mem i hi) (mem k (by omega)) (by omega) hf with h | h <;> omega
  refine ⟨tLf (RS b2 o2 n n) n c (RS2 b off n cap) (RS b3 o3 n n) m, ((tAw_ok hm6).cons (eVal_ok rfl hRt)).cons (eSm_ok (by omega) hTl hrl (hM3.mono hle6) hT), .nil, 1, 1, ?_⟩
  have hn' := ylK r6 b off n cap b2 o2 b3 o3 m p c
  simp only [svv_rfl, sv_rfl, beq_self_eq_true, cond_true] at hn'
  exact (hn' _).trans (qq_ok ⟨rfl, rfl, rfl⟩)
 obtain ⟨rfl, rfl, rfl⟩ := hq
 exact ReachG.segR (SC_ok r6) TOk.nil (tm := .nil) (L := 1) (L' := 1) (d := 1) (n0 := 0) hF hro h0' [] (on := ⟨[2], [], fun _ _ _ => False⟩) (ox := fun _ => Outs.no) (orr := ⟨[2], [], fun vs ms os => vs = [some (.bool true)] ∧ ms = [] ∧ os = []⟩) (fun p hp => nomatch hp) ((ylZ r6 _ _ _ _).trans (qq_ok ⟨rfl, rfl, rfl⟩)) (fun _ _ _ h => h.elim) (fun _ _ _ _ h => h.elim) (fun vs ms os h => IsG.here h)
end
section
variable {r : Mem} {b off n cap : Nat} {z : Nat → Int} (hm : ∀ b j u, tabM b j = some u → r b j = some u)
include hm
theorem yl_bad (hz : rowAt r b off (2 * n) z) (hn : n ≤ 1000) (hno : ¬ (1 ≤ n ∧ n ≤ 12 ∧ okS z n)) {γ : Gam} {W : World} {F : Fence} {kk : Nat} (hF : Wide F) (hro : RoRel γ none F.round) (h0' : ∀ i, 0 ≤ i → γ i = none) {ox : Nat → OutsG} :
  ReachG Tryd.prog 4093 83 F kk γ W Yl_r r (St.of [3] [some (RS2 b off n cap)] [] []) (CanG Tryd.prog 4093 83 γ W ⟨[2], fun r1 vs ms os => vs = [some (.bool true)] ∧ ms = [] ∧ os = []⟩ ox ⟨[2], fun r1 vs ms os => vs = [some (.bool true)] ∧ ms = [] ∧ os = []⟩) := by
 have e1 := fi_err (cap := cap) hz hno
 have e2 := bo_err (cap := cap) hz hno
 have e3 := yi_ok (cap := cap) hz hn (erS n) (fun h => absurd h hno) fun _ => rfl
 have ht : TOk (SC r) (tLe (RS2 b off n cap) (erS n)) := (((tAw_ok hm).cons (eVal_ok rfl e3)).cons (eVal_ok rfl e2)).cons (eVal_ok rfl e1)
 have fin : ∀ {e : Int}, TOk (SC r) (tLe (RS2 b off n cap) e) → (∀ (kn : KS) (kx : Nat → KS) (KR : OV → List Nat → OO → CR), run (SC r) 4093 83 1 Yl_r (lvlT (SC r) (tLe (RS2 b off n cap) e) .nil 1 1) none kn kx (rbK 0 [2] [] KR) [] (bT [3] [some (RS2 b off n cap)] .nil) [] (mkA []) = KR [some (.bool true)] [] []) → ReachG Tryd.prog 4093 83 F kk γ W Yl_r r (St.of [3] [some (RS2 b off n cap)] [] []) (CanG Tryd.prog 4093 83 γ W ⟨[2], fun r1 vs ms os => vs = [some (.bool true)] ∧ ms = [] ∧ os = []⟩ ox ⟨[2], fun r1 vs ms os => vs = [some (.bool true)] ∧ ms = [] ∧ os = []⟩) := fun {e} ht h =>
  ReachG.segR (SC_ok r) ht (tm := .nil) (L := 1) (L' := 1) (d := 1) (n0 := 0) hF hro h0' [] (on := Outs.no) (ox := fun _ => Outs.no) (orr := ⟨[2], [], fun vs ms os => vs = [some (.bool true)] ∧ ms = [] ∧ os = []⟩) (fun p hp => nomatch hp) ((h _ _ _).trans (qq_ok ⟨rfl, rfl, rfl⟩)) (fun _ _ _ h => h.elim) (fun _ _ _ _ h => h.elim) (fun vs ms os h => IsG.here h)
 unfold erS at ht
 by_cases c : n ≤ 12
 ·rw [if_pos c] at ht
  exact fin ht fun kn kx KR => by
   have hn' := ylE1 r b off n cap
   simp only [sv_rfl, cond_true] at hn'
   exact hn' _ _ _
 ·rw [if_neg c] at ht
  exact fin ht fun kn kx KR => by
   have hn' := ylE2 r b off n cap
   simp only [sv_rfl, cond_true] at hn'
   exact hn' _ _ _
end
section
variable {r : Mem} {b off n cap m : Nat} {z : Nat → Int} (hm : ∀ b j u, tabM b j = some u → r b j = some u)
include hm
theorem yl_row (hl : n ≤ cap) (hc : cap ≤ maxLen) (hmn : m = min n 13) (h1 : 1 ≤ m) (hz : rowAt r b off (2 * m) z) (hzz : ∀ j, m ≤ j → ea z j = 0 ∧ eb z j = 0) : GrT Tryd.prog r 3 [RS2 b off n cap] (.bool true) := by
 refine SOkG.grT rfl rfl (S := fun _ _ _ => True) (callOG SC_ok (by kernel_rfl) ((bodySC r _).trans Yl_eq) (nt := 83) (by kernel_rfl) (rs := [.tmp 2]) (by kernel_rfl) 4093 rfl ⟨[2], fun r1 vs ms os => vs = [some (.bool true)] ∧ ms = [] ∧ os = []⟩ ?_ fun γ W F kk hwr hF hro h0' => ?_)
 ·rintro r1 vs ms os ⟨rfl, rfl, rfl⟩
  exact ⟨_, mkA [], by kernel_rfl, rfl⟩
 have h0' : ∀ i, 0 ≤ i → γ i = none := h0'
 refine ReachG.seqC (o1 := ⟨[0], fun r1 vs ms os => r1 = r ∧ vs = [some (RS2 b off n cap)] ∧ ms = [] ∧ os = []⟩) (ReachG.segR (SC_ok r) TOk.nil (tm := .nil) (L := 1) (L' := 1) (d := 1) (n0 := 0) hF hro h0' [] (on := ⟨[0], [], fun vs ms os => vs = [some (RS2 b off n cap)] ∧ ms = [] ∧ os = []⟩) (ox := fun _ => Outs.no) (orr := Outs.no) (fun p hp => nomatch hp) ((ylA r b off n cap _ _ _ _).trans (qq_ok ⟨rfl, rfl, rfl⟩)) (fun vs ms os h => IsG.here ⟨rfl, h⟩) (fun _ _ _ _ h => h.elim) (fun _ _ _ h => h.elim)) fun r1 vs ms os hq => ?_
 obtain ⟨rfl, rfl, rfl, rfl⟩ := hq
 have hxn : m_nns (ixN z (2 * m)) = true := ix_nn _ _
 refine ReachG.seqC (o1 := ⟨[3], fun r2 vs ms os => ∃ b' o', Mem.le r1 r2 ∧ rowAt r2 b' o' (2 * m) z ∧ vs = [some (RS2 b' o' m 0)] ∧ ms = [] ∧ os = []⟩) (ReachG.segR (SC_ok r1) (t := tLs (RS2 b off n cap) m (ixN z (2 * m))) (TOk.nil.cons (eSp_ok hl hc hmn h1 hz)) (tm := .nil) (L := 1) (L' := 1) (d := 1) (n0 := 0) hF hro h0' [] (on := ⟨[3], [], fun vs ms os => vs = [some (gw 0 m)] ∧ ms = [] ∧ os = [oPr (ixN z (2 * m)) 0]⟩) (ox := fun _ => Outs.no) (orr := Outs.no) (fun p hp => nomatch hp) ?_ ?_ (fun _ _ _ _ h => h.elim) (fun _ _ _ h => h.elim)) fun r2 vs ms os hq => ?_
 ·have hn' := ylB r1 b off n cap m (ixN z (2 * m))
  simp only [sv_rfl, hxn, Bool.and_true, cond_true] at hn'
  exact (hn' _ _ _).trans (qq_ok ⟨rfl, rfl, rfl⟩)
 ·rintro vs ms os ⟨rfl, rfl, rfl⟩
  refine IsG.freeze (os0 := []) (j := 0) h0' rfl (Nat.zero_le _) rfl hxn fun b' o' r2 hle2 hrow => ?_
  have hf := frz_u 0 b' o' m
  exact ⟨[some (RS2 b' o' m 0)], [], by simp only [frzO, hf], rfl, b', o', hle2, fun j hj => hrow j _ (ix_get hj), rfl, rfl, rfl⟩
 obtain ⟨b', o', hle, hz', rfl, rfl, rfl⟩ := hq
 have hm2 : ∀ b j u, tabM b j = some u → r2 b j = some u := fun b j u h => hle _ _ _ (hm _ _ _ h)
 by_cases hok : m ≤ 12 ∧ okS z m
 ·exact yl_go hm2 hz' h1 hok.1 (fun j => by
   by_cases d : j < m
   ·exact hok.2 j d
   ·obtain ⟨e1, e2⟩ := hzz j (by omega)
    omega) hF hro h0'
 ·exact yl_bad hm2 hz' (by omega) (fun h => hok h.2) hF hro h0'
end
theorem yl_nil {r : Mem} (h : TOk (SC r) tAw) : GrT Tryd.prog r 3 [nilT] (.bool true) := GrT.of (SC_ok r) h .nil rfl ⟨2, 8, by rw [ylN]; rfl⟩
theorem yl_0 {r : Mem} {b off cap : Nat} (h : TOk (SC r) (tL0 (RS2 b off 0 cap))) : GrT Tryd.prog r 3 [RS2 b off 0 cap] (.bool true) := GrT.of (SC_ok r) h .nil rfl ⟨2, 8, by rw [yl0, sv_rfl, cond_true]; rfl⟩
theorem yl_n {r : Mem} (hm : ∀ b j u, tabM b j = some u → r b j = some u) {b off n cap : Nat} (hl : n ≤ cap) (hc : cap ≤ maxLen) (c0 : ¬ n = 0) (h : ∀ i, i < cap * 2 → ∃ u, r b (off + i) = some u ∧ ArgInt .i64 u) : GrT Tryd.prog r 3 [RS2 b off n cap] (.bool true) := by
 generalize hmd : min n 13 = m
 have h1 : 1 ≤ m := by omega
 have hmc : m ≤ n := by omega
 let z : Nat → Int := fun j => if j < 2 * m then ofI ((r b (off + j)).getD undef) else 0
 refine yl_row (z := z) hm hl hc hmd.symm h1 (fun j hj => ?_) fun j hj => ⟨if_neg (by omega), if_neg (by omega)⟩
 obtain ⟨u, hu, w, rfl, _⟩ := h j (by omega)
 have hzj : z j = ofI ((r b (off + j)).getD undef) := if_pos hj
 rw [hzj, hu]
 rfl
theorem law_from (r : Mem) (hm : ∀ b j u, tabM b j = some u → r b j = some u) (u0 : Value) (s0 : ArgRowT r 2 (ArgInt .i64) u0) : GrT Tryd.prog r 3 [u0] (.bool true) := by
 cases s0 with
 | nil => exact yl_nil (tAw_ok hm)
 | row b off n cap hl hc h =>
  by_cases c0 : n = 0
  ·subst c0
   exact yl_0 ((tAw_ok hm).cons (eVal_ok rfl (sp_0 (r := r) (b := b) (off := off) hc)))
  ·exact yl_n hm hl hc c0 h

end Go.Proofs

