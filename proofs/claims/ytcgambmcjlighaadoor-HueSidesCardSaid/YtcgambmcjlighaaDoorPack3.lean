/- What the claim is proved with, part 3: the evaluator and the contracts of the calls. -/
import Derived.Test.YtcgambmcjlighaaDoorPack1
import Derived.Test.YtcgambmcjlighaaDoorPack2
set_option linter.unusedVariables false
set_option linter.unusedSimpArgs false
set_option maxRecDepth 100000
namespace Go.Proofs
open Go Go.Ev
noncomputable abbrev CC (r : Mem) : Cfg := Cfg.ofRo Tryd.prog r
theorem CC_ok (r : Mem) : (CC r).Ok := Cfg.ofRo_ok evMixed evNames r
end Go.Proofs
namespace Go.Proofs
open Go Go.Ev Go.Num
theorem gw_3 : (lvlT (CC fun _ _ => none) (fun _ => none) .nil 50 10).call 54 [.slice none 0 0, I 3] emptyA finM = .ret (.slice (some ⟨0, 0, none⟩) 0 unk) (rowA (m_zr 3) 3 1) := by kernel_rfl
theorem gw_5 : (lvlT (CC fun _ _ => none) (fun _ => none) .nil 50 10).call 54 [.slice none 0 0, I 5] emptyA finM = .ret (.slice (some ⟨0, 0, none⟩) 0 unk) (rowA (m_zr 5) 3 1) := by kernel_rfl
theorem gw_7 : (lvlT (CC fun _ _ => none) (fun _ => none) .nil 50 10).call 54 [.slice none 0 0, I 7] emptyA finM = .ret (.slice (some ⟨0, 0, none⟩) 0 unk) (rowA (m_zr 7) 3 1) := by kernel_rfl
theorem gw_9 : (lvlT (CC fun _ _ => none) (fun _ => none) .nil 50 10).call 54 [.slice none 0 0, I 9] emptyA finM = .ret (.slice (some ⟨0, 0, none⟩) 0 unk) (rowA (m_zr 9) 3 1) := by kernel_rfl
theorem gw_11 : (lvlT (CC fun _ _ => none) (fun _ => none) .nil 50 10).call 54 [.slice none 0 0, I 11] emptyA finM = .ret (.slice (some ⟨0, 0, none⟩) 0 unk) (rowA (m_zr 11) 3 1) := by kernel_rfl
theorem gw_13 : (lvlT (CC fun _ _ => none) (fun _ => none) .nil 50 10).call 54 [.slice none 0 0, I 13] emptyA finM = .ret (.slice (some ⟨0, 0, none⟩) 0 unk) (rowA (m_zr 13) 3 1) := by kernel_rfl
theorem gw_15 : (lvlT (CC fun _ _ => none) (fun _ => none) .nil 50 10).call 54 [.slice none 0 0, I 15] emptyA finM = .ret (.slice (some ⟨0, 0, none⟩) 0 unk) (rowA (m_zr 15) 3 1) := by kernel_rfl
theorem gw_17 : (lvlT (CC fun _ _ => none) (fun _ => none) .nil 50 10).call 54 [.slice none 0 0, I 17] emptyA finM = .ret (.slice (some ⟨0, 0, none⟩) 0 unk) (rowA (m_zr 17) 3 1) := by kernel_rfl
theorem gw_19 : (lvlT (CC fun _ _ => none) (fun _ => none) .nil 50 10).call 54 [.slice none 0 0, I 19] emptyA finM = .ret (.slice (some ⟨0, 0, none⟩) 0 unk) (rowA (m_zr 19) 3 1) := by kernel_rfl
theorem gw_21 : (lvlT (CC fun _ _ => none) (fun _ => none) .nil 50 10).call 54 [.slice none 0 0, I 21] emptyA finM = .ret (.slice (some ⟨0, 0, none⟩) 0 unk) (rowA (m_zr 21) 3 1) := by kernel_rfl
theorem gw_23 : (lvlT (CC fun _ _ => none) (fun _ => none) .nil 50 10).call 54 [.slice none 0 0, I 23] emptyA finM = .ret (.slice (some ⟨0, 0, none⟩) 0 unk) (rowA (m_zr 23) 3 1) := by kernel_rfl
theorem gw_25 : (lvlT (CC fun _ _ => none) (fun _ => none) .nil 50 10).call 54 [.slice none 0 0, I 25] emptyA finM = .ret (.slice (some ⟨0, 0, none⟩) 0 unk) (rowA (m_zr 25) 3 1) := by kernel_rfl
theorem gw_27 : (lvlT (CC fun _ _ => none) (fun _ => none) .nil 50 10).call 54 [.slice none 0 0, I 27] emptyA finM = .ret (.slice (some ⟨0, 0, none⟩) 0 unk) (rowA (m_zr 27) 3 1) := by kernel_rfl
theorem gw_29 : (lvlT (CC fun _ _ => none) (fun _ => none) .nil 50 10).call 54 [.slice none 0 0, I 29] emptyA finM = .ret (.slice (some ⟨0, 0, none⟩) 0 unk) (rowA (m_zr 29) 3 1) := by kernel_rfl
theorem gw_31 : (lvlT (CC fun _ _ => none) (fun _ => none) .nil 50 10).call 54 [.slice none 0 0, I 31] emptyA finM = .ret (.slice (some ⟨0, 0, none⟩) 0 unk) (rowA (m_zr 31) 3 1) := by kernel_rfl
theorem grow_ok {n : Int} (h : m_grG n = true) : GrM Tryd.prog (fun _ _ => none) 54 [.slice none 0 0, I n] (.slice (some ⟨0, 0, none⟩) 0 unk) (rowA (m_zr n) 3 1) := by
 have h := of_decide_eq_true h
 have : n = 3 ∨ n = 5 ∨ n = 7 ∨ n = 9 ∨ n = 11 ∨ n = 13 ∨ n = 15 ∨ n = 17 ∨ n = 19 ∨ n = 21 ∨ n = 23 ∨ n = 25 ∨ n = 27 ∨ n = 29 ∨ n = 31 := by omega
 rcases this with rfl | rfl | rfl | rfl | rfl | rfl | rfl | rfl | rfl | rfl | rfl | rfl | rfl | rfl | rfl
 ·exact GrM.of (CC_ok _) TOk.nil .nil ⟨50, 10, gw_3⟩
 ·exact GrM.of (CC_ok _) TOk.nil .nil ⟨50, 10, gw_5⟩
 ·exact GrM.of (CC_ok _) TOk.nil .nil ⟨50, 10, gw_7⟩
 ·exact GrM.of (CC_ok _) TOk.nil .nil ⟨50, 10, gw_9⟩
 ·exact GrM.of (CC_ok _) TOk.nil .nil ⟨50, 10, gw_11⟩
 ·exact GrM.of (CC_ok _) TOk.nil .nil ⟨50, 10, gw_13⟩
 ·exact GrM.of (CC_ok _) TOk.nil .nil ⟨50, 10, gw_15⟩
 ·exact GrM.of (CC_ok _) TOk.nil .nil ⟨50, 10, gw_17⟩
 ·exact GrM.of (CC_ok _) TOk.nil .nil ⟨50, 10, gw_19⟩
 ·exact GrM.of (CC_ok _) TOk.nil .nil ⟨50, 10, gw_21⟩
 ·exact GrM.of (CC_ok _) TOk.nil .nil ⟨50, 10, gw_23⟩
 ·exact GrM.of (CC_ok _) TOk.nil .nil ⟨50, 10, gw_25⟩
 ·exact GrM.of (CC_ok _) TOk.nil .nil ⟨50, 10, gw_27⟩
 ·exact GrM.of (CC_ok _) TOk.nil .nil ⟨50, 10, gw_29⟩
 ·exact GrM.of (CC_ok _) TOk.nil .nil ⟨50, 10, gw_31⟩
theorem zr_gnd (n : Int) : gnds (m_zr n) = true := by
 unfold m_zr
 generalize n.toNat = k
 induction k with
 | zero => rfl
 | succ k ih => rw [List.replicate_succ]; exact ih
theorem eGr_ok (r : Mem) : EOk (SC r) 54 eGr := fun args A hgd F hF kk γ W args' hw hR ha => by
 refine ⟨fun _ => ?_, fun h => nomatch h⟩
 dsimp only [eGr] at hgd ⊢
 split at hgd
 ·rename_i n
  have hof : ofV 0 (.slice (some ⟨0, 0, none⟩) 0 unk) = true := by simp [ofV, of1]
  exact (grow_ok hgd).ends (γ := γ) (A := A) hof (zr_gnd _) hF hw (fun b j u h => nomatch h) (ha.of_ros (by rfl)) ha
 ·cases hgd
def rvK (L : List Nat) (k t : Nat) : Nat := if t < k ∨ L.length - k ≤ t then L.getD (L.length - 1 - t) 0 else L.getD t 0
def rvL (L : List Nat) (k : Nat) : List Nat := (List.range L.length).map (rvK L k)
theorem rvL_len (L : List Nat) (k : Nat) : (rvL L k).length = L.length := by simp [rvL]
theorem rvL_get (L : List Nat) (k : Nat) {t : Nat} (h : t < L.length) : (rvL L k)[t]? = some (rvK L k t) := by
 unfold rvL
 rw [List.getElem?_map, List.getElem?_range h]
 rfl
theorem rvL_zero (L : List Nat) : rvL L 0 = L := by
 apply List.ext_getElem?
 intro t
 by_cases h : t < L.length
 ·rw [rvL_get L 0 h, rvK, if_neg (by omega), List.getD_eq_getElem?_getD, List.getElem?_eq_getElem h]
  rfl
 ·rw [List.getElem?_eq_none (by rw [rvL_len]; omega), List.getElem?_eq_none (by omega)]
theorem rvL_end (L : List Nat) (k : Nat) (h : L.length ≤ 2 * k + 1) : rvL L k = L.reverse := by
 apply List.ext_getElem?
 intro t
 by_cases c : t < L.length
 ·rw [rvL_get L k c, List.getElem?_reverse c, rvK]
  have e : L[L.length - 1 - t]? = some (L.getD (L.length - 1 - t) 0) := by
   rw [List.getD_eq_getElem?_getD, List.getElem?_eq_getElem (by omega)]
   rfl
  by_cases d : t < k ∨ L.length - k ≤ t
  ·rw [if_pos d, e]
  ·rw [if_neg d, e, show L.length - 1 - t = t by omega]
 ·rw [List.getElem?_eq_none (by rw [rvL_len]; omega), List.getElem?_eq_none (by rw [List.length_reverse]; omega)]
theorem rvL_set (L : List Nat) (k : Nat) (h : 2 * k + 1 < L.length) : ((rvL L k).set k (L.getD (L.length - 1 - k) 0)).set (L.length - 1 - k) (L.getD k 0) = rvL L (k + 1) := by
 apply List.ext_getElem?
 intro t
 by_cases c : t < L.length
 ·rw [List.getElem?_set, List.getElem?_set, rvL_get L k c, rvL_get L (k + 1) c, List.length_set, rvL_len]
  unfold rvK
  by_cases e1 : L.length - 1 - k = t
  ·subst e1
   rw [if_pos rfl, if_pos (by omega), if_pos (by omega), show L.length - 1 - (L.length - 1 - k) = k by omega]
  ·rw [if_neg e1]
   by_cases e2 : k = t
   ·subst e2
    rw [if_pos rfl, if_pos (by omega), if_pos (by omega)]
   ·rw [if_neg e2]
    by_cases d : t < k ∨ L.length - k ≤ t
    ·rw [if_pos d, if_pos (by omega)]
    ·rw [if_neg d, if_neg (by omega)]
 ·rw [List.getElem?_eq_none (by rw [List.length_set, List.length_set, rvL_len]; omega), List.getElem?_eq_none (by rw [rvL_len]; omega)]
theorem rev_ok (r : Mem) {c1 : List Value} (h1 : m_nns c1 = true) (L : List Nat) (hL : L.length < 1000000) :
  SOk (SC r) 41 [rowQ 1 L.length] (mkA (oOz c1 (m_ws L))) fun v A => v = .tuple ⟨[]⟩ ∧ A = mkA (oOz c1 (m_ws L.reverse)) := by
 have hnx : ∀ c, (mkA (oOz c1 c)).next = 2 := fun c => by kernel_rfl
 refine callO (SC_ok r) (by kernel_rfl) ((bodySC r _).trans Rv_eq) (nt := 28) (by kernel_rfl) (rs := []) (by kernel_rfl) 13 rfl
  ⟨[], [.g, .g], fun vs ms os => vs = [] ∧ ms = [] ∧ os = oOz c1 (m_ws L.reverse)⟩ ?_ fun γ W F kk hwr hF hro h0' => ?_
 ·rintro vs ms os ⟨rfl, rfl, rfl⟩
  exact ⟨.tuple ⟨[]⟩, mkA (oOz c1 (m_ws L.reverse)), by kernel_rfl, rfl, rfl⟩
 rw [hnx] at h0'
 refine Go.Ev.Reach.afterR (SC_ok r) TOk.nil (tm := .nil) (L := 1) (L' := 1) (d := 1) hF hro h0' .base
  (o1 := ⟨[0, 2, 3], [.g, .g], fun vs ms os => vs = [some (rowQ 1 L.length), some (I (0 : Nat)), some (I ((L.length : Int) - 1 - (0 : Nat)))] ∧ ms = [] ∧ os = oOz c1 (m_ws (rvL L 0))⟩) [] (fun p hp => nomatch hp) ?_ ?_
 ·rintro vs ms os ⟨rfl, rfl, rfl⟩
  refine Go.Ev.Reach.blockC (Go.Ev.Reach.loopC (j := L.length) (lv := [0, 2, 3]) (fl := [.g, .g]) (I := fun j vs ms os => ∃ k : Nat, j = L.length - k ∧ (k = 0 ∨ 2 * k ≤ L.length) ∧ vs = [some (rowQ 1 L.length), some (I (k : Nat)), some (I ((L.length : Int) - 1 - (k : Nat)))] ∧ ms = [] ∧ os = oOz c1 (m_ws (rvL L k))) (fun j vs ms os hI => ?_) ⟨0, rfl, .inl rfl, rfl, rfl, rfl⟩)
  obtain ⟨k, rfl, hk, rfl, rfl, rfl⟩ := hI
  refine Go.Ev.Reach.segR (SC_ok r) TOk.nil (tm := .nil) (L := 1) (L' := 1) (d := 1) hF hro h0' [(0, ⟨[], [.g, .g], fun vs ms os => vs = [] ∧ ms = [] ∧ os = oOz c1 (m_ws L.reverse)⟩)] (fun p hp => by simp only [List.mem_cons, List.not_mem_nil, or_false] at hp; subst hp; rfl) ?_
  have hn := rvB r L.length c1 (m_ws (rvL L k)) (k : Nat) ((L.length : Int) - 1 - (k : Nat))
  by_cases c : 2 * k + 1 < L.length
  ·have ej : (L.length : Int) - 1 - (k : Nat) = ((L.length - 1 - k : Nat) : Int) := by omega
   have ej' : IntKind.wrap IntKind.i64 (((L.length - 1 - k : Nat) : Int) - Int.ofNat 1) = (L.length : Int) - 1 - ((k + 1 : Nat) : Nat) := by rw [wrI (by simp; omega)]; simp; omega
   have g1 : (m_ws (rvL L k))[Nat.add 0 (Nat.mul (L.length - 1 - k) 1)]? = some (I (L.getD (L.length - 1 - k) 0 : Nat)) := by
    rw [ws_get (by rw [rvL_len]; omega), List.getD_eq_getElem?_getD, rvL_get L k (by omega), rvK, if_neg (by omega)]
    rfl
   have g2 : (m_ws (rvL L k))[Nat.add 0 (Nat.mul k 1)]? = some (I (L.getD k 0 : Nat)) := by
    rw [ws_get (by rw [rvL_len]; omega), List.getD_eq_getElem?_getD, rvL_get L k (by omega), rvK, if_neg (by omega)]
    rfl
   have ei : ∀ (k : IntKind) (z : Int), m_eqv (.int k z) (.int k z) = true := fun k z => by simp [m_eqv, veq]
   have b1 : Nat.blt (Nat.add 0 (Nat.mul k 1)) (m_ws (rvL L k)).length = true := Nat.ble_eq_true_of_le (by rw [ws_len, rvL_len]; simp; omega)
   have b2 : ∀ x : Nat, Nat.blt (Nat.add 0 (Nat.mul (L.length - 1 - k) 1)) (m_ws ((rvL L k).set k x)).length = true := fun x => Nat.ble_eq_true_of_le (by rw [ws_len, List.length_set, rvL_len]; simp; omega)
   rw [ej] at hn ⊢
   simp only [dT (show ((k : Nat) : Int) < ((L.length - 1 - k : Nat) : Int) by omega), dT (show 0 ≤ ((L.length - 1 - k : Nat) : Int) by omega), dT (show 0 ≤ ((k : Nat) : Int) by omega), Int.toNat_natCast, show Nat.blt (L.length - 1 - k) L.length = true from Nat.ble_eq_true_of_le (by omega), show Nat.blt k L.length = true from Nat.ble_eq_true_of_le (by omega), g1, g2, show ∀ x, isI IntKind.i64 (I x) = true from fun _ => rfl, show ∀ x, ofI (I x) = x from fun _ => rfl, b1, ws_set, b2, ei, rvL_set L k c, h1, ws_nn, aInc (show k < 1000000 by omega), ej', Bool.and_self, cond_true] at hn
   exact (hn _ _ _ _).trans (qq_ok ⟨L.length - (k + 1), by omega, k + 1, rfl, .inr (by omega), rfl, rfl, rfl⟩)
  ·simp only [dF (show ¬ ((k : Nat) : Int) < (L.length : Int) - 1 - (k : Nat) by omega), h1, ws_nn, Bool.and_self, cond_true, cond_false] at hn
   exact (hn _ _ _ _).trans (qq_ok ⟨rfl, rfl, by rw [rvL_end L k (by omega)]; rfl⟩)
 ·have hn := rvA r L.length c1 (m_ws L)
  have e0 : IntKind.wrap IntKind.i64 (Int.ofNat L.length - Int.ofNat 1) = (L.length : Int) - 1 - (0 : Nat) := by rw [wrI (by simp; omega)]; simp
  simp only [e0, h1, ws_nn, Bool.and_self, cond_true] at hn
  exact (hn _ _ _ _).trans (qq_ok ⟨rfl, rfl, by rw [rvL_zero]; rfl⟩)
theorem fL_getB (d b : Nat → Nat) : ∀ x, x < 16 → (fL d b)[Nat.add 16 (Nat.mul x 1)]? = some (I (b x : Nat))
 | 0, _ => rfl | 1, _ => rfl | 2, _ => rfl | 3, _ => rfl | 4, _ => rfl | 5, _ => rfl | 6, _ => rfl | 7, _ => rfl | 8, _ => rfl | 9, _ => rfl | 10, _ => rfl | 11, _ => rfl | 12, _ => rfl | 13, _ => rfl | 14, _ => rfl | 15, _ => rfl
 | x + 16, h => absurd h (by omega)
theorem od_stop {b : Nat → Nat} {f n K x y : Nat} (e : x = y) (h : mtN b f x y + n = K) : n = K := by
 subst e
 cases f with
 | zero => rw [mtN] at h; omega
 | succ f => rw [mtN, if_pos rfl] at h; omega
theorem od_next {w : Nat → Nat} {m : Nat} {d b p : Nat → Nat} (hF : FoE w m d b p) {f n K x y : Nat} (hx : x < m) (hy : y < m) (hd : d x = d y) (hp : p x = p y) (hf : d x < f) (h : mtN b f x y + n = K) (e : x ≠ y) : ∃ f', f = f' + 1 ∧ d x ≠ 0 ∧ mtN b f' (b x) (b y) + (n + 1) = K := by
 have h0 : d x ≠ 0 := fun c => e (by
  have h1 := (hF.root _ hx).2.2 c
  have h2 := (hF.root _ hy).2.2 (by omega)
  omega)
 cases f with
 | zero => omega
 | succ f =>
  rw [mtN, if_neg e] at h
  exact ⟨f, rfl, h0, by omega⟩
theorem od_rnd1 (r : Mem) (d b : Nat → Nat) (v u : Nat) (hv : v < 16) (hu : u < 16) (e : v ≠ u) (fs : FnsC) (K : OV → List Nat → OO → CR) (KX : Nat → OV → List Nat → OO → CR) (kr : KS) : run (SC r) 2047 52 1 Od_6 fs none (rbK 0 lvOd [.g, .g, .g] K) (fun j => rbK 0 [7, 8, 9] [.g, .g] (KX j)) kr [] (bT lvOd (vOdN (v : Nat) (u : Nat)) .nil) [] (mkA (oOd d b)) = K (vOdR 1 (itN b 1 v : Nat) (itN b 1 u : Nat)) [] (oOdR d b (m_ws (chL b v 1)) (m_ws (chL b u 1))) := by
 have hn := odB1 r d b (v : Nat) (u : Nat) fs K KX kr
 have ne : (((v : Nat) : Int) != ((u : Nat) : Int)) = true := by simp; omega
 simp only [ne, dT (show 0 ≤ ((v : Nat) : Int) by omega), dT (show 0 ≤ ((u : Nat) : Int) by omega), Int.toNat_natCast, show Nat.blt v 16 = true from Nat.ble_eq_true_of_le hv, show Nat.blt u 16 = true from Nat.ble_eq_true_of_le hu, fL_getB d b v hv, fL_getB d b u hu, show ∀ x, isI IntKind.i64 (I x) = true from fun _ => rfl, show ∀ x, ofI (I x) = x from fun _ => rfl, fL_nn, ws_nn, Bool.and_self, cond_true] at hn
 exact hn
theorem od_rnd2 (r : Mem) (d b : Nat → Nat) (n v u x y : Nat) (hn1 : n < 1000) (hv : x < 16) (hu : y < 16) (ex : itN b n v = x) (ey : itN b n u = y) (e : x ≠ y) (fs : FnsC) (K : OV → List Nat → OO → CR) (KX : Nat → OV → List Nat → OO → CR) (kr : KS) : run (SC r) 2047 52 1 Od_6 fs none (rbK 0 lvOd [.g, .g, .g] K) (fun j => rbK 0 [7, 8, 9] [.g, .g] (KX j)) kr [] (bT lvOd (vOdR n (x : Nat) (y : Nat)) .nil) [] (mkA (oOdR d b (m_ws (chL b v n)) (m_ws (chL b u n)))) = K (vOdR (n + 1) (itN b (n + 1) v : Nat) (itN b (n + 1) u : Nat)) [] (oOdR d b (m_ws (chL b v (n + 1))) (m_ws (chL b u (n + 1)))) := by
 have t1 : takeAt (m_ws (chL b v n)) 0 (Nat.mul n 1) = some (m_ws (chL b v n)) := by have := ws_take [] (chL b v n); rwa [chL_len] at this
 have t2 : takeAt (m_ws (chL b u n)) 0 (Nat.mul n 1) = some (m_ws (chL b u n)) := by have := ws_take [] (chL b u n); rwa [chL_len] at this
 have hn := odB2 r d b n (m_ws (chL b v n)) (m_ws (chL b u n)) x y fs K KX kr
 have ne : (((x : Nat) : Int) != ((y : Nat) : Int)) = true := by simp; omega
 have m1 : Nat.ble (Nat.add n 1) 1000000 = true := Nat.ble_eq_true_of_le (by simp only [Nat.add_eq]; omega)
 simp only [ne, m1, t1, t2, dT (show 0 ≤ ((x : Nat) : Int) by omega), dT (show 0 ≤ ((y : Nat) : Int) by omega), Int.toNat_natCast, show Nat.blt x 16 = true from Nat.ble_eq_true_of_le hv, show Nat.blt y 16 = true from Nat.ble_eq_true_of_le hu, fL_getB d b _ hv, fL_getB d b _ hu, show ∀ x, isI IntKind.i64 (I x) = true from fun _ => rfl, show ∀ x, ofI (I x) = x from fun _ => rfl, ws_app, fL_nn, ws_nn, Bool.and_self, cond_true] at hn
 have e1 : chL b v (n + 1) = chL b v n ++ [x] := by rw [← ex]; rfl
 have e2 : chL b u (n + 1) = chL b u n ++ [y] := by rw [← ey]; rfl
 have e3 : itN b (n + 1) v = b x := by rw [← ex]; rfl
 have e4 : itN b (n + 1) u = b y := by rw [← ey]; rfl
 rw [e1, e2, e3, e4]
 exact hn
theorem od_rnd3 (r : Mem) (d b : Nat → Nat) (n v u x : Nat) (fs : FnsC) (K : OV → List Nat → OO → CR) (KX : Nat → OV → List Nat → OO → CR) (kr : KS) : run (SC r) 2047 52 1 Od_6 fs none (rbK 0 lvOd [.g, .g, .g] K) (fun j => rbK 0 [7, 8, 9] [.g, .g] (KX j)) kr [] (bT lvOd (vOdR n (x : Nat) (x : Nat)) .nil) [] (mkA (oOdR d b (m_ws (chL b v n)) (m_ws (chL b u n)))) = KX 0 [some (rowQ 0 n), some (rowQ 1 n), some (I (x : Nat))] [] (oOz (m_ws (chL b v n)) (m_ws (chL b u n))) := by
 have hn := odB2 r d b n (m_ws (chL b v n)) (m_ws (chL b u n)) x x fs K KX kr
 have ne : (((x : Nat) : Int) != ((x : Nat) : Int)) = false := by simp
 simp only [ne, ws_nn, Bool.and_self, cond_true, cond_false] at hn
 exact hn
theorem od_end (r : Mem) (b : Nat → Nat) (v u k : Nat) (hk : k + 1 ≤ 15) (K : OV → List Nat → OO → CR) (kx : Nat → KS) (KR : OV → List Nat → OO → CR) : run (SC r) 2047 52 4 Od_7 (lvlT (SC r) (tRv (k + 1) (m_ws (chL b v (k + 1))) (m_ws (chL b u (k + 1))) (m_ws (chL b u (k + 1)).reverse)) .nil 4 4) none (rbK 0 [2, 3] [.g] K) kx (rbK 0 [2, 3] [.g] KR) [] (bT [7, 8, 9] [some (rowQ 0 (k + 1)), some (rowQ 1 (k + 1)), some (I (itN b (k + 1) v : Nat))] .nil) [] (mkA (oOz (m_ws (chL b v (k + 1))) (m_ws (chL b u (k + 1))))) = KR [some (rowQ 0 (k + 1 + 1 + (k + 1))), some (.bool true)] [] [oRi (m_ws (chL b v (k + 1) ++ itN b (k + 1) v :: (chL b u (k + 1)).reverse)) 0] := by
 have hn := odC r k (m_ws (chL b v (k + 1))) (m_ws (chL b u (k + 1))) (m_ws (chL b u (k + 1)).reverse) (itN b (k + 1) v : Nat) K kx KR
 have s1 : IntKind.wrap IntKind.i64 (Int.ofNat 0 + Int.ofNat (k + 1)) = ((k + 1 : Nat) : Int) := by rw [wrI (by simp; omega)]; simp
 have s2 : IntKind.wrap IntKind.i64 (((k + 1 : Nat) : Int) + Int.ofNat 1) = ((k + 2 : Nat) : Int) := by rw [wrI (by simp; omega)]; simp; omega
 have s3 : IntKind.wrap IntKind.i64 (((k + 2 : Nat) : Int) + Int.ofNat (k + 1)) = ((2 * k + 3 : Nat) : Int) := by rw [wrI (by simp; omega)]; simp; omega
 have g : m_grG ((2 * k + 3 : Nat) : Int) = true := decide_eq_true ⟨by omega, by omega, by omega⟩
 have t1 : takeAt (m_ws (chL b v (k + 1))) 0 (Nat.mul (k + 1) 1) = some (m_ws (chL b v (k + 1))) := by have := ws_take [] (chL b v (k + 1)); rwa [chL_len] at this
 have t3 : takeAt (m_ws (chL b u (k + 1)).reverse) 0 (Nat.mul (k + 1) 1) = some (m_ws (chL b u (k + 1)).reverse) := by have := ws_take [] (chL b u (k + 1)).reverse; rwa [List.length_reverse, chL_len] at this
 have t0 : ∀ c, takeAt c 0 0 = some [] := fun c => by rw [takeAt_old]; cases c <;> rfl
 have t4 : takeAt (m_ws (chL b v (k + 1))) 0 (Nat.mul (Nat.add 0 (k + 1)) 1) = some (m_ws (chL b v (k + 1))) := by rw [show Nat.add 0 (k + 1) = k + 1 by simp]; exact t1
 have t5 : takeAt (m_ws (chL b v (k + 1) ++ [itN b (k + 1) v])) 0 (Nat.mul (Nat.add (Nat.add 0 (k + 1)) 1) 1) = some (m_ws (chL b v (k + 1) ++ [itN b (k + 1) v])) := by
  have := ws_take [] (chL b v (k + 1) ++ [itN b (k + 1) v])
  rw [List.length_append, chL_len] at this
  rw [show Nat.add (Nat.add 0 (k + 1)) 1 = k + 1 + [itN b (k + 1) v].length by simp]
  exact this
 have l1 : Nat.beq (m_ws (chL b v (k + 1))).length (Nat.mul (k + 1) 1) = true := by rw [ws_len, chL_len]; simp
 have l3 : Nat.beq (m_ws (chL b u (k + 1)).reverse).length (Nat.mul (k + 1) 1) = true := by rw [ws_len, List.length_reverse, chL_len]; simp
 have m1 : Nat.ble (Nat.add 0 (k + 1)) 1000000 = true := Nat.ble_eq_true_of_le (by simp; omega)
 have m2 : Nat.ble (Nat.add (Nat.add 0 (k + 1)) 1) 1000000 = true := Nat.ble_eq_true_of_le (by simp; omega)
 have m3 : Nat.ble (Nat.add (Nat.add (Nat.add 0 (k + 1)) 1) (k + 1)) 1000000 = true := Nat.ble_eq_true_of_le (by simp; omega)
 have ap : m_ws (chL b v (k + 1) ++ [itN b (k + 1) v]) ++ m_ws (chL b u (k + 1)).reverse = m_ws (chL b v (k + 1) ++ itN b (k + 1) v :: (chL b u (k + 1)).reverse) := by unfold m_ws; simp
 have on : ∀ ws : List Nat, ones (m_ws ws) = true := fun ws => by
  induction ws with
  | nil => rfl
  | cons w l ih => exact ih
 rw [at_rfl] at hn
 simp only [s1, s2, s3, g, dF (show ¬ ((k + 1 : Nat) : Int) < 0 by omega), dF (show ¬ ((k + 2 : Nat) : Int) < 0 by omega), dF (show ¬ ((2 * k + 3 : Nat) : Int) < 0 by omega), t1, t3, t0, t4, l1, l3, m1, m2, m3, on, List.nil_append, ws_app, t5, ap, ws_nn, Bool.and_self, cond_true, cond_false] at hn
 rw [show Nat.add (Nat.add (Nat.add 0 (k + 1)) 1) (k + 1) = k + 1 + 1 + (k + 1) by simp] at hn
 exact hn
theorem oddR_core (r : Mem) {w d b p : Nat → Nat} {m : Nat} (hm16 : m ≤ 16) (hF : FoE w m d b p) {v u : Nat} (hvm : v < m) (hm2 : u < m) (hd : d v = d u) (hpp : p v = p u) (hne : v ≠ u) {T : Tbl} (ht : TOk (SC r) T) (g : List Value)
  (hp : ∀ (K : OV → List Nat → OO → CR) (kx : Nat → KS) (KR : OV → List Nat → OO → CR), run (SC r) 2047 52 1 (.seq Od_0 (.seq Od_1 (.seq Od_2 (.seq Od_3 (.seq Od_4 Od_5))))) (lvlT (SC r) T .nil 1 2) none (rbK 0 lvOd [.g, .g, .g] K) kx (rbK 0 [2, 3] [.g] KR) (sc0 2047 [.agg ⟨g⟩]) (tr0 2047 [.agg ⟨g⟩]) [] emptyA = K (vOdN (v : Nat) (u : Nat)) [] (oOd d b)) :
  SOk (SC r) 28 [.agg ⟨g⟩] emptyA fun x A => x = .tuple ⟨[rowQ 0 (ringL b v u).length, .bool true]⟩ ∧ A = mkA [oRi (m_ws (ringL b v u)) 0] := by
 have hdv := dep_lt hF hm16 hvm
 obtain ⟨hK, hmeet, hdiff⟩ := mt_at hF hvm hm2 hd hpp 16 (by omega)
 unfold ringL
 generalize hKK : mtN b 16 v u = K at hK hmeet hdiff ⊢
 have hK1 : 1 ≤ K := by
  rw [← hKK, mtN, if_neg (by omega)]
  omega
 have hlen : (chL b v K ++ itN b K v :: (chL b u K).reverse).length = K + 1 + K := by simp [chL_len]; omega
 rw [hlen]
 have itm : ∀ n, n ≤ d v → itN b n v < m ∧ itN b n u < m ∧ d (itN b n v) = d v - n ∧ d (itN b n u) = d v - n ∧ p (itN b n v) = p (itN b n u) := fun n hn => by
  obtain ⟨a1, a2, a3⟩ := it_at hF hvm n hn
  obtain ⟨c1, c2, c3⟩ := it_at hF hm2 n (by omega)
  exact ⟨a1, c1, a2, by omega, by rw [a3, c3, hpp]⟩
 refine callL (SC_ok r) (by kernel_rfl) ((bodySC r _).trans Od_eq) (nt := 52) (by kernel_rfl) (rs := [.tmp 2, .tmp 3]) (by kernel_rfl) 2047 rfl (.step (.step (.step (.step (.step .flat))))) ht (tm := .nil) (L := 1) (d := 2) lvOd [.g, .g, .g]
  (fun j vs ms os => ∃ n f, j = f ∧ f + n = 16 ∧ n ≤ d v ∧ mtN b f (itN b n v) (itN b n u) + n = K ∧ ms = [] ∧ ((n = 0 ∧ vs = vOdN (v : Nat) (u : Nat) ∧ os = oOd d b) ∨ (1 ≤ n ∧ vs = vOdR n (itN b n v : Nat) (itN b n u : Nat) ∧ os = oOdR d b (m_ws (chL b v n)) (m_ws (chL b u n)))))
  ⟨[7, 8, 9], [.g, .g], fun vs ms os => vs = [some (rowQ 0 K), some (rowQ 1 K), some (I (itN b K v : Nat))] ∧ ms = [] ∧ os = oOz (m_ws (chL b v K)) (m_ws (chL b u K))⟩
  ⟨[2, 3], [.g], fun vs ms os => vs = [some (rowQ 0 (K + 1 + K)), some (.bool true)] ∧ ms = [] ∧ os = [oRi (m_ws (chL b v K ++ itN b K v :: (chL b u K).reverse)) 0]⟩ ?_ ?_ ?_ ?_
 ·exact (hp _ _ _).trans (qq_ok ⟨16, 0, 16, rfl, rfl, Nat.zero_le _, hKK, rfl, .inl ⟨rfl, rfl, rfl⟩⟩)
 ·rintro j vs ms os ⟨n, f, rfl, hf, hnd, hmt, rfl, hsh⟩
  refine ⟨_, TOk.nil, .nil, 1, 1, 1, ?_⟩
  obtain ⟨a1, a2, a3, a4, a5⟩ := itm n hnd
  have x16 : itN b n v < 16 := by omega
  have y16 : itN b n u < 16 := by omega
  have iv : ∀ x : Nat, isI IntKind.i64 (I x) = true := fun _ => rfl
  rcases hsh with ⟨rfl, rfl, rfl⟩ | ⟨hn1, rfl, rfl⟩
  ·have hne : v ≠ u := by omega
   obtain ⟨f', rfl, n1, n2⟩ := od_next hF a1 a2 (by omega) a5 (by rw [a3]; omega) hmt hne
   exact (od_rnd1 r d b v u (by omega) (by omega) hne _ _ _ _).trans (qq_ok ⟨f', by omega, 1, f', rfl, by omega, by omega, n2, rfl, .inr ⟨Nat.le_refl _, rfl, rfl⟩⟩)
  ·by_cases c : itN b n v = itN b n u
   ·have e := od_stop c hmt
    subst e
    rw [← c]
    exact (od_rnd3 r d b _ v u _ _ _ _ _).trans (qq_ok ⟨rfl, rfl, rfl⟩)
   ·obtain ⟨f', rfl, n1, n2⟩ := od_next hF a1 a2 (by omega) a5 (by rw [a3]; omega) hmt c
    exact (od_rnd2 r d b n v u _ _ (by omega) x16 y16 rfl rfl c _ _ _ _).trans (qq_ok ⟨f', by omega, n + 1, f', rfl, by omega, by omega, n2, rfl, .inr ⟨by omega, rfl, rfl⟩⟩)
 ·rintro vs ms os ⟨rfl, rfl, rfl⟩
  obtain ⟨k, rfl⟩ : ∃ k, K = k + 1 := ⟨K - 1, by omega⟩
  have hrev := rev_ok r (ws_nn (chL b v (k + 1))) (chL b u (k + 1)) (by rw [chL_len]; omega)
  rw [chL_len] at hrev
  refine ⟨tRv (k + 1) (m_ws (chL b v (k + 1))) (m_ws (chL b u (k + 1))) (m_ws (chL b u (k + 1)).reverse), TOk.cons (TOk.cons TOk.nil (eGr_ok r)) (entAt_ok hrev.one), .nil, 4, 4, 4, ?_⟩
  exact (od_end r b v u k (by omega) _ _ _).trans (qq_ok ⟨rfl, rfl, rfl⟩)
 ·rintro vs ms os ⟨rfl, rfl, rfl⟩
  exact ⟨_, mkA [oRi (m_ws (chL b v K ++ itN b K v :: (chL b u K).reverse)) 0], by kernel_rfl, rfl, rfl⟩
section
variable {r : Mem} (hm : Tab r) {m : Nat} (hm16 : m ≤ 16) {E : List (Nat × Nat)} (hE : okAll (m : Int) (zE E) E.length = true) (hL : E.length < 1000000) {e : Value} (he : EdR r E e)
include hm hm16 hE hL he
theorem od_pre (K : OV → List Nat → OO → CR) (kx : Nat → KS) (KR : OV → List Nat → OO → CR) : run (SC r) 2047 52 1 (.seq Od_0 (.seq Od_1 (.seq Od_2 (.seq Od_3 (.seq Od_4 Od_5))))) (lvlT (SC r) (tSd (hG (m : Nat) (wG (wS E)) e) (fD (wS E) m) (fB (wS E) m) (lvX E (fD (wS E) m) : Nat) (lvY E (fD (wS E) m) : Nat) (lvE E (fD (wS E) m)).isSome) .nil 1 2) none (rbK 0 lvOd [.g, .g, .g] K) kx (rbK 0 [2, 3] [.g] KR) (sc0 2047 [.agg ⟨hG (m : Nat) (wG (wS E)) e⟩]) (tr0 2047 [.agg ⟨hG (m : Nat) (wG (wS E)) e⟩]) [] emptyA =
   bif (lvE E (fD (wS E) m)).isSome then K (vOdN (lvX E (fD (wS E) m) : Nat) (lvY E (fD (wS E) m) : Nat)) [] (oOd (fD (wS E) m) (fB (wS E) m)) else KR [some (.slice none 0 0), some (.bool false)] [] [] := by
 have _ := hm
 have _ := hm16
 have _ := hE
 have _ := hL
 have sm : ∀ l : List Value, m_same l l = true := same_rfl
 rcases he with ⟨rfl, _⟩ | ⟨b0, off, cap, rfl, _⟩
 ·have hn := odA1N r (m : Nat) (wG (wS E)) (fD (wS E) m) (fB (wS E) m) (lvX E (fD (wS E) m) : Nat) (lvY E (fD (wS E) m) : Nat) (lvE E (fD (wS E) m)).isSome K kx KR
  simp only [sm, cond_true] at hn
  exact hn
 ·have hn := odA1R r (m : Nat) (wG (wS E)) b0 off E.length cap (fD (wS E) m) (fB (wS E) m) (lvX E (fD (wS E) m) : Nat) (lvY E (fD (wS E) m) : Nat) (lvE E (fD (wS E) m)).isSome K kx KR
  simp only [sm, cond_true] at hn
  exact hn
theorem oddN_ok (hl : lvE E (fD (wS E) m) = none) : GrT Tryd.prog r 28 [.agg ⟨hG (m : Nat) (wG (wS E)) e⟩] (.tuple ⟨[.slice none 0 0, .bool false]⟩) := by
 have ht := tSd_ok hm16 hE hL hm he
 have hp := od_pre hm hm16 hE hL he
 rw [hl] at hp ht
 refine GrT.ofS (C := SC r) rfl rfl rfl (callL (SC_ok r) (by kernel_rfl) ((bodySC r _).trans Od_eq) (nt := 52) (by kernel_rfl) (rs := [.tmp 2, .tmp 3]) (by kernel_rfl) 2047 rfl (.step (.step (.step (.step (.step .flat))))) ht (tm := .nil) (L := 1) (d := 2) lvOd [.g, .g, .g]
  (fun j vs ms os => False) ⟨[], [], fun vs ms os => False⟩ ⟨[2, 3], [.g], fun vs ms os => vs = [some (.slice none 0 0), some (.bool false)] ∧ ms = [] ∧ os = []⟩ ?_ ?_ ?_ ?_)
 ·exact (hp _ _ _).trans (qq_ok ⟨rfl, rfl, rfl⟩)
 ·intro j vs ms os h
  exact h.elim
 ·intro vs ms os h
  exact h.elim
 ·rintro vs ms os ⟨rfl, rfl, rfl⟩
  exact ⟨_, mkA [], by kernel_rfl, rfl⟩
theorem oddR_ok {i : Nat} (hl : lvE E (fD (wS E) m) = some i) (hi : i < E.length) (hd : fD (wS E) m (E.getD i (0, 0)).1 = fD (wS E) m (E.getD i (0, 0)).2) :
  SOk (SC r) 28 [.agg ⟨hG (m : Nat) (wG (wS E)) e⟩] emptyA fun v A => v = .tuple ⟨[rowQ 0 (ringL (fB (wS E) m) (E.getD i (0, 0)).1 (E.getD i (0, 0)).2).length, .bool true]⟩ ∧ A = mkA [oRi (m_ws (ringL (fB (wS E) m) (E.getD i (0, 0)).1 (E.getD i (0, 0)).2)) 0] := by
 have ht := tSd_ok hm16 hE hL hm he
 have hp := od_pre hm hm16 hE hL he
 have ex : lvX E (fD (wS E) m) = (E.getD i (0, 0)).1 := by unfold lvX; rw [hl]
 have ey : lvY E (fD (wS E) m) = (E.getD i (0, 0)).2 := by unfold lvY; rw [hl]
 rw [ex, ey, hl] at hp ht
 have hw := wS_nbs hm16 hE
 obtain ⟨p, hF⟩ := fE hw hm16
 obtain ⟨hlt, hm2⟩ := E_at hE hi
 have hadj : (wS E (E.getD i (0, 0)).1).testBit (E.getD i (0, 0)).2 = true := (wS_bit hm16 hE _ _).2 ⟨i, hi, .inl ⟨rfl, rfl⟩⟩
 generalize (E.getD i (0, 0)).1 = v at *
 generalize (E.getD i (0, 0)).2 = u at *
 generalize hT : (tSd (hG (m : Nat) (wG (wS E)) e) (fD (wS E) m) (fB (wS E) m) (v : Nat) (u : Nat) (some i).isSome) = T at ht hp
 clear hT ex ey hl
 generalize fD (wS E) m = d at *
 generalize fB (wS E) m = b at *
 have hvm : v < m := by omega
 have hpp : p v = p u := ((hF.near v hvm u hadj).2).symm
 exact oddR_core r hm16 hF hvm hm2 hd hpp (by omega) ht _ (fun K kx KR => hp K kx KR)
end
end Go.Proofs
namespace Go.Proofs
open Go Go.Ev Go.Num
noncomputable def rowIs (x : Option (List Value)) (A : AW) : Bool := match x with
 | none => true
 | some c => match A.heap.get 1 with
  | some (.cells c' _ _ _) => m_same c' c
  | _ => false
noncomputable def eHg (g : List Value) (x : Option (List Value)) (v : Value) : Ent := ent (fun args A => bif m_same args [.agg ⟨g⟩] then rowIs x A else false) (fun _ _ => v)
noncomputable def eHr (g : List Value) (x : Option (List Value)) (n : Nat) (d : List Value) : Ent := ⟨fun args A => bif m_same args [.agg ⟨g⟩] then rowIs x A else false, fun _ _ => true, fun _ A => .tuple ⟨[.slice (some ⟨A.next, 0, none⟩) n unk, .bool true]⟩, fun _ A => A.new (.cells d 3 A.next 1), fun _ _ => undef, fun _ A => A⟩
noncomputable def tXs (g : List Value) (x : Option (List Value)) (y : Int) (t : Bool) (T : Tbl) : Tbl := tcons 27 (eHg g x (.tuple ⟨[U y, .bool t]⟩)) T
noncomputable def tXo (g : List Value) (x : Option (List Value)) (T : Tbl) : Tbl := tcons 28 (eHg g x (.tuple ⟨[.slice none 0 0, .bool false]⟩)) T
noncomputable def tXr (g : List Value) (x : Option (List Value)) (n : Nat) (d : List Value) (T : Tbl) : Tbl := tcons 28 (eHr g x n d) T
theorem xs1 (r : Mem) (n : Int) (b off cap : Nat) (w : Nat → Int) (y : Int) (t : Bool) : (lvlT (SC r) (tXs (hG n w (.slice none 0 0)) none y t (tHo1 n b off cap w)) .nil 1 2).call 11 [I n, RS2 b off 0 cap] emptyA fin =
    bif m_at [I n, .slice (some ⟨b, off, some 0⟩) 0 cap] [I n, .slice (some ⟨b, off, some 0⟩) 0 cap] (AW.mk 0 .nil .nil) (AW.mk 0 .nil .nil) then bif bif m_same [.agg ⟨(hG n w (.slice none 0 0))⟩] [.agg ⟨(hG n w (.slice none 0 0))⟩] then true else false then bif t then .ret (.tuple ⟨[I (IntKind.wrap .i64 y), .bool true, I (Int.ofNat 0)]⟩) (AW.mk 0 .nil .nil) else .ret (.tuple ⟨[I (IntKind.wrap .i64 y), .bool false, I (Int.ofNat 0)]⟩) (AW.mk 0 .nil .nil) else .fail 420 else .fail 420 := by kernel_rfl
theorem xs2 (r : Mem) (n : Int) (b off cap k : Nat) (w : Nat → Int) (c : List Value) (y : Int) (t : Bool) : (lvlT (SC r) (tXs (eG n w k) (some c) y t (tHo2 n b off cap k w c)) .nil 1 2).call 11 [I n, RS2 b off (k + 1) cap] emptyA fin =
    bif m_at [I n, .slice (some ⟨b, off, some 0⟩) (k + 1) cap] [I n, .slice (some ⟨b, off, some 0⟩) (k + 1) cap] (AW.mk 0 .nil .nil) (AW.mk 0 .nil .nil) then bif bif m_same [.agg ⟨(hG n w (.slice (some ⟨1, 0, none⟩) (k + 1) unk))⟩] [.agg ⟨(hG n w (.slice (some ⟨1, 0, none⟩) (k + 1) unk))⟩] then m_same c c else false then bif t then .ret (.tuple ⟨[I (IntKind.wrap .i64 y), .bool true, I (Int.ofNat 0)]⟩) (AW.mk 0 .nil .nil) else .ret (.tuple ⟨[I (IntKind.wrap .i64 y), .bool false, I (Int.ofNat 0)]⟩) (AW.mk 0 .nil .nil) else .fail 420 else .fail 420 := by kernel_rfl
theorem xsN (r : Mem) (n : Int) (w : Nat → Int) (y : Int) (t : Bool) : (lvlT (SC r) (tXs (hG n w (.slice none 0 0)) none y t (tHoN n w)) .nil 1 2).call 11 [I n, .slice none 0 0] emptyA fin =
    bif m_same [I n, .slice none 0 0] [I n, .slice none 0 0] then bif bif m_same [.agg ⟨(hG n w (.slice none 0 0))⟩] [.agg ⟨(hG n w (.slice none 0 0))⟩] then true else false then bif t then .ret (.tuple ⟨[I (IntKind.wrap .i64 y), .bool true, I (Int.ofNat 0)]⟩) (AW.mk 0 .nil .nil) else .ret (.tuple ⟨[I (IntKind.wrap .i64 y), .bool false, I (Int.ofNat 0)]⟩) (AW.mk 0 .nil .nil) else .fail 420 else .fail 420 := by kernel_rfl
theorem xo1 (r : Mem) (n : Int) (b off cap : Nat) (w : Nat → Int) : (lvlT (SC r) (tXo (hG n w (.slice none 0 0)) none (tHo1 n b off cap w)) .nil 1 2).call 12 [I n, RS2 b off 0 cap] emptyA fin =
    bif m_at [I n, .slice (some ⟨b, off, some 0⟩) 0 cap] [I n, .slice (some ⟨b, off, some 0⟩) 0 cap] (AW.mk 0 .nil .nil) (AW.mk 0 .nil .nil) then bif bif m_same [.agg ⟨(hG n w (.slice none 0 0))⟩] [.agg ⟨(hG n w (.slice none 0 0))⟩] then true else false then .ret (.tuple ⟨[.slice none 0 0, .bool false, I (Int.ofNat 0)]⟩) (AW.mk 0 .nil .nil) else .fail 420 else .fail 420 := by kernel_rfl
theorem xo2 (r : Mem) (n : Int) (b off cap k : Nat) (w : Nat → Int) (c : List Value) : (lvlT (SC r) (tXo (eG n w k) (some c) (tHo2 n b off cap k w c)) .nil 1 2).call 12 [I n, RS2 b off (k + 1) cap] emptyA fin =
    bif m_at [I n, .slice (some ⟨b, off, some 0⟩) (k + 1) cap] [I n, .slice (some ⟨b, off, some 0⟩) (k + 1) cap] (AW.mk 0 .nil .nil) (AW.mk 0 .nil .nil) then bif bif m_same [.agg ⟨(hG n w (.slice (some ⟨1, 0, none⟩) (k + 1) unk))⟩] [.agg ⟨(hG n w (.slice (some ⟨1, 0, none⟩) (k + 1) unk))⟩] then m_same c c else false then .ret (.tuple ⟨[.slice none 0 0, .bool false, I (Int.ofNat 0)]⟩) (AW.mk 0 .nil .nil) else .fail 420 else .fail 420 := by kernel_rfl
theorem xoN (r : Mem) (n : Int) (w : Nat → Int) : (lvlT (SC r) (tXo (hG n w (.slice none 0 0)) none (tHoN n w)) .nil 1 2).call 12 [I n, .slice none 0 0] emptyA fin =
    bif m_same [I n, .slice none 0 0] [I n, .slice none 0 0] then bif bif m_same [.agg ⟨(hG n w (.slice none 0 0))⟩] [.agg ⟨(hG n w (.slice none 0 0))⟩] then true else false then .ret (.tuple ⟨[.slice none 0 0, .bool false, I (Int.ofNat 0)]⟩) (AW.mk 0 .nil .nil) else .fail 420 else .fail 420 := by kernel_rfl
theorem xr2 (r : Mem) (n : Int) (b off cap k : Nat) (w : Nat → Int) (c : List Value) (m : Nat) (d : List Value) (K : Value → AW → CR) : (lvlT (SC r) (tXr (eG n w k) (some c) m d (tHo2 n b off cap k w c)) .nil 1 2).call 12 [I n, RS2 b off (k + 1) cap] emptyA K =
    bif m_at [I n, .slice (some ⟨b, off, some 0⟩) (k + 1) cap] [I n, .slice (some ⟨b, off, some 0⟩) (k + 1) cap] (AW.mk 0 .nil .nil) (AW.mk 0 .nil .nil) then bif bif m_same [.agg ⟨(hG n w (.slice (some ⟨1, 0, none⟩) (k + 1) unk))⟩] [.agg ⟨(hG n w (.slice (some ⟨1, 0, none⟩) (k + 1) unk))⟩] then m_same c c else false then K (.tuple ⟨[.slice (some ⟨3, 0, none⟩) m unk, .bool true, I (Int.ofNat 0)]⟩) (AW.mk 4 (.node (.node (.node .nil (some (.cells d 3 3 1)) .nil) (some (.cells c 80 1 2)) .nil) (some (.cells (hG n w (.slice (some ⟨1, 0, none⟩) (k + 1) unk)) 59 0 0)) (.node .nil (some (.cells (hG n w (.slice (some ⟨1, 0, none⟩) (k + 1) unk)) 59 2 0)) .nil)) .nil) else .fail 420 else .fail 420 := by kernel_rfl
end Go.Proofs
namespace Go.Proofs
open Go Go.Ev Go.Num
noncomputable def cZS : Code := bodyOf S0 13
noncomputable def ZS_0 : Code := (lc cZS)
noncomputable def ZS_1 : Code := (lc (rc cZS))
noncomputable def ZS_2 : Code := (lc (lc (rc (rc cZS))))
noncomputable def ZS_3 : Code := (lc (ic (ic (rc (lc (rc (rc cZS)))))))
noncomputable def ZS_4 : Code := (lc (ic (lc (rc (ic (ic (rc (lc (rc (rc cZS))))))))))
noncomputable def ZS_5 : Code := (lc (rc (ic (lc (rc (ic (ic (rc (lc (rc (rc cZS)))))))))))
noncomputable def ZS_6 : Code := (lc (rc (rc (ic (lc (rc (ic (ic (rc (lc (rc (rc cZS))))))))))))
noncomputable def ZS_7 : Code := (lc (ic (ic (rc (rc (rc (ic (lc (rc (ic (ic (rc (lc (rc (rc cZS)))))))))))))))
noncomputable def ZS_8 : Code := (lc (ic (rc (ic (ic (rc (rc (rc (ic (lc (rc (ic (ic (rc (lc (rc (rc cZS)))))))))))))))))
noncomputable def ZS_9 : Code := (lc (rc (ic (rc (ic (ic (rc (rc (rc (ic (lc (rc (ic (ic (rc (lc (rc (rc cZS))))))))))))))))))
noncomputable def ZS_10 : Code := (ic (ic (rc (rc (ic (rc (ic (ic (rc (rc (rc (ic (lc (rc (ic (ic (rc (lc (rc (rc cZS))))))))))))))))))))
noncomputable def ZS_11 : Code := (rc (rc (ic (ic (rc (lc (rc (rc cZS))))))))
noncomputable def ZS_12 : Code := (rc (rc (rc cZS)))
theorem ZS_eq : cZS = (.seq ZS_0 (.seq ZS_1 (.seq (.seq ZS_2 (.block 0 (.loop (.seq ZS_3 (.seq (.block 1 (.seq ZS_4 (.seq ZS_5 (.seq ZS_6 (.block 2 (.loop (.seq ZS_7 (.block 3 (.seq ZS_8 (.seq ZS_9 (.block 4 (.loop ZS_10)))))))))))) ZS_11))))) ZS_12))) := by kernel_rfl
noncomputable def cZR : Code := bodyOf S0 14
noncomputable def ZR_0 : Code := (lc cZR)
noncomputable def ZR_1 : Code := (lc (rc cZR))
noncomputable def ZR_2 : Code := (lc (rc (rc cZR)))
noncomputable def ZR_3 : Code := (lc (lc (rc (rc (rc cZR)))))
noncomputable def ZR_4 : Code := (ic (ic (rc (lc (rc (rc (rc cZR)))))))
noncomputable def ZR_5 : Code := (lc (lc (rc (rc (rc (rc cZR))))))
noncomputable def ZR_6 : Code := (ic (ic (rc (lc (rc (rc (rc (rc cZR))))))))
noncomputable def ZR_7 : Code := (rc (rc (rc (rc (rc cZR)))))
theorem ZR_eq : cZR = (.seq ZR_0 (.seq ZR_1 (.seq ZR_2 (.seq (.seq ZR_3 (.block 0 (.loop ZR_4))) (.seq (.seq ZR_5 (.block 2 (.loop ZR_6))) ZR_7))))) := by kernel_rfl
def lvZS : List Nat := [0, 4, 5, 6]
def vZS (b off len cap : Nat) (x y i : Int) : OV := [some (RS b off len cap), some (I x), some (I y), some (I i)]
def lvZT : List Nat := [0, 4, 5, 6, 7]
def vZT (b off len cap : Nat) (x y i : Int) (a : Bool) : OV := vZS b off len cap x y i ++ [some (.bool a)]
def lvZU : List Nat := [0, 4, 5, 6, 7, 8]
def vZU (b off len cap : Nat) (x y i : Int) (a : Bool) (k : Int) : OV := vZT b off len cap x y i a ++ [some (I k)]
theorem zsA (r : Mem) (b off len cap : Nat) (fs : FnsC) (K : OV → List Nat → OO → CR) (kx : Nat → KS) (kr : KS) : run (SC r) 509 78 1 (.seq ZS_0 (.seq ZS_1 ZS_2)) fs none (rbK 0 lvZS [] K) kx kr (sc0 509 [RS b off len cap]) (tr0 509 [RS b off len cap]) [] emptyA =
    K [some (.slice (some ⟨b, off, some 0⟩) len cap), some (I (Int.ofNat 0)), some (I (Int.ofNat 0)), some (I (Int.ofNat 0))] [] [] := by kernel_rfl
theorem zsB (r : Mem) (b off len cap : Nat) (x y i : Int) (fs : FnsC) (K : OV → List Nat → OO → CR) (KX : Nat → OV → List Nat → OO → CR) (kr : KS) : run (SC r) 509 78 1 ZS_3 fs none (rbK 0 lvZS [] K) (fun j => rbK 0 [4, 5] [] (KX j)) kr [] (bT lvZS (vZS b off len cap x y i) .nil) [] (mkA []) =
    bif decide (i < Int.ofNat len) then K [some (.slice (some ⟨b, off, some 0⟩) len cap), some (I x), some (I y), some (I i)] [] [] else KX 0 [some (I x), some (I y)] [] [] := by kernel_rfl
theorem zsC (r : Mem) (b off len cap : Nat) (x y i : Int) (fs : FnsC) (K : OV → List Nat → OO → CR) (KX : Nat → OV → List Nat → OO → CR) (kr : KS) : run (SC r) 509 78 1 (.seq ZS_4 (.seq ZS_5 ZS_6)) fs none (rbK 0 lvZT [] K) (fun j => rbK 0 lvZS [] (KX j)) kr [] (bT lvZS (vZS b off len cap x y i) .nil) [] (mkA []) =
    bif !decide (i < 0) then bif Int.tmod (Int.fdiv (ibits BinOp.or IntKind.i64 x y) (Int.ofNat 2 ^ min (Int.toNat i) 64)) (Int.ofNat 2) == Int.ofNat 1 then KX 1 [some (.slice (some ⟨b, off, some 0⟩) len cap), some (I x), some (I y), some (I i)] [] [] else bif !decide (i < 0) then K [some (.slice (some ⟨b, off, some 0⟩) len cap), some (I (ibits BinOp.or IntKind.i64 x (IntKind.wrap .i64 (Int.ofNat 1 * Int.ofNat 2 ^ min (Int.toNat i) 64)))), some (I y), some (I i), some (.bool true)] [] [] else .fail 420 else .fail 420 := by kernel_rfl
theorem zsD (r : Mem) (b off len cap : Nat) (x y i : Int) (a : Bool) (fs : FnsC) (K : OV → List Nat → OO → CR) (KX : Nat → OV → List Nat → OO → CR) (kr : KS) : run (SC r) 509 78 1 ZS_7 fs none (rbK 0 lvZT [] K) (fun j => rbK 0 lvZS [] (KX j)) kr [] (bT lvZT (vZT b off len cap x y i a) .nil) [] (mkA []) =
    bif a then K [some (.slice (some ⟨b, off, some 0⟩) len cap), some (I x), some (I y), some (I i), some (.bool a)] [] [] else KX 2 [some (.slice (some ⟨b, off, some 0⟩) len cap), some (I x), some (I y), some (I i)] [] [] := by kernel_rfl
theorem zsE (r : Mem) (b off len cap : Nat) (x y i : Int) (a : Bool) (fs : FnsC) (K : OV → List Nat → OO → CR) (kx : Nat → KS) (kr : KS) : run (SC r) 509 78 1 (.seq ZS_8 ZS_9) fs none (rbK 0 lvZU [] K) kx kr [] (bT lvZT (vZT b off len cap x y i a) .nil) [] (mkA []) =
    K [some (.slice (some ⟨b, off, some 0⟩) len cap), some (I x), some (I y), some (I i), some (.bool false), some (I (Int.ofNat 0))] [] [] := by kernel_rfl
theorem zsF (r : Mem) (b off len cap : Nat) (x y i : Int) (a : Bool) (k : Int) (fs : FnsC) (K : OV → List Nat → OO → CR) (KX : Nat → OV → List Nat → OO → CR) (kr : KS) : run (SC r) 509 78 1 ZS_10 fs none (rbK 0 lvZU [] K) (fun j => rbK 0 lvZT [] (KX j)) kr [] (bT lvZU (vZU b off len cap x y i a k) .nil) [] (mkA []) =
    bif decide (k < Int.ofNat len) then bif !decide (k < 0) then bif Int.tmod (Int.fdiv x (Int.ofNat 2 ^ min (Int.toNat k) 64)) (Int.ofNat 2) == Int.ofNat 1 then bif decide (0 ≤ k) then bif Nat.blt (Int.toNat k) len then Option.casesOn (r b (Nat.add off (Nat.mul (Int.toNat k) 1))) (.fail 423) fun val => bif isI IntKind.i64 val then bif ibits BinOp.andNot IntKind.i64 (ofI val) y != Int.ofNat 0 then bif decide (0 ≤ k) then bif Nat.blt (Int.toNat k) len then Option.casesOn (r b (Nat.add off (Nat.mul (Int.toNat k) 1))) (.fail 423) fun val => bif isI IntKind.i64 val then bif !decide (k < 0) then bif Int.tmod (Int.fdiv (ibits BinOp.or IntKind.i64 y (ofI val)) (Int.ofNat 2 ^ min (Int.toNat k) 64)) (Int.ofNat 2) == Int.ofNat 1 then bif decide (0 ≤ k) then bif Nat.blt (Int.toNat k) len then Option.casesOn (r b (Nat.add off (Nat.mul (Int.toNat k) 1))) (.fail 423) fun val_1 => bif isI IntKind.i64 val_1 then bif ibits BinOp.andNot IntKind.i64 (ofI val_1) x != Int.ofNat 0 then bif decide (0 ≤ k) then bif Nat.blt (Int.toNat k) len then Option.casesOn (r b (Nat.add off (Nat.mul (Int.toNat k) 1))) (.fail 423) fun val_2 => bif isI IntKind.i64 val_2 then K [some (.slice (some ⟨b, off, some 0⟩) len cap), some (I (ibits BinOp.or IntKind.i64 x (ofI val_2))), some (I (ibits BinOp.or IntKind.i64 y (ofI val))), some (I i), some (.bool true), some (I (IntKind.wrap .i64 (k + Int.ofNat 1)))] [] [] else .fail 420 else .fail 420 else .fail 420 else K [some (.slice (some ⟨b, off, some 0⟩) len cap), some (I x), some (I (ibits BinOp.or IntKind.i64 y (ofI val))), some (I i), some (.bool true), some (I (IntKind.wrap .i64 (k + Int.ofNat 1)))] [] [] else .fail 420 else .fail 420 else .fail 420 else K [some (.slice (some ⟨b, off, some 0⟩) len cap), some (I x), some (I (ibits BinOp.or IntKind.i64 y (ofI val))), some (I i), some (.bool true), some (I (IntKind.wrap .i64 (k + Int.ofNat 1)))] [] [] else .fail 420 else .fail 420 else .fail 420 else .fail 420 else bif !decide (k < 0) then bif Int.tmod (Int.fdiv y (Int.ofNat 2 ^ min (Int.toNat k) 64)) (Int.ofNat 2) == Int.ofNat 1 then bif decide (0 ≤ k) then bif Nat.blt (Int.toNat k) len then Option.casesOn (r b (Nat.add off (Nat.mul (Int.toNat k) 1))) (.fail 423) fun val => bif isI IntKind.i64 val then bif ibits BinOp.andNot IntKind.i64 (ofI val) x != Int.ofNat 0 then bif decide (0 ≤ k) then bif Nat.blt (Int.toNat k) len then Option.casesOn (r b (Nat.add off (Nat.mul (Int.toNat k) 1))) (.fail 423) fun val => bif isI IntKind.i64 val then K [some (.slice (some ⟨b, off, some 0⟩) len cap), some (I (ibits BinOp.or IntKind.i64 x (ofI val))), some (I y), some (I i), some (.bool true), some (I (IntKind.wrap .i64 (k + Int.ofNat 1)))] [] [] else .fail 420 else .fail 420 else .fail 420 else K [some (.slice (some ⟨b, off, some 0⟩) len cap), some (I x), some (I y), some (I i), some (.bool a), some (I (IntKind.wrap .i64 (k + Int.ofNat 1)))] [] [] else .fail 420 else .fail 420 else .fail 420 else K [some (.slice (some ⟨b, off, some 0⟩) len cap), some (I x), some (I y), some (I i), some (.bool a), some (I (IntKind.wrap .i64 (k + Int.ofNat 1)))] [] [] else .fail 420 else .fail 420 else .fail 420 else .fail 420 else bif !decide (k < 0) then bif Int.tmod (Int.fdiv y (Int.ofNat 2 ^ min (Int.toNat k) 64)) (Int.ofNat 2) == Int.ofNat 1 then bif decide (0 ≤ k) then bif Nat.blt (Int.toNat k) len then Option.casesOn (r b (Nat.add off (Nat.mul (Int.toNat k) 1))) (.fail 423) fun val => bif isI IntKind.i64 val then bif ibits BinOp.andNot IntKind.i64 (ofI val) x != Int.ofNat 0 then bif decide (0 ≤ k) then bif Nat.blt (Int.toNat k) len then Option.casesOn (r b (Nat.add off (Nat.mul (Int.toNat k) 1))) (.fail 423) fun val => bif isI IntKind.i64 val then K [some (.slice (some ⟨b, off, some 0⟩) len cap), some (I (ibits BinOp.or IntKind.i64 x (ofI val))), some (I y), some (I i), some (.bool true), some (I (IntKind.wrap .i64 (k + Int.ofNat 1)))] [] [] else .fail 420 else .fail 420 else .fail 420 else K [some (.slice (some ⟨b, off, some 0⟩) len cap), some (I x), some (I y), some (I i), some (.bool a), some (I (IntKind.wrap .i64 (k + Int.ofNat 1)))] [] [] else .fail 420 else .fail 420 else .fail 420 else K [some (.slice (some ⟨b, off, some 0⟩) len cap), some (I x), some (I y), some (I i), some (.bool a), some (I (IntKind.wrap .i64 (k + Int.ofNat 1)))] [] [] else .fail 420 else .fail 420 else KX 4 [some (.slice (some ⟨b, off, some 0⟩) len cap), some (I x), some (I y), some (I i), some (.bool a)] [] [] := by kernel_rfl
theorem zsG (r : Mem) (b off len cap : Nat) (x y i : Int) (fs : FnsC) (K : OV → List Nat → OO → CR) (kx : Nat → KS) (kr : KS) : run (SC r) 509 78 1 ZS_11 fs none (rbK 0 lvZS [] K) kx kr [] (bT lvZS (vZS b off len cap x y i) .nil) [] (mkA []) =
    K [some (.slice (some ⟨b, off, some 0⟩) len cap), some (I x), some (I y), some (I (IntKind.wrap .i64 (i + Int.ofNat 1)))] [] [] := by kernel_rfl
theorem zsH (r : Mem) (x y : Int) (fs : FnsC) (K KR : OV → List Nat → OO → CR) (kx : Nat → KS) : run (SC r) 509 78 1 ZS_12 fs none (rbK 0 [2, 3] [] K) kx (rbK 0 [2, 3] [] KR) [] (bT [4, 5] [some (I x), some (I y)] .nil) [] (mkA []) =
    bif ibits BinOp.and IntKind.i64 x y != Int.ofNat 0 then KR [some (I (Int.ofNat 0)), some (.bool false)] [] [] else KR [some (I x), some (.bool true)] [] [] := by kernel_rfl
theorem zrA (r : Mem) (b off len cap b2 off2 n cap2 : Nat) (fs : FnsC) (K : OV → List Nat → OO → CR) (kx : Nat → KS) (KR : OV → List Nat → OO → CR) : run (SC r) 243 78 1 (.seq ZR_0 (.seq ZR_1 (.seq ZR_2 ZR_3))) fs none (rbK 0 [0, 1, 5, 6] [] K) kx (rbK 0 [4] [] KR) (sc0 243 [RS b off len cap, RS b2 off2 n cap2]) (tr0 243 [RS b off len cap, RS b2 off2 n cap2]) [] emptyA =
    bif decide (Int.ofNat n < 3) then KR [some (.bool false)] [] [] else bif Int.tmod (Int.ofNat n) (Int.ofNat 2) == Int.ofNat 0 then KR [some (.bool false)] [] [] else K [some (.slice (some ⟨b, off, some 0⟩) len cap), some (.slice (some ⟨b2, off2, some 0⟩) n cap2), some (I (Int.ofNat 0)), some (I (Int.ofNat 0))] [] [] := by kernel_rfl
theorem zrB (r : Mem) (b off len cap b2 off2 n cap2 : Nat) (met i : Int) (fs : FnsC) (K : OV → List Nat → OO → CR) (KX : Nat → OV → List Nat → OO → CR) (KR : OV → List Nat → OO → CR) : run (SC r) 243 78 1 ZR_4 fs none (rbK 0 [0, 1, 5, 6] [] K) (fun j => rbK 0 [0, 1] [] (KX j)) (rbK 0 [4] [] KR) [] (bT [0, 1, 5, 6] [some (RS b off len cap), some (RS b2 off2 n cap2), some (I met), some (I i)] .nil) [] (mkA []) =
    bif decide (i < Int.ofNat n) then bif decide (0 ≤ i) then bif Nat.blt (Int.toNat i) n then Option.casesOn (r b2 (Nat.add off2 (Nat.mul (Int.toNat i) 1))) (.fail 423) fun val => bif isI IntKind.i64 val then bif decide (ofI val < 0) then KR [some (.bool false)] [] [] else bif decide (0 ≤ i) then bif Nat.blt (Int.toNat i) n then Option.casesOn (r b2 (Nat.add off2 (Nat.mul (Int.toNat i) 1))) (.fail 423) fun val => bif isI IntKind.i64 val then bif decide (ofI val ≥ Int.ofNat len) then KR [some (.bool false)] [] [] else bif decide (0 ≤ i) then bif Nat.blt (Int.toNat i) n then Option.casesOn (r b2 (Nat.add off2 (Nat.mul (Int.toNat i) 1))) (.fail 423) fun val => bif isI IntKind.i64 val then bif !decide (ofI val < 0) then bif Int.tmod (Int.fdiv met (Int.ofNat 2 ^ min (Int.toNat (ofI val)) 64)) (Int.ofNat 2) == Int.ofNat 1 then KR [some (.bool false)] [] [] else bif decide (0 ≤ i) then bif Nat.blt (Int.toNat i) n then Option.casesOn (r b2 (Nat.add off2 (Nat.mul (Int.toNat i) 1))) (.fail 423) fun val => bif isI IntKind.i64 val then bif !decide (ofI val < 0) then K [some (.slice (some ⟨b, off, some 0⟩) len cap), some (.slice (some ⟨b2, off2, some 0⟩) n cap2), some (I (ibits BinOp.or IntKind.i64 met (IntKind.wrap .i64 (Int.ofNat 1 * Int.ofNat 2 ^ min (Int.toNat (ofI val)) 64)))), some (I (IntKind.wrap .i64 (i + Int.ofNat 1)))] [] [] else .fail 420 else .fail 420 else .fail 420 else .fail 420 else .fail 420 else .fail 420 else .fail 420 else .fail 420 else .fail 420 else .fail 420 else .fail 420 else .fail 420 else .fail 420 else .fail 420 else KX 0 [some (.slice (some ⟨b, off, some 0⟩) len cap), some (.slice (some ⟨b2, off2, some 0⟩) n cap2)] [] [] := by kernel_rfl
theorem zrC (r : Mem) (b off len cap b2 off2 n cap2 : Nat) (fs : FnsC) (K : OV → List Nat → OO → CR) (kx : Nat → KS) (KR : OV → List Nat → OO → CR) : run (SC r) 243 78 1 ZR_5 fs none (rbK 0 [0, 1, 7] [] K) kx (rbK 0 [4] [] KR) [] (bT [0, 1] [some (RS b off len cap), some (RS b2 off2 n cap2)] .nil) [] (mkA []) =
    K [some (.slice (some ⟨b, off, some 0⟩) len cap), some (.slice (some ⟨b2, off2, some 0⟩) n cap2), some (I (Int.ofNat 0))] [] [] := by kernel_rfl
theorem zrD (r : Mem) (b off len cap b2 off2 n cap2 : Nat) (i : Int) (fs : FnsC) (K : OV → List Nat → OO → CR) (KX : Nat → OV → List Nat → OO → CR) (KR : OV → List Nat → OO → CR) : run (SC r) 243 78 1 ZR_6 fs none (rbK 0 [0, 1, 7] [] K) (fun j => rbK 0 [] [] (KX j)) (rbK 0 [4] [] KR) [] (bT [0, 1, 7] [some (RS b off len cap), some (RS b2 off2 n cap2), some (I i)] .nil) [] (mkA []) =
    bif decide (i < Int.ofNat n) then bif decide (0 ≤ i) then bif Nat.blt (Int.toNat i) n then Option.casesOn (r b2 (Nat.add off2 (Nat.mul (Int.toNat i) 1))) (.fail 423) fun val => bif isI IntKind.i64 val then bif decide (0 ≤ ofI val) then bif Nat.blt (Int.toNat (ofI val)) len then Option.casesOn (r b (Nat.add off (Nat.mul (Int.toNat (ofI val)) 1))) (.fail 423) fun val => bif isI IntKind.i64 val then bif !decide (Int.ofNat n = 0) then bif decide (0 ≤ Int.tmod (IntKind.wrap .i64 (i + Int.ofNat 1)) (Int.ofNat n)) then bif Nat.blt (Int.toNat (Int.tmod (IntKind.wrap .i64 (i + Int.ofNat 1)) (Int.ofNat n))) n then Option.casesOn (r b2 (Nat.add off2 (Nat.mul (Int.toNat (Int.tmod (IntKind.wrap .i64 (i + Int.ofNat 1)) (Int.ofNat n))) 1))) (.fail 423) fun val_1 => bif isI IntKind.i64 val_1 then bif !decide (ofI val_1 < 0) then bif Int.tmod (Int.fdiv (ofI val) (Int.ofNat 2 ^ min (Int.toNat (ofI val_1)) 64)) (Int.ofNat 2) == Int.ofNat 0 then KR [some (.bool false)] [] [] else K [some (.slice (some ⟨b, off, some 0⟩) len cap), some (.slice (some ⟨b2, off2, some 0⟩) n cap2), some (I (IntKind.wrap .i64 (i + Int.ofNat 1)))] [] [] else .fail 420 else .fail 420 else .fail 420 else .fail 420 else .fail 420 else .fail 420 else .fail 420 else .fail 420 else .fail 420 else .fail 420 else .fail 420 else KX 2 [] [] [] := by kernel_rfl
theorem zrE (r : Mem) (fs : FnsC) (K KR : OV → List Nat → OO → CR) (kx : Nat → KS) : run (SC r) 243 78 1 ZR_7 fs none (rbK 0 [4] [] K) kx (rbK 0 [4] [] KR) [] (bT [] [] .nil) [] (mkA []) =
    KR [some (.bool true)] [] [] := by kernel_rfl
end Go.Proofs
namespace Go.Proofs
open Go Go.Ev Go.Num
theorem sdK_bool (w : Nat → Nat) (k x y : Nat) : sdK w k (x, y) = (bif (bif x.testBit k && decide (anN (w k) y ≠ 0) then (y ||| w k).testBit k else y.testBit k) && decide (anN (w k) x ≠ 0) then x ||| w k else x, bif x.testBit k && decide (anN (w k) y ≠ 0) then y ||| w k else y) := by
 unfold sdK
 by_cases h1 : x.testBit k = true <;> by_cases h2 : anN (w k) y = 0 <;> by_cases h3 : anN (w k) x = 0 <;> simp [h1, h2, h3, cond_eq_ite]
theorem sdK_ne (w : Nat → Nat) (k x y : Nat) : decide (sdK w k (x, y) ≠ (x, y)) = ((x.testBit k && decide (anN (w k) y ≠ 0)) || ((bif x.testBit k && decide (anN (w k) y ≠ 0) then (y ||| w k).testBit k else y.testBit k) && decide (anN (w k) x ≠ 0))) := by
 rw [sdK_bool]
 have e1 : anN (w k) y ≠ 0 → y ||| w k ≠ y := fun h => by have := or_an h; omega
 have e2 : anN (w k) x ≠ 0 → x ||| w k ≠ x := fun h => by have := or_an h; omega
 by_cases h2 : anN (w k) y = 0 <;> by_cases h3 : anN (w k) x = 0 <;> cases x.testBit k <;> cases (y ||| w k).testBit k <;> cases y.testBit k <;> simp_all
theorem sd_more {w : Nat → Nat} {s c : Nat × Nat} {k : Nat} (h1 : s.1 ≤ c.1) (h2 : s.2 ≤ c.2) : (decide (c ≠ s) || decide (sdK w k c ≠ c)) = decide (sdK w k c ≠ s) := by
 have hl := sdK_le w k c
 by_cases e : sdK w k c = c
 ·rw [e]; simp
 ·have : sdK w k c ≠ s := fun q => by
   rw [q] at hl
   have : s = c := pairE (by omega) (by omega)
   rw [this] at q
   exact e q
  rw [decide_eq_true this, decide_eq_true e, Bool.or_true]
theorem sdI_s0 {w : Nat → Nat} {m : Nat} (hm : m ≤ 16) (hw : Nbs w m) (hwl : ∀ i, w i < 2 ^ m) {i : Nat} (hi : i < m) (c : ¬ ((sdI w m i).1.testBit i = true ∨ (sdI w m i).2.testBit i = true)) : SdS w m ((sdI w m i).1 ||| 2 ^ i, (sdI w m i).2) := by
 obtain ⟨h1, h2, h3⟩ := sdI_ok hm hw hwl i (by omega)
 have hrt : Rt w i := fun j c' hk => by
  have := wk_out hw h2 c hk
  rcases Nat.lt_or_ge j i with e | e
  ·exact absurd (h3 j e) this
  ·exact e
 exact ⟨Nat.or_lt_two_pow h1.llt (Nat.pow_lt_pow_right (by decide) (by omega)), h1.rlt, fun k hk => by
  have hk : ((sdI w m i).1 ||| 2 ^ i).testBit k = true := hk
  rw [or_bit1, Bool.or_eq_true, decide_eq_true_eq] at hk
  rcases hk with hk | rfl
  ·exact h1.sl k hk
  ·exact ⟨i, by omega, hrt, .base⟩, h1.sr⟩
def rsV (s : Nat × Nat) : Value := if s.1 &&& s.2 = 0 then .tuple ⟨[I (s.1 : Nat), .bool true]⟩ else .tuple ⟨[I 0, .bool false]⟩
section
variable (r : Mem) (b off m cap : Nat) (hm16 : m ≤ 16) (w : Nat → Nat) (hr : ∀ k, k < m → r b (off + k) = some (I (w k : Nat)))
include hm16 hr
theorem zs_rnd (hw : ∀ k, k < m → w k < 65536) {x y : Nat} (hx : x < 65536) (hy : y < 65536) (i : Int) (a : Bool) {k : Nat} (hk : k < m) (fs : FnsC) (K : OV → List Nat → OO → CR) (KX : Nat → OV → List Nat → OO → CR) (kr : KS) :
  run (SC r) 509 78 1 ZS_10 fs none (rbK 0 lvZU [] K) (fun j => rbK 0 lvZT [] (KX j)) kr [] (bT lvZU (vZU b off m cap (x : Nat) (y : Nat) i a (k : Nat)) .nil) [] (mkA []) = K (vZU b off m cap ((sdK w k (x, y)).1 : Nat) ((sdK w k (x, y)).2 : Nat) i (a || decide (sdK w k (x, y) ≠ (x, y))) ((k + 1 : Nat) : Int)) [] [] := by
 have hn := zsF r b off m cap (x : Nat) (y : Nat) i a (k : Nat) fs K KX kr
 have e1 : r b (Nat.add off (Nat.mul k 1)) = some (I (w k : Nat)) := by rw [Nat.mul_eq, Nat.mul_one]; exact hr k hk
 have o1 : ibits .or .i64 ((y : Nat) : Int) ((w k : Nat) : Int) = ((y ||| w k : Nat) : Int) := (iO hy (hw k hk)).1
 have o2 : ibits .or .i64 ((x : Nat) : Int) ((w k : Nat) : Int) = ((x ||| w k : Nat) : Int) := (iO hx (hw k hk)).1
 have n1 : ibits .andNot .i64 ((w k : Nat) : Int) ((y : Nat) : Int) = ((anN (w k) y : Nat) : Int) := (iO (hw k hk) hy).2.2
 have n2 : ibits .andNot .i64 ((w k : Nat) : Int) ((x : Nat) : Int) = ((anN (w k) x : Nat) : Int) := (iO (hw k hk) hx).2.2
 have nz : ∀ q : Nat, (((q : Nat) : Int) != Int.ofNat 0) = decide (q ≠ 0) := fun q => by
  by_cases h : q = 0 <;> simp [h]
 simp only [dT (show (k : Int) < Int.ofNat m by simp; omega), dT (show 0 ≤ (k : Int) by omega), dF (show ¬ (k : Int) < 0 by omega), Int.toNat_natCast, show Nat.blt k m = true from Nat.ble_eq_true_of_le hk, e1, show ∀ x, isI IntKind.i64 (I x) = true from fun _ => rfl, show ∀ x, ofI (I x) = x from fun _ => rfl, o1, o2, n1, n2, nz, bitR (x := x) (show k ≤ 16 by omega), bitR (x := y) (show k ≤ 16 by omega), bitR (x := y ||| w k) (show k ≤ 16 by omega), inc1 (show k < 1000000 by omega), Bool.not_false, cond_true] at hn
 rw [hn, sdK_ne, sdK_bool]
 generalize decide (anN (w k) y ≠ 0) = q1
 generalize decide (anN (w k) x ≠ 0) = q2
 generalize x.testBit k = p1
 generalize (y ||| w k).testBit k = p2
 generalize y.testBit k = p3
 cases p1 <;> cases q1 <;> cases p2 <;> cases q2 <;> cases p3 <;> simp only [cond_true, cond_false, Bool.and_true, Bool.and_false, Bool.true_and, Bool.false_and, Bool.or_true, Bool.or_false] <;> rfl
theorem rsides_ok (hn : Nbs w m) (hwl : ∀ i, w i < 2 ^ m) : GrT Tryd.prog r 13 [RS b off m cap] (rsV (sdI w m m)) := by
 have hA : 2 ^ m ≤ 65536 := Nat.pow_le_pow_right (n := 2) (by decide) hm16
 have hw : ∀ k, k < m → w k < 65536 := fun k _ => Nat.lt_of_lt_of_le (hwl k) hA
 refine GrT.ofS (C := SC r) rfl rfl (by unfold rsV; split <;> rfl) (callO (SC_ok r) (by kernel_rfl) ((bodySC r _).trans ZS_eq) (nt := 78) (by kernel_rfl) (rs := [.tmp 2, .tmp 3]) (by kernel_rfl) 509 rfl
  ⟨[2, 3], [], fun vs ms os => ∃ (x : Nat) (t : Bool), vs = [some (I (x : Nat)), some (.bool t)] ∧ rsV (sdI w m m) = .tuple ⟨[I (x : Nat), .bool t]⟩ ∧ ms = [] ∧ os = []⟩ ?_ fun γ W F kk hwr hF hro h0' => ?_)
 ·rintro vs ms os ⟨x, t, rfl, e, rfl, rfl⟩
  rw [e]
  exact ⟨_, mkA [], by kernel_rfl, rfl⟩
 have h0' : ∀ i, 0 ≤ i → γ i = none := h0'
 let Z : Outs := ⟨[4, 5], [], fun vs ms os => vs = [some (I ((sdI w m m).1 : Nat)), some (I ((sdI w m m).2 : Nat))] ∧ ms = [] ∧ os = []⟩
 refine Go.Ev.Reach.after3R (SC_ok r) TOk.nil (tm := .nil) (L := 1) (L' := 1) (d := 2) hF hro h0' (.step (.step .base))
  (o1 := ⟨lvZS, [], fun vs ms os => vs = vZS b off m cap 0 0 (0 : Nat) ∧ ms = [] ∧ os = []⟩) (o2 := Z) [] (fun p hp => nomatch hp) ?_ ?_ ?_
 ·rintro vs ms os ⟨rfl, rfl, rfl⟩
  refine Go.Ev.Reach.blockC (Go.Ev.Reach.loopC (j := m) (lv := lvZS) (fl := []) (I := fun j vs ms os => ∃ i : Nat, i ≤ m ∧ j = m - i ∧ vs = vZS b off m cap ((sdI w m i).1 : Nat) ((sdI w m i).2 : Nat) (i : Nat) ∧ ms = [] ∧ os = []) (fun j vs ms os hI => ?_) ⟨0, Nat.zero_le _, rfl, rfl, rfl, rfl⟩)
  obtain ⟨i, hi, rfl, rfl, rfl, rfl⟩ := hI
  obtain ⟨hS, hC, _⟩ := sdI_ok hm16 hn hwl i hi
  have x6 : (sdI w m i).1 < 65536 := Nat.lt_of_lt_of_le hS.llt hA
  have y6 : (sdI w m i).2 < 65536 := Nat.lt_of_lt_of_le hS.rlt hA
  let O2 : Outs := ⟨lvZS, [], fun vs ms os => i < m ∧ vs = vZS b off m cap ((sdI w m (i + 1)).1 : Nat) ((sdI w m (i + 1)).2 : Nat) (i : Nat) ∧ ms = [] ∧ os = []⟩
  refine Go.Ev.Reach.after3R (SC_ok r) TOk.nil (tm := .nil) (L := 1) (L' := 1) (d := 1) hF hro h0' .flat
   (o1 := ⟨lvZS, [], fun vs ms os => i < m ∧ vs = vZS b off m cap ((sdI w m i).1 : Nat) ((sdI w m i).2 : Nat) (i : Nat) ∧ ms = [] ∧ os = []⟩) (o2 := O2) [(0, Z)] (fun p hp => by simp only [List.mem_cons, List.not_mem_nil, or_false] at hp; subst hp; rfl) ?_ ?_ ?_
  ·rintro vs ms os ⟨him, rfl, rfl, rfl⟩
   let s0 : Nat × Nat := ((sdI w m i).1 ||| 2 ^ i, (sdI w m i).2)
   refine Go.Ev.Reach.blockC (Go.Ev.Reach.afterR (SC_ok r) TOk.nil (tm := .nil) (L := 1) (L' := 1) (d := 1) hF hro h0' (.step (.step .base))
    (o1 := ⟨lvZT, [], fun vs ms os => ¬ ((sdI w m i).1.testBit i = true ∨ (sdI w m i).2.testBit i = true) ∧ vs = vZT b off m cap (s0.1 : Nat) (s0.2 : Nat) (i : Nat) true ∧ ms = [] ∧ os = []⟩) [(1, O2)] (fun p hp => by simp only [List.mem_cons, List.not_mem_nil, or_false] at hp; subst hp; rfl) ?_ ?_)
   ·rintro vs ms os ⟨hb, rfl, rfl, rfl⟩
    have hS0 : SdS w m s0 := sdI_s0 hm16 hn hwl him hb
    have hgo : sdI w m (i + 1) = sdC w m 1000000 s0 := by rw [sdI, if_neg hb]
    refine Go.Ev.Reach.blockC (Go.Ev.Reach.loopC (j := 1000001) (lv := lvZT) (fl := []) (I := fun j vs ms os => ∃ (s : Nat × Nat) (ag : Bool) (f : Nat), vs = vZT b off m cap (s.1 : Nat) (s.2 : Nat) (i : Nat) ag ∧ ms = [] ∧ os = [] ∧ SdS w m s ∧ (ag = false → s = sdI w m (i + 1)) ∧ (ag = true → sdC w m f s = sdI w m (i + 1) ∧ 200000 ≤ f + s.1 + s.2) ∧ j = if ag = true then f + 1 else 0) (fun j vs ms os hI => ?_) ⟨s0, true, 1000000, rfl, rfl, rfl, hS0, (fun h => nomatch h), fun _ => ⟨hgo.symm, by omega⟩, rfl⟩)
    obtain ⟨s, ag, f, rfl, rfl, rfl, hs, hst, hgs, rfl⟩ := hI
    refine Go.Ev.Reach.afterR (SC_ok r) TOk.nil (tm := .nil) (L := 1) (L' := 1) (d := 1) hF hro h0' .base (o1 := ⟨lvZT, [], fun vs ms os => ag = true ∧ vs = vZT b off m cap (s.1 : Nat) (s.2 : Nat) (i : Nat) true ∧ ms = [] ∧ os = []⟩) [(2, O2)] (fun p hp => by simp only [List.mem_cons, List.not_mem_nil, or_false] at hp; subst hp; rfl) ?_ ?_
    ·rintro vs ms os ⟨rfl, rfl, rfl, rfl⟩
     rw [if_pos rfl]
     obtain ⟨hg1, hg2⟩ := hgs rfl
     refine Go.Ev.Reach.blockC (Go.Ev.Reach.afterR (SC_ok r) TOk.nil (tm := .nil) (L := 1) (L' := 1) (d := 1) hF hro h0' (.step .base)
      (o1 := ⟨lvZU, [], fun vs ms os => vs = vZU b off m cap (s.1 : Nat) (s.2 : Nat) (i : Nat) false (0 : Nat) ∧ ms = [] ∧ os = []⟩) [] (fun p hp => nomatch hp) ?_ ?_)
     ·rintro vs ms os ⟨rfl, rfl, rfl⟩
      refine Go.Ev.Reach.blockC (Go.Ev.Reach.loopC (j := m) (lv := lvZU) (fl := []) (I := fun j vs ms os => ∃ k : Nat, k ≤ m ∧ j = m - k ∧ vs = vZU b off m cap ((sdP w s k).1 : Nat) ((sdP w s k).2 : Nat) (i : Nat) (decide (sdP w s k ≠ s)) (k : Nat) ∧ ms = [] ∧ os = []) (fun j vs ms os hI => ?_) ⟨0, Nat.zero_le _, rfl, by rw [decide_eq_false (show ¬ sdP w s 0 ≠ s from fun h => h rfl)]; rfl, rfl, rfl⟩)
      obtain ⟨k, hk, rfl, rfl, rfl, rfl⟩ := hI
      have hP := sdP_ok hn hwl hs k
      have hle := sdP_le w s k
      refine Go.Ev.Reach.segR (SC_ok r) TOk.nil (tm := .nil) (L := 1) (L' := 1) (d := 1) hF hro h0' [(4, ⟨lvZT, [], fun vs ms os => ∃ j', j' < f + 1 ∧ ∃ (s : Nat × Nat) (ag : Bool) (f : Nat), vs = vZT b off m cap (s.1 : Nat) (s.2 : Nat) (i : Nat) ag ∧ ms = [] ∧ os = [] ∧ SdS w m s ∧ (ag = false → s = sdI w m (i + 1)) ∧ (ag = true → sdC w m f s = sdI w m (i + 1) ∧ 200000 ≤ f + s.1 + s.2) ∧ j' = if ag = true then f + 1 else 0⟩)] (fun p hp => by simp only [List.mem_cons, List.not_mem_nil, or_false] at hp; subst hp; rfl) ?_
      by_cases c : k < m
      ·refine (zs_rnd r b off m cap hm16 w hr hw (x := (sdP w s k).1) (y := (sdP w s k).2) (Nat.lt_of_lt_of_le hP.llt hA) (Nat.lt_of_lt_of_le hP.rlt hA) (i : Nat) (decide (sdP w s k ≠ s)) c _ _ _ _).trans (qq_ok ⟨m - (k + 1), by omega, k + 1, c, rfl, ?_, rfl, rfl⟩)
       rw [sdP, sd_more hle.1 hle.2]
      ·obtain rfl : k = m := by omega
       have hz := zsF r b off k cap ((sdP w s k).1 : Nat) ((sdP w s k).2 : Nat) (i : Nat) (decide (sdP w s k ≠ s)) (k : Nat)
       simp only [dF (show ¬ (k : Int) < Int.ofNat k by simp), cond_false] at hz
       refine (hz _ _ _ _).trans (qq_ok ?_)
       have hl2 := hs.llt
       have hl3 := hs.rlt
       obtain ⟨f', rfl⟩ : ∃ f', f = f' + 1 := ⟨f - 1, by omega⟩
       rw [sdC] at hg1
       by_cases d : sdP w s k = s
       ·rw [if_pos d] at hg1
        exact ⟨0, by omega, s, false, 0, by rw [d, decide_eq_false (fun h => h rfl)]; rfl, rfl, rfl, hs, fun _ => hg1, (fun h => nomatch h), rfl⟩
       ·rw [if_neg d] at hg1
        have h2 : ¬ ((sdP w s k).1 = s.1 ∧ (sdP w s k).2 = s.2) := fun e => d (pairE e.1 e.2)
        exact ⟨f' + 1, by omega, sdP w s k, true, f', by rw [decide_eq_true d]; rfl, rfl, rfl, hP, (fun h => nomatch h), fun _ => ⟨hg1, by omega⟩, rfl⟩
     ·exact (zsE r b off m cap (s.1 : Nat) (s.2 : Nat) (i : Nat) true _ _ _ _).trans (qq_ok ⟨rfl, rfl, rfl⟩)
    ·have hz := zsD r b off m cap (s.1 : Nat) (s.2 : Nat) (i : Nat) ag
     cases ag with
     | true =>
      simp only [cond_true] at hz
      exact (hz _ _ _ _).trans (qq_ok ⟨rfl, rfl, rfl, rfl⟩)
     | false =>
      simp only [cond_false] at hz
      exact (hz _ _ _ _).trans (qq_ok ⟨him, by rw [hst rfl]; rfl, rfl, rfl⟩)
   ·have hz := zsC r b off m cap ((sdI w m i).1 : Nat) ((sdI w m i).2 : Nat) (i : Nat)
    have o1 : ibits .or .i64 (((sdI w m i).1 : Nat) : Int) (((sdI w m i).2 : Nat) : Int) = (((sdI w m i).1 ||| (sdI w m i).2 : Nat) : Int) := (iO x6 y6).1
    have p1 : 2 ^ i < 65536 := Nat.pow_lt_pow_right (n := 16) (by decide) (by omega)
    have o2 : ibits .or .i64 (((sdI w m i).1 : Nat) : Int) ((2 ^ i : Nat) : Int) = (((sdI w m i).1 ||| 2 ^ i : Nat) : Int) := (iO x6 p1).1
    simp only [dF (show ¬ (i : Int) < 0 by omega), Int.toNat_natCast, o1, shlI (show i < 17 by omega), o2, bitR (x := (sdI w m i).1 ||| (sdI w m i).2) (show i ≤ 16 by omega), Nat.testBit_or, Bool.not_false, cond_true] at hz
    by_cases c : (sdI w m i).1.testBit i = true ∨ (sdI w m i).2.testBit i = true
    ·have e : ((sdI w m i).1.testBit i || (sdI w m i).2.testBit i) = true := by rw [Bool.or_eq_true]; exact c
     rw [e] at hz
     simp only [cond_true] at hz
     refine (hz _ _ _ _).trans (qq_ok ⟨him, ?_, rfl, rfl⟩)
     rw [sdI, if_pos c]
     rfl
    ·have e : ((sdI w m i).1.testBit i || (sdI w m i).2.testBit i) = false := by
      cases h : (sdI w m i).1.testBit i <;> cases h' : (sdI w m i).2.testBit i <;> simp_all
     rw [e] at hz
     simp only [cond_false] at hz
     exact (hz _ _ _ _).trans (qq_ok ⟨c, rfl, rfl, rfl⟩)
  ·rintro vs ms os ⟨him, rfl, rfl, rfl⟩
   have hz := zsG r b off m cap ((sdI w m (i + 1)).1 : Nat) ((sdI w m (i + 1)).2 : Nat) (i : Nat)
   simp only [inc1 (show i < 1000000 by omega)] at hz
   exact Go.Ev.Reach.segR (SC_ok r) TOk.nil (tm := .nil) (L := 1) (L' := 1) (d := 1) hF hro h0' [] (fun p hp => nomatch hp) ((hz _ _ _ _).trans (qq_ok ⟨m - (i + 1), by omega, i + 1, him, rfl, rfl, rfl, rfl⟩))
  ·have hz := zsB r b off m cap ((sdI w m i).1 : Nat) ((sdI w m i).2 : Nat) (i : Nat)
   by_cases c : i < m
   ·simp only [dT (show (i : Int) < Int.ofNat m by simp; omega), cond_true] at hz
    exact (hz _ _ _ _).trans (qq_ok ⟨c, rfl, rfl, rfl⟩)
   ·obtain rfl : i = m := by omega
    simp only [dF (show ¬ (i : Int) < Int.ofNat i by simp), cond_false] at hz
    exact (hz _ _ _ _).trans (qq_ok ⟨rfl, rfl, rfl⟩)
 ·rintro vs ms os ⟨rfl, rfl, rfl⟩
  have hz := zsH r ((sdI w m m).1 : Nat) ((sdI w m m).2 : Nat)
  obtain ⟨hS, _⟩ := sdI_ok hm16 hn hwl m (Nat.le_refl _)
  have a1 : ibits .and .i64 (((sdI w m m).1 : Nat) : Int) (((sdI w m m).2 : Nat) : Int) = (((sdI w m m).1 &&& (sdI w m m).2 : Nat) : Int) := (iO (Nat.lt_of_lt_of_le hS.llt hA) (Nat.lt_of_lt_of_le hS.rlt hA)).2.1
  rw [a1] at hz
  refine Go.Ev.Reach.segR (SC_ok r) TOk.nil (tm := .nil) (L := 1) (L' := 1) (d := 1) hF hro h0' [] (fun p hp => nomatch hp) ?_
  by_cases c : (sdI w m m).1 &&& (sdI w m m).2 = 0
  ·have e : ((((sdI w m m).1 &&& (sdI w m m).2 : Nat) : Int) != Int.ofNat 0) = false := by simp [c]
   simp only [e, cond_false] at hz
   exact (hz _ _ _ _).trans (qq_ok ⟨(sdI w m m).1, true, rfl, by rw [rsV, if_pos c], rfl, rfl⟩)
  ·have e : ((((sdI w m m).1 &&& (sdI w m m).2 : Nat) : Int) != Int.ofNat 0) = true := by simp [c]
   simp only [e, cond_true] at hz
   exact (hz _ _ _ _).trans (qq_ok ⟨0, false, rfl, by rw [rsV, if_neg c]; rfl, rfl, rfl⟩)
 ·exact (zsA r b off m cap _ _ _ _).trans (qq_ok ⟨rfl, rfl, rfl⟩)
end
end Go.Proofs
namespace Go.Proofs
open Go Go.Ev Go.Num
def metN (L : List Nat) : Nat → Nat
 | 0 => 0
 | i + 1 => metN L i ||| 2 ^ L.getD i 0
theorem met_bit (L : List Nat) (v : Nat) : ∀ i, (metN L i).testBit v = true ↔ ∃ j, j < i ∧ L.getD j 0 = v
 | 0 => by
  rw [metN, Nat.zero_testBit]
  exact ⟨fun h => (nomatch h), fun ⟨j, h, _⟩ => absurd h (by omega)⟩
 | i + 1 => by
  rw [metN, or_bit1, Bool.or_eq_true, met_bit L v i, decide_eq_true_eq]
  constructor
  ·rintro (⟨j, h1, h2⟩ | h)
   ·exact ⟨j, by omega, h2⟩
   ·exact ⟨i, by omega, h⟩
  ·rintro ⟨j, h1, h2⟩
   by_cases e : j = i
   ·exact .inr (by rw [← e]; exact h2)
   ·exact .inl ⟨j, by omega, h2⟩
theorem met_lt {L : List Nat} (h : ∀ i, i < L.length → L.getD i 0 < 16) : ∀ i, i ≤ L.length → metN L i < 65536
 | 0, _ => by show 0 < 65536; decide
 | i + 1, hi => Nat.or_lt_two_pow (n := 16) (met_lt h i (by omega)) (Nat.pow_lt_pow_right (by decide) (h i (by omega)))
theorem tmodN (a n : Nat) : Int.tmod ((a : Nat) : Int) (Int.ofNat n) = ((a % n : Nat) : Int) := by
 show Int.tmod (a : Int) (n : Int) = _
 rw [Int.tmod_eq_emod_of_nonneg (by omega)]
 rfl
structure OddL (w : Nat → Nat) (m : Nat) (L : List Nat) : Prop where
 l3 : 3 ≤ L.length
 odd : L.length % 2 = 1
 big : L.length < 1000
 lt : ∀ i, i < L.length → L.getD i 0 < m
 nd : ∀ i j, i < j → j < L.length → L.getD i 0 ≠ L.getD j 0
 adj : ∀ i, i < L.length → (w (L.getD i 0)).testBit (L.getD ((i + 1) % L.length) 0) = true
section
variable (r : Mem) (b off m cap b2 off2 cap2 : Nat) (hm16 : m ≤ 16) (w : Nat → Nat) (hr : ∀ k, k < m → r b (off + k) = some (I (w k : Nat))) (L : List Nat) (hr2 : ∀ k, k < L.length → r b2 (off2 + k) = some (I (L.getD k 0 : Nat)))
include hm16 hr hr2
theorem rodd_ok (hL : OddL w m L) : GrT Tryd.prog r 14 [RS b off m cap, RS b2 off2 L.length cap2] (.bool true) := by
 refine GrT.ofS (C := SC r) rfl rfl rfl (callO (SC_ok r) (by kernel_rfl) ((bodySC r _).trans ZR_eq) (nt := 78) (by kernel_rfl) (rs := [.tmp 4]) (by kernel_rfl) 243 rfl
  ⟨[4], [], fun vs ms os => vs = [some (.bool true)] ∧ ms = [] ∧ os = []⟩ ?_ fun γ W F kk hwr hF hro h0' => ?_)
 ·rintro vs ms os ⟨rfl, rfl, rfl⟩
  exact ⟨_, mkA [], by kernel_rfl, rfl⟩
 have h0' : ∀ i, 0 ≤ i → γ i = none := h0'
 have h3 := hL.l3
 have ho := hL.odd
 have hbig := hL.big
 have hl16 : ∀ i, i < L.length → L.getD i 0 < 16 := fun i hi => by have := hL.lt i hi; omega
 let Z1 : Outs := ⟨[0, 1], [], fun vs ms os => vs = [some (RS b off m cap), some (RS b2 off2 L.length cap2)] ∧ ms = [] ∧ os = []⟩
 let Z2 : Outs := ⟨[], [], fun vs ms os => vs = [] ∧ ms = [] ∧ os = []⟩
 refine Go.Ev.Reach.after3R (SC_ok r) TOk.nil (tm := .nil) (L := 1) (L' := 1) (d := 2) hF hro h0' (.step (.step (.step .base)))
  (o1 := ⟨[0, 1, 5, 6], [], fun vs ms os => vs = [some (RS b off m cap), some (RS b2 off2 L.length cap2), some (I (0 : Nat)), some (I (0 : Nat))] ∧ ms = [] ∧ os = []⟩) (o2 := Z1) [] (fun p hp => nomatch hp) ?_ ?_ ?_
 ·rintro vs ms os ⟨rfl, rfl, rfl⟩
  refine Go.Ev.Reach.blockC (Go.Ev.Reach.loopC (j := L.length) (lv := [0, 1, 5, 6]) (fl := []) (I := fun j vs ms os => ∃ i : Nat, i ≤ L.length ∧ j = L.length - i ∧ vs = [some (RS b off m cap), some (RS b2 off2 L.length cap2), some (I (metN L i : Nat)), some (I (i : Nat))] ∧ ms = [] ∧ os = []) (fun j vs ms os hI => ?_) ⟨0, Nat.zero_le _, rfl, rfl, rfl, rfl⟩)
  obtain ⟨i, hi, rfl, rfl, rfl, rfl⟩ := hI
  refine Go.Ev.Reach.segR (SC_ok r) TOk.nil (tm := .nil) (L := 1) (L' := 1) (d := 1) hF hro h0' [(0, Z1)] (fun p hp => by simp only [List.mem_cons, List.not_mem_nil, or_false] at hp; subst hp; rfl) ?_
  have hn := zrB r b off m cap b2 off2 L.length cap2 (metN L i : Nat) (i : Nat)
  by_cases c : i < L.length
  ·have e1 : r b2 (Nat.add off2 (Nat.mul i 1)) = some (I (L.getD i 0 : Nat)) := by rw [Nat.mul_eq, Nat.mul_one]; exact hr2 i c
   have x16 := hl16 i c
   have xm := hL.lt i c
   have hb : (metN L i).testBit (L.getD i 0) = false := by
    cases h : (metN L i).testBit (L.getD i 0) with
    | false => rfl
    | true =>
     obtain ⟨j, h1, h2⟩ := (met_bit L _ i).1 h
     exact absurd h2 (hL.nd j i h1 c)
   have p1 : 2 ^ L.getD i 0 < 65536 := Nat.pow_lt_pow_right (n := 16) (by decide) x16
   have o1 : ibits .or .i64 ((metN L i : Nat) : Int) ((2 ^ L.getD i 0 : Nat) : Int) = (metN L (i + 1) : Nat) := (iO (met_lt hl16 i hi) p1).1
   have ng : ¬ ((L.getD i 0 : Nat) : Int) ≥ Int.ofNat m := by simp only [Int.ofNat_eq_natCast]; omega
   generalize hx : L.getD i 0 = x at *
   simp only [dT (show (i : Int) < Int.ofNat L.length by simp; omega), dT (show 0 ≤ (i : Int) by omega), Int.toNat_natCast, show Nat.blt i L.length = true from Nat.ble_eq_true_of_le c, e1, show ∀ x, isI IntKind.i64 (I x) = true from fun _ => rfl, show ∀ x, ofI (I x) = x from fun _ => rfl, dF (show ¬ ((x : Nat) : Int) < 0 by omega), dF ng, shlI (show x < 17 by omega), bitR (x := metN L i) (show x ≤ 16 by omega), hb, o1, inc1 (show i < 1000000 by omega), Bool.not_false, cond_true, cond_false] at hn
   exact (hn _ _ _ _).trans (qq_ok ⟨L.length - (i + 1), by omega, i + 1, c, rfl, rfl, rfl, rfl⟩)
  ·simp only [dF (show ¬ (i : Int) < Int.ofNat L.length by simp; omega), cond_false] at hn
   exact (hn _ _ _ _).trans (qq_ok ⟨rfl, rfl, rfl⟩)
 ·rintro vs ms os ⟨rfl, rfl, rfl⟩
  refine Go.Ev.Reach.after3R (SC_ok r) TOk.nil (tm := .nil) (L := 1) (L' := 1) (d := 2) hF hro h0' .base
   (o1 := ⟨[0, 1, 7], [], fun vs ms os => vs = [some (RS b off m cap), some (RS b2 off2 L.length cap2), some (I (0 : Nat))] ∧ ms = [] ∧ os = []⟩) (o2 := Z2) [] (fun p hp => nomatch hp) ?_ ?_ ?_
  ·rintro vs ms os ⟨rfl, rfl, rfl⟩
   refine Go.Ev.Reach.blockC (Go.Ev.Reach.loopC (j := L.length) (lv := [0, 1, 7]) (fl := []) (I := fun j vs ms os => ∃ i : Nat, i ≤ L.length ∧ j = L.length - i ∧ vs = [some (RS b off m cap), some (RS b2 off2 L.length cap2), some (I (i : Nat))] ∧ ms = [] ∧ os = []) (fun j vs ms os hI => ?_) ⟨0, Nat.zero_le _, rfl, rfl, rfl, rfl⟩)
   obtain ⟨i, hi, rfl, rfl, rfl, rfl⟩ := hI
   refine Go.Ev.Reach.segR (SC_ok r) TOk.nil (tm := .nil) (L := 1) (L' := 1) (d := 1) hF hro h0' [(2, Z2)] (fun p hp => by simp only [List.mem_cons, List.not_mem_nil, or_false] at hp; subst hp; rfl) ?_
   have hn := zrD r b off m cap b2 off2 L.length cap2 (i : Nat)
   by_cases c : i < L.length
   ·have e1 : r b2 (Nat.add off2 (Nat.mul i 1)) = some (I (L.getD i 0 : Nat)) := by rw [Nat.mul_eq, Nat.mul_one]; exact hr2 i c
    have c2 : (i + 1) % L.length < L.length := Nat.mod_lt _ (by omega)
    have e2 : r b2 (Nat.add off2 (Nat.mul ((i + 1) % L.length) 1)) = some (I (L.getD ((i + 1) % L.length) 0 : Nat)) := by rw [Nat.mul_eq, Nat.mul_one]; exact hr2 _ c2
    have y16 := hl16 _ c2
    have xm := hL.lt i c
    have hb := hL.adj i c
    have e3 : r b (Nat.add off (Nat.mul (L.getD i 0) 1)) = some (I (w (L.getD i 0) : Nat)) := by rw [Nat.mul_eq, Nat.mul_one]; exact hr _ xm
    have hb0 : ∀ q : Nat, q ≤ 16 → ∀ x : Nat, (Int.tmod (Int.fdiv ((x : Nat) : Int) (Int.ofNat 2 ^ min q 64)) (Int.ofNat 2) == Int.ofNat 0) = !x.testBit q := fun q hq x => by
     have h1 := bitR (x := x) hq
     rw [shr_nat x q (by omega), ← bt_bit] at *
     unfold btN at *
     have : ∀ x : Nat, Int.tmod (x : Int) (Int.ofNat 2) = ((x % 2 : Nat) : Int) := fun x => tmodN x 2
     rw [this]
     rcases Nat.mod_two_eq_zero_or_one (x / 2 ^ q) with h | h <;> rw [h] <;> rfl
    generalize hx : L.getD i 0 = x at *
    generalize hy : L.getD ((i + 1) % L.length) 0 = y at *
    have nz : ¬ (Int.ofNat L.length = 0) := by simp only [Int.ofNat_eq_natCast]; omega
    simp only [inc1 (show i < 1000000 by omega), tmodN, dT (show (i : Int) < Int.ofNat L.length by simp; omega), dT (show 0 ≤ (i : Int) by omega), dT (show 0 ≤ ((x : Nat) : Int) by omega), dT (show 0 ≤ (((i + 1) % L.length : Nat) : Int) from Int.natCast_nonneg _), dF nz, Int.toNat_natCast, show Nat.blt i L.length = true from Nat.ble_eq_true_of_le c, show Nat.blt x m = true from Nat.ble_eq_true_of_le xm, show Nat.blt ((i + 1) % L.length) L.length = true from Nat.ble_eq_true_of_le c2, e1, e2, e3, show ∀ x, isI IntKind.i64 (I x) = true from fun _ => rfl, show ∀ x, ofI (I x) = x from fun _ => rfl, dF (show ¬ ((y : Nat) : Int) < 0 by omega), hb0 y (by omega), hb, Bool.not_true, Bool.not_false, cond_true, cond_false] at hn
    exact (hn _ _ _ _).trans (qq_ok ⟨L.length - (i + 1), by omega, i + 1, c, rfl, rfl, rfl, rfl⟩)
   ·simp only [dF (show ¬ (i : Int) < Int.ofNat L.length by simp; omega), cond_false] at hn
    exact (hn _ _ _ _).trans (qq_ok ⟨rfl, rfl, rfl⟩)
  ·rintro vs ms os ⟨rfl, rfl, rfl⟩
   exact Go.Ev.Reach.segR (SC_ok r) TOk.nil (tm := .nil) (L := 1) (L' := 1) (d := 1) hF hro h0' [] (fun p hp => nomatch hp) ((zrE r _ _ _ _).trans (qq_ok ⟨rfl, rfl, rfl⟩))
  ·exact (zrC r b off m cap b2 off2 L.length cap2 _ _ _ _).trans (qq_ok ⟨rfl, rfl, rfl⟩)
 ·have hn := zrA r b off m cap b2 off2 L.length cap2
  have n1 : ¬ Int.ofNat L.length < 3 := by simp only [Int.ofNat_eq_natCast]; omega
  have n2 : (Int.tmod (Int.ofNat L.length) (Int.ofNat 2) == Int.ofNat 0) = false := by
   rw [show (Int.ofNat L.length : Int) = ((L.length : Nat) : Int) from rfl, tmodN, ho]
   rfl
  simp only [dF n1, n2, cond_false] at hn
  exact (hn _ _ _ _).trans (qq_ok ⟨rfl, rfl, rfl⟩)
end
end Go.Proofs
namespace Go.Proofs
open Go Go.Ev Go.Num
section
variable {w : Nat → Nat} {m : Nat} (hw : Nbs w m) {d b p : Nat → Nat} (h : FoE w m d b p) (hm : m ≤ 16) {v u : Nat} (hv : v < m) (hu : u < m) (hd : d v = d u) (hp : p v = p u) (hne : v ≠ u) (hadj : (w v).testBit u = true)
include hw h hm hv hu hd hp hne hadj
theorem ring_odd : OddL w m (ringL b v u) := by
 have hdv := dep_lt h hm hv
 obtain ⟨hK, hmeet, hdiff⟩ := mt_at h hv hu hd hp 16 (by omega)
 unfold ringL
 generalize hKK : mtN b 16 v u = K at hK hmeet hdiff ⊢
 have hK1 : 1 ≤ K := by
  rw [← hKK, mtN, if_neg hne]
  omega
 generalize hR : chL b v K ++ itN b K v :: (chL b u K).reverse = R
 have hlen : R.length = 2 * K + 1 := by rw [← hR]; simp [chL_len]; omega
 have g1 : ∀ i, i ≤ K → R.getD i 0 = itN b i v := fun i hi => by
  rw [← hR, List.getD_eq_getElem?_getD]
  by_cases c : i < K
  ·rw [List.getElem?_append_left (by rw [chL_len]; exact c), chL_get b v K i c]
   rfl
  ·obtain rfl : i = K := by omega
   rw [List.getElem?_append_right (by rw [chL_len]; omega), chL_len, Nat.sub_self]
   rfl
 have g2 : ∀ i, K ≤ i → i ≤ 2 * K → R.getD i 0 = itN b (2 * K - i) u := fun i h1 h2 => by
  by_cases c : i = K
  ·subst c
   rw [g1 i (Nat.le_refl _), hmeet, show 2 * i - i = i by omega]
  ·rw [← hR, List.getD_eq_getElem?_getD, List.getElem?_append_right (by rw [chL_len]; omega), chL_len, show i - K = (i - K - 1) + 1 by omega, List.getElem?_cons_succ, List.getElem?_reverse (by rw [chL_len]; omega), chL_len, chL_get b u K _ (by omega), show K - 1 - (i - K - 1) = 2 * K - i by omega]
   rfl
 have f1 : ∀ n, n ≤ K → itN b n v < m ∧ d (itN b n v) = d v - n := fun n hn => by
  obtain ⟨a, c, _⟩ := it_at h hv n (by omega)
  exact ⟨a, c⟩
 have f2 : ∀ n, n ≤ K → itN b n u < m ∧ d (itN b n u) = d v - n := fun n hn => by
  obtain ⟨a, c, _⟩ := it_at h hu n (by omega)
  exact ⟨a, by rw [c, hd]⟩
 refine ⟨by omega, by omega, by omega, fun i hi => ?_, fun i j hij hj e => ?_, fun i hi => ?_⟩
 ·by_cases c : i ≤ K
  ·rw [g1 i c]; exact (f1 i c).1
  ·rw [g2 i (by omega) (by omega)]; exact (f2 _ (by omega)).1
 ·by_cases c : j ≤ K
  ·rw [g1 i (by omega), g1 j c] at e
   have e1 := (f1 i (by omega)).2
   have e2 := (f1 j c).2
   rw [e] at e1
   omega
  ·rw [g2 j (by omega) (by omega)] at e
   have e2 := (f2 (2 * K - j) (by omega)).2
   by_cases c2 : i ≤ K
   ·rw [g1 i c2] at e
    have e1 := (f1 i c2).2
    rw [e] at e1
    have : i = 2 * K - j := by omega
    rw [← this] at e
    exact hdiff i (by omega) e
   ·rw [g2 i (by omega) (by omega)] at e
    have e1 := (f2 (2 * K - i) (by omega)).2
    rw [e] at e1
    omega
 ·by_cases c : i < K
  ·rw [Nat.mod_eq_of_lt (by omega), g1 i (by omega), g1 (i + 1) (by omega)]
   exact it_edge hw h hv (by omega)
  ·by_cases c2 : i < 2 * K
   ·rw [Nat.mod_eq_of_lt (by omega), g2 i (by omega) (by omega), g2 (i + 1) (by omega) (by omega)]
    have := it_edge hw h hu (n := 2 * K - (i + 1)) (by omega)
    rw [show 2 * K - (i + 1) + 1 = 2 * K - i by omega] at this
    exact hw.sym _ _ this
   ·obtain rfl : i = 2 * K := by omega
    rw [show (2 * K + 1) % R.length = 0 by rw [hlen, Nat.mod_self], g1 0 (by omega), g2 (2 * K) (by omega) (by omega), Nat.sub_self]
    exact hw.sym _ _ hadj
end
theorem hg_split {γ : Gam} {e : Value} : ∀ (zs : List Int) (l' : List Value), VsRel γ (zs.map U ++ [e]) l' → ∃ ve, VRel γ e ve ∧ ∀ e', VRel noG e' ve → VsRel noG (zs.map U ++ [e']) l'
 | [], l', h => by
  cases h with
  | cons h1 h2 =>
  cases h2
  exact ⟨_, h1, fun e' h => .cons h .nil⟩
 | x :: zs, l', h => by
  cases h with
  | cons h1 h2 =>
  obtain ⟨ve, h3, h4⟩ := hg_split zs _ h2
  cases h1
  exact ⟨ve, h3, fun e' h => .cons (.int _ _) (h4 e' h)⟩
def GeOk (E : List (Nat × Nat)) (e : Value) (x : Option (List Value)) : Prop := (e = .slice none 0 0 ∧ E = [] ∧ x = none) ∨ ∃ k, E.length = k + 1 ∧ e = .slice (some ⟨1, 0, none⟩) (k + 1) unk ∧ x = some (m_ed (zE E) (k + 1))
theorem hG_ed {r : Mem} {γ : Gam} {A : AW} {W : World} (hwr : WRel γ A W) (hR : Ro r γ W) {n : Int} {w : Nat → Int} {E : List (Nat × Nat)} {e : Value} {x : Option (List Value)} (hx : GeOk E e x) (hrow : rowIs x A = true) {v' : Value} (h : VRel γ (.agg ⟨hG n w e⟩) v') : ∃ e', EdR (memW W) E e' ∧ VRel noG (.agg ⟨hG n w e'⟩) v' := by
 cases h with
 | agg h =>
 rename_i c'
 obtain ⟨lc⟩ := c'
 rw [hG_zs] at h
 cases h with
 | cons ha hb =>
 cases ha
 obtain ⟨ve, h5, h6⟩ := hg_split _ _ hb
 suffices hs : ∃ e', EdR (memW W) E e' ∧ VRel noG e' ve by
  obtain ⟨e', p1, p2⟩ := hs
  exact ⟨e', p1, .agg (by rw [hG_zs]; exact .cons (.int _ _) (h6 e' p2))⟩
 rcases hx with ⟨rfl, rfl, rfl⟩ | ⟨k, hk, rfl, rfl⟩
 ·cases h5
  exact ⟨.slice none 0 0, .inl ⟨rfl, rfl⟩, .sliceNil⟩
 ·unfold rowIs at hrow
  dsimp only at hrow
  split at hrow
  ·rename_i c' ty fm sz hget
   have hs := @of_decide_eq_true _ (Classical.propDecidable _) hrow
   subst hs
   obtain ⟨b, k', p1, p2⟩ := own_c hwr hR (by decide) hget h5
   refine ⟨_, .inr ⟨b, k', 0, by rw [hk], fun j hj => ?_⟩, p1⟩
   exact p2 j _ (by unfold m_ed; rw [List.getElem?_map, List.getElem?_range (by omega)]; rfl) rfl
  ·cases hrow
theorem finR_3 {A : AW} {m e x : Nat} {d : List Value} (hm : m ≠ 0) (hd : gnds d = true) (h : A.heap.get 3 = some (.cells d e x 1)) : finM (.tuple ⟨[.slice (some ⟨3, 0, none⟩) m unk, .bool true, I 0]⟩) A = .ret (.tuple ⟨[.slice (some ⟨0, 0, none⟩) m unk, .bool true, I 0]⟩) (rowA d e 1) := by
 have hb : Nat.beq m 0 = false := natFK2 hm
 unfold finM rowOf rowsOf row1
 simp only [hb, Bool.and_false]
 rw [h]
 show guardK (gnds d) _ = _
 rw [hd]
 rfl
theorem wrX {x : Nat} (h : x < 65536) : IntKind.wrap .i64 ((x : Nat) : Int) = ((x : Nat) : Int) := wrI (by omega)
section
variable (r : Mem) (hm : Tab r) {m : Nat} (h1 : 1 ≤ m) (hm16 : m ≤ 16) {E : List (Nat × Nat)} (hE : okAll (m : Int) (zE E) E.length = true) (hL : E.length < 1000000)
def sdY (E : List (Nat × Nat)) (m : Nat) : Nat := match lvE E (fD (wS E) m) with
 | none => evN (fD (wS E) m) m
 | some _ => 0
include hm hm16 hE hL
theorem eHg_ok {f : Nat} {e : Value} {x : Option (List Value)} (hx : GeOk E e x) {v : Value} (hv : gnd v = true) (hc : ∀ (r' : Mem) (e' : Value), Tab r' → EdR r' E e' → GrT Tryd.prog r' f [.agg ⟨hG (m : Nat) (wG (wS E)) e'⟩] v) : EOk (SC r) f (eHg (hG (m : Nat) (wG (wS E)) e) x v) := EOk.ent fun args A hg => by
 have _ := hm
 have _ := hm16
 have _ := hE
 have _ := hL
 have hs : m_same args [.agg ⟨hG (m : Nat) (wG (wS E)) e⟩] = true := by
  cases h : m_same args [.agg ⟨hG (m : Nat) (wG (wS E)) e⟩] with
  | true => rfl
  | false => rw [h] at hg; exact nomatch hg
 rw [hs, cond_true] at hg
 have hs := @of_decide_eq_true _ (Classical.propDecidable _) hs
 subst hs
 refine POk.of hv fun γ W args' hwr hR ha => ?_
 obtain ⟨la⟩ := args'
 cases ha with
 | cons hv hrest =>
 cases hrest
 obtain ⟨e', h5, h6⟩ := hG_ed hwr hR hx hg hv
 exact ⟨memW W, _, memW_ro W, .cons h6 .nil, hc (memW W) e' (memW_tab hm hR) h5⟩
theorem eHr_ok {f n : Nat} {e : Value} {x : Option (List Value)} (hx : GeOk E e x) {d : List Value} (hgd : gnds d = true) (hc : ∀ (r' : Mem) (e' : Value), Tab r' → EdR r' E e' → GrM Tryd.prog r' f [.agg ⟨hG (m : Nat) (wG (wS E)) e'⟩] (.tuple ⟨[.slice (some ⟨0, 0, none⟩) n unk, .bool true]⟩) (rowA d 3 1)) : EOk (SC r) f (eHr (hG (m : Nat) (wG (wS E)) e) x n d) := fun args A hg F hF kk γ W args' hwr hR ha => by
 have _ := hm
 have _ := hm16
 have _ := hE
 have _ := hL
 refine ⟨fun _ => ?_, fun h => nomatch h⟩
 have hg2 : (bif m_same args [.agg ⟨hG (m : Nat) (wG (wS E)) e⟩] then rowIs x A else false) = true := hg
 have hs : m_same args [.agg ⟨hG (m : Nat) (wG (wS E)) e⟩] = true := by
  cases h : m_same args [.agg ⟨hG (m : Nat) (wG (wS E)) e⟩] with
  | true => rfl
  | false => rw [h] at hg2; exact nomatch hg2
 rw [hs, cond_true] at hg2
 have hs := @of_decide_eq_true _ (Classical.propDecidable _) hs
 subst hs
 obtain ⟨la⟩ := args'
 cases ha with
 | cons hv hrest =>
 have hv0 := hv
 cases hrest
 obtain ⟨e', h5, h6⟩ := hG_ed hwr hR hx hg2 hv
 have hof : ofV 0 (.tuple ⟨[.slice (some ⟨0, 0, none⟩) n unk, .bool true]⟩) = true := by simp [ofV, of1, gnd]
 exact (hc (memW W) e' (memW_tab hm hR) h5).ends (γ := γ) (A := A) hof hgd hF hwr (memW_ro W) (.cons h6 .nil) (.cons hv0 .nil)
theorem sdY_lt : sdY E m < 65536 := by
 have _ := hm
 have _ := hL
 have hA : 2 ^ m ≤ 65536 := Nat.pow_le_pow_right (n := 2) (by decide) hm16
 unfold sdY
 rcases sides_eq hm16 hE with ⟨c1, c2, c3⟩ | ⟨⟨k, c1, _⟩, _⟩
 ·rw [c1, c3]
  exact Nat.lt_of_lt_of_le (sdI_end hm16 (wS_nbs hm16 hE) (wS_hi hm16 hE)).llt hA
 ·rw [c1]; show 0 < 65536; decide
include h1
theorem psdR (b off cap : Nat) (hz : rowAt r b off (2 * E.length) (zE E)) :
  GrT Tryd.prog r 11 [I (m : Nat), RS2 b off E.length cap] (.tuple ⟨[I (sdY E m : Nat), .bool (!(lvE E (fD (wS E) m)).isSome), I 0]⟩) := by
 have hr := hread_ok r hm (m : Nat) b off E.length cap (zE E) hz hL (ck_ok h1 hm16 hE)
 have hw := nbz_wS hm16 hE
 have sm : ∀ l : List Value, m_same l l = true := same_rfl
 have hy := wrX (sdY_lt r hm hm16 hE hL)
 have hc : ∀ (r' : Mem) (e' : Value), Tab r' → EdR r' E e' → GrT Tryd.prog r' 27 [.agg ⟨hG (m : Nat) (wG (wS E)) e'⟩] (.tuple ⟨[U (sdY E m : Nat), .bool (!(lvE E (fD (wS E) m)).isSome)]⟩) := fun r' e' ht he => sides_ok hm16 hE hL ht he
 rcases hlen : E.length with _ | k
 ·have hE0 : E = [] := List.length_eq_zero_iff.1 hlen
  rw [hlen] at hr hw
  simp only [vRd, aRd, m_hG _ (nbz_len (zE E) 0), hw] at hr
  refine GrT.of (SC_ok r) (show TOk (SC r) (tXs (hG (m : Nat) (wG (wS E)) (.slice none 0 0)) none (sdY E m : Nat) (!(lvE E (fD (wS E) m)).isSome) (tHo1 (m : Nat) b off cap (wG (wS E)))) from TOk.cons (TOk.cons TOk.nil (entAt_ok hr.one)) (eHg_ok r hm hm16 hE hL (.inl ⟨rfl, hE0, rfl⟩) rfl hc)) .nil rfl ⟨1, 2, ?_⟩
  rw [xs1]
  simp only [sm, show ∀ (l : List Value) (A : AW), m_at l l A A = true from at_rfl, cond_true, hy]
  cases (lvE E (fD (wS E) m)).isSome <;> rfl
 ·rw [hlen] at hr hw
  simp only [vRd, aRd, m_hG _ (nbz_len (zE E) (k + 1)), hw] at hr
  refine GrT.of (SC_ok r) (show TOk (SC r) (tXs (eG (m : Nat) (wG (wS E)) k) (some (m_ed (zE E) (k + 1))) (sdY E m : Nat) (!(lvE E (fD (wS E) m)).isSome) (tHo2 (m : Nat) b off cap k (wG (wS E)) (m_ed (zE E) (k + 1)))) from TOk.cons (TOk.cons TOk.nil (entAt_ok hr.one)) (eHg_ok r hm hm16 hE hL (.inr ⟨k, hlen, rfl, rfl⟩) rfl hc)) .nil rfl ⟨1, 2, ?_⟩
  rw [xs2]
  simp only [sm, show ∀ (l : List Value) (A : AW), m_at l l A A = true from at_rfl, cond_true, hy]
  cases (lvE E (fD (wS E) m)).isSome <;> rfl
theorem podR (hn : lvE E (fD (wS E) m) = none) (b off cap : Nat) (hz : rowAt r b off (2 * E.length) (zE E)) :
  GrT Tryd.prog r 12 [I (m : Nat), RS2 b off E.length cap] (.tuple ⟨[.slice none 0 0, .bool false, I 0]⟩) := by
 have hr := hread_ok r hm (m : Nat) b off E.length cap (zE E) hz hL (ck_ok h1 hm16 hE)
 have hw := nbz_wS hm16 hE
 have sm : ∀ l : List Value, m_same l l = true := same_rfl
 have hc : ∀ (r' : Mem) (e' : Value), Tab r' → EdR r' E e' → GrT Tryd.prog r' 28 [.agg ⟨hG (m : Nat) (wG (wS E)) e'⟩] (.tuple ⟨[.slice none 0 0, .bool false]⟩) := fun r' e' ht he => oddN_ok ht hm16 hE hL he hn
 rcases hlen : E.length with _ | k
 ·have hE0 : E = [] := List.length_eq_zero_iff.1 hlen
  rw [hlen] at hr hw
  simp only [vRd, aRd, m_hG _ (nbz_len (zE E) 0), hw] at hr
  refine GrT.of (SC_ok r) (show TOk (SC r) (tXo (hG (m : Nat) (wG (wS E)) (.slice none 0 0)) none (tHo1 (m : Nat) b off cap (wG (wS E)))) from TOk.cons (TOk.cons TOk.nil (entAt_ok hr.one)) (eHg_ok r hm hm16 hE hL (.inl ⟨rfl, hE0, rfl⟩) rfl hc)) .nil rfl ⟨1, 2, ?_⟩
  rw [xo1]
  simp only [sm, show ∀ (l : List Value) (A : AW), m_at l l A A = true from at_rfl, cond_true]
  rfl
 ·rw [hlen] at hr hw
  simp only [vRd, aRd, m_hG _ (nbz_len (zE E) (k + 1)), hw] at hr
  refine GrT.of (SC_ok r) (show TOk (SC r) (tXo (eG (m : Nat) (wG (wS E)) k) (some (m_ed (zE E) (k + 1))) (tHo2 (m : Nat) b off cap k (wG (wS E)) (m_ed (zE E) (k + 1)))) from TOk.cons (TOk.cons TOk.nil (entAt_ok hr.one)) (eHg_ok r hm hm16 hE hL (.inr ⟨k, hlen, rfl, rfl⟩) rfl hc)) .nil rfl ⟨1, 2, ?_⟩
  rw [xo2]
  simp only [sm, show ∀ (l : List Value) (A : AW), m_at l l A A = true from at_rfl, cond_true]
  rfl
theorem prdX {i : Nat} (hl : lvE E (fD (wS E) m) = some i) (hi : i < E.length) (hd : fD (wS E) m (E.getD i (0, 0)).1 = fD (wS E) m (E.getD i (0, 0)).2) : OddL (wS E) m (ringL (fB (wS E) m) (E.getD i (0, 0)).1 (E.getD i (0, 0)).2) ∧ ∀ (b off cap : Nat), rowAt r b off (2 * E.length) (zE E) →
  GrM Tryd.prog r 12 [I (m : Nat), RS2 b off E.length cap] (.tuple ⟨[.slice (some ⟨0, 0, none⟩) (ringL (fB (wS E) m) (E.getD i (0, 0)).1 (E.getD i (0, 0)).2).length unk, .bool true, I 0]⟩) (rowA (m_ws (ringL (fB (wS E) m) (E.getD i (0, 0)).1 (E.getD i (0, 0)).2)) 3 1) := by
 have hw := nbz_wS hm16 hE
 have sm : ∀ l : List Value, m_same l l = true := same_rfl
 have hc : ∀ (r' : Mem) (e' : Value), Tab r' → EdR r' E e' → GrM Tryd.prog r' 28 [.agg ⟨hG (m : Nat) (wG (wS E)) e'⟩] (.tuple ⟨[.slice (some ⟨0, 0, none⟩) (ringL (fB (wS E) m) (E.getD i (0, 0)).1 (E.getD i (0, 0)).2).length unk, .bool true]⟩) (rowA (m_ws (ringL (fB (wS E) m) (E.getD i (0, 0)).1 (E.getD i (0, 0)).2)) 3 1) := fun r' e' ht he => GrM.ofS (C := SC r') rfl rfl (oddR_ok ht hm16 hE hL he hl hi hd)
 have hO : OddL (wS E) m (ringL (fB (wS E) m) (E.getD i (0, 0)).1 (E.getD i (0, 0)).2) := by
  obtain ⟨p, hF⟩ := fE (wS_nbs hm16 hE) hm16
  obtain ⟨hlt, hm2⟩ := E_at hE hi
  have hadj : (wS E (E.getD i (0, 0)).1).testBit (E.getD i (0, 0)).2 = true := (wS_bit hm16 hE _ _).2 ⟨i, hi, .inl ⟨rfl, rfl⟩⟩
  exact ring_odd (wS_nbs hm16 hE) hF hm16 (by omega) hm2 hd ((hF.near _ (by omega) _ hadj).2).symm (by omega) hadj
 refine ⟨hO, fun b off cap hz => ?_⟩
 have hr := hread_ok r hm (m : Nat) b off E.length cap (zE E) hz hL (ck_ok h1 hm16 hE)
 have hl3 := hO.l3
 generalize ringL (fB (wS E) m) (E.getD i (0, 0)).1 (E.getD i (0, 0)).2 = R at *
 rcases hlen : E.length with _ | k
 ·omega
 ·rw [hlen] at hr hw
  simp only [vRd, aRd, m_hG _ (nbz_len (zE E) (k + 1)), hw] at hr
  refine GrM.of (SC_ok r) (show TOk (SC r) (tXr (eG (m : Nat) (wG (wS E)) k) (some (m_ed (zE E) (k + 1))) R.length (m_ws R) (tHo2 (m : Nat) b off cap k (wG (wS E)) (m_ed (zE E) (k + 1)))) from TOk.cons (TOk.cons TOk.nil (entAt_ok hr.one)) (eHr_ok r hm hm16 hE hL (.inr ⟨k, hlen, rfl, rfl⟩) (ws_gnd _) hc)) .nil ⟨1, 2, ?_⟩
  rw [xr2]
  simp only [sm, show ∀ (l : List Value) (A : AW), m_at l l A A = true from at_rfl, cond_true]
  exact finR_3 (x := 3) (by omega) (ws_gnd _) (by kernel_rfl)
end
section
variable (r : Mem) (hm : Tab r) {m : Nat} (h1 : 1 ≤ m) (hm16 : m ≤ 16)
include hm h1 hm16
theorem psdN : GrT Tryd.prog r 11 [I (m : Nat), .slice none 0 0] (.tuple ⟨[I (sdY [] m : Nat), .bool (!(lvE [] (fD (wS []) m)).isSome), I 0]⟩) := by
 have hE : okAll (m : Int) (zE []) ([] : List (Nat × Nat)).length = true := rfl
 have sm : ∀ l : List Value, m_same l l = true := same_rfl
 have hy := wrX (sdY_lt r hm hm16 hE (by decide))
 refine GrT.of (SC_ok r) (show TOk (SC r) (tXs (hG (m : Nat) (wG (wS [])) (.slice none 0 0)) none (sdY [] m : Nat) (!(lvE [] (fD (wS []) m)).isSome) (tHoN (m : Nat) (wG (wS [])))) from TOk.cons (TOk.cons TOk.nil (entV_ok (hreadN r h1 hm16) rfl)) (eHg_ok r hm hm16 hE (by decide) (.inl ⟨rfl, rfl, rfl⟩) rfl fun r' e' ht he => sides_ok hm16 hE (by decide) ht he)) .nil rfl ⟨1, 2, ?_⟩
 rw [xsN]
 simp only [sm, cond_true, hy]
 cases (lvE [] (fD (wS []) m)).isSome <;> rfl
theorem podN (hn : lvE [] (fD (wS []) m) = none) : GrT Tryd.prog r 12 [I (m : Nat), .slice none 0 0] (.tuple ⟨[.slice none 0 0, .bool false, I 0]⟩) := by
 have hE : okAll (m : Int) (zE []) ([] : List (Nat × Nat)).length = true := rfl
 have sm : ∀ l : List Value, m_same l l = true := same_rfl
 refine GrT.of (SC_ok r) (show TOk (SC r) (tXo (hG (m : Nat) (wG (wS [])) (.slice none 0 0)) none (tHoN (m : Nat) (wG (wS [])))) from TOk.cons (TOk.cons TOk.nil (entV_ok (hreadN r h1 hm16) rfl)) (eHg_ok r hm hm16 hE (by decide) (.inl ⟨rfl, rfl, rfl⟩) rfl fun r' e' ht he => oddN_ok ht hm16 hE (by decide) he hn)) .nil rfl ⟨1, 2, ?_⟩
 rw [xoN]
 simp only [sm, cond_true]
 rfl
end
end Go.Proofs
