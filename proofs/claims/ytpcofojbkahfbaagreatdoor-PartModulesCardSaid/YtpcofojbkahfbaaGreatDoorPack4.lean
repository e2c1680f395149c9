/- What the claim is proved with, part 4: the evaluator and the contracts of the calls. -/
import Derived.Test.YtpcofojbkahfbaaGreatDoorPack3
import Derived.Test.YtpcofojbkahfbaaGreatDoorPack2
import Derived.Test.YtpcofojbkahfbaaGreatDoorPack1
/- Chapter 4: the example calls answer true. -/
namespace Go.Proofs
open Go Go.Ev
set_option linter.unusedVariables false
set_option linter.unusedSimpArgs false
set_option maxRecDepth 100000

theorem awake4 : GrT Tryz.prog tabM 17 [] (.bool true) := GrT.of (CC_ok tabM) (tSD_ok tabM) mskP rfl ⟨1000, 40, by kernel_rfl⟩

end Go.Proofs

/- Modules listed; the program's functions: what the calls answer. -/
namespace Go.Num
open Go.Proofs

def imN (w : Nat → Nat) (n s : Nat) : Bool := !(s == 0) && (spN w (anN (2 ^ n - 1) s) s 16 == 0)
theorem spN_zero (w : Nat → Nat) (a s : Nat) : ∀ k, spN w a s k = 0 ↔ ∀ v, v < k → a.testBit v = true → sxC w s v = false
 | 0 => by simp [spN]
 | k + 1 => by
  rw [spN, Nat.or_eq_zero_iff, spN_zero w a s k]
  constructor
  ·rintro ⟨h1, h2⟩ v hv ha
   by_cases c : v = k
   ·subst c
    cases h : sxC w s v with
    | false => rfl
    | true =>
     rw [if_pos ⟨ha, h⟩] at h2
     have := Nat.two_pow_pos v
     omega
   ·exact h1 v (by omega) ha
  ·intro h
   refine ⟨fun v hv => h v (by omega), if_neg fun hh => ?_⟩
   have := h k (by omega) hh.1
   rw [hh.2] at this
   cases this
theorem rmN_true (w : Nat → Nat) (s : Nat) : ∀ k, rmN w s k = true ↔ ∀ v, v < k → s.testBit v = false → sxC w s v = false
 | 0 => by simp [rmN]
 | k + 1 => by
  rw [rmN, Bool.and_eq_true, rmN_true w s k]
  constructor
  ·rintro ⟨h1, h2⟩ v hv hs
   by_cases c : v = k
   ·subst c
    rw [bt_bit, hs] at h2
    cases h : sxC w s v with
    | false => rfl
    | true => rw [h] at h2; cases h2
   ·exact h1 v (by omega) hs
  ·intro h
   refine ⟨fun v hv => h v (by omega), ?_⟩
   rw [bt_bit]
   cases hs : s.testBit k with
   | true => rfl
   | false => rw [h k (by omega) hs]; rfl
theorem im_is {w w' : Nat → Nat} {n : Nat} (hn : n ≤ 16) (hww : ∀ i, i < n → w i = w' i) (s : Nat) : imN w n s = isM w' n s := by
 unfold imN isM
 rw [Bool.and_comm]
 congr 1
 rw [Bool.eq_iff_iff, beq_iff_eq, spN_zero, rmN_true]
 have hx : ∀ v, v < n → sxC w s v = sxC w' s v := fun v hv => by unfold sxC; rw [hww v hv]
 constructor
 ·intro h v hv hs
  rw [← hx v hv]
  refine h v (by omega) ?_
  rw [an_bit, Nat.testBit_two_pow_sub_one, hs, decide_eq_true hv]
  rfl
 ·intro h v hv ha
  rw [an_bit, Nat.testBit_two_pow_sub_one, Bool.and_eq_true, decide_eq_true_eq, Bool.not_eq_true'] at ha
  rw [hx v ha.1]
  exact h v ha.1 ha.2
theorem im_one (w : Nat → Nat) (n : Nat) : imN w n 1 = true := by
 unfold imN
 rw [Bool.and_eq_true, beq_iff_eq, spN_zero]
 refine ⟨rfl, fun v _ _ => ?_⟩
 unfold sxC
 rw [Nat.and_one_is_mod]
 rcases Nat.mod_two_eq_zero_or_one (w v) with h | h <;> rw [h] <;> rfl
theorem moL_two {q : Nat → Bool} (h : q 1 = true) : ∀ k, 2 ≤ k → moL q k ≠ []
 | 0, hk => by omega
 | 1, hk => by omega
 | 2, _ => by
  rw [moL, if_pos ⟨Nat.le_refl _, h⟩]
  simp
 | k + 3, _ => by
  rw [moL]
  have := moL_two h (k + 2) (by omega)
  simp [this]
theorem moL_lt {q : Nat → Bool} : ∀ {k : Nat}, ∀ s ∈ moL q k, s < k
 | 0, s, h => by cases h
 | k + 1, s, h => by
  rw [moL, List.mem_append] at h
  rcases h with h | h
  ·have := moL_lt s h; omega
  ·split at h
   ·rw [List.mem_singleton] at h; omega
   ·cases h
def nuK (ws : List Nat) (k i : Nat) : Nat := if i < k then ws.getD i 0 else 0
def nuL (ws : List Nat) (k : Nat) : List Nat := (List.range ws.length).map (nuK ws k)
theorem nuL_len (ws : List Nat) (k : Nat) : (nuL ws k).length = ws.length := by simp [nuL]
theorem nuL_get (ws : List Nat) {i : Nat} (h : i < ws.length) (k : Nat) : (nuL ws k)[i]? = some (nuK ws k i) := by
 unfold nuL
 rw [List.getElem?_map, List.getElem?_range h]
 rfl
theorem nuL_set (ws : List Nat) {k : Nat} (hk : k < ws.length) : (nuL ws k).set k (ws.getD k 0) = nuL ws (k + 1) := by
 apply List.ext_getElem?
 intro i
 by_cases hi : i < ws.length
 ·rw [List.getElem?_set, nuL_get ws hi, nuL_get ws hi, nuL_len]
  unfold nuK
  by_cases e : k = i
  ·subst e; rw [if_pos rfl, if_pos hk, if_pos (Nat.lt_succ_self _)]
  ·rw [if_neg e]
   by_cases c : i < k
   ·rw [if_pos c, if_pos (show i < k + 1 by omega)]
   ·rw [if_neg c, if_neg (show ¬ i < k + 1 by omega)]
 ·rw [List.getElem?_eq_none (by rw [List.length_set, nuL_len]; omega), List.getElem?_eq_none (by rw [nuL_len]; omega)]
theorem nuL_all (ws : List Nat) : nuL ws ws.length = ws := by
 apply List.ext_getElem?
 intro i
 by_cases hi : i < ws.length
 ·rw [nuL_get ws hi, nuK, if_pos hi, List.getD_eq_getElem?_getD, List.getElem?_eq_getElem hi]
  rfl
 ·rw [List.getElem?_eq_none (by rw [nuL_len]; omega), List.getElem?_eq_none (by omega)]

end Go.Num
namespace Go.Proofs
open Go Go.Ev Go.Num
set_option linter.unusedVariables false
set_option linter.unusedSimpArgs false
set_option maxRecDepth 100000

def m_wu (ws : List Nat) : List Value := ws.map fun (w : Nat) => U (w : Int)
theorem wu_nn (ws : List Nat) : m_nns (m_wu ws) = true := by
 show nns (ws.map _) = true
 induction ws with
 | nil => rfl
 | cons w l ih => show (nn (U w) && nns (l.map _)) = true; rw [ih]; rfl
theorem wu_gnd (ws : List Nat) : gnds (m_wu ws) = true := by
 induction ws with
 | nil => rfl
 | cons w l ih => show (gnd (U w) && gnds (l.map _)) = true; rw [show gnds (l.map fun (w : Nat) => U (w : Int)) = true from ih]; rfl

theorem im_ok (r : Mem) (hm : Tab r) {n : Nat} (hn : n ≤ 16) {w : Nat → Nat} (hw : ∀ i, w i < 65536) {s : Nat} (hs : s < 65536) :
  GrT Tryz.prog r 27 [.agg ⟨gC (n : Nat) fun i => (w i : Nat)⟩, U (s : Nat)] (.bool (imN w n s)) := by
 have sm : ∀ l : List Value, m_same l l = true := same_rfl
 have hsp := split_ok r hm hn hw hs
 refine GrT.of (SC_ok r) (show TOk (SC r) (tIm (n : Nat) (fun i => (w i : Nat)) (s : Nat) (spN w (anN (2 ^ n - 1) s) s 16 : Nat)) from TOk.cons TOk.nil (entV_ok hsp rfl)) .nil rfl ⟨1, 2, ?_⟩
 have hn' := imA r (n : Nat) (fun i => (w i : Nat)) (s : Nat) (spN w (anN (2 ^ n - 1) s) s 16 : Nat)
 have nn : ∀ x y : Nat, (((x : Nat) : Int) != ((y : Nat) : Int)) = !(x == y) := fun x y => by rw [Bool.eq_iff_iff]; simp; exact not_congr Int.ofNat_inj
 have eqn : ∀ x y : Nat, (((x : Nat) : Int) == ((y : Nat) : Int)) = (x == y) := fun x y => by rw [Bool.eq_iff_iff, beq_iff_eq, beq_iff_eq]; exact Int.ofNat_inj
 simp only [sm, cond_true, show (Int.ofNat 0 : Int) = ((0 : Nat) : Int) from rfl, nn, eqn] at hn'
 unfold imN
 rw [hn']
 cases (s == 0) with
 | true => rfl
 | false => cases (spN w (anN (2 ^ n - 1) s) s 16 == 0) <;> rfl

theorem eIm_ok (r : Mem) (hm : Tab r) {n : Nat} (hn : n ≤ 16) {w : Nat → Nat} (hw : ∀ i, w i < 65536) : EOk (SC r) 27 (eIm (gC (n : Nat) fun i => (w i : Nat)) fun s => imN w n s.toNat) := EOk.ent fun args A hg => by
 split at hg
 ·rename_i l s
  simp only [Bool.and_eq_true] at hg
  have h1 := @of_decide_eq_true _ (Classical.propDecidable _) hg.1
  have h2 := of_decide_eq_true hg.2
  subst h1
  have := im_ok r hm hn hw (s := s.toNat) (by omega)
  rw [show ((s.toNat : Nat) : Int) = s by omega] at this
  exact this.ro rfl A
 ·cases hg

theorem mods_ok (r : Mem) (hm : Tab r) {n : Nat} (h1 : 1 ≤ n) (hn : n ≤ 16) {w : Nat → Nat} (hw : ∀ i, w i < 65536) {p : Nat} {l : List Nat} (hl : moL (imN w n) (2 ^ n) = p :: l) :
  SOk (SC r) 31 [.agg ⟨gC (n : Nat) fun i => (w i : Nat)⟩] emptyA fun v A => v = rowV 0 (l.length + 1) ∧ A = mkA [oRv (m_wu (p :: l)) 0] := by
 have hA : 2 ^ n ≤ 65536 := Nat.pow_le_pow_right (n := 2) (by decide) hn
 have hA2 : 2 ≤ 2 ^ n := by
  have := Nat.pow_le_pow_right (n := 2) (by decide) h1
  omega
 have ht : TOk (SC r) (tMo (gC (n : Nat) fun i => (w i : Nat)) fun s => imN w n s.toNat) := TOk.cons TOk.nil (eIm_ok r hm (by omega) hw)
 have smc : m_same (gC (n : Nat) fun i => ((w i : Nat) : Int)) (gC (n : Nat) fun i => ((w i : Nat) : Int)) = true := same_rfl _
 have hq1 := im_one w n
 have eA := allU (show n ≤ 16 by omega)
 generalize imN w n = q at *
 generalize 2 ^ n = A at *
 have hU : ∀ k : Nat, k < 100000 → IntKind.wrap .u64 ((k : Int) + Int.ofNat 1) = ((k + 1 : Nat) : Int) := fun k h => by rw [wrU]; simp; omega
 refine callL (SC_ok r) (by kernel_rfl) ((bodySC r _).trans Mo_eq) (nt := 19) (by kernel_rfl) (rs := [.tmp 2]) (by kernel_rfl) 31 rfl (.step (.step .base)) TOk.nil (tm := .nil) (L := 1) (d := 1) lvMo [.g]
  (fun j vs ms os => ∃ k, 1 ≤ k ∧ k ≤ A ∧ j = A - k ∧ ((k = 1 ∧ vs = [some (P0 0), some (.slice none 0 0), some (U ((1 : Nat) : Int))] ∧ ms = [] ∧ os = [oPg (gC (n : Nat) fun i => (w i : Nat)) 0]) ∨ ∃ p l, p :: l = moL q k ∧ vs = [some (P0 0), some (rowV 1 (l.length + 1)), some (U (k : Nat))] ∧ ms = [] ∧ os = [oPg (gC (n : Nat) fun i => (w i : Nat)) 0, oRv (m_wu (p :: l)) 1]))
  ⟨[3], [], fun vs ms os => vs = [some (rowV 0 (l.length + 1))] ∧ ms = [] ∧ os = [oRv (m_wu (p :: l)) 0]⟩
  ⟨[2], [], fun vs ms os => vs = [some (rowV 0 (l.length + 1))] ∧ ms = [] ∧ os = [oRv (m_wu (p :: l)) 0]⟩ ?_ ?_ ?_ ?_
 ·exact (moA r (n : Nat) (fun i => (w i : Nat)) _ _ _ _).trans (qq_ok ⟨A - 1, 1, Nat.le_refl _, by omega, rfl, .inl ⟨rfl, rfl, rfl, rfl⟩⟩)
 ·rintro j vs ms os ⟨k, hk1, hk, rfl, ⟨rfl, rfl, rfl, rfl⟩ | ⟨p', l', hl', rfl, rfl, rfl⟩⟩
  ·refine ⟨_, ht, .nil, 1, 1, 3, ?_⟩
   have hn' := moB1 r (n : Nat) (fun i => (w i : Nat)) ((1 : Nat) : Int) fun s => q s.toNat
   simp only [dF (show ¬ (n : Int) < 0 by omega), Int.toNat_natCast, eA, decide_eq_true (show ((1 : Nat) : Int) ≤ ((A - 1 : Nat) : Int) by omega), smc, show m_w16 ((1 : Nat) : Int) = true from rfl, hq1, hU 1 (by omega), Bool.not_false, Bool.and_self, cond_true] at hn'
   exact (hn' _ _ _).trans (qq_ok ⟨A - 2, by omega, 2, by omega, hA2, rfl, .inr ⟨1, [], by rw [moL, if_pos ⟨Nat.le_refl _, hq1⟩]; rfl, rfl, rfl, rfl⟩⟩)
  ·refine ⟨_, ht, .nil, 1, 1, 3, ?_⟩
   have hlen := moL_len q k
   rw [← hl'] at hlen
   have hn' := moB2 r (n : Nat) (fun i => (w i : Nat)) (k : Nat) (l'.length + 1) (m_wu (p' :: l')) fun s => q s.toNat
   by_cases c : k < A
   ·have wk : m_w16 ((k : Nat) : Int) = true := decide_eq_true ⟨by omega, by omega⟩
    have m1 : Nat.ble (Nat.add (l'.length + 1) 1) 1000000 = true := Nat.ble_eq_true_of_le (by simp at hlen ⊢; omega)
    have tk : takeAt (m_wu (p' :: l')) 0 (Nat.mul (l'.length + 1) 1) = some (m_wu (p' :: l')) := takeL_all _ _ (by simp [m_wu])
    have ap : m_wu (p' :: l') ++ [U (k : Nat)] = m_wu (p' :: (l' ++ [k])) := by simp [m_wu]
    have al : Nat.add (l'.length + 1) 1 = (l' ++ [k]).length + 1 := by simp
    simp only [dF (show ¬ (n : Int) < 0 by omega), Int.toNat_natCast, eA, decide_eq_true (show ((k : Nat) : Int) ≤ ((A - 1 : Nat) : Int) by omega), smc, wk, hU k (by omega), m1, tk, ap, gC_nns, wu_nn, Bool.not_false, Bool.and_self, cond_true] at hn'
    cases hq : q k with
    | true =>
     simp only [hq, cond_true] at hn'
     rw [al] at hn'
     exact (hn' _ _ _).trans (qq_ok ⟨A - (k + 1), by omega, k + 1, by omega, c, rfl, .inr ⟨p', l' ++ [k], by rw [moL, if_pos ⟨hk1, hq⟩, ← hl']; rfl, rfl, rfl, rfl⟩⟩)
    | false =>
     simp only [hq, cond_false] at hn'
     exact (hn' _ _ _).trans (qq_ok ⟨A - (k + 1), by omega, k + 1, by omega, c, rfl, .inr ⟨p', l', by rw [moL, if_neg (by simp [hq]), List.append_nil]; exact hl', rfl, rfl, rfl⟩⟩)
   ·obtain rfl : k = A := by omega
    rw [hl] at hl'
    cases hl'
    simp only [dF (show ¬ (n : Int) < 0 by omega), Int.toNat_natCast, eA, decide_eq_false (show ¬ ((k : Nat) : Int) ≤ ((k - 1 : Nat) : Int) by omega), wu_nn, Bool.not_false, Bool.and_self, cond_true, cond_false] at hn'
    exact (hn' _ _ _).trans (qq_ok ⟨rfl, rfl, rfl⟩)
 ·rintro vs ms os ⟨rfl, rfl, rfl⟩
  refine ⟨_, TOk.nil, .nil, 1, 1, 1, ?_⟩
  have hn' := moC r (l.length + 1) (m_wu (p :: l))
  simp only [wu_nn, Bool.and_self, cond_true] at hn'
  exact (hn' _ _ _ _).trans (qq_ok ⟨rfl, rfl, rfl⟩)
 ·rintro vs ms os ⟨rfl, rfl, rfl⟩
  exact ⟨_, mkA [oRv (m_wu (p :: l)) 0], by kernel_rfl, rfl, rfl⟩

theorem nums_ok (r : Mem) (b off cap : Nat) (ws : List Nat) (hl : ws.length < 1000000) (hlt : ∀ x ∈ ws, x < 65536) (hr : ∀ k, k < ws.length → r b (off + k) = some (U (ws.getD k 0 : Nat))) :
  SOk (SC r) 30 [RS b off ws.length cap] emptyA fun v A => v = .slice (some ⟨0, 0, none⟩) ws.length ws.length ∧ A = mkA [some (.cells (m_ws ws) 3 0 1)] := by
 generalize hm : ws.length = m at *
 refine callL (SC_ok r) (by kernel_rfl) ((bodySC r _).trans Nu_eq) (nt := 23) (by kernel_rfl) (rs := [.tmp 2]) (by kernel_rfl) 3645 rfl (.step (.step .base)) TOk.nil (tm := .nil) (L := 1) (d := 1) lvNu []
  (fun j vs ms os => ∃ k, k ≤ m ∧ j = m - k ∧ vs = [some (.slice (some ⟨0, 0, none⟩) m m), some (RS b off m cap), some (I (m : Nat)), some (I (k : Nat))] ∧ ms = [] ∧ os = [some (.cells (m_ws (nuL ws k)) 3 0 1)])
  ⟨[3], [], fun vs ms os => vs = [some (.slice (some ⟨0, 0, none⟩) m m)] ∧ ms = [] ∧ os = [some (.cells (m_ws ws) 3 0 1)]⟩
  ⟨[2], [], fun vs ms os => vs = [some (.slice (some ⟨0, 0, none⟩) m m)] ∧ ms = [] ∧ os = [some (.cells (m_ws ws) 3 0 1)]⟩ ?_ ?_ ?_ ?_
 ·have e0 : zerosL (Nat.mul m 1) [Value.int IntKind.i64 (Int.ofNat 0)] = m_ws (nuL ws 0) := by
   have h : ∀ k, zerosL k [Value.int IntKind.i64 (Int.ofNat 0)] = (List.replicate k (Value.int IntKind.i64 (Int.ofNat 0))) := fun k => by
    induction k with
    | zero => rfl
    | succ k ih => rw [List.replicate_succ, ← ih]; rfl
   rw [Nat.mul_eq, Nat.mul_one, h]
   unfold m_ws nuL nuK
   apply List.ext_getElem
   ·simp [hm]
   ·intro i h1 h2
    simp
  have hn := nuA r b off m cap
  simp only [show Int.toNat (Int.ofNat m) = m from rfl, show Nat.ble m m = true from Nat.ble_eq_true_of_le (Nat.le_refl _), show Nat.ble m 1000000 = true from Nat.ble_eq_true_of_le (by omega), e0, ws_nn, Bool.and_self, cond_true] at hn
  exact (hn _ _ _ _).trans (qq_ok ⟨m, 0, Nat.zero_le _, rfl, rfl, rfl, rfl⟩)
 ·rintro j vs ms os ⟨k, hk, rfl, rfl, rfl, rfl⟩
  refine ⟨_, TOk.nil, .nil, 1, 1, 1, ?_⟩
  have hn := nuB r b off m cap k (m_ws (nuL ws k))
  by_cases c : k < m
  ·have e1 : r b (Nat.add off (Nat.mul k 1)) = some (U (ws.getD k 0 : Nat)) := by rw [Nat.mul_eq, Nat.mul_one]; exact hr k c
   have hx : ws.getD k 0 < 65536 := getD_lt hlt k
   have hset : List.set (m_ws (nuL ws k)) (Nat.add 0 (Nat.mul k 1)) (I (ws.getD k 0 : Nat)) = m_ws (nuL ws (k + 1)) := by
    rw [show Nat.add 0 (Nat.mul k 1) = k by simp, ← nuL_set ws (by omega)]
    unfold m_ws
    rw [List.map_set]
   have hb : Nat.blt (Nat.add 0 (Nat.mul k 1)) (m_ws (nuL ws k)).length = true := Nat.ble_eq_true_of_le (by simp [m_ws, nuL]; omega)
   have ew : IntKind.wrap IntKind.i64 ((ws.getD k 0 : Nat) : Int) = ((ws.getD k 0 : Nat) : Int) := wrI (by omega)
   simp only [dT (show (k : Int) < Int.ofNat m by simp; omega), dT (show 0 ≤ (k : Int) by omega), show Nat.blt k m = true from Nat.ble_eq_true_of_le c, Int.toNat_natCast, e1, show ∀ x, isI IntKind.u64 (U x) = true from fun _ => rfl, show ∀ x, ofI (U x) = x from fun _ => rfl, hb, ew, hset, ws_nn, iInc (show k < 1000000 by omega), Bool.and_self, cond_true] at hn
   exact (hn _ _ _ _).trans (qq_ok ⟨m - (k + 1), by omega, k + 1, c, rfl, rfl, rfl, rfl⟩)
  ·obtain rfl : k = m := by omega
   simp only [dF (show ¬ (k : Int) < Int.ofNat k by simp), ws_nn, Bool.and_self, cond_true, cond_false] at hn
   refine (hn _ _ _ _).trans (qq_ok ⟨rfl, rfl, ?_⟩)
   rw [← hm, nuL_all]
 ·rintro vs ms os ⟨rfl, rfl, rfl⟩
  refine ⟨_, TOk.nil, .nil, 1, 1, 1, ?_⟩
  have hn := nuC r m (m_ws ws)
  simp only [ws_nn, Bool.and_self, cond_true] at hn
  exact (hn _ _ _ _).trans (qq_ok ⟨rfl, rfl, rfl⟩)
 ·rintro vs ms os ⟨rfl, rfl, rfl⟩
  exact ⟨_, mkA [some (.cells (m_ws ws) 3 0 1)], by kernel_rfl, rfl, rfl⟩

end Go.Proofs

/- The twins of a graph, run. -/
namespace Go.Proofs
open Go Go.Ev Go.Num
set_option linter.unusedVariables false
set_option linter.unusedSimpArgs false
set_option maxRecDepth 100000

noncomputable def cTw : Code := bodyOf S0 8
noncomputable def Tw_0 : Code := (lc cTw)
noncomputable def Tw_1 : Code := (lc (rc cTw))
noncomputable def Tw_2 : Code := (lc (rc (rc cTw)))
noncomputable def Tw_3 : Code := (lc (rc (rc (rc cTw))))
noncomputable def Tw_4 : Code := (lc (lc (rc (rc (rc (rc cTw))))))
noncomputable def Tw_5 : Code := (ic (rc (lc (rc (rc (rc (rc cTw)))))))
noncomputable def Tw_6 : Code := (rc (rc (rc (rc (rc cTw)))))
noncomputable def k_t1 : Code := rgA Tw_5
noncomputable def k_t2 : Code := rgB Tw_5
theorem Tw_eq : cTw = (.seq Tw_0 (.seq Tw_1 (.seq Tw_2 (.seq Tw_3 (.seq (.seq Tw_4 (.block 0 (.rangeFunc (.tmp 21) #[22, 23] k_t1 k_t2))) Tw_6))))) := by kernel_rfl
noncomputable def Tw_b : Code := ic k_t2
theorem Twb_eq : k_t2 = .block 1 Tw_b := by kernel_rfl
def lvT : List Nat := [6, 8, 21]
noncomputable def rT (st : LoopState) (pend : Option Code) : AObj := .loop st pend 14682099 ⟨[], bT lvT vE .nil⟩ 38 #[22, 23] k_t1 k_t2 3
noncomputable def oT5 (c : List Value) (v : Value) (st : LoopState) (pend : Option Code) : OO := [oPg c 0, oLb v 1, oPg c 2, some .defd, some (rT st pend)]
def fT5 : List Fl := [.g, .t, .g, .g, .l lvT]
def lvTb : List Nat := [6, 8, 9, 10]

theorem twAR (r : Mem) (n : Int) (b off len0 cap : Nat) (w : Nat → Int) (K : OV → List Nat → OO → CR) (kx : Nat → KS) (KR : OV → List Nat → OO → CR) : run (SC r) 14682099 38 1 (.seq Tw_0 (.seq Tw_1 (.seq Tw_2 (.seq Tw_3 Tw_4)))) (lvlT (SC r) (tRd n (RS2 b off len0 cap) w) .nil 1 2) none (rbK 0 lvT flE K) kx (rbK 0 [4, 5] [] KR) (sc0 14682099 [I n, RS2 b off len0 cap]) (tr0 14682099 [I n, RS2 b off len0 cap]) [] emptyA =
    bif m_same [I n, .slice (some ⟨b, off, some 0⟩) len0 cap] [I n, .slice (some ⟨b, off, some 0⟩) len0 cap] then K [some (P0 0), some (P0 1), some (.func (Fn.func 39) ⟨[]⟩ ⟨[P0 2]⟩)] [] [some (.cells (gC n w) 55 0 0), some (.cells [.slice none 0 0] 22 1 0), some (.cells (gC n w) 55 2 0)] else .fail 420 := by kernel_rfl

theorem twAN (r : Mem) (n : Int) (w : Nat → Int) (K : OV → List Nat → OO → CR) (kx : Nat → KS) (KR : OV → List Nat → OO → CR) : run (SC r) 14682099 38 1 (.seq Tw_0 (.seq Tw_1 (.seq Tw_2 (.seq Tw_3 Tw_4)))) (lvlT (SC r) (tRd n (.slice none 0 0) w) .nil 1 2) none (rbK 0 lvT flE K) kx (rbK 0 [4, 5] [] KR) (sc0 14682099 [I n, .slice none 0 0]) (tr0 14682099 [I n, .slice none 0 0]) [] emptyA =
    bif m_same [I n, .slice none 0 0] [I n, .slice none 0 0] then K [some (P0 0), some (P0 1), some (.func (Fn.func 39) ⟨[]⟩ ⟨[P0 2]⟩)] [] [some (.cells (gC n w) 55 0 0), some (.cells [.slice none 0 0] 22 1 0), some (.cells (gC n w) 55 2 0)] else .fail 420 := by kernel_rfl

theorem twB1 (r : Mem) (c : List Value) (i j : Int) (fs : FnsC) (K : OV → List Nat → OO → CR) (kx : Nat → KS) (kr : KS) : run (SC r) 14682099 38 1 k_t1 fs (some 4) (begK 4 (rbK 5 lvTb fT5 K)) kx kr [] (bT (lvT ++ [22, 23]) (vE ++ [some (I i), some (I j)]) .nil) [] (mkA (oT5 c nilV .ready none)) =
    bif m_nns c && (true && (m_nns c && true)) then K [some (P0 0), some (P0 1), some (I i), some (I j)] [] [some (.cells c 55 0 0), some (.cells [.slice none 0 0] 22 1 0), some (.cells c 55 2 0), some .defd, some (rT LoopState.busy none)] else .fail 420 := by kernel_rfl

theorem twB2 (r : Mem) (c d : List Value) (k : Nat) (i j : Int) (fs : FnsC) (K : OV → List Nat → OO → CR) (kx : Nat → KS) (kr : KS) : run (SC r) 14682099 38 1 k_t1 fs (some 4) (begK 4 (rbK 6 lvTb (fT5 ++ [.g]) K)) kx kr [] (bT (lvT ++ [22, 23]) (vE ++ [some (I i), some (I j)]) .nil) [] (mkA (oT5 c (rowV 5 k) .ready none ++ [oRw d 5])) =
    bif m_nns c && (true && (m_nns c && (true && (true && (m_nns d && true))))) then K [some (P0 0), some (P0 1), some (I i), some (I j)] [] [some (.cells c 55 0 0), some (.cells [.slice (some ⟨5, 0, none⟩) k unk] 22 1 0), some (.cells c 55 2 0), some .defd, some (rT LoopState.busy none), some (.cells d 51 5 2)] else .fail 420 := by kernel_rfl

theorem twC1 (r : Mem) (n : Int) (w : Nat → Int) (q : Int → Bool) (i j : Int) (K : OV → List Nat → OO → CR) (kx : Nat → KS) (kr : KS) : run (SC r) 14682099 38 1 Tw_b (lvlT (SC r) (tMo (gC n w) q) .nil 1 2) (some 4) (rbK 5 [] fT5 K) kx kr [] (bT lvTb (vR i j) .nil) [] (mkA (oT5 (gC n w) nilV .busy none)) =
    bif !decide (i < 0) then bif !decide (j < 0) then bif m_same (gC n w) (gC n w) && m_w16 (ibits BinOp.or IntKind.u64 (IntKind.wrap .u64 (Int.ofNat 1 * Int.ofNat 2 ^ min (Int.toNat i) 64)) (IntKind.wrap .u64 (Int.ofNat 1 * Int.ofNat 2 ^ min (Int.toNat j) 64))) then bif q (ibits BinOp.or IntKind.u64 (IntKind.wrap .u64 (Int.ofNat 1 * Int.ofNat 2 ^ min (Int.toNat i) 64)) (IntKind.wrap .u64 (Int.ofNat 1 * Int.ofNat 2 ^ min (Int.toNat j) 64))) then bif m_eqv (.agg ⟨(gC n w)⟩) (.agg ⟨(gC n w)⟩) then bif m_eqv (.agg ⟨(gC n w)⟩) (.agg ⟨(gC n w)⟩) then bif m_eqv (.agg ⟨(gC n w)⟩) (.agg ⟨(gC n w)⟩) then K [] [] [some (.cells (gC n w) 55 0 0), some (.cells [.slice (some ⟨5, 0, none⟩) 1 unk] 22 1 0), some (.cells (gC n w) 55 2 0), some .defd, some (rT LoopState.busy none), some (.cells [I i, I j] 51 5 2)] else .fail 420 else .fail 420 else .fail 420 else bif m_eqv (.agg ⟨(gC n w)⟩) (.agg ⟨(gC n w)⟩) then bif m_eqv (.agg ⟨(gC n w)⟩) (.agg ⟨(gC n w)⟩) then bif m_eqv (.agg ⟨(gC n w)⟩) (.agg ⟨(gC n w)⟩) then K [] [] [some (.cells (gC n w) 55 0 0), some (.cells [.slice none 0 0] 22 1 0), some (.cells (gC n w) 55 2 0), some .defd, some (rT LoopState.busy none)] else .fail 420 else .fail 420 else .fail 420 else .fail 420 else .fail 420 else .fail 420 := by kernel_rfl

theorem twC2 (r : Mem) (n : Int) (w : Nat → Int) (q : Int → Bool) (d : List Value) (k : Nat) (i j : Int) (K : OV → List Nat → OO → CR) (kx : Nat → KS) (kr : KS) : run (SC r) 14682099 38 1 Tw_b (lvlT (SC r) (tMo (gC n w) q) .nil 1 2) (some 4) (rbK 6 [] (fT5 ++ [.g]) K) kx kr [] (bT lvTb (vR i j) .nil) [] (mkA (oT5 (gC n w) (rowV 5 k) .busy none ++ [oRw d 5])) =
    bif !decide (i < 0) then bif !decide (j < 0) then bif m_same (gC n w) (gC n w) && m_w16 (ibits BinOp.or IntKind.u64 (IntKind.wrap .u64 (Int.ofNat 1 * Int.ofNat 2 ^ min (Int.toNat i) 64)) (IntKind.wrap .u64 (Int.ofNat 1 * Int.ofNat 2 ^ min (Int.toNat j) 64))) then bif q (ibits BinOp.or IntKind.u64 (IntKind.wrap .u64 (Int.ofNat 1 * Int.ofNat 2 ^ min (Int.toNat i) 64)) (IntKind.wrap .u64 (Int.ofNat 1 * Int.ofNat 2 ^ min (Int.toNat j) 64))) then bif m_eqv (.agg ⟨(gC n w)⟩) (.agg ⟨(gC n w)⟩) then bif m_eqv (.agg ⟨(gC n w)⟩) (.agg ⟨(gC n w)⟩) then bif m_eqv (.agg ⟨(gC n w)⟩) (.agg ⟨(gC n w)⟩) then bif Nat.ble (Nat.add k 1) 1000000 then Option.casesOn (takeAt d 0 (Nat.mul k 2)) (.fail 439) fun val => bif m_nns (gC n w) && (true && (m_nns (gC n w) && (true && (true && (m_nns (val ++ [I i, I j]) && true))))) then K [] [] [some (.cells (gC n w) 55 0 0), some (.cells [.slice (some ⟨6, 0, none⟩) (Nat.add k 1) unk] 22 1 0), some (.cells (gC n w) 55 2 0), some .defd, some (rT LoopState.busy none), none, some (.cells (val ++ [I i, I j]) 51 6 2)] else .fail 420 else .fail 420 else .fail 420 else .fail 420 else .fail 420 else bif m_eqv (.agg ⟨(gC n w)⟩) (.agg ⟨(gC n w)⟩) then bif m_eqv (.agg ⟨(gC n w)⟩) (.agg ⟨(gC n w)⟩) then bif m_eqv (.agg ⟨(gC n w)⟩) (.agg ⟨(gC n w)⟩) then bif m_nns (gC n w) && (true && (m_nns (gC n w) && (true && (true && (m_nns d && true))))) then K [] [] [some (.cells (gC n w) 55 0 0), some (.cells [.slice (some ⟨5, 0, none⟩) k unk] 22 1 0), some (.cells (gC n w) 55 2 0), some .defd, some (rT LoopState.busy none), some (.cells d 51 5 2)] else .fail 420 else .fail 420 else .fail 420 else .fail 420 else .fail 420 else .fail 420 else .fail 420 := by kernel_rfl

theorem twT1 (r : Mem) (c : List Value) (K : OV → List Nat → OO → CR) (kx : Nat → KS) (kr : KS) : tailRK 4 ⟨[], bT lvT vE .nil⟩ [3] (rbK 0 [8] [.t] K) kx kr (mkA (oT5 c nilV .ready none)) =
    K [some (P0 0)] [] [some (.cells [.slice none 0 0] 22 0 0)] := by kernel_rfl

theorem twT2 (r : Mem) (c d : List Value) (k : Nat) (K : OV → List Nat → OO → CR) (kx : Nat → KS) (kr : KS) : tailRK 4 ⟨[], bT lvT vE .nil⟩ [3] (rbK 0 [8] [.t] K) kx kr (mkA (oT5 c (rowV 5 k) .ready none ++ [oRw d 5])) =
    bif true && (m_nns d && true) then K [some (P0 0)] [] [some (.cells [.slice (some ⟨1, 0, none⟩) k unk] 22 0 0), some (.cells d 51 1 2)] else .fail 420 := by kernel_rfl

theorem twZ1 (r : Mem) (fs : FnsC) (K KR : OV → List Nat → OO → CR) (kx : Nat → KS) : run (SC r) 14682099 38 1 Tw_6 fs none (rbK 0 [4, 5] [] K) kx (rbK 0 [4, 5] [] KR) [] (bT [8] [some (P0 0)] .nil) [] (mkA [oLb nilV 0]) =
    KR [some (.slice none 0 0), some (I (Int.ofNat 0))] [] [] := by kernel_rfl

theorem twZ2 (r : Mem) (d : List Value) (k : Nat) (fs : FnsC) (K KR : OV → List Nat → OO → CR) (kx : Nat → KS) : run (SC r) 14682099 38 1 Tw_6 fs none (rbK 0 [4, 5] [] K) kx (rbK 0 [4, 5] [] KR) [] (bT [8] [some (P0 0)] .nil) [] (mkA [oLb (rowV 1 k) 0, oRw d 1]) =
    bif m_nns d && true then KR [some (.slice (some ⟨0, 0, none⟩) k unk), some (I (Int.ofNat 0))] [] [some (.cells d 51 0 2)] else .fail 420 := by kernel_rfl

end Go.Proofs

/- The twins of a graph: what the call answers. -/
namespace Go.Proofs
open Go Go.Ev Go.Num
set_option linter.unusedVariables false
set_option linter.unusedSimpArgs false
set_option maxRecDepth 100000

noncomputable def oTd (n : Int) (w : Nat → Int) (st : LoopState) : List (Nat × Nat) → OO
 | [] => oT5 (gC n w) nilV st none
 | p :: l => oT5 (gC n w) (rowV 5 (l.length + 1)) st none ++ [oRw (pcE (p :: l)) 5]
theorem oTd_next (n : Int) (w : Nat → Int) : (mkA (oTd n w .ready [])).next = 5 := by kernel_rfl
theorem oTd_cn (n : Int) (w : Nat → Int) (l : List (Nat × Nat)) : Cn 5 fT5 (mkA (oTd n w .ready l)) (oTd n w .ready l) := by
 cases l with
 | nil => exact ⟨by kernel_rfl, by kernel_rfl⟩
 | cons p l => exact ⟨by kernel_rfl, by
   have h : m_nns (pcE (p :: l)) = true := pcE_nn _
   show (true && (true && (true && (true && (true && (m_nns (pcE (p :: l)) && true)))))) = true
   rw [h]
   rfl⟩
theorem oTd_end (n : Int) (w : Nat → Int) (l : List (Nat × Nat)) : endR 4 none (St.of [] [] [] (oTd n w .busy l)) = .ret (.bool true) (mkA (oTd n w .ready l)) := by
 cases l with
 | nil => kernel_rfl
 | cons p l => kernel_rfl

noncomputable def oTg (n : Int) (w : Nat → Int) (st : LoopState) (p : Nat × Nat) (l : List (Nat × Nat)) : OO := oT5 (gC n w) (rowV 6 (l.length + 1)) st none ++ [none, oRw (pcE (p :: l)) 6]
theorem oTg_cn (n : Int) (w : Nat → Int) (p : Nat × Nat) (l : List (Nat × Nat)) : Cn 5 fT5 (mkA (oTg n w .ready p l)) (oTd n w .ready (p :: l)) := ⟨by kernel_rfl, (oTd_cn n w (p :: l)).2⟩
theorem oTg_end (n : Int) (w : Nat → Int) (p : Nat × Nat) (l : List (Nat × Nat)) : endR 4 none (St.of [] [] [] (oTg n w .busy p l)) = .ret (.bool true) (mkA (oTg n w .ready p l)) := by kernel_rfl

theorem yT {r : Mem} {n : Nat} (hn : n ≤ 16) {w : Nat → Nat} {q : Nat → Bool} (ht : TOk (SC r) (tMo (gC (n : Nat) fun i => (w i : Nat)) fun s => q s.toNat)) {i j : Nat} (hij : i < j) (hj : j < n) (l : List (Nat × Nat)) (hlen : l.length ≤ 300) {P E : OO → Prop} (hP : P (oTd (n : Nat) (fun i => (w i : Nat)) .ready (l ++ if q (2 ^ i ||| 2 ^ j) = true then [(i, j)] else []))) :
  YOk (SC r) 4 [I (i : Nat), I (j : Nat)] (mkA (oTd (n : Nat) (fun i => (w i : Nat)) .ready l)) fun v A' => ∃ os', Cn 5 fT5 A' os' ∧ ((v = .bool true ∧ P os') ∨ (v = .bool false ∧ E os')) := by
 have p0 : ∀ k : Nat, decide (0 ≤ (k : Int)) = true := fun k => decide_eq_true (by omega)
 have n0 : ∀ k : Nat, decide ((k : Int) < 0) = false := fun k => decide_eq_false (by omega)
 have p1 : 2 ^ i < 65536 := Nat.pow_lt_pow_right (n := 16) (by decide) (by omega)
 have p2 : 2 ^ j < 65536 := Nat.pow_lt_pow_right (n := 16) (by decide) (by omega)
 have eo : ibits .or .u64 ((2 ^ i : Nat) : Int) ((2 ^ j : Nat) : Int) = ((2 ^ i ||| 2 ^ j : Nat) : Int) := (uO (by omega) (by omega)).1
 have po : 2 ^ i ||| 2 ^ j < 65536 := or16 p1 p2
 have w6 : m_w16 ((2 ^ i ||| 2 ^ j : Nat) : Int) = true := decide_eq_true ⟨by omega, by omega⟩
 have smc : m_same (gC (n : Nat) fun i => ((w i : Nat) : Int)) (gC (n : Nat) fun i => ((w i : Nat) : Int)) = true := same_rfl _
 have hc : m_nns (gC (n : Nat) fun i => (w i : Nat)) = true := rfl
 have h2 : ∀ a b : Int, m_nns [I a, I b] = true := fun _ _ => rfl
 cases l with
 | nil =>
  have hnx : (mkA (oTd (n : Nat) (fun i => (w i : Nat)) .ready [])).next = 5 := by kernel_rfl
  refine YOk.of (SC_ok r) (i := 4) (st := .ready) (pend := none) (m := 14682099) (n := 38) (en := ⟨[], bT lvT vE .nil⟩) (params := #[22, 23]) (assign := k_t1) (body := k_t2) (d := 3) (by kernel_rfl) (s0 := []) (b0 := bT (lvT ++ [22, 23]) (vE ++ [some (I (i : Nat)), some (I (j : Nat))]) .nil) (by kernel_rfl) ht (tm := .nil) (L := 1) (L' := 1) (d' := 2)
   ⟨lvTb, fT5, fun vs ms os => vs = vR (i : Nat) (j : Nat) ∧ ms = [] ∧ os = oTd (n : Nat) (fun i => (w i : Nat)) .busy ([])⟩
   ⟨[], fT5, fun vs ms os => vs = [] ∧ ms = [] ∧ os = oTd (n : Nat) (fun i => (w i : Nat)) .busy (([]) ++ if q (2 ^ i ||| 2 ^ j) = true then [(i, j)] else [])⟩
   (fun _ => Outs.no) Outs.no ?_ ?_ ?_ ?_ ?_
  ·rw [hnx]
   have hn := twB1 r (gC (n : Nat) fun i => (w i : Nat)) i j
   simp only [hc, Bool.and_self, cond_true] at hn
   exact (hn _ _ _ _).trans (qq_ok ⟨rfl, rfl, rfl⟩)
  ·rintro F k γ W hF hro h0 vs ms os ⟨rfl, rfl, rfl⟩
   rw [hnx] at h0
   rw [Twb_eq]
   refine Go.Ev.Reach.blockC (Go.Ev.Reach.segR (SC_ok r) ht (tm := .nil) (L := 1) (L' := 1) (d := 2) hF hro h0 [] (fun p hp => nomatch hp) ?_)
   have hn := twC1 r (n : Nat) (fun i => (w i : Nat)) (fun s => q s.toNat) i j
   simp only [n0, Int.toNat_natCast, Bool.not_false, cond_true, shl1 (show i < 16 by omega), shl1 (show j < 16 by omega), eo, smc, w6, gC_eqv, Bool.and_self, hc, h2, Bool.and_self] at hn
   cases hb : q (2 ^ i ||| 2 ^ j) with
   | true =>
    simp only [hb, cond_true] at hn
    exact (hn _ _ _).trans (qq_ok ⟨rfl, rfl, rfl⟩)
   | false =>
    simp only [hb, cond_false] at hn
    exact (hn _ _ _).trans (qq_ok ⟨rfl, rfl, rfl⟩)
  ·rintro vs ms os ⟨rfl, rfl, rfl⟩
   exact ⟨_, _, oTd_end _ _ _, _, oTd_cn _ _ _, .inl ⟨rfl, hP⟩⟩
  ·rintro id vs ms os hf
   exact hf.elim
  ·rintro vs ms os hf
   exact hf.elim
 | cons p l =>
  have hnx : (mkA (oTd (n : Nat) (fun i => (w i : Nat)) .ready (p :: l))).next = 6 := by kernel_rfl
  have hlen' : l.length + 1 ≤ 300 := hlen
  refine YOk.of (SC_ok r) (i := 4) (st := .ready) (pend := none) (m := 14682099) (n := 38) (en := ⟨[], bT lvT vE .nil⟩) (params := #[22, 23]) (assign := k_t1) (body := k_t2) (d := 3) (by kernel_rfl) (s0 := []) (b0 := bT (lvT ++ [22, 23]) (vE ++ [some (I (i : Nat)), some (I (j : Nat))]) .nil) (by kernel_rfl) ht (tm := .nil) (L := 1) (L' := 1) (d' := 2)
   ⟨lvTb, fT5 ++ [.g], fun vs ms os => vs = vR (i : Nat) (j : Nat) ∧ ms = [] ∧ os = oTd (n : Nat) (fun i => (w i : Nat)) .busy (p :: l)⟩
   ⟨[], fT5 ++ [.g], fun vs ms os => vs = [] ∧ ms = [] ∧ ((q (2 ^ i ||| 2 ^ j) = true ∧ os = oTg (n : Nat) (fun i => (w i : Nat)) .busy p (l ++ [(i, j)])) ∨ (q (2 ^ i ||| 2 ^ j) = false ∧ os = oTd (n : Nat) (fun i => (w i : Nat)) .busy (p :: l)))⟩
   (fun _ => Outs.no) Outs.no ?_ ?_ ?_ ?_ ?_
  ·rw [hnx]
   have hn := twB2 r (gC (n : Nat) fun i => (w i : Nat)) (pcE (p :: l)) (l.length + 1) i j
   simp only [hc, pcE_nn, Bool.and_self, cond_true] at hn
   exact (hn _ _ _ _).trans (qq_ok ⟨rfl, rfl, rfl⟩)
  ·rintro F k γ W hF hro h0 vs ms os ⟨rfl, rfl, rfl⟩
   rw [hnx] at h0
   rw [Twb_eq]
   refine Go.Ev.Reach.blockC (Go.Ev.Reach.segR (SC_ok r) ht (tm := .nil) (L := 1) (L' := 1) (d := 2) hF hro h0 [] (fun p hp => nomatch hp) ?_)
   have hn := twC2 r (n : Nat) (fun i => (w i : Nat)) (fun s => q s.toNat) (pcE (p :: l)) (l.length + 1) i j
   have m1 : Nat.ble (Nat.add (l.length + 1) 1) 1000000 = true := Nat.ble_eq_true_of_le (by simp only [Nat.add_eq]; omega)
   have tk : takeAt (pcE (p :: l)) 0 (Nat.mul (l.length + 1) 2) = some (pcE (p :: l)) := takeL_all _ _ (by rw [pcE_len]; simp [Nat.mul_comm])
   have ap : pcE (p :: l) ++ [I (i : Nat), I (j : Nat)] = pcE (p :: (l ++ [(i, j)])) := by rw [show p :: (l ++ [(i, j)]) = (p :: l) ++ [(i, j)] from rfl, pcE_app]; rfl
   have al : Nat.add (l.length + 1) 1 = (l ++ [(i, j)]).length + 1 := by simp
   simp only [n0, Int.toNat_natCast, Bool.not_false, cond_true, shl1 (show i < 16 by omega), shl1 (show j < 16 by omega), eo, smc, w6, gC_eqv, Bool.and_self, hc, m1, tk, ap, al, pcE_nn, Bool.and_self] at hn
   cases hb : q (2 ^ i ||| 2 ^ j) with
   | true =>
    simp only [hb, cond_true] at hn
    rw [al] at m1
    simp only [m1, cond_true] at hn
    exact (hn _ _ _).trans (qq_ok ⟨rfl, rfl, .inl ⟨rfl, rfl⟩⟩)
   | false =>
    simp only [hb, cond_false] at hn
    exact (hn _ _ _).trans (qq_ok ⟨rfl, rfl, .inr ⟨rfl, rfl⟩⟩)
  ·rintro vs ms os ⟨rfl, rfl, ⟨hb, rfl⟩ | ⟨hb, rfl⟩⟩
   ·exact ⟨_, _, oTg_end _ _ _ _, _, oTg_cn _ _ _ _, .inl ⟨rfl, by rw [if_pos hb] at hP; exact hP⟩⟩
   ·exact ⟨_, _, oTd_end _ _ _, _, oTd_cn _ _ _, .inl ⟨rfl, by rw [if_neg (by rw [hb]; decide), List.append_nil] at hP; exact hP⟩⟩
  ·rintro id vs ms os hf
   exact hf.elim
  ·rintro vs ms os hf
   exact hf.elim

theorem twinsR (r : Mem) {n : Nat} (hn : n ≤ 16) {w : Nat → Nat} (b off len0 cap : Nat) {q : Nat → Bool} (ht : TOk (SC r) (tMo (gC (n : Nat) fun i => (w i : Nat)) fun s => q s.toNat)) (hr : GrT Tryz.prog r 23 [I (n : Nat), RS2 b off len0 cap] (.tuple ⟨[.agg ⟨gC (n : Nat) fun i => (w i : Nat)⟩, I 0]⟩)) :
  SOk (SC r) 8 [I (n : Nat), RS2 b off len0 cap] emptyA fun v A => v = .tuple ⟨[vL (alP (fun i j => q (2 ^ i ||| 2 ^ j)) n n), I 0]⟩ ∧ A = mkA (oL (alP (fun i j => q (2 ^ i ||| 2 ^ j)) n n)) := by
 refine callO (SC_ok r) (by kernel_rfl) ((bodySC r _).trans Tw_eq) (nt := 38) (by kernel_rfl) (rs := [.tmp 4, .tmp 5]) (by kernel_rfl) 14682099 rfl
  ⟨[4, 5], [], fun vs ms os => vs = [some (vL (alP (fun i j => q (2 ^ i ||| 2 ^ j)) n n)), some (I 0)] ∧ ms = [] ∧ os = oL (alP (fun i j => q (2 ^ i ||| 2 ^ j)) n n)⟩ ?_ fun γ W F k hwr hF hro h0 => ?_
 ·rintro vs ms os ⟨rfl, rfl, rfl⟩
  generalize alP (fun i j => q (2 ^ i ||| 2 ^ j)) n n = l
  cases l with
  | nil => exact ⟨_, mkA [], by kernel_rfl, rfl, rfl⟩
  | cons p l => exact ⟨_, mkA [some (.cells (pcE (p :: l)) 51 0 2)], by kernel_rfl, rfl, rfl⟩
 have h0 : ∀ i, 0 ≤ i → γ i = none := h0
 have lens : ∀ i j, i ≤ n → j ≤ n + 1 → (alP (fun i j => q (2 ^ i ||| 2 ^ j)) n i ++ rwP (fun i j => q (2 ^ i ||| 2 ^ j)) i j).length ≤ 300 := fun i j hi hj => by
  have h1 := alP_len (fun i j => q (2 ^ i ||| 2 ^ j)) n i
  have h2 := rwP_len (fun i j => q (2 ^ i ||| 2 ^ j)) i j
  have h3 : i * n ≤ 16 * 16 := Nat.mul_le_mul (by omega) (by omega)
  rw [List.length_append]
  omega
 refine Go.Ev.Reach.after3R (SC_ok r) (show TOk (SC r) (tRd (n : Nat) (RS2 b off len0 cap) fun i => (w i : Nat)) from TOk.cons TOk.nil (entV_ok hr rfl)) (tm := .nil) (L := 1) (L' := 1) (d := 2) hF hro h0 (.step (.step (.step (.step .base))))
  (o1 := ⟨lvT, flE, fun vs ms os => vs = vE ∧ ms = [] ∧ os = [oPg (gC (n : Nat) fun i => (w i : Nat)) 0, oLb nilV 1, oPg (gC (n : Nat) fun i => (w i : Nat)) 2]⟩)
  (o2 := ⟨[8], [.t], fun vs ms os => vs = [some (P0 0)] ∧ ms = [] ∧ os = match alP (fun i j => q (2 ^ i ||| 2 ^ j)) n n with | [] => [oLb nilV 0] | p :: l => [oLb (rowV 1 (l.length + 1)) 0, oRw (pcE (p :: l)) 1]⟩) [] (fun p hp => nomatch hp) ?_ ?_ ?_
 ·rintro vs ms os ⟨rfl, rfl, rfl⟩
  have hl : ((mkA [oPg (gC (n : Nat) fun i => (w i : Nat)) 0, oLb nilV 1, oPg (gC (n : Nat) fun i => (w i : Nat)) 2]).new .defd).next = 4 := by kernel_rfl
  refine Go.Ev.Reach.blockC (Go.Ev.Reach.rangeC (SC_ok r) hF hro h0 (d := 3) (marks := [3]) (A1 := (mkA [oPg (gC (n : Nat) fun i => (w i : Nat)) 0, oLb nilV 1, oPg (gC (n : Nat) fun i => (w i : Nat)) 2]).new .defd) (g := 39) (first := []) (captured := [P0 2]) (S := fun v A' => ∃ os, A' = mkA os ∧ os = oTd (n : Nat) (fun i => (w i : Nat)) .ready (alP (fun i j => q (2 ^ i ||| 2 ^ j)) n n)) [] (fun p hp => nomatch hp) (by kernel_rfl) (by kernel_rfl) (by kernel_rfl) ?_ ?_)
  ·have hE : ((mkA [oPg (gC (n : Nat) fun i => (w i : Nat)) 0, oLb nilV 1, oPg (gC (n : Nat) fun i => (w i : Nat)) 2]).new .defd).new (.loop .ready none 14682099 ⟨[], bT lvT vE .nil⟩ 38 #[22, 23] k_t1 k_t2 3) = mkA (oTd (n : Nat) (fun i => (w i : Nat)) .ready []) := by kernel_rfl
   show SOk _ _ _ (((mkA [oPg (gC (n : Nat) fun i => (w i : Nat)) 0, oLb nilV 1, oPg (gC (n : Nat) fun i => (w i : Nat)) 2]).new .defd).new (.loop .ready none 14682099 ⟨[], bT lvT vE .nil⟩ 38 #[22, 23] k_t1 k_t2 3)) _
   rw [hE, hl]
   refine pairs_iter r (l := 4) (p := 2) (fl := fT5) hn (J := fun i j os => i ≤ n ∧ j ≤ n + 1 ∧ os = oTd (n : Nat) (fun i => (w i : Nat)) .ready (alP (fun i j => q (2 ^ i ||| 2 ^ j)) n i ++ rwP (fun i j => q (2 ^ i ||| 2 ^ j)) i j)) (E := fun os => os = oTd (n : Nat) (fun i => (w i : Nat)) .ready (alP (fun i j => q (2 ^ i ||| 2 ^ j)) n n)) (os0 := oTd (n : Nat) (fun i => (w i : Nat)) .ready [])
    ?_ ?_ ?_ ?_ ⟨Nat.zero_le _, by omega, ?_⟩ (by kernel_rfl) (by kernel_rfl)
   ·rintro i j os ⟨_, _, rfl⟩
    generalize alP (fun i j => q (2 ^ i ||| 2 ^ j)) n i ++ rwP (fun i j => q (2 ^ i ||| 2 ^ j)) i j = l
    cases l with
    | nil => exact ⟨(gC (n : Nat) fun i => (w i : Nat)).tail, 55, 2, 0, by kernel_rfl⟩
    | cons p l => exact ⟨(gC (n : Nat) fun i => (w i : Nat)).tail, 55, 2, 0, by kernel_rfl⟩
   ·rintro i os hi ⟨_, _, rfl⟩
    exact ⟨hi, by omega, by rw [rwP_nil _ (i + 1) (i + 2) (Nat.le_refl _), List.append_nil]; rfl⟩
   ·rintro i j os hij hj ⟨hi, hj', rfl⟩
    rw [oTd_next]
    refine yT (r := r) hn ht hij hj _ (lens i j hi hj') ⟨hi, by omega, ?_⟩
    rw [List.append_assoc, rwP]
    congr 2
    by_cases c : q (2 ^ i ||| 2 ^ j) = true
    ·rw [if_pos c, if_pos ⟨hij, c⟩]
    ·rw [if_neg c, if_neg fun h => c h.2]
   ·rintro os ⟨_, _, rfl⟩
    rw [rwP_nil _ n (n + 1) (Nat.le_refl _), List.append_nil]
   ·rw [rwP_nil _ 0 1 (Nat.le_refl _)]
    rfl
  ·rintro v A' ⟨os, rfl, rfl⟩
   rw [hl]
   generalize alP (fun i j => q (2 ^ i ||| 2 ^ j)) n n = l
   cases l with
   | nil => exact (twT1 r (gC (n : Nat) fun i => (w i : Nat)) _ _ _).trans (qq_ok ⟨rfl, rfl, rfl⟩)
   | cons p l =>
    have hn := twT2 r (gC (n : Nat) fun i => (w i : Nat)) (pcE (p :: l)) (l.length + 1)
    simp only [pcE_nn, Bool.and_self, cond_true] at hn
    exact (hn _ _ _).trans (qq_ok ⟨rfl, rfl, rfl⟩)
 ·rintro vs ms os ⟨rfl, rfl, rfl⟩
  generalize alP (fun i j => q (2 ^ i ||| 2 ^ j)) n n = l
  cases l with
  | nil => exact Go.Ev.Reach.segR (SC_ok r) TOk.nil (tm := .nil) (L := 1) (L' := 1) (d := 1) hF hro h0 [] (fun p hp => nomatch hp) ((twZ1 r _ _ _ _).trans (qq_ok ⟨rfl, rfl, rfl⟩))
  | cons p l =>
   have hn := twZ2 r (pcE (p :: l)) (l.length + 1)
   simp only [pcE_nn, Bool.and_self, cond_true] at hn
   exact Go.Ev.Reach.segR (SC_ok r) TOk.nil (tm := .nil) (L := 1) (L' := 1) (d := 1) hF hro h0 [] (fun p hp => nomatch hp) ((hn _ _ _ _).trans (qq_ok ⟨rfl, rfl, rfl⟩))
 ·have hp := twAR r (n : Nat) b off len0 cap fun i => (w i : Nat)
  simp only [show ∀ l : List Value, m_same l l = true from same_rfl, cond_true] at hp
  exact (hp _ _ _).trans (qq_ok ⟨rfl, rfl, rfl⟩)


theorem twinsN (r : Mem) {n : Nat} (hn : n ≤ 16) {w : Nat → Nat} {q : Nat → Bool} (ht : TOk (SC r) (tMo (gC (n : Nat) fun i => (w i : Nat)) fun s => q s.toNat)) (hr : GrT Tryz.prog r 23 [I (n : Nat), .slice none 0 0] (.tuple ⟨[.agg ⟨gC (n : Nat) fun i => (w i : Nat)⟩, I 0]⟩)) :
  SOk (SC r) 8 [I (n : Nat), .slice none 0 0] emptyA fun v A => v = .tuple ⟨[vL (alP (fun i j => q (2 ^ i ||| 2 ^ j)) n n), I 0]⟩ ∧ A = mkA (oL (alP (fun i j => q (2 ^ i ||| 2 ^ j)) n n)) := by
 refine callO (SC_ok r) (by kernel_rfl) ((bodySC r _).trans Tw_eq) (nt := 38) (by kernel_rfl) (rs := [.tmp 4, .tmp 5]) (by kernel_rfl) 14682099 rfl
  ⟨[4, 5], [], fun vs ms os => vs = [some (vL (alP (fun i j => q (2 ^ i ||| 2 ^ j)) n n)), some (I 0)] ∧ ms = [] ∧ os = oL (alP (fun i j => q (2 ^ i ||| 2 ^ j)) n n)⟩ ?_ fun γ W F k hwr hF hro h0 => ?_
 ·rintro vs ms os ⟨rfl, rfl, rfl⟩
  generalize alP (fun i j => q (2 ^ i ||| 2 ^ j)) n n = l
  cases l with
  | nil => exact ⟨_, mkA [], by kernel_rfl, rfl, rfl⟩
  | cons p l => exact ⟨_, mkA [some (.cells (pcE (p :: l)) 51 0 2)], by kernel_rfl, rfl, rfl⟩
 have h0 : ∀ i, 0 ≤ i → γ i = none := h0
 have lens : ∀ i j, i ≤ n → j ≤ n + 1 → (alP (fun i j => q (2 ^ i ||| 2 ^ j)) n i ++ rwP (fun i j => q (2 ^ i ||| 2 ^ j)) i j).length ≤ 300 := fun i j hi hj => by
  have h1 := alP_len (fun i j => q (2 ^ i ||| 2 ^ j)) n i
  have h2 := rwP_len (fun i j => q (2 ^ i ||| 2 ^ j)) i j
  have h3 : i * n ≤ 16 * 16 := Nat.mul_le_mul (by omega) (by omega)
  rw [List.length_append]
  omega
 refine Go.Ev.Reach.after3R (SC_ok r) (show TOk (SC r) (tRd (n : Nat) (.slice none 0 0) fun i => (w i : Nat)) from TOk.cons TOk.nil (entV_ok hr rfl)) (tm := .nil) (L := 1) (L' := 1) (d := 2) hF hro h0 (.step (.step (.step (.step .base))))
  (o1 := ⟨lvT, flE, fun vs ms os => vs = vE ∧ ms = [] ∧ os = [oPg (gC (n : Nat) fun i => (w i : Nat)) 0, oLb nilV 1, oPg (gC (n : Nat) fun i => (w i : Nat)) 2]⟩)
  (o2 := ⟨[8], [.t], fun vs ms os => vs = [some (P0 0)] ∧ ms = [] ∧ os = match alP (fun i j => q (2 ^ i ||| 2 ^ j)) n n with | [] => [oLb nilV 0] | p :: l => [oLb (rowV 1 (l.length + 1)) 0, oRw (pcE (p :: l)) 1]⟩) [] (fun p hp => nomatch hp) ?_ ?_ ?_
 ·rintro vs ms os ⟨rfl, rfl, rfl⟩
  have hl : ((mkA [oPg (gC (n : Nat) fun i => (w i : Nat)) 0, oLb nilV 1, oPg (gC (n : Nat) fun i => (w i : Nat)) 2]).new .defd).next = 4 := by kernel_rfl
  refine Go.Ev.Reach.blockC (Go.Ev.Reach.rangeC (SC_ok r) hF hro h0 (d := 3) (marks := [3]) (A1 := (mkA [oPg (gC (n : Nat) fun i => (w i : Nat)) 0, oLb nilV 1, oPg (gC (n : Nat) fun i => (w i : Nat)) 2]).new .defd) (g := 39) (first := []) (captured := [P0 2]) (S := fun v A' => ∃ os, A' = mkA os ∧ os = oTd (n : Nat) (fun i => (w i : Nat)) .ready (alP (fun i j => q (2 ^ i ||| 2 ^ j)) n n)) [] (fun p hp => nomatch hp) (by kernel_rfl) (by kernel_rfl) (by kernel_rfl) ?_ ?_)
  ·have hE : ((mkA [oPg (gC (n : Nat) fun i => (w i : Nat)) 0, oLb nilV 1, oPg (gC (n : Nat) fun i => (w i : Nat)) 2]).new .defd).new (.loop .ready none 14682099 ⟨[], bT lvT vE .nil⟩ 38 #[22, 23] k_t1 k_t2 3) = mkA (oTd (n : Nat) (fun i => (w i : Nat)) .ready []) := by kernel_rfl
   show SOk _ _ _ (((mkA [oPg (gC (n : Nat) fun i => (w i : Nat)) 0, oLb nilV 1, oPg (gC (n : Nat) fun i => (w i : Nat)) 2]).new .defd).new (.loop .ready none 14682099 ⟨[], bT lvT vE .nil⟩ 38 #[22, 23] k_t1 k_t2 3)) _
   rw [hE, hl]
   refine pairs_iter r (l := 4) (p := 2) (fl := fT5) hn (J := fun i j os => i ≤ n ∧ j ≤ n + 1 ∧ os = oTd (n : Nat) (fun i => (w i : Nat)) .ready (alP (fun i j => q (2 ^ i ||| 2 ^ j)) n i ++ rwP (fun i j => q (2 ^ i ||| 2 ^ j)) i j)) (E := fun os => os = oTd (n : Nat) (fun i => (w i : Nat)) .ready (alP (fun i j => q (2 ^ i ||| 2 ^ j)) n n)) (os0 := oTd (n : Nat) (fun i => (w i : Nat)) .ready [])
    ?_ ?_ ?_ ?_ ⟨Nat.zero_le _, by omega, ?_⟩ (by kernel_rfl) (by kernel_rfl)
   ·rintro i j os ⟨_, _, rfl⟩
    generalize alP (fun i j => q (2 ^ i ||| 2 ^ j)) n i ++ rwP (fun i j => q (2 ^ i ||| 2 ^ j)) i j = l
    cases l with
    | nil => exact ⟨(gC (n : Nat) fun i => (w i : Nat)).tail, 55, 2, 0, by kernel_rfl⟩
    | cons p l => exact ⟨(gC (n : Nat) fun i => (w i : Nat)).tail, 55, 2, 0, by kernel_rfl⟩
   ·rintro i os hi ⟨_, _, rfl⟩
    exact ⟨hi, by omega, by rw [rwP_nil _ (i + 1) (i + 2) (Nat.le_refl _), List.append_nil]; rfl⟩
   ·rintro i j os hij hj ⟨hi, hj', rfl⟩
    rw [oTd_next]
    refine yT (r := r) hn ht hij hj _ (lens i j hi hj') ⟨hi, by omega, ?_⟩
    rw [List.append_assoc, rwP]
    congr 2
    by_cases c : q (2 ^ i ||| 2 ^ j) = true
    ·rw [if_pos c, if_pos ⟨hij, c⟩]
    ·rw [if_neg c, if_neg fun h => c h.2]
   ·rintro os ⟨_, _, rfl⟩
    rw [rwP_nil _ n (n + 1) (Nat.le_refl _), List.append_nil]
   ·rw [rwP_nil _ 0 1 (Nat.le_refl _)]
    rfl
  ·rintro v A' ⟨os, rfl, rfl⟩
   rw [hl]
   generalize alP (fun i j => q (2 ^ i ||| 2 ^ j)) n n = l
   cases l with
   | nil => exact (twT1 r (gC (n : Nat) fun i => (w i : Nat)) _ _ _).trans (qq_ok ⟨rfl, rfl, rfl⟩)
   | cons p l =>
    have hn := twT2 r (gC (n : Nat) fun i => (w i : Nat)) (pcE (p :: l)) (l.length + 1)
    simp only [pcE_nn, Bool.and_self, cond_true] at hn
    exact (hn _ _ _).trans (qq_ok ⟨rfl, rfl, rfl⟩)
 ·rintro vs ms os ⟨rfl, rfl, rfl⟩
  generalize alP (fun i j => q (2 ^ i ||| 2 ^ j)) n n = l
  cases l with
  | nil => exact Go.Ev.Reach.segR (SC_ok r) TOk.nil (tm := .nil) (L := 1) (L' := 1) (d := 1) hF hro h0 [] (fun p hp => nomatch hp) ((twZ1 r _ _ _ _).trans (qq_ok ⟨rfl, rfl, rfl⟩))
  | cons p l =>
   have hn := twZ2 r (pcE (p :: l)) (l.length + 1)
   simp only [pcE_nn, Bool.and_self, cond_true] at hn
   exact Go.Ev.Reach.segR (SC_ok r) TOk.nil (tm := .nil) (L := 1) (L' := 1) (d := 1) hF hro h0 [] (fun p hp => nomatch hp) ((hn _ _ _ _).trans (qq_ok ⟨rfl, rfl, rfl⟩))
 ·have hp := twAN r (n : Nat) fun i => (w i : Nat)
  simp only [show ∀ l : List Value, m_same l l = true from same_rfl, cond_true] at hp
  exact (hp _ _ _).trans (qq_ok ⟨rfl, rfl, rfl⟩)


end Go.Proofs

/- The program's complement, modules, twins; the reference's: they are the same. -/
namespace Go.Num
open Go.Proofs

theorem tw_im {w : Nat → Nat} {n : Nat} (hn : n ≤ 16) (hw : Nbs w n) (hirr : ∀ i, (w i).testBit i = false) {i j : Nat} (hi : i < n) (hj : j < n) (hij : i ≠ j) : imN w n (2 ^ i ||| 2 ^ j) = twN w i j := by
 have hb : ∀ v, (2 ^ i ||| 2 ^ j).testBit v = (decide (v = i) || decide (v = j)) := fun v => by
  rw [Nat.testBit_or, Nat.testBit_two_pow, Nat.testBit_two_pow]
  congr 1 <;> exact decide_eq_decide.2 eq_comm
 have hne : (2 ^ i ||| 2 ^ j) ≠ 0 := fun h => by
  have := hb i
  rw [h, Nat.zero_testBit] at this
  simp at this
 have hsx : ∀ v, sxC w (2 ^ i ||| 2 ^ j) v = ((w v).testBit i != (w v).testBit j) := fun v => by
  unfold sxC
  have e1 : (w v &&& (2 ^ i ||| 2 ^ j) == 0) = (!(w v).testBit i && !(w v).testBit j) := by
   rw [Bool.eq_iff_iff, beq_iff_eq, Bool.and_eq_true, Bool.not_eq_true', Bool.not_eq_true', Nat.and_comm, and_zero]
   constructor
   ·intro h
    exact ⟨h i (by rw [hb]; simp), h j (by rw [hb]; simp)⟩
   ·rintro ⟨h1, h2⟩ x hx
    rw [hb, Bool.or_eq_true, decide_eq_true_eq, decide_eq_true_eq] at hx
    rcases hx with rfl | rfl
    ·exact h1
    ·exact h2
  have e2 : (w v &&& (2 ^ i ||| 2 ^ j) == (2 ^ i ||| 2 ^ j)) = ((w v).testBit i && (w v).testBit j) := by
   rw [Bool.eq_iff_iff, beq_iff_eq, Bool.and_eq_true, Nat.and_comm, in_bit]
   constructor
   ·intro h
    exact ⟨h i (by rw [hb]; simp), h j (by rw [hb]; simp)⟩
   ·rintro ⟨h1, h2⟩ x hx
    rw [hb, Bool.or_eq_true, decide_eq_true_eq, decide_eq_true_eq] at hx
    rcases hx with rfl | rfl
    ·exact h1
    ·exact h2
  rw [e1, e2]
  cases (w v).testBit i <;> cases (w v).testBit j <;> rfl
 unfold imN twN
 rw [show (2 ^ i ||| 2 ^ j == 0) = false by simp [hne], Bool.not_false, Bool.true_and, Bool.eq_iff_iff, beq_iff_eq, beq_iff_eq, spN_zero]
 have sy : ∀ a b, (w a).testBit b = (w b).testBit a := fun a b => by
  rw [Bool.eq_iff_iff]
  exact ⟨hw.sym a b, hw.sym b a⟩
 constructor
 ·intro h
  apply Nat.eq_of_testBit_eq
  intro v
  rw [an_bit, an_bit, hb]
  by_cases ci : v = i
  ·simp [ci]
  ·by_cases cj : v = j
   ·simp [cj]
   ·rw [decide_eq_false ci, decide_eq_false cj]
    simp only [Bool.or_self, Bool.not_false, Bool.and_true]
    by_cases cv : v < n
    ·have h1 := h v (by omega) (by rw [an_bit, hb, Nat.testBit_two_pow_sub_one, decide_eq_true cv, decide_eq_false ci, decide_eq_false cj]; rfl)
     rw [hsx] at h1
     rw [sy i v, sy j v]
     simpa using h1
    ·have z : ∀ a, (w a).testBit v = false := fun a => by
      cases hh : (w a).testBit v with
      | false => rfl
      | true => exact absurd (hw.low a v hh).2 cv
     rw [z, z]
 ·intro h v hv ha
  rw [an_bit, hb, Nat.testBit_two_pow_sub_one] at ha
  rw [hsx]
  simp only [Bool.and_eq_true, decide_eq_true_eq, Bool.not_eq_true', Bool.or_eq_false_iff, decide_eq_false_iff_not] at ha
  have h1 := congrArg (fun x => Nat.testBit x v) h
  simp only [an_bit, hb, decide_eq_false ha.2.1, decide_eq_false ha.2.2, Bool.or_self, Bool.not_false, Bool.and_true] at h1
  rw [sy v i, sy v j, h1]
  simp

end Go.Num
namespace Go.Proofs
open Go Go.Ev Go.Num
set_option linter.unusedVariables false
set_option linter.unusedSimpArgs false
set_option maxRecDepth 100000

theorem readR (r : Mem) (hm : Tab r) {m : Nat} (h1 : 1 ≤ m) (hm16 : m ≤ 16) {E : List (Nat × Nat)} (hE : okAll (m : Int) (zE E) E.length = true) (hl : E.length ≤ 1000000) (b off cap : Nat) (hz : rowAt r b off (2 * E.length) (zE E)) :
  GrT Tryz.prog r 23 [I (m : Nat), RS2 b off E.length cap] (.tuple ⟨[.agg ⟨gC (m : Nat) fun i => (wS E i : Nat)⟩, I 0]⟩) := by
 obtain ⟨hck, hg⟩ := rdg_gC h1 hm16 hE
 have hr := partRead_ok r hm (m : Nat) b off E.length cap (zE E) hz hl
 rw [hck, hg] at hr
 exact hr
theorem readN (r : Mem) {m : Nat} (h1 : 1 ≤ m) (hm16 : m ≤ 16) : GrT Tryz.prog r 23 [I (m : Nat), .slice none 0 0] (.tuple ⟨[.agg ⟨gC (m : Nat) fun i => (wS [] i : Nat)⟩, I 0]⟩) := by
 have hz0 : ∀ i, wS [] i = 0 := fun i => by
  unfold wS
  rw [show (nbN 16 (zE []) ([] : List (Nat × Nat)).length) = List.replicate 16 0 from rfl, List.getD_eq_getElem?_getD, List.getElem?_replicate]
  split <;> rfl
 refine GrT.of (SC_ok r) TOk.nil .nil rfl ⟨1, 3, ?_⟩
 have hn := rdN r (m : Nat)
 simp only [dF (show ¬ ((m : Nat) : Int) < 1 by omega), dF (show ¬ ((m : Nat) : Int) > 16 by omega), cond_false] at hn
 refine hn.trans ?_
 simp only [hz0]
 rfl

def inW (A : Nat) (s : Int) : Bool := decide (0 ≤ s) && decide (s ≤ (A : Int))
def isF (A : Nat) (q : Nat → Bool) (s : Int) : Bool := inW A s && q s.toNat
def erF (A : Nat) (s : Int) : Int := bif inW A s then 0 else 1
theorem pisR (r : Mem) (hm : Tab r) {m : Nat} (hm16 : m ≤ 16) {w : Nat → Nat} (hw : ∀ i, w i < 65536) (b off len cap : Nat) (hr : GrT Tryz.prog r 23 [I (m : Nat), RS2 b off len cap] (.tuple ⟨[.agg ⟨gC (m : Nat) fun i => (w i : Nat)⟩, I 0]⟩)) (set : Int) :
  GrT Tryz.prog r 13 [I (m : Nat), RS2 b off len cap, I set] (.tuple ⟨[.bool (isF (2 ^ m - 1) (imN w m) set), I (erF (2 ^ m - 1) set)]⟩) := by
 have sm : ∀ l : List Value, m_same l l = true := same_rfl
 refine GrT.of (SC_ok r) (show TOk (SC r) (tYi (m : Nat) (RS2 b off len cap) (fun i => (w i : Nat)) fun s => imN w m s.toNat) from TOk.cons (TOk.cons TOk.nil (entV_ok hr rfl)) (eIm_ok r hm hm16 hw)) .nil rfl ⟨1, 3, ?_⟩
 have hn := piR r (m : Nat) set b off len cap (fun i => (w i : Nat)) fun s => imN w m s.toNat
 have hA := all16 hm16
 have wA : IntKind.wrap .i64 ((2 ^ m - 1 : Nat) : Int) = ((2 ^ m - 1 : Nat) : Int) := wrI (by omega)
 simp only [sm, dF (show ¬ (m : Int) < 0 by omega), Int.toNat_natCast, allU hm16, wA, Bool.not_false, cond_true] at hn
 refine hn.trans ?_
 unfold isF erF inW
 by_cases c1 : set < 0
 ·rw [dT c1, cond_true, dF (show ¬ 0 ≤ set by omega)]
  rfl
 ·rw [dF c1, cond_false, dT (show 0 ≤ set by omega)]
  by_cases c2 : set > ((2 ^ m - 1 : Nat) : Int)
  ·rw [dT c2, cond_true, dF (show ¬ set ≤ ((2 ^ m - 1 : Nat) : Int) by omega)]
   rfl
  ·have ws : IntKind.wrap .u64 set = set := by rw [wrU]; omega
   rw [dF c2, cond_false, dT (show set ≤ ((2 ^ m - 1 : Nat) : Int) by omega), ws, show m_w16 set = true from decide_eq_true ⟨by omega, by omega⟩]
   cases imN w m set.toNat <;> rfl
theorem pisN (r : Mem) (hm : Tab r) {m : Nat} (hm16 : m ≤ 16) {w : Nat → Nat} (hw : ∀ i, w i < 65536) (hr : GrT Tryz.prog r 23 [I (m : Nat), .slice none 0 0] (.tuple ⟨[.agg ⟨gC (m : Nat) fun i => (w i : Nat)⟩, I 0]⟩)) (set : Int) :
  GrT Tryz.prog r 13 [I (m : Nat), .slice none 0 0, I set] (.tuple ⟨[.bool (isF (2 ^ m - 1) (imN w m) set), I (erF (2 ^ m - 1) set)]⟩) := by
 have sm : ∀ l : List Value, m_same l l = true := same_rfl
 refine GrT.of (SC_ok r) (show TOk (SC r) (tYi (m : Nat) (.slice none 0 0) (fun i => (w i : Nat)) fun s => imN w m s.toNat) from TOk.cons (TOk.cons TOk.nil (entV_ok hr rfl)) (eIm_ok r hm hm16 hw)) .nil rfl ⟨1, 3, ?_⟩
 have hn := piN r (m : Nat) set (fun i => (w i : Nat)) fun s => imN w m s.toNat
 have hA := all16 hm16
 have wA : IntKind.wrap .i64 ((2 ^ m - 1 : Nat) : Int) = ((2 ^ m - 1 : Nat) : Int) := wrI (by omega)
 simp only [sm, dF (show ¬ (m : Int) < 0 by omega), Int.toNat_natCast, allU hm16, wA, Bool.not_false, cond_true] at hn
 refine hn.trans ?_
 unfold isF erF inW
 by_cases c1 : set < 0
 ·rw [dT c1, cond_true, dF (show ¬ 0 ≤ set by omega)]
  rfl
 ·rw [dF c1, cond_false, dT (show 0 ≤ set by omega)]
  by_cases c2 : set > ((2 ^ m - 1 : Nat) : Int)
  ·rw [dT c2, cond_true, dF (show ¬ set ≤ ((2 ^ m - 1 : Nat) : Int) by omega)]
   rfl
  ·have ws : IntKind.wrap .u64 set = set := by rw [wrU]; omega
   rw [dF c2, cond_false, dT (show set ≤ ((2 ^ m - 1 : Nat) : Int) by omega), ws, show m_w16 set = true from decide_eq_true ⟨by omega, by omega⟩]
   cases imN w m set.toNat <;> rfl

def coE (w : Nat → Nat) (m : Nat) : List (Nat × Nat) := alE (wcK w m m) m m
theorem wcK_lt {w : Nat → Nat} {m : Nat} (hm16 : m ≤ 16) (i : Nat) : wcK w m m i < 65536 := by
 unfold wcK
 split
 ·exact an_lt (k := 16) (an_lt (k := 16) (all16 hm16))
 ·decide
theorem pcoR (r : Mem) {m : Nat} (hm16 : m ≤ 16) {w : Nat → Nat} (hw : ∀ i, w i < 65536) (b off len cap : Nat) (hr : GrT Tryz.prog r 23 [I (m : Nat), RS2 b off len cap] (.tuple ⟨[.agg ⟨gC (m : Nat) fun i => (w i : Nat)⟩, I 0]⟩)) {p : Nat × Nat} {l : List (Nat × Nat)} (hE : coE w m = p :: l) :
  GrM Tryz.prog r 7 [I (m : Nat), RS2 b off len cap] (.tuple ⟨[rowV 0 (l.length + 1), I 0]⟩) (rowA (pcE (p :: l)) 51 2) := by
 have sm : ∀ l : List Value, m_same l l = true := same_rfl
 have hc := compl_ok r hm16 hw
 have he := edges_ok' r hm16 (wcK_lt (w := w) hm16)
 change SOk _ _ _ _ (fun v A => v = vL (coE w m) ∧ A = mkA (oL (coE w m))) at he
 rw [hE] at he
 refine GrM.of (SC_ok r) (show TOk (SC r) (tYc1 (m : Nat) (RS2 b off len cap) (fun i => (w i : Nat)) (fun i => (wcK w m m i : Nat)) (l.length + 1) (pcE (p :: l))) from TOk.cons (TOk.cons (TOk.cons TOk.nil (entV_ok hr rfl)) (eOwn_ok r rfl he)) (entV_ok hc rfl)) .nil ⟨1, 2, ?_⟩
 have hn := pc1R r (m : Nat) b off len cap (fun i => (w i : Nat)) (fun i => (wcK w m m i : Nat)) (l.length + 1) (pcE (p :: l))
 simp only [sm, pcE_gnd, cond_true] at hn
 exact hn
theorem pcoN (r : Mem) {m : Nat} (hm16 : m ≤ 16) {w : Nat → Nat} (hw : ∀ i, w i < 65536) (hr : GrT Tryz.prog r 23 [I (m : Nat), .slice none 0 0] (.tuple ⟨[.agg ⟨gC (m : Nat) fun i => (w i : Nat)⟩, I 0]⟩)) {p : Nat × Nat} {l : List (Nat × Nat)} (hE : coE w m = p :: l) :
  GrM Tryz.prog r 7 [I (m : Nat), .slice none 0 0] (.tuple ⟨[rowV 0 (l.length + 1), I 0]⟩) (rowA (pcE (p :: l)) 51 2) := by
 have sm : ∀ l : List Value, m_same l l = true := same_rfl
 have hc := compl_ok r hm16 hw
 have he := edges_ok' r hm16 (wcK_lt (w := w) hm16)
 change SOk _ _ _ _ (fun v A => v = vL (coE w m) ∧ A = mkA (oL (coE w m))) at he
 rw [hE] at he
 refine GrM.of (SC_ok r) (show TOk (SC r) (tYc1 (m : Nat) (.slice none 0 0) (fun i => (w i : Nat)) (fun i => (wcK w m m i : Nat)) (l.length + 1) (pcE (p :: l))) from TOk.cons (TOk.cons (TOk.cons TOk.nil (entV_ok hr rfl)) (eOwn_ok r rfl he)) (entV_ok hc rfl)) .nil ⟨1, 2, ?_⟩
 have hn := pc1N r (m : Nat) (fun i => (w i : Nat)) (fun i => (wcK w m m i : Nat)) (l.length + 1) (pcE (p :: l))
 simp only [sm, pcE_gnd, cond_true] at hn
 exact hn
theorem pcoR0 (r : Mem) {m : Nat} (hm16 : m ≤ 16) {w : Nat → Nat} (hw : ∀ i, w i < 65536) (b off len cap : Nat) (hr : GrT Tryz.prog r 23 [I (m : Nat), RS2 b off len cap] (.tuple ⟨[.agg ⟨gC (m : Nat) fun i => (w i : Nat)⟩, I 0]⟩)) (hE : coE w m = []) :
  GrT Tryz.prog r 7 [I (m : Nat), RS2 b off len cap] (.tuple ⟨[.slice none 0 0, I 0]⟩) := by
 have sm : ∀ l : List Value, m_same l l = true := same_rfl
 have hc := compl_ok r hm16 hw
 have he := edges_ok' r hm16 (wcK_lt (w := w) hm16)
 change SOk _ _ _ _ (fun v A => v = vL (coE w m) ∧ A = mkA (oL (coE w m))) at he
 rw [hE] at he
 have h0 : GrT Tryz.prog r 25 [.agg ⟨gC (m : Nat) fun i => (wcK w m m i : Nat)⟩] (.slice none 0 0) :=
  GrT.ofS (C := SC r) rfl rfl rfl fun F hF k γ W args' hw hR ha => (he F hF k γ W args' hw hR ha).mono fun e W' ⟨u, B, ⟨h, _⟩, he⟩ => ⟨u, B, h, he⟩
 refine GrT.of (SC_ok r) (show TOk (SC r) (tYc0 (m : Nat) (RS2 b off len cap) (fun i => (w i : Nat)) (fun i => (wcK w m m i : Nat))) from TOk.cons (TOk.cons (TOk.cons TOk.nil (entV_ok hr rfl)) (entV_ok h0 rfl)) (entV_ok hc rfl)) .nil rfl ⟨1, 2, ?_⟩
 have hn := pc0R r (m : Nat) b off len cap (fun i => (w i : Nat)) (fun i => (wcK w m m i : Nat))
 simp only [sm, cond_true] at hn
 exact hn
theorem pcoN0 (r : Mem) {m : Nat} (hm16 : m ≤ 16) {w : Nat → Nat} (hw : ∀ i, w i < 65536) (hr : GrT Tryz.prog r 23 [I (m : Nat), .slice none 0 0] (.tuple ⟨[.agg ⟨gC (m : Nat) fun i => (w i : Nat)⟩, I 0]⟩)) (hE : coE w m = []) :
  GrT Tryz.prog r 7 [I (m : Nat), .slice none 0 0] (.tuple ⟨[.slice none 0 0, I 0]⟩) := by
 have sm : ∀ l : List Value, m_same l l = true := same_rfl
 have hc := compl_ok r hm16 hw
 have he := edges_ok' r hm16 (wcK_lt (w := w) hm16)
 change SOk _ _ _ _ (fun v A => v = vL (coE w m) ∧ A = mkA (oL (coE w m))) at he
 rw [hE] at he
 have h0 : GrT Tryz.prog r 25 [.agg ⟨gC (m : Nat) fun i => (wcK w m m i : Nat)⟩] (.slice none 0 0) :=
  GrT.ofS (C := SC r) rfl rfl rfl fun F hF k γ W args' hw hR ha => (he F hF k γ W args' hw hR ha).mono fun e W' ⟨u, B, ⟨h, _⟩, he⟩ => ⟨u, B, h, he⟩
 refine GrT.of (SC_ok r) (show TOk (SC r) (tYc0 (m : Nat) (.slice none 0 0) (fun i => (w i : Nat)) (fun i => (wcK w m m i : Nat))) from TOk.cons (TOk.cons (TOk.cons TOk.nil (entV_ok hr rfl)) (entV_ok h0 rfl)) (entV_ok hc rfl)) .nil rfl ⟨1, 2, ?_⟩
 have hn := pc0N r (m : Nat) (fun i => (w i : Nat)) (fun i => (wcK w m m i : Nat))
 simp only [sm, cond_true] at hn
 exact hn

end Go.Proofs

/- The program's list of modules; own rows, two of them. -/
namespace Go.Proofs
open Go Go.Ev Go.Num
set_option linter.unusedVariables false
set_option linter.unusedSimpArgs false
set_option maxRecDepth 100000

theorem own_c {r : Mem} {γ : Gam} {A : AW} {W : World} (hw : WRel γ A W) (hR : Ro r γ W) {i len cap : Nat} (hcap : Nat.beq cap unkE = false) {c : List Value} {e f z : Nat} (hget : A.heap.get i = some (.cells c e f z)) {v' : Value} (hv : VRel γ (.slice (some ⟨i, 0, none⟩) len cap) v') :
  ∃ b k', VRel noG (RS b k' len 0) v' ∧ ∀ j u, c[j]? = some u → gnd u = true → memW W b (k' + j) = some u := by
 obtain ⟨b, k', c', rfl, hrd⟩ := rd_world hw hR hv hcap
 refine ⟨b, k', .sliceRo _ _ _ _ _ _ (by decide) (Nat.zero_le _), fun j u hu hg => hrd j u ?_ hg⟩
 simp only [AW.rd, AW.cell, hget]
 rw [Nat.add_eq, Nat.zero_add]
 exact hu

theorem eOwnV_ok (r : Mem) {g : List Value} (hg : gnd (.agg ⟨g⟩) = true) {p : Nat} {l : List Nat} (h : SOk (SC r) 31 [.agg ⟨g⟩] emptyA fun v A => v = rowV 0 (l.length + 1) ∧ A = mkA [oRv (m_wu (p :: l)) 0]) : EOk (SC r) 31 (eOwnV [.agg ⟨g⟩] (l.length + 1) (m_wu (p :: l))) := fun args A hgd F hF k γ W args' hw hR ha => by
 refine ⟨fun _ => ?_, fun h => nomatch h⟩
 have hs := @of_decide_eq_true _ (Classical.propDecidable _) hgd
 subst hs
 have hgm : GrM Tryz.prog r 31 [.agg ⟨g⟩] (rowV 0 (l.length + 1)) (rowA (m_wu (p :: l)) 52 1) := GrM.ofS (C := SC r) rfl rfl h
 have hof : ofV 0 (rowV 0 (l.length + 1)) = true := by simp [ofV, of1, gnd]
 exact hgm.ends (γ := γ) (A := A) hof (wu_gnd _) hF hw (hR.noG noG fun _ => rfl) (ha.of_ros (by
  show roVs [.agg ⟨g⟩] = true
  simp only [roVs, roV, hg, Bool.or_true, Bool.true_or, Bool.and_self])) ha

theorem eNu_ok (r : Mem) {ws : List Nat} (hl : ws.length < 1000000) (hlt : ∀ x ∈ ws, x < 65536) : EOk (SC r) 30 (eNu ws.length (m_wu ws) (m_ws ws)) := fun args A hgd F hF k γ W args' hw hR ha => by
 refine ⟨fun hcc => ?_, fun h => nomatch h⟩
 clear hcc
 dsimp only [eNu] at hgd ⊢
 split at hgd
 ·rename_i i k0 l cap
  split at hgd
  ·rename_i c' e f z hget
   have hs := @of_decide_eq_true _ (Classical.propDecidable _) hgd
   simp only [List.cons.injEq, Value.slice.injEq, Option.some.injEq, Addr.mk.injEq, Value.agg.injEq, Array.mk.injEq, and_true, true_and] at hs
   obtain ⟨⟨rfl, rfl, rfl⟩, rfl⟩ := hs
   obtain ⟨la⟩ := args'
   cases ha with
   | cons hv hrest =>
   cases hrest
   obtain ⟨b, k', p1, p2⟩ := own_c hw hR (show Nat.beq unk unkE = false from rfl) hget hv
   have h := nums_ok (memW W) b k' 0 ws hl hlt fun k hk => p2 k _ (by
    unfold m_wu
    rw [List.getElem?_map, List.getElem?_eq_getElem hk, List.getD_eq_getElem?_getD, List.getElem?_eq_getElem hk]
    rfl) rfl
   have hgm : GrM Tryz.prog (memW W) 30 [RS b k' ws.length 0] (.slice (some ⟨0, 0, none⟩) ws.length ws.length) (rowA (m_ws ws) 3 1) := GrM.ofS (C := SC (memW W)) rfl rfl h
   have hof : ofV 0 (.slice (some ⟨0, 0, none⟩) ws.length ws.length) = true := by simp [ofV, of1]
   exact hgm.ends (γ := γ) (A := A) hof (ws_gnd _) hF hw (memW_ro W) (.cons p1 .nil) (.cons hv .nil)
  ·cases hgd
 ·cases hgd

theorem finM_two {g h d : List Value} {k e : Nat} (hk : k ≠ 0) (hg : gnds g = true) (x y : Nat) : finM (.tuple ⟨[.slice (some ⟨2, 0, none⟩) k k, I 0]⟩) (AW.mk 3 (Tr.node (Tr.node Tr.nil (some (.cells d x 1 1)) Tr.nil) (some (.cells h y 0 0)) (Tr.node Tr.nil (some (.cells g e 2 1)) Tr.nil)) Tr.nil) = .ret (.tuple ⟨[.slice (some ⟨0, 0, none⟩) k k, I 0]⟩) (rowA g e 1) := by
 have hb : Nat.beq k 0 = false := natFK2 hk
 unfold finM rowOf rowsOf row1
 simp only [hb, Bool.and_false]
 show guardK (gnds g) _ = _
 rw [hg]
 rfl

theorem pmoR (r : Mem) (hm : Tab r) {m : Nat} (h1 : 1 ≤ m) (hm16 : m ≤ 16) {w : Nat → Nat} (hw : ∀ i, w i < 65536) (b off len cap : Nat) (hr : GrT Tryz.prog r 23 [I (m : Nat), RS2 b off len cap] (.tuple ⟨[.agg ⟨gC (m : Nat) fun i => (w i : Nat)⟩, I 0]⟩)) {p : Nat} {l : List Nat} (hl : moL (imN w m) (2 ^ m) = p :: l) :
  (m ≤ 10 → GrM Tryz.prog r 16 [I (m : Nat), RS2 b off len cap] (.tuple ⟨[.slice (some ⟨0, 0, none⟩) (l.length + 1) (l.length + 1), I 0]⟩) (rowA (m_ws (p :: l)) 3 1)) ∧
  (10 < m → GrT Tryz.prog r 16 [I (m : Nat), RS2 b off len cap] (.tuple ⟨[.slice none 0 0, I 2]⟩)) := by
 have sm : ∀ l : List Value, m_same l l = true := same_rfl
 have hA : 2 ^ m ≤ 65536 := Nat.pow_le_pow_right (n := 2) (by decide) hm16
 have hlen := moL_len (imN w m) (2 ^ m)
 have hlt : ∀ x ∈ p :: l, x < 65536 := fun x hx => by
  rw [← hl] at hx
  have := moL_lt x hx
  omega
 have hmo := eOwnV_ok r rfl (mods_ok r hm h1 hm16 hw hl)
 rw [hl] at hlen
 have htb : TOk (SC r) (tYm (m : Nat) (RS2 b off len cap) (fun i => (w i : Nat)) (l.length + 1) (m_wu (p :: l)) (m_ws (p :: l))) := TOk.cons (TOk.cons (TOk.cons TOk.nil (entV_ok hr rfl)) (eNu_ok r (ws := p :: l) (by simp at hlen ⊢; omega) hlt)) hmo
 refine ⟨fun hm10 => ?_, fun hm10 => ?_⟩
 ·refine GrM.of (SC_ok r) htb .nil ⟨1, 2, ?_⟩
  have hn := pmR r (m : Nat) b off len cap (fun i => (w i : Nat)) (l.length + 1) (m_wu (p :: l)) (m_ws (p :: l)) finM
  simp only [sm, dF (show ¬ (m : Int) > 10 by omega), cond_true, cond_false] at hn
  exact hn.trans (finM_two (by omega) (ws_gnd _) _ _)
 ·refine GrT.of (SC_ok r) htb .nil rfl ⟨1, 2, ?_⟩
  have hn := pmR r (m : Nat) b off len cap (fun i => (w i : Nat)) (l.length + 1) (m_wu (p :: l)) (m_ws (p :: l)) fin
  simp only [sm, dT (show (m : Int) > 10 by omega), cond_true, cond_false] at hn
  exact hn
theorem pmoN (r : Mem) (hm : Tab r) {m : Nat} (h1 : 1 ≤ m) (hm16 : m ≤ 16) {w : Nat → Nat} (hw : ∀ i, w i < 65536) (hr : GrT Tryz.prog r 23 [I (m : Nat), .slice none 0 0] (.tuple ⟨[.agg ⟨gC (m : Nat) fun i => (w i : Nat)⟩, I 0]⟩)) {p : Nat} {l : List Nat} (hl : moL (imN w m) (2 ^ m) = p :: l) :
  (m ≤ 10 → GrM Tryz.prog r 16 [I (m : Nat), .slice none 0 0] (.tuple ⟨[.slice (some ⟨0, 0, none⟩) (l.length + 1) (l.length + 1), I 0]⟩) (rowA (m_ws (p :: l)) 3 1)) ∧
  (10 < m → GrT Tryz.prog r 16 [I (m : Nat), .slice none 0 0] (.tuple ⟨[.slice none 0 0, I 2]⟩)) := by
 have sm : ∀ l : List Value, m_same l l = true := same_rfl
 have hA : 2 ^ m ≤ 65536 := Nat.pow_le_pow_right (n := 2) (by decide) hm16
 have hlen := moL_len (imN w m) (2 ^ m)
 have hlt : ∀ x ∈ p :: l, x < 65536 := fun x hx => by
  rw [← hl] at hx
  have := moL_lt x hx
  omega
 have hmo := eOwnV_ok r rfl (mods_ok r hm h1 hm16 hw hl)
 rw [hl] at hlen
 have htb : TOk (SC r) (tYm (m : Nat) (.slice none 0 0) (fun i => (w i : Nat)) (l.length + 1) (m_wu (p :: l)) (m_ws (p :: l))) := TOk.cons (TOk.cons (TOk.cons TOk.nil (entV_ok hr rfl)) (eNu_ok r (ws := p :: l) (by simp at hlen ⊢; omega) hlt)) hmo
 refine ⟨fun hm10 => ?_, fun hm10 => ?_⟩
 ·refine GrM.of (SC_ok r) htb .nil ⟨1, 2, ?_⟩
  have hn := pmN r (m : Nat) (fun i => (w i : Nat)) (l.length + 1) (m_wu (p :: l)) (m_ws (p :: l)) finM
  simp only [sm, dF (show ¬ (m : Int) > 10 by omega), cond_true, cond_false] at hn
  exact hn.trans (finM_two (by omega) (ws_gnd _) _ _)
 ·refine GrT.of (SC_ok r) htb .nil rfl ⟨1, 2, ?_⟩
  have hn := pmN r (m : Nat) (fun i => (w i : Nat)) (l.length + 1) (m_wu (p :: l)) (m_ws (p :: l)) fin
  simp only [sm, dT (show (m : Int) > 10 by omega), cond_true, cond_false] at hn
  exact hn

end Go.Proofs

