/- What the claim is proved with, part 6: the evaluator and the contracts of the calls. -/
import Derived.Test.YtpcofojbkahfbaaGreatDoorPack3
import Derived.Test.YtpcofojbkahfbaaGreatDoorPack5
import Derived.Test.YtpcofojbkahfbaaGreatDoorPack1
import Derived.Test.YtpcofojbkahfbaaGreatDoorPack2
import Derived.Test.YtpcofojbkahfbaaGreatDoorPack4
/- The law of paths holds. -/
namespace Go.Proofs
open Go Go.Ev Go.Num
set_option linter.unusedVariables false
set_option linter.unusedSimpArgs false
set_option maxRecDepth 100000

/-- The graph's words. -/
def wS (E : List (Nat × Nat)) (i : Nat) : Nat := (nbN 16 (zE E) E.length).getD i 0
def paS (m : Nat) (E : List (Nat × Nat)) : Option T4 := paN (wS E) (alE (wS E) m m)
theorem m_gC (n : Int) {zs : List Int} (h : zs.length = 16) : m_g n zs = gC n fun i => zs.getD i 0 := by
  obtain ⟨z0, z1, z2, z3, z4, z5, z6, z7, z8, z9, z10, z11, z12, z13, z14, z15, rfl⟩ := list16 h
  rfl
theorem getD_map (ws : List Nat) (i : Nat) : (ws.map fun (w : Nat) => (w : Int)).getD i 0 = ((ws.getD i 0 : Nat) : Int) := by
  rw [List.getD_eq_getElem?_getD, List.getD_eq_getElem?_getD, List.getElem?_map]
  cases ws[i]? <;> rfl
theorem rdg_gC {m : Nat} (h1 : 1 ≤ m) (hm16 : m ≤ 16) {E : List (Nat × Nat)} (hE : okAll (m : Int) (zE E) E.length = true) : ckG (m : Int) (zE E) E.length = 0 ∧ m_rdg (m : Int) (zE E) E.length = gC (m : Nat) fun i => (wS E i : Nat) := by
  have hck : ckG (m : Int) (zE E) E.length = 0 := by unfold ckG; rw [if_neg (by omega), if_pos hE]
  refine ⟨hck, ?_⟩
  unfold m_rdg
  rw [if_pos hck, m_gC _ (nbz_len _ _), nbz_nat (zE E) (n := (m : Int)) (by omega) E.length fun i hi => okAll_at hE i hi]
  simp only [getD_map]
  rfl
theorem wS_lt {m : Nat} (hm16 : m ≤ 16) {E : List (Nat × Nat)} (hE : okAll (m : Int) (zE E) E.length = true) (i : Nat) : wS E i < 65536 := getD_lt (nbN_lt 16 (zE E) (n := (m : Int)) (by omega) E.length fun i hi => okAll_at hE i hi) i
theorem path_ok (r : Mem) (hm : Tab r) {n : Nat} (hn : n ≤ 16) {w : Nat → Nat} (hw : ∀ i, w i < 65536) : GrT Tryz.prog r 35 [.agg ⟨gC (n : Nat) fun i => (w i : Nat)⟩] (vPt (paN w (alE w n n))) := by
  cases hE : alE w n n with
  | cons p l => exact path_row r hm hn hw hE
  | nil =>
    have sm : ∀ l : List Value, m_same l l = true := same_rfl
    have he := edges_ok' r hn hw
    rw [hE] at he
    have h0 : GrT Tryz.prog r 25 [.agg ⟨gC (n : Nat) fun i => (w i : Nat)⟩] (.slice none 0 0) :=
      GrT.ofS (C := SC r) rfl rfl rfl fun F hF k γ W args' hw hR ha => (he F hF k γ W args' hw hR ha).mono fun e W' ⟨u, B, ⟨h, _⟩, he⟩ => ⟨u, B, h, he⟩
    refine GrT.of (SC_ok r) (show TOk (SC r) (tPz (gC (n : Nat) fun i => (w i : Nat))) from TOk.cons TOk.nil (entV_ok h0 rfl)) .nil rfl ⟨1, 2, ?_⟩
    have hn := paZ r (n : Nat) fun i => (w i : Nat)
    simp only [sm, cond_true] at hn
    exact hn
def vPq : Option T4 → Value
  | none => vPp 0 0 0 0 false
  | some t => vPp (t.1 : Nat) (t.2.1 : Nat) (t.2.2.1 : Nat) (t.2.2.2 : Nat) true
theorem vPq_gnd (o : Option T4) : gnd (vPq o) = true := by cases o <;> rfl

theorem part_path (r : Mem) (hm : Tab r) (m : Nat) (h1 : 1 ≤ m) (hm16 : m ≤ 16) (E : List (Nat × Nat)) (hE : okAll (m : Int) (zE E) E.length = true) (hl : E.length ≤ 1000000) (b off cap : Nat) (hz : rowAt r b off (2 * E.length) (zE E)) :
    GrT Tryz.prog r 20 [I (m : Nat), RS2 b off E.length cap] (vPq (paS m E)) := by
  have sm : ∀ l : List Value, m_same l l = true := same_rfl
  obtain ⟨hck, hg⟩ := rdg_gC h1 hm16 hE
  have hr := partRead_ok r hm (m : Nat) b off E.length cap (zE E) hz hl
  have hp := path_ok r hm hm16 (w := wS E) (wS_lt hm16 hE)
  rw [hck, hg] at hr
  change GrT _ _ _ _ (vPt (paS m E)) at hp
  cases ho : paS m E with
  | none =>
    rw [ho] at hp
    refine GrT.of (SC_ok r) (show TOk (SC r) (tPt (m : Nat) (RS2 b off E.length cap) (fun i => (wS E i : Nat)) 0 0 0 0 false) from TOk.cons (TOk.cons TOk.nil (entV_ok hp rfl)) (entV_ok hr rfl)) .nil rfl ⟨1, 2, ?_⟩
    have hn := ptAR r (m : Nat) b off E.length cap (fun i => (wS E i : Nat)) 0 0 0 0 false
    simp only [m_sm, rB, sm, cond_true, cond_false] at hn
    exact hn
  | some t =>
    rw [ho] at hp
    refine GrT.of (SC_ok r) (show TOk (SC r) (tPt (m : Nat) (RS2 b off E.length cap) (fun i => (wS E i : Nat)) (t.1 : Nat) (t.2.1 : Nat) (t.2.2.1 : Nat) (t.2.2.2 : Nat) true) from TOk.cons (TOk.cons TOk.nil (entV_ok hp rfl)) (entV_ok hr rfl)) .nil rfl ⟨1, 2, ?_⟩
    have hn := ptAR r (m : Nat) b off E.length cap (fun i => (wS E i : Nat)) (t.1 : Nat) (t.2.1 : Nat) (t.2.2.1 : Nat) (t.2.2.2 : Nat) true
    simp only [m_sm, rB, sm, cond_true, cond_false] at hn
    exact hn
theorem part_pathN (r : Mem) (hm : Tab r) (m : Nat) (h1 : 1 ≤ m) (hm16 : m ≤ 16) : GrT Tryz.prog r 20 [I (m : Nat), .slice none 0 0] (vPq (paS m [])) := by
  have sm : ∀ l : List Value, m_same l l = true := same_rfl
  have hz0 : ∀ i, wS [] i = 0 := fun i => by
    unfold wS
    rw [show (nbN 16 (zE []) ([] : List (Nat × Nat)).length) = List.replicate 16 0 from rfl, List.getD_eq_getElem?_getD, List.getElem?_replicate]
    split <;> rfl
  have hr : GrT Tryz.prog r 23 [I (m : Nat), .slice none 0 0] (.tuple ⟨[.agg ⟨gC (m : Nat) fun i => (wS [] i : Nat)⟩, I 0]⟩) := by
    refine GrT.of (SC_ok r) TOk.nil .nil rfl ⟨1, 3, ?_⟩
    have hn := rdN r (m : Nat)
    simp only [dF (show ¬ ((m : Nat) : Int) < 1 by omega), dF (show ¬ ((m : Nat) : Int) > 16 by omega), cond_false] at hn
    refine hn.trans ?_
    simp only [hz0]
    rfl
  have hp := path_ok r hm hm16 (w := wS []) (wS_lt hm16 (E := []) rfl)
  change GrT _ _ _ _ (vPt (paS m [])) at hp
  have ho : paS m [] = none := by
    unfold paS
    have h0 : alE (wS []) m m = [] := by
      cases hh : alE (wS []) m m with
      | nil => rfl
      | cons p l =>
        obtain ⟨b, c⟩ := p
        have := ((alE_has (wS []) m b c m).1 (by rw [hh]; exact List.mem_cons_self)).2.2.2
        rw [hz0] at this
        rw [bt_bit, Nat.zero_testBit] at this
        exact nomatch this
    rw [h0]
    rfl
  rw [ho] at hp ⊢
  refine GrT.of (SC_ok r) (show TOk (SC r) (tPt (m : Nat) (.slice none 0 0) (fun i => (wS [] i : Nat)) 0 0 0 0 false) from TOk.cons (TOk.cons TOk.nil (entV_ok hp rfl)) (entV_ok hr rfl)) .nil rfl ⟨1, 2, ?_⟩
  have hn := ptAN r (m : Nat) (fun i => (wS [] i : Nat)) 0 0 0 0 false
  simp only [m_sm, rB, sm, cond_true, cond_false] at hn
  exact hn

theorem ePa1_ok (r : Mem) (hm : Tab r) {m : Nat} (h1 : 1 ≤ m) (hm16 : m ≤ 16) {E : List (Nat × Nat)} (hE : okAll (m : Int) (zE E) E.length = true) (hl : E.length ≤ 1000000) : EOk (SC r) 20 (ePa1 (m : Nat) E.length (pcE E) (vPq (paS m E))) := EOk.ent fun args A hg => by
  split at hg
  · rename_i n i k l cap
    split at hg
    · rename_i c' e f z hget
      have hs := @of_decide_eq_true _ (Classical.propDecidable _) hg
      simp only [List.cons.injEq, Value.int.injEq, Value.slice.injEq, Option.some.injEq, Addr.mk.injEq, Value.agg.injEq, Array.mk.injEq, and_true, true_and] at hs
      obtain ⟨rfl, ⟨rfl, rfl, rfl⟩, rfl⟩ := hs
      refine POk.of (vPq_gnd _) fun γ W args' hw hR ha => ?_
      obtain ⟨b, k', p1, p2, p3⟩ := own_mem hw hR hget (okL2_E E hl) rfl rfl ha
      exact ⟨memW W, _, memW_ro W, p1, part_path (memW W) (memW_tab hm hR) m h1 hm16 E hE hl b k' 0 (rowE p2)⟩
    · cases hg
  · cases hg

/-- The reference's words. -/
def wR (m : Nat) (E : List (Nat × Nat)) (i : Nat) : Nat := (nbN m (zE E) E.length).getD i 0
theorem wR_eq {m : Nat} (hm16 : m ≤ 16) {E : List (Nat × Nat)} (hE : okAll (m : Int) (zE E) E.length = true) (i : Nat) (hi : i < m) : wS E i = wR m E i := nb_ext hm16 (zE E) E.length (fun i hi => okAll_at hE i hi) i hi
theorem ipI_nat (w : Nat → Nat) {m : Nat} {x y z t : Nat} (hx : x < m) (hy : y < m) (hz : z < m) (ht : t < m) : ipI w m (x : Nat) (y : Nat) (z : Nat) (t : Nat) = ipN w x y z t := by
  have n0 : ∀ k : Nat, decide ((k : Int) < 0) = false := fun k => decide_eq_false (by omega)
  have nm : ∀ k : Nat, k < m → decide ((k : Int) ≥ Int.ofNat m) = false := fun k h => decide_eq_false (by simp; omega)
  unfold ipI
  rw [n0, n0, n0, n0, nm x hx, nm y hy, nm z hz, nm t ht]
  rfl
theorem hq_eq {m : Nat} (hm16 : m ≤ 16) {E : List (Nat × Nat)} (hE : okAll (m : Int) (zE E) E.length = true) : hpP (wR m E) (fun x y z t => ipI (wR m E) m (x : Nat) (y : Nat) (z : Nat) (t : Nat)) m = (paS m E).isSome :=
  pa_has hm16 (nb_nbs hm16 (zE E) E.length fun i hi => okAll_at hE i hi) (nb_irr hm16 (zE E) E.length fun i hi => okAll_at hE i hi) (wR_eq hm16 hE) fun x y z t hx hy hz ht => ipI_nat _ hx hy hz ht
theorem iq_eq {m : Nat} (hm16 : m ≤ 16) {E : List (Nat × Nat)} (hE : okAll (m : Int) (zE E) E.length = true) {t : T4} (h : paS m E = some t) : ipI (wR m E) m (t.1 : Nat) (t.2.1 : Nat) (t.2.2.1 : Nat) (t.2.2.2 : Nat) = true := by
  obtain ⟨h1, h2, h3, h4, h5⟩ := pa_use (nb_nbs hm16 (zE E) E.length fun i hi => okAll_at hE i hi) (nb_irr hm16 (zE E) E.length fun i hi => okAll_at hE i hi) h
  rw [ipI_nat _ h1 h2 h3 h4, ← ip_congr (wR_eq hm16 hE) h1 h2 h3]
  exact h5

theorem eHq_ok (r : Mem) {m : Nat} (hm16 : m ≤ 16) {E : List (Nat × Nat)} (hE : okAll (m : Int) (zE E) E.length = true) : EOk (SC r) 21 (eHq m (m_ws (nbN m (zE E) E.length)) (paS m E).isSome) := EOk.ent fun args A hg => by
  split at hg
  · rename_i i k l cap
    split at hg
    · rename_i c' e f z hget
      have hs := @of_decide_eq_true _ (Classical.propDecidable _) hg
      simp only [List.cons.injEq, Value.slice.injEq, Option.some.injEq, Addr.mk.injEq, Value.agg.injEq, Array.mk.injEq, and_true, true_and] at hs
      obtain ⟨⟨rfl, rfl, rfl⟩, rfl⟩ := hs
      refine POk.of rfl fun γ W args' hw hR ha => ?_
      obtain ⟨b, k', p1, p2⟩ := own_ws hw hR hm16 (nbN_len _ (zE E) E.length) hget rfl ha
      refine ⟨memW W, _, memW_ro W, p1, ?_⟩
      have := rhasp_ok (memW W) b k' cap 0 hm16 (wR cap E) p2 (qi := ipI (wR cap E) cap) (fun x y z t => ipI (wR cap E) cap (x : Nat) (y : Nat) (z : Nat) (t : Nat)) (fun _ _ _ _ => rfl) (eIP_ok (memW W) fun x y z t => ip_ok (memW W) b k' cap 0 hm16 (wR cap E) p2 x y z t)
      rw [hq_eq hm16 hE] at this
      exact this
    · cases hg
  · cases hg
theorem eIq_ok (r : Mem) {m : Nat} (hm16 : m ≤ 16) (E : List (Nat × Nat)) (x0 x1 x2 x3 : Int) : EOk (SC r) 22 (eIq m (m_ws (nbN m (zE E) E.length)) x0 x1 x2 x3 (ipI (wR m E) m x0 x1 x2 x3)) := EOk.ent fun args A hg => by
  split at hg
  · rename_i i k l cap y0 y1 y2 y3
    split at hg
    · rename_i c' e f z hget
      have hs := @of_decide_eq_true _ (Classical.propDecidable _) hg
      simp only [List.cons.injEq, Value.slice.injEq, Option.some.injEq, Addr.mk.injEq, Value.agg.injEq, Array.mk.injEq, Value.int.injEq, and_true, true_and] at hs
      obtain ⟨⟨rfl, rfl, rfl⟩, rfl, rfl, rfl, rfl, rfl⟩ := hs
      refine POk.of rfl fun γ W args' hw hR ha => ?_
      obtain ⟨b, k', p1, p2⟩ := own_ws hw hR hm16 (nbN_len _ (zE E) E.length) hget rfl ha
      exact ⟨memW W, _, memW_ro W, p1, ip_ok (memW W) b k' cap 0 hm16 (wR cap E) p2 _ _ _ _⟩
    · cases hg
  · cases hg

theorem tL1_ok (r : Mem) (hm : Tab r) {a0 : List Value} (hro : roVs a0 = true) {m : Nat} (h1 : 1 ≤ m) (hm16 : m ≤ 16) {p : Nat × Nat} {l : List (Nat × Nat)} (hE : okAll (m : Int) (zE (p :: l)) (p :: l).length = true) (hL : (p :: l).length ≤ 1000000) (ht : SOk (SC r) 5 a0 emptyA fun v A => v = vTa m (p :: l) ∧ A = mkA (oL (p :: l)))
    (x0 x1 x2 x3 : Int) (ok h ip : Bool) (e1 : vPq (paS m (p :: l)) = vPp x0 x1 x2 x3 ok) (e2 : (paS m (p :: l)).isSome = h) (hi : EOk (SC r) 22 (eIq m (m_ws (nbN m (zE (p :: l)) (p :: l).length)) x0 x1 x2 x3 ip)) :
    TOk (SC r) (tL1 a0 m (l.length + 1) (pcE (p :: l)) (m_ws (nbN m (zE (p :: l)) (p :: l).length)) x0 x1 x2 x3 ok h ip) := by
  have hp := ePa1_ok r hm h1 hm16 hE hL
  have hh := eHq_ok r hm16 hE
  rw [e1] at hp
  rw [e2] at hh
  exact TOk.cons (TOk.cons (TOk.cons (TOk.cons (TOk.cons (TOk.cons TOk.nil hi) hh) hp) (eOf1_ok r h1 hm16 hE hL)) (eTm1_ok r hro ht)) (e0_ok (awake4.less hm))
theorem tL0_ok (r : Mem) (hm : Tab r) {a0 : List Value} (hro : roVs a0 = true) {m : Nat} (h1 : 1 ≤ m) (hm16 : m ≤ 16) (ht : SOk (SC r) 5 a0 emptyA fun v A => v = vTa m [] ∧ A = mkA (oL []))
    (x0 x1 x2 x3 : Int) (ok h ip : Bool) (e1 : vPq (paS m []) = vPp x0 x1 x2 x3 ok) (e2 : (paS m []).isSome = h) (hi : EOk (SC r) 22 (eIq m (m_ws (nbN m (zE []) ([] : List (Nat × Nat)).length)) x0 x1 x2 x3 ip)) :
    TOk (SC r) (tL0 a0 m (m_ws (nbN m (zE []) 0)) x0 x1 x2 x3 ok h ip) := by
  have hp := part_pathN r hm m h1 hm16
  have hh := eHq_ok r hm16 (E := []) rfl
  rw [e1] at hp
  rw [e2] at hh
  exact TOk.cons (TOk.cons (TOk.cons (TOk.cons (TOk.cons (TOk.cons TOk.nil hi) hh) (entV_ok hp rfl)) (eOf0_ok r h1 hm16)) (entV_ok (tm0_ok r ht) hro)) (e0_ok (awake4.less hm))
theorem pathsR (r : Mem) (hm : Tab r) (n : Int) (b off len cap : Nat) (z : Nat → Int) (hz : rowAt r b off (2 * len) z) : GrT Tryz.prog r 4 [I n, RS2 b off len cap] (.bool true) := by
  have sm : ∀ l : List Value, m_same l l = true := same_rfl
  have hg := gM_ok n (most := 16) (by decide) (by decide)
  have ht := tame_row r n 16 (by decide) (by decide) b off len cap z hz
  have hE := gE_ok n 16 len z
  have hL := gE_len n 16 len z (by decide) (by decide)
  generalize gE n 16 len z = E at ht hE hL
  generalize gM n 16 = m at ht hE hg
  have h1 := hg.1
  have hm16 : m ≤ 16 := by omega
  cases E with
  | nil =>
    have ip := @iq_eq m hm16 [] hE
    cases ho : paS m ([]) with
    | none =>
      have htb := tL0_ok r hm (a0 := [I n, RS2 b off len cap, I 16]) rfl h1 hm16 ht 0 0 0 0 false false (ipI (wR m ([])) m 0 0 0 0) (by rw [ho]; rfl) (by rw [ho]; rfl) (eIq_ok r hm16 ([]) 0 0 0 0)
      refine GrT.of (SC_ok r) htb .nil rfl ⟨5, 1, ?_⟩
      have hn := pp0R r n b off len cap m (m_ws (nbN m (zE []) 0)) 0 0 0 0 false false (ipI (wR m ([])) m 0 0 0 0)
      simp only [m_sm, rB, sm, cond_true, cond_false] at hn
      exact hn
    | some t =>
      have htb := tL0_ok r hm (a0 := [I n, RS2 b off len cap, I 16]) rfl h1 hm16 ht (t.1 : Nat) (t.2.1 : Nat) (t.2.2.1 : Nat) (t.2.2.2 : Nat) true true (ipI (wR m ([])) m (t.1 : Nat) (t.2.1 : Nat) (t.2.2.1 : Nat) (t.2.2.2 : Nat)) (by rw [ho]; rfl) (by rw [ho]; rfl) (eIq_ok r hm16 ([]) _ _ _ _)
      refine GrT.of (SC_ok r) htb .nil rfl ⟨5, 1, ?_⟩
      have hn := pp0R r n b off len cap m (m_ws (nbN m (zE []) 0)) (t.1 : Nat) (t.2.1 : Nat) (t.2.2.1 : Nat) (t.2.2.2 : Nat) true true (ipI (wR m ([])) m (t.1 : Nat) (t.2.1 : Nat) (t.2.2.1 : Nat) (t.2.2.2 : Nat))
      rw [ip ho] at hn ⊢
      simp only [m_sm, rB, sm, cond_true, cond_false] at hn
      exact hn
  | cons p l =>
    have ip := @iq_eq m hm16 (p :: l) hE
    cases ho : paS m ((p :: l)) with
    | none =>
      have htb := tL1_ok r hm (a0 := [I n, RS2 b off len cap, I 16]) rfl h1 hm16 hE hL ht 0 0 0 0 false false (ipI (wR m ((p :: l))) m 0 0 0 0) (by rw [ho]; rfl) (by rw [ho]; rfl) (eIq_ok r hm16 ((p :: l)) 0 0 0 0)
      refine GrT.of (SC_ok r) htb .nil rfl ⟨5, 1, ?_⟩
      have hn := pp1R r n b off len cap m (l.length + 1) (pcE (p :: l)) (m_ws (nbN m (zE (p :: l)) (p :: l).length)) 0 0 0 0 false false (ipI (wR m ((p :: l))) m 0 0 0 0)
      simp only [m_sm, rB, sm, cond_true, cond_false] at hn
      exact hn
    | some t =>
      have htb := tL1_ok r hm (a0 := [I n, RS2 b off len cap, I 16]) rfl h1 hm16 hE hL ht (t.1 : Nat) (t.2.1 : Nat) (t.2.2.1 : Nat) (t.2.2.2 : Nat) true true (ipI (wR m ((p :: l))) m (t.1 : Nat) (t.2.1 : Nat) (t.2.2.1 : Nat) (t.2.2.2 : Nat)) (by rw [ho]; rfl) (by rw [ho]; rfl) (eIq_ok r hm16 ((p :: l)) _ _ _ _)
      refine GrT.of (SC_ok r) htb .nil rfl ⟨5, 1, ?_⟩
      have hn := pp1R r n b off len cap m (l.length + 1) (pcE (p :: l)) (m_ws (nbN m (zE (p :: l)) (p :: l).length)) (t.1 : Nat) (t.2.1 : Nat) (t.2.2.1 : Nat) (t.2.2.2 : Nat) true true (ipI (wR m ((p :: l))) m (t.1 : Nat) (t.2.1 : Nat) (t.2.2.1 : Nat) (t.2.2.2 : Nat))
      rw [ip ho] at hn ⊢
      simp only [m_sm, rB, sm, cond_true, cond_false] at hn
      exact hn
theorem pathsN (r : Mem) (hm : Tab r) (n : Int) : GrT Tryz.prog r 4 [I n, .slice none 0 0] (.bool true) := by
  have sm : ∀ l : List Value, m_same l l = true := same_rfl
  have hg := gM_ok n (most := 16) (by decide) (by decide)
  have ht := tame_nil r n 16 (by decide) (by decide) fun _ => 0
  have hE := gE_ok n 16 0 (fun _ => 0)
  have hL := gE_len n 16 0 (fun _ => 0) (by decide) (by decide)
  generalize gE n 16 0 (fun _ => 0) = E at ht hE hL
  generalize gM n 16 = m at ht hE hg
  have h1 := hg.1
  have hm16 : m ≤ 16 := by omega
  cases E with
  | nil =>
    have ip := @iq_eq m hm16 [] hE
    cases ho : paS m ([]) with
    | none =>
      have htb := tL0_ok r hm (a0 := [I n, .slice none 0 0, I 16]) rfl h1 hm16 ht 0 0 0 0 false false (ipI (wR m ([])) m 0 0 0 0) (by rw [ho]; rfl) (by rw [ho]; rfl) (eIq_ok r hm16 ([]) 0 0 0 0)
      refine GrT.of (SC_ok r) htb .nil rfl ⟨5, 1, ?_⟩
      have hn := pp0N r n m (m_ws (nbN m (zE []) 0)) 0 0 0 0 false false (ipI (wR m ([])) m 0 0 0 0)
      simp only [m_sm, rB, sm, cond_true, cond_false] at hn
      exact hn
    | some t =>
      have htb := tL0_ok r hm (a0 := [I n, .slice none 0 0, I 16]) rfl h1 hm16 ht (t.1 : Nat) (t.2.1 : Nat) (t.2.2.1 : Nat) (t.2.2.2 : Nat) true true (ipI (wR m ([])) m (t.1 : Nat) (t.2.1 : Nat) (t.2.2.1 : Nat) (t.2.2.2 : Nat)) (by rw [ho]; rfl) (by rw [ho]; rfl) (eIq_ok r hm16 ([]) _ _ _ _)
      refine GrT.of (SC_ok r) htb .nil rfl ⟨5, 1, ?_⟩
      have hn := pp0N r n m (m_ws (nbN m (zE []) 0)) (t.1 : Nat) (t.2.1 : Nat) (t.2.2.1 : Nat) (t.2.2.2 : Nat) true true (ipI (wR m ([])) m (t.1 : Nat) (t.2.1 : Nat) (t.2.2.1 : Nat) (t.2.2.2 : Nat))
      rw [ip ho] at hn ⊢
      simp only [m_sm, rB, sm, cond_true, cond_false] at hn
      exact hn
  | cons p l =>
    have ip := @iq_eq m hm16 (p :: l) hE
    cases ho : paS m ((p :: l)) with
    | none =>
      have htb := tL1_ok r hm (a0 := [I n, .slice none 0 0, I 16]) rfl h1 hm16 hE hL ht 0 0 0 0 false false (ipI (wR m ((p :: l))) m 0 0 0 0) (by rw [ho]; rfl) (by rw [ho]; rfl) (eIq_ok r hm16 ((p :: l)) 0 0 0 0)
      refine GrT.of (SC_ok r) htb .nil rfl ⟨5, 1, ?_⟩
      have hn := pp1N r n m (l.length + 1) (pcE (p :: l)) (m_ws (nbN m (zE (p :: l)) (p :: l).length)) 0 0 0 0 false false (ipI (wR m ((p :: l))) m 0 0 0 0)
      simp only [m_sm, rB, sm, cond_true, cond_false] at hn
      exact hn
    | some t =>
      have htb := tL1_ok r hm (a0 := [I n, .slice none 0 0, I 16]) rfl h1 hm16 hE hL ht (t.1 : Nat) (t.2.1 : Nat) (t.2.2.1 : Nat) (t.2.2.2 : Nat) true true (ipI (wR m ((p :: l))) m (t.1 : Nat) (t.2.1 : Nat) (t.2.2.1 : Nat) (t.2.2.2 : Nat)) (by rw [ho]; rfl) (by rw [ho]; rfl) (eIq_ok r hm16 ((p :: l)) _ _ _ _)
      refine GrT.of (SC_ok r) htb .nil rfl ⟨5, 1, ?_⟩
      have hn := pp1N r n m (l.length + 1) (pcE (p :: l)) (m_ws (nbN m (zE (p :: l)) (p :: l).length)) (t.1 : Nat) (t.2.1 : Nat) (t.2.2.1 : Nat) (t.2.2.2 : Nat) true true (ipI (wR m ((p :: l))) m (t.1 : Nat) (t.2.1 : Nat) (t.2.2.1 : Nat) (t.2.2.2 : Nat))
      rw [ip ho] at hn ⊢
      simp only [m_sm, rB, sm, cond_true, cond_false] at hn
      exact hn

theorem law_paths (r : Mem) (hm : ∀ b j u, tabM b j = some u → r b j = some u) (u0 u1 : Value) (s0 : ArgInt .i64 u0) (s1 : ArgRowT r 2 (ArgInt .i64) u1) : GrT Tryz.prog r 4 [u0, u1] (.bool true) := by
  obtain ⟨n, rfl, _⟩ := s0
  cases s1 with
  | nil => exact pathsN r hm n
  | row b off len cap hl hc h =>
    refine pathsR r hm n b off len cap (fun j => ofI ((r b (off + j)).getD undef)) fun j hj => ?_
    obtain ⟨u, hu, z, rfl, _⟩ := h j (by omega)
    show r b (off + j) = some (I (ofI ((r b (off + j)).getD undef)))
    rw [hu]
    rfl

end Go.Proofs

