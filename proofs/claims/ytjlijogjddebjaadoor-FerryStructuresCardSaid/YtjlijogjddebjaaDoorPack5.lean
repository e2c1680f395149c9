/- What the claim is proved with, part 5: the evaluator and the contracts of the calls. -/
import Derived.Test.YtjlijogjddebjaaDoorPack4
import Derived.Test.YtjlijogjddebjaaDoorPack1
import Derived.Test.YtjlijogjddebjaaDoorPack2
import Derived.Test.YtjlijogjddebjaaDoorPack3
/- The law of structures found holds. -/
namespace Go.Proofs
open Go Go.Ev Go.Num
set_option linter.unusedVariables false
set_option linter.unusedSimpArgs false
set_option maxRecDepth 100000

def wG (E : List (Nat × Nat)) (i : Nat) : Nat := (nbN 10 (zE E) E.length).getD i 0
def foG (E : List (Nat × Nat)) (s : Nat) : Nat := foE (wG E) s 10
def quG (E : List (Nat × Nat)) (s : Nat) : Bool := quN (wG E) s 10
def suG (m : Nat) (E : List (Nat × Nat)) (s : Int) : Option T3 := suN (quG E) (foG E) (2 ^ m - 1) s
def fS (fo : Nat → Nat) : Option T3 → Nat → Int
  | none, _ => 0
  | some (a, b, c), i => match i with
    | 0 => (x1N fo a b : Nat)
    | 1 => (x2N fo a b c : Nat)
    | 2 => (x3N fo a b c : Nat)
    | 3 => (b : Nat)
    | _ => (c : Nat)
theorem vSu_eq (fo : Nat → Nat) (gv : Gv) (s : Int) (o : Option T3) (h : ∀ i, gv i s = fS fo o i) : vSu fo o = .tuple ⟨[vS5 gv s, .bool o.isSome]⟩ := by
  unfold vS5
  rw [h, h, h, h, h]
  cases o with
  | none => rfl
  | some t => rfl
def inR (s : Int) : Bool := decide (1 ≤ s) && decide (s ≤ 10)
def gvS (m : Nat) (E : List (Nat × Nat)) : Gv := fun i s => fS (foG E) (suG m E s) i
def goS (m : Nat) (E : List (Nat × Nat)) (s : Int) : Bool := (suG m E s).isSome
def gvG (m : Nat) (E : List (Nat × Nat)) : Gv := fun i s => bif inR s then gvS m E i s else 0
def goG (m : Nat) (E : List (Nat × Nat)) (s : Int) : Bool := inR s && goS m E s
def geG (s : Int) : Int := bif inR s then 0 else 1

theorem pg_pW (n : Int) {ws : List Nat} (h : ws.length = 10) : pgC n ws = I n :: pW (fun i => ((ws.getD i 0 : Nat) : Int)) := by
  obtain ⟨a0, a1, a2, a3, a4, a5, a6, a7, a8, a9, rfl⟩ := list10 h
  rfl
theorem nbsG {m : Nat} (hm10 : m ≤ 10) {E : List (Nat × Nat)} (hE : okAll (m : Int) (zE E) E.length = true) : Nbs (wG E) m := nb_nbs hm10 (zE E) E.length fun i hi => okAll_at hE i hi
theorem foG_lt {m : Nat} (hm10 : m ≤ 10) {E : List (Nat × Nat)} (hE : okAll (m : Int) (zE E) E.length = true) (s : Nat) : foG E s < 65536 := foE_lt s 10 fun i _ => getD_lt (nb10_lt hm10 hE) i
theorem tSu_ok (r : Mem) (hm : Tab r) {m : Nat} (hm10 : m ≤ 10) {E : List (Nat × Nat)} (hE : okAll (m : Int) (zE E) E.length = true) : TOk (SC r) (tSN (m : Nat) (fun i => ((wG E i : Nat) : Int)) (quG E) (foG E)) := by
  have hl := nbN_len 10 (zE E) E.length
  have hw := nb10_lt hm10 hE
  have hq : EOk (SC r) 26 (ePW (pgC (m : Nat) (nbN 10 (zE E) E.length)) fun s => .bool (quG E s.toNat)) := ePW_ok r (pgC_gnd _ _) fun s hs => by
    rw [Int.toNat_natCast]
    exact isq_ok r hm (m : Nat) _ hl hw s hs
  have hf : EOk (SC r) 36 (ePW (pgC (m : Nat) (nbN 10 (zE E) E.length)) fun s => U (foG E s.toNat : Nat)) := ePW_ok r (pgC_gnd _ _) fun s hs => by
    rw [Int.toNat_natCast]
    exact foes_ok r hm (m : Nat) _ hl hw s hs
  have ha := fall_ok r m (by omega) _ hl
  rw [pg_pW (m : Nat) hl] at hq hf ha
  exact TOk.cons (TOk.cons (TOk.cons (TOk.cons TOk.nil (entV_ok ha rfl)) (eU1_ok fun a h => fsz_ok r a h)) hq) hf
theorem eSt_ok (r : Mem) (hm : Tab r) {m : Nat} (hm10 : m ≤ 10) {E : List (Nat × Nat)} (hE : okAll (m : Int) (zE E) E.length = true) : EOk (SC r) 32 (eSt (pgC (m : Nat) (nbN 10 (zE E) E.length)) (gvS m E) (goS m E)) := EOk.ent fun args A hg => by
  split at hg
  · rename_i l s
    have h1 := @of_decide_eq_true _ (Classical.propDecidable _) hg
    subst h1
    have := structure_ok r m hm10 (fun i => ((wG E i : Nat) : Int)) (tSu_ok r hm hm10 hE) (foG_lt hm10 hE) s
    change GrT _ _ _ _ (vSu (foG E) (suG m E s)) at this
    rw [vSu_eq (foG E) (gvS m E) s _ (fun i => rfl)] at this
    rw [pg_pW (m : Nat) (nbN_len 10 (zE E) E.length)]
    exact this.ro (by simp [roVs, roV, gnd, gnds, pW]) A
  · cases hg

theorem fSt_ok (r : Mem) (hm : Tab r) (m : Nat) (h1 : 1 ≤ m) (hm10 : m ≤ 10) (E : List (Nat × Nat)) (hE : okAll (m : Int) (zE E) E.length = true) (hl : E.length ≤ 1000000) (b off cap : Nat) (hz : rowAt r b off (2 * E.length) (zE E)) (s : Int) :
    GrT Tryd.prog r 19 [I (m : Nat), RS2 b off E.length cap, I s] (.tuple ⟨[vS5 (gvG m E) s, .bool (goG m E s), I (geG s)]⟩) := by
  have hck : ckG (m : Int) (zE E) E.length = 0 := by unfold ckG; rw [if_neg (by omega), if_pos hE]
  have hr := fread_ok r hm (m : Nat) (by omega) b off E.length cap (zE E) hz hl hck
  have hs := eSt_ok r hm hm10 hE
  obtain ⟨a0, a1, a2, a3, a4, a5, a6, a7, a8, a9, _, hp⟩ := pgC10 (m : Nat) (nbN_len 10 (zE E) E.length)
  rw [hp] at hr hs
  refine GrT.of (SC_ok r) (show TOk (SC r) (tFs (m : Nat) (RS2 b off E.length cap) [U a0, U a1, U a2, U a3, U a4, U a5, U a6, U a7, U a8, U a9] (gvS m E) (goS m E)) from TOk.cons (TOk.cons TOk.nil hs) (entV_ok hr rfl)) .nil (by simp [gnd, gnds, vS5]) ⟨1, 3, (fsR r (m : Nat) s (gvS m E) (goS m E) b off E.length cap a0 a1 a2 a3 a4 a5 a6 a7 a8 a9).trans ?_⟩
  have sm : ∀ l : List Value, m_same l l = true := same_rfl
  simp only [sm, cond_true]
  have gd : gnd (.tuple ⟨[vS5 (gvG m E) s, .bool (goG m E s), I (geG s)]⟩) = true := rfl
  unfold vS5 gvG goG geG
  by_cases c : s < 1
  · rw [show inR s = false from by unfold inR; rw [dF (show ¬ 1 ≤ s by omega)]; rfl]
    simp only [dT c, cond_true]
    rfl
  by_cases c' : s > 10
  · rw [show inR s = false from by unfold inR; rw [dF (show ¬ s ≤ 10 by omega)]; simp]
    simp only [dF c, cond_false, dT c', cond_true]
    rfl
  rw [show inR s = true from by unfold inR; rw [dT (show 1 ≤ s by omega), dT (show s ≤ 10 by omega)]; rfl]
  simp only [dF c, cond_false, dF c']
  cases goS m E s <;> rfl
theorem fStN_ok (r : Mem) (hm : Tab r) (m : Nat) (h1 : 1 ≤ m) (hm10 : m ≤ 10) (s : Int) :
    GrT Tryd.prog r 19 [I (m : Nat), .slice none 0 0, I s] (.tuple ⟨[vS5 (gvG m []) s, .bool (goG m [] s), I (geG s)]⟩) := by
  have hr := freadN_ok r m h1 hm10 (zE [])
  have hs := eSt_ok r hm hm10 (E := []) rfl
  obtain ⟨a0, a1, a2, a3, a4, a5, a6, a7, a8, a9, _, hp⟩ := pgC10 (m : Nat) (nbN_len 10 (zE []) 0)
  change EOk _ _ (eSt (pgC (m : Nat) (nbN 10 (zE []) 0)) _ _) at hs
  rw [hp] at hr hs
  refine GrT.of (SC_ok r) (show TOk (SC r) (tFs (m : Nat) (.slice none 0 0) [U a0, U a1, U a2, U a3, U a4, U a5, U a6, U a7, U a8, U a9] (gvS m []) (goS m [])) from TOk.cons (TOk.cons TOk.nil hs) (entV_ok hr rfl)) .nil (by simp [gnd, gnds, vS5]) ⟨1, 3, (fsZ r (m : Nat) s (gvS m []) (goS m []) a0 a1 a2 a3 a4 a5 a6 a7 a8 a9).trans ?_⟩
  generalize ([] : List (Nat × Nat)) = E
  have sm : ∀ l : List Value, m_same l l = true := same_rfl
  simp only [sm, cond_true]
  have gd : gnd (.tuple ⟨[vS5 (gvG m E) s, .bool (goG m E s), I (geG s)]⟩) = true := rfl
  unfold vS5 gvG goG geG
  by_cases c : s < 1
  · rw [show inR s = false from by unfold inR; rw [dF (show ¬ 1 ≤ s by omega)]; rfl]
    simp only [dT c, cond_true]
    rfl
  by_cases c' : s > 10
  · rw [show inR s = false from by unfold inR; rw [dF (show ¬ s ≤ 10 by omega)]; simp]
    simp only [dF c, cond_false, dT c', cond_true]
    rfl
  rw [show inR s = true from by unfold inR; rw [dT (show 1 ≤ s by omega), dT (show s ≤ 10 by omega)]; rfl]
  simp only [dF c, cond_false, dF c']
  cases goS m E s <;> rfl

theorem eS1_ok (r : Mem) (hm : Tab r) {m : Nat} (h1 : 1 ≤ m) (hm10 : m ≤ 10) {E : List (Nat × Nat)} (hE : okAll (m : Int) (zE E) E.length = true) (hl : E.length ≤ 1000000) : EOk (SC r) 19 (eS1 (m : Nat) E.length (pcE E) (gvG m E) (goG m E) geG) := EOk.ent fun args A hg => by
  split at hg
  · rename_i n i k l cap s
    split at hg
    · rename_i c' e f z hget
      have hs := @of_decide_eq_true _ (Classical.propDecidable _) hg
      simp only [List.cons.injEq, Value.int.injEq, Value.slice.injEq, Option.some.injEq, Addr.mk.injEq, Value.agg.injEq, Array.mk.injEq, and_true, true_and] at hs
      obtain ⟨rfl, ⟨rfl, rfl, rfl⟩, rfl⟩ := hs
      refine POk.of (by simp [gnd, gnds, vS5]) fun γ W args' hw hR ha => ?_
      obtain ⟨b, k', p1, p2, p3⟩ := own_mem hw hR hget (okL2_E E hl) rfl rfl ha
      exact ⟨memW W, _, memW_ro W, p1, fSt_ok (memW W) (memW_tab hm hR) m h1 hm10 E hE hl b k' 0 (rowE p2) s⟩
    · cases hg
  · cases hg
theorem eS0_ok (r : Mem) (hm : Tab r) {m : Nat} (h1 : 1 ≤ m) (hm10 : m ≤ 10) : EOk (SC r) 19 (eS0 (m : Nat) (gvG m []) (goG m []) geG) := EOk.ent fun args A hg => by
  split at hg
  · rename_i n s
    have hs := @of_decide_eq_true _ (Classical.propDecidable _) hg
    simp only [List.cons.injEq, Value.int.injEq, and_true, true_and] at hs
    subst hs
    exact (fStN_ok r hm m h1 hm10 s).ro rfl A
  · cases hg
theorem eHo_ok (r : Mem) {m : Nat} (hm10 : m ≤ 10) {E : List (Nat × Nat)} (hE : okAll (m : Int) (zE E) E.length = true) : EOk (SC r) 20 (eHo m (m_ws (nbN m (zE E) E.length)) (goS m E)) := EOk.ent fun args A hg => by
  split at hg
  · rename_i i k l cap s
    split at hg
    · rename_i c' e f z hget
      have hs := @of_decide_eq_true _ (Classical.propDecidable _) hg
      simp only [List.cons.injEq, Value.slice.injEq, Option.some.injEq, Addr.mk.injEq, Value.agg.injEq, Array.mk.injEq, and_true, true_and] at hs
      obtain ⟨⟨rfl, e1, e2⟩, e3⟩ := hs
      subst e1 e2 e3
      refine POk.of rfl fun γ W args' hw hR ha => ?_
      obtain ⟨b, k', p1, p2⟩ := own_ws hw hR (by omega) (nbN_len _ (zE E) E.length) hget rfl ha
      have h3 := okAll_at hE
      have hlt := nbN_lt cap (zE E) (n := (cap : Int)) (by omega) E.length fun i hi => h3 i hi
      have := rhas_ok (memW W) b k' cap 0 hm10 (fun k => (nbN cap (zE E) E.length).getD k 0) p2 (fun k _ => getD_lt hlt k) s
      refine ⟨memW W, _, memW_ro W, p1, ?_⟩
      show GrT _ _ _ _ (.bool (goS cap E s))
      have e := su_has (w := wG E) (w' := fun k => (nbN cap (zE E) E.length).getD k 0) hm10 (nbsG hm10 hE) (fun i hi => nb_ext hm10 (zE E) E.length (fun i hi => h3 i hi) i hi) s
      rw [show goS cap E s = _ from e]
      exact this
    · cases hg
  · cases hg
theorem stF_su {m : Nat} (hm10 : m ≤ 10) {E : List (Nat × Nat)} (hE : okAll (m : Int) (zE E) E.length = true) (s : Int) (h : goS m E s = true) : stF m E s (gvS m E 0 s) (gvS m E 1 s) (gvS m E 2 s) (gvS m E 3 s) (gvS m E 4 s) = true := by
  obtain ⟨⟨x, a, c⟩, ht⟩ := Option.isSome_iff_exists.1 h
  have := su_is hm10 (nbsG hm10 hE) ht
  unfold stF gvS
  rw [ht]
  exact this

def kS1 (m : Nat) (p : Nat × Nat) (l : List (Nat × Nat)) (i : Nat) : OV → List Nat → OO → Prop := fun vs ms os => ∃ set : Int, vs = vL1 m (l.length + 1) set (i : Nat) ∧ ms = [] ∧ os = oL1 (pcE (p :: l)) (m_ws (nbN m (zE (p :: l)) (p :: l).length))
theorem sto1 (r : Mem) (hm : Tab r) (m : Nat) (h1 : 1 ≤ m) (hm10 : m ≤ 10) (p : Nat × Nat) (l : List (Nat × Nat)) (hE : okAll (m : Int) (zE (p :: l)) ((p :: l)).length = true) (a0 args : List Value) (hle : Nat.ble args.length 84 = true)
    (htm : TOk (SC r) (tFl1 a0 m (l.length + 1) (pcE (p :: l)) (m_ws (nbN m (zE (p :: l)) (p :: l).length)) (gvG m (p :: l)) (goG m (p :: l)) geG (goS m (p :: l)) (stF m (p :: l))))
    (hpre : run (SC r) 8135 84 1 (.seq Fl_0 (.seq Fl_1 (.seq Fl_2 Fl_3))) (lvlT (SC r) (tFl1 a0 m (l.length + 1) (pcE (p :: l)) (m_ws (nbN m (zE (p :: l)) (p :: l).length)) (gvG m (p :: l)) (goG m (p :: l)) geG (goS m (p :: l)) (stF m (p :: l))) .nil 1 1) none (Outs.ask 0 ⟨lvFl, [], fun vs ms os => ∃ j i : Nat, i ≤ 2 ∧ j = 2 - i ∧ kS1 m p l i vs ms os⟩) (fun _ => Outs.no.ask 0) (oTrue.ask 0) (sc0 8135 args) (tr0 8135 args) [] emptyA = okR) :
    SOk (SC r) 5 args emptyA fun v _ => v = .bool true := by
  have sm : ∀ l : List Value, m_same l l = true := same_rfl
  refine callL (SC_ok r) (by kernel_rfl) ((bodySC r _).trans Fl_eq) (nt := 84) (by kernel_rfl) (rs := [.tmp 6]) (by kernel_rfl) 8135 hle (.step (.step (.step .base))) htm (tm := .nil) (L := 1) (d := 1) lvFl []
    (fun j vs ms os => ∃ i : Nat, i ≤ 2 ∧ j = 2 - i ∧ kS1 m p l i vs ms os) ⟨[], [], fun vs ms os => vs = [] ∧ ms = [] ∧ os = []⟩ oTrue hpre ?_ ?_ ?_
  · rintro j vs ms os ⟨i, hi, rfl, set, rfl, rfl, rfl⟩
    refine ⟨_, htm, .nil, 6, 6, 1, ?_⟩
    have hn := gr1 r a0 i set m (l.length + 1) (pcE (p :: l)) (m_ws (nbN m (zE (p :: l)) (p :: l).length)) (gvG m (p :: l)) (goG m (p :: l)) geG (goS m (p :: l)) (stF m (p :: l))
    by_cases c : i < 2
    · have e3 : IntKind.wrap IntKind.i64 ((i : Int) + Int.ofNat 1) = ((i + 1 : Nat) : Int) := by rw [wrI (by simp; omega)]; simp
      have hQ : ∀ x : Int, ∃ j', j' < 2 - i ∧ ∃ i' : Nat, i' ≤ 2 ∧ j' = 2 - i' ∧ kS1 m p l i' (vL1 m (l.length + 1) x ((i + 1 : Nat) : Int)) [] (oL1 (pcE (p :: l)) (m_ws (nbN m (zE (p :: l)) (p :: l).length))) := fun x => ⟨2 - (i + 1), by omega, i + 1, by omega, rfl, x, rfl, rfl, rfl⟩
      simp only [dT (show (i : Int) < 2 by omega), sm, pcE_nn, ws_nn, Bool.and_true, cond_true, e3] at hn
      have ez : ((0 : Int) == Int.ofNat 0) = true := rfl
      by_cases a1 : set < 1
      · have q1 : inR set = false := by unfold inR; rw [dF (show ¬ 1 ≤ set by omega)]; rfl
        have q2 : goG m (p :: l) set = false := by unfold goG; rw [q1]; rfl
        have q3 : (geG set != Int.ofNat 1) = false := by unfold geG; rw [q1]; rfl
        have q4 : ∀ i, gvG m (p :: l) i set = 0 := fun i => by unfold gvG; rw [q1]; rfl
        simp only [dT a1, q2, q3, q4, ez, Bool.and_self, Bool.not_true, cond_true, cond_false] at hn
        exact (hn _ _ _).trans (qq_ok (hQ _))
      · by_cases a2 : set > 10
        · have q1 : inR set = false := by unfold inR; rw [dF (show ¬ set ≤ 10 by omega)]; simp
          have q2 : goG m (p :: l) set = false := by unfold goG; rw [q1]; rfl
          have q3 : (geG set != Int.ofNat 1) = false := by unfold geG; rw [q1]; rfl
          have q4 : ∀ i, gvG m (p :: l) i set = 0 := fun i => by unfold gvG; rw [q1]; rfl
          simp only [dF a1, dT a2, q2, q3, q4, ez, Bool.and_self, Bool.not_true, cond_true, cond_false] at hn
          exact (hn _ _ _).trans (qq_ok (hQ _))
        · have q1 : inR set = true := by unfold inR; rw [dT (show 1 ≤ set by omega), dT (show set ≤ 10 by omega)]; rfl
          have q3 : (geG set != Int.ofNat 0) = false := by unfold geG; rw [q1]; rfl
          have q2 : goG m (p :: l) set = goS m (p :: l) set := by unfold goG; rw [q1]; rfl
          have q4 : ∀ i, gvG m (p :: l) i set = gvS m (p :: l) i set := fun i => by unfold gvG; rw [q1]; rfl
          simp only [dF a1, dF a2, q2, q3, q4, cond_true, cond_false] at hn
          cases q5 : goS m (p :: l) set with
          | true =>
            have q6 := stF_su hm10 hE set q5
            simp only [q5, q6, cond_true] at hn
            exact (hn _ _ _).trans (qq_ok (hQ _))
          | false =>
            have q6 : ∀ i, gvS m (p :: l) i set = 0 := fun i => by
              have : suG m (p :: l) set = none := Option.isNone_iff_eq_none.1 (by unfold goS at q5; cases h : suG m (p :: l) set with
                | none => rfl
                | some t => rw [h] at q5; cases q5)
              unfold gvS
              rw [this]
              rfl
            simp only [q5, q6, ez, Bool.and_self, Bool.not_true, cond_false] at hn
            exact (hn _ _ _).trans (qq_ok (hQ _))
    · simp only [dF (show ¬ (i : Int) < 2 by omega), cond_false] at hn
      exact (hn _ _ _).trans (qq_ok ⟨rfl, rfl, rfl⟩)
  · rintro vs ms os ⟨rfl, rfl, rfl⟩
    exact ⟨_, TOk.cons TOk.nil (e0_ok (awake8.less hm)), .nil, 1, 1, 1, (gsZ r _ _ _).trans (qq_ok ⟨rfl, rfl, rfl⟩)⟩
  · rintro vs ms os ⟨rfl, rfl, rfl⟩
    exact ⟨_, mkA [], by kernel_rfl, rfl⟩

def kS0 (m : Nat)  (i : Nat) : OV → List Nat → OO → Prop := fun vs ms os => ∃ set : Int, vs = vL0 m set (i : Nat) ∧ ms = [] ∧ os = oL0 (m_ws (nbN m (zE []) 0))
theorem sto0 (r : Mem) (hm : Tab r) (m : Nat) (h1 : 1 ≤ m) (hm10 : m ≤ 10)  (hE : okAll (m : Int) (zE ([] : List (Nat × Nat))) (([] : List (Nat × Nat))).length = true) (a0 args : List Value) (hle : Nat.ble args.length 84 = true)
    (htm : TOk (SC r) (tFl0 a0 m (m_ws (nbN m (zE []) 0)) (gvG m []) (goG m []) geG (goS m []) (stF m [])))
    (hpre : run (SC r) 8135 84 1 (.seq Fl_0 (.seq Fl_1 (.seq Fl_2 Fl_3))) (lvlT (SC r) (tFl0 a0 m (m_ws (nbN m (zE []) 0)) (gvG m []) (goG m []) geG (goS m []) (stF m [])) .nil 1 1) none (Outs.ask 0 ⟨lvFl, [], fun vs ms os => ∃ j i : Nat, i ≤ 2 ∧ j = 2 - i ∧ kS0 m i vs ms os⟩) (fun _ => Outs.no.ask 0) (oTrue.ask 0) (sc0 8135 args) (tr0 8135 args) [] emptyA = okR) :
    SOk (SC r) 5 args emptyA fun v _ => v = .bool true := by
  have sm : ∀ l : List Value, m_same l l = true := same_rfl
  refine callL (SC_ok r) (by kernel_rfl) ((bodySC r _).trans Fl_eq) (nt := 84) (by kernel_rfl) (rs := [.tmp 6]) (by kernel_rfl) 8135 hle (.step (.step (.step .base))) htm (tm := .nil) (L := 1) (d := 1) lvFl []
    (fun j vs ms os => ∃ i : Nat, i ≤ 2 ∧ j = 2 - i ∧ kS0 m i vs ms os) ⟨[], [], fun vs ms os => vs = [] ∧ ms = [] ∧ os = []⟩ oTrue hpre ?_ ?_ ?_
  · rintro j vs ms os ⟨i, hi, rfl, set, rfl, rfl, rfl⟩
    refine ⟨_, htm, .nil, 6, 6, 1, ?_⟩
    have hn := gr0 r a0 i set m (m_ws (nbN m (zE []) 0)) (gvG m ([] : List (Nat × Nat))) (goG m ([] : List (Nat × Nat))) geG (goS m ([] : List (Nat × Nat))) (stF m ([] : List (Nat × Nat)))
    by_cases c : i < 2
    · have e3 : IntKind.wrap IntKind.i64 ((i : Int) + Int.ofNat 1) = ((i + 1 : Nat) : Int) := by rw [wrI (by simp; omega)]; simp
      have hQ : ∀ x : Int, ∃ j', j' < 2 - i ∧ ∃ i' : Nat, i' ≤ 2 ∧ j' = 2 - i' ∧ kS0 m i' (vL0 m x ((i + 1 : Nat) : Int)) [] (oL0 (m_ws (nbN m (zE []) 0))) := fun x => ⟨2 - (i + 1), by omega, i + 1, by omega, rfl, x, rfl, rfl, rfl⟩
      simp only [dT (show (i : Int) < 2 by omega), sm, nn5, ws_nn, Bool.and_true, cond_true, e3] at hn
      have ez : ((0 : Int) == Int.ofNat 0) = true := rfl
      by_cases a1 : set < 1
      · have q1 : inR set = false := by unfold inR; rw [dF (show ¬ 1 ≤ set by omega)]; rfl
        have q2 : goG m ([] : List (Nat × Nat)) set = false := by unfold goG; rw [q1]; rfl
        have q3 : (geG set != Int.ofNat 1) = false := by unfold geG; rw [q1]; rfl
        have q4 : ∀ i, gvG m ([] : List (Nat × Nat)) i set = 0 := fun i => by unfold gvG; rw [q1]; rfl
        simp only [dT a1, q2, q3, q4, ez, Bool.and_self, Bool.not_true, cond_true, cond_false] at hn
        exact (hn _ _ _).trans (qq_ok (hQ _))
      · by_cases a2 : set > 10
        · have q1 : inR set = false := by unfold inR; rw [dF (show ¬ set ≤ 10 by omega)]; simp
          have q2 : goG m ([] : List (Nat × Nat)) set = false := by unfold goG; rw [q1]; rfl
          have q3 : (geG set != Int.ofNat 1) = false := by unfold geG; rw [q1]; rfl
          have q4 : ∀ i, gvG m ([] : List (Nat × Nat)) i set = 0 := fun i => by unfold gvG; rw [q1]; rfl
          simp only [dF a1, dT a2, q2, q3, q4, ez, Bool.and_self, Bool.not_true, cond_true, cond_false] at hn
          exact (hn _ _ _).trans (qq_ok (hQ _))
        · have q1 : inR set = true := by unfold inR; rw [dT (show 1 ≤ set by omega), dT (show set ≤ 10 by omega)]; rfl
          have q3 : (geG set != Int.ofNat 0) = false := by unfold geG; rw [q1]; rfl
          have q2 : goG m ([] : List (Nat × Nat)) set = goS m ([] : List (Nat × Nat)) set := by unfold goG; rw [q1]; rfl
          have q4 : ∀ i, gvG m ([] : List (Nat × Nat)) i set = gvS m ([] : List (Nat × Nat)) i set := fun i => by unfold gvG; rw [q1]; rfl
          simp only [dF a1, dF a2, q2, q3, q4, cond_true, cond_false] at hn
          cases q5 : goS m ([] : List (Nat × Nat)) set with
          | true =>
            have q6 := stF_su hm10 hE set q5
            simp only [q5, q6, cond_true] at hn
            exact (hn _ _ _).trans (qq_ok (hQ _))
          | false =>
            have q6 : ∀ i, gvS m ([] : List (Nat × Nat)) i set = 0 := fun i => by
              have : suG m ([] : List (Nat × Nat)) set = none := Option.isNone_iff_eq_none.1 (by unfold goS at q5; cases h : suG m ([] : List (Nat × Nat)) set with
                | none => rfl
                | some t => rw [h] at q5; cases q5)
              unfold gvS
              rw [this]
              rfl
            simp only [q5, q6, ez, Bool.and_self, Bool.not_true, cond_false] at hn
            exact (hn _ _ _).trans (qq_ok (hQ _))
    · simp only [dF (show ¬ (i : Int) < 2 by omega), cond_false] at hn
      exact (hn _ _ _).trans (qq_ok ⟨rfl, rfl, rfl⟩)
  · rintro vs ms os ⟨rfl, rfl, rfl⟩
    exact ⟨_, TOk.cons TOk.nil (e0_ok (awake8.less hm)), .nil, 1, 1, 1, (gsZ r _ _ _).trans (qq_ok ⟨rfl, rfl, rfl⟩)⟩
  · rintro vs ms os ⟨rfl, rfl, rfl⟩
    exact ⟨_, mkA [], by kernel_rfl, rfl⟩

theorem structuresR (r : Mem) (hm : Tab r) (n set : Int) (b off len cap : Nat) (z : Nat → Int) (hz : rowAt r b off (2 * len) z) : GrT Tryd.prog r 5 [I n, RS2 b off len cap, I set] (.bool true) := by
  have sm : ∀ l : List Value, m_same l l = true := same_rfl
  have hg := gM_ok n (most := 8) (by decide) (by decide)
  have ht := tame_row r n 8 (by decide) (by decide) b off len cap z hz
  have hE := gE_ok n 8 len z
  have hL := gE_len n 8 len z (by decide) (by decide)
  generalize gE n 8 len z = E at ht hE hL
  generalize gM n 8 = m at ht hE hg
  have h1 := hg.1
  have hm10 : m ≤ 10 := by omega
  cases E with
  | nil =>
    refine GrT.ofS (C := SC r) rfl rfl rfl (sto0 r hm m h1 hm10 rfl [I n, RS2 b off len cap, I 8] _ rfl (TOk.cons (TOk.cons (TOk.cons (TOk.cons (TOk.cons (TOk.cons TOk.nil (eRI_ok r hm10 (E := []) rfl)) (eHo_ok r hm10 (E := []) rfl)) (eS0_ok r hm h1 hm10)) (eOf0_ok r h1 hm10)) (entV_ok (tm0_ok r ht) rfl)) (e0_ok (awake8.less hm))) ?_)
    have hn := gqR0 r n set b off len cap m (m_ws (nbN m (zE []) 0)) (gvG m []) (goG m []) geG (goS m []) (stF m [])
    simp only [sm, ws_nn, Bool.and_true, cond_true] at hn
    exact (hn _ _ _).trans (qq_ok ⟨2, 0, by omega, rfl, set, rfl, rfl, rfl⟩)
  | cons p l =>
    refine GrT.ofS (C := SC r) rfl rfl rfl (sto1 r hm m h1 hm10 p l hE [I n, RS2 b off len cap, I 8] _ rfl (TOk.cons (TOk.cons (TOk.cons (TOk.cons (TOk.cons (TOk.cons TOk.nil (eRI_ok r hm10 hE)) (eHo_ok r hm10 hE)) (eS1_ok r hm h1 hm10 hE hL)) (eOf1_ok r h1 hm10 hE hL)) (eTm1_ok r rfl ht)) (e0_ok (awake8.less hm))) ?_)
    have hn := gqR1 r n set b off len cap m (l.length + 1) (pcE (p :: l)) (m_ws (nbN m (zE (p :: l)) (p :: l).length)) (gvG m (p :: l)) (goG m (p :: l)) geG (goS m (p :: l)) (stF m (p :: l))
    simp only [sm, pcE_nn, ws_nn, Bool.and_true, cond_true] at hn
    exact (hn _ _ _).trans (qq_ok ⟨2, 0, by omega, rfl, set, rfl, rfl, rfl⟩)
theorem structuresN (r : Mem) (hm : Tab r) (n set : Int) : GrT Tryd.prog r 5 [I n, .slice none 0 0, I set] (.bool true) := by
  have sm : ∀ l : List Value, m_same l l = true := same_rfl
  have hg := gM_ok n (most := 8) (by decide) (by decide)
  have ht := tame_nil r n 8 (by decide) (by decide) fun _ => 0
  have hE := gE_ok n 8 0 (fun _ => 0)
  have hL := gE_len n 8 0 (fun _ => 0) (by decide) (by decide)
  generalize gE n 8 0 (fun _ => 0) = E at ht hE hL
  generalize gM n 8 = m at ht hE hg
  have h1 := hg.1
  have hm10 : m ≤ 10 := by omega
  cases E with
  | nil =>
    refine GrT.ofS (C := SC r) rfl rfl rfl (sto0 r hm m h1 hm10 rfl [I n, .slice none 0 0, I 8] _ rfl (TOk.cons (TOk.cons (TOk.cons (TOk.cons (TOk.cons (TOk.cons TOk.nil (eRI_ok r hm10 (E := []) rfl)) (eHo_ok r hm10 (E := []) rfl)) (eS0_ok r hm h1 hm10)) (eOf0_ok r h1 hm10)) (entV_ok (tm0_ok r ht) rfl)) (e0_ok (awake8.less hm))) ?_)
    have hn := gqN0 r n set m (m_ws (nbN m (zE []) 0)) (gvG m []) (goG m []) geG (goS m []) (stF m [])
    simp only [sm, ws_nn, Bool.and_true, cond_true] at hn
    exact (hn _ _ _).trans (qq_ok ⟨2, 0, by omega, rfl, set, rfl, rfl, rfl⟩)
  | cons p l =>
    refine GrT.ofS (C := SC r) rfl rfl rfl (sto1 r hm m h1 hm10 p l hE [I n, .slice none 0 0, I 8] _ rfl (TOk.cons (TOk.cons (TOk.cons (TOk.cons (TOk.cons (TOk.cons TOk.nil (eRI_ok r hm10 hE)) (eHo_ok r hm10 hE)) (eS1_ok r hm h1 hm10 hE hL)) (eOf1_ok r h1 hm10 hE hL)) (eTm1_ok r rfl ht)) (e0_ok (awake8.less hm))) ?_)
    have hn := gqN1 r n set m (l.length + 1) (pcE (p :: l)) (m_ws (nbN m (zE (p :: l)) (p :: l).length)) (gvG m (p :: l)) (goG m (p :: l)) geG (goS m (p :: l)) (stF m (p :: l))
    simp only [sm, pcE_nn, ws_nn, Bool.and_true, cond_true] at hn
    exact (hn _ _ _).trans (qq_ok ⟨2, 0, by omega, rfl, set, rfl, rfl, rfl⟩)

theorem law_structures (r : Mem) (hm : ∀ b j u, tabM b j = some u → r b j = some u) (u0 u1 u2 : Value) (s0 : ArgInt .i64 u0) (s1 : ArgRowT r 2 (ArgInt .i64) u1) (s2 : ArgInt .i64 u2) : GrT Tryd.prog r 5 [u0, u1, u2] (.bool true) := by
  obtain ⟨n, rfl, _⟩ := s0
  obtain ⟨set, rfl, _⟩ := s2
  cases s1 with
  | nil => exact structuresN r hm n set
  | row b off len cap hl hc h =>
    refine structuresR r hm n set b off len cap (fun j => ofI ((r b (off + j)).getD undef)) fun j hj => ?_
    obtain ⟨u, hu, z, rfl, _⟩ := h j (by omega)
    show r b (off + j) = some (I (ofI ((r b (off + j)).getD undef)))
    rw [hu]
    rfl

end Go.Proofs

