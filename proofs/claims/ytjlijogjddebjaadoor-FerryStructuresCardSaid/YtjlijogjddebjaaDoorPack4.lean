/- What the claim is proved with, part 4: the evaluator and the contracts of the calls. -/
import Derived.Test.YtjlijogjddebjaaDoorPack3
import Derived.Test.YtjlijogjddebjaaDoorEvRd
import Derived.Test.YtjlijogjddebjaaDoorPack1
import Derived.Test.YtjlijogjddebjaaDoorEvOwn
import Derived.Test.YtjlijogjddebjaaDoorPack2
/- The search for a structure: what the call answers. -/
namespace Go.Proofs
open Go Go.Ev Go.Num
set_option linter.unusedVariables false
set_option linter.unusedSimpArgs false
set_option maxRecDepth 100000

noncomputable def e19 (n : Int) (w : Nat → Int) (seats A x y : Int) (fo : Nat → Nat) : Option T3 → OO
  | none => z19 n w seats A x y .ready .ready
  | some t => s19 n w seats A x y fo .done (some (.exit 0)) .done (some .ret) t
theorem cn19z (n : Int) (w : Nat → Int) (seats A x y : Int) : Cn (mkA (z19 n w seats A x y .ready .ready)).next fl19 (mkA (z19 n w seats A x y .ready .ready)) (z19 n w seats A x y .ready .ready) := ⟨by kernel_rfl, by kernel_rfl⟩
theorem cn19s (n : Int) (w : Nat → Int) (seats A x y f0 f1 f2 f3 f4 : Int) : Cn (mkA (z19 n w seats A x y .ready .ready)).next fl19 (mkA (o19 n w seats A x y f0 f1 f2 f3 f4 true .done (some (.exit 0)) .done (some .ret))) (o19 n w seats A x y f0 f1 f2 f3 f4 true .done (some (.exit 0)) .done (some .ret)) := ⟨by kernel_rfl, by kernel_rfl⟩
theorem end18z (n : Int) (w : Nat → Int) (seats A x y : Int) : endR 18 none (St.of [] [] [] (z19 n w seats A x y .ready .busy)) = .ret (.bool true) (mkA (z19 n w seats A x y .ready .ready)) := by kernel_rfl
theorem end18s (n : Int) (w : Nat → Int) (seats A x y f0 f1 f2 f3 f4 : Int) : endR 18 (some .ret) (St.of [] [] [] (o19 n w seats A x y f0 f1 f2 f3 f4 true .done (some (.exit 0)) .busy none)) = .ret (.bool false) (mkA (o19 n w seats A x y f0 f1 f2 f3 f4 true .done (some (.exit 0)) .done (some .ret))) := by kernel_rfl

theorem y18 {r : Mem} {n : Int} {w : Nat → Int} {q : Nat → Bool} {fo : Nat → Nat} (ht : TOk (SC r) (tSN n w q fo)) (hfo : ∀ s, fo s < 65536) (seats A : Int) {x y t : Nat} (hx : x < 1024) (hy : y < 1024) (hts : t &&& y = t) (hI : fnd (p1N q fo x y) t = none) :
    YOk (SC r) 18 [U (t : Nat)] (mkA (z19 n w seats A x y .ready .ready)) fun v A' => (∃ e f z, A'.heap.get 16 = some (.cells [U (y : Nat)] e f z)) ∧ ∃ os', Cn (mkA (z19 n w seats A x y .ready .ready)).next fl19 A' os' ∧
      ((v = .bool true ∧ (t = y → os' = e19 n w seats A x y fo (fnd (p1N q fo x y) (y + 1))) ∧ (t ≠ y → fnd (p1N q fo x y) (nxN y t) = none ∧ os' = z19 n w seats A x y .ready .ready)) ∨ (v = .bool false ∧ os' = e19 n w seats A x y fo (fnd (p1N q fo x y) (y + 1)))) := by
  have hle : t ≤ y := by rw [← hts]; exact Nat.and_le_right
  have hnx : (mkA (z19 n w seats A x y .ready .ready)).next = 19 := by kernel_rfl
  refine YOk.of (SC_ok r) (i := 18) (st := .ready) (pend := none) (m := 223) (n := 21) (en := ⟨[], bT lvq (vq 13 15 16) .nil⟩) (params := #[7]) (assign := k_q1) (body := k_q2) (d := 17) (by kernel_rfl) (s0 := []) (b0 := bT (lvq ++ [7]) (vq 13 15 16 ++ [some (U (t : Nat))]) .nil) (by kernel_rfl) ht (tm := .nil) (L := 1) (L' := 1) (d' := 1)
    ⟨[2, 3, 4], fl19, fun vs ms os => vs = [some (P0 13), some (P0 15), some (U (t : Nat))] ∧ ms = [] ∧ os = z19 n w seats A x y .ready .busy⟩
    ⟨[], fl19, fun vs ms os => p1N q fo x y t = none ∧ vs = [] ∧ ms = [] ∧ os = z19 n w seats A x y .ready .busy⟩
    (fun _ => Outs.no)
    ⟨[], fl19, fun vs ms os => ∃ s, p1N q fo x y t = some s ∧ vs = [] ∧ ms = [] ∧ os = s19 n w seats A x y fo .done (some (.exit 0)) .busy none s⟩ ?_ ?_ ?_ ?_ ?_
  · rw [hnx]
    exact (sq2B r n w seats A x y t _ _ _ _).trans (qq_ok ⟨rfl, rfl, rfl⟩)
  · rintro F k γ W hF hro h0 vs ms os ⟨rfl, rfl, rfl⟩
    rw [hnx] at h0
    rw [Qb_eq]
    have sm : ∀ l : List Value, m_same l l = true := same_rfl
    have w10 : ∀ a : Nat, a < 1024 → m_w10 ((a : Nat) : Int) = true := fun a h => decide_eq_true ⟨by omega, by omega⟩
    refine Go.Ev.Reach.blockC ?_
    by_cases c : t ≠ 0 ∧ q t = true
    · obtain ⟨c0, hq⟩ := c
      have e : (((t : Nat) : Int) != Int.ofNat 0) = true := by simp; omega
      have hP : p1N q fo x y t = fnd (p2N q fo x y t) (y + 1) := if_pos ⟨hts, c0, hq⟩
      rw [hP]
      refine Go.Ev.Reach.mono (Go.Ev.Reach.first (kn := Outs.ask 19 _) (kx := Outs.ats 19 []) (kr := Outs.ask 19 _) (SC_ok r) ht (tm := .nil) (L := 1) (L' := 1) (d := 1) hF hro (.seq .here) (Go.Ev.Reach.yieldK (SC_ok r) hF ht (tm := .nil) (L := 1) (d := 1) (ms1 := []) 10 ?_ (sq2E r n w seats A x y t) (y14 ht hfo seats A hx hy (by omega)) fun v A' hS => ?_)) fun ex st hq => Post.can h0 [] (fun p hp => nomatch hp) hq
      · have hn := sq2D r n w seats A x y t (fun s => q s.toNat) fun s => (fo s.toNat : Nat)
        simp only [e, sm, w10 t (by omega), Int.toNat_natCast, hq, Bool.true_and, cond_true] at hn
        exact (hn _).trans (qn_ok rfl)
      · generalize fnd (p2N q fo x y t) (y + 1) = o at hS ⊢
        cases o with
        | none =>
          obtain ⟨rfl, rfl⟩ := hS
          exact (sq2F r n w seats A x y t (fun s => q s.toNat) (fun s => (fo s.toNat : Nat)) _ _ _).trans (qq_ok ⟨rfl, rfl, rfl, rfl⟩)
        | some s =>
          obtain ⟨rfl, rfl⟩ := hS
          exact (sq2G r n w seats A x y t _ _ _ _ _ (fun s => q s.toNat) (fun s => (fo s.toNat : Nat)) _ _ _).trans (qq_ok ⟨s, rfl, rfl, rfl, rfl⟩)
    · have hP : p1N q fo x y t = none := if_neg fun h => c h.2
      rw [hP]
      refine Go.Ev.Reach.segR (SC_ok r) ht (tm := .nil) (L := 1) (L' := 1) (d := 0) hF hro h0 [] (fun p hp => nomatch hp) ?_
      have hn := sq2C r n w seats A x y t (fun s => q s.toNat) fun s => (fo s.toNat : Nat)
      simp only [sm, w10 t (by omega), Int.toNat_natCast, Bool.true_and, cond_true] at hn
      by_cases c0 : t = 0
      · have e : (((t : Nat) : Int) != Int.ofNat 0) = false := by simp [c0]
        simp only [e, cond_false] at hn
        exact (hn _ _ _).trans (qq_ok ⟨rfl, rfl, rfl, rfl⟩)
      · have e : (((t : Nat) : Int) != Int.ofNat 0) = true := by simp; omega
        have hq : q t = false := by
          cases hq : q t with
          | false => rfl
          | true => exact absurd ⟨c0, hq⟩ c
        simp only [e, hq, cond_true, cond_false] at hn
        exact (hn _ _ _).trans (qq_ok ⟨rfl, rfl, rfl, rfl⟩)
  · rintro vs ms os ⟨hP, rfl, rfl, rfl⟩
    obtain ⟨h1, h2⟩ := fnd_next (by omega) hts (fun k hk => p1_out hk) hI hP
    exact ⟨_, _, end18z n w seats A x y, ⟨51, 16, 0, by kernel_rfl⟩, _, cn19z n w seats A x y, .inl ⟨rfl, fun e => by rw [h1 e]; rfl, fun e => ⟨h2 e, rfl⟩⟩⟩
  · rintro id vs ms os hf
    exact hf.elim
  · rintro vs ms os ⟨s, hP, rfl, rfl, rfl⟩
    refine ⟨_, _, end18s n w seats A x y _ _ _ _ _, ⟨51, 16, 0, by kernel_rfl⟩, _, cn19s n w seats A x y _ _ _ _ _, .inr ⟨rfl, ?_⟩⟩
    rw [fnd_some hI hP (y + 1) (by omega)]
    rfl

noncomputable def z15 (n : Int) (w : Nat → Int) (seats A x y : Int) : OO := o15 n w seats A x y 0 0 0 0 0 false .ready none
noncomputable def e15 (n : Int) (w : Nat → Int) (seats A x y : Int) (fo : Nat → Nat) : Option T3 → OO
  | none => z15 n w seats A x y
  | some (a, b, c) => o15 n w seats A x y (x1N fo a b : Nat) (x2N fo a b c : Nat) (x3N fo a b c : Nat) (b : Nat) (c : Nat) true .done (some (.exit 0))

theorem quiet2 {r : Mem} {n : Int} {w : Nat → Int} {q : Nat → Bool} {fo : Nat → Nat} (ht : TOk (SC r) (tSN n w q fo)) (hfo : ∀ s, fo s < 65536) (seats A : Int) {x y : Nat} (hx : x < 1024) (hy : y < 1024) :
    SOk (SC r) 54 [fY 14, P0 12, P0 13] (mkA (z15 n w seats A x y)) fun v A' => A' = mkA (e15 n w seats A x y fo (fnd (p1N q fo x y) (y + 1))) := by
  have hnx : (mkA (z15 n w seats A x y)).next = 15 := by kernel_rfl
  refine callO (SC_ok r) (by kernel_rfl) ((bodySC r _).trans Qh_eq) (nt := 21) (by kernel_rfl) (rs := []) (by kernel_rfl) 223 rfl ⟨[], fl15, fun vs ms os => vs = [] ∧ ms = [] ∧ os = e15 n w seats A x y fo (fnd (p1N q fo x y) (y + 1))⟩ ?_ fun γ W F k hw hF hro h0 => ?_
  · rintro vs ms os ⟨rfl, rfl, rfl⟩
    exact ⟨_, _, fin0 r _, rfl⟩
  · rw [hnx] at h0
    refine Go.Ev.Reach.afterR (SC_ok r) TOk.nil (tm := .nil) (L := 1) (L' := 1) (d := 3) hF hro h0 (.step .base) (o1 := ⟨lvq, fl15 ++ [.t, .t], fun vs ms os => vs = vq 13 15 16 ∧ ms = [] ∧ os = z15 n w seats A x y ++ [oY 14 15, oG y 16]⟩) [] (fun p hp => nomatch hp) ?_ ((sq2A r n w seats A x y _ _ _).trans (qq_ok ⟨rfl, rfl, rfl⟩))
    rintro vs ms os ⟨rfl, rfl, rfl⟩
    have hl : ((mkA (z15 n w seats A x y ++ [oY 14 15, oG y 16])).new .defd).next = 18 := by kernel_rfl
    refine Go.Ev.Reach.blockC (Go.Ev.Reach.rangeC (SC_ok r) hF hro h0 (d := 17) (marks := [17]) (A1 := (mkA (z15 n w seats A x y ++ [oY 14 15, oG y 16])).new .defd) (g := 49) (first := []) (captured := [P0 16]) (S := fun v A' => ∃ os, A' = mkA os ∧ os = e19 n w seats A x y fo (fnd (p1N q fo x y) (y + 1))) [] (fun p hp => nomatch hp) (by kernel_rfl) (by kernel_rfl) (by kernel_rfl) ?_ ?_)
    · have hA : ((mkA (z15 n w seats A x y ++ [oY 14 15, oG y 16])).new .defd).new (.loop .ready none 223 ⟨[], bT lvq (vq 13 15 16) .nil⟩ 21 #[7] k_q1 k_q2 17) = mkA (z19 n w seats A x y .ready .ready) := by kernel_rfl
      rw [hA, hl]
      exact groups_iter r (l := 18) (p := 16) (fl := fl19) (s := y) (by omega) (I := fun t os => fnd (p1N q fo x y) t = none ∧ os = z19 n w seats A x y .ready .ready) (E := fun os => os = e19 n w seats A x y fo (fnd (p1N q fo x y) (y + 1))) (os0 := z19 n w seats A x y .ready .ready)
        (fun t os hts ⟨hI, ho⟩ => by subst ho; exact y18 ht hfo seats A hx hy hts hI) ⟨rfl, rfl⟩ (by kernel_rfl) (by kernel_rfl)
    · rintro v A' ⟨os, rfl, rfl⟩
      rw [hl]
      cases fnd (p1N q fo x y) (y + 1) with
      | none => exact (sq2T r n w seats A x y _ _ _).trans (qq_ok ⟨rfl, rfl, rfl⟩)
      | some t => exact (sq2U r n w seats A x y _ _ _ _ _ _ _ _).trans (qq_ok ⟨rfl, rfl, rfl⟩)

noncomputable def z10 (n : Int) (w : Nat → Int) (seats A : Int) (st : LoopState) : OO := oS10 n w seats A 0 0 0 0 0 false st none
noncomputable def s10 (n : Int) (w : Nat → Int) (seats A : Int) (fo : Nat → Nat) (st : LoopState) (pend : Option Code) : T3 → OO
  | (a, b, c) => oS10 n w seats A (x1N fo a b : Nat) (x2N fo a b c : Nat) (x3N fo a b c : Nat) (b : Nat) (c : Nat) true st pend
noncomputable def e10 (n : Int) (w : Nat → Int) (seats A : Int) (fo : Nat → Nat) : Option T3 → OO
  | none => z10 n w seats A .ready
  | some t => s10 n w seats A fo .done (some (.exit 0)) t
theorem cn10z (n : Int) (w : Nat → Int) (seats A : Int) : Cn (mkA (z10 n w seats A .ready)).next fl10 (mkA (z10 n w seats A .ready)) (z10 n w seats A .ready) := ⟨by kernel_rfl, by kernel_rfl⟩
theorem cn10s (n : Int) (w : Nat → Int) (seats A f0 f1 f2 f3 f4 : Int) : Cn (mkA (z10 n w seats A .ready)).next fl10 (mkA (oS10 n w seats A f0 f1 f2 f3 f4 true .done (some (.exit 0)))) (oS10 n w seats A f0 f1 f2 f3 f4 true .done (some (.exit 0))) := ⟨by kernel_rfl, by kernel_rfl⟩
theorem end9z (n : Int) (w : Nat → Int) (seats A : Int) : endR 9 none (St.of [] [] [] (z10 n w seats A .busy)) = .ret (.bool true) (mkA (z10 n w seats A .ready)) := by kernel_rfl
theorem end9s (n : Int) (w : Nat → Int) (seats A f0 f1 f2 f3 f4 : Int) : endR 9 (some (.exit 0)) (St.of [] [] [] (oS10 n w seats A f0 f1 f2 f3 f4 true .busy none)) = .ret (.bool false) (mkA (oS10 n w seats A f0 f1 f2 f3 f4 true .done (some (.exit 0)))) := by kernel_rfl

theorem ei (k : IntKind) (z : Int) : m_eqv (.int k z) (.int k z) = true := by simp [m_eqv, veq]
theorem ea (k0 k1 : IntKind) (n a0 a1 a2 a3 a4 a5 a6 a7 a8 a9 : Int) : m_eqv (.agg ⟨[.int k0 n, .int k1 a0, .int k1 a1, .int k1 a2, .int k1 a3, .int k1 a4, .int k1 a5, .int k1 a6, .int k1 a7, .int k1 a8, .int k1 a9]⟩) (.agg ⟨[.int k0 n, .int k1 a0, .int k1 a1, .int k1 a2, .int k1 a3, .int k1 a4, .int k1 a5, .int k1 a6, .int k1 a7, .int k1 a8, .int k1 a9]⟩) = true := by simp [m_eqv, veq, veqs]
theorem eaW (n : Int) (w : Nat → Int) : m_eqv (.agg ⟨I n :: pW w⟩) (.agg ⟨I n :: pW w⟩) = true := ea _ _ _ _ _ _ _ _ _ _ _ _ _
noncomputable def vB (x : Nat) : OV := [some (P0 0), some (P0 1), some (P0 3), some (P0 4), some (P0 5), some (P0 10)]
theorem y9 {r : Mem} {m : Nat} (hm10 : m ≤ 10) {w : Nat → Int} {q : Nat → Bool} {fo : Nat → Nat} (ht : TOk (SC r) (tSN (m : Nat) w q fo)) (hfo : ∀ s, fo s < 65536) (seats : Int) {A x : Nat} (hA : A = 2 ^ m - 1) (hxA : x &&& A = x) (hI : fnd (p0N q fo A seats) x = none) :
    YOk (SC r) 9 [U (x : Nat)] (mkA (z10 (m : Nat) w seats A .ready)) fun v A' => (∃ e f z, A'.heap.get 6 = some (.cells [U (A : Nat)] e f z)) ∧ ∃ os', Cn (mkA (z10 (m : Nat) w seats A .ready)).next fl10 A' os' ∧
      ((v = .bool true ∧ (x = A → os' = e10 (m : Nat) w seats A fo (suN q fo A seats)) ∧ (x ≠ A → fnd (p0N q fo A seats) (nxN A x) = none ∧ os' = z10 (m : Nat) w seats A .ready)) ∨ (v = .bool false ∧ os' = e10 (m : Nat) w seats A fo (suN q fo A seats))) := by
  have hA2 : 2 ^ m ≤ 1024 := Nat.pow_le_pow_right (n := 2) (by decide) hm10
  have hle : x ≤ A := by rw [← hxA]; exact Nat.and_le_right
  have hnx : (mkA (z10 (m : Nat) w seats A .ready)).next = 10 := by kernel_rfl
  have eA : m_all ((m : Nat) : Int) = ((A : Nat) : Int) := by rw [all_eq (by omega), hA]
  refine YOk.of (SC_ok r) (i := 9) (st := .ready) (pend := none) (m := 1752347058175) (n := 52) (en := ⟨[], bT lvS vS .nil⟩) (params := #[18]) (assign := k_s1) (body := k_s2) (d := 8) (by kernel_rfl) (s0 := []) (b0 := bT (lvS ++ [18]) (vS ++ [some (U (x : Nat))]) .nil) (by kernel_rfl) TOk.nil (tm := .nil) (L := 1) (L' := 1) (d' := 1)
    ⟨lvB, fl10, fun vs ms os => vs = vB x ∧ ms = [] ∧ os = z10 (m : Nat) w seats A .busy ++ [oG x 10]⟩
    ⟨[], fl10, fun vs ms os => p0N q fo A seats x = none ∧ vs = [] ∧ ms = [] ∧ os = z10 (m : Nat) w seats A .busy⟩
    (fun i => if i = 0 then ⟨[], fl10, fun vs ms os => ∃ t, p0N q fo A seats x = some t ∧ vs = [] ∧ ms = [] ∧ os = s10 (m : Nat) w seats A fo .busy none t⟩ else Outs.no) Outs.no ?_ ?_ ?_ ?_ ?_
  · rw [hnx]
    exact (suB r (m : Nat) w seats A x _ _ _ _).trans (qq_ok ⟨rfl, rfl, rfl⟩)
  · rintro F k γ W hF hro h0 vs ms os ⟨rfl, rfl, rfl⟩
    rw [hnx] at h0
    rw [Sb_eq]
    have hy : anN A x < 1024 := an_lt (k := 10) (show A < 2 ^ 10 by omega)
    refine Go.Ev.Reach.blockC (Go.Ev.Reach.afterR (SC_ok r) ht (tm := .nil) (L := 1) (L' := 1) (d := 3) hF hro h0 (.step (.step .base))
      (o1 := ⟨[2, 6, 7, 8, 9, 10, 35], fl10 ++ [.t, .t, .t, .t], fun vs ms os => p0N q fo A seats x = fnd (p1N q fo x (anN A x)) (anN A x + 1) ∧ vs = v2 ∧ ms = [] ∧ os = z10 (m : Nat) w seats A .busy ++ [oG x 10, oG (anN A x : Nat) 11, oG (anN A x : Nat) 12, oP (m : Nat) w 13]⟩)
      [(1, ⟨[], fl10, fun vs ms os => p0N q fo A seats x = none ∧ vs = [] ∧ ms = [] ∧ os = z10 (m : Nat) w seats A .busy⟩)] (fun p hp => by simp only [List.mem_cons, List.not_mem_nil, or_false] at hp; subst hp; rfl) ?_ ?_)
    · rintro vs ms os ⟨hP, rfl, rfl, rfl⟩
      rw [hP]
      have hl : (mkA (z10 (m : Nat) w seats A .busy ++ [oG x 10, oG (anN A x : Nat) 11, oG (anN A x : Nat) 12, oP (m : Nat) w 13])).next = 14 := by kernel_rfl
      refine Go.Ev.Reach.blockC (Go.Ev.Reach.rangeC (SC_ok r) hF hro h0 (d := 8) (marks := []) (A1 := mkA (z10 (m : Nat) w seats A .busy ++ [oG x 10, oG (anN A x : Nat) 11, oG (anN A x : Nat) 12, oP (m : Nat) w 13])) (g := 54) (first := []) (captured := [P0 12, P0 13]) (S := fun v A' => A' = mkA (e15 (m : Nat) w seats A x (anN A x : Nat) fo (fnd (p1N q fo x (anN A x)) (anN A x + 1))))
        [(0, ⟨[], fl10, fun vs ms os => ∃ t, fnd (p1N q fo x (anN A x)) (anN A x + 1) = some t ∧ vs = [] ∧ ms = [] ∧ os = s10 (m : Nat) w seats A fo .busy none t⟩)] (fun p hp => by simp only [List.mem_cons, List.not_mem_nil, or_false] at hp; subst hp; rfl) (by kernel_rfl) (by kernel_rfl) (by kernel_rfl) ?_ ?_)
      · have hE : (mkA (z10 (m : Nat) w seats A .busy ++ [oG x 10, oG (anN A x : Nat) 11, oG (anN A x : Nat) 12, oP (m : Nat) w 13])).new (.loop .ready none 1752347058175 ⟨[], bT lv2 v2 .nil⟩ 52 #[36] k_s3 k_s4 8) = mkA (z15 (m : Nat) w seats A x (anN A x : Nat)) := by kernel_rfl
        show SOk _ _ _ ((mkA (z10 (m : Nat) w seats A .busy ++ [oG x 10, oG (anN A x : Nat) 11, oG (anN A x : Nat) 12, oP (m : Nat) w 13])).new (.loop .ready none 1752347058175 ⟨[], bT lv2 v2 .nil⟩ 52 #[36] k_s3 k_s4 8)) _
        rw [hE, hl]
        exact quiet2 ht hfo seats A (by omega) hy
      · rintro v A' rfl
        rw [hl]
        generalize fnd (p1N q fo x (anN A x)) (anN A x + 1) = o
        cases o with
        | none => exact (su2T r (m : Nat) w seats A x (anN A x : Nat) _ _ _).trans (qq_ok ⟨rfl, rfl, rfl, rfl⟩)
        | some t => exact (su2U r (m : Nat) w seats A x (anN A x : Nat) _ _ _ _ _ _ _ _).trans (qq_ok ⟨t, rfl, rfl, rfl, rfl⟩)
    · have hn := suC r (m : Nat) w seats A x (fun s => q s.toNat) fun s => (fo s.toNat : Nat)
      have sm : ∀ l : List Value, m_same l l = true := same_rfl
      have w10 : ∀ a : Nat, a < 1024 → m_w10 ((a : Nat) : Int) = true := fun a h => decide_eq_true ⟨by omega, by omega⟩
      have pG : ∀ a : Nat, a < 65536 → m_popG ((a : Nat) : Int) = true := fun a h => decide_eq_true ⟨by omega, by omega⟩
      have mp : ∀ x : Nat, m_pop ((x : Nat) : Int) = ((popN 16 x : Nat) : Int) := fun x => by unfold m_pop; rw [Int.toNat_natCast]
      have d1 := uAn (show A < 65536 by omega) (show x < 65536 by omega)
      simp only [sm, ei, ea, eaW, eA, d1, pG _ (show anN A x < 65536 by omega), mp, w10 x (by omega), Int.toNat_natCast, Bool.true_and, cond_true] at hn
      by_cases c : ((popN 16 (anN A x) : Nat) : Int) > seats
      · simp only [decide_eq_true c, cond_true] at hn
        exact (hn _ _ _).trans (qq_ok ⟨if_neg fun h => h.1 c, rfl, rfl, rfl⟩)
      · simp only [decide_eq_false c, cond_false] at hn
        cases hq : q x with
        | false =>
          simp only [hq, cond_false] at hn
          exact (hn _ _ _).trans (qq_ok ⟨if_neg fun h => (by rw [hq] at h; exact nomatch h.2), rfl, rfl, rfl⟩)
        | true =>
          simp only [hq, cond_true] at hn
          exact (hn _ _ _).trans (qq_ok ⟨if_pos ⟨c, hq⟩, rfl, rfl, rfl⟩)
  · rintro vs ms os ⟨hP, rfl, rfl, rfl⟩
    have hout : ∀ k, ¬ k &&& A = k → k ≤ A → False := fun k hk hkA => hk (by rw [hA, Nat.and_two_pow_sub_one_eq_mod, Nat.mod_eq_of_lt (by have := Nat.two_pow_pos m; omega)])
    have hnxt : x ≠ A → nxN A x ≤ x + 1 := fun e => nx_min (by omega) hxA e (by rw [hA, Nat.and_two_pow_sub_one_eq_mod, Nat.mod_eq_of_lt (by have := Nat.two_pow_pos m; omega)]) (by omega)
    have h1 : fnd (p0N q fo A seats) (x + 1) = none := fnd_skip hI _ (by omega) fun k h1 h2 => by rw [show k = x by omega]; exact hP
    refine ⟨_, _, end9z (m : Nat) w seats A, ⟨51, 6, 0, by kernel_rfl⟩, _, cn10z (m : Nat) w seats A, .inl ⟨rfl, fun e => ?_, fun e => ⟨?_, rfl⟩⟩⟩
    · have h2 : fnd (p0N q fo A seats) (A + 1) = none := by rw [show A + 1 = x + 1 by omega]; exact h1
      unfold suN
      rw [h2]
      rfl
    · have := nx_gt (by omega) hxA e
      have := hnxt e
      rw [show nxN A x = x + 1 by omega]
      exact h1
  · intro id vs ms os hq
    by_cases c : id = 0
    · subst c
      obtain ⟨t, hP, rfl, rfl, rfl⟩ := hq
      refine ⟨_, _, end9s (m : Nat) w seats A _ _ _ _ _, ⟨51, 6, 0, by kernel_rfl⟩, _, cn10s (m : Nat) w seats A _ _ _ _ _, .inr ⟨rfl, ?_⟩⟩
      unfold suN
      rw [fnd_some hI hP (A + 1) (by omega)]
      rfl
    · simp only [if_neg c] at hq
      exact hq.elim
  · rintro vs ms os hf
    exact hf.elim

/-- What the search answers. -/
def vSu (fo : Nat → Nat) : Option T3 → Value
  | none => .tuple ⟨[.agg ⟨[I 0, I 0, I 0, I 0, I 0]⟩, .bool false]⟩
  | some (a, b, c) => .tuple ⟨[.agg ⟨[I (x1N fo a b : Nat), I (x2N fo a b c : Nat), I (x3N fo a b c : Nat), I (b : Nat), I (c : Nat)]⟩, .bool true]⟩
noncomputable def oSu (fo : Nat → Nat) : Option T3 → OO
  | none => [o5 0 0 0 0 0 0, o5 0 0 0 0 0 1, some (.cells [.bool false] 4 2 0)]
  | some (a, b, c) => [o5 0 0 0 0 0 0, o5 (x1N fo a b : Nat) (x2N fo a b c : Nat) (x3N fo a b c : Nat) (b : Nat) (c : Nat) 1, some (.cells [.bool true] 4 2 0)]
noncomputable def oSv (fo : Nat → Nat) : Option T3 → OO
  | none => [o5 0 0 0 0 0 0]
  | some (a, b, c) => [o5 (x1N fo a b : Nat) (x2N fo a b c : Nat) (x3N fo a b c : Nat) (b : Nat) (c : Nat) 0]
theorem ea5 (k : IntKind) (a0 a1 a2 a3 a4 : Int) : m_eqv (.agg ⟨[.int k a0, .int k a1, .int k a2, .int k a3, .int k a4]⟩) (.agg ⟨[.int k a0, .int k a1, .int k a2, .int k a3, .int k a4]⟩) = true := by simp [m_eqv, veq, veqs]
theorem eb (b : Bool) : m_eqv (.bool b) (.bool b) = true := by simp [m_eqv, veq]

theorem finSu (r : Mem) (fo : Nat → Nat) (o : Option T3) : ∃ A', finish (SC r) 1752347058175 [.cell 4 43, .tmp 5] (St.of [4, 5] [some (P0 0), some (.bool o.isSome)] [] (oSv fo o)) = .ret (vSu fo o) A' := by
  cases o with
  | none => exact ⟨mkA (oSv fo none), by kernel_rfl⟩
  | some t => exact ⟨mkA (oSv fo (some t)), by kernel_rfl⟩

theorem structure_ok (r : Mem) (m : Nat) (hm10 : m ≤ 10) (w : Nat → Int) {q : Nat → Bool} {fo : Nat → Nat} (ht : TOk (SC r) (tSN (m : Nat) w q fo)) (hfo : ∀ s, fo s < 65536) (seats : Int) :
    GrT Tryd.prog r 32 [.agg ⟨I (m : Nat) :: pW w⟩, I seats] (vSu fo (suN q fo (2 ^ m - 1) seats)) := by
  have sm : ∀ l : List Value, m_same l l = true := same_rfl
  have hg : gnd (vSu fo (suN q fo (2 ^ m - 1) seats)) = true := by cases suN q fo (2 ^ m - 1) seats <;> rfl
  generalize hA : 2 ^ m - 1 = A at hg ⊢
  have hA2 : 2 ^ m ≤ 1024 := Nat.pow_le_pow_right (n := 2) (by decide) hm10
  have eA : m_all ((m : Nat) : Int) = ((A : Nat) : Int) := by rw [all_eq (by omega), hA]
  refine GrT.ofS (C := SC r) rfl rfl hg (callO (SC_ok r) (by kernel_rfl) ((bodySC r _).trans St_eq) (nt := 52) (by kernel_rfl) (rs := [.cell 4 43, .tmp 5]) (by kernel_rfl) 1752347058175 rfl
    ⟨[4, 5], [.t], fun vs ms os => vs = [some (P0 0), some (.bool (suN q fo A seats).isSome)] ∧ ms = [] ∧ os = oSv fo (suN q fo A seats)⟩ ?_ fun γ W F k hw hF hro h0 => ?_)
  · rintro vs ms os ⟨rfl, rfl, rfl⟩
    obtain ⟨A', h⟩ := finSu r fo (suN q fo A seats)
    exact ⟨_, A', h, rfl⟩
  · have h0 : ∀ i, 0 ≤ i → γ i = none := h0
    refine Go.Ev.Reach.seq (Go.Ev.Reach.mono (Go.Ev.Reach.segP (ro := none) (kn := run (SC r) 1752347058175 52 1 (.seq St_1 (.seq St_2 (.seq St_3 (.seq St_4 St_5)))) (lvlT (SC r) (tSN (m : Nat) w q fo) .nil 1 3) none ((⟨lvS, flS, fun vs ms os => vs = vS ∧ ms = [] ∧ os = oS (m : Nat) w seats A 0 0 0 0 0 false⟩ : Outs).ask 0) (Outs.ats 0 []) (Outs.no.ask 0)) (kx := Outs.ats 0 []) (kr := Outs.no.ask 0) (SC_ok r) ht (tm := .nil) (L := 1) (L' := 1) (d := 3) hF hro ?_) fun ex st hq => ?_)
    · have hn := suA r (m : Nat) w seats A (fun s => q s.toNat) fun s => (fo s.toNat : Nat)
      simp only [sm, eA, cond_true] at hn
      have hm := hn (fun vs ms os => qq (vs = vS ∧ ms = [] ∧ os = oS (m : Nat) w seats A 0 0 0 0 0 false)) (Outs.ats 0 []) (Outs.no.ask 0)
      rw [run_seq] at hm
      exact hm.trans (qq_ok ⟨rfl, rfl, rfl⟩)
    · have hq' := hq
      cases ex with
      | normal =>
        refine Go.Ev.Reach.scopeC (Go.Ev.Reach.after3R (SC_ok r) ht (tm := .nil) (L := 1) (L' := 1) (d := 3) hF hro h0 (.step (.step (.step (.step .base)))) (o2 := ⟨[4, 7, 8], [.t, .t, .t], fun vs ms os => vs = [some (P0 0), some (P0 1), some (P0 2)] ∧ ms = [] ∧ os = oSu fo (suN q fo A seats)⟩) [] (fun p hp => nomatch hp) ?_ ?_ hq)
        · rintro vs ms os ⟨rfl, rfl, rfl⟩
          have hl : ((mkA (oS (m : Nat) w seats A 0 0 0 0 0 false)).new .defd).next = 9 := by kernel_rfl
          refine Go.Ev.Reach.blockC (Go.Ev.Reach.rangeC (SC_ok r) hF hro h0 (d := 8) (marks := [8]) (A1 := (mkA (oS (m : Nat) w seats A 0 0 0 0 0 false)).new .defd) (g := 49) (first := []) (captured := [P0 6]) (S := fun v A' => ∃ os, A' = mkA os ∧ os = e10 (m : Nat) w seats A fo (suN q fo A seats))
            [(0, ⟨[4, 7, 8], [.t, .t, .t], fun vs ms os => vs = [some (P0 0), some (P0 1), some (P0 2)] ∧ ms = [] ∧ os = oSu fo (suN q fo A seats)⟩)] (fun p hp => by simp only [List.mem_cons, List.not_mem_nil, or_false] at hp; subst hp; rfl) (by kernel_rfl) (by kernel_rfl) (by kernel_rfl) ?_ ?_)
          · have hE : ((mkA (oS (m : Nat) w seats A 0 0 0 0 0 false)).new .defd).new (.loop .ready none 1752347058175 ⟨[], bT lvS vS .nil⟩ 52 #[18] k_s1 k_s2 8) = mkA (z10 (m : Nat) w seats A .ready) := by kernel_rfl
            show SOk _ _ _ (((mkA (oS (m : Nat) w seats A 0 0 0 0 0 false)).new .defd).new (.loop .ready none 1752347058175 ⟨[], bT lvS vS .nil⟩ 52 #[18] k_s1 k_s2 8)) _
            rw [hE, hl]
            exact groups_iter r (l := 9) (p := 6) (fl := fl10) (s := A) (by omega) (I := fun t os => fnd (p0N q fo A seats) t = none ∧ os = z10 (m : Nat) w seats A .ready) (E := fun os => os = e10 (m : Nat) w seats A fo (suN q fo A seats)) (os0 := z10 (m : Nat) w seats A .ready)
              (fun t os hts ⟨hI, ho⟩ => by subst ho; exact y9 hm10 ht hfo seats hA.symm hts hI) ⟨rfl, rfl⟩ (by kernel_rfl) (by kernel_rfl)
          · rintro v A' ⟨os, rfl, rfl⟩
            rw [hl]
            cases suN q fo A seats with
            | none => exact (su1T r (m : Nat) w seats A _ _ _).trans (qq_ok ⟨rfl, rfl, rfl⟩)
            | some t => exact (su1U r (m : Nat) w seats A _ _ _ _ _ _ _ _).trans (qq_ok ⟨rfl, rfl, rfl⟩)
        · rintro vs ms os ⟨rfl, rfl, rfl⟩
          cases suN q fo A seats with
          | none =>
            have hn := suZ r 0 0 0 0 0 false
            simp only [ea5, eb, cond_true, cond_false] at hn
            exact Go.Ev.Reach.segR (SC_ok r) TOk.nil (tm := .nil) (L := 1) (L' := 1) (d := 1) hF hro h0 [] (fun p hp => nomatch hp) ((hn _ _ _ _).trans (qq_ok ⟨rfl, rfl, rfl⟩))
          | some t =>
            have hn := suZ r (x1N fo t.1 t.2.1 : Nat) (x2N fo t.1 t.2.1 t.2.2 : Nat) (x3N fo t.1 t.2.1 t.2.2 : Nat) (t.2.1 : Nat) (t.2.2 : Nat) true
            simp only [ea5, eb, cond_true, cond_false] at hn
            exact Go.Ev.Reach.segR (SC_ok r) TOk.nil (tm := .nil) (L := 1) (L' := 1) (d := 1) hF hro h0 [] (fun p hp => nomatch hp) ((hn _ _ _ _).trans (qq_ok ⟨rfl, rfl, rfl⟩))
      | exit i => exact Post.can h0 [] (fun p hp => nomatch hp) hq
      | ret => exact (Outs.no_use (C := SC r) (m := 0) (n := 0) (W0 := W) h0 hq).elim
      | _ => exact hq.elim

end Go.Proofs

/- The reference's search for a structure, run. -/
namespace Go.Proofs
open Go Go.Ev Go.Num
set_option linter.unusedVariables false
set_option linter.unusedSimpArgs false
set_option maxRecDepth 100000

noncomputable def cHs : Code := bodyOf S0 20
noncomputable def Hs_0 : Code := (lc cHs)
noncomputable def Hs_1 : Code := (lc (rc cHs))
noncomputable def Hs_2 : Code := (lc (lc (rc (rc cHs))))
noncomputable def Hs_3 : Code := (lc (ic (ic (rc (lc (rc (rc cHs)))))))
noncomputable def Hs_4 : Code := (lc (ic (lc (rc (ic (ic (rc (lc (rc (rc cHs))))))))))
noncomputable def Hs_5 : Code := (lc (rc (ic (lc (rc (ic (ic (rc (lc (rc (rc cHs)))))))))))
noncomputable def Hs_6 : Code := (lc (ic (ic (rc (rc (ic (lc (rc (ic (ic (rc (lc (rc (rc cHs))))))))))))))
noncomputable def Hs_7 : Code := (lc (ic (lc (rc (ic (ic (rc (rc (ic (lc (rc (ic (ic (rc (lc (rc (rc cHs)))))))))))))))))
noncomputable def Hs_8 : Code := (lc (rc (ic (lc (rc (ic (ic (rc (rc (ic (lc (rc (ic (ic (rc (lc (rc (rc cHs))))))))))))))))))
noncomputable def Hs_9 : Code := (lc (ic (ic (rc (rc (ic (lc (rc (ic (ic (rc (rc (ic (lc (rc (ic (ic (rc (lc (rc (rc cHs)))))))))))))))))))))
noncomputable def Hs_10 : Code := (lc (ic (lc (rc (ic (ic (rc (rc (ic (lc (rc (ic (ic (rc (rc (ic (lc (rc (ic (ic (rc (lc (rc (rc cHs))))))))))))))))))))))))
noncomputable def Hs_11 : Code := (lc (rc (ic (lc (rc (ic (ic (rc (rc (ic (lc (rc (ic (ic (rc (rc (ic (lc (rc (ic (ic (rc (lc (rc (rc cHs)))))))))))))))))))))))))
noncomputable def Hs_12 : Code := (lc (lc (rc (rc (ic (lc (rc (ic (ic (rc (rc (ic (lc (rc (ic (ic (rc (rc (ic (lc (rc (ic (ic (rc (lc (rc (rc cHs)))))))))))))))))))))))))))
noncomputable def Hs_13 : Code := (ic (ic (rc (lc (rc (rc (ic (lc (rc (ic (ic (rc (rc (ic (lc (rc (ic (ic (rc (rc (ic (lc (rc (ic (ic (rc (lc (rc (rc cHs)))))))))))))))))))))))))))))
noncomputable def Hs_14 : Code := (rc (rc (rc (ic (lc (rc (ic (ic (rc (rc (ic (lc (rc (ic (ic (rc (rc (ic (lc (rc (ic (ic (rc (lc (rc (rc cHs))))))))))))))))))))))))))
noncomputable def Hs_15 : Code := (rc (rc (ic (ic (rc (rc (ic (lc (rc (ic (ic (rc (rc (ic (lc (rc (ic (ic (rc (lc (rc (rc cHs))))))))))))))))))))))
noncomputable def Hs_16 : Code := (rc (rc (ic (ic (rc (rc (ic (lc (rc (ic (ic (rc (lc (rc (rc cHs)))))))))))))))
noncomputable def Hs_17 : Code := (rc (rc (ic (ic (rc (lc (rc (rc cHs))))))))
noncomputable def Hs_18 : Code := (rc (rc (rc cHs)))
theorem Hs_eq : cHs = (.seq Hs_0 (.seq Hs_1 (.seq (.seq Hs_2 (.block 0 (.loop (.seq Hs_3 (.seq (.block 1 (.seq Hs_4 (.seq Hs_5 (.block 2 (.loop (.seq Hs_6 (.seq (.block 3 (.seq Hs_7 (.seq Hs_8 (.block 4 (.loop (.seq Hs_9 (.seq (.block 5 (.seq Hs_10 (.seq Hs_11 (.seq (.seq Hs_12 (.block 6 (.loop Hs_13))) Hs_14)))) Hs_15))))))) Hs_16))))))) Hs_17))))) Hs_18))) := by kernel_rfl

def lvHy : List Nat := [0, 1, 5, 6]
def vHy (b off len cap : Nat) (seats A y : Int) : OV := [some (RS b off len cap), some (I seats), some (I A), some (I y)]
def lvHa : List Nat := [0, 1, 5, 6, 7]
def vHa (b off len cap : Nat) (seats A y a : Int) : OV := [some (RS b off len cap), some (I seats), some (I A), some (I y), some (I a)]
def lvHb : List Nat := [0, 1, 5, 6, 7, 8]
def vHb (b off len cap : Nat) (seats A y a c : Int) : OV := [some (RS b off len cap), some (I seats), some (I A), some (I y), some (I a), some (I c)]
def lvHi : List Nat := [0, 1, 5, 6, 7, 8, 9, 10]
def vHi (b off len cap : Nat) (seats A y a c th i : Int) : OV := [some (RS b off len cap), some (I seats), some (I A), some (I y), some (I a), some (I c), some (I th), some (I i)]

theorem hsA (r : Mem) (b off len cap : Nat) (m seats A : Int) (q : Int → Bool) (K : OV → List Nat → OO → CR) (kx : Nat → KS) (kr : KS) : run (SC r) 2035 101 1 (.seq Hs_0 (.seq Hs_1 Hs_2)) (lvlT (SC r) (tRs (RS b off len cap) m q) .nil 1 1) none (rbK 0 lvHy [] K) kx kr (sc0 2035 [RS b off len cap, I seats]) (tr0 2035 [RS b off len cap, I seats]) [] emptyA =
    bif m_same [Value.slice (some (Addr.mk b off (some 0))) len cap] [Value.slice (some (Addr.mk b off (some 0))) len cap] then K [some (Value.slice (some (Addr.mk b off (some 0))) len cap), some (Value.int IntKind.i64 seats), some (Value.int IntKind.i64 (m_all m)), some (Value.int IntKind.i64 (Int.ofNat 1))] [] [] else CR.fail 420 := by kernel_rfl

theorem hsB (r : Mem) (b off len cap : Nat) (m seats A : Int) (y : Int) (fs : FnsC) (K : OV → List Nat → OO → CR) (KX : Nat → OV → List Nat → OO → CR) (kr : KS) : run (SC r) 2035 101 1 Hs_3 fs none (rbK 0 lvHy [] K) (fun i => rbK 0 [] [] (KX i)) kr [] (bT lvHy (vHy b off len cap seats A y) .nil) [] (mkA []) =
    bif decide (y ≤ A) then K [some (Value.slice (some (Addr.mk b off (some 0))) len cap), some (Value.int IntKind.i64 seats), some (Value.int IntKind.i64 A), some (Value.int IntKind.i64 y)] [] [] else KX 0 [] [] [] := by kernel_rfl

theorem hsC (r : Mem) (b off len cap : Nat) (m seats A : Int) (y : Int) (q : Int → Bool) (K : OV → List Nat → OO → CR) (KX : Nat → OV → List Nat → OO → CR) (kr : KS) : run (SC r) 2035 101 1 (.seq Hs_4 Hs_5) (lvlT (SC r) (tRs (RS b off len cap) m q) .nil 1 1) none (rbK 0 lvHa [] K) (fun i => rbK 0 lvHy [] (KX i)) kr [] (bT lvHy (vHy b off len cap seats A y) .nil) [] (mkA []) =
    bif m_popG y then bif decide (m_pop y > seats) then KX 1 [some (Value.slice (some (Addr.mk b off (some 0))) len cap), some (Value.int IntKind.i64 seats), some (Value.int IntKind.i64 A), some (Value.int IntKind.i64 y)] [] [] else bif m_same [Value.slice (some (Addr.mk b off (some 0))) len cap] [Value.slice (some (Addr.mk b off (some 0))) len cap] && m_w10 (ibits BinOp.andNot IntKind.i64 A y) then bif q (ibits BinOp.andNot IntKind.i64 A y) then K [some (Value.slice (some (Addr.mk b off (some 0))) len cap), some (Value.int IntKind.i64 seats), some (Value.int IntKind.i64 A), some (Value.int IntKind.i64 y), some (Value.int IntKind.i64 (Int.ofNat 1))] [] [] else KX 1 [some (Value.slice (some (Addr.mk b off (some 0))) len cap), some (Value.int IntKind.i64 seats), some (Value.int IntKind.i64 A), some (Value.int IntKind.i64 y)] [] [] else CR.fail 420 else CR.fail 420 := by kernel_rfl

theorem hsD (r : Mem) (b off len cap : Nat) (m seats A : Int) (y a : Int) (fs : FnsC) (K : OV → List Nat → OO → CR) (KX : Nat → OV → List Nat → OO → CR) (kr : KS) : run (SC r) 2035 101 1 Hs_6 fs none (rbK 0 lvHa [] K) (fun i => rbK 0 lvHy [] (KX i)) kr [] (bT lvHa (vHa b off len cap seats A y a) .nil) [] (mkA []) =
    bif decide (a ≤ A) then K [some (Value.slice (some (Addr.mk b off (some 0))) len cap), some (Value.int IntKind.i64 seats), some (Value.int IntKind.i64 A), some (Value.int IntKind.i64 y), some (Value.int IntKind.i64 a)] [] [] else KX 2 [some (Value.slice (some (Addr.mk b off (some 0))) len cap), some (Value.int IntKind.i64 seats), some (Value.int IntKind.i64 A), some (Value.int IntKind.i64 y)] [] [] := by kernel_rfl

theorem hsE (r : Mem) (b off len cap : Nat) (m seats A : Int) (y a : Int) (q : Int → Bool) (K : OV → List Nat → OO → CR) (KX : Nat → OV → List Nat → OO → CR) (kr : KS) : run (SC r) 2035 101 1 (.seq Hs_7 Hs_8) (lvlT (SC r) (tRs (RS b off len cap) m q) .nil 1 1) none (rbK 0 lvHb [] K) (fun i => rbK 0 lvHa [] (KX i)) kr [] (bT lvHa (vHa b off len cap seats A y a) .nil) [] (mkA []) =
    bif ibits BinOp.andNot IntKind.i64 a y != Int.ofNat 0 then KX 3 [some (Value.slice (some (Addr.mk b off (some 0))) len cap), some (Value.int IntKind.i64 seats), some (Value.int IntKind.i64 A), some (Value.int IntKind.i64 y), some (Value.int IntKind.i64 a)] [] [] else bif m_same [Value.slice (some (Addr.mk b off (some 0))) len cap] [Value.slice (some (Addr.mk b off (some 0))) len cap] && m_w10 a then bif q a then K [some (Value.slice (some (Addr.mk b off (some 0))) len cap), some (Value.int IntKind.i64 seats), some (Value.int IntKind.i64 A), some (Value.int IntKind.i64 y), some (Value.int IntKind.i64 a), some (Value.int IntKind.i64 a)] [] [] else KX 3 [some (Value.slice (some (Addr.mk b off (some 0))) len cap), some (Value.int IntKind.i64 seats), some (Value.int IntKind.i64 A), some (Value.int IntKind.i64 y), some (Value.int IntKind.i64 a)] [] [] else CR.fail 420 := by kernel_rfl

theorem hsF (r : Mem) (b off len cap : Nat) (m seats A : Int) (y a c : Int) (fs : FnsC) (K : OV → List Nat → OO → CR) (KX : Nat → OV → List Nat → OO → CR) (kr : KS) : run (SC r) 2035 101 1 Hs_9 fs none (rbK 0 lvHb [] K) (fun i => rbK 0 lvHa [] (KX i)) kr [] (bT lvHb (vHb b off len cap seats A y a c) .nil) [] (mkA []) =
    bif decide (c ≤ A) then K [some (Value.slice (some (Addr.mk b off (some 0))) len cap), some (Value.int IntKind.i64 seats), some (Value.int IntKind.i64 A), some (Value.int IntKind.i64 y), some (Value.int IntKind.i64 a), some (Value.int IntKind.i64 c)] [] [] else KX 4 [some (Value.slice (some (Addr.mk b off (some 0))) len cap), some (Value.int IntKind.i64 seats), some (Value.int IntKind.i64 A), some (Value.int IntKind.i64 y), some (Value.int IntKind.i64 a)] [] [] := by kernel_rfl

theorem hsG (r : Mem) (b off len cap : Nat) (m seats A : Int) (y a c : Int) (q : Int → Bool) (K : OV → List Nat → OO → CR) (KX : Nat → OV → List Nat → OO → CR) (kr : KS) : run (SC r) 2035 101 1 (.seq Hs_10 (.seq Hs_11 Hs_12)) (lvlT (SC r) (tRs (RS b off len cap) m q) .nil 1 1) none (rbK 0 lvHi [] K) (fun i => rbK 0 lvHb [] (KX i)) kr [] (bT lvHb (vHb b off len cap seats A y a c) .nil) [] (mkA []) =
    bif ibits BinOp.andNot IntKind.i64 c y != Int.ofNat 0 then KX 5 [some (Value.slice (some (Addr.mk b off (some 0))) len cap), some (Value.int IntKind.i64 seats), some (Value.int IntKind.i64 A), some (Value.int IntKind.i64 y), some (Value.int IntKind.i64 a), some (Value.int IntKind.i64 c)] [] [] else bif m_same [Value.slice (some (Addr.mk b off (some 0))) len cap] [Value.slice (some (Addr.mk b off (some 0))) len cap] && m_w10 c then bif q c then K [some (Value.slice (some (Addr.mk b off (some 0))) len cap), some (Value.int IntKind.i64 seats), some (Value.int IntKind.i64 A), some (Value.int IntKind.i64 y), some (Value.int IntKind.i64 a), some (Value.int IntKind.i64 c), some (Value.int IntKind.i64 (Int.ofNat 0)), some (Value.int IntKind.i64 (Int.ofNat 0))] [] [] else KX 5 [some (Value.slice (some (Addr.mk b off (some 0))) len cap), some (Value.int IntKind.i64 seats), some (Value.int IntKind.i64 A), some (Value.int IntKind.i64 y), some (Value.int IntKind.i64 a), some (Value.int IntKind.i64 c)] [] [] else CR.fail 420 := by kernel_rfl

theorem hsH (r : Mem) (b off len cap : Nat) (m seats A : Int) (y a c th i : Int) (fs : FnsC) (K : OV → List Nat → OO → CR) (KX : Nat → OV → List Nat → OO → CR) (kr : KS) : run (SC r) 2035 101 1 Hs_13 fs none (rbK 0 lvHi [] K) (fun i => rbK 0 [0, 1, 5, 6, 7, 8, 9] [] (KX i)) kr [] (bT lvHi (vHi b off len cap seats A y a c th i) .nil) [] (mkA []) =
    bif decide (i < Int.ofNat len) then bif !decide (i < 0) then bif Int.tmod (Int.fdiv (ibits BinOp.andNot IntKind.i64 A y) (Int.ofNat 2 ^ min (Int.toNat i) 64)) (Int.ofNat 2) == Int.ofNat 1 then bif decide (0 ≤ i) then bif Nat.blt (Int.toNat i) len then Option.casesOn (r b (Nat.add off (Nat.mul (Int.toNat i) 1))) (CR.fail 423) fun val => bif isI IntKind.i64 val then bif ibits BinOp.and IntKind.i64 (ofI val) a != Int.ofNat 0 then bif decide (0 ≤ i) then bif Nat.blt (Int.toNat i) len then Option.casesOn (r b (Nat.add off (Nat.mul (Int.toNat i) 1))) (CR.fail 423) fun val => bif isI IntKind.i64 val then bif ibits BinOp.and IntKind.i64 (ofI val) c != Int.ofNat 0 then K [some (Value.slice (some (Addr.mk b off (some 0))) len cap), some (Value.int IntKind.i64 seats), some (Value.int IntKind.i64 A), some (Value.int IntKind.i64 y), some (Value.int IntKind.i64 a), some (Value.int IntKind.i64 c), some (Value.int IntKind.i64 (IntKind.wrap IntKind.i64 (th + Int.ofNat 1))), some (Value.int IntKind.i64 (IntKind.wrap IntKind.i64 (i + Int.ofNat 1)))] [] [] else K [some (Value.slice (some (Addr.mk b off (some 0))) len cap), some (Value.int IntKind.i64 seats), some (Value.int IntKind.i64 A), some (Value.int IntKind.i64 y), some (Value.int IntKind.i64 a), some (Value.int IntKind.i64 c), some (Value.int IntKind.i64 th), some (Value.int IntKind.i64 (IntKind.wrap IntKind.i64 (i + Int.ofNat 1)))] [] [] else CR.fail 420 else CR.fail 420 else CR.fail 420 else K [some (Value.slice (some (Addr.mk b off (some 0))) len cap), some (Value.int IntKind.i64 seats), some (Value.int IntKind.i64 A), some (Value.int IntKind.i64 y), some (Value.int IntKind.i64 a), some (Value.int IntKind.i64 c), some (Value.int IntKind.i64 th), some (Value.int IntKind.i64 (IntKind.wrap IntKind.i64 (i + Int.ofNat 1)))] [] [] else CR.fail 420 else CR.fail 420 else CR.fail 420 else K [some (Value.slice (some (Addr.mk b off (some 0))) len cap), some (Value.int IntKind.i64 seats), some (Value.int IntKind.i64 A), some (Value.int IntKind.i64 y), some (Value.int IntKind.i64 a), some (Value.int IntKind.i64 c), some (Value.int IntKind.i64 th), some (Value.int IntKind.i64 (IntKind.wrap IntKind.i64 (i + Int.ofNat 1)))] [] [] else CR.fail 420 else KX 6 [some (Value.slice (some (Addr.mk b off (some 0))) len cap), some (Value.int IntKind.i64 seats), some (Value.int IntKind.i64 A), some (Value.int IntKind.i64 y), some (Value.int IntKind.i64 a), some (Value.int IntKind.i64 c), some (Value.int IntKind.i64 th)] [] [] := by kernel_rfl

theorem hsI (r : Mem) (b off len cap : Nat) (m seats A : Int) (y a c th : Int) (q : Int → Bool) (K : OV → List Nat → OO → CR) (kx : Nat → KS) (KR : OV → List Nat → OO → CR) : run (SC r) 2035 101 1 Hs_14 (lvlT (SC r) (tRs (RS b off len cap) m q) .nil 1 1) none (rbK 0 lvHb [] K) kx (rbK 0 [4] [] KR) [] (bT [0, 1, 5, 6, 7, 8, 9] (vHb b off len cap seats A y a c ++ [some (I th)]) .nil) [] (mkA []) =
    bif m_popG a then bif m_popG c then bif decide (IntKind.wrap IntKind.i64 (m_pop a + m_pop c) ≥ th) then KR [some (Value.bool true)] [] [] else K [some (Value.slice (some (Addr.mk b off (some 0))) len cap), some (Value.int IntKind.i64 seats), some (Value.int IntKind.i64 A), some (Value.int IntKind.i64 y), some (Value.int IntKind.i64 a), some (Value.int IntKind.i64 c)] [] [] else CR.fail 420 else CR.fail 420 := by kernel_rfl

theorem hsJ (r : Mem) (b off len cap : Nat) (m seats A : Int) (y a c : Int) (fs : FnsC) (K : OV → List Nat → OO → CR) (kx : Nat → KS) (kr : KS) : run (SC r) 2035 101 1 Hs_15 fs none (rbK 0 lvHb [] K) kx kr [] (bT lvHb (vHb b off len cap seats A y a c) .nil) [] (mkA []) =
    K [some (Value.slice (some (Addr.mk b off (some 0))) len cap), some (Value.int IntKind.i64 seats), some (Value.int IntKind.i64 A), some (Value.int IntKind.i64 y), some (Value.int IntKind.i64 a), some (Value.int IntKind.i64 (IntKind.wrap IntKind.i64 (c + Int.ofNat 1)))] [] [] := by kernel_rfl

theorem hsK (r : Mem) (b off len cap : Nat) (m seats A : Int) (y a : Int) (fs : FnsC) (K : OV → List Nat → OO → CR) (kx : Nat → KS) (kr : KS) : run (SC r) 2035 101 1 Hs_16 fs none (rbK 0 lvHa [] K) kx kr [] (bT lvHa (vHa b off len cap seats A y a) .nil) [] (mkA []) =
    K [some (Value.slice (some (Addr.mk b off (some 0))) len cap), some (Value.int IntKind.i64 seats), some (Value.int IntKind.i64 A), some (Value.int IntKind.i64 y), some (Value.int IntKind.i64 (IntKind.wrap IntKind.i64 (a + Int.ofNat 1)))] [] [] := by kernel_rfl

theorem hsL (r : Mem) (b off len cap : Nat) (m seats A : Int) (y : Int) (fs : FnsC) (K : OV → List Nat → OO → CR) (kx : Nat → KS) (kr : KS) : run (SC r) 2035 101 1 Hs_17 fs none (rbK 0 lvHy [] K) kx kr [] (bT lvHy (vHy b off len cap seats A y) .nil) [] (mkA []) =
    K [some (Value.slice (some (Addr.mk b off (some 0))) len cap), some (Value.int IntKind.i64 seats), some (Value.int IntKind.i64 A), some (Value.int IntKind.i64 (IntKind.wrap IntKind.i64 (y + Int.ofNat 1)))] [] [] := by kernel_rfl

theorem hsM (r : Mem) (fs : FnsC) (K KR : OV → List Nat → OO → CR) (kx : Nat → KS) : run (SC r) 2035 101 1 Hs_18 fs none (rbK 0 [4] [] K) kx (rbK 0 [4] [] KR) [] (bT [] [] .nil) [] (mkA []) =
    KR [some (Value.bool false)] [] [] := by kernel_rfl

end Go.Proofs

/- The reference's search for a structure: what the call answers. -/
namespace Go.Num
open Go.Proofs

def anyN (P : Nat → Bool) : Nat → Bool
  | 0 => false
  | k + 1 => anyN P k || P k
theorem any_true {P : Nat → Bool} {t : Nat} (h : P t = true) : ∀ m, t < m → anyN P m = true
  | 0, hm => by omega
  | m + 1, hm => by
    rw [anyN]
    by_cases c : t = m
    · subst c; rw [h, Bool.or_true]
    · rw [any_true h m (by omega), Bool.true_or]
theorem any_false {P : Nat → Bool} : ∀ {m : Nat}, anyN P m = false → ∀ k, k < m → P k = false
  | 0, _, k, hk => by omega
  | m + 1, h, k, hk => by
    rw [anyN, Bool.or_eq_false_iff] at h
    by_cases c : k = m
    · subst c; exact h.2
    · exact any_false h.1 k (by omega)
theorem any_of {P : Nat → Bool} : ∀ {m : Nat}, (∀ k, k < m → P k = false) → anyN P m = false
  | 0, _ => rfl
  | m + 1, h => by rw [anyN, any_of fun k hk => h k (by omega), h m (by omega)]; rfl
theorem any_use {P : Nat → Bool} : ∀ {m : Nat}, anyN P m = true → ∃ k, k < m ∧ P k = true
  | 0, h => nomatch h
  | m + 1, h => by
    rw [anyN, Bool.or_eq_true] at h
    rcases h with h | h
    · obtain ⟨k, h1, h2⟩ := any_use h
      exact ⟨k, by omega, h2⟩
    · exact ⟨m, by omega, h⟩
def thN (w : Nat → Nat) (x a c : Nat) : Nat → Nat
  | 0 => 0
  | k + 1 => thN w x a c k + if (btN x k && (!(w k &&& a == 0) && !(w k &&& c == 0))) = true then 1 else 0
theorem th_le (w : Nat → Nat) (x a c : Nat) : ∀ k, thN w x a c k ≤ k
  | 0 => Nat.le_refl _
  | k + 1 => by
    have := th_le w x a c k
    rw [thN]
    split <;> omega
def hbP (q : Nat → Bool) (w : Nat → Nat) (m x y a c : Nat) : Bool := decide (a ≤ c) && (anN c y == 0 && (q c && decide (thN w x a c m ≤ popN 16 a + popN 16 c)))
def haP (q : Nat → Bool) (w : Nat → Nat) (m A x y a : Nat) : Bool := !(a == 0) && (anN a y == 0 && (q a && anyN (hbP q w m x y a) (A + 1)))
def hyP (q : Nat → Bool) (w : Nat → Nat) (m A : Nat) (seats : Int) (y : Nat) : Bool := !(y == 0) && (!decide (((popN 16 y : Nat) : Int) > seats) && (q (anN A y) && anyN (haP q w m A (anN A y) y) (A + 1)))
def hsP (q : Nat → Bool) (w : Nat → Nat) (m A : Nat) (seats : Int) : Bool := anyN (hyP q w m A seats) (A + 1)

end Go.Num
namespace Go.Proofs
open Go Go.Ev Go.Num
set_option linter.unusedVariables false
set_option linter.unusedSimpArgs false
set_option maxRecDepth 100000

theorem iAn {a b : Nat} (ha : a < 65536) (hb : b < 65536) : ibits .andNot .i64 ((a : Nat) : Int) ((b : Nat) : Int) = ((anN a b : Nat) : Int) := (iO ha hb).2.2
theorem iInc {a : Nat} (h : a < 1000000) : IntKind.wrap IntKind.i64 (((a : Nat) : Int) + Int.ofNat 1) = ((a + 1 : Nat) : Int) := by rw [wrI (by simp; omega)]; simp
theorem ne0 (a : Nat) : (((a : Nat) : Int) != Int.ofNat 0) = !(a == 0) := by
  rw [Bool.eq_iff_iff]
  simp
theorem bitT {x k : Nat} (hk : k ≤ 16) : (Int.tmod (Int.fdiv ((x : Nat) : Int) (Int.ofNat 2 ^ min k 64)) (Int.ofNat 2) == Int.ofNat 1) = btN x k := by
  rw [shr_nat x k (by omega)]
  unfold btN
  have : ∀ x : Nat, Int.tmod (x : Int) (Int.ofNat 2) = ((x % 2 : Nat) : Int) := fun x => by
    show Int.tmod (x : Int) 2 = _
    rw [Int.tmod_eq_emod_of_nonneg (by omega)]
    omega
  rw [this]
  rcases Nat.mod_two_eq_zero_or_one (x / 2 ^ k) with h | h <;> rw [h] <;> rfl

theorem rhas_ok (r : Mem) (b off m cap : Nat) (hm10 : m ≤ 10) (w : Nat → Nat) (hr : ∀ k, k < m → r b (off + k) = some (I (w k : Nat))) (hw : ∀ k, k < m → w k < 65536) (seats : Int) :
    GrT Tryd.prog r 20 [RS b off m cap, I seats] (.bool (hsP (fun s => quN w s m) w m (2 ^ m - 1) seats)) := by
  have hA2 : 2 ^ m ≤ 1024 := Nat.pow_le_pow_right (n := 2) (by decide) hm10
  have hpos := Nat.two_pow_pos m
  have sm : ∀ l : List Value, m_same l l = true := same_rfl
  have eA := all_eq (m := m) (by omega)
  have hq : EOk (SC r) 11 (eRQ (RS b off m cap) fun s => quN w s.toNat m) := eRQ_ok r fun s hs => by
    have := rquiet_ok r b off m cap w hr hw (by omega) s (by omega)
    rw [Int.toNat_natCast]
    exact this
  have ha := rall_ok r b off m cap (by omega)
  have ht : TOk (SC r) (tRs (RS b off m cap) (m : Nat) fun s => quN w s.toNat m) := TOk.cons (TOk.cons (TOk.cons TOk.nil (entV_ok ha rfl)) (eI1_ok fun a h => rsz_ok r a h)) hq
  generalize hAA : 2 ^ m - 1 = A at *
  have hA : A < 1024 := by omega
  clear hq ha
  generalize hq : (fun s => quN w s m) = q
  have hqq : (fun (s : Int) => quN w s.toNat m) = fun (s : Int) => q s.toNat := by rw [← hq]
  rw [hqq] at ht
  have w10 : ∀ a : Nat, a < 1024 → m_w10 ((a : Nat) : Int) = true := fun a h => decide_eq_true ⟨by omega, by omega⟩
  have pG : ∀ a : Nat, a < 65536 → m_popG ((a : Nat) : Int) = true := fun a h => decide_eq_true ⟨by omega, by omega⟩
  have mp : ∀ x : Nat, m_pop ((x : Nat) : Int) = ((popN 16 x : Nat) : Int) := fun x => by unfold m_pop; rw [Int.toNat_natCast]
  have dle : ∀ a b : Nat, decide (((a : Nat) : Int) ≤ ((b : Nat) : Int)) = decide (a ≤ b) := fun a b => by rw [Bool.eq_iff_iff]; simp
  have dge : ∀ a b : Nat, decide (((a : Nat) : Int) ≥ ((b : Nat) : Int)) = decide (b ≤ a) := fun a b => by rw [Bool.eq_iff_iff]; simp
  refine GrT.ofS (C := SC r) rfl rfl rfl (callO (SC_ok r) (by kernel_rfl) ((bodySC r _).trans Hs_eq) (nt := 101) (by kernel_rfl) (rs := [.tmp 4]) (by kernel_rfl) 2035 rfl
    ⟨[4], [], fun vs ms os => vs = [some (.bool (hsP q w m A seats))] ∧ ms = [] ∧ os = []⟩ ?_ fun γ W F k hwr hF hro h0 => ?_)
  · rintro vs ms os ⟨rfl, rfl, rfl⟩
    exact ⟨_, mkA [], by kernel_rfl, rfl⟩
  have h0 : ∀ i, 0 ≤ i → γ i = none := h0
  refine Go.Ev.Reach.after3R (SC_ok r) ht (tm := .nil) (L := 1) (L' := 1) (d := 1) hF hro h0 (.step (.step .base))
    (o1 := ⟨lvHy, [], fun vs ms os => ∃ j y, 1 ≤ y ∧ y ≤ A + 1 ∧ j = A + 1 - y ∧ anyN (hyP q w m A seats) y = false ∧ vs = vHy b off m cap seats (A : Nat) (y : Nat) ∧ ms = [] ∧ os = []⟩)
    (o2 := ⟨[], [], fun vs ms os => hsP q w m A seats = false ∧ vs = [] ∧ ms = [] ∧ os = []⟩) [] (fun p hp => nomatch hp) ?_ ?_ ?_
  · rintro vs ms os ⟨j, hI⟩
    refine Go.Ev.Reach.blockC (Go.Ev.Reach.loopC (lv := lvHy) (fl := []) (I := fun j vs ms os => ∃ y, 1 ≤ y ∧ y ≤ A + 1 ∧ j = A + 1 - y ∧ anyN (hyP q w m A seats) y = false ∧ vs = vHy b off m cap seats (A : Nat) (y : Nat) ∧ ms = [] ∧ os = []) (fun j vs ms os hI => ?_) hI)
    obtain ⟨y, hy1, hy, rfl, hany, rfl, rfl, rfl⟩ := hI
    refine Go.Ev.Reach.seqC (o1 := ⟨lvHy, [], fun vs ms os => y ≤ A ∧ vs = vHy b off m cap seats (A : Nat) (y : Nat) ∧ ms = [] ∧ os = []⟩) (Go.Ev.Reach.segR (SC_ok r) TOk.nil (tm := .nil) (L := 1) (L' := 1) (d := 1) hF hro h0 [(0, ⟨[], [], fun vs ms os => hsP q w m A seats = false ∧ vs = [] ∧ ms = [] ∧ os = []⟩)] (fun p hp => by simp only [List.mem_cons, List.not_mem_nil, or_false] at hp; subst hp; rfl) ?_) ?_
    · have hn := hsB r b off m cap m seats (A : Nat) y
      rw [dle] at hn
      by_cases c : y ≤ A
      · rw [decide_eq_true c] at hn
        exact (hn _ _ _ _).trans (qq_ok ⟨c, rfl, rfl, rfl⟩)
      · rw [decide_eq_false c] at hn
        obtain rfl : y = A + 1 := by omega
        exact (hn _ _ _ _).trans (qq_ok ⟨hany, rfl, rfl, rfl⟩)
    rintro vs ms os ⟨hyA, rfl, rfl, rfl⟩
    have hx : anN A y < 1024 := an_lt (k := 10) (show A < 2 ^ 10 by omega)
    refine Go.Ev.Reach.seqC (o1 := ⟨lvHy, [], fun vs ms os => hyP q w m A seats y = false ∧ vs = vHy b off m cap seats (A : Nat) (y : Nat) ∧ ms = [] ∧ os = []⟩) (Go.Ev.Reach.blockC ?_) ?_
    · refine Go.Ev.Reach.afterR (SC_ok r) ht (tm := .nil) (L := 1) (L' := 1) (d := 1) hF hro h0 (.step .base)
        (o1 := ⟨lvHa, [], fun vs ms os => hyP q w m A seats y = anyN (haP q w m A (anN A y) y) (A + 1) ∧ vs = vHa b off m cap seats (A : Nat) (y : Nat) ((1 : Nat) : Int) ∧ ms = [] ∧ os = []⟩)
        [(1, ⟨lvHy, [], fun vs ms os => hyP q w m A seats y = false ∧ vs = vHy b off m cap seats (A : Nat) (y : Nat) ∧ ms = [] ∧ os = []⟩)] (fun p hp => by simp only [List.mem_cons, List.not_mem_nil, or_false] at hp; subst hp; rfl) ?_ ?_
      · rintro vs ms os ⟨hyE, rfl, rfl, rfl⟩
        refine Go.Ev.Reach.blockC (Go.Ev.Reach.loopC (j := A) (lv := lvHa) (fl := []) (I := fun j vs ms os => ∃ a, 1 ≤ a ∧ a ≤ A + 1 ∧ j = A + 1 - a ∧ anyN (haP q w m A (anN A y) y) a = false ∧ vs = vHa b off m cap seats (A : Nat) (y : Nat) (a : Nat) ∧ ms = [] ∧ os = []) (fun j vs ms os hI => ?_) ⟨1, by omega, by omega, by omega, ?_, rfl, rfl, rfl⟩)
        · obtain ⟨a, ha1, ha2, rfl, hanyA, rfl, rfl, rfl⟩ := hI
          refine Go.Ev.Reach.seqC (o1 := ⟨lvHa, [], fun vs ms os => a ≤ A ∧ vs = vHa b off m cap seats (A : Nat) (y : Nat) (a : Nat) ∧ ms = [] ∧ os = []⟩) (Go.Ev.Reach.segR (SC_ok r) TOk.nil (tm := .nil) (L := 1) (L' := 1) (d := 1) hF hro h0 [(2, ⟨lvHy, [], fun vs ms os => hyP q w m A seats y = false ∧ vs = vHy b off m cap seats (A : Nat) (y : Nat) ∧ ms = [] ∧ os = []⟩)] (fun p hp => by simp only [List.mem_cons, List.not_mem_nil, or_false] at hp; subst hp; rfl) ?_) ?_
          · have hn := hsD r b off m cap m seats (A : Nat) y a
            rw [dle] at hn
            by_cases c : a ≤ A
            · rw [decide_eq_true c] at hn
              exact (hn _ _ _ _).trans (qq_ok ⟨c, rfl, rfl, rfl⟩)
            · rw [decide_eq_false c] at hn
              obtain rfl : a = A + 1 := by omega
              exact (hn _ _ _ _).trans (qq_ok ⟨by rw [hyE]; exact hanyA, rfl, rfl, rfl⟩)
          rintro vs ms os ⟨haA, rfl, rfl, rfl⟩
          refine Go.Ev.Reach.seqC (o1 := ⟨lvHa, [], fun vs ms os => haP q w m A (anN A y) y a = false ∧ vs = vHa b off m cap seats (A : Nat) (y : Nat) (a : Nat) ∧ ms = [] ∧ os = []⟩) (Go.Ev.Reach.blockC ?_) ?_
          · refine Go.Ev.Reach.afterR (SC_ok r) ht (tm := .nil) (L := 1) (L' := 1) (d := 1) hF hro h0 (.step .base)
              (o1 := ⟨lvHb, [], fun vs ms os => haP q w m A (anN A y) y a = anyN (hbP q w m (anN A y) y a) (A + 1) ∧ vs = vHb b off m cap seats (A : Nat) (y : Nat) (a : Nat) (a : Nat) ∧ ms = [] ∧ os = []⟩)
              [(3, ⟨lvHa, [], fun vs ms os => haP q w m A (anN A y) y a = false ∧ vs = vHa b off m cap seats (A : Nat) (y : Nat) (a : Nat) ∧ ms = [] ∧ os = []⟩)] (fun p hp => by simp only [List.mem_cons, List.not_mem_nil, or_false] at hp; subst hp; rfl) ?_ ?_
            · rintro vs ms os ⟨haE, rfl, rfl, rfl⟩
              have hret : ∀ c, c ≤ A → hbP q w m (anN A y) y a c = true → hsP q w m A seats = true := fun c hc h => any_true (t := y) (by rw [hyE]; exact any_true (t := a) (by rw [haE]; exact any_true h _ (by omega)) _ (by omega)) _ (by omega)
              refine Go.Ev.Reach.blockC (Go.Ev.Reach.loopC (j := A + 1 - a) (lv := lvHb) (fl := []) (I := fun j vs ms os => ∃ c, a ≤ c ∧ c ≤ A + 1 ∧ j = A + 1 - c ∧ anyN (hbP q w m (anN A y) y a) c = false ∧ vs = vHb b off m cap seats (A : Nat) (y : Nat) (a : Nat) (c : Nat) ∧ ms = [] ∧ os = []) (fun j vs ms os hI => ?_) ⟨a, by omega, by omega, rfl, any_of fun k hk => by unfold hbP; rw [decide_eq_false (show ¬ a ≤ k by omega)]; rfl, rfl, rfl, rfl⟩)
              obtain ⟨c, hc1, hc2, rfl, hanyC, rfl, rfl, rfl⟩ := hI
              refine Go.Ev.Reach.seqC (o1 := ⟨lvHb, [], fun vs ms os => c ≤ A ∧ vs = vHb b off m cap seats (A : Nat) (y : Nat) (a : Nat) (c : Nat) ∧ ms = [] ∧ os = []⟩) (Go.Ev.Reach.segR (SC_ok r) TOk.nil (tm := .nil) (L := 1) (L' := 1) (d := 1) hF hro h0 [(4, ⟨lvHa, [], fun vs ms os => haP q w m A (anN A y) y a = false ∧ vs = vHa b off m cap seats (A : Nat) (y : Nat) (a : Nat) ∧ ms = [] ∧ os = []⟩)] (fun p hp => by simp only [List.mem_cons, List.not_mem_nil, or_false] at hp; subst hp; rfl) ?_) ?_
              · have hn := hsF r b off m cap m seats (A : Nat) y a c
                rw [dle] at hn
                by_cases cc : c ≤ A
                · rw [decide_eq_true cc] at hn
                  exact (hn _ _ _ _).trans (qq_ok ⟨cc, rfl, rfl, rfl⟩)
                · rw [decide_eq_false cc] at hn
                  obtain rfl : c = A + 1 := by omega
                  exact (hn _ _ _ _).trans (qq_ok ⟨by rw [haE]; exact hanyC, rfl, rfl, rfl⟩)
              rintro vs ms os ⟨hcA, rfl, rfl, rfl⟩
              refine Go.Ev.Reach.seqC (o1 := ⟨lvHb, [], fun vs ms os => hbP q w m (anN A y) y a c = false ∧ vs = vHb b off m cap seats (A : Nat) (y : Nat) (a : Nat) (c : Nat) ∧ ms = [] ∧ os = []⟩) (Go.Ev.Reach.blockC ?_) ?_
              · refine Go.Ev.Reach.after3R (SC_ok r) ht (tm := .nil) (L := 1) (L' := 1) (d := 1) hF hro h0 (.step (.step .base))
                  (o1 := ⟨lvHi, [], fun vs ms os => hbP q w m (anN A y) y a c = decide (thN w (anN A y) a c m ≤ popN 16 a + popN 16 c) ∧ vs = vHi b off m cap seats (A : Nat) (y : Nat) (a : Nat) (c : Nat) 0 0 ∧ ms = [] ∧ os = []⟩)
                  (o2 := ⟨[0, 1, 5, 6, 7, 8, 9], [], fun vs ms os => hbP q w m (anN A y) y a c = decide (thN w (anN A y) a c m ≤ popN 16 a + popN 16 c) ∧ vs = vHb b off m cap seats (A : Nat) (y : Nat) (a : Nat) (c : Nat) ++ [some (I (thN w (anN A y) a c m : Nat))] ∧ ms = [] ∧ os = []⟩)
                  [(5, ⟨lvHb, [], fun vs ms os => hbP q w m (anN A y) y a c = false ∧ vs = vHb b off m cap seats (A : Nat) (y : Nat) (a : Nat) (c : Nat) ∧ ms = [] ∧ os = []⟩)] (fun p hp => by simp only [List.mem_cons, List.not_mem_nil, or_false] at hp; subst hp; rfl) ?_ ?_ ?_
                · rintro vs ms os ⟨hbE, rfl, rfl, rfl⟩
                  refine Go.Ev.Reach.blockC (Go.Ev.Reach.loopC (j := m) (lv := lvHi) (fl := []) (I := fun j vs ms os => ∃ i, i ≤ m ∧ j = m - i ∧ vs = vHi b off m cap seats (A : Nat) (y : Nat) (a : Nat) (c : Nat) (thN w (anN A y) a c i : Nat) (i : Nat) ∧ ms = [] ∧ os = []) (fun j vs ms os hI => ?_) ⟨0, by omega, rfl, rfl, rfl, rfl⟩)
                  obtain ⟨i, hi, rfl, rfl, rfl, rfl⟩ := hI
                  refine Go.Ev.Reach.segR (SC_ok r) TOk.nil (tm := .nil) (L := 1) (L' := 1) (d := 1) hF hro h0 [(6, ⟨[0, 1, 5, 6, 7, 8, 9], [], fun vs ms os => hbP q w m (anN A y) y a c = decide (thN w (anN A y) a c m ≤ popN 16 a + popN 16 c) ∧ vs = vHb b off m cap seats (A : Nat) (y : Nat) (a : Nat) (c : Nat) ++ [some (I (thN w (anN A y) a c m : Nat))] ∧ ms = [] ∧ os = []⟩)] (fun p hp => by simp only [List.mem_cons, List.not_mem_nil, or_false] at hp; subst hp; rfl) ?_
                  have hn := hsH r b off m cap m seats (A : Nat) y a c (thN w (anN A y) a c i : Nat) i
                  have htl := th_le w (anN A y) a c i
                  by_cases ci : i < m
                  · have c1 : ((i : Nat) : Int) < Int.ofNat m := by simp; omega
                    have c4 : ¬ ((i : Nat) : Int) < 0 := by omega
                    have c2 : (0 : Int) ≤ ((i : Nat) : Int) := by omega
                    have c3 : Nat.blt i m = true := Nat.ble_eq_true_of_le ci
                    have e1 : r b (Nat.add off (Nat.mul i 1)) = some (I (w i : Nat)) := by rw [Nat.mul_eq, Nat.mul_one]; exact hr i ci
                    have e4 : ∀ z : Nat, z < 65536 → ibits .and .i64 ((w i : Nat) : Int) ((z : Nat) : Int) = ((w i &&& z : Nat) : Int) := fun z hz => (iO (hw i ci) hz).2.1
                    have hS : thN w (anN A y) a c (i + 1) = thN w (anN A y) a c i + if (btN (anN A y) i && (!(w i &&& a == 0) && !(w i &&& c == 0))) = true then 1 else 0 := rfl
                    simp only [dT c1, dF c4, dT c2, Bool.not_false, cond_true, iAn (show A < 65536 by omega) (show y < 65536 by omega), Int.toNat_natCast, bitT (show i ≤ 16 by omega), c3, e1, show isI IntKind.i64 (I (w i : Nat)) = true from rfl, show ofI (I (w i : Nat)) = ((w i : Nat) : Int) from rfl, e4 a (by omega), e4 c (by omega), ne0, iInc (show i < 1000000 by omega), iInc (show thN w (anN A y) a c i < 1000000 by omega)] at hn
                    have fin : ∀ t : Nat, t = thN w (anN A y) a c (i + 1) → ∃ j', j' < m - i ∧ ∃ i', i' ≤ m ∧ j' = m - i' ∧ [some (RS b off m cap), some (I seats), some (I (A : Nat)), some (I (y : Nat)), some (I (a : Nat)), some (I (c : Nat)), some (I (t : Nat)), some (I ((i + 1 : Nat) : Int))] = vHi b off m cap seats (A : Nat) (y : Nat) (a : Nat) (c : Nat) (thN w (anN A y) a c i' : Nat) (i' : Nat) ∧ ([] : List Nat) = [] ∧ ([] : OO) = [] := fun t ht => ⟨m - (i + 1), by omega, i + 1, ci, rfl, by rw [ht]; rfl, rfl, rfl⟩
                    cases hb1 : btN (anN A y) i with
                    | false =>
                      simp only [hb1, cond_false] at hn
                      exact (hn _ _ _ _).trans (qq_ok (fin _ (by rw [hS, hb1]; rfl)))
                    | true =>
                      cases hb2 : (w i &&& a == 0) with
                      | true =>
                        simp only [hb1, hb2, cond_true, Bool.not_true, cond_false] at hn
                        exact (hn _ _ _ _).trans (qq_ok (fin _ (by rw [hS, hb1, hb2]; rfl)))
                      | false =>
                        cases hb3 : (w i &&& c == 0) with
                        | true =>
                          simp only [hb1, hb2, hb3, cond_true, Bool.not_true, Bool.not_false, cond_false] at hn
                          exact (hn _ _ _ _).trans (qq_ok (fin _ (by rw [hS, hb1, hb2, hb3]; rfl)))
                        | false =>
                          simp only [hb1, hb2, hb3, cond_true, Bool.not_false] at hn
                          exact (hn _ _ _ _).trans (qq_ok (fin _ (by rw [hS, hb1, hb2, hb3]; rfl)))
                  · obtain rfl : i = m := by omega
                    simp only [dF (show ¬ ((i : Nat) : Int) < Int.ofNat i by simp), cond_false] at hn
                    exact (hn _ _ _ _).trans (qq_ok ⟨hbE, rfl, rfl, rfl⟩)
                · rintro vs ms os ⟨hbE, rfl, rfl, rfl⟩
                  refine Go.Ev.Reach.segR (SC_ok r) ht (tm := .nil) (L := 1) (L' := 1) (d := 1) hF hro h0 [] (fun p hp => nomatch hp) ?_
                  have hn := hsI r b off m cap m seats (A : Nat) y a c (thN w (anN A y) a c m : Nat) fun s => q s.toNat
                  have wp : IntKind.wrap IntKind.i64 (((popN 16 a : Nat) : Int) + ((popN 16 c : Nat) : Int)) = ((popN 16 a + popN 16 c : Nat) : Int) := by
                    have := pop_small a
                    have := pop_small c
                    rw [wrI (by omega)]
                    omega
                  simp only [pG a (by omega), pG c (by omega), mp, wp, dge, cond_true] at hn
                  by_cases cc : thN w (anN A y) a c m ≤ popN 16 a + popN 16 c
                  · simp only [decide_eq_true cc, cond_true] at hn
                    rw [decide_eq_true cc] at hbE
                    exact (hn _ _ _).trans (qq_ok ⟨by rw [hret c hcA hbE], rfl, rfl⟩)
                  · simp only [decide_eq_false cc, cond_false] at hn
                    rw [decide_eq_false cc] at hbE
                    exact (hn _ _ _).trans (qq_ok ⟨hbE, rfl, rfl, rfl⟩)
                · have hn := hsG r b off m cap m seats (A : Nat) y a c fun s => q s.toNat
                  simp only [iAn (show c < 65536 by omega) (show y < 65536 by omega), ne0, sm, w10 c (by omega), Int.toNat_natCast, Bool.true_and, cond_true] at hn
                  cases hb1 : (anN c y == 0) with
                  | false =>
                    simp only [hb1, Bool.not_false, cond_true] at hn
                    exact (hn _ _ _).trans (qq_ok ⟨by unfold hbP; rw [hb1]; simp, rfl, rfl, rfl⟩)
                  | true =>
                    simp only [hb1, Bool.not_true, cond_false] at hn
                    cases hqc : q c with
                    | false =>
                      simp only [hqc, cond_false] at hn
                      exact (hn _ _ _).trans (qq_ok ⟨by unfold hbP; rw [hqc]; simp, rfl, rfl, rfl⟩)
                    | true =>
                      simp only [hqc, cond_true] at hn
                      exact (hn _ _ _).trans (qq_ok ⟨by unfold hbP; rw [hqc, hb1, decide_eq_true hc1]; rfl, rfl, rfl, rfl⟩)
              · rintro vs ms os ⟨hP, rfl, rfl, rfl⟩
                have hn := hsJ r b off m cap m seats (A : Nat) y a c
                rw [iInc (by omega)] at hn
                exact Go.Ev.Reach.segR (SC_ok r) TOk.nil (tm := .nil) (L := 1) (L' := 1) (d := 1) hF hro h0 [] (fun p hp => nomatch hp) ((hn _ _ _ _).trans (qq_ok ⟨A + 1 - (c + 1), by omega, c + 1, by omega, by omega, rfl, by rw [anyN, hanyC, hP]; rfl, rfl, rfl, rfl⟩))
            · have hn := hsE r b off m cap m seats (A : Nat) y a fun s => q s.toNat
              simp only [iAn (show a < 65536 by omega) (show y < 65536 by omega), ne0, sm, w10 a (by omega), Int.toNat_natCast, Bool.true_and, cond_true] at hn
              cases hb1 : (anN a y == 0) with
              | false =>
                simp only [hb1, Bool.not_false, cond_true] at hn
                exact (hn _ _ _).trans (qq_ok ⟨by unfold haP; rw [hb1]; simp, rfl, rfl, rfl⟩)
              | true =>
                simp only [hb1, Bool.not_true, cond_false] at hn
                cases hqa : q a with
                | false =>
                  simp only [hqa, cond_false] at hn
                  exact (hn _ _ _).trans (qq_ok ⟨by unfold haP; rw [hqa]; simp, rfl, rfl, rfl⟩)
                | true =>
                  simp only [hqa, cond_true] at hn
                  exact (hn _ _ _).trans (qq_ok ⟨by unfold haP; rw [hqa, hb1, show (a == 0) = false by simp; omega]; simp, rfl, rfl, rfl⟩)
          · rintro vs ms os ⟨hP, rfl, rfl, rfl⟩
            have hn := hsK r b off m cap m seats (A : Nat) y a
            rw [iInc (by omega)] at hn
            exact Go.Ev.Reach.segR (SC_ok r) TOk.nil (tm := .nil) (L := 1) (L' := 1) (d := 1) hF hro h0 [] (fun p hp => nomatch hp) ((hn _ _ _ _).trans (qq_ok ⟨A + 1 - (a + 1), by omega, a + 1, by omega, by omega, rfl, by rw [anyN, hanyA, hP]; rfl, rfl, rfl, rfl⟩))
        · exact any_of fun k hk => by obtain rfl : k = 0 := by omega
                                      unfold haP; rfl
      · have hn := hsC r b off m cap m seats (A : Nat) y fun s => q s.toNat
        simp only [pG y (by omega), mp, iAn (show A < 65536 by omega) (show y < 65536 by omega), sm, w10 _ hx, Int.toNat_natCast, Bool.true_and, cond_true] at hn
        by_cases c : ((popN 16 y : Nat) : Int) > seats
        · simp only [decide_eq_true c, cond_true] at hn
          exact (hn _ _ _).trans (qq_ok ⟨by unfold hyP; rw [decide_eq_true c]; simp, rfl, rfl, rfl⟩)
        · simp only [decide_eq_false c, cond_false] at hn
          cases hqx : q (anN A y) with
          | false =>
            simp only [hqx, cond_false] at hn
            exact (hn _ _ _).trans (qq_ok ⟨by unfold hyP; rw [hqx]; simp, rfl, rfl, rfl⟩)
          | true =>
            simp only [hqx, cond_true] at hn
            exact (hn _ _ _).trans (qq_ok ⟨by unfold hyP; rw [hqx, decide_eq_false c, show (y == 0) = false by simp; omega]; simp, rfl, rfl, rfl⟩)
    · rintro vs ms os ⟨hP, rfl, rfl, rfl⟩
      have hn := hsL r b off m cap m seats (A : Nat) y
      rw [iInc (by omega)] at hn
      exact Go.Ev.Reach.segR (SC_ok r) TOk.nil (tm := .nil) (L := 1) (L' := 1) (d := 1) hF hro h0 [] (fun p hp => nomatch hp) ((hn _ _ _ _).trans (qq_ok ⟨A + 1 - (y + 1), by omega, y + 1, by omega, by omega, rfl, by rw [anyN, hany, hP]; rfl, rfl, rfl, rfl⟩))
  · rintro vs ms os ⟨hP, rfl, rfl, rfl⟩
    exact Go.Ev.Reach.segR (SC_ok r) TOk.nil (tm := .nil) (L := 1) (L' := 1) (d := 1) hF hro h0 [] (fun p hp => nomatch hp) ((hsM r _ _ _ _).trans (qq_ok ⟨by rw [hP], rfl, rfl⟩))
  · have hn := hsA r b off m cap m seats (A : Nat) fun s => q s.toNat
    simp only [sm, eA, cond_true] at hn
    exact (hn _ _ _).trans (qq_ok ⟨A, 1, by omega, by omega, by omega, rfl, rfl, rfl, rfl⟩)

end Go.Proofs

/- A row of pairs of the caller's, as memory. -/
namespace Go.Proofs
open Go Go.Ev Go.Num
set_option linter.unusedVariables false
set_option linter.unusedSimpArgs false
set_option maxRecDepth 100000

/-- A row of pairs of the caller's. -/
noncomputable def m_okL2 (c : List Value) (k len : Nat) : Bool := @decide (len ≤ 1000000 ∧ ∀ j, j < 2 * len → ∃ z : Int, c[k + j]? = some (I z)) (Classical.propDecidable _)
def zAt2 (c : List Value) (j : Nat) : Int := match c[j]? with
  | some (.int _ z) => z
  | _ => 0
theorem memW_tab {r : Mem} (hm : ∀ b j u, tabM b j = some u → r b j = some u) {γ : Gam} {W : World} (hR : Ro r γ W) : ∀ b j u, tabM b j = some u → memW W b j = some u := fun b j u h => by
  have hg : gnd u = true := by
    unfold tabM at h
    split at h
    · unfold memL u8s at h
      rw [List.getElem?_map] at h
      cases h1 : tab64[j]? with
      | none => rw [h1] at h; cases h
      | some x => rw [h1] at h; cases h; rfl
    · split at h
      · unfold memL u8s at h
        rw [List.getElem?_map] at h
        cases h1 : tab32[j]? with
        | none => rw [h1] at h; cases h
        | some x => rw [h1] at h; cases h; rfl
      · cases h
  obtain ⟨_, cc, e, fr, v', h1, h2, h3⟩ := hR b j u (hm b j u h)
  have := (h3 γ).eq_of_gnd hg
  subst this
  unfold memW
  rw [h1]
  simp only [h2, Option.bind_some]
  exact mark_gnd hg

/-- A row of pairs of the caller's, as memory that is read; more arguments behind it. -/
theorem own_mem {r : Mem} {γ : Gam} {A : AW} {W : World} (hw : WRel γ A W) (hR : Ro r γ W) {n : Int} {i k len cap : Nat} {c l : List Value} {e f z : Nat} (hget : A.heap.get i = some (.cells c e f z)) (hok : m_okL2 c k len = true) (hcap : Nat.beq cap unkE = false) (hl : gnds l = true)
    {args' : Array Value} (ha : VsRel γ (.int .i64 n :: .slice (some ⟨i, k, none⟩) len cap :: l) args'.toList) :
    ∃ b k', VsRel noG (I n :: RS2 b k' len 0 :: l) args'.toList ∧ rowAt (memW W) b k' (2 * len) (fun j => zAt2 c (k + j)) ∧ len ≤ 1000000 := by
  obtain ⟨h1, h2⟩ := @of_decide_eq_true _ (Classical.propDecidable _) hok
  obtain ⟨la⟩ := args'
  cases ha with
  | cons hn hrest =>
  cases hn
  cases hrest with
  | cons hv hrest =>
  obtain ⟨b, k', c', rfl, hrd⟩ := rd_world hw hR hv hcap
  refine ⟨b, k', .cons (.int _ _) (.cons (.sliceRo _ _ _ _ _ _ (by decide) (Nat.zero_le _)) ?_), fun j hj => ?_, h1⟩
  · rw [hrest.eq_of_gnds hl]
    exact VsRel.of_gnds noG l hl
  · obtain ⟨z, hz⟩ := h2 j hj
    have e1 : zAt2 c (k + j) = z := by unfold zAt2; rw [hz]
    show memW W b (k' + j) = some (I (zAt2 c (k + j)))
    rw [e1]
    refine hrd j _ ?_ rfl
    simp only [AW.rd, AW.cell, hget]
    exact hz

theorem natFK2 {i j : Nat} (h : i ≠ j) : Nat.beq i j = false := by
  cases e : Nat.beq i j with
  | false => rfl
  | true => exact absurd (Nat.eq_of_beq_eq_true e) h

abbrev Tab (r : Mem) : Prop := ∀ b j u, tabM b j = some u → r b j = some u


end Go.Proofs

/- Structures of passengers: what the calls answer. -/
namespace Go.Num
open Go.Proofs

theorem orN_get {ws : List Nat} {u v i : Nat} (hu : u < ws.length) : (orN ws u v).getD i 0 = if u = i then ws.getD u 0 ||| 2 ^ v else ws.getD i 0 := by
  unfold orN
  simp only [List.getD_eq_getElem?_getD, List.getElem?_set]
  by_cases c : u = i
  · subst c; rw [if_pos rfl, if_pos hu, if_pos rfl]; rfl
  · rw [if_neg c, if_neg c]
theorem nb_ext {M m : Nat} (hmM : m ≤ M) (z : Nat → Int) : ∀ k, (∀ i, i < k → 0 ≤ ea z i ∧ ea z i < eb z i ∧ eb z i < m) → ∀ i, i < m → (nbN M z k).getD i 0 = (nbN m z k).getD i 0
  | 0, _, i, hi => by
    rw [nbN, nbN, List.getD_eq_getElem?_getD, List.getD_eq_getElem?_getD, List.getElem?_replicate_of_lt (by omega), List.getElem?_replicate_of_lt hi]
  | k + 1, h, i, hi => by
    have ih := nb_ext hmM z k fun i hi => h i (by omega)
    obtain ⟨h1, h2, h3⟩ := h k (by omega)
    have hx : (ea z k).toNat < m := by omega
    have hy : (eb z k).toNat < m := by omega
    have l1 := nbN_len M z k
    have l2 := nbN_len m z k
    have st : ∀ (ws vs : List Nat) (x y : Nat), x < m → m ≤ ws.length → m ≤ vs.length → (∀ i, i < m → ws.getD i 0 = vs.getD i 0) → ∀ i, i < m → (orN ws x y).getD i 0 = (orN vs x y).getD i 0 := fun ws vs x y hx h1 h2 hh i hi => by
      rw [orN_get (ws := ws) (by omega), orN_get (ws := vs) (by omega), hh x hx, hh i hi]
    rw [nbN, nbN, jnN, jnN]
    exact st _ _ _ _ hy (by rw [orN_len]; omega) (by rw [orN_len]; omega) (st _ _ _ _ hx (by omega) (by omega) ih) i hi
theorem stI_congr {m : Nat} {q q' : Nat → Bool} (h : ∀ s, s < 2 ^ m → q s = q' s) (seats x0 x1 x2 x3 x4 : Int) : stI (2 ^ m - 1) q seats x0 x1 x2 x3 x4 = stI (2 ^ m - 1) q' seats x0 x1 x2 x3 x4 := by
  unfold stI
  have hpos := Nat.two_pow_pos m
  have gi : ∀ x : Int, inA (2 ^ m - 1) x = true → x.toNat < 2 ^ m := fun x h => by
    unfold inA at h
    rw [Bool.and_eq_true, decide_eq_true_eq, decide_eq_true_eq] at h
    omega
  cases c0 : inA (2 ^ m - 1) x0 with
  | false => simp
  | true =>
  cases c1 : inA (2 ^ m - 1) x1 with
  | false => simp
  | true =>
  cases c2 : inA (2 ^ m - 1) x2 with
  | false => simp
  | true =>
  cases c3 : inA (2 ^ m - 1) x3 with
  | false => simp
  | true =>
  cases c4 : inA (2 ^ m - 1) x4 with
  | false => simp
  | true =>
    unfold stN
    rw [h _ (Nat.or_lt_two_pow (Nat.or_lt_two_pow (gi _ c0) (gi _ c1)) (gi _ c2)), h _ (Nat.or_lt_two_pow (gi _ c0) (gi _ c3)), h _ (Nat.or_lt_two_pow (gi _ c1) (gi _ c4))]

end Go.Num
namespace Go.Proofs
open Go Go.Ev Go.Num
set_option linter.unusedVariables false
set_option linter.unusedSimpArgs false
set_option maxRecDepth 100000

theorem fiB (r : Mem) (n seats : Int) (V : Bool) (b off len cap : Nat) (w0 w1 w2 w3 w4 w5 w6 w7 w8 w9 x0 x1 x2 x3 x4 : Int) : (lvlT (SC r) (tcons 24 (entV [I n, RS2 b off len cap] (.tuple ⟨[.agg ⟨[I n, U w0, U w1, U w2, U w3, U w4, U w5, U w6, U w7, U w8, U w9]⟩, I 0]⟩)) (tcons 33 (entV [.agg ⟨[I n, U w0, U w1, U w2, U w3, U w4, U w5, U w6, U w7, U w8, U w9]⟩, I seats, .agg ⟨[I x0, I x1, I x2, I x3, I x4]⟩] (.bool V)) fun _ => none)) .nil 1 3).call 22 [I n, RS2 b off len cap, I seats, .agg ⟨[I x0, I x1, I x2, I x3, I x4]⟩] emptyA fin =
    bif m_same [Value.int IntKind.i64 n, Value.slice (some (Addr.mk b off (some 0))) len cap] [Value.int IntKind.i64 n, Value.slice (some (Addr.mk b off (some 0))) len cap] then bif m_same [Value.agg (Array.mk [Value.int IntKind.i64 n, Value.int IntKind.u64 w0, Value.int IntKind.u64 w1, Value.int IntKind.u64 w2, Value.int IntKind.u64 w3, Value.int IntKind.u64 w4, Value.int IntKind.u64 w5, Value.int IntKind.u64 w6, Value.int IntKind.u64 w7, Value.int IntKind.u64 w8, Value.int IntKind.u64 w9]), Value.int IntKind.i64 seats, Value.agg (Array.mk [Value.int IntKind.i64 x0, Value.int IntKind.i64 x1, Value.int IntKind.i64 x2, Value.int IntKind.i64 x3, Value.int IntKind.i64 x4])] [Value.agg (Array.mk [Value.int IntKind.i64 n, Value.int IntKind.u64 w0, Value.int IntKind.u64 w1, Value.int IntKind.u64 w2, Value.int IntKind.u64 w3, Value.int IntKind.u64 w4, Value.int IntKind.u64 w5, Value.int IntKind.u64 w6, Value.int IntKind.u64 w7, Value.int IntKind.u64 w8, Value.int IntKind.u64 w9]), Value.int IntKind.i64 seats, Value.agg (Array.mk [Value.int IntKind.i64 x0, Value.int IntKind.i64 x1, Value.int IntKind.i64 x2, Value.int IntKind.i64 x3, Value.int IntKind.i64 x4])] then bif V then CR.ret (Value.bool true) (AW.mk 0 Tr.nil Tr.nil) else CR.ret (Value.bool false) (AW.mk 0 Tr.nil Tr.nil) else CR.fail 420 else CR.fail 420 := by kernel_rfl

theorem fiN (r : Mem) (n seats : Int) (V : Bool) (w0 w1 w2 w3 w4 w5 w6 w7 w8 w9 x0 x1 x2 x3 x4 : Int) : (lvlT (SC r) (tcons 24 (entV [I n, .slice none 0 0] (.tuple ⟨[.agg ⟨[I n, U w0, U w1, U w2, U w3, U w4, U w5, U w6, U w7, U w8, U w9]⟩, I 0]⟩)) (tcons 33 (entV [.agg ⟨[I n, U w0, U w1, U w2, U w3, U w4, U w5, U w6, U w7, U w8, U w9]⟩, I seats, .agg ⟨[I x0, I x1, I x2, I x3, I x4]⟩] (.bool V)) fun _ => none)) .nil 1 3).call 22 [I n, .slice none 0 0, I seats, .agg ⟨[I x0, I x1, I x2, I x3, I x4]⟩] emptyA fin =
    bif m_same [Value.int IntKind.i64 n, Value.slice none 0 0] [Value.int IntKind.i64 n, Value.slice none 0 0] then bif m_same [Value.agg (Array.mk [Value.int IntKind.i64 n, Value.int IntKind.u64 w0, Value.int IntKind.u64 w1, Value.int IntKind.u64 w2, Value.int IntKind.u64 w3, Value.int IntKind.u64 w4, Value.int IntKind.u64 w5, Value.int IntKind.u64 w6, Value.int IntKind.u64 w7, Value.int IntKind.u64 w8, Value.int IntKind.u64 w9]), Value.int IntKind.i64 seats, Value.agg (Array.mk [Value.int IntKind.i64 x0, Value.int IntKind.i64 x1, Value.int IntKind.i64 x2, Value.int IntKind.i64 x3, Value.int IntKind.i64 x4])] [Value.agg (Array.mk [Value.int IntKind.i64 n, Value.int IntKind.u64 w0, Value.int IntKind.u64 w1, Value.int IntKind.u64 w2, Value.int IntKind.u64 w3, Value.int IntKind.u64 w4, Value.int IntKind.u64 w5, Value.int IntKind.u64 w6, Value.int IntKind.u64 w7, Value.int IntKind.u64 w8, Value.int IntKind.u64 w9]), Value.int IntKind.i64 seats, Value.agg (Array.mk [Value.int IntKind.i64 x0, Value.int IntKind.i64 x1, Value.int IntKind.i64 x2, Value.int IntKind.i64 x3, Value.int IntKind.i64 x4])] then bif V then CR.ret (Value.bool true) (AW.mk 0 Tr.nil Tr.nil) else CR.ret (Value.bool false) (AW.mk 0 Tr.nil Tr.nil) else CR.fail 420 else CR.fail 420 := by kernel_rfl

theorem fpcN (r : Mem) (n : Int) : (lvlT (SC r) (fun _ => none) .nil 2 3).call 34 [I n, .slice none 0 0] emptyA fin =
    bif decide (n < 1) then CR.ret (Value.int IntKind.i64 (Int.ofNat 1)) (AW.mk 0 Tr.nil Tr.nil) else bif decide (n > 16) then CR.ret (Value.int IntKind.i64 (Int.ofNat 1)) (AW.mk 0 Tr.nil Tr.nil) else CR.ret (Value.int IntKind.i64 (Int.ofNat 0)) (AW.mk 0 Tr.nil Tr.nil) := by kernel_rfl

def stF (m : Nat) (E : List (Nat × Nat)) (seats x0 x1 x2 x3 x4 : Int) : Bool := stI (2 ^ m - 1) (fun s => quN (fun i => (nbN 10 (zE E) E.length).getD i 0) s 10) seats x0 x1 x2 x3 x4

theorem nb10_lt {m : Nat} (hm : m ≤ 10) {E : List (Nat × Nat)} (hE : okAll (m : Int) (zE E) E.length = true) : ∀ w ∈ nbN 10 (zE E) E.length, w < 65536 :=
  nbN_lt 10 (zE E) (n := (m : Int)) (by omega) E.length fun i hi => okAll_at hE i hi

theorem fIs_ok (r : Mem) (hm : ∀ b j u, tabM b j = some u → r b j = some u) (m : Nat) (h1 : 1 ≤ m) (hm10 : m ≤ 10) (E : List (Nat × Nat)) (hE : okAll (m : Int) (zE E) E.length = true) (hl : E.length ≤ 1000000) (b off cap : Nat) (hz : rowAt r b off (2 * E.length) (zE E)) (seats x0 x1 x2 x3 x4 : Int) (r0 : rng x0) (r1 : rng x1) (r2 : rng x2) (r3 : rng x3) (r4 : rng x4) :
    GrT Tryd.prog r 22 [I (m : Nat), RS2 b off E.length cap, I seats, .agg ⟨[I x0, I x1, I x2, I x3, I x4]⟩] (.bool (stF m E seats x0 x1 x2 x3 x4)) := by
  have hck : ckG (m : Int) (zE E) E.length = 0 := by unfold ckG; rw [if_neg (by omega), if_pos hE]
  have hr := fread_ok r hm (m : Nat) (by omega) b off E.length cap (zE E) hz hl hck
  have hs := isstr_ok r hm m hm10 (nbN 10 (zE E) E.length) (nbN_len 10 _ _) (nb10_lt hm10 hE) seats x0 x1 x2 x3 x4 r0 r1 r2 r3 r4
  unfold stF
  generalize stI (2 ^ m - 1) _ seats x0 x1 x2 x3 x4 = V at hs ⊢
  obtain ⟨a0, a1, a2, a3, a4, a5, a6, a7, a8, a9, _, hp⟩ := pgC10 (m : Nat) (nbN_len 10 (zE E) E.length)
  rw [hp] at hr hs
  refine GrT.of (SC_ok r) (TOk.cons (TOk.cons TOk.nil (entV_ok hs rfl)) (entV_ok hr rfl)) .nil rfl ⟨1, 3, (fiB r (m : Nat) seats V b off E.length cap a0 a1 a2 a3 a4 a5 a6 a7 a8 a9 x0 x1 x2 x3 x4).trans ?_⟩
  rw [show m_same _ _ = true from same_rfl _, show m_same _ _ = true from same_rfl _]
  cases V <;> rfl

theorem freadN_ok (r : Mem) (m : Nat) (h1 : 1 ≤ m) (hm10 : m ≤ 10) (z : Nat → Int) :
    GrT Tryd.prog r 24 [I (m : Nat), .slice none 0 0] (.tuple ⟨[.agg ⟨pgC (m : Nat) (nbN 10 z 0)⟩, I 0]⟩) := by
  have hck : GrT Tryd.prog r 34 [I (m : Nat), .slice none 0 0] (I 0) := by
    refine GrT.of (SC_ok r) TOk.nil .nil rfl ⟨2, 3, (fpcN r (m : Nat)).trans ?_⟩
    rw [dF (show ¬ ((m : Nat) : Int) < 1 by omega), cond_false, dF (show ¬ ((m : Nat) : Int) > 16 by omega), cond_false]
    rfl
  refine GrT.ofS (C := SC r) rfl rfl (by show (gnds (pgC (m : Nat) (nbN 10 z 0)) && true) = true; rw [pgC_gnd]; rfl) (callL (SC_ok r) (by kernel_rfl) ((bodySC r _).trans Fr_eq) (nt := 54) (by kernel_rfl) (rs := [.cell 4 54, .tmp 5]) (by kernel_rfl) 117444339 rfl (.step (.step (.step (.step .base)))) (show TOk (SC r) (tFc [I (m : Nat), .slice none 0 0] 0) from TOk.cons TOk.nil (entV_ok hck rfl)) (tm := .nil) (L := 1) (d := 1) lvFr [.g, .g]
    (fun j vs ms os => vs = [some (P0 0), some (P0 1), some (.slice none 0 0), some (I 0), some (I 0)] ∧ ms = [] ∧ os = frO (m : Nat) z 0)
    ⟨[4, 7], [], fun vs ms os => vs = [some (P0 0), some (P0 1)] ∧ ms = [] ∧ os = frO (m : Nat) z 0⟩
    ⟨[4, 5], [], fun vs ms os => vs = [some (P0 0), some (I 0)] ∧ ms = [] ∧ os = [some (.cells (pgC (m : Nat) (nbN 10 z 0)) 54 0 0)]⟩ ?_ ?_ ?_ ?_)
  · have hn := frZ r (m : Nat)
    rw [show m_same _ _ = true from same_rfl _] at hn
    simp only [cond_true, dF (show ¬ ((m : Nat) : Int) > 10 by omega), cond_false] at hn
    exact (hn _ _ _).trans (qq_ok ⟨0, rfl, rfl, rfl⟩)
  · rintro j vs ms os ⟨rfl, rfl, rfl⟩
    refine ⟨tFr, tFr_ok r, .nil, 1, 1, 1, ?_⟩
    have hn := frN r resF (pgC (m : Nat) (nbN 10 z 0))
    simp only [pgC_nn, show m_nns resF = true from rfl, Bool.and_true, cond_true] at hn
    exact (hn _ _ _).trans (qq_ok ⟨rfl, rfl, rfl⟩)
  · rintro vs ms os ⟨rfl, rfl, rfl⟩
    exact ⟨_, TOk.nil, .nil, 1, 1, 1, (frC r (m : Nat) 0 0 0 0 0 0 0 0 0 0 _ _ _ _).trans (qq_ok ⟨rfl, rfl, rfl⟩)⟩
  · rintro vs ms os ⟨rfl, rfl, rfl⟩
    exact ⟨.tuple ⟨[.agg ⟨pgC (m : Nat) (nbN 10 z 0)⟩, I 0]⟩, mkA [some (.cells (pgC (m : Nat) (nbN 10 z 0)) 54 0 0)], by kernel_rfl, rfl⟩

theorem fIsN_ok (r : Mem) (hm : ∀ b j u, tabM b j = some u → r b j = some u) (m : Nat) (h1 : 1 ≤ m) (hm10 : m ≤ 10) (seats x0 x1 x2 x3 x4 : Int) (r0 : rng x0) (r1 : rng x1) (r2 : rng x2) (r3 : rng x3) (r4 : rng x4) :
    GrT Tryd.prog r 22 [I (m : Nat), .slice none 0 0, I seats, .agg ⟨[I x0, I x1, I x2, I x3, I x4]⟩] (.bool (stF m [] seats x0 x1 x2 x3 x4)) := by
  have hr := freadN_ok r m h1 hm10 (zE [])
  have hs := isstr_ok r hm m hm10 (nbN 10 (zE []) 0) (nbN_len 10 _ _) (fun w hw => by rw [nbN] at hw; rw [List.eq_of_mem_replicate hw]; decide) seats x0 x1 x2 x3 x4 r0 r1 r2 r3 r4
  show GrT _ _ _ _ (.bool (stI (2 ^ m - 1) (fun s => quN (fun i => (nbN 10 (zE []) 0).getD i 0) s 10) seats x0 x1 x2 x3 x4))
  generalize stI (2 ^ m - 1) _ seats x0 x1 x2 x3 x4 = V at hs ⊢
  obtain ⟨a0, a1, a2, a3, a4, a5, a6, a7, a8, a9, _, hp⟩ := pgC10 (m : Nat) (nbN_len 10 (zE []) 0)
  rw [hp] at hr hs
  refine GrT.of (SC_ok r) (TOk.cons (TOk.cons TOk.nil (entV_ok hs rfl)) (entV_ok hr rfl)) .nil rfl ⟨1, 3, (fiN r (m : Nat) seats V a0 a1 a2 a3 a4 a5 a6 a7 a8 a9 x0 x1 x2 x3 x4).trans ?_⟩
  rw [show m_same _ _ = true from same_rfl _, show m_same _ _ = true from same_rfl _]
  cases V <;> rfl

end Go.Proofs

/- The search for a structure and the reference's: both find one or none. -/
set_option linter.unusedVariables false
set_option linter.unusedSimpArgs false
namespace Go.Num
open Go.Proofs

theorem bt_bit (s k : Nat) : btN s k = s.testBit k := by
  unfold btN
  rw [Nat.testBit_eq_decide_div_mod_eq, Bool.eq_iff_iff]
  simp
theorem an_bit (a b i : Nat) : (anN a b).testBit i = (a.testBit i && !b.testBit i) := by
  unfold anN
  rw [Nat.testBit_xor, Nat.testBit_and]
  cases a.testBit i <;> cases b.testBit i <;> rfl
theorem fo_bit (w : Nat → Nat) (s i : Nat) : ∀ k, (foE w s k).testBit i = true ↔ ∃ v, v < k ∧ s.testBit v = true ∧ (w v).testBit i = true
  | 0 => by simp [foE]
  | k + 1 => by
    rw [foE, Nat.testBit_or, Bool.or_eq_true, fo_bit w s i k]
    constructor
    · rintro (⟨v, h1, h2⟩ | h)
      · exact ⟨v, by omega, h2⟩
      · split at h
        · rename_i hb
          rw [bt_bit] at hb
          exact ⟨k, by omega, hb, h⟩
        · simp at h
    · rintro ⟨v, h1, h2, h3⟩
      by_cases c : v = k
      · subst c
        rw [← bt_bit] at h2
        exact .inr (by rw [if_pos h2]; exact h3)
      · exact .inl ⟨v, by omega, h2, h3⟩
theorem and_ne {a b : Nat} : a &&& b ≠ 0 ↔ ∃ v, a.testBit v = true ∧ b.testBit v = true := by
  constructor
  · intro h
    obtain ⟨v, hv⟩ := Nat.exists_testBit_of_ne_zero h
    rw [Nat.testBit_and, Bool.and_eq_true] at hv
    exact ⟨v, hv⟩
  · rintro ⟨v, h1, h2⟩ h
    have := congrArg (fun x => Nat.testBit x v) h
    simp only [Nat.testBit_and, h1, h2, Nat.zero_testBit] at this
    exact nomatch this
theorem and_zero {a b : Nat} : a &&& b = 0 ↔ ∀ v, a.testBit v = true → b.testBit v = false := by
  constructor
  · intro h v h1
    cases h2 : b.testBit v with
    | false => rfl
    | true => exact absurd h (and_ne.2 ⟨v, h1, h2⟩)
  · intro h
    by_cases c : a &&& b = 0
    · exact c
    · obtain ⟨v, h1, h2⟩ := and_ne.1 c
      rw [h v h1] at h2
      exact nomatch h2
theorem in_bit {a b : Nat} : a &&& b = a ↔ ∀ v, a.testBit v = true → b.testBit v = true := by
  constructor
  · intro h v h1
    rw [← h, Nat.testBit_and, Bool.and_eq_true] at h1
    exact h1.2
  · intro h
    apply Nat.eq_of_testBit_eq
    intro i
    rw [Nat.testBit_and]
    cases ha : a.testBit i with
    | false => rfl
    | true => rw [h i ha]; rfl

/-- The words of a graph of m vertices. -/
structure Nbs (w : Nat → Nat) (m : Nat) : Prop where
  low : ∀ i v, (w i).testBit v = true → i < m ∧ v < m
  sym : ∀ i v, (w i).testBit v = true → (w v).testBit i = true

theorem jn_bit {ws : List Nat} {a b : Nat} (ha : a < ws.length) (hb : b < ws.length) (i v : Nat) : ((jnN ws a b).getD i 0).testBit v = ((ws.getD i 0).testBit v || (decide (i = a ∧ v = b) || decide (i = b ∧ v = a))) := by
  have p2 : ∀ a v : Nat, (2 ^ a).testBit v = decide (v = a) := fun a v => Nat.testBit_two_pow.trans (decide_eq_decide.2 eq_comm)
  have g : ∀ i, (orN ws a b).getD i 0 = if a = i then ws.getD a 0 ||| 2 ^ b else ws.getD i 0 := fun i => orN_get ha
  unfold jnN
  rw [orN_get (by rw [orN_len]; exact hb)]
  simp only [g]
  by_cases c1 : b = i
  · subst c1
    rw [if_pos rfl]
    by_cases c2 : a = b
    · subst c2
      rw [if_pos rfl, Nat.testBit_or, Nat.testBit_or, p2, Bool.eq_iff_iff]
      simp
    · rw [if_neg c2, Nat.testBit_or, p2, Bool.eq_iff_iff]
      have : ¬ b = a := fun e => c2 e.symm
      simp [this]
  · rw [if_neg c1]
    have c1' : ¬ i = b := fun e => c1 e.symm
    by_cases c2 : a = i
    · subst c2
      rw [if_pos rfl, Nat.testBit_or, p2, Bool.eq_iff_iff]
      simp [c1']
    · have c2' : ¬ i = a := fun e => c2 e.symm
      rw [if_neg c2, Bool.eq_iff_iff]
      simp [c1', c2']

theorem nb_nbs {M m : Nat} (hmM : m ≤ M) (z : Nat → Int) : ∀ k, (∀ i, i < k → 0 ≤ ea z i ∧ ea z i < eb z i ∧ eb z i < m) → Nbs (fun i => (nbN M z k).getD i 0) m
  | 0, _ => by
    have h0 : ∀ i, (nbN M z 0).getD i 0 = 0 := fun i => by
      rw [nbN, List.getD_eq_getElem?_getD, List.getElem?_replicate]
      split <;> rfl
    refine ⟨fun i v h => ?_, fun i v h => ?_⟩ <;> rw [h0, Nat.zero_testBit] at h <;> exact nomatch h
  | k + 1, h => by
    obtain ⟨b1, b2, b3⟩ := h k (by omega)
    have ih := nb_nbs hmM z k fun i hi => h i (by omega)
    have hl : (nbN M z k).length = M := nbN_len M z k
    have hb := jn_bit (ws := nbN M z k) (a := (ea z k).toNat) (b := (eb z k).toNat) (by omega) (by omega)
    refine ⟨fun i v hv => ?_, fun i v hv => ?_⟩
    · rw [nbN, hb, Bool.or_eq_true, Bool.or_eq_true, decide_eq_true_eq, decide_eq_true_eq] at hv
      rcases hv with hv | hv | hv
      · exact ih.low i v hv
      · omega
      · omega
    · rw [nbN, hb, Bool.or_eq_true, Bool.or_eq_true, decide_eq_true_eq, decide_eq_true_eq] at hv ⊢
      rcases hv with hv | hv | hv
      · exact .inl (ih.sym i v hv)
      · exact .inr (.inr ⟨hv.2, hv.1⟩)
      · exact .inr (.inl ⟨hv.2, hv.1⟩)

theorem qu_bit {w : Nat → Nat} {m k : Nat} (hw : Nbs w m) (hk : m ≤ k) (s : Nat) : quN w s k = true ↔ ∀ i v, s.testBit i = true → s.testBit v = true → (w i).testBit v = false := by
  have key : ∀ k, quN w s k = true ↔ ∀ i, i < k → s.testBit i = true → w i &&& s = 0 := fun k => by
    induction k with
    | zero => simp [quN]
    | succ k ih =>
      rw [quN, Bool.and_eq_true, ih, Bool.or_eq_true, Bool.not_eq_true', bt_bit, beq_iff_eq]
      constructor
      · rintro ⟨h1, h2⟩ i hi hs
        by_cases c : i = k
        · subst c
          rcases h2 with h2 | h2
          · rw [hs] at h2; exact nomatch h2
          · exact h2
        · exact h1 i (by omega) hs
      · intro h
        refine ⟨fun i hi => h i (by omega), ?_⟩
        cases hs : s.testBit k with
        | false => exact .inl rfl
        | true => exact .inr (h k (by omega) hs)
  rw [key]
  constructor
  · intro h i v hi hv
    cases hb : (w i).testBit v with
    | false => rfl
    | true =>
      have := and_zero.1 (h i (by have := (hw.low i v hb).1; omega) hi) v hb
      rw [hv] at this
      exact nomatch this
  · intro h i _ hi
    rw [and_zero]
    intro v hv
    cases hs : s.testBit v with
    | false => rfl
    | true => rw [h i v hi hs] at hv; exact nomatch hv
/-- Who has an edge to one of a. -/
theorem fo_and {w : Nat → Nat} {m k : Nat} (hw : Nbs w m) (hk : m ≤ k) (a i : Nat) : (foE w a k).testBit i = true ↔ w i &&& a ≠ 0 := by
  rw [fo_bit, and_ne]
  constructor
  · rintro ⟨v, _, h1, h2⟩
    exact ⟨v, hw.sym v i h2, h1⟩
  · rintro ⟨v, h1, h2⟩
    exact ⟨v, by have := (hw.low i v h1).2; omega, h2, hw.sym i v h1⟩

theorem x1_bit (fo : Nat → Nat) (x a i : Nat) : (x1N fo x a).testBit i = (x.testBit i && !(fo a).testBit i) := an_bit _ _ _
theorem x2_bit (fo : Nat → Nat) (x a c i : Nat) : (x2N fo x a c).testBit i = (x.testBit i && ((fo a).testBit i && !(fo c).testBit i)) := by
  unfold x2N
  rw [an_bit, an_bit, x1_bit]
  cases x.testBit i <;> cases (fo a).testBit i <;> cases (fo c).testBit i <;> rfl
theorem x3_bit (fo : Nat → Nat) (x a c i : Nat) : (x3N fo x a c).testBit i = (x.testBit i && ((fo a).testBit i && (fo c).testBit i)) := by
  unfold x3N
  rw [an_bit, an_bit, x1_bit, x2_bit]
  cases x.testBit i <;> cases (fo a).testBit i <;> cases (fo c).testBit i <;> rfl

def cntB (P : Nat → Bool) : Nat → Nat
  | 0 => 0
  | k + 1 => cntB P k + if P k = true then 1 else 0
theorem cnt_shift (P : Nat → Bool) : ∀ k, cntB P (k + 1) = (if P 0 = true then 1 else 0) + cntB (fun i => P (i + 1)) k
  | 0 => by simp [cntB]
  | k + 1 => by rw [cntB, cnt_shift P k, cntB]; omega
theorem cnt_congr {P Q : Nat → Bool} : ∀ {k : Nat}, (∀ i, i < k → P i = Q i) → cntB P k = cntB Q k
  | 0, _ => rfl
  | k + 1, h => by rw [cntB, cntB, cnt_congr fun i hi => h i (by omega), h k (by omega)]
theorem cnt_more {P : Nat → Bool} {m : Nat} (h : ∀ i, m ≤ i → P i = false) : ∀ d, cntB P (m + d) = cntB P m
  | 0 => rfl
  | d + 1 => by rw [show m + (d + 1) = m + d + 1 by omega, cntB, cnt_more h d, h _ (by omega)]; rfl
theorem pop_cnt : ∀ f z, popN f z = cntB z.testBit f
  | 0, _ => rfl
  | f + 1, z => by
    rw [popN_succ, cnt_shift, pop_cnt f (z / 2)]
    congr 1
    · rw [Nat.testBit_zero]
      rcases Nat.mod_two_eq_zero_or_one z with h | h <;> rw [h] <;> rfl
    · refine cnt_congr fun i _ => ?_
      rw [Nat.testBit_succ]
theorem th_cnt (w : Nat → Nat) (x a c : Nat) : ∀ k, thN w x a c k = cntB (fun i => x.testBit i && (!(w i &&& a == 0) && !(w i &&& c == 0))) k
  | 0 => rfl
  | k + 1 => by rw [thN, cntB, th_cnt w x a c k, bt_bit]
theorem high {x m i : Nat} (h : x < 2 ^ m) (hi : m ≤ i) : x.testBit i = false := Nat.testBit_lt_two_pow (Nat.lt_of_lt_of_le h (Nat.pow_le_pow_right (by decide) hi))

/-- X3, counted. -/
theorem th_pop {w w' : Nat → Nat} {m : Nat} (hm : m ≤ 10) (hw : Nbs w m) (hww : ∀ i, i < m → w i = w' i) {x : Nat} (hx : x < 2 ^ m) (a c : Nat) : thN w' x a c m = popN 16 (x3N (fun s => foE w s 10) x a c) := by
  have e : ∀ i, (!(w i &&& a == 0)) = (foE w a 10).testBit i := fun i => by
    rw [Bool.eq_iff_iff, fo_and hw hm]
    simp
  have e' : ∀ i, (!(w i &&& c == 0)) = (foE w c 10).testBit i := fun i => by
    rw [Bool.eq_iff_iff, fo_and hw hm]
    simp
  rw [th_cnt, pop_cnt, show (16 : Nat) = m + (16 - m) by omega, cnt_more]
  · refine cnt_congr fun i hi => ?_
    rw [x3_bit, ← hww i hi, e, e']
  · intro i hi
    rw [x3_bit, high hx hi]
    rfl
theorem x3_comm (fo : Nat → Nat) (x a c : Nat) : x3N fo x a c = x3N fo x c a := by
  apply Nat.eq_of_testBit_eq
  intro i
  rw [x3_bit, x3_bit]
  cases x.testBit i <;> cases (fo a).testBit i <;> cases (fo c).testBit i <;> rfl
theorem an_an {A x : Nat} (h : x &&& A = x) : anN A (anN A x) = x := by
  apply Nat.eq_of_testBit_eq
  intro i
  rw [an_bit, an_bit]
  have := in_bit.1 h i
  revert this
  cases x.testBit i <;> cases A.testBit i <;> simp
theorem an_sub (A x : Nat) : anN A x &&& A = anN A x := by
  rw [in_bit]
  intro v h
  rw [an_bit, Bool.and_eq_true] at h
  exact h.1
theorem sub_le {a b : Nat} (h : a &&& b = a) : a ≤ b := by rw [← h]; exact Nat.and_le_right
theorem lt_sub {x m : Nat} (h : x < 2 ^ m) : x &&& (2 ^ m - 1) = x := by rw [Nat.and_two_pow_sub_one_eq_mod, Nat.mod_eq_of_lt h]

/-- What a find is. -/
theorem su_use {q : Nat → Bool} {fo : Nat → Nat} {A : Nat} {seats : Int} {t : T3} (h : suN q fo A seats = some t) :
    t.1 ≤ A ∧ ¬ ((popN 16 (anN A t.1) : Nat) : Int) > seats ∧ q t.1 = true ∧ (t.2.1 &&& anN A t.1 = t.2.1 ∧ t.2.1 ≠ 0 ∧ q t.2.1 = true) ∧ (t.2.2 &&& anN A t.1 = t.2.2 ∧ t.2.2 ≠ 0 ∧ q t.2.2 = true) ∧ ¬ popN 16 t.2.1 + popN 16 t.2.2 < popN 16 (x3N fo t.1 t.2.1 t.2.2) := by
  obtain ⟨x, hx, h⟩ := fnd_use h
  unfold p0N at h
  split at h
  · rename_i c0
    obtain ⟨a, ha, h⟩ := fnd_use h
    unfold p1N at h
    split at h
    · rename_i c1
      obtain ⟨c, hc, h⟩ := fnd_use h
      unfold p2N at h
      split at h
      · rename_i c2
        cases h
        exact ⟨by omega, c0.1, c0.2, c1, ⟨c2.1, c2.2.1, c2.2.2.1⟩, c2.2.2.2⟩
      · cases h
    · cases h
  · cases h
theorem su_none {q : Nat → Bool} {fo : Nat → Nat} {A : Nat} {seats : Int} (h : suN q fo A seats = none) {x a c : Nat} (hx : x ≤ A) (h0 : ¬ ((popN 16 (anN A x) : Nat) : Int) > seats) (hq : q x = true) (ha : a &&& anN A x = a ∧ a ≠ 0 ∧ q a = true) (hc : c &&& anN A x = c ∧ c ≠ 0 ∧ q c = true) : popN 16 a + popN 16 c < popN 16 (x3N fo x a c) := by
  have h1 := fnd_none h x (by omega)
  unfold p0N at h1
  rw [if_pos ⟨h0, hq⟩] at h1
  have h2 := fnd_none h1 a (by have := sub_le ha.1; omega)
  unfold p1N at h2
  rw [if_pos ha] at h2
  have h3 := fnd_none h2 c (by have := sub_le hc.1; omega)
  unfold p2N at h3
  by_cases c0 : popN 16 a + popN 16 c < popN 16 (x3N fo x a c)
  · exact c0
  · rw [if_pos ⟨hc.1, hc.2.1, hc.2.2, c0⟩] at h3
    cases h3

/-- **One is found just if the reference has one.** -/
theorem su_has {w w' : Nat → Nat} {m : Nat} (hm : m ≤ 10) (hw : Nbs w m) (hww : ∀ i, i < m → w i = w' i) (seats : Int) :
    (suN (fun s => quN w s 10) (fun s => foE w s 10) (2 ^ m - 1) seats).isSome = hsP (fun s => quN w' s m) w' m (2 ^ m - 1) seats := by
  have hpos := Nat.two_pow_pos m
  have hqq : ∀ s, s < 2 ^ m → quN w s 10 = quN w' s m := fun s hs => by
    have := quN_cut (w := w) (w' := w') hs hww (10 - m)
    rwa [show m + (10 - m) = 10 by omega] at this
  have hlt : ∀ s y, s &&& anN (2 ^ m - 1) y = s → s < 2 ^ m := fun s y h => by
    have := sub_le h
    have := an_lt (b := y) (all_lt m)
    omega
  rw [Bool.eq_iff_iff]
  constructor
  · intro h
    obtain ⟨⟨x, a, c⟩, ht⟩ := Option.isSome_iff_exists.1 h
    obtain ⟨h1, h2, h3, h4, h5, h6⟩ := su_use ht
    simp only at h1 h2 h3 h4 h5 h6
    have hx : x < 2 ^ m := by omega
    have hxx := lt_sub hx
    have key : ∀ a c, a ≤ c → (a &&& anN (2 ^ m - 1) x = a ∧ a ≠ 0 ∧ quN w a 10 = true) → (c &&& anN (2 ^ m - 1) x = c ∧ c ≠ 0 ∧ quN w c 10 = true) → ¬ popN 16 a + popN 16 c < popN 16 (x3N (fun s => foE w s 10) x a c) → hsP (fun s => quN w' s m) w' m (2 ^ m - 1) seats = true := fun a c hac ha hc hp => by
      have la := hlt a x ha.1
      have lc := hlt c x hc.1
      have ly := an_lt (b := x) (all_lt m)
      have y0 : anN (2 ^ m - 1) x ≠ 0 := fun e => by have := sub_le ha.1; omega
      refine any_true (t := anN (2 ^ m - 1) x) ?_ _ (by omega)
      unfold hyP
      rw [decide_eq_false h2, an_an hxx, show (fun s => quN w' s m) x = true from (hqq x hx).symm.trans h3, show (anN (2 ^ m - 1) x == 0) = false by simp [y0]]
      simp only [Bool.not_false, Bool.true_and]
      refine any_true (t := a) ?_ _ (by omega)
      unfold haP
      rw [show (fun s => quN w' s m) a = true from (hqq a la).symm.trans ha.2.2, show (anN a (anN (2 ^ m - 1) x) == 0) = true from by rw [beq_iff_eq, an_zero]; exact ha.1, show (a == 0) = false by simp [ha.2.1]]
      simp only [Bool.not_false, Bool.true_and]
      refine any_true (t := c) ?_ _ (by omega)
      unfold hbP
      rw [show (fun s => quN w' s m) c = true from (hqq c lc).symm.trans hc.2.2, show (anN c (anN (2 ^ m - 1) x) == 0) = true from by rw [beq_iff_eq, an_zero]; exact hc.1, th_pop hm hw hww hx, decide_eq_true hac]
      simp only [Bool.true_and, decide_eq_true_eq]
      omega
    rcases Nat.le_total a c with hac | hac
    · exact key a c hac h4 h5 h6
    · exact key c a hac h5 h4 (by rw [x3_comm, Nat.add_comm]; exact h6)
  · intro h
    cases hs : suN (fun s => quN w s 10) (fun s => foE w s 10) (2 ^ m - 1) seats with
    | some t => rfl
    | none =>
      exfalso
      obtain ⟨y, hy, h⟩ := any_use h
      unfold hyP at h
      simp only [Bool.and_eq_true, Bool.not_eq_true', beq_eq_false_iff_ne, decide_eq_false_iff_not] at h
      obtain ⟨y0, hp, hqx, h⟩ := h
      obtain ⟨a, ha, h⟩ := any_use h
      unfold haP at h
      simp only [Bool.and_eq_true, Bool.not_eq_true', beq_eq_false_iff_ne, beq_iff_eq] at h
      obtain ⟨a0, hay, hqa, h⟩ := h
      obtain ⟨c, hc, h⟩ := any_use h
      unfold hbP at h
      simp only [Bool.and_eq_true, beq_iff_eq, decide_eq_true_eq] at h
      obtain ⟨hac, hcy, hqc, hth⟩ := h
      have hyy := lt_sub (show y < 2 ^ m by omega)
      have hx := an_lt (b := y) (all_lt m)
      rw [th_pop hm hw hww hx] at hth
      have e := an_an hyy
      rw [an_zero] at hay hcy
      have := su_none hs (x := anN (2 ^ m - 1) y) (a := a) (c := c) (by omega) (by rw [e]; exact hp) (by rw [hqq _ hx]; exact hqx) (by rw [e]; exact ⟨hay, a0, by rw [hqq a (by omega)]; exact hqa⟩) (by rw [e]; exact ⟨hcy, by omega, by rw [hqq c (by omega)]; exact hqc⟩)
      omega

/-- **What is found is a structure.** -/
theorem su_is {w : Nat → Nat} {m : Nat} (hm : m ≤ 10) (hw : Nbs w m) {seats : Int} {x a c : Nat} (h : suN (fun s => quN w s 10) (fun s => foE w s 10) (2 ^ m - 1) seats = some (x, a, c)) :
    stI (2 ^ m - 1) (fun s => quN w s 10) seats (x1N (fun s => foE w s 10) x a : Nat) (x2N (fun s => foE w s 10) x a c : Nat) (x3N (fun s => foE w s 10) x a c : Nat) (a : Nat) (c : Nat) = true := by
  obtain ⟨h1, h2, h3, h4, h5, h6⟩ := su_use h
  simp only at h1 h2 h3 h4 h5 h6
  have hpos := Nat.two_pow_pos m
  have hA2 : 2 ^ m ≤ 1024 := Nat.pow_le_pow_right (n := 2) (by decide) hm
  have gi : ∀ z : Nat, z ≤ 2 ^ m - 1 → inA (2 ^ m - 1) ((z : Nat) : Int) = true := fun z h => by
    unfold inA
    rw [Bool.and_eq_true, decide_eq_true_eq, decide_eq_true_eq]
    omega
  have sx : ∀ z, (∀ v, z.testBit v = true → x.testBit v = true) → z ≤ 2 ^ m - 1 := fun z hz => Nat.le_trans (sub_le (in_bit.2 hz)) h1
  have l1 := sx (x1N (fun s => foE w s 10) x a) fun v hv => by rw [x1_bit, Bool.and_eq_true] at hv; exact hv.1
  have l2 := sx (x2N (fun s => foE w s 10) x a c) fun v hv => by rw [x2_bit, Bool.and_eq_true] at hv; exact hv.1
  have l3 := sx (x3N (fun s => foE w s 10) x a c) fun v hv => by rw [x3_bit, Bool.and_eq_true] at hv; exact hv.1
  have la := sub_le h4.1
  have lc := sub_le h5.1
  have ly := an_lt (b := x) (all_lt m)
  have hx := (qu_bit hw hm x).1 h3
  have ha := (qu_bit hw hm a).1 h4.2.2
  have hc := (qu_bit hw hm c).1 h5.2.2
  -- with whom one of a set has no edge
  have apart : ∀ (p s : Nat), (∀ i v, p.testBit i = true → p.testBit v = true → (w i).testBit v = false) → (∀ i v, s.testBit i = true → s.testBit v = true → (w i).testBit v = false) → (∀ i, p.testBit i = true → (foE w s 10).testBit i = false) → quN w (p ||| s) 10 = true := fun p s hp hs hps => by
    rw [qu_bit hw hm]
    intro i v hi hv
    rw [Nat.testBit_or, Bool.or_eq_true] at hi hv
    have cross : ∀ i v, p.testBit i = true → s.testBit v = true → (w i).testBit v = false := fun i v hi hv => by
      cases hb : (w i).testBit v with
      | false => rfl
      | true =>
        have := (fo_and hw hm s i).2 (and_ne.2 ⟨v, hb, hv⟩)
        rw [hps i hi] at this
        exact nomatch this
    rcases hi with hi | hi <;> rcases hv with hv | hv
    · exact hp i v hi hv
    · exact cross i v hi hv
    · cases hb : (w i).testBit v with
      | false => rfl
      | true =>
        have := cross v i hv hi
        rw [hw.sym i v hb] at this
        exact nomatch this
    · exact hs i v hi hv
  have e0 : x1N (fun s => foE w s 10) x a ||| x2N (fun s => foE w s 10) x a c ||| x3N (fun s => foE w s 10) x a c = x := by
    apply Nat.eq_of_testBit_eq
    intro i
    rw [Nat.testBit_or, Nat.testBit_or, x1_bit, x2_bit, x3_bit]
    cases x.testBit i <;> cases (foE w a 10).testBit i <;> cases (foE w c 10).testBit i <;> rfl
  have e1 : x1N (fun s => foE w s 10) x a &&& x2N (fun s => foE w s 10) x a c = 0 := and_zero.2 fun v hv => by
    rw [x1_bit] at hv
    rw [x2_bit]
    revert hv
    cases x.testBit v <;> cases (foE w a 10).testBit v <;> simp
  have e2 : x1N (fun s => foE w s 10) x a &&& x3N (fun s => foE w s 10) x a c = 0 := and_zero.2 fun v hv => by
    rw [x1_bit] at hv
    rw [x3_bit]
    revert hv
    cases x.testBit v <;> cases (foE w a 10).testBit v <;> simp
  have e3 : x2N (fun s => foE w s 10) x a c &&& x3N (fun s => foE w s 10) x a c = 0 := and_zero.2 fun v hv => by
    rw [x2_bit] at hv
    rw [x3_bit]
    revert hv
    cases x.testBit v <;> cases (foE w a 10).testBit v <;> cases (foE w c 10).testBit v <;> simp
  have q1 := apart (x1N (fun s => foE w s 10) x a) a (fun i v hi hv => by
      rw [x1_bit, Bool.and_eq_true] at hi hv
      exact hx i v hi.1 hv.1) ha fun i hi => by
      rw [x1_bit, Bool.and_eq_true, Bool.not_eq_true'] at hi
      exact hi.2
  have q2 := apart (x2N (fun s => foE w s 10) x a c) c (fun i v hi hv => by
      rw [x2_bit, Bool.and_eq_true] at hi hv
      exact hx i v hi.1 hv.1) hc fun i hi => by
      rw [x2_bit, Bool.and_eq_true, Bool.and_eq_true, Bool.not_eq_true'] at hi
      exact hi.2.2
  unfold stI stN
  simp only [gi _ l1, gi _ l2, gi _ l3, gi a (by omega), gi c (by omega), Int.toNat_natCast, e0, e1, e2, e3, q1, q2, h3, Bool.true_and, Bool.and_true, beq_self_eq_true, an_zero.2 h4.1, an_zero.2 h5.1]
  simp only [Bool.and_eq_true, decide_eq_true_eq, Bool.not_eq_true', beq_eq_false_iff_ne]
  exact ⟨⟨⟨by omega, h4.2.1⟩, h5.2.1⟩, by omega⟩

end Go.Num

/- Chapter 8: the example calls, run. -/
namespace Go.Proofs
open Go Go.Ev
set_option linter.unusedVariables false
set_option linter.unusedSimpArgs false
set_option maxRecDepth 100000

def mskV : Tr Nat := (.node (.node (.node (.node (.node (.node (.node .nil (some 7) .nil) none .nil) (some 1807) (.node (.node .nil (some 0) .nil) none .nil)) (some 4039) (.node (.node (.node .nil (some 0) .nil) (some 63) .nil) (some 61) (.node (.node .nil (some 0) .nil) (some 4083) .nil))) (some 16327) (.node (.node (.node (.node .nil (some 11) .nil) (some 5) .nil) none (.node (.node .nil (some 0) .nil) none .nil)) (some 51) (.node (.node (.node .nil (some 0) .nil) (some 123) .nil) (some 1055) (.node .nil (some 5) .nil)))) none (.node (.node (.node (.node (.node .nil (some 5) .nil) (some 65519) .nil) (some 243) (.node (.node .nil (some 0) .nil) (some 11) .nil)) (some 967) (.node (.node (.node .nil (some 0) .nil) none .nil) (some 7) (.node (.node .nil (some 0) .nil) (some 5) .nil))) (some 8135) (.node (.node (.node (.node .nil (some 0) .nil) (some 7) .nil) (some 2023) (.node (.node .nil (some 0) .nil) none .nil)) (some 29) (.node (.node (.node .nil (some 0) .nil) (some 31) .nil) (some 1842639) (.node .nil (some 5) .nil))))) none (.node (.node (.node (.node (.node (.node .nil (some 5) .nil) none .nil) (some 1991) (.node (.node .nil (some 0) .nil) (some 7) .nil)) (some 499) (.node (.node (.node .nil (some 0) .nil) none .nil) none (.node (.node .nil (some 0) .nil) (some 16778495) .nil))) (some 524231) (.node (.node (.node (.node .nil (some 5) .nil) (some 631) .nil) (some 2035) (.node (.node .nil (some 0) .nil) (some 13) .nil)) (some 243) (.node (.node (.node .nil (some 0) .nil) (some 15) .nil) (some 29) (.node .nil (some 5) .nil)))) none (.node (.node (.node (.node (.node .nil (some 5) .nil) (some 83) .nil) (some 8135) (.node (.node .nil (some 0) .nil) (some 5) .nil)) (some 5) (.node (.node (.node .nil (some 0) .nil) (some 127) .nil) (some 23) (.node (.node .nil (some 0) .nil) (some 11) .nil))) (some 8167) (.node (.node (.node (.node .nil (some 0) .nil) (some 5) .nil) (some 1935) (.node (.node .nil (some 0) .nil) (some 159) .nil)) (some 4095) (.node (.node (.node .nil (some 0) .nil) (some 19) .nil) (some 431) (.node .nil (some 115) .nil))))))
/-- The concrete evaluator. -/
noncomputable abbrev CC (r : Mem) : Cfg := Cfg.ofRo Tryd.prog r
theorem CC_ok (r : Mem) : (CC r).Ok := Cfg.ofRo_ok evMixed evNames r

end Go.Proofs

/- Chapter 8: the example calls answer true. -/
namespace Go.Proofs
open Go Go.Ev
set_option linter.unusedVariables false
set_option linter.unusedSimpArgs false
set_option maxRecDepth 100000

theorem awake8 : GrT Tryd.prog tabM 14 [] (.bool true) := GrT.of (CC_ok tabM) TOk.nil mskV rfl ⟨1000, 40, by kernel_rfl⟩

end Go.Proofs

/- (shared) The law of structures judged, run. -/
namespace Go.Proofs
open Go Go.Ev Go.Num
set_option linter.unusedVariables false
set_option linter.unusedSimpArgs false
set_option maxRecDepth 100000

noncomputable def cFf : Code := bodyOf S0 6
noncomputable def Ff_0 : Code := (lc cFf)
noncomputable def Ff_1 : Code := (lc (rc cFf))
noncomputable def Ff_2 : Code := (lc (rc (rc cFf)))
noncomputable def Ff_3 : Code := (lc (lc (rc (rc (rc cFf)))))
noncomputable def Ff_4 : Code := (lc (ic (ic (rc (lc (rc (rc (rc cFf))))))))
noncomputable def Ff_5 : Code := (lc (lc (ic (lc (rc (ic (ic (rc (lc (rc (rc (rc cFf))))))))))))
noncomputable def Ff_6 : Code := (ic (ic (rc (lc (ic (lc (rc (ic (ic (rc (lc (rc (rc (rc cFf))))))))))))))
noncomputable def Ff_7 : Code := (rc (ic (lc (rc (ic (ic (rc (lc (rc (rc (rc cFf)))))))))))
noncomputable def Ff_10 : Code := (rc (rc (ic (ic (rc (lc (rc (rc (rc cFf)))))))))
noncomputable def Ff_11 : Code := (rc (rc (rc (rc cFf))))
theorem Ff_eq : cFf = (.seq Ff_0 (.seq Ff_1 (.seq Ff_2 (.seq (.seq Ff_3 (.block 0 (.loop (.seq Ff_4 (.seq (.block 1 (.seq (.seq Ff_5 (.block 2 (.loop Ff_6))) Ff_7)) Ff_10))))) Ff_11)))) := by kernel_rfl
def lvFf : List Nat := [0, 5, 7, 8, 9]
def lvFj : List Nat := [0, 5, 7, 8, 9, 10]
abbrev x5 (x0 x1 x2 x3 x4 : Int) : Option AObj := some (.cells [I x0, I x1, I x2, I x3, I x4] 43 0 0)
def vF1 (m len : Nat) (i : Int) : OV := [some (I (m : Nat)), some (P0 0), some (.slice (some ⟨1, 0, none⟩) len unk), some (.slice (some ⟨2, 0, none⟩) m m), some (I i)]
def vF0 (m : Nat) (i : Int) : OV := [some (I (m : Nat)), some (P0 0), some (.slice none 0 0), some (.slice (some ⟨1, 0, none⟩) m m), some (I i)]
def oF1 (c g : List Value) (x0 x1 x2 x3 x4 : Int) : OO := [x5 x0 x1 x2 x3 x4, some (.cells c 49 1 2), some (.cells g 3 2 1)]
def oF0 (g : List Value) (x0 x1 x2 x3 x4 : Int) : OO := [x5 x0 x1 x2 x3 x4, some (.cells g 3 1 1)]

abbrev St5 := Int → Int → Int → Int → Int → Int → Bool
noncomputable def m_rg (x : Int) : Bool := @decide (rng x) (Classical.propDecidable _)
noncomputable def eIS1 (m : Int) (len : Nat) (c : List Value) (st : St5) : Ent := ent
  (fun args A => match args with
    | [.int .i64 n, .slice (some ⟨i, k, none⟩) l cap, .int .i64 _, .agg ⟨[.int .i64 x0, .int .i64 x1, .int .i64 x2, .int .i64 x3, .int .i64 x4]⟩] => match A.heap.get i with
      | some (.cells c' _ _ _) => m_same [.int .i64 n, .slice (some ⟨0, k, none⟩) l cap, .agg ⟨c'⟩] [.int .i64 m, .slice (some ⟨0, 0, none⟩) len unk, .agg ⟨c⟩] && m_rg x0 && m_rg x1 && m_rg x2 && m_rg x3 && m_rg x4
      | _ => false
    | _ => false)
  (fun args _ => match args with
    | [_, _, .int .i64 s, .agg ⟨[.int .i64 x0, .int .i64 x1, .int .i64 x2, .int .i64 x3, .int .i64 x4]⟩] => .bool (st s x0 x1 x2 x3 x4)
    | _ => undef)
noncomputable def eIS0 (m : Int) (st : St5) : Ent := ent
  (fun args A => match args with
    | [.int .i64 n, .slice none 0 0, .int .i64 _, .agg ⟨[.int .i64 x0, .int .i64 x1, .int .i64 x2, .int .i64 x3, .int .i64 x4]⟩] => m_same [.int .i64 n] [.int .i64 m] && m_rg x0 && m_rg x1 && m_rg x2 && m_rg x3 && m_rg x4
    | _ => false)
  (fun args _ => match args with
    | [_, _, .int .i64 s, .agg ⟨[.int .i64 x0, .int .i64 x1, .int .i64 x2, .int .i64 x3, .int .i64 x4]⟩] => .bool (st s x0 x1 x2 x3 x4)
    | _ => undef)
noncomputable def eRI (m : Nat) (g : List Value) (st : St5) : Ent := ent
  (fun args A => match args with
    | [.slice (some ⟨i, k, none⟩) l cap, .int .i64 _, .agg ⟨[.int .i64 _, .int .i64 _, .int .i64 _, .int .i64 _, .int .i64 _]⟩] => match A.heap.get i with
      | some (.cells c' _ _ _) => m_same [.slice (some ⟨0, k, none⟩) l cap, .agg ⟨c'⟩] [.slice (some ⟨0, 0, none⟩) m m, .agg ⟨g⟩]
      | _ => false
    | _ => false)
  (fun args _ => match args with
    | [_, .int .i64 s, .agg ⟨[.int .i64 x0, .int .i64 x1, .int .i64 x2, .int .i64 x3, .int .i64 x4]⟩] => .bool (st s x0 x1 x2 x3 x4)
    | _ => undef)
noncomputable def eAl (m : Nat) : Ent := ent
  (fun args A => match args with
    | [.slice (some ⟨i, k, none⟩) l cap] => m_same [.slice (some ⟨0, k, none⟩) l cap] [.slice (some ⟨0, 0, none⟩) m m] && (A.heap.get i).isSome
    | _ => false)
  (fun _ _ => I (m_all (m : Nat)))
noncomputable def eOf1 (m len : Nat) (c g : List Value) : Ent := ⟨fun args A => match args with
    | [.int .i64 n, .slice (some ⟨i, k, none⟩) l cap] => match A.heap.get i with
      | some (.cells c' _ _ _) => m_same [.int .i64 n, .slice (some ⟨0, k, none⟩) l cap, .agg ⟨c'⟩] [.int .i64 m, .slice (some ⟨0, 0, none⟩) len unk, .agg ⟨c⟩]
      | _ => false
    | _ => false, fun _ _ => true, fun _ A => .slice (some ⟨A.next, 0, none⟩) m m, fun _ A => A.new (.cells g 3 A.next 1), fun _ _ => undef, fun _ A => A⟩
noncomputable def eOf0 (m : Nat) (g : List Value) : Ent := ⟨fun args _ => m_same args [I (m : Nat), .slice none 0 0], fun _ _ => true, fun _ A => .slice (some ⟨A.next, 0, none⟩) m m, fun _ A => A.new (.cells g 3 A.next 1), fun _ _ => undef, fun _ A => A⟩
noncomputable def eTm1 (a0 : List Value) (m len : Nat) (c : List Value) : Ent := ⟨fun args _ => m_same args a0, fun _ _ => true, fun _ A => .tuple ⟨[I (m : Nat), .slice (some ⟨A.next, 0, none⟩) len unk]⟩, fun _ A => A.new (.cells c 49 A.next 2), fun _ _ => undef, fun _ A => A⟩
noncomputable def tFf1 (a0 : List Value) (m len : Nat) (c g : List Value) (st : St5) : Tbl := tcons 14 (e0 (.bool true)) (tcons 7 (eTm1 a0 m len c) (tcons 8 (eOf1 m len c g) (tcons 22 (eIS1 (m : Nat) len c st) (tcons 21 (eRI m g st) (tcons 10 (eAl m) fun _ => none)))))
noncomputable def tFf0 (a0 : List Value) (m : Nat) (g : List Value) (st : St5) : Tbl := tcons 14 (e0 (.bool true)) (tcons 7 (entV a0 (.tuple ⟨[I (m : Nat), .slice none 0 0]⟩)) (tcons 8 (eOf0 m g) (tcons 22 (eIS0 (m : Nat) st) (tcons 21 (eRI m g st) (tcons 10 (eAl m) fun _ => none)))))

end Go.Proofs
namespace Go.Num

theorem popN_zero_of : ∀ (f y : Nat), y < 2 ^ f → popN f y = 0 → y = 0
  | 0, y, h, _ => by simpa using h
  | f + 1, y, h, hp => by
    rw [popN_succ] at hp
    have h2 : y / 2 < 2 ^ f := by rw [Nat.pow_succ] at h; omega
    have := popN_zero_of f (y / 2) h2 (by omega)
    omega

end Go.Num
namespace Go.Proofs
open Go Go.Ev Go.Num
set_option linter.unusedVariables false
set_option linter.unusedSimpArgs false
set_option maxRecDepth 100000

theorem zAt2_E (E : List (Nat × Nat)) {j : Nat} (h : j < 2 * E.length) : zAt2 (pcE E) (0 + j) = zE E j := by
  unfold zAt2
  rw [Nat.zero_add, pcE_get E j h]
theorem okL2_E (E : List (Nat × Nat)) (h : E.length ≤ 1000000) : m_okL2 (pcE E) 0 E.length = true := @decide_eq_true _ (Classical.propDecidable _) ⟨h, fun j hj => ⟨_, by rw [Nat.zero_add]; exact pcE_get E j hj⟩⟩
theorem rg_use {x : Int} (h : m_rg x = true) : rng x := @of_decide_eq_true _ (Classical.propDecidable _) h
theorem rg_of {x : Int} (h : rng x) : m_rg x = true := @decide_eq_true _ (Classical.propDecidable _) h
theorem rowE {r : Mem} {b k : Nat} {E : List (Nat × Nat)} (h : rowAt r b k (2 * E.length) (fun j => zAt2 (pcE E) (0 + j))) : rowAt r b k (2 * E.length) (zE E) := fun j hj => by
  have := h j hj
  simp only at this
  rw [this, zAt2_E E hj]
theorem rng_wrap (z : Int) : rng (IntKind.wrap .i64 z) := by
  unfold rng
  simp [IntKind.wrap, IntKind.bits, IntKind.signed]
  omega

theorem eIS1_ok (r : Mem) (hm : Tab r) {m : Nat} (h1 : 1 ≤ m) (hm10 : m ≤ 10) {E : List (Nat × Nat)} (hE : okAll (m : Int) (zE E) E.length = true) (hl : E.length ≤ 1000000) : EOk (SC r) 22 (eIS1 (m : Nat) E.length (pcE E) (stF m E)) := EOk.ent fun args A hg => by
  split at hg
  · rename_i n i k l cap s x0 x1 x2 x3 x4
    split at hg
    · rename_i c' e f z hget
      simp only [Bool.and_eq_true] at hg
      obtain ⟨⟨⟨⟨⟨hs, q0⟩, q1⟩, q2⟩, q3⟩, q4⟩ := hg
      have hs := @of_decide_eq_true _ (Classical.propDecidable _) hs
      simp only [List.cons.injEq, Value.int.injEq, Value.slice.injEq, Option.some.injEq, Addr.mk.injEq, Value.agg.injEq, Array.mk.injEq, and_true, true_and] at hs
      obtain ⟨rfl, ⟨rfl, rfl, rfl⟩, rfl⟩ := hs
      refine POk.of rfl fun γ W args' hw hR ha => ?_
      obtain ⟨b, k', p1, p2, p3⟩ := own_mem hw hR hget (okL2_E E hl) rfl rfl ha
      exact ⟨memW W, _, memW_ro W, p1, fIs_ok (memW W) (memW_tab hm hR) m h1 hm10 E hE hl b k' 0 (rowE p2) s x0 x1 x2 x3 x4 (rg_use q0) (rg_use q1) (rg_use q2) (rg_use q3) (rg_use q4)⟩
    · cases hg
  · cases hg
theorem eIS0_ok (r : Mem) (hm : Tab r) {m : Nat} (h1 : 1 ≤ m) (hm10 : m ≤ 10) : EOk (SC r) 22 (eIS0 (m : Nat) (stF m [])) := EOk.ent fun args A hg => by
  split at hg
  · rename_i n s x0 x1 x2 x3 x4
    simp only [Bool.and_eq_true] at hg
    obtain ⟨⟨⟨⟨⟨hs, q0⟩, q1⟩, q2⟩, q3⟩, q4⟩ := hg
    have hs := @of_decide_eq_true _ (Classical.propDecidable _) hs
    simp only [List.cons.injEq, Value.int.injEq, and_true, true_and] at hs
    subst hs
    exact (fIsN_ok r hm m h1 hm10 s x0 x1 x2 x3 x4 (rg_use q0) (rg_use q1) (rg_use q2) (rg_use q3) (rg_use q4)).ro rfl A
  · cases hg

/-- The words' row of the caller's, as memory. -/
theorem own_ws {r : Mem} {γ : Gam} {A : AW} {W : World} (hw : WRel γ A W) (hR : Ro r γ W) {i m : Nat} (hm : m ≤ 16) {ws : List Nat} (hlw : ws.length = m) {e f z : Nat} (hget : A.heap.get i = some (.cells (m_ws ws) e f z)) {l : List Value} (hl : gnds l = true) {args' : Array Value} (ha : VsRel γ (.slice (some ⟨i, 0, none⟩) m m :: l) args'.toList) :
    ∃ b k', VsRel noG (RS b k' m 0 :: l) args'.toList ∧ ∀ k, k < m → memW W b (k' + k) = some (I (ws.getD k 0 : Nat)) := by
  obtain ⟨la⟩ := args'
  cases ha with
  | cons hv hrest =>
  obtain ⟨b, k', c', rfl, hrd⟩ := rd_world hw hR hv (natFK2 (by unfold unkE; omega))
  refine ⟨b, k', .cons (.sliceRo _ _ _ _ _ _ (by decide) (Nat.zero_le _)) ?_, fun j hj => ?_⟩
  · rw [hrest.eq_of_gnds hl]
    exact VsRel.of_gnds noG l hl
  · refine hrd j _ ?_ rfl
    simp only [AW.rd, AW.cell, hget]
    have := ws_get (ws := ws) (k := j) (by omega)
    rw [Nat.mul_eq, Nat.mul_one, Nat.add_eq] at this
    exact this

theorem eRI_ok (r : Mem) {m : Nat} (hm10 : m ≤ 10) {E : List (Nat × Nat)} (hE : okAll (m : Int) (zE E) E.length = true) : EOk (SC r) 21 (eRI m (m_ws (nbN m (zE E) E.length)) (stF m E)) := EOk.ent fun args A hg => by
  split at hg
  · rename_i i k l cap s x0 x1 x2 x3 x4
    split at hg
    · rename_i c' e f z hget
      have hs := @of_decide_eq_true _ (Classical.propDecidable _) hg
      simp only [List.cons.injEq, Value.slice.injEq, Option.some.injEq, Addr.mk.injEq, Value.agg.injEq, Array.mk.injEq, and_true, true_and] at hs
      obtain ⟨⟨rfl, rfl, rfl⟩, rfl⟩ := hs
      refine POk.of rfl fun γ W args' hw hR ha => ?_
      obtain ⟨b, k', p1, p2⟩ := own_ws hw hR (by omega) (nbN_len cap (zE E) E.length) hget rfl ha
      have h3 := okAll_at hE
      have hlt := nbN_lt cap (zE E) (n := (cap : Int)) (by omega) E.length fun i hi => h3 i hi
      have := rstr_ok (memW W) b k' cap 0 hm10 (fun k => (nbN cap (zE E) E.length).getD k 0) p2 (fun k _ => getD_lt hlt k) s x0 x1 x2 x3 x4
      refine ⟨memW W, _, memW_ro W, p1, ?_⟩
      show GrT _ _ _ _ (.bool (stF cap E s x0 x1 x2 x3 x4))
      unfold stF
      rw [stI_congr (q' := fun s => quN (fun k => (nbN cap (zE E) E.length).getD k 0) s cap) fun t ht => by
        have := quN_cut (w := fun i => (nbN 10 (zE E) E.length).getD i 0) (w' := fun k => (nbN cap (zE E) E.length).getD k 0) ht (fun i hi => nb_ext hm10 (zE E) E.length (fun i hi => h3 i hi) i hi) (10 - cap)
        rwa [show cap + (10 - cap) = 10 by omega] at this]
      exact this
    · cases hg
  · cases hg
theorem eAl_ok (r : Mem) {m : Nat} (hm : m ≤ 16) : EOk (SC r) 10 (eAl m) := EOk.ent fun args A hg => by
  split at hg
  · rename_i i k l cap
    simp only [Bool.and_eq_true] at hg
    have hs := @of_decide_eq_true _ (Classical.propDecidable _) hg.1
    simp only [List.cons.injEq, Value.slice.injEq, Option.some.injEq, Addr.mk.injEq, and_true, true_and] at hs
    obtain ⟨rfl, rfl, rfl⟩ := hs
    refine POk.of rfl fun γ W args' hw hR ha => ?_
    obtain ⟨la⟩ := args'
    cases ha with
    | cons hv hrest =>
    cases hrest
    obtain ⟨b, k', c', rfl, hrd⟩ := rd_world hw hR hv (natFK2 (by unfold unkE; omega))
    exact ⟨memW W, _, memW_ro W, .cons (.sliceRo b k' 0 cap 0 c' (by decide) (Nat.zero_le _)) .nil, rall_ok (memW W) b k' cap 0 hm⟩
  · cases hg

theorem ofV_row {m : Nat} (h : m ≤ 16) : ofV 0 (.slice (some ⟨0, 0, none⟩) m m) = true := by simp [ofV, of1]
theorem eOf1_ok (r : Mem) {m : Nat} (h1 : 1 ≤ m) (hm10 : m ≤ 10) {E : List (Nat × Nat)} (hE : okAll (m : Int) (zE E) E.length = true) (hl : E.length ≤ 1000000) : EOk (SC r) 8 (eOf1 m E.length (pcE E) (m_ws (nbN m (zE E) E.length))) := fun args A hgd F hF k γ W args' hw hR ha => by
  refine ⟨fun hcc => ?_, fun h => nomatch h⟩
  clear hcc
  dsimp only [eOf1] at hgd ⊢
  split at hgd
  · rename_i n i k0 l cap
    split at hgd
    · rename_i c' e f z hget
      have hs := @of_decide_eq_true _ (Classical.propDecidable _) hgd
      simp only [List.cons.injEq, Value.int.injEq, Value.slice.injEq, Option.some.injEq, Addr.mk.injEq, Value.agg.injEq, Array.mk.injEq, and_true, true_and] at hs
      obtain ⟨rfl, ⟨rfl, rfl, rfl⟩, rfl⟩ := hs
      obtain ⟨b, k', p1, p2, p3⟩ := own_mem hw hR hget (okL2_E E hl) rfl rfl ha
      have h := of_ok (memW W) m h1 (by omega) b k' E.length 0 _ (rowE p2) p3 hE
      exact h.ends (γ := γ) (A := A) (ofV_row (by omega)) (ws_gnd _) hF hw (memW_ro W) p1 ha
    · cases hgd
  · cases hgd

theorem oN1 : (lvlT (SC fun _ _ => none) (fun _ => none) .nil 20 3).call 8 [I 1, .slice none 0 0] emptyA finM = .ret (.slice (some ⟨0, 0, none⟩) 1 1) (rowA (m_ws (List.replicate 1 0)) 3 1) := by kernel_rfl
theorem oN2 : (lvlT (SC fun _ _ => none) (fun _ => none) .nil 20 3).call 8 [I 2, .slice none 0 0] emptyA finM = .ret (.slice (some ⟨0, 0, none⟩) 2 2) (rowA (m_ws (List.replicate 2 0)) 3 1) := by kernel_rfl
theorem oN3 : (lvlT (SC fun _ _ => none) (fun _ => none) .nil 20 3).call 8 [I 3, .slice none 0 0] emptyA finM = .ret (.slice (some ⟨0, 0, none⟩) 3 3) (rowA (m_ws (List.replicate 3 0)) 3 1) := by kernel_rfl
theorem oN4 : (lvlT (SC fun _ _ => none) (fun _ => none) .nil 20 3).call 8 [I 4, .slice none 0 0] emptyA finM = .ret (.slice (some ⟨0, 0, none⟩) 4 4) (rowA (m_ws (List.replicate 4 0)) 3 1) := by kernel_rfl
theorem oN5 : (lvlT (SC fun _ _ => none) (fun _ => none) .nil 20 3).call 8 [I 5, .slice none 0 0] emptyA finM = .ret (.slice (some ⟨0, 0, none⟩) 5 5) (rowA (m_ws (List.replicate 5 0)) 3 1) := by kernel_rfl
theorem oN6 : (lvlT (SC fun _ _ => none) (fun _ => none) .nil 20 3).call 8 [I 6, .slice none 0 0] emptyA finM = .ret (.slice (some ⟨0, 0, none⟩) 6 6) (rowA (m_ws (List.replicate 6 0)) 3 1) := by kernel_rfl
theorem oN7 : (lvlT (SC fun _ _ => none) (fun _ => none) .nil 20 3).call 8 [I 7, .slice none 0 0] emptyA finM = .ret (.slice (some ⟨0, 0, none⟩) 7 7) (rowA (m_ws (List.replicate 7 0)) 3 1) := by kernel_rfl
theorem oN8 : (lvlT (SC fun _ _ => none) (fun _ => none) .nil 20 3).call 8 [I 8, .slice none 0 0] emptyA finM = .ret (.slice (some ⟨0, 0, none⟩) 8 8) (rowA (m_ws (List.replicate 8 0)) 3 1) := by kernel_rfl
theorem oN9 : (lvlT (SC fun _ _ => none) (fun _ => none) .nil 20 3).call 8 [I 9, .slice none 0 0] emptyA finM = .ret (.slice (some ⟨0, 0, none⟩) 9 9) (rowA (m_ws (List.replicate 9 0)) 3 1) := by kernel_rfl
theorem oN10 : (lvlT (SC fun _ _ => none) (fun _ => none) .nil 20 3).call 8 [I 10, .slice none 0 0] emptyA finM = .ret (.slice (some ⟨0, 0, none⟩) 10 10) (rowA (m_ws (List.replicate 10 0)) 3 1) := by kernel_rfl
theorem ofN_ok {m : Nat} (h1 : 1 ≤ m) (h2 : m ≤ 10) : GrM Tryd.prog (fun _ _ => none) 8 [I (m : Nat), .slice none 0 0] (.slice (some ⟨0, 0, none⟩) m m) (rowA (m_ws (nbN m (zE []) 0)) 3 1) := by
  have : m = 1 ∨ m = 2 ∨ m = 3 ∨ m = 4 ∨ m = 5 ∨ m = 6 ∨ m = 7 ∨ m = 8 ∨ m = 9 ∨ m = 10 := by omega
  rcases this with rfl | rfl | rfl | rfl | rfl | rfl | rfl | rfl | rfl | rfl
  · exact GrM.of (SC_ok fun _ _ => none) TOk.nil .nil ⟨20, 3, oN1⟩
  · exact GrM.of (SC_ok fun _ _ => none) TOk.nil .nil ⟨20, 3, oN2⟩
  · exact GrM.of (SC_ok fun _ _ => none) TOk.nil .nil ⟨20, 3, oN3⟩
  · exact GrM.of (SC_ok fun _ _ => none) TOk.nil .nil ⟨20, 3, oN4⟩
  · exact GrM.of (SC_ok fun _ _ => none) TOk.nil .nil ⟨20, 3, oN5⟩
  · exact GrM.of (SC_ok fun _ _ => none) TOk.nil .nil ⟨20, 3, oN6⟩
  · exact GrM.of (SC_ok fun _ _ => none) TOk.nil .nil ⟨20, 3, oN7⟩
  · exact GrM.of (SC_ok fun _ _ => none) TOk.nil .nil ⟨20, 3, oN8⟩
  · exact GrM.of (SC_ok fun _ _ => none) TOk.nil .nil ⟨20, 3, oN9⟩
  · exact GrM.of (SC_ok fun _ _ => none) TOk.nil .nil ⟨20, 3, oN10⟩
theorem eOf0_ok (r : Mem) {m : Nat} (h1 : 1 ≤ m) (hm10 : m ≤ 10) : EOk (SC r) 8 (eOf0 m (m_ws (nbN m (zE []) 0))) := fun args A hgd F hF k γ W args' hw hR ha => by
  refine ⟨fun hcc => ?_, fun h => nomatch h⟩
  have hs := @of_decide_eq_true _ (Classical.propDecidable _) hgd
  subst hs
  have := (ofN_ok h1 hm10).ends (args := [I (m : Nat), .slice none 0 0]) (γ := γ) (A := A) (ofV_row (by omega)) (ws_gnd _) hF hw (fun b j u h => nomatch h) (k := k) (args' := args') ?_ ha
  · exact this
  · rw [ha.eq_of_gnds rfl]
    exact VsRel.of_gnds noG _ rfl
theorem eTm1_ok (r : Mem) {a0 : List Value} (hro : roVs a0 = true) {m : Nat} {p : Nat × Nat} {l : List (Nat × Nat)} (h : SOk (SC r) 7 a0 emptyA fun v A => v = vTa m (p :: l) ∧ A = mkA (oL (p :: l))) : EOk (SC r) 7 (eTm1 a0 m (l.length + 1) (pcE (p :: l))) := fun args A hgd F hF k γ W args' hw hR ha => by
  refine ⟨fun hcc => ?_, fun h => nomatch h⟩
  have hs := @of_decide_eq_true _ (Classical.propDecidable _) hgd
  subst hs
  have hg : GrM Tryd.prog r 7 args (vTa m (p :: l)) (rowA (pcE (p :: l)) 49 2) := GrM.ofS (C := SC r) rfl rfl h
  have hof : ofV 0 (vTa m (p :: l)) = true := by simp [vTa, vL, ofV, of1, gnd]
  exact hg.ends (γ := γ) (A := A) hof (pcE_gnd _) hF hw (hR.noG noG fun _ => rfl) (ha.of_ros hro) ha
theorem tm0_ok (r : Mem) {a0 : List Value} {m : Nat} (h : SOk (SC r) 7 a0 emptyA fun v A => v = vTa m [] ∧ A = mkA (oL [])) : GrT Tryd.prog r 7 a0 (.tuple ⟨[I (m : Nat), .slice none 0 0]⟩) :=
  GrT.ofS (C := SC r) rfl rfl rfl fun F hF k γ W args' hw hR ha => (h F hF k γ W args' hw hR ha).mono fun e W' ⟨u, B, ⟨h, _⟩, he⟩ => ⟨u, B, h, he⟩

theorem st0 {m : Nat} (hm : m ≤ 10) (E : List (Nat × Nat)) (x0 x1 x2 x3 x4 : Int) : stF m E 0 x0 x1 x2 x3 x4 = false := by
  have hA : 2 ^ m ≤ 1024 := Nat.pow_le_pow_right (n := 2) (by decide) hm
  cases h : stF m E 0 x0 x1 x2 x3 x4 with
  | false => rfl
  | true =>
    exfalso
    unfold stF stI stN at h
    simp only [Bool.and_eq_true, decide_eq_true_eq, Bool.not_eq_true'] at h
    obtain ⟨_, ⟨⟨⟨⟨⟨⟨⟨_, hp⟩, h3⟩, _⟩, h34⟩, _⟩, _⟩, _⟩, _⟩ := h
    have hy := an_lt (b := x0.toNat ||| x1.toNat ||| x2.toNat) (all_lt m)
    have hz := popN_zero_of 16 _ (show anN (2 ^ m - 1) (x0.toNat ||| x1.toNat ||| x2.toNat) < 2 ^ 16 by omega) (by omega)
    rw [hz] at h34
    have h5 : anN x3.toNat 0 = 0 := by simpa using h34
    rw [an_zero, Nat.and_zero] at h5
    rw [← h5] at h3
    cases h3

theorem equ_rfl (z : Int) : m_eqv (.int .u64 z) (.int .u64 z) = true := by simp [m_eqv, veq]
theorem nn5 (x0 x1 x2 x3 x4 : Int) : m_nns [Value.int IntKind.i64 x0, Value.int IntKind.i64 x1, Value.int IntKind.i64 x2, Value.int IntKind.i64 x3, Value.int IntKind.i64 x4] = true := rfl
theorem mod_ne {m : Nat} (h : m ≤ 10) : (!decide (IntKind.wrap IntKind.u64 (IntKind.wrap IntKind.i64 (m_all (Int.ofNat m) + Int.ofNat 1)) = 0)) = true := by
  have e := all_eq (m := m) (by omega)
  have hA : 2 ^ m ≤ 1024 := Nat.pow_le_pow_right (n := 2) (by decide) h
  have hp := Nat.two_pow_pos m
  rw [show m_all (Int.ofNat m) = ((2 ^ m - 1 : Nat) : Int) from e]
  have e2 : ((2 ^ m - 1 : Nat) : Int) + Int.ofNat 1 = ((2 ^ m : Nat) : Int) := by
    obtain ⟨q, hq⟩ : ∃ q, 2 ^ m = q + 1 := ⟨2 ^ m - 1, by omega⟩
    rw [hq]
    simp
  rw [e2, wrI (by omega), wrapU' (by omega), decide_eq_false (by omega)]
  rfl
def oTrue : Outs := ⟨[6], [], fun vs ms os => vs = [some (.bool true)] ∧ ms = [] ∧ os = []⟩
theorem gE_len (n most : Int) (len : Nat) (z : Nat → Int) (h1 : 1 ≤ most) (h2 : most ≤ 16) : (gE n most len z).length ≤ 1000000 := by
  have hg := (gM_ok n h1 h2).2.2
  unfold gE
  have := alE_len (fun k => (tmN (gM n most) z (min 40 len)).getD k 0) (gM n most) (gM n most)
  have : gM n most * gM n most ≤ 16 * 16 := Nat.mul_le_mul hg hg
  omega

end Go.Proofs

/- The law of structures found, run. -/
namespace Go.Proofs
open Go Go.Ev Go.Num
set_option linter.unusedVariables false
set_option linter.unusedSimpArgs false
set_option maxRecDepth 100000

abbrev Gv := Nat → Int → Int
def vS5 (gv : Gv) (s : Int) : Value := .agg ⟨[I (gv 0 s), I (gv 1 s), I (gv 2 s), I (gv 3 s), I (gv 4 s)]⟩
noncomputable def eS1 (m : Int) (len : Nat) (c : List Value) (gv : Gv) (go : Int → Bool) (ge : Int → Int) : Ent := ent
  (fun args A => match args with
    | [.int .i64 n, .slice (some ⟨i, k, none⟩) l cap, .int .i64 _] => match A.heap.get i with
      | some (.cells c' _ _ _) => m_same [.int .i64 n, .slice (some ⟨0, k, none⟩) l cap, .agg ⟨c'⟩] [.int .i64 m, .slice (some ⟨0, 0, none⟩) len unk, .agg ⟨c⟩]
      | _ => false
    | _ => false)
  (fun args _ => match args with
    | [_, _, .int .i64 s] => .tuple ⟨[vS5 gv s, .bool (go s), I (ge s)]⟩
    | _ => undef)
noncomputable def eS0 (m : Int) (gv : Gv) (go : Int → Bool) (ge : Int → Int) : Ent := ent
  (fun args A => match args with
    | [.int .i64 n, .slice none 0 0, .int .i64 _] => m_same [.int .i64 n] [.int .i64 m]
    | _ => false)
  (fun args _ => match args with
    | [_, _, .int .i64 s] => .tuple ⟨[vS5 gv s, .bool (go s), I (ge s)]⟩
    | _ => undef)
noncomputable def eHo (m : Nat) (g : List Value) (h : Int → Bool) : Ent := ent
  (fun args A => match args with
    | [.slice (some ⟨i, k, none⟩) l cap, .int .i64 s] => match A.heap.get i with
      | some (.cells c' _ _ _) => m_same [.slice (some ⟨0, k, none⟩) l cap, .agg ⟨c'⟩] [.slice (some ⟨0, 0, none⟩) m m, .agg ⟨g⟩]
      | _ => false
    | _ => false)
  (fun args _ => match args with
    | [_, .int .i64 s] => .bool (h s)
    | _ => undef)
noncomputable def eSt (c : List Value) (gv : Gv) (go : Int → Bool) : Ent := ent
  (fun args _ => match args with
    | [.agg ⟨l⟩, .int .i64 _] => m_same l c
    | _ => false)
  (fun args _ => match args with
    | [_, .int .i64 s] => .tuple ⟨[vS5 gv s, .bool (go s)]⟩
    | _ => undef)
noncomputable def tFl1 (a0 : List Value) (m len : Nat) (c g : List Value) (gv : Gv) (go : Int → Bool) (ge : Int → Int) (h : Int → Bool) (st : St5) : Tbl := tcons 14 (e0 (.bool true)) (tcons 7 (eTm1 a0 m len c) (tcons 8 (eOf1 m len c g) (tcons 19 (eS1 (m : Nat) len c gv go ge) (tcons 20 (eHo m g h) (tcons 21 (eRI m g st) fun _ => none)))))
noncomputable def tFl0 (a0 : List Value) (m : Nat) (g : List Value) (gv : Gv) (go : Int → Bool) (ge : Int → Int) (h : Int → Bool) (st : St5) : Tbl := tcons 14 (e0 (.bool true)) (tcons 7 (entV a0 (.tuple ⟨[I (m : Nat), .slice none 0 0]⟩)) (tcons 8 (eOf0 m g) (tcons 19 (eS0 (m : Nat) gv go ge) (tcons 20 (eHo m g h) (tcons 21 (eRI m g st) fun _ => none)))))
noncomputable def cFl : Code := bodyOf S0 5
noncomputable def Fl_0 : Code := (lc cFl)
noncomputable def Fl_1 : Code := (lc (rc cFl))
noncomputable def Fl_2 : Code := (lc (rc (rc cFl)))
noncomputable def Fl_3 : Code := (lc (lc (rc (rc (rc cFl)))))
noncomputable def Fl_4 : Code := (ic (ic (rc (lc (rc (rc (rc cFl)))))))
noncomputable def Fl_5 : Code := (rc (rc (rc (rc cFl))))
theorem Fl_eq : cFl = (.seq Fl_0 (.seq Fl_1 (.seq Fl_2 (.seq (.seq Fl_3 (.block 0 (.loop Fl_4))) Fl_5)))) := by kernel_rfl
def lvFl : List Nat := [0, 2, 7, 8, 9]
def vL1 (m len : Nat) (set i : Int) : OV := [some (I (m : Nat)), some (I set), some (.slice (some ⟨0, 0, none⟩) len unk), some (.slice (some ⟨1, 0, none⟩) m m), some (I i)]
def vL0 (m : Nat) (set i : Int) : OV := [some (I (m : Nat)), some (I set), some (.slice none 0 0), some (.slice (some ⟨0, 0, none⟩) m m), some (I i)]
def oL1 (c g : List Value) : OO := [some (.cells c 49 0 2), some (.cells g 3 1 1)]
def oL0 (g : List Value) : OO := [some (.cells g 3 0 1)]
noncomputable def tFs (n : Int) (sl : Value) (l : List Value) (gv : Gv) (go : Int → Bool) : Tbl := tcons 24 (entV [I n, sl] (.tuple ⟨[.agg ⟨I n :: l⟩, I 0]⟩)) (tcons 32 (eSt (I n :: l) gv go) fun _ => none)

theorem fsR (r : Mem) (n s : Int) (gv : Gv) (go : Int → Bool) (b off len cap : Nat) (w0 w1 w2 w3 w4 w5 w6 w7 w8 w9 : Int) : (lvlT (SC r) (tFs n (RS2 b off len cap) [U w0, U w1, U w2, U w3, U w4, U w5, U w6, U w7, U w8, U w9] gv go) .nil 1 3).call 19 [I n, RS2 b off len cap, I s] emptyA fin =
    bif m_same [Value.int IntKind.i64 n, Value.slice (some (Addr.mk b off (some 0))) len cap] [Value.int IntKind.i64 n, Value.slice (some (Addr.mk b off (some 0))) len cap] then bif decide (s < 1) then CR.ret (Value.tuple (Array.mk [Value.agg (Array.mk [Value.int IntKind.i64 (Int.ofNat 0), Value.int IntKind.i64 (Int.ofNat 0), Value.int IntKind.i64 (Int.ofNat 0), Value.int IntKind.i64 (Int.ofNat 0), Value.int IntKind.i64 (Int.ofNat 0)]), Value.bool false, Value.int IntKind.i64 (Int.ofNat 1)])) (AW.mk 0 Tr.nil Tr.nil) else bif decide (s > 10) then CR.ret (Value.tuple (Array.mk [Value.agg (Array.mk [Value.int IntKind.i64 (Int.ofNat 0), Value.int IntKind.i64 (Int.ofNat 0), Value.int IntKind.i64 (Int.ofNat 0), Value.int IntKind.i64 (Int.ofNat 0), Value.int IntKind.i64 (Int.ofNat 0)]), Value.bool false, Value.int IntKind.i64 (Int.ofNat 1)])) (AW.mk 0 Tr.nil Tr.nil) else bif m_same [Value.int IntKind.i64 n, Value.int IntKind.u64 w0, Value.int IntKind.u64 w1, Value.int IntKind.u64 w2, Value.int IntKind.u64 w3, Value.int IntKind.u64 w4, Value.int IntKind.u64 w5, Value.int IntKind.u64 w6, Value.int IntKind.u64 w7, Value.int IntKind.u64 w8, Value.int IntKind.u64 w9] [Value.int IntKind.i64 n, Value.int IntKind.u64 w0, Value.int IntKind.u64 w1, Value.int IntKind.u64 w2, Value.int IntKind.u64 w3, Value.int IntKind.u64 w4, Value.int IntKind.u64 w5, Value.int IntKind.u64 w6, Value.int IntKind.u64 w7, Value.int IntKind.u64 w8, Value.int IntKind.u64 w9] then bif go s then CR.ret (Value.tuple (Array.mk [Value.agg (Array.mk [Value.int IntKind.i64 (gv 0 s), Value.int IntKind.i64 (gv 1 s), Value.int IntKind.i64 (gv 2 s), Value.int IntKind.i64 (gv 3 s), Value.int IntKind.i64 (gv 4 s)]), Value.bool true, Value.int IntKind.i64 (Int.ofNat 0)])) (AW.mk 0 Tr.nil Tr.nil) else CR.ret (Value.tuple (Array.mk [Value.agg (Array.mk [Value.int IntKind.i64 (gv 0 s), Value.int IntKind.i64 (gv 1 s), Value.int IntKind.i64 (gv 2 s), Value.int IntKind.i64 (gv 3 s), Value.int IntKind.i64 (gv 4 s)]), Value.bool false, Value.int IntKind.i64 (Int.ofNat 0)])) (AW.mk 0 Tr.nil Tr.nil) else CR.fail 420 else CR.fail 420 := by kernel_rfl

theorem fsZ (r : Mem) (n s : Int) (gv : Gv) (go : Int → Bool) (w0 w1 w2 w3 w4 w5 w6 w7 w8 w9 : Int) : (lvlT (SC r) (tFs n (.slice none 0 0) [U w0, U w1, U w2, U w3, U w4, U w5, U w6, U w7, U w8, U w9] gv go) .nil 1 3).call 19 [I n, .slice none 0 0, I s] emptyA fin =
    bif m_same [Value.int IntKind.i64 n, Value.slice none 0 0] [Value.int IntKind.i64 n, Value.slice none 0 0] then bif decide (s < 1) then CR.ret (Value.tuple (Array.mk [Value.agg (Array.mk [Value.int IntKind.i64 (Int.ofNat 0), Value.int IntKind.i64 (Int.ofNat 0), Value.int IntKind.i64 (Int.ofNat 0), Value.int IntKind.i64 (Int.ofNat 0), Value.int IntKind.i64 (Int.ofNat 0)]), Value.bool false, Value.int IntKind.i64 (Int.ofNat 1)])) (AW.mk 0 Tr.nil Tr.nil) else bif decide (s > 10) then CR.ret (Value.tuple (Array.mk [Value.agg (Array.mk [Value.int IntKind.i64 (Int.ofNat 0), Value.int IntKind.i64 (Int.ofNat 0), Value.int IntKind.i64 (Int.ofNat 0), Value.int IntKind.i64 (Int.ofNat 0), Value.int IntKind.i64 (Int.ofNat 0)]), Value.bool false, Value.int IntKind.i64 (Int.ofNat 1)])) (AW.mk 0 Tr.nil Tr.nil) else bif m_same [Value.int IntKind.i64 n, Value.int IntKind.u64 w0, Value.int IntKind.u64 w1, Value.int IntKind.u64 w2, Value.int IntKind.u64 w3, Value.int IntKind.u64 w4, Value.int IntKind.u64 w5, Value.int IntKind.u64 w6, Value.int IntKind.u64 w7, Value.int IntKind.u64 w8, Value.int IntKind.u64 w9] [Value.int IntKind.i64 n, Value.int IntKind.u64 w0, Value.int IntKind.u64 w1, Value.int IntKind.u64 w2, Value.int IntKind.u64 w3, Value.int IntKind.u64 w4, Value.int IntKind.u64 w5, Value.int IntKind.u64 w6, Value.int IntKind.u64 w7, Value.int IntKind.u64 w8, Value.int IntKind.u64 w9] then bif go s then CR.ret (Value.tuple (Array.mk [Value.agg (Array.mk [Value.int IntKind.i64 (gv 0 s), Value.int IntKind.i64 (gv 1 s), Value.int IntKind.i64 (gv 2 s), Value.int IntKind.i64 (gv 3 s), Value.int IntKind.i64 (gv 4 s)]), Value.bool true, Value.int IntKind.i64 (Int.ofNat 0)])) (AW.mk 0 Tr.nil Tr.nil) else CR.ret (Value.tuple (Array.mk [Value.agg (Array.mk [Value.int IntKind.i64 (gv 0 s), Value.int IntKind.i64 (gv 1 s), Value.int IntKind.i64 (gv 2 s), Value.int IntKind.i64 (gv 3 s), Value.int IntKind.i64 (gv 4 s)]), Value.bool false, Value.int IntKind.i64 (Int.ofNat 0)])) (AW.mk 0 Tr.nil Tr.nil) else CR.fail 420 else CR.fail 420 := by kernel_rfl

theorem gqR1 (r : Mem) (n set : Int) (b off len cap : Nat) (m k : Nat) (c g : List Value) (gv : Gv) (go : Int → Bool) (ge : Int → Int) (h : Int → Bool) (st : St5) (K : OV → List Nat → OO → CR) (kx : Nat → KS) (kr : KS) : run (SC r) 8135 84 1 (.seq Fl_0 (.seq Fl_1 (.seq Fl_2 Fl_3))) (lvlT (SC r) (tFl1 [I n, RS2 b off len cap, I 8] m k c g gv go ge h st) .nil 1 1) none (rbK 0 lvFl [] K) kx kr (sc0 8135 [I n, RS2 b off len cap, I set]) (tr0 8135 [I n, RS2 b off len cap, I set]) [] emptyA =
    bif m_same [Value.int IntKind.i64 n, Value.slice (some (Addr.mk b off (some 0))) len cap, Value.int IntKind.i64 (Int.ofNat 8)] [Value.int IntKind.i64 n, Value.slice (some (Addr.mk b off (some 0))) len cap, Value.int IntKind.i64 (Int.ofNat 8)] then bif m_same [Value.int IntKind.i64 (Int.ofNat m), Value.slice (some (Addr.mk 0 0 none)) k 9223372036854775808, Value.agg (Array.mk c)] [Value.int IntKind.i64 (Int.ofNat m), Value.slice (some (Addr.mk 0 0 none)) k 9223372036854775808, Value.agg (Array.mk c)] then bif m_nns c && (m_nns g && true) then K [some (Value.int IntKind.i64 (Int.ofNat m)), some (Value.int IntKind.i64 set), some (Value.slice (some (Addr.mk 0 0 none)) k 9223372036854775808), some (Value.slice (some (Addr.mk 1 0 none)) m m), some (Value.int IntKind.i64 (Int.ofNat 0))] [] [some (AObj.cells c 49 0 2), some (AObj.cells g 3 1 1)] else CR.fail 420 else CR.fail 420 else CR.fail 420 := by kernel_rfl

theorem gqR0 (r : Mem) (n set : Int) (b off len cap : Nat) (m : Nat) (g : List Value) (gv : Gv) (go : Int → Bool) (ge : Int → Int) (h : Int → Bool) (st : St5) (K : OV → List Nat → OO → CR) (kx : Nat → KS) (kr : KS) : run (SC r) 8135 84 1 (.seq Fl_0 (.seq Fl_1 (.seq Fl_2 Fl_3))) (lvlT (SC r) (tFl0 [I n, RS2 b off len cap, I 8] m g gv go ge h st) .nil 1 1) none (rbK 0 lvFl [] K) kx kr (sc0 8135 [I n, RS2 b off len cap, I set]) (tr0 8135 [I n, RS2 b off len cap, I set]) [] emptyA =
    bif m_same [Value.int IntKind.i64 n, Value.slice (some (Addr.mk b off (some 0))) len cap, Value.int IntKind.i64 (Int.ofNat 8)] [Value.int IntKind.i64 n, Value.slice (some (Addr.mk b off (some 0))) len cap, Value.int IntKind.i64 (Int.ofNat 8)] then bif m_same [Value.int IntKind.i64 (Int.ofNat m), Value.slice none 0 0] [Value.int IntKind.i64 (Int.ofNat m), Value.slice none 0 0] then bif m_nns g && true then K [some (Value.int IntKind.i64 (Int.ofNat m)), some (Value.int IntKind.i64 set), some (Value.slice none 0 0), some (Value.slice (some (Addr.mk 0 0 none)) m m), some (Value.int IntKind.i64 (Int.ofNat 0))] [] [some (AObj.cells g 3 0 1)] else CR.fail 420 else CR.fail 420 else CR.fail 420 := by kernel_rfl

theorem gqN1 (r : Mem) (n set : Int) (m k : Nat) (c g : List Value) (gv : Gv) (go : Int → Bool) (ge : Int → Int) (h : Int → Bool) (st : St5) (K : OV → List Nat → OO → CR) (kx : Nat → KS) (kr : KS) : run (SC r) 8135 84 1 (.seq Fl_0 (.seq Fl_1 (.seq Fl_2 Fl_3))) (lvlT (SC r) (tFl1 [I n, .slice none 0 0, I 8] m k c g gv go ge h st) .nil 1 1) none (rbK 0 lvFl [] K) kx kr (sc0 8135 [I n, .slice none 0 0, I set]) (tr0 8135 [I n, .slice none 0 0, I set]) [] emptyA =
    bif m_same [Value.int IntKind.i64 n, Value.slice none 0 0, Value.int IntKind.i64 (Int.ofNat 8)] [Value.int IntKind.i64 n, Value.slice none 0 0, Value.int IntKind.i64 (Int.ofNat 8)] then bif m_same [Value.int IntKind.i64 (Int.ofNat m), Value.slice (some (Addr.mk 0 0 none)) k 9223372036854775808, Value.agg (Array.mk c)] [Value.int IntKind.i64 (Int.ofNat m), Value.slice (some (Addr.mk 0 0 none)) k 9223372036854775808, Value.agg (Array.mk c)] then bif m_nns c && (m_nns g && true) then K [some (Value.int IntKind.i64 (Int.ofNat m)), some (Value.int IntKind.i64 set), some (Value.slice (some (Addr.mk 0 0 none)) k 9223372036854775808), some (Value.slice (some (Addr.mk 1 0 none)) m m), some (Value.int IntKind.i64 (Int.ofNat 0))] [] [some (AObj.cells c 49 0 2), some (AObj.cells g 3 1 1)] else CR.fail 420 else CR.fail 420 else CR.fail 420 := by kernel_rfl

theorem gqN0 (r : Mem) (n set : Int) (m : Nat) (g : List Value) (gv : Gv) (go : Int → Bool) (ge : Int → Int) (h : Int → Bool) (st : St5) (K : OV → List Nat → OO → CR) (kx : Nat → KS) (kr : KS) : run (SC r) 8135 84 1 (.seq Fl_0 (.seq Fl_1 (.seq Fl_2 Fl_3))) (lvlT (SC r) (tFl0 [I n, .slice none 0 0, I 8] m g gv go ge h st) .nil 1 1) none (rbK 0 lvFl [] K) kx kr (sc0 8135 [I n, .slice none 0 0, I set]) (tr0 8135 [I n, .slice none 0 0, I set]) [] emptyA =
    bif m_same [Value.int IntKind.i64 n, Value.slice none 0 0, Value.int IntKind.i64 (Int.ofNat 8)] [Value.int IntKind.i64 n, Value.slice none 0 0, Value.int IntKind.i64 (Int.ofNat 8)] then bif m_same [Value.int IntKind.i64 (Int.ofNat m), Value.slice none 0 0] [Value.int IntKind.i64 (Int.ofNat m), Value.slice none 0 0] then bif m_nns g && true then K [some (Value.int IntKind.i64 (Int.ofNat m)), some (Value.int IntKind.i64 set), some (Value.slice none 0 0), some (Value.slice (some (Addr.mk 0 0 none)) m m), some (Value.int IntKind.i64 (Int.ofNat 0))] [] [some (AObj.cells g 3 0 1)] else CR.fail 420 else CR.fail 420 else CR.fail 420 := by kernel_rfl

theorem gr1 (r : Mem) (a0 : List Value) (i set : Int) (m k : Nat) (c g : List Value) (gv : Gv) (go : Int → Bool) (ge : Int → Int) (h : Int → Bool) (st : St5) (K : OV → List Nat → OO → CR) (KX : Nat → OV → List Nat → OO → CR) (KR : OV → List Nat → OO → CR) : run (SC r) 8135 84 6 Fl_4 (lvlT (SC r) (tFl1 a0 m k c g gv go ge h st) .nil 6 1) none (rbK 0 lvFl [] K) (fun i => rbK 0 [] [] (KX i)) (rbK 0 [6] [] KR) [] (bT lvFl (vL1 m k set i) .nil) [] (mkA (oL1 c g)) =
    bif decide (i < 2) then bif m_same [Value.int IntKind.i64 (Int.ofNat m), Value.slice (some (Addr.mk 0 0 none)) k 9223372036854775808, Value.agg (Array.mk c)] [Value.int IntKind.i64 (Int.ofNat m), Value.slice (some (Addr.mk 0 0 none)) k 9223372036854775808, Value.agg (Array.mk c)] then bif go set then bif decide (set < 1) then bif ge set != Int.ofNat 1 then KR [some (Value.bool false)] [] [] else KR [some (Value.bool false)] [] [] else bif decide (set > 10) then bif ge set != Int.ofNat 1 then KR [some (Value.bool false)] [] [] else KR [some (Value.bool false)] [] [] else bif ge set != Int.ofNat 0 then KR [some (Value.bool false)] [] [] else bif m_same [Value.slice (some (Addr.mk 0 0 none)) m m, Value.agg (Array.mk g)] [Value.slice (some (Addr.mk 0 0 none)) m m, Value.agg (Array.mk g)] then bif h set then bif m_same [Value.slice (some (Addr.mk 0 0 none)) m m, Value.agg (Array.mk g)] [Value.slice (some (Addr.mk 0 0 none)) m m, Value.agg (Array.mk g)] then bif st set (gv 0 set) (gv 1 set) (gv 2 set) (gv 3 set) (gv 4 set) then bif m_nns c && (m_nns g && true) then K [some (Value.int IntKind.i64 (Int.ofNat m)), some (Value.int IntKind.i64 (IntKind.wrap IntKind.i64 (Int.ofNat 1 + IntKind.wrap IntKind.i64 (Int.tmod (IntKind.wrap IntKind.u64 set) (Int.ofNat 4))))), some (Value.slice (some (Addr.mk 0 0 none)) k 9223372036854775808), some (Value.slice (some (Addr.mk 1 0 none)) m m), some (Value.int IntKind.i64 (IntKind.wrap IntKind.i64 (i + Int.ofNat 1)))] [] [some (AObj.cells c 49 0 2), some (AObj.cells g 3 1 1)] else CR.fail 420 else KR [some (Value.bool false)] [] [] else CR.fail 420 else KR [some (Value.bool false)] [] [] else CR.fail 420 else bif decide (set < 1) then bif ge set != Int.ofNat 1 then KR [some (Value.bool false)] [] [] else bif !(gv 0 set == Int.ofNat 0 && (gv 1 set == Int.ofNat 0 && (gv 2 set == Int.ofNat 0 && (gv 3 set == Int.ofNat 0 && (gv 4 set == Int.ofNat 0 && true))))) then KR [some (Value.bool false)] [] [] else bif m_nns c && (m_nns g && true) then K [some (Value.int IntKind.i64 (Int.ofNat m)), some (Value.int IntKind.i64 (IntKind.wrap IntKind.i64 (Int.ofNat 1 + IntKind.wrap IntKind.i64 (Int.tmod (IntKind.wrap IntKind.u64 set) (Int.ofNat 4))))), some (Value.slice (some (Addr.mk 0 0 none)) k 9223372036854775808), some (Value.slice (some (Addr.mk 1 0 none)) m m), some (Value.int IntKind.i64 (IntKind.wrap IntKind.i64 (i + Int.ofNat 1)))] [] [some (AObj.cells c 49 0 2), some (AObj.cells g 3 1 1)] else CR.fail 420 else bif decide (set > 10) then bif ge set != Int.ofNat 1 then KR [some (Value.bool false)] [] [] else bif !(gv 0 set == Int.ofNat 0 && (gv 1 set == Int.ofNat 0 && (gv 2 set == Int.ofNat 0 && (gv 3 set == Int.ofNat 0 && (gv 4 set == Int.ofNat 0 && true))))) then KR [some (Value.bool false)] [] [] else bif m_nns c && (m_nns g && true) then K [some (Value.int IntKind.i64 (Int.ofNat m)), some (Value.int IntKind.i64 (IntKind.wrap IntKind.i64 (Int.ofNat 1 + IntKind.wrap IntKind.i64 (Int.tmod (IntKind.wrap IntKind.u64 set) (Int.ofNat 4))))), some (Value.slice (some (Addr.mk 0 0 none)) k 9223372036854775808), some (Value.slice (some (Addr.mk 1 0 none)) m m), some (Value.int IntKind.i64 (IntKind.wrap IntKind.i64 (i + Int.ofNat 1)))] [] [some (AObj.cells c 49 0 2), some (AObj.cells g 3 1 1)] else CR.fail 420 else bif ge set != Int.ofNat 0 then KR [some (Value.bool false)] [] [] else bif m_same [Value.slice (some (Addr.mk 0 0 none)) m m, Value.agg (Array.mk g)] [Value.slice (some (Addr.mk 0 0 none)) m m, Value.agg (Array.mk g)] then bif h set then KR [some (Value.bool false)] [] [] else bif !(gv 0 set == Int.ofNat 0 && (gv 1 set == Int.ofNat 0 && (gv 2 set == Int.ofNat 0 && (gv 3 set == Int.ofNat 0 && (gv 4 set == Int.ofNat 0 && true))))) then KR [some (Value.bool false)] [] [] else bif m_nns c && (m_nns g && true) then K [some (Value.int IntKind.i64 (Int.ofNat m)), some (Value.int IntKind.i64 (IntKind.wrap IntKind.i64 (Int.ofNat 1 + IntKind.wrap IntKind.i64 (Int.tmod (IntKind.wrap IntKind.u64 set) (Int.ofNat 4))))), some (Value.slice (some (Addr.mk 0 0 none)) k 9223372036854775808), some (Value.slice (some (Addr.mk 1 0 none)) m m), some (Value.int IntKind.i64 (IntKind.wrap IntKind.i64 (i + Int.ofNat 1)))] [] [some (AObj.cells c 49 0 2), some (AObj.cells g 3 1 1)] else CR.fail 420 else CR.fail 420 else CR.fail 420 else KX 0 [] [] [] := by kernel_rfl

theorem gr0 (r : Mem) (a0 : List Value) (i set : Int) (m : Nat) (g : List Value) (gv : Gv) (go : Int → Bool) (ge : Int → Int) (h : Int → Bool) (st : St5) (K : OV → List Nat → OO → CR) (KX : Nat → OV → List Nat → OO → CR) (KR : OV → List Nat → OO → CR) : run (SC r) 8135 84 6 Fl_4 (lvlT (SC r) (tFl0 a0 m g gv go ge h st) .nil 6 1) none (rbK 0 lvFl [] K) (fun i => rbK 0 [] [] (KX i)) (rbK 0 [6] [] KR) [] (bT lvFl (vL0 m set i) .nil) [] (mkA (oL0 g)) =
    bif decide (i < 2) then bif m_same [Value.int IntKind.i64 (Int.ofNat m)] [Value.int IntKind.i64 (Int.ofNat m)] then bif go set then bif decide (set < 1) then bif ge set != Int.ofNat 1 then KR [some (Value.bool false)] [] [] else KR [some (Value.bool false)] [] [] else bif decide (set > 10) then bif ge set != Int.ofNat 1 then KR [some (Value.bool false)] [] [] else KR [some (Value.bool false)] [] [] else bif ge set != Int.ofNat 0 then KR [some (Value.bool false)] [] [] else bif m_same [Value.slice (some (Addr.mk 0 0 none)) m m, Value.agg (Array.mk g)] [Value.slice (some (Addr.mk 0 0 none)) m m, Value.agg (Array.mk g)] then bif h set then bif m_same [Value.slice (some (Addr.mk 0 0 none)) m m, Value.agg (Array.mk g)] [Value.slice (some (Addr.mk 0 0 none)) m m, Value.agg (Array.mk g)] then bif st set (gv 0 set) (gv 1 set) (gv 2 set) (gv 3 set) (gv 4 set) then bif m_nns g && true then K [some (Value.int IntKind.i64 (Int.ofNat m)), some (Value.int IntKind.i64 (IntKind.wrap IntKind.i64 (Int.ofNat 1 + IntKind.wrap IntKind.i64 (Int.tmod (IntKind.wrap IntKind.u64 set) (Int.ofNat 4))))), some (Value.slice none 0 0), some (Value.slice (some (Addr.mk 0 0 none)) m m), some (Value.int IntKind.i64 (IntKind.wrap IntKind.i64 (i + Int.ofNat 1)))] [] [some (AObj.cells g 3 0 1)] else CR.fail 420 else KR [some (Value.bool false)] [] [] else CR.fail 420 else KR [some (Value.bool false)] [] [] else CR.fail 420 else bif decide (set < 1) then bif ge set != Int.ofNat 1 then KR [some (Value.bool false)] [] [] else bif !(gv 0 set == Int.ofNat 0 && (gv 1 set == Int.ofNat 0 && (gv 2 set == Int.ofNat 0 && (gv 3 set == Int.ofNat 0 && (gv 4 set == Int.ofNat 0 && true))))) then KR [some (Value.bool false)] [] [] else bif m_nns g && true then K [some (Value.int IntKind.i64 (Int.ofNat m)), some (Value.int IntKind.i64 (IntKind.wrap IntKind.i64 (Int.ofNat 1 + IntKind.wrap IntKind.i64 (Int.tmod (IntKind.wrap IntKind.u64 set) (Int.ofNat 4))))), some (Value.slice none 0 0), some (Value.slice (some (Addr.mk 0 0 none)) m m), some (Value.int IntKind.i64 (IntKind.wrap IntKind.i64 (i + Int.ofNat 1)))] [] [some (AObj.cells g 3 0 1)] else CR.fail 420 else bif decide (set > 10) then bif ge set != Int.ofNat 1 then KR [some (Value.bool false)] [] [] else bif !(gv 0 set == Int.ofNat 0 && (gv 1 set == Int.ofNat 0 && (gv 2 set == Int.ofNat 0 && (gv 3 set == Int.ofNat 0 && (gv 4 set == Int.ofNat 0 && true))))) then KR [some (Value.bool false)] [] [] else bif m_nns g && true then K [some (Value.int IntKind.i64 (Int.ofNat m)), some (Value.int IntKind.i64 (IntKind.wrap IntKind.i64 (Int.ofNat 1 + IntKind.wrap IntKind.i64 (Int.tmod (IntKind.wrap IntKind.u64 set) (Int.ofNat 4))))), some (Value.slice none 0 0), some (Value.slice (some (Addr.mk 0 0 none)) m m), some (Value.int IntKind.i64 (IntKind.wrap IntKind.i64 (i + Int.ofNat 1)))] [] [some (AObj.cells g 3 0 1)] else CR.fail 420 else bif ge set != Int.ofNat 0 then KR [some (Value.bool false)] [] [] else bif m_same [Value.slice (some (Addr.mk 0 0 none)) m m, Value.agg (Array.mk g)] [Value.slice (some (Addr.mk 0 0 none)) m m, Value.agg (Array.mk g)] then bif h set then KR [some (Value.bool false)] [] [] else bif !(gv 0 set == Int.ofNat 0 && (gv 1 set == Int.ofNat 0 && (gv 2 set == Int.ofNat 0 && (gv 3 set == Int.ofNat 0 && (gv 4 set == Int.ofNat 0 && true))))) then KR [some (Value.bool false)] [] [] else bif m_nns g && true then K [some (Value.int IntKind.i64 (Int.ofNat m)), some (Value.int IntKind.i64 (IntKind.wrap IntKind.i64 (Int.ofNat 1 + IntKind.wrap IntKind.i64 (Int.tmod (IntKind.wrap IntKind.u64 set) (Int.ofNat 4))))), some (Value.slice none 0 0), some (Value.slice (some (Addr.mk 0 0 none)) m m), some (Value.int IntKind.i64 (IntKind.wrap IntKind.i64 (i + Int.ofNat 1)))] [] [some (AObj.cells g 3 0 1)] else CR.fail 420 else CR.fail 420 else CR.fail 420 else KX 0 [] [] [] := by kernel_rfl

theorem gsZ (r : Mem) (K KR : OV → List Nat → OO → CR) (kx : Nat → KS) : run (SC r) 8135 84 1 Fl_5 (lvlT (SC r) (tcons 14 (e0 (.bool true)) fun _ => none) .nil 1 1) none (rbK 0 [6] [] K) kx (rbK 0 [6] [] KR) [] (bT [] [] .nil) [] (mkA []) =
    KR [some (Value.bool true)] [] [] := by kernel_rfl

end Go.Proofs

