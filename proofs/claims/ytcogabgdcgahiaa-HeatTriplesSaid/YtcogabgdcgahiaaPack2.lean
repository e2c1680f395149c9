/- What the claim is proved with, part 2: the evaluator and the contracts of the calls. -/
import Derived.Test.YtcogabgdcgahiaaPack1
/- The first day: its parts; what is read off at the head of the search. -/
namespace Go.Proofs
open Go Go.Ev
set_option linter.unusedVariables false
set_option maxRecDepth 100000

def cI (l : List Nat) : List Value := l.map fun n => .int .i64 (.ofNat n)

/-- What is read off: all triples, the day, the next one. -/
def gFd : List (Nat × Value) → Tr Value → List Nat → AW → Option Value := fun _ b ms A => match b.get 1, b.get 2, b.get 3, ms with
  | some x, some (.slice (some ⟨d, 0, none⟩) k cap), some y, [] => match A.heap.get 0, A.heap.get d with
    | some (.cells c0 e0 _ z0), some (.cells c1 e1 _ z1) => some (.tuple ⟨[x, .slice (some ⟨1, 0, none⟩) k cap, y, .tuple ⟨c0⟩, .tuple ⟨c1⟩, .bool (apartN A 0 d), .bool (apartN A d 0), .int .i64 (.ofNat e0), .int .i64 (.ofNat z0), .int .i64 (.ofNat e1), .int .i64 (.ofNat z1)]⟩)
    | _, _ => none
  | _, _, _, _ => none
def rFd (c : List Value) (k : Nat) (n : Int) : Value := .tuple ⟨[.slice (some ⟨0, 0, none⟩) 455 9223372036854775808, dayV k, .int .i64 n, .tuple ⟨allL⟩, .tuple ⟨c⟩, .bool true, .bool true, .int .i64 (.ofNat 62), .int .i64 (.ofNat 3), .int .i64 (.ofNat 62), .int .i64 (.ofNat 3)]⟩

theorem allTriples_row (r : Mem) : GrM Try.prog r 50 [I 15] (.slice (some ⟨0, 0, none⟩) 455 9223372036854775808) (rowA allL 62 3) :=
  GrM.of (SC_ok r) (t := fun _ => none) TOk.nil mskH ⟨20, 8, by kernel_rfl⟩

end Go.Proofs

/- The first day: states at the head of the search, by other names; less known of the day's row. -/
namespace Go.Proofs
open Go Go.Ev
set_option linter.unusedVariables false
set_option maxRecDepth 100000

theorem dayV_eq (k : Nat) : dayV k = .slice (some ⟨1, 0, none⟩) k 9223372036854775808 := by cases k <;> rfl
theorem cI_gnd (l : List Nat) : ∀ v ∈ cI l, gnd v = true := fun v hv => by
  simp only [cI, List.mem_map] at hv
  obtain ⟨j, _, rfl⟩ := hv
  rfl
theorem all_gnds : gnds allL = true := by kernel_rfl
theorem gnds_mem : ∀ {l : List Value}, gnds l = true → ∀ v ∈ l, gnd v = true
  | [], _, v, hv => (nomatch hv)
  | x :: l, h, v, hv => by
    simp only [gnds, Bool.and_eq_true] at h
    rcases List.mem_cons.1 hv with rfl | hv
    · exact h.1
    · exact gnds_mem h.2 v hv

theorem AFd_get {c : List Value} {i : Nat} {o : AObj} (h : (AFd c).heap.get i = some o) : (i = 0 ∧ o = .cells allL 62 0 3) ∨ (i = 1 ∧ o = .cells c 62 1 3) := by
  match i, h with
  | 0, h => exact .inl ⟨rfl, (Option.some.inj h).symm⟩
  | 1, h => exact .inr ⟨rfl, (Option.some.inj h).symm⟩
  | n + 2, h =>
    exfalso
    unfold AFd at h
    simp only [Tr.get] at h
    split at h
    · have hn : Nat.div (n + 1) 2 ≠ 0 := by show (n + 1) / 2 ≠ 0; rename_i hb; have := Nat.eq_of_beq_eq_true hb; have e : Nat.mod (n + 1) 2 = (n + 1) % 2 := rfl; omega
      cases hd : Nat.div (n + 1) 2 with
      | zero => exact hn hd
      | succ q =>
        rw [hd] at h
        simp only [Tr.get] at h
        split at h <;> cases h
    · cases h

theorem WRel.cutFd {γ : Gam} {W : World} {c c' : List Value} (hp : ∀ (k : Nat) (v : Value), c'[k]? = some v → c[k]? = some v) (h : WRel γ (AFd c) W) : WRel γ (AFd c') W where
  obj := fun i o hi => by
    rcases AFd_get hi with ⟨rfl, rfl⟩ | ⟨rfl, rfl⟩
    · exact h.obj 0 _ rfl
    · obtain ⟨g, hg, ho⟩ := h.obj 1 _ rfl
      cases ho with
      | cells hb hf hn hz hc => exact ⟨g, hg, .cells hb hf hn hz fun k v hk => hc k v (hp k v hk)⟩
  lt := h.lt
  fresh := h.fresh
  sep := fun i j o o' g g' hi hj hg hg' hb => by
    have h01 : ∀ {g g' : GI}, γ 0 = some g → γ 1 = some g' → g.blk ≠ g'.blk := fun a b e => by
      rcases h.sep 0 1 _ _ _ _ rfl rfl a b e with q | ⟨_, _, _, _, _, _, _, q1, q2⟩
      · cases q
      · cases q1; cases q2
    rcases AFd_get hi with ⟨rfl, rfl⟩ | ⟨rfl, rfl⟩ <;> rcases AFd_get hj with ⟨rfl, rfl⟩ | ⟨rfl, rfl⟩
    · exact .inl rfl
    · exact absurd hb (h01 hg hg')
    · exact absurd hb.symm (h01 hg' hg)
    · exact .inl rfl
  mem := fun i c e fam sz hi => by
    rcases AFd_get hi with ⟨rfl, q⟩ | ⟨rfl, q⟩ <;> cases q <;> exact .head _
  famlt := fun i c e fam sz hi => by
    rcases AFd_get hi with ⟨rfl, q⟩ | ⟨rfl, q⟩ <;> cases q
    · exact (by decide : 0 < 2)
    · exact (by decide : 1 < 2)
  famfresh := fun f hf => rfl

theorem ren_cut {r : Mem} {W0 : World} {en : En} {ms : List Nat} {c c' : List Value} (hp : ∀ (k : Nat) (v : Value), c'[k]? = some v → c[k]? = some v) : Ren (SC r) 63 46 noG W0 ⟨en, ms, AFd c⟩ ⟨en, ms, AFd c'⟩ :=
  fun γ a W h hb => ⟨γ, ⟨h.tm, h.size, h.df, WRel.cutFd hp h.w⟩, hb⟩

theorem ren_fd {r : Mem} {W0 : World} {s : List (Nat × Value)} {b : Tr Value} {ms : List Nat} {A : AW} {l : List Nat} {k : Nat} {n : Int} (h : gFd s b ms A = some (rFd (cI l) k n)) :
    Ren (SC r) 63 46 noG W0 ⟨⟨s, b⟩, ms, A⟩ ⟨⟨[], TFd (dayV k) n⟩, [], AFd (cI l)⟩ := by
  unfold gFd at h
  split at h
  · rename_i x d k' cap y h1 h2 h3
    split at h
    · rename_i c0 e0 f0 z0 c1 e1 f1 z1 g0 g1
      unfold rFd at h
      rw [dayV_eq] at h
      simp only [Option.some.injEq, Value.tuple.injEq, Array.mk.injEq, List.cons.injEq, Value.slice.injEq, Value.bool.injEq, Value.int.injEq, Int.ofNat.injEq, and_true, true_and] at h
      obtain ⟨rfl, ⟨rfl, rfl⟩, rfl, rfl, rfl, p1, p2, rfl, rfl, rfl, rfl⟩ := h
      refine Ren.of (fun i => match i with | 0 => 0 | _ => d) 0 rfl (fun _ _ => rfl) (Nat.zero_le _) (fun i hi => absurd hi (Nat.not_lt_zero i)) ?_ rfl ?_ trivial
      · rw [dayV_eq]
        simp only [Tr.All, TFd]
        repeat' (first | exact trivial | apply And.intro)
        all_goals first | exact ⟨_, h1, rfl⟩ | exact ⟨_, h2, rfl⟩ | exact ⟨_, h3, rfl⟩
      · simp only [Tr.All, AFd]
        refine ⟨⟨rfl, ⟨_, g0, .plain (gnds_mem all_gnds)⟩, ⟨.head _, rfl⟩, rfl, ⟨?_, trivial, trivial⟩, trivial⟩, ⟨⟨rfl, ⟨_, g1, .plain (cI_gnd l)⟩, ⟨.head _, rfl⟩, ?_, ⟨rfl, trivial, trivial⟩, trivial⟩, trivial, trivial⟩, trivial⟩
        · show (Nat.beq 0 1 || apartN A 0 d) = true
          rw [p1]; rfl
        · show (Nat.beq 1 0 || apartN A d 0) = true
          rw [p2]; rfl
    · cases h
  · cases h

end Go.Proofs

/- Code run by itself that leaves a block. -/
namespace Go.Proofs
open Go Go.Ev

section
variable {C : Cfg} {m n : Nat} {F : Fence} {k : Nat} {γ0 : Gam} {W0 : World}

/-- Code that leaves block 0. -/
theorem Reach.segX (hC : C.Ok) {t : Tbl} (ht : TOk C t) {tm : Tr Nat} {L L' d : Nat} (hF : Wide F) (hro : F.round = none) {c : Code} {s : List (Nat × Value)} {b : Tr Value} {ms : List Nat} {A : AW} {Q : Exit → St → Prop}
    (g : List (Nat × Value) → Tr Value → List Nat → AW → Option Value) {v : Value}
    (h : run C m n L c (lvlT C t tm L' d) none qF (fun id => match Nat.beq id 0 with | true => qv g | false => qF) qF s b ms A = .ret v ⟨0, .nil, .nil⟩) (hQ : ∀ s b ms A, g s b ms A = some v → Q (.exit 0) ⟨⟨s, b⟩, ms, A⟩) : Go.Ev.Reach C m n F k γ0 W0 c ⟨⟨s, b⟩, ms, A⟩ Q := by
  intro γ a W hs hb
  have hle := cCode_le (C := C) (m := m) (n := n) (L := L) c (lvlT_le (C := C) t tm L' d) none qF (fun id => match Nat.beq id 0 with | true => qv g | false => qF) qF s b ms A _ _ h
  have hro' : RoRel γ none F.round := by rw [hro]; exact .none
  refine code_ok hC (lvlU_ok hC ht tm L' d) L c hF k hro' hs hb.ro ?_ ?_
  · cases ho : evCode C (lvlU C t tm L' d) m n none L c ⟨⟨s, b⟩, ms, A⟩ with
    | fail w => rw [ho] at hle; cases hle
    | norm st => rfl
    | exit id st => rfl
    | ret st => rfl
  · cases ho : evCode C (lvlU C t tm L' d) m n none L c ⟨⟨s, b⟩, ms, A⟩ with
    | fail w => trivial
    | norm st => rw [ho] at hle; cases hle
    | exit id st =>
      obtain ⟨⟨s', b'⟩, ms', A'⟩ := st
      rw [ho] at hle
      have hle' : (match Nat.beq id 0 with | true => qv g | false => qF) s' b' ms' A' = .ret v ⟨0, .nil, .nil⟩ := hle
      clear hle
      cases hid : Nat.beq id 0 with
      | false => rw [hid] at hle'; cases hle'
      | true =>
        rw [hid] at hle'
        have := Nat.eq_of_beq_eq_true hid
        subst this
        exact fun γ' a' W' hs' he => ⟨_, γ', hQ _ _ _ _ (qv_use hle'), hs', ⟨hb.ext.trans he, hb.ro.ext he⟩⟩
    | ret st => rw [ho] at hle; cases hle
end

/-- Another reading of the same program. -/
theorem Reach.conv {C C' : Cfg} (hP : C.P = C'.P) (hr : C.ro = C'.ro) {m n : Nat} {F : Fence} {k : Nat} {γ0 : Gam} {W0 : World} {c : Code} {st : St} {Q : Exit → St → Prop} (h : Go.Ev.Reach C m n F k γ0 W0 c st Q) : Go.Ev.Reach C' m n F k γ0 W0 c st Q :=
  fun γ a W hs hb => by
    rw [← hP]
    exact wpIn_mono (h γ a W hs ⟨hb.ext, by rw [hr]; exact hb.ro⟩) fun ex a' W' ⟨st', γ', q, r, b⟩ => ⟨st', γ', q, r, ⟨b.ext, by rw [← hr]; exact b.ro⟩⟩

end Go.Proofs

/- The first day: rounds of the search, run. -/
namespace Go.Proofs
open Go Go.Ev
set_option linter.unusedVariables false
set_option maxRecDepth 100000

theorem fd_0 (r : Mem) (s : List (Nat × Value)) : run (CC r) 63 46 1000 bFd (lvlT (CC r) tFe mskH 1000 40) none (qv gFd) (fun _ => qF) qF s (TFd (.slice none 0 0) (.ofNat 0)) [] AFd0 = .ret (rFd (cI [0, 1, 3, 2, 7, 8, 4, 11, 13, 5, 9, 14]) 3 (.ofNat 361)) ⟨0, .nil, .nil⟩ := by kernel_rfl

end Go.Proofs

