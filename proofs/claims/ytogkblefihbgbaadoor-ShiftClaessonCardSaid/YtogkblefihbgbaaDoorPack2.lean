/- What the claim is proved with, part 2: the evaluator and the contracts of the calls. -/
import Derived.Test.YtogkblefihbgbaaDoorPack1
import Derived.Test.YtogkblefihbgbaaDoorEvRen
/- Chapter 10: the example calls, run. -/
namespace Go.Proofs
open Go Go.Ev
set_option linter.unusedVariables false
set_option linter.unusedSimpArgs false
set_option maxRecDepth 100000

theorem awake10 : GrT Tryd.prog tabM 9 [] (.bool true) := GrT.of (CC_ok tabM) (tSF_ok tabM) mskH rfl ⟨1000, 40, by kernel_rfl⟩

end Go.Proofs

/- Code run by itself to where a value can be read off the state: the state needs no writing out. -/
namespace Go.Proofs
open Go Go.Ev

/-- What is read off a state. -/
def qv (g : List (Nat × Value) → Tr Value → List Nat → AW → Option Value) : KS := fun s b ms A => match g s b ms A with
  | some v => .ret v ⟨0, .nil, .nil⟩
  | none => .fail 0
def qF : KS := fun _ _ _ _ => .fail 0

theorem qv_use {g : List (Nat × Value) → Tr Value → List Nat → AW → Option Value} {s : List (Nat × Value)} {b : Tr Value} {ms : List Nat} {A : AW} {v : Value} (h : qv g s b ms A = .ret v ⟨0, .nil, .nil⟩) : g s b ms A = some v := by
  unfold qv at h
  split at h
  · rename_i u hu
    cases h
    exact hu
  · cases h

section
variable {C : Cfg} {m n : Nat} {F : Fence} {k : Nat} {γ0 : Gam} {W0 : World}

/-- Code that goes on, to what is read off. -/
theorem Reach.segV (hC : C.Ok) {t : Tbl} (ht : TOk C t) {tm : Tr Nat} {L L' d : Nat} (hF : Wide F) (hro : F.round = none) {c : Code} {s : List (Nat × Value)} {b : Tr Value} {ms : List Nat} {A : AW} {Q : Exit → St → Prop}
    (g : List (Nat × Value) → Tr Value → List Nat → AW → Option Value) {v : Value}
    (h : run C m n L c (lvlT C t tm L' d) none (qv g) (fun _ => qF) qF s b ms A = .ret v ⟨0, .nil, .nil⟩) (hQ : ∀ s b ms A, g s b ms A = some v → Q .normal ⟨⟨s, b⟩, ms, A⟩) : Go.Ev.Reach C m n F k γ0 W0 c ⟨⟨s, b⟩, ms, A⟩ Q := by
  intro γ a W hs hb
  have hle := cCode_le (C := C) (m := m) (n := n) (L := L) c (lvlT_le (C := C) t tm L' d) none (qv g) (fun _ => qF) qF s b ms A _ _ h
  have hro' : RoRel γ none F.round := by rw [hro]; exact .none
  refine code_ok hC (lvlU_ok hC ht tm L' d) L c hF k hro' hs hb.ro ?_ ?_
  · cases ho : evCode C (lvlU C t tm L' d) m n none L c ⟨⟨s, b⟩, ms, A⟩ with
    | fail w => rw [ho] at hle; cases hle
    | norm st => rfl
    | exit id st => rfl
    | ret st => rfl
  · cases ho : evCode C (lvlU C t tm L' d) m n none L c ⟨⟨s, b⟩, ms, A⟩ with
    | fail w => trivial
    | norm st =>
      obtain ⟨⟨s', b'⟩, ms', A'⟩ := st
      rw [ho] at hle
      exact fun γ' a' W' hs' he => ⟨_, γ', hQ _ _ _ _ (qv_use hle), hs', ⟨hb.ext.trans he, hb.ro.ext he⟩⟩
    | exit id st => rw [ho] at hle; cases hle
    | ret st => rw [ho] at hle; cases hle
end

end Go.Proofs

/- Code run by itself that leaves a block. -/
namespace Go.Proofs
open Go Go.Ev

section
variable {C : Cfg} {m n : Nat} {F : Fence} {k : Nat} {γ0 : Gam} {W0 : World}

/-- Code that leaves block 0. -/
theorem Reach.segX (hC : C.Ok) {t : Tbl} (ht : TOk C t) {tm : Tr Nat} {L L' d : Nat} (hF : Wide F) (hro : F.round = none) {c : Code} {s : List (Nat × Value)} {b : Tr Value} {ms : List Nat} {A : AW} {Q : Exit → St → Prop}
    (g : List (Nat × Value) → Tr Value → List Nat → AW → Option Value) {v : Value}
    (h : run C m n L c (lvlT C t tm L' d) none qF (fun id => match Nat.beq id 0 with | true => qv g | false => qF) qF s b ms A = .ret v ⟨0, .nil, .nil⟩) (hQ : ∀ s b ms A, g s b ms A = some v → Q (.exit 0) ⟨⟨s, b⟩, ms, A⟩) : Go.Ev.Reach C m n F k γ0 W0 c ⟨⟨s, b⟩, ms, A⟩ Q := by
  intro γ a W hs hb
  have hle := cCode_le (C := C) (m := m) (n := n) (L := L) c (lvlT_le (C := C) t tm L' d) none qF (fun id => match Nat.beq id 0 with | true => qv g | false => qF) qF s b ms A _ _ h
  have hro' : RoRel γ none F.round := by rw [hro]; exact .none
  refine code_ok hC (lvlU_ok hC ht tm L' d) L c hF k hro' hs hb.ro ?_ ?_
  · cases ho : evCode C (lvlU C t tm L' d) m n none L c ⟨⟨s, b⟩, ms, A⟩ with
    | fail w => rw [ho] at hle; cases hle
    | norm st => rfl
    | exit id st => rfl
    | ret st => rfl
  · cases ho : evCode C (lvlU C t tm L' d) m n none L c ⟨⟨s, b⟩, ms, A⟩ with
    | fail w => trivial
    | norm st => rw [ho] at hle; cases hle
    | exit id st =>
      obtain ⟨⟨s', b'⟩, ms', A'⟩ := st
      rw [ho] at hle
      have hle' : (match Nat.beq id 0 with | true => qv g | false => qF) s' b' ms' A' = .ret v ⟨0, .nil, .nil⟩ := hle
      clear hle
      cases hid : Nat.beq id 0 with
      | false => rw [hid] at hle'; cases hle'
      | true =>
        rw [hid] at hle'
        have := Nat.eq_of_beq_eq_true hid
        subst this
        exact fun γ' a' W' hs' he => ⟨_, γ', hQ _ _ _ _ (qv_use hle'), hs', ⟨hb.ext.trans he, hb.ro.ext he⟩⟩
    | ret st => rw [ho] at hle; cases hle
end

/-- Another reading of the same program. -/
theorem Reach.conv {C C' : Cfg} (hP : C.P = C'.P) (hr : C.ro = C'.ro) {m n : Nat} {F : Fence} {k : Nat} {γ0 : Gam} {W0 : World} {c : Code} {st : St} {Q : Exit → St → Prop} (h : Go.Ev.Reach C m n F k γ0 W0 c st Q) : Go.Ev.Reach C' m n F k γ0 W0 c st Q :=
  fun γ a W hs hb => by
    rw [← hP]
    exact wpIn_mono (h γ a W hs ⟨hb.ext, by rw [hr]; exact hb.ro⟩) fun ex a' W' ⟨st', γ', q, r, b⟩ => ⟨st', γ', q, r, ⟨b.ext, by rw [← hr]; exact b.ro⟩⟩

end Go.Proofs

/- The law of ascent lists and orders: its beginning, and the rest for each number. -/
namespace Go.Proofs
open Go Go.Ev
set_option linter.unusedVariables false
set_option linter.unusedSimpArgs false
set_option maxRecDepth 100000

noncomputable def cCl : Code := bodyOf S0 3

theorem clA (r : Mem) (L : Nat) (fs : FnsC) (x : Int) (kn : KS) (kx : Nat → KS) (kr : KS) : run (SC r) 16769021 173 L (.seq (lc cCl) (lc (rc cCl))) fs none kn kx kr (sc0 16769021 [I x]) (tr0 16769021 [I x]) [] emptyA =
    kn [(28, Value.int IntKind.i64 (IntKind.wrap IntKind.i64 (Int.ofNat 1 + IntKind.wrap IntKind.i64 (Int.tmod (IntKind.wrap IntKind.u64 x) (Int.ofNat 4))))), (27, Value.int IntKind.i64 (IntKind.wrap IntKind.i64 (Int.tmod (IntKind.wrap IntKind.u64 x) (Int.ofNat 4)))), (26, Value.int IntKind.u64 (Int.tmod (IntKind.wrap IntKind.u64 x) (Int.ofNat 4))), (25, Value.int IntKind.u64 (IntKind.wrap IntKind.u64 x)), (24, Value.int IntKind.i64 x)] (Tr.node Tr.nil (some (Value.int IntKind.i64 (IntKind.wrap IntKind.i64 (Int.ofNat 1 + IntKind.wrap IntKind.i64 (Int.tmod (IntKind.wrap IntKind.u64 x) (Int.ofNat 4)))))) (Tr.node Tr.nil (some (Value.bool false)) Tr.nil)) [] (AW.mk 0 Tr.nil Tr.nil) := by kernel_rfl

end Go.Proofs

/- Code run by itself that returns: what is read off the state. -/
namespace Go.Proofs
open Go Go.Ev
set_option linter.unusedVariables false
set_option linter.unusedSimpArgs false

section
variable {C : Cfg} {m n : Nat} {F : Fence} {k : Nat} {γ0 : Gam} {W0 : World}

/-- Code that returns. -/
theorem Reach.segR (hC : C.Ok) {t : Tbl} (ht : TOk C t) {tm : Tr Nat} {L L' d : Nat} (hF : Wide F) (hro : F.round = none) {c : Code} {s : List (Nat × Value)} {b : Tr Value} {ms : List Nat} {A : AW} {Q : Exit → St → Prop}
    (g : List (Nat × Value) → Tr Value → List Nat → AW → Option Value) {v : Value}
    (h : run C m n L c (lvlT C t tm L' d) none qF (fun _ => qF) (qv g) s b ms A = .ret v ⟨0, .nil, .nil⟩) (hQ : ∀ s b ms A, g s b ms A = some v → Q .ret ⟨⟨s, b⟩, ms, A⟩) : Go.Ev.Reach C m n F k γ0 W0 c ⟨⟨s, b⟩, ms, A⟩ Q := by
  intro γ a W hs hb
  have hle := cCode_le (C := C) (m := m) (n := n) (L := L) c (lvlT_le (C := C) t tm L' d) none qF (fun _ => qF) (qv g) s b ms A _ _ h
  have hro' : RoRel γ none F.round := by rw [hro]; exact .none
  refine code_ok hC (lvlU_ok hC ht tm L' d) L c hF k hro' hs hb.ro ?_ ?_
  · cases ho : evCode C (lvlU C t tm L' d) m n none L c ⟨⟨s, b⟩, ms, A⟩ with
    | fail w => rw [ho] at hle; cases hle
    | norm st => rfl
    | exit id st => rfl
    | ret st => rfl
  · cases ho : evCode C (lvlU C t tm L' d) m n none L c ⟨⟨s, b⟩, ms, A⟩ with
    | fail w => trivial
    | norm st => rw [ho] at hle; cases hle
    | exit id st => rw [ho] at hle; cases hle
    | ret st =>
      obtain ⟨⟨s', b'⟩, ms', A'⟩ := st
      rw [ho] at hle
      exact fun γ' a' W' hs' he => ⟨_, γ', hQ _ _ _ _ (qv_use hle), hs', ⟨hb.ext.trans he, hb.ro.ext he⟩⟩
end

/-- The result slot, and no marks. -/
def gRes (j : Nat) : List (Nat × Value) → Tr Value → List Nat → AW → Option Value := fun _ b ms _ => match b.get j, ms with
  | some x, [] => some x
  | _, _ => none

end Go.Proofs

/- The law of ascent lists and orders, for small numbers. -/
namespace Go.Proofs
open Go Go.Ev
set_option linter.unusedVariables false
set_option linter.unusedSimpArgs false
set_option maxRecDepth 100000

def TCl (k : Int) : Tr Value := .node .nil (some (I k)) (.node .nil (some (.bool false)) .nil)
noncomputable def tCl : Tbl := tcons 9 (e0 (.bool true)) tSF
theorem tCl_ok : TOk (CC tabM) tCl := (show TOk (SC tabM) tCl from (TOk.nil.cons (eSF_ok tabM)).cons (e0_ok awake10))

theorem cl_1 (s : List (Nat × Value)) : run (CC tabM) 16769021 173 1000 (rc (rc cCl)) (lvlT (CC tabM) tCl mskH 1000 40) none qF (fun _ => qF) (qv (gRes 2)) s (TCl 1) [] emptyA = .ret (.bool true) ⟨0, .nil, .nil⟩ := by kernel_rfl
theorem cl_2 (s : List (Nat × Value)) : run (CC tabM) 16769021 173 1000 (rc (rc cCl)) (lvlT (CC tabM) tCl mskH 1000 40) none qF (fun _ => qF) (qv (gRes 2)) s (TCl 2) [] emptyA = .ret (.bool true) ⟨0, .nil, .nil⟩ := by kernel_rfl

end Go.Proofs

