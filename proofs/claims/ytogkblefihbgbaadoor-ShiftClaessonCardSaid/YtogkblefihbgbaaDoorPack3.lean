/- What the claim is proved with, part 3: the evaluator and the contracts of the calls. -/
import Derived.Test.YtogkblefihbgbaaDoorPack2
import Derived.Test.YtogkblefihbgbaaDoorPack1
/- The law of ascent lists and orders, for three elements. -/
namespace Go.Proofs
open Go Go.Ev
set_option linter.unusedVariables false
set_option linter.unusedSimpArgs false
set_option maxRecDepth 100000

theorem cl_3 (s : List (Nat × Value)) : run (CC tabM) 16769021 173 1000 (rc (rc cCl)) (lvlT (CC tabM) tCl mskH 1000 40) none qF (fun _ => qF) (qv (gRes 2)) s (TCl 3) [] emptyA = .ret (.bool true) ⟨0, .nil, .nil⟩ := by kernel_rfl

end Go.Proofs

/- The law of ascent lists and orders: four elements, the head of the loop over the sets. -/
namespace Go.Proofs
open Go Go.Ev
set_option linter.unusedVariables false
set_option linter.unusedSimpArgs false
set_option maxRecDepth 100000

noncomputable def rCl : Code := rc (rc (rc (rc (rc (rc cCl)))))
noncomputable def bCl : Code := ic (ic (rc (lc rCl)))
/-- The temporaries at the head. -/
def THd (sv : Value) (set : Nat) : Tr Value :=
  .node (.node (.node (.node .nil (some (I (Int.ofNat set))) .nil) (some (I 15)) .nil) none (.node .nil (some sv) .nil)) (some (I 4)) (.node .nil (some (.bool false)) (.node .nil (some (I 6)) .nil))

end Go.Proofs

/- A state by other names, by a computation: the names are read off a row of rows. -/
namespace Go.Proofs
open Go Go.Ev
set_option linter.unusedVariables false
set_option linter.unusedSimpArgs false

def allTr {α : Type} (p : Nat → α → Bool) : Tr α → (Nat → Nat) → Bool
  | .nil, _ => true
  | .node l v r, ix => (match v with | some x => p (ix 0) x | none => true) && allTr p l (fun k => ix (2 * k + 1)) && allTr p r (fun k => ix (2 * k + 2))

theorem allTr_ok {α : Type} {p : Nat → α → Bool} : ∀ {t : Tr α} {ix : Nat → Nat}, allTr p t ix = true → Tr.All (fun i x => p i x = true) t ix
  | .nil, _, _ => trivial
  | .node l v r, ix, h => by
    simp only [allTr, Bool.and_eq_true] at h
    refine ⟨?_, allTr_ok h.1.2, allTr_ok h.2⟩
    cases v with
    | none => trivial
    | some x => exact h.1.1

theorem Tr.All.mono {α : Type} {p q : Nat → α → Prop} (h : ∀ i x, p i x → q i x) : ∀ {t : Tr α} {ix : Nat → Nat}, Tr.All p t ix → Tr.All q t ix
  | .nil, _, _ => trivial
  | .node l v r, ix, ⟨h0, h1, h2⟩ => by
    refine ⟨?_, Tr.All.mono h h1, Tr.All.mono h h2⟩
    cases v with
    | none => trivial
    | some x => exact h _ _ h0

def renEq (τ : Nat → Nat) (N : Nat) (v' v : Value) : Bool := match renV τ N v' with
  | some u => veq u v
  | none => false
def memB (i : Nat) : List Nat → Bool
  | [] => false
  | j :: l => Nat.beq i j || memB i l
theorem memB_ok {i : Nat} : ∀ {l : List Nat}, memB i l = true → i ∈ l
  | [], h => nomatch h
  | j :: l, h => by
    simp only [memB, Bool.or_eq_true] at h
    rcases h with h | h
    · rw [Nat.eq_of_beq_eq_true h]; exact .head _
    · exact .tail _ (memB_ok h)

def rensEq (τ : Nat → Nat) (N : Nat) : List Value → List Value → Bool
  | [], [] => true
  | v' :: l', v :: l => renEq τ N v' v && rensEq τ N l' l
  | _, _ => false
theorem renEq_ok {τ : Nat → Nat} {N : Nat} {v' v : Value} (h : renEq τ N v' v = true) : renV τ N v' = some v := by
  unfold renEq at h
  split at h
  · rename_i u hu
    rw [hu, veq_eq _ _ h]
  · cases h
theorem rensEq_ok {τ : Nat → Nat} {N : Nat} : ∀ {l' l : List Value}, rensEq τ N l' l = true → renVs τ N l' = some l
  | [], [], _ => rfl
  | v' :: l', v :: l, h => by
    simp only [rensEq, Bool.and_eq_true] at h
    simp only [renVs, renEq_ok h.1, rensEq_ok h.2]
  | [], _ :: _, h => nomatch h
  | _ :: _, [], h => nomatch h

def cellB (τ : Nat → Nat) (N : Nat) (o' : AObj) (o : Option AObj) : Bool := match o', o with
  | .cells c' e' _ z', some (.cells c e _ z) => Nat.beq e' e && Nat.beq z' z && rensEq τ N c' c
  | _, _ => false
def famB (A1 : AW) (i : Nat) : AObj → Bool
  | .cells _ _ f _ => memB i (A1.members f) && Nat.blt f A1.next
  | _ => true
def subB (τ : Nat → Nat) (T T1 : Tr Value) (A A1 : AW) : Bool :=
  allTr (fun t v' => match T.get t with | some v => renEq τ A1.next v' v | none => false) T1 id &&
  allTr (fun i o' => Nat.blt i A1.next && cellB τ A1.next o' (A.heap.get (τ i)) && famB A1 i o' && allTr (fun j _ => Nat.beq i j || apartN A (τ i) (τ j)) A1.heap id) A1.heap id && allTr (fun f _ => Nat.blt f A1.next) A1.fams id

theorem Ren.sub {C : Cfg} {m n : Nat} {W0 : World} {τ : Nat → Nat} {s : List (Nat × Value)} {T T1 : Tr Value} {A A1 : AW} (h : subB τ T T1 A A1 = true) : Ren C m n noG W0 ⟨⟨s, T⟩, [], A⟩ ⟨⟨[], T1⟩, [], A1⟩ := by
  simp only [subB, Bool.and_eq_true] at h
  obtain ⟨⟨h1, h2⟩, h3⟩ := h
  refine Ren.of τ 0 rfl (fun _ _ => rfl) (Nat.zero_le _) (fun i hi => absurd hi (Nat.not_lt_zero i)) (Tr.All.mono (fun t v' hv => ?_) (allTr_ok h1)) rfl (Tr.All.mono (fun i o' ho => ?_) (allTr_ok h2)) (allTr_ok h3)
  · split at hv
    · rename_i v hg
      exact ⟨v, hg, renEq_ok hv⟩
    · cases hv
  · simp only [Bool.and_eq_true] at ho
    obtain ⟨⟨⟨k1, k2⟩, k3⟩, k4⟩ := ho
    refine ⟨k1, ?_, ?_, allTr_ok k4⟩
    · unfold cellB at k2
      split at k2
      · rename_i c' e' f' z' c e f z hg
        simp only [Bool.and_eq_true] at k2
        have q1 := Nat.eq_of_beq_eq_true k2.1.1
        have q2 := Nat.eq_of_beq_eq_true k2.1.2
        subst q1 q2
        exact ⟨_, hg, .cells (rensEq_ok k2.2)⟩
      · cases k2
    · unfold famB at k3
      split
      · simp only [Bool.and_eq_true] at k3
        exact ⟨memB_ok k3.1, k3.2⟩
      · trivial

/-- The names of a row of rows: its own, then theirs. -/
def nameOf : Value → Nat
  | .slice (some ⟨i, _, _⟩) _ _ => i
  | _ => 0
def namesOf (v : Value) (A : AW) : List Nat := match v with
  | .slice (some ⟨i, _, _⟩) _ _ => i :: (match A.heap.get i with | some (.cells c _ _ _) => c.map nameOf | _ => [])
  | _ => []
def nth (l : List Nat) (i : Nat) : Nat := match l, i with
  | [], _ => 0
  | x :: _, 0 => x
  | _ :: l, i + 1 => nth l i
/-- Is the state this one, but for the names? The row of rows stands at temporary j. -/
def gSub (j : Nat) (T1 : Tr Value) (A1 : AW) : List (Nat × Value) → Tr Value → List Nat → AW → Option Value := fun _ b ms A => match ms with
  | [] => match b.get j with
    | some v => match subB (nth (namesOf v A)) b T1 A A1 with
      | true => some undef
      | false => none
    | none => none
  | _ => none

theorem gSub_ok {j : Nat} {T1 : Tr Value} {A1 : AW} {s : List (Nat × Value)} {b : Tr Value} {ms : List Nat} {A : AW} {v : Value} (h : gSub j T1 A1 s b ms A = some v) {C : Cfg} {m n : Nat} {W0 : World} : Ren C m n noG W0 ⟨⟨s, b⟩, ms, A⟩ ⟨⟨[], T1⟩, [], A1⟩ := by
  unfold gSub at h
  split at h
  · split at h
    · split at h
      · rename_i hb
        exact Ren.sub hb
      · cases h
    · cases h
  · cases h

end Go.Proofs

/- The law of ascent lists and orders: four elements, the states at the head of the loop over the sets. -/
namespace Go.Proofs
open Go Go.Ev
set_option linter.unusedVariables false
set_option linter.unusedSimpArgs false

def rws : List (List Int) := [[0, 0, 0, 0], [0, 1, 1, 101], [0, 1, 101, 101], [0, 101, 101, 101], [0, 0, 1, 101], [0, 2, 101, 202], [0, 1, 102, 202], [0, 101, 102, 202], [0, 0, 101, 101], [0, 101, 202, 202], [0, 0, 0, 101], [0, 1, 101, 202], [0, 101, 101, 202], [0, 0, 101, 202], [0, 101, 202, 303]]
def rowsT : Nat → List (List Int) → Tr AObj → Tr AObj
  | _, [], t => t
  | j, r :: l, t => rowsT (j + 1) l (t.put j (some (.cells (r.map I) 3 j 1)))
def slcs : Nat → List (List Int) → List Value
  | _, [] => []
  | j, r :: l => .slice (some ⟨j, 0, none⟩) r.length unk :: slcs (j + 1) l
def headA : List (List Int) → AW
  | [] => emptyA
  | r :: l => ⟨Nat.succ (Nat.succ l.length), rowsT 1 (r :: l) (Tr.nil.put 0 (some (.cells (slcs 1 (r :: l)) 36 0 1))), .nil⟩
def hA (c : Nat) : AW := headA (rws.take c)
def hV : Nat → Value
  | 0 => .slice none 0 0
  | c + 1 => .slice (some ⟨0, 0, none⟩) (c + 1) unk
/-- How many rows there are ahead of each set. -/
def cnts : List Nat := [0, 1, 2, 2, 3, 3, 3, 3, 4, 4, 4, 5, 6, 6, 6, 7, 8, 8, 8, 8, 8, 8, 8, 8, 8, 8, 8, 8, 8, 8, 8, 9, 10, 10, 10, 10, 10, 10, 10, 10, 10, 10, 10, 10, 10, 10, 10, 10, 10, 10, 10, 10, 10, 11, 12, 12, 13, 13, 13, 13, 13, 13, 13, 14, 15]
/-- A round. -/
noncomputable abbrev clRun (s : List (Nat × Value)) (k c c' : Nat) : CR := run (CC tabM) 16769021 173 1000 bCl (lvlT (CC tabM) tCl mskH 1000 40) none (qv (gSub 5 (THd (hV c') (k + 1)) (hA c'))) (fun _ => qF) qF s (THd (hV c) k) [] (hA c)

end Go.Proofs

/- The law of ascent lists and orders: four elements, the sets from 0. -/
namespace Go.Proofs
open Go Go.Ev
set_option linter.unusedVariables false
set_option linter.unusedSimpArgs false
set_option maxRecDepth 100000

theorem cl4_0 (s : List (Nat × Value)) : clRun s 0 0 1 = .ret undef ⟨0, .nil, .nil⟩ := by kernel_rfl
theorem cl4_1 (s : List (Nat × Value)) : clRun s 1 1 2 = .ret undef ⟨0, .nil, .nil⟩ := by kernel_rfl
theorem cl4_2 (s : List (Nat × Value)) : clRun s 2 2 2 = .ret undef ⟨0, .nil, .nil⟩ := by kernel_rfl
theorem cl4_3 (s : List (Nat × Value)) : clRun s 3 2 3 = .ret undef ⟨0, .nil, .nil⟩ := by kernel_rfl
theorem cl4_4 (s : List (Nat × Value)) : clRun s 4 3 3 = .ret undef ⟨0, .nil, .nil⟩ := by kernel_rfl
theorem cl4_5 (s : List (Nat × Value)) : clRun s 5 3 3 = .ret undef ⟨0, .nil, .nil⟩ := by kernel_rfl
theorem cl4_6 (s : List (Nat × Value)) : clRun s 6 3 3 = .ret undef ⟨0, .nil, .nil⟩ := by kernel_rfl
theorem cl4_7 (s : List (Nat × Value)) : clRun s 7 3 4 = .ret undef ⟨0, .nil, .nil⟩ := by kernel_rfl

end Go.Proofs

