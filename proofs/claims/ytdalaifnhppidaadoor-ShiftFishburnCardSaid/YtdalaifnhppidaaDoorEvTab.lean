/- A program's tables as trees. -/
import Derived.Test.YtdalaifnhppidaaDoorEvYield
namespace Go.Ev
open Go

def mkFrom {α : Type} : Nat → List α → Tr α → Tr α
 | _, [], t => t
 | n, x :: l, t => mkFrom (Nat.succ n) l (t.put n (some x))

theorem mkFrom_get {α : Type} : ∀ (l : List α) (n : Nat) (t : Tr α) (j : Nat) (x : α), (∀ y, t.get j = some y → j < n) → (mkFrom n l t).get j = some x → t.get j = some x ∨ (n ≤ j ∧ l[j - n]? = some x) := by
 intro l
 induction l with
 | nil => intro n t j x _ h; exact .inl h
 | cons y l ih =>
  intro n t j x hlt h
  rcases ih (n + 1) (t.put n (some y)) j x (fun z hz => by
   rw [Tr.get_put] at hz
   by_cases hj : j = n
   ·omega
   ·rw [if_neg hj] at hz
    have := hlt z hz
    omega) h with h | ⟨h1, h2⟩
  ·rw [Tr.get_put] at h
   by_cases hj : j = n
   ·rw [if_pos hj] at h
    cases h
    subst hj
    exact .inr ⟨Nat.le_refl _, by simp⟩
   ·rw [if_neg hj] at h; exact .inl h
  ·refine .inr ⟨by omega, ?_⟩
   rw [show j - n = (j - (n + 1)) + 1 by omega]
   simpa using h2

def Cfg.of (P : Program) : Cfg := { P := P, fns := mkFrom 0 P.funcs.toList .nil, tys := mkFrom 0 P.types.toList .nil, sy := false, ro := Mem.no }

def okName (f : Func) : Bool := !(f.name == "runtime.NumGoroutine")

theorem Cfg.of_ok {P : Program} (hm : P.follows .mixedOrders = true) (hn : P.funcs.toList.all okName = true) : (Cfg.of P).Ok := by
 have hf : ∀ f x, (Cfg.of P).fns.get f = some x → P.funcs[f]? = some x := fun f x h => by
  rcases mkFrom_get _ _ _ _ _ (fun y hy => by simp [Tr.get] at hy) h with h | ⟨_, h⟩
  ·simp [Tr.get] at h
  ·simpa using h
 refine ⟨hf, fun t x h => ?_, hm, fun f x h => ?_⟩
 ·rcases mkFrom_get _ _ _ _ _ (fun y hy => by simp [Tr.get] at hy) h with h | ⟨_, h⟩
  ·simp [Tr.get] at h
  ·have h' : P.types[t]? = some x := by simpa using h
   have hlt : t < P.types.size := (Array.getElem?_eq_some_iff.1 h').1
   show (if t < P.types.size then P.types[t]? else _) = some x
   rw [if_pos hlt]
   exact h'
 ·have hx := hf f x h
  have hmem : x ∈ P.funcs.toList := by
   have := Array.mem_of_getElem? hx
   simpa using this
  have := List.all_eq_true.1 hn x hmem
  simpa [okName] using this

end Go.Ev
