/- What the package variable of chapter 6 holds, as memory: from the row's premise to the memory that came in. -/
import Derived.Test.YtmcgmligdnpejaaDoorZTabs
import Derived.Test.YtmcgmligdnpejaaDoorEvMemOf
import Derived.Test.YtmcgmligdnpejaaDoorRows
import Derived.FnData
import Derived.MakeChecks
import Derived.ChangeSame
namespace Go.Proofs
open Go Go.Ev Go.ChangeShapes

theorem one_int {H : Type} {enc : TypeId × Value → H} {P : Program} {w : World} {base fuel : Nat} {spare : Nat → Bool} {held : Bool} {t : TypeId} {cs : List Value} {k : IntKind} {z : Int} {y : DataW H × List MemPlace} (ht : P.underlying t = some (.int k))
    (h : DataW.trod enc P w base spare held fuel t cs = some y) (hy : y.1 = .lit (.int k z)) : cs = [.int k z] := by
  obtain ⟨n, h1, h2, _⟩ := DataW.trod_int ht h
  subst h2
  simp only [DataW.lit.injEq, Lit.int.injEq, true_and] at hy
  subst hy
  exact h1

theorem laid_mem {W : World} {x : String × DataW Unit} (hx : x = ("forcola/tangle.zero", YtmcgmligdnpejaaDoor.Rows.laid_forcola_tangle_zero)) (hL : laidMetH Tryd.prog [x] W) : ∀ b j u, tabM b j = some u → memOf W b j = some u := by
  subst hx
  rw [MakeChecks.laidMetH_plain _ _ _ (by kernel_rfl)] at hL
  obtain ⟨ps, ⟨g, t, cs, f, p1, q1, a1, a2, a3, a4, _⟩, _⟩ := hL
  have hg : Tryd.prog.globalNamed "forcola/tangle.zero" = some 0 := by kernel_rfl
  obtain rfl := Option.some.inj (hg.symm.trans a1)
  obtain rfl := Option.some.inj ((show (Tryd.prog.globals[0]?).map (·.type) = some 74 by kernel_rfl).symm.trans a2)
  obtain ⟨y0, y1, n, hy, hl, h0, h1⟩ := trod_struct2 (f0 := ⟨"p", 2, 0, false, "", "forcola/tangle", 0⟩) (f1 := ⟨"q", 2, 1, false, "", "forcola/tangle", 8⟩) (by kernel_rfl) a4
  have hu : Tryd.prog.underlying 2 = some (.int .i64) := by kernel_rfl
  have hc : Tryd.prog.cellsOf 2 = 1 := by kernel_rfl
  have hc2 : Tryd.prog.cellsOf 74 = 2 := by kernel_rfl
  have hd : (DataW.agg [.lit (.int .i64 0), .lit (.int .i64 1)] : DataW Unit) = .agg [y0.1, y1.1] := congrArg Prod.fst hy
  simp only [DataW.agg.injEq, List.cons.injEq, and_true] at hd
  have e0 := one_int hu h0 hd.1.symm
  have e1 := one_int hu h1 hd.2.symm
  rw [hc2] at hl
  simp only [hc] at e0 e1
  have hcs : cs.toList = [I 0, I 1] := by
    generalize cs.toList = l at hl e0 e1
    match l, hl with
    | [a, b], _ =>
      simp at e0 e1
      rw [e0, e1]
  intro b j u h
  unfold tabM at h
  split at h
  · rename_i hb
    have := Nat.eq_of_beq_eq_true hb
    subst this
    have hcell := World.var?_cell hg a3 j
    have hj : cs[j]? = some u := by
      have : cs.toList[j]? = some u := by rw [hcs]; exact h
      simpa using this
    rw [hj] at hcell
    unfold memL at h
    have : ∃ z, u = I z := by
      match j, h with
      | 0, h => exact ⟨0, (Option.some.inj h).symm⟩
      | 1, h => exact ⟨1, (Option.some.inj h).symm⟩
    obtain ⟨z, rfl⟩ := this
    exact memOf_int hcell
  · cases h

end Go.Proofs
