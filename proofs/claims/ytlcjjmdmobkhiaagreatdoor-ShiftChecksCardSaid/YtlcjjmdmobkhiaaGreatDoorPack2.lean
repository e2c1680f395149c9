/- What the claim is proved with, part 2: the evaluator and the contracts of the calls. -/
import Derived.Test.YtlcjjmdmobkhiaaGreatDoorPack1
import Derived.Test.YtlcjjmdmobkhiaaGreatDoorEvSym
import Derived.Test.YtlcjjmdmobkhiaaGreatDoorEvRd
/- The law's copy of a table: what the call answers. -/
namespace Go.Proofs
open Go Go.Ev Go.Num
set_option linter.unusedVariables false
set_option linter.unusedSimpArgs false
set_option maxRecDepth 100000

mutual
theorem gnd_nn : (v : Value) → gnd v = true → nn v = true
 | .bool _, _ => rfl
 | .int _ _, _ => rfl
 | .float _ _, _ => rfl
 | .complex _ _ _, _ => rfl
 | .string _, _ => rfl
 | .pointer none, _ => rfl
 | .pointer (some ⟨_, _, none⟩), h => by simp [gnd] at h
 | .pointer (some ⟨_, _, some _⟩), _ => rfl
 | .slice none l c, h => h
 | .slice (some ⟨_, _, none⟩) _ _, h => by simp [gnd] at h
 | .slice (some ⟨_, _, some _⟩) _ _, _ => rfl
 | .map none, _ => rfl
 | .map (some _), h => by simp [gnd] at h
 | .chan none, _ => rfl
 | .chan (some _), h => by simp [gnd] at h
 | .func _ _ _, h => h
 | .nilFunc, _ => rfl
 | .iface t v, h => gnd_nn v h
 | .nilIface, _ => rfl
 | .agg ⟨l⟩, h => gnds_nns l h
 | .tuple ⟨l⟩, h => h
theorem gnds_nns : (l : List Value) → gnds l = true → nns l = true
 | [], _ => rfl
 | v :: l, h => by
  simp only [gnds, Bool.and_eq_true] at h
  simp only [nns, gnd_nn v h.1, gnds_nns l h.2, Bool.and_self]
end
mutual
theorem mvV_nn {ns : List Nat} : (v : Value) → nn v = true → mvV ns v = (ns, v)
 | .bool _, _ => rfl
 | .int _ _, _ => rfl
 | .float _ _, _ => rfl
 | .complex _ _ _, _ => rfl
 | .string _, _ => rfl
 | .pointer none, _ => rfl
 | .pointer (some ⟨_, _, none⟩), h => by simp [nn, gnd] at h
 | .pointer (some ⟨_, _, some _⟩), _ => rfl
 | .slice none l c, h => rfl
 | .slice (some ⟨_, _, none⟩) _ _, h => by simp [nn, gnd] at h
 | .slice (some ⟨_, _, some _⟩) _ _, _ => rfl
 | .map none, _ => rfl
 | .map (some _), h => by simp [nn, gnd] at h
 | .chan _, _ => rfl
 | .func (.func f) ⟨a⟩ ⟨c⟩, h => by
  have h' : (gnds a && gnds c) = true := h
  simp only [Bool.and_eq_true] at h'
  simp only [mvV, mvVs_nn a (gnds_nns a h'.1), mvVs_nn c (gnds_nns c h'.2)]
 | .func (.method _) _ _, h => by simp [nn, gnd] at h
 | .func (.methodOf _ _) _ _, h => by simp [nn, gnd] at h
 | .func (.via _ _ _ _) _ _, h => by simp [nn, gnd] at h
 | .func (.yield _) _ _, h => by simp [nn, gnd] at h
 | .nilFunc, _ => rfl
 | .iface t v, h => by simp only [mvV, mvV_nn v h]
 | .nilIface, _ => rfl
 | .agg ⟨l⟩, h => by simp only [mvV, mvVs_nn l h]
 | .tuple ⟨l⟩, h => by simp only [mvV, mvVs_nn l (gnds_nns l h)]
theorem mvVs_nn {ns : List Nat} : (l : List Value) → nns l = true → mvVs ns l = (ns, l)
 | [], _ => rfl
 | v :: l, h => by
  simp only [nns, Bool.and_eq_true] at h
  simp only [mvVs, mvV_nn v h.1, mvVs_nn l h.2]
end
theorem mvq_nn {ns : List Nat} : ∀ {c : List Value}, m_nns c = true → m_mvq ns c = c
 | [], _ => rfl
 | v :: c, h => by
  have h' : (nn v && nns c) = true := h
  simp only [Bool.and_eq_true] at h'
  have ih := mvq_nn (ns := ns) (c := c) h'.2
  unfold m_mvq at ih ⊢
  rw [List.map_cons, ih]
  have : mvV ns v = (ns, v) := mvV_nn v h'.1
  unfold mvq1
  rw [this]
  simp only [Nat.beq_refl]
theorem mvq_app (ns : List Nat) (c d : List Value) : m_mvq ns (c ++ d) = m_mvq ns c ++ m_mvq ns d := by unfold m_mvq; rw [List.map_append]
theorem nopo_nn : ∀ {c : List Value}, m_nns c = true → m_nopo c = true
 | [], _ => rfl
 | v :: c, h => by
  have h' : (nn v && nns c) = true := h
  simp only [Bool.and_eq_true] at h'
  have ih := nopo_nn (c := c) h'.2
  unfold m_nopo at ih ⊢
  rw [List.all_cons, ih, Bool.and_true]
  cases v with
  | chan o => cases o with
   | none => rfl
   | some x => simp [nn, gnd] at h'
  | _ => rfl
theorem nopo_app (c d : List Value) : m_nopo (c ++ d) = (m_nopo c && m_nopo d) := by unfold m_nopo; rw [List.all_append]
theorem nns_app : ∀ (c d : List Value), m_nns (c ++ d) = (m_nns c && m_nns d)
 | [], d => rfl
 | v :: c, d => by
  have ih := nns_app c d
  unfold m_nns at ih ⊢
  rw [List.cons_append, nns, nns, ih, Bool.and_assoc]

def boL (l : List Bool) : List Value := l.map .bool
theorem boL_len (l : List Bool) : (boL l).length = l.length := by simp [boL]
theorem boL_nn : ∀ l : List Bool, m_nns (boL l) = true
 | [] => rfl
 | b :: l => by
  have ih := boL_nn l
  unfold m_nns boL at ih ⊢
  rw [List.map_cons, nns, ih]
  rfl
def RowV (r : Mem) (v : Value) (l : List Bool) : Prop := (l = [] ∧ v = nilT) ∨ (l ≠ [] ∧ ∃ b o cap, v = RS b o l.length cap ∧ ∀ j x, l[j]? = some x → r b (o + j) = some (.bool x))
theorem RowV.mono {r r' : Mem} (hle : Mem.le r r') {v : Value} {l : List Bool} (h : RowV r v l) : RowV r' v l := by
 rcases h with h | ⟨h1, b, o, cap, h2, h3⟩
 ·exact .inl h
 ·exact .inr ⟨h1, b, o, cap, h2, fun j x hx => hle _ _ _ (h3 j x hx)⟩
def TabC (r : Mem) (c : List Value) (T : List (List Bool)) : Prop := c.length = T.length ∧ ∀ (i : Nat) v l, c[i]? = some v → T[i]? = some l → RowV r v l
theorem TabC.mono {r r' : Mem} (hle : Mem.le r r') {c : List Value} {T : List (List Bool)} (h : TabC r c T) : TabC r' c T := ⟨h.1, fun i v l h1 h2 => (h.2 i v l h1 h2).mono hle⟩
theorem TabC.snoc {r : Mem} {c : List Value} {T : List (List Bool)} (h : TabC r c T) {v : Value} {l : List Bool} (hv : RowV r v l) : TabC r (c ++ [v]) (T ++ [l]) := by
 refine ⟨by simp [h.1], fun i u m h1 h2 => ?_⟩
 by_cases hi : i < c.length
 ·rw [List.getElem?_append_left hi] at h1
  rw [List.getElem?_append_left (by rw [← h.1]; exact hi)] at h2
  exact h.2 i u m h1 h2
 ·rw [List.getElem?_append_right (by omega)] at h1
  rw [List.getElem?_append_right (by rw [← h.1]; omega), ← h.1] at h2
  cases hk : i - c.length with
  | zero =>
   rw [hk] at h1 h2
   simp at h1 h2
   subst h1 h2
   exact hv
  | succ j => rw [hk] at h1; simp at h1
noncomputable def inRow (r : Mem) (u : Value) : List Bool := match u with
 | .slice (some ⟨b, o, some _⟩) l _ => (List.range (min l 14)).map fun j => ofB ((r b (o + j)).getD undef)
 | _ => []
noncomputable def inTab (r : Mem) (b off m : Nat) : List (List Bool) := (List.range m).map fun i => inRow r ((r b (off + i)).getD undef)
theorem inTab_len (r : Mem) (b off m : Nat) : (inTab r b off m).length = m := by simp [inTab]
theorem inTab_succ (r : Mem) (b off m : Nat) : inTab r b off (m + 1) = inTab r b off m ++ [inRow r ((r b (off + m)).getD undef)] := by
 unfold inTab
 rw [List.range_succ, List.map_append]
 rfl
def TbO (r1 : Mem) (T : List (List Bool)) (E : Value) (os : OO) : Prop := (T = [] ∧ E = nilT ∧ os = []) ∨ (T ≠ [] ∧ ∃ c, E = gwT 0 T.length ∧ os = [oTb c 0] ∧ TabC r1 c T ∧ m_nns c = true)
def TbI (r : Mem) (b off n cap : Nat) (k : Nat) (r1 : Mem) (vs : OV) (ms : List Nat) (os : OO) : Prop := ms = [] ∧ Mem.le r r1 ∧ ∃ E, vs = vTB b off n cap E k ∧ TbO r1 (inTab r b off k) E os
def TbX (r : Mem) (b off n : Nat) (r1 : Mem) (vs : OV) (ms : List Nat) (os : OO) : Prop := ms = [] ∧ Mem.le r r1 ∧ ∃ E, vs = [some E] ∧ TbO r1 (inTab r b off (min n 14)) E os

end Go.Proofs

/- The law's copy of a table: a round. -/
namespace Go.Proofs
open Go Go.Ev Go.Num
set_option linter.unusedVariables false
set_option linter.unusedSimpArgs false
set_option maxRecDepth 100000

theorem ro_RS (b o l c : Nat) : isRoS (RS b o l c) = true := rfl
theorem ln_RS (b o l c : Nat) : lnOf (RS b o l c) = l := rfl
theorem cp_RS (b o l c : Nat) : cpOf (RS b o l c) = c := rfl
theorem bk_RS (b o l c : Nat) : blkOf (RS b o l c) = b := rfl
theorem of_RS (b o l c : Nat) : offOf (RS b o l c) = o := rfl
theorem min14 (l : Nat) : (bif decide ((14 : Int) < (l : Int)) then (14 : Int) else (l : Int)) = ((min l 14 : Nat) : Int) := by
 by_cases h : (14 : Int) < (l : Int)
 ·rw [dT h, cond_true]; omega
 ·rw [dF h, cond_false]; omega
theorem takeF_bo {f : Nat → Option Value} : ∀ (l : List Bool) (k : Nat), (∀ j x, l[j]? = some x → f (k + j) = some (.bool x)) → takeF f k l.length = some (boL l)
 | [], k, _ => rfl
 | x :: l, k, h => by
  have h0 := h 0 x rfl
  rw [Nat.add_zero] at h0
  have ih := takeF_bo l (k + 1) fun j y hy => by
   have := h (j + 1) y (by simpa using hy)
   rw [show k + (j + 1) = k + 1 + j by omega] at this
   exact this
  show takeF f k (l.length + 1) = _
  simp only [takeF, h0, ih]
  rfl
section
variable {r : Mem} {b off n cap : Nat}
theorem inRow_get {b2 o2 l2 c2 : Nat} (hl : l2 ≤ c2) (h : ∀ i, i < c2 * 1 → ∃ u, r b2 (o2 + i) = some u ∧ ArgBool u) : ∀ j x, (inRow r (RS b2 o2 l2 c2))[j]? = some x → r b2 (o2 + j) = some (.bool x) := fun j x hx => by
 have hx' : ((List.range (min l2 14)).map fun j => ofB ((r b2 (o2 + j)).getD undef))[j]? = some x := hx
 rw [List.getElem?_map] at hx'
 by_cases hj : j < min l2 14
 ·rw [List.getElem?_range hj] at hx'
  obtain ⟨u, hu, y, rfl⟩ := h j (by omega)
  simp only [Option.map_some, Option.some.injEq, hu, Option.getD_some] at hx'
  have hx2 : y = x := hx'
  rw [hu, hx2]
 ·rw [List.getElem?_eq_none (by simp; omega)] at hx'
  cases hx'
theorem inRow_len (b2 o2 l2 c2 : Nat) : (inRow r (RS b2 o2 l2 c2)).length = min l2 14 := by
 show ((List.range (min l2 14)).map _).length = _
 simp

def TbR (r : Mem) (b off n cap k : Nat) (r1 : Mem) (T : List (List Bool)) (l : List Bool) (vs : OV) (ms : List Nat) (os : OO) : Prop :=
 ms = [] ∧ vs = vTB b off n cap (gwT 0 (k + 1)) (k + 1) ∧ ∃ c, m_nns c = true ∧ TabC r1 c T ∧ ((l = [] ∧ os = [oTb (c ++ [nilT]) 0]) ∨ (l ≠ [] ∧ os = [oTb (c ++ [.slice (some ⟨1, 0, none⟩) l.length unk]) 0, oBo (boL l) 1]))

theorem tb_run {r1 : Mem} {k : Nat} (hk : k < n) (k14 : k < 14) (hle : Mem.le r r1) {u : Value} (hu : r b (off + k) = some u) (hp : ArgRow r 1 ArgBool u) {E : Value} {os : OO} (hT : TbO r1 (inTab r b off k) E os) :
  ∃ sh fl, ∀ (fs : FnsC) (Qx : OV → List Nat → OO → Prop) (kr : KS), run (SS r1 sh) 61 33 1 TB_3 fs none (Outs.ask 0 ⟨lvTB, fl, fun vs ms os => TbR r b off n cap k r1 (inTab r b off k) (inRow r u) vs ms os⟩) (Outs.ats 0 [(0, ⟨[3], [], Qx⟩)]) kr [] (bT lvTB (vTB b off n cap E k) .nil) [] (mkA os) = okR := by
 have hu1 : r1 b (off + k) = some u := hle _ _ _ hu
 have c1 : (k : Int) < (n : Int) := by omega
 have c2 : (k : Int) < 14 := by omega
 have c3 : Nat.blt k n = true := Nat.ble_eq_true_of_le (by omega)
 have e0 : Nat.add off (Nat.mul k 1) = off + k := by simp
 have e3 : IntKind.wrap IntKind.i64 ((k : Int) + Int.ofNat 1) = ((k + 1 : Nat) : Int) := inc1' (by omega)
 simp only [Int.ofNat_eq_natCast] at e3
 have hTl := inTab_len r b off k
 have tab0 : inTab r b off k = [] → k = 0 := fun h => by rw [h] at hTl; exact hTl.symm
 have b3 : Nat.ble (Nat.add k 1) 1000000 = true := Nat.ble_eq_true_of_le (by simp; omega)
 have s1 : ∀ c : List Value, m_nns c = true → m_nopo (c ++ [nilT]) = true ∧ m_mvq [2] (c ++ [nilT]) = c ++ [nilT] := fun c hc => by
  have hn : m_nns (c ++ [nilT]) = true := by rw [nns_app, hc]; rfl
  rw [mvq_nn hn]
  exact ⟨nopo_nn hn, rfl⟩
 have oc : ∀ {o : Option (List Value)} {c : List Value} (h : o = some c) (a : CR) (F : List Value → CR), (Option.casesOn o a F : CR) = F c := fun h a F => by rw [h]
 rcases hT with ⟨t0, rfl, rfl⟩ | ⟨t0, c, rfl, rfl, hc, hcn⟩
 ·have k0 := tab0 t0
  subst k0
  have hTe : TabC r1 [] (inTab r b off 0) := ⟨rfl, fun i v l h => by simp at h⟩
  cases hp with
  | nil =>
   refine ⟨1, [.t], fun fs Qx kr => ?_⟩
   have q0 : isNilS nilT = true := rfl
   have hn' := tbBnN r1 b off n cap 0 fs
   simp only [Int.ofNat_eq_natCast, Int.toNat_natCast, dT c1, dT c2, c3, cond_true, e0, hu1, q0, e3] at hn'
   exact (hn' _ _ _).trans (qq_ok ⟨rfl, rfl, [], rfl, hTe, .inl ⟨rfl, rfl⟩⟩)
  | empty =>
   refine ⟨3, [.t], fun fs Qx kr => ?_⟩
   have q0 : isES (.slice (some ⟨0, 0, none⟩) 0 unkE) = true := rfl
   have hn' := tbBnE r1 b off n cap 0 fs
   simp only [Int.ofNat_eq_natCast, Int.toNat_natCast, dT c1, dT c2, c3, cond_true, e0, hu1, q0, e3] at hn'
   exact (hn' _ _ _).trans (qq_ok ⟨rfl, rfl, [], rfl, hTe, .inl ⟨rfl, rfl⟩⟩)
  | row b2 o2 l2 c2' hl hcm h =>
   have hcm' : c2' ≤ 9223372036854775807 := hcm
   have hrl := inRow_len (r := r) b2 o2 l2 c2'
   have hrg := inRow_get hl h
   have k1 : Nat.beq c2' 9223372036854775809 = false := natFx (by omega)
   have k2 : Nat.ble (min l2 14) c2' = true := Nat.ble_eq_true_of_le (by omega)
   have k3 : Nat.ble (Nat.add 0 (Nat.sub (min l2 14) 0)) 1000000 = true := Nat.ble_eq_true_of_le (by show 0 + (min l2 14 - 0) ≤ _; omega)
   have p0 : (0 : Int) ≤ ((min l2 14 : Nat) : Int) := by omega
   generalize hL : inRow r (RS b2 o2 l2 c2') = L at hrl hrg ⊢
   by_cases hz : min l2 14 = 0
   ·have hLe : L = [] := List.length_eq_zero_iff.1 (by omega)
    have k4 : Nat.beq (min l2 14) 0 = true := by rw [hz]; rfl
    refine ⟨2, [.t], fun fs Qx kr => ?_⟩
    have hn' := tbBnR r1 b off n cap 0 fs
    simp only [Int.ofNat_eq_natCast, Int.toNat_natCast, dT c1, dT c2, c3, cond_true, cond_false, e0, hu1, ro_RS, ln_RS, cp_RS, bk_RS, of_RS, min14, show ((14 : Nat) : Int) = 14 from rfl, dT p0, k1, k2, k4, e3] at hn'
    exact (hn' _ _ _).trans (qq_ok ⟨rfl, rfl, [], rfl, hTe, .inl ⟨hLe, rfl⟩⟩)
   ·have k4 : Nat.beq (min l2 14) 0 = false := natFx hz
    have k5 : Nat.beq (Nat.sub (min l2 14) 0) 0 = false := natFx (by show min l2 14 - 0 ≠ 0; omega)
    refine ⟨2, [.t], fun fs Qx kr => ?_⟩
    have hn' := tbBnR r1 b off n cap 0 fs
    simp only [Int.ofNat_eq_natCast, Int.toNat_natCast, dT c1, dT c2, c3, cond_true, cond_false, e0, hu1, ro_RS, ln_RS, cp_RS, bk_RS, of_RS, min14, show ((14 : Nat) : Int) = 14 from rfl, dT p0, k1, k2, k3, k4, k5, e3] at hn'
    have hr' : (match Nat.beq (Nat.sub c2' 0) unkE with | true => none | false => takeF (r1 b2) (Nat.add o2 (Nat.mul 0 1)) (Nat.mul (Nat.sub (min l2 14) 0) 1)) = some (boL L) := by
     rw [natFx (show Nat.sub c2' 0 ≠ unkE by unfold unkE; show c2' - 0 ≠ _; omega)]
     show takeF (r1 b2) o2 (Nat.mul (min l2 14) 1) = _
     rw [Nat.mul_eq, Nat.mul_one, ← hrl]
     exact takeF_bo L o2 fun j x hx => hle _ _ _ (hrg j x hx)
    refine (hn' _ _ _).trans ((oc hr' _ _).trans ?_)
    have l1 : Nat.beq (boL L).length (Nat.mul (Nat.sub (min l2 14) 0) 1) = true := by
     rw [boL_len, hrl, show Nat.mul (Nat.sub (min l2 14) 0) 1 = min l2 14 by show (min l2 14 - 0) * 1 = _; omega]
     exact Nat.beq_refl _
    simp only [l1, cond_true, boL_nn, Bool.and_true]
    refine qq_ok ⟨rfl, rfl, [], rfl, hTe, .inr ⟨fun h => by rw [h] at hrl; simp at hrl; omega, ?_⟩⟩
    rw [hrl]; rfl
 ·rw [hTl]
  have tk : takeAt c 0 (Nat.mul k 1) = some c := takeL_row _ _ (by rw [hc.1, hTl]; simp)
  cases hp with
  | nil =>
   refine ⟨1, [.q []], fun fs Qx kr => ?_⟩
   have q0 : isNilS nilT = true := rfl
   have hn' := tbBoN r1 b off n cap k k c fs
   simp only [Int.ofNat_eq_natCast, Int.toNat_natCast, dT c1, dT c2, c3, cond_true, e0, hu1, q0, e3, b3, tk, (s1 c hcn).1, (s1 c hcn).2, Bool.and_true] at hn'
   exact (hn' _ _ _).trans (qq_ok ⟨rfl, rfl, c, hcn, hc, .inl ⟨rfl, rfl⟩⟩)
  | empty =>
   refine ⟨3, [.q []], fun fs Qx kr => ?_⟩
   have q0 : isES (.slice (some ⟨0, 0, none⟩) 0 unkE) = true := rfl
   have hn' := tbBoE r1 b off n cap k k c fs
   simp only [Int.ofNat_eq_natCast, Int.toNat_natCast, dT c1, dT c2, c3, cond_true, e0, hu1, q0, e3, b3, tk, (s1 c hcn).1, (s1 c hcn).2, Bool.and_true] at hn'
   exact (hn' _ _ _).trans (qq_ok ⟨rfl, rfl, c, hcn, hc, .inl ⟨rfl, rfl⟩⟩)
  | row b2 o2 l2 c2' hl hcm h =>
   have hcm' : c2' ≤ 9223372036854775807 := hcm
   have hrl := inRow_len (r := r) b2 o2 l2 c2'
   have hrg := inRow_get hl h
   have k1 : Nat.beq c2' 9223372036854775809 = false := natFx (by omega)
   have k2 : Nat.ble (min l2 14) c2' = true := Nat.ble_eq_true_of_le (by omega)
   have k3 : Nat.ble (Nat.add 0 (Nat.sub (min l2 14) 0)) 1000000 = true := Nat.ble_eq_true_of_le (by show 0 + (min l2 14 - 0) ≤ _; omega)
   have p0 : (0 : Int) ≤ ((min l2 14 : Nat) : Int) := by omega
   generalize hL : inRow r (RS b2 o2 l2 c2') = L at hrl hrg ⊢
   by_cases hz : min l2 14 = 0
   ·have hLe : L = [] := List.length_eq_zero_iff.1 (by omega)
    have k4 : Nat.beq (min l2 14) 0 = true := by rw [hz]; rfl
    refine ⟨2, [.q []], fun fs Qx kr => ?_⟩
    have hn' := tbBoZ r1 b off n cap k k c fs
    simp only [Int.ofNat_eq_natCast, Int.toNat_natCast, dT c1, dT c2, c3, cond_true, cond_false, e0, hu1, ro_RS, ln_RS, cp_RS, bk_RS, of_RS, min14, show ((14 : Nat) : Int) = 14 from rfl, dT p0, k1, k2, k4, e3, b3, tk, (s1 c hcn).1, (s1 c hcn).2, Bool.and_true] at hn'
    exact (hn' _ _ _).trans (qq_ok ⟨rfl, rfl, c, hcn, hc, .inl ⟨hLe, rfl⟩⟩)
   ·have k4 : Nat.beq (min l2 14) 0 = false := natFx hz
    have k5 : Nat.beq (Nat.sub (min l2 14) 0) 0 = false := natFx (by show min l2 14 - 0 ≠ 0; omega)
    refine ⟨2, [.q [1]], fun fs Qx kr => ?_⟩
    have hn' := tbBoR r1 b off n cap k k c fs
    have m1 : Nat.sub (min l2 14) 0 = min l2 14 := rfl
    simp only [Int.ofNat_eq_natCast, Int.toNat_natCast, dT c1, dT c2, c3, cond_true, cond_false, e0, hu1, ro_RS, ln_RS, cp_RS, bk_RS, of_RS, min14, show ((14 : Nat) : Int) = 14 from rfl, dT p0, k1, k2, k3, k4, k5, e3] at hn'
    have hr' : (match Nat.beq (Nat.sub c2' 0) unkE with | true => none | false => takeF (r1 b2) (Nat.add o2 (Nat.mul 0 1)) (Nat.mul (Nat.sub (min l2 14) 0) 1)) = some (boL L) := by
     rw [natFx (show Nat.sub c2' 0 ≠ unkE by unfold unkE; show c2' - 0 ≠ _; omega)]
     show takeF (r1 b2) o2 (Nat.mul (min l2 14) 1) = _
     rw [Nat.mul_eq, Nat.mul_one, ← hrl]
     exact takeF_bo L o2 fun j x hx => hle _ _ _ (hrg j x hx)
    refine (hn' _ _ _).trans ((oc hr' _ _).trans ?_)
    have l1 : Nat.beq (boL L).length (Nat.mul (Nat.sub (min l2 14) 0) 1) = true := by
     rw [boL_len, hrl, show Nat.mul (Nat.sub (min l2 14) 0) 1 = min l2 14 by show (min l2 14 - 0) * 1 = _; omega]
     exact Nat.beq_refl _
    have s2 : m_mvq [3, 1] (c ++ [.slice (some ⟨1, 0, none⟩) (Nat.sub (min l2 14) 0) unk]) = c ++ [.slice (some ⟨1, 0, none⟩) (Nat.sub (min l2 14) 0) unk] := by
     rw [mvq_app, mvq_nn hcn]; rfl
    have s3 : m_nopo (c ++ [.slice (some ⟨1, 0, none⟩) (Nat.sub (min l2 14) 0) unk]) = true := by rw [nopo_app, nopo_nn hcn]; rfl
    simp only [l1, cond_true, boL_nn, Bool.and_true, b3, tk, s2, s3]
    refine qq_ok ⟨rfl, rfl, c, hcn, hc, .inr ⟨fun h => by rw [h] at hrl; simp at hrl; omega, ?_⟩⟩
    rw [hrl]; rfl
end

end Go.Proofs

/- The law's copy of a table: what the call answers. -/
namespace Go.Proofs
open Go Go.Ev Go.Num
set_option linter.unusedVariables false
set_option linter.unusedSimpArgs false
set_option maxRecDepth 100000

theorem frzVs_one (j b o : Nat) (v u : Value) (h : frzV j b o v = some u) : frzVs j b o [v] = some [u] := by simp only [frzVs, h]
section
variable {r : Mem} {b off n cap : Nat}
theorem ta_ok (h1 : 1 ≤ n) (hin : ∀ i, i < min n 14 → ∃ u, r b (off + i) = some u ∧ ArgRow r 1 ArgBool u) : SOkG Tryz.prog r 5 [RS b off n cap] emptyA fun v A r1 => Mem.le r r1 ∧ ∃ c, v = gwT 0 (min n 14) ∧ A = mkA [oTb c 0] ∧ TabC r1 c (inTab r b off (min n 14)) ∧ m_nns c = true := by
 refine callOG SC_ok (by kernel_rfl) ((bodySC r _).trans TB_eq) (nt := 33) (by kernel_rfl) (rs := [.tmp 2]) (by kernel_rfl) 61 rfl ⟨[2], fun r1 vs ms os => ms = [] ∧ Mem.le r r1 ∧ ∃ c, vs = [some (gwT 0 (min n 14))] ∧ os = [oTb c 0] ∧ TabC r1 c (inTab r b off (min n 14)) ∧ m_nns c = true⟩ ?_ fun γ W F kk hwr hF hro h0' => ?_
 ·rintro r1 vs ms os ⟨rfl, hle, c, rfl, rfl, hc, hcn⟩
  exact ⟨_, mkA [oTb c 0], by kernel_rfl, hle, c, rfl, rfl, hc, hcn⟩
 have h0' : ∀ i, 0 ≤ i → γ i = none := h0'
 refine ReachG.after3 (SC_ok r) TOk.nil (tm := .nil) (L := 1) (L' := 1) (d := 1) hF hro h0' (.step (.step .base)) (orr := Outs.no)
  (o1 := ⟨lvTB, [], fun vs ms os => vs = vTB b off n cap nilT 0 ∧ ms = [] ∧ os = []⟩)
  (g2 := ⟨[3], fun r1 vs ms os => TbX r b off n r1 vs ms os⟩) (fun _ _ _ h => h.elim) ?_ ?_ ?_
 ·rintro vs ms os ⟨rfl, rfl, rfl⟩
  refine ReachG.blockC (ReachG.loopC (j := min n 14) (lv := lvTB) (I := fun j r1 vs ms os => ∃ k : Nat, k ≤ min n 14 ∧ j = min n 14 - k ∧ TbI r b off n cap k r1 vs ms os) (fun j r1 vs ms os hI => ?_) ⟨0, by omega, rfl, rfl, Mem.le_refl r, nilT, rfl, .inl ⟨rfl, rfl, rfl⟩⟩)
  obtain ⟨k, hk, rfl, rfl, hle, E, rfl, hT⟩ := hI
  by_cases c : k < min n 14
  ·obtain ⟨u, hu, hp⟩ := hin k c
   obtain ⟨sh, fl, hrun⟩ := tb_run (cap := cap) (show k < n by omega) (by omega) hle hu hp hT
   refine ReachG.segS (C := SS r1 sh) rfl rfl (SS_ok r1 sh) (t := fun _ => none) TOk.nil (tm := .nil) (L' := 1) (d := 1) hF hro h0' [(0, ⟨[3], [], fun _ _ _ => False⟩)] (ox := fun j => if j = 0 then ⟨[3], [], fun _ _ _ => False⟩ else Outs.no) (orr := Outs.no) (fun p hp => by simp only [List.mem_cons, List.not_mem_nil, or_false] at hp; subst hp; rfl) (hrun _ _ _) ?_ ?_ (fun _ _ _ h => h.elim)
   ·rintro vs ms os ⟨rfl, rfl, c0, hcn, hc, hcase⟩
    have hT1 : inTab r b off (k + 1) = inTab r b off k ++ [inRow r u] := by rw [inTab_succ, hu]; rfl
    have hne : inTab r b off (k + 1) ≠ [] := by rw [hT1]; simp
    rcases hcase with ⟨hl, rfl⟩ | ⟨hl, rfl⟩
    ·refine IsG.here ⟨min n 14 - (k + 1), by omega, k + 1, by omega, rfl, rfl, hle, gwT 0 (k + 1), rfl, .inr ⟨hne, c0 ++ [nilT], by rw [inTab_len], rfl, ?_, ?_⟩⟩
     ·rw [hT1]
      exact hc.snoc (.inl ⟨hl, rfl⟩)
     ·rw [nns_app, hcn]; rfl
    ·refine IsG.freeze (os0 := [oTb (c0 ++ [.slice (some ⟨1, 0, none⟩) (inRow r u).length unk]) 0]) (j := 1) h0' rfl (Nat.zero_le _) rfl (boL_nn _) fun b' o' r2 hle2 hrow => ?_
     refine ⟨vTB b off n cap (gwT 0 (k + 1)) (k + 1), [oTb (c0 ++ [RS b' o' (inRow r u).length 0]) 0], rfl, ?_, min n 14 - (k + 1), by omega, k + 1, by omega, rfl, rfl, Mem.le_trans hle hle2, gwT 0 (k + 1), rfl, .inr ⟨hne, c0 ++ [RS b' o' (inRow r u).length 0], by rw [inTab_len], rfl, ?_, ?_⟩⟩
     ·have e1 := frzVs_app 1 b' o' c0 [.slice (some ⟨1, 0, none⟩) (inRow r u).length unk] c0 [RS b' o' (inRow r u).length 0] (frzVs_nn 1 b' o' c0 hcn) (frzVs_one _ _ _ _ _ ?_)
      ·unfold oTb
       simp only [frzAs, frzA, e1]
      ·show (match (Nat.beq (inRow r u).length 0 && Nat.beq unk unkE) with | true => _ | false => _) = _
       rw [show Nat.beq unk unkE = false by decide, Bool.and_false]
       rfl
     ·rw [hT1]
      refine (hc.mono hle2).snoc (.inr ⟨hl, b', o', 0, rfl, fun j x hx => hrow j _ ?_⟩)
      unfold boL
      rw [List.getElem?_map, hx]; rfl
     ·rw [nns_app, hcn]; rfl
   ·intro id vs ms os h
    by_cases e : id = 0
    ·rw [if_pos e] at h; exact h.elim
    ·rw [if_neg e] at h; exact h.elim
  ·obtain rfl : k = min n 14 := by omega
   have hTl := inTab_len r b off (min n 14)
   rcases hT with ⟨t0, _⟩ | ⟨t0, c0, rfl, rfl, hc, hcn⟩
   ·rw [t0] at hTl; simp at hTl; omega
   ·refine ReachG.segS (C := SS r1 1) rfl rfl (SS_ok r1 1) (t := fun _ => none) TOk.nil (tm := .nil) (L' := 1) (d := 1) (n0 := 0) hF hro h0' [(0, ⟨[3], [], fun vs ms os => ms = [] ∧ vs = [some (gwT 0 (min n 14))] ∧ os = [oTb c0 0]⟩)] (on := ⟨lvTB, [.q []], fun _ _ _ => False⟩) (ox := fun j => if j = 0 then ⟨[3], [], fun vs ms os => ms = [] ∧ vs = [some (gwT 0 (min n 14))] ∧ os = [oTb c0 0]⟩ else Outs.no) (orr := Outs.no) (fun p hp => by simp only [List.mem_cons, List.not_mem_nil, or_false] at hp; subst hp; rfl) (L := 1) ?_ (fun _ _ _ h => h.elim) ?_ (fun _ _ _ h => h.elim)
    ·rw [hTl]
     have hn' := tbBoN r1 b off n cap (min n 14) (min n 14) c0
     simp only [Int.ofNat_eq_natCast, hcn, Bool.and_true, cond_true] at hn'
     by_cases q : ((min n 14 : Nat) : Int) < (n : Int)
     ·have q2 : ¬ ((min n 14 : Nat) : Int) < 14 := by omega
      simp only [dT q, dF q2, cond_true, cond_false] at hn'
      exact (hn' _ _ _ _).trans (qq_ok ⟨rfl, rfl, rfl⟩)
     ·simp only [dF q, cond_false] at hn'
      exact (hn' _ _ _ _).trans (qq_ok ⟨rfl, rfl, rfl⟩)
    ·intro id vs ms os h
     by_cases e : id = 0
     ·subst e
      obtain ⟨rfl, rfl, rfl⟩ := h
      exact IsG.here ⟨rfl, hle, gwT 0 (min n 14), rfl, .inr ⟨t0, c0, by rw [hTl], rfl, hc, hcn⟩⟩
     ·rw [if_neg e] at h; exact h.elim
 ·rintro r1 vs ms os ⟨rfl, hle, E, rfl, hT⟩
  have hTl := inTab_len r b off (min n 14)
  rcases hT with ⟨t0, _⟩ | ⟨t0, c0, rfl, rfl, hc, hcn⟩
  ·rw [t0] at hTl; simp at hTl; omega
  ·rw [hTl]
   refine ReachG.segR (SC_ok r1) TOk.nil (tm := .nil) (L := 1) (L' := 1) (d := 1) (n0 := 0) hF hro h0' [] (on := ⟨[2], [], fun _ _ _ => False⟩) (ox := fun _ => Outs.no) (orr := ⟨[2], [], fun vs ms os => ms = [] ∧ vs = [some (gwT 0 (min n 14))] ∧ os = [oTb c0 0]⟩) (fun p hp => nomatch hp) ?_ (fun _ _ _ h => h.elim) (fun _ _ _ _ h => h.elim) ?_
   ·have hn' := tbCo r1 (min n 14) c0
    simp only [hcn, Bool.and_true, cond_true] at hn'
    exact (hn' _ _ _ _).trans (qq_ok ⟨rfl, rfl, rfl⟩)
   ·rintro vs ms os ⟨rfl, rfl, rfl⟩
    exact IsG.here ⟨rfl, hle, c0, rfl, rfl, hc, hcn⟩
 ·exact (tbA r b off n cap _ _ _ _).trans (qq_ok ⟨rfl, rfl, rfl⟩)
end

end Go.Proofs

/- Are these values those? -/
set_option linter.unusedVariables false
set_option linter.unusedSimpArgs false
namespace Go.Proofs
open Go Go.Ev
noncomputable def m_svv (a b : List Value) : Bool := @decide (a = b) (Classical.propDecidable _)
theorem svv_rfl (a : List Value) : m_svv a a = true := @decide_eq_true _ (Classical.propDecidable _) rfl

end Go.Proofs

/- Tables in memory: the caller's own row of rows. -/
namespace Go.Proofs
open Go Go.Ev Go.Num
set_option linter.unusedVariables false
set_option linter.unusedSimpArgs false

def TabM (r : Mem) (b off : Nat) (T : List (List Bool)) : Prop := ∀ (i : Nat) l, T[i]? = some l → ∃ v, r b (off + i) = some v ∧ RowV r v l
theorem memW_row {r : Mem} {γ : Gam} {W : World} (hR : Ro r γ W) {v v' : Value} {l : List Bool} (hv : RowV r v l) (hr : VRel γ v v') : ∃ u, Go.Ev.mark v' = some u ∧ RowV (memW W) u l := by
 rcases hv with ⟨h1, rfl⟩ | ⟨h1, b, o, cap, rfl, h2⟩
 ·cases hr
  exact ⟨nilT, rfl, .inl ⟨h1, rfl⟩⟩
 ·obtain ⟨n, hn⟩ : ∃ n, n = l.length := ⟨_, rfl⟩
  rw [← hn] at hr
  cases hr with
  | sliceE a a' c' => exact absurd (List.length_eq_zero_iff.1 hn.symm) h1
  | sliceRo b k s l' c c' hc hcc =>
   refine ⟨.slice (some ⟨b, o, some 0⟩) n (match Nat.blt c' unk with | true => c' | false => 0), rfl, .inr ⟨h1, b, o, _, by rw [hn], fun j x hx => ?_⟩⟩
   obtain ⟨_, cc, e, fr, u, hb, hu, hrel⟩ := hR _ _ _ (h2 j x hx)
   have := (hrel γ).eq_of_gnd rfl
   subst this
   simp only [memW, hb, hu]
   rfl
theorem own_tab {r : Mem} {γ : Gam} {A : AW} {W : World} (hw : WRel γ A W) (hR : Ro r γ W) {i len cap : Nat} (hcap : Nat.beq cap unkE = false) {c : List Value} {T : List (List Bool)} {e f z : Nat} (hget : A.heap.get i = some (.cells c e f z)) (hT : TabC r c T) {v' : Value} (hv : VRel γ (.slice (some ⟨i, 0, none⟩) len cap) v') :
  ∃ b k', VRel noG (RS b k' len 0) v' ∧ TabM (memW W) b k' T := by
 cases hv with
 | slice k l c0 c' hg hc =>
  rename_i g
  obtain ⟨g', hg', ho⟩ := hw.obj _ _ hget
  rw [hg] at hg'
  cases hg'
  cases ho with
  | cells hb _ _ _ hcs =>
   refine ⟨g.blk, g.off + 0, .sliceRo _ _ _ _ _ _ (by decide) (Nat.zero_le _), fun j l' hl => ?_⟩
   have hj : j < T.length := (List.getElem?_eq_some_iff.1 hl).1
   obtain ⟨w, hcj⟩ : ∃ w, c[j]? = some w := ⟨_, List.getElem?_eq_getElem (by rw [hT.1]; exact hj)⟩
   obtain ⟨v'', h1, h2⟩ := hcs j _ hcj
   obtain ⟨u, h3, h4⟩ := memW_row hR (hT.2 j _ _ hcj hl) h2
   refine ⟨u, ?_, h4⟩
   simp only [memW, hb, Nat.add_zero, h1]
   exact h3
 | sliceE a a' c' => simp at hcap
noncomputable def gTab (m : Nat) (c : List Value) (args : List Value) (A : AW) : Bool := match args with
 | [.slice (some ⟨i, x, none⟩) l p] => match A.heap.get i with
  | some (.cells ci _ _ _) => m_svv [.slice (some ⟨0, x, none⟩) l p, .agg ⟨ci⟩] [gwT 0 m, .agg ⟨c⟩]
  | _ => false
 | _ => false
theorem gTab_use {r : Mem} {m : Nat} {c : List Value} {T : List (List Bool)} {args : List Value} {A : AW} (hT : TabC r c T) (hg : gTab m c args A = true) {γ : Gam} {W : World} (hw : WRel γ A W) (hR : Ro r γ W) {args' : Array Value} (ha : VsRel γ args args'.toList) :
  ∃ b k, VsRel noG [RS b k m 0] args'.toList ∧ TabM (memW W) b k T := by
 unfold gTab at hg
 split at hg
 ·rename_i i x l p
  split at hg
  ·rename_i ci e f zz hi
   have hs := @of_decide_eq_true _ (Classical.propDecidable _) hg
   simp only [List.cons.injEq, Value.slice.injEq, Option.some.injEq, Addr.mk.injEq, Value.agg.injEq, Array.mk.injEq, and_true, true_and] at hs
   obtain ⟨⟨rfl, rfl, rfl⟩, rfl⟩ := hs
   obtain ⟨la⟩ := args'
   cases ha with
   | cons hv hrest =>
   cases hrest
   obtain ⟨b, k, p1, p2⟩ := own_tab hw hR (by decide) hi hT hv
   exact ⟨b, k, .cons p1 .nil, p2⟩
  ·cases hg
 ·cases hg

end Go.Proofs

/- The reference's check of an order, run. -/
namespace Go.Proofs
open Go Go.Ev Go.Num
set_option linter.unusedVariables false
set_option linter.unusedSimpArgs false
set_option maxRecDepth 100000

noncomputable def cOCk : Code := bodyOf S0 6
noncomputable def OCk_0 : Code := (lc cOCk)
noncomputable def OCk_1 : Code := (lc (rc cOCk))
noncomputable def OCk_2 : Code := (lc (rc (rc cOCk)))
noncomputable def OCk_3 : Code := (lc (lc (rc (rc (rc cOCk)))))
noncomputable def OCk_4 : Code := (ic (ic (rc (lc (rc (rc (rc cOCk)))))))
noncomputable def OCk_5 : Code := (lc (lc (rc (rc (rc (rc cOCk))))))
noncomputable def OCk_6 : Code := (lc (ic (ic (rc (lc (rc (rc (rc (rc cOCk)))))))))
noncomputable def OCk_7 : Code := (lc (ic (lc (rc (ic (ic (rc (lc (rc (rc (rc (rc cOCk))))))))))))
noncomputable def OCk_8 : Code := (lc (ic (ic (rc (ic (lc (rc (ic (ic (rc (lc (rc (rc (rc (rc cOCk)))))))))))))))
noncomputable def OCk_9 : Code := (lc (ic (lc (rc (ic (ic (rc (ic (lc (rc (ic (ic (rc (lc (rc (rc (rc (rc cOCk))))))))))))))))))
noncomputable def OCk_10 : Code := (ic (ic (rc (ic (lc (rc (ic (ic (rc (ic (lc (rc (ic (ic (rc (lc (rc (rc (rc (rc cOCk))))))))))))))))))))
noncomputable def OCk_11 : Code := (rc (rc (ic (ic (rc (ic (lc (rc (ic (ic (rc (lc (rc (rc (rc (rc cOCk))))))))))))))))
noncomputable def OCk_12 : Code := (rc (rc (ic (ic (rc (lc (rc (rc (rc (rc cOCk))))))))))
noncomputable def OCk_13 : Code := (rc (rc (rc (rc (rc cOCk)))))
theorem OCk_eq : cOCk = (.seq OCk_0 (.seq OCk_1 (.seq OCk_2 (.seq (.seq OCk_3 (.block 0 (.loop OCk_4))) (.seq (.seq OCk_5 (.block 2 (.loop (.seq OCk_6 (.seq (.block 3 (.seq OCk_7 (.block 4 (.loop (.seq OCk_8 (.seq (.block 5 (.seq OCk_9 (.block 6 (.loop OCk_10)))) OCk_11)))))) OCk_12))))) OCk_13))))) := by kernel_rfl
def vO3 (b off n cap k : Nat) : OV := [some (RS b off n cap), some (I (n : Nat)), some (I (k : Nat))]
def vO4 (b off n cap i k : Nat) : OV := [some (RS b off n cap), some (I (n : Nat)), some (I (i : Nat)), some (I (k : Nat))]
def vO5 (b off n cap i k m : Nat) : OV := [some (RS b off n cap), some (I (n : Nat)), some (I (i : Nat)), some (I (k : Nat)), some (I (m : Nat))]

theorem cgA (r : Mem) (b off n cap : Nat) (fs : FnsC) (K : OV → List Nat → OO → CR) (kx : Nat → KS) (KR : OV → List Nat → OO → CR) : run (SC r) 253 78 1 (.seq OCk_0 (.seq OCk_1 (.seq OCk_2 OCk_3))) fs none (rbK 0 [0, 3, 4] [] K) kx (rbK 0 [2] [] KR) (sc0 253 [RS b off n cap]) (tr0 253 [RS b off n cap]) [] emptyA =
    bif decide (Int.ofNat n < 1) then KR [some (I (Int.ofNat 100))] [] [] else bif decide (Int.ofNat n > 12) then KR [some (I (Int.ofNat 100))] [] [] else K [some (.slice (some ⟨b, off, some 0⟩) n cap), some (I (Int.ofNat n)), some (I (Int.ofNat 0))] [] [] := by kernel_rfl

theorem cgBN (r : Mem) (b off n cap : Nat) (k : Nat) (fs : FnsC) (K : OV → List Nat → OO → CR) (KX : Nat → OV → List Nat → OO → CR) (KR : OV → List Nat → OO → CR) : run (SS r 1) 253 78 1 OCk_4 fs none (rbK 0 [0, 3, 4] [] K) (fun j => rbK 0 [0, 3] [] (KX j)) (rbK 0 [2] [] KR) [] (bT [0, 3, 4] (vO3 b off n cap k) .nil) [] (mkA []) =
    bif decide (Int.ofNat k < Int.ofNat n) then bif Nat.blt (Int.toNat (Int.ofNat k)) n then Option.casesOn (r b (Nat.add off (Nat.mul (Int.toNat (Int.ofNat k)) 1))) (.fail 423) fun val => bif isNilS val then bif Int.ofNat 0 != Int.ofNat n then KR [some (I (Int.ofNat 100))] [] [] else bif Nat.blt (Int.toNat (Int.ofNat k)) n then Option.casesOn (r b (Nat.add off (Nat.mul (Int.toNat (Int.ofNat k)) 1))) (.fail 423) fun val => bif isNilS val then .fail 31 else .fail 420 else .fail 420 else .fail 420 else .fail 420 else KX 0 [some (.slice (some ⟨b, off, some 0⟩) n cap), some (I (Int.ofNat n))] [] [] := by kernel_rfl

theorem cgBR (r : Mem) (b off n cap : Nat) (k : Nat) (fs : FnsC) (K : OV → List Nat → OO → CR) (KX : Nat → OV → List Nat → OO → CR) (KR : OV → List Nat → OO → CR) : run (SS r 2) 253 78 1 OCk_4 fs none (rbK 0 [0, 3, 4] [] K) (fun j => rbK 0 [0, 3] [] (KX j)) (rbK 0 [2] [] KR) [] (bT [0, 3, 4] (vO3 b off n cap k) .nil) [] (mkA []) =
    bif decide (Int.ofNat k < Int.ofNat n) then bif Nat.blt (Int.toNat (Int.ofNat k)) n then Option.casesOn (r b (Nat.add off (Nat.mul (Int.toNat (Int.ofNat k)) 1))) (.fail 423) fun val => bif isRoS val then bif Int.ofNat (lnOf val) != Int.ofNat n then KR [some (I (Int.ofNat 100))] [] [] else bif Nat.blt (Int.toNat (Int.ofNat k)) n then Option.casesOn (r b (Nat.add off (Nat.mul (Int.toNat (Int.ofNat k)) 1))) (.fail 423) fun val => bif isRoS val then bif Nat.blt (Int.toNat (Int.ofNat k)) (lnOf val) then Option.casesOn (r (blkOf val) (Nat.add (offOf val) (Nat.mul (Int.toNat (Int.ofNat k)) 1))) (.fail 423) fun val => bif isB val then bif ofB val then KR [some (I (Int.ofNat 100))] [] [] else K [some (.slice (some ⟨b, off, some 0⟩) n cap), some (I (Int.ofNat n)), some (I (IntKind.wrap .i64 (Int.ofNat k + Int.ofNat 1)))] [] [] else .fail 420 else .fail 420 else .fail 420 else .fail 420 else .fail 420 else .fail 420 else KX 0 [some (.slice (some ⟨b, off, some 0⟩) n cap), some (I (Int.ofNat n))] [] [] := by kernel_rfl

theorem cgC (r : Mem) (b off n cap : Nat) (fs : FnsC) (K : OV → List Nat → OO → CR) (kx : Nat → KS) (kr : KS) : run (SC r) 253 78 1 OCk_5 fs none (rbK 0 [0, 3, 5] [] K) kx kr [] (bT [0, 3] [some (RS b off n cap), some (I (n : Nat))] .nil) [] (mkA []) =
    K [some (.slice (some ⟨b, off, some 0⟩) n cap), some (I (Int.ofNat n)), some (I (Int.ofNat 0))] [] [] := by kernel_rfl

theorem cgD (r : Mem) (b off n cap : Nat) (k : Nat) (fs : FnsC) (K : OV → List Nat → OO → CR) (KX : Nat → OV → List Nat → OO → CR) (kr : KS) : run (SC r) 253 78 1 OCk_6 fs none (rbK 0 [0, 3, 5] [] K) (fun j => rbK 0 [] [] (KX j)) kr [] (bT [0, 3, 5] (vO3 b off n cap k) .nil) [] (mkA []) =
    bif decide (Int.ofNat k < Int.ofNat n) then K [some (.slice (some ⟨b, off, some 0⟩) n cap), some (I (Int.ofNat n)), some (I (Int.ofNat k))] [] [] else KX 2 [] [] [] := by kernel_rfl

theorem cgE (r : Mem) (b off n cap : Nat) (k : Nat) (fs : FnsC) (K : OV → List Nat → OO → CR) (kx : Nat → KS) (kr : KS) : run (SC r) 253 78 1 OCk_7 fs none (rbK 0 [0, 3, 5, 6] [] K) kx kr [] (bT [0, 3, 5] (vO3 b off n cap k) .nil) [] (mkA []) =
    K [some (.slice (some ⟨b, off, some 0⟩) n cap), some (I (Int.ofNat n)), some (I (Int.ofNat k)), some (I (Int.ofNat 0))] [] [] := by kernel_rfl

theorem cgF (r : Mem) (b off n cap : Nat) (i k : Nat) (fs : FnsC) (K : OV → List Nat → OO → CR) (KX : Nat → OV → List Nat → OO → CR) (kr : KS) : run (SC r) 253 78 1 OCk_8 fs none (rbK 0 [0, 3, 5, 6] [] K) (fun j => rbK 0 [0, 3, 5] [] (KX j)) kr [] (bT [0, 3, 5, 6] (vO4 b off n cap i k) .nil) [] (mkA []) =
    bif decide (Int.ofNat k < Int.ofNat n) then K [some (.slice (some ⟨b, off, some 0⟩) n cap), some (I (Int.ofNat n)), some (I (Int.ofNat i)), some (I (Int.ofNat k))] [] [] else KX 4 [some (.slice (some ⟨b, off, some 0⟩) n cap), some (I (Int.ofNat n)), some (I (Int.ofNat i))] [] [] := by kernel_rfl

theorem cgG (r : Mem) (b off n cap : Nat) (i k : Nat) (fs : FnsC) (K : OV → List Nat → OO → CR) (kx : Nat → KS) (kr : KS) : run (SC r) 253 78 1 OCk_9 fs none (rbK 0 [0, 3, 5, 6, 7] [] K) kx kr [] (bT [0, 3, 5, 6] (vO4 b off n cap i k) .nil) [] (mkA []) =
    K [some (.slice (some ⟨b, off, some 0⟩) n cap), some (I (Int.ofNat n)), some (I (Int.ofNat i)), some (I (Int.ofNat k)), some (I (Int.ofNat 0))] [] [] := by kernel_rfl

theorem cgH (r : Mem) (b off n cap : Nat) (i k m : Nat) (fs : FnsC) (K : OV → List Nat → OO → CR) (KX : Nat → OV → List Nat → OO → CR) (KR : OV → List Nat → OO → CR) : run (SS r 2) 253 78 1 OCk_10 fs none (rbK 0 [0, 3, 5, 6, 7] [] K) (fun j => rbK 0 [0, 3, 5, 6] [] (KX j)) (rbK 0 [2] [] KR) [] (bT [0, 3, 5, 6, 7] (vO5 b off n cap i k m) .nil) [] (mkA []) =
    bif decide (Int.ofNat m < Int.ofNat n) then bif Nat.blt (Int.toNat (Int.ofNat i)) n then Option.casesOn (r b (Nat.add off (Nat.mul (Int.toNat (Int.ofNat i)) 1))) (.fail 423) fun val => bif isRoS val then bif Nat.blt (Int.toNat (Int.ofNat k)) (lnOf val) then Option.casesOn (r (blkOf val) (Nat.add (offOf val) (Nat.mul (Int.toNat (Int.ofNat k)) 1))) (.fail 423) fun val => bif isB val then bif ofB val then bif Nat.blt (Int.toNat (Int.ofNat k)) n then Option.casesOn (r b (Nat.add off (Nat.mul (Int.toNat (Int.ofNat k)) 1))) (.fail 423) fun val => bif isRoS val then bif Nat.blt (Int.toNat (Int.ofNat m)) (lnOf val) then Option.casesOn (r (blkOf val) (Nat.add (offOf val) (Nat.mul (Int.toNat (Int.ofNat m)) 1))) (.fail 423) fun val => bif isB val then bif ofB val then bif Nat.blt (Int.toNat (Int.ofNat i)) n then Option.casesOn (r b (Nat.add off (Nat.mul (Int.toNat (Int.ofNat i)) 1))) (.fail 423) fun val => bif isRoS val then bif Nat.blt (Int.toNat (Int.ofNat m)) (lnOf val) then Option.casesOn (r (blkOf val) (Nat.add (offOf val) (Nat.mul (Int.toNat (Int.ofNat m)) 1))) (.fail 423) fun val => bif isB val then bif ofB val then K [some (.slice (some ⟨b, off, some 0⟩) n cap), some (I (Int.ofNat n)), some (I (Int.ofNat i)), some (I (Int.ofNat k)), some (I (IntKind.wrap .i64 (Int.ofNat m + Int.ofNat 1)))] [] [] else KR [some (I (Int.ofNat 100))] [] [] else .fail 420 else .fail 420 else .fail 420 else .fail 420 else K [some (.slice (some ⟨b, off, some 0⟩) n cap), some (I (Int.ofNat n)), some (I (Int.ofNat i)), some (I (Int.ofNat k)), some (I (IntKind.wrap .i64 (Int.ofNat m + Int.ofNat 1)))] [] [] else .fail 420 else .fail 420 else .fail 420 else .fail 420 else K [some (.slice (some ⟨b, off, some 0⟩) n cap), some (I (Int.ofNat n)), some (I (Int.ofNat i)), some (I (Int.ofNat k)), some (I (IntKind.wrap .i64 (Int.ofNat m + Int.ofNat 1)))] [] [] else .fail 420 else .fail 420 else .fail 420 else .fail 420 else KX 6 [some (.slice (some ⟨b, off, some 0⟩) n cap), some (I (Int.ofNat n)), some (I (Int.ofNat i)), some (I (Int.ofNat k))] [] [] := by kernel_rfl

theorem cgI (r : Mem) (b off n cap : Nat) (i k : Nat) (fs : FnsC) (K : OV → List Nat → OO → CR) (kx : Nat → KS) (kr : KS) : run (SC r) 253 78 1 OCk_11 fs none (rbK 0 [0, 3, 5, 6] [] K) kx kr [] (bT [0, 3, 5, 6] (vO4 b off n cap i k) .nil) [] (mkA []) =
    K [some (.slice (some ⟨b, off, some 0⟩) n cap), some (I (Int.ofNat n)), some (I (Int.ofNat i)), some (I (IntKind.wrap .i64 (Int.ofNat k + Int.ofNat 1)))] [] [] := by kernel_rfl

theorem cgJ (r : Mem) (b off n cap : Nat) (k : Nat) (fs : FnsC) (K : OV → List Nat → OO → CR) (kx : Nat → KS) (kr : KS) : run (SC r) 253 78 1 OCk_12 fs none (rbK 0 [0, 3, 5] [] K) kx kr [] (bT [0, 3, 5] (vO3 b off n cap k) .nil) [] (mkA []) =
    K [some (.slice (some ⟨b, off, some 0⟩) n cap), some (I (Int.ofNat n)), some (I (IntKind.wrap .i64 (Int.ofNat k + Int.ofNat 1)))] [] [] := by kernel_rfl

theorem cgK (r : Mem) (fs : FnsC) (kn : KS) (kx : Nat → KS) (KR : OV → List Nat → OO → CR) : run (SC r) 253 78 1 OCk_13 fs none kn kx (rbK 0 [2] [] KR) [] (bT [] [] .nil) [] (mkA []) =
    KR [some (I (Int.ofNat 0))] [] [] := by kernel_rfl

end Go.Proofs

/- Code whose slices are told; tables by their rows. -/
namespace Go.Proofs
open Go Go.Ev Go.Num
set_option linter.unusedVariables false
set_option linter.unusedSimpArgs false
set_option maxRecDepth 100000

theorem b_bl (x : Bool) : isB (.bool x) = true := rfl
theorem o_bl (x : Bool) : ofB (.bool x) = x := rfl
theorem TOk.sh {r : Mem} {t : Tbl} (sh : Nat) (h : TOk (SC r) t) : TOk (SS r sh) t := h
theorem base_sh {r : Mem} {sh : Nat} {γ0 γ : Gam} {W0 W : World} (h : Base (SC r) γ0 W0 γ W) : Base (SS r sh) γ0 W0 γ W := ⟨h.ext, h.ro⟩
theorem base_hs {r : Mem} {sh : Nat} {γ0 γ : Gam} {W0 W : World} (h : Base (SS r sh) γ0 W0 γ W) : Base (SC r) γ0 W0 γ W := ⟨h.ext, h.ro⟩
theorem is_hs {r : Mem} {sh m n : Nat} {γ0 : Gam} {W0 : World} {o : Outs} {st : St} (h : Is (SS r sh) m n γ0 W0 o st) : Is (SC r) m n γ0 W0 o st := by
 obtain ⟨vs, ms, os, hr, q⟩ := h
 refine ⟨vs, ms, os, fun γ a W hs hb => ?_, q⟩
 obtain ⟨γ1, s1, b1⟩ := hr γ a W hs (base_sh hb)
 exact ⟨γ1, s1, base_hs b1⟩
theorem segSh {r : Mem} {m n : Nat} {F : Fence} {k : Nat} {γ0 : Gam} {W0 : World} {n0 : Nat} {ro : Option Nat} (sh : Nat) {t : Tbl} (ht : TOk (SC r) t) {tm : Tr Nat} {L L' d : Nat} (hF : Wide F) (hro : RoRel γ0 ro F.round) (h0 : ∀ i, n0 ≤ i → γ0 i = none) {c : Code} {s : List (Nat × Value)} {b : Tr Value} {ms : List Nat} {A : AW} {on : Outs} {ox : Nat → Outs} {orr : Outs} (l : List (Nat × Outs)) (hl : ∀ p ∈ l, ox p.1 = p.2)
  (h : run (SS r sh) m n L c (lvlT (SS r sh) t tm L' d) ro (on.ask n0) (Outs.ats n0 l) (orr.ask n0) s b ms A = okR) : Go.Ev.Reach (SC r) m n F k γ0 W0 c ⟨⟨s, b⟩, ms, A⟩ (CanQ (SC r) m n γ0 W0 on ox orr) := by
 have h1 := Go.Ev.Reach.segR (k := k) (W0 := W0) (SS_ok r sh) (TOk.sh sh ht) hF hro h0 (on := on) (ox := ox) (orr := orr) l hl h
 intro γ a W hs hb
 refine wpIn_mono (h1 γ a W hs (base_sh hb)) fun ex a' W' ⟨st', γ', hq, s', b'⟩ => ⟨st', γ', ?_, s', base_hs b'⟩
 cases ex with
 | normal => exact is_hs hq
 | exit id => exact is_hs hq
 | ret => exact is_hs hq
 | _ => exact hq

theorem is_sh {r : Mem} {sh m n : Nat} {γ0 : Gam} {W0 : World} {o : Outs} {st : St} (h : Is (SC r) m n γ0 W0 o st) : Is (SS r sh) m n γ0 W0 o st := by
 obtain ⟨vs, ms, os, hr, q⟩ := h
 refine ⟨vs, ms, os, fun γ a W hs hb => ?_, q⟩
 obtain ⟨γ1, s1, b1⟩ := hr γ a W hs (base_hs hb)
 exact ⟨γ1, s1, base_sh b1⟩
theorem reach_hs {r : Mem} {sh m n : Nat} {F : Fence} {k : Nat} {γ0 : Gam} {W0 : World} {c : Code} {st : St} {on : Outs} {ox : Nat → Outs} {orr : Outs} (h : Go.Ev.Reach (SS r sh) m n F k γ0 W0 c st (CanQ (SS r sh) m n γ0 W0 on ox orr)) : Go.Ev.Reach (SC r) m n F k γ0 W0 c st (CanQ (SC r) m n γ0 W0 on ox orr) := by
 intro γ a W hs hb
 refine wpIn_mono (h γ a W hs (base_sh hb)) fun ex a' W' ⟨st', γ', hq, s', b'⟩ => ⟨st', γ', ?_, s', base_hs b'⟩
 cases ex with
 | normal => exact is_hs hq
 | exit id => exact is_hs hq
 | ret => exact is_hs hq
 | _ => exact hq
theorem reach_sh {r : Mem} {sh m n : Nat} {F : Fence} {k : Nat} {γ0 : Gam} {W0 : World} {c : Code} {st : St} {on : Outs} {ox : Nat → Outs} {orr : Outs} (h : Go.Ev.Reach (SC r) m n F k γ0 W0 c st (CanQ (SC r) m n γ0 W0 on ox orr)) : Go.Ev.Reach (SS r sh) m n F k γ0 W0 c st (CanQ (SS r sh) m n γ0 W0 on ox orr) := by
 intro γ a W hs hb
 refine wpIn_mono (h γ a W hs (base_hs hb)) fun ex a' W' ⟨st', γ', hq, s', b'⟩ => ⟨st', γ', ?_, s', base_sh b'⟩
 cases ex with
 | normal => exact is_sh hq
 | exit id => exact is_sh hq
 | ret => exact is_sh hq
 | _ => exact hq

def gT (T : List (List Bool)) (i k : Nat) : Bool := (T.getD i []).getD k false
def lenN (T : List (List Bool)) : Nat → Bool
 | 0 => true
 | i + 1 => lenN T i && ((T.getD i []).length == T.length)
def badP (T : List (List Bool)) (i k : Nat) : Bool := if i = k then gT T i k else gT T i k == gT T k i
def rowB (T : List (List Bool)) (i : Nat) : Nat → Bool
 | 0 => true
 | k + 1 => rowB T i k && !badP T i k
def fairB (T : List (List Bool)) : Nat → Bool
 | 0 => true
 | i + 1 => fairB T i && rowB T i T.length
def ckT (T : List (List Bool)) : Bool := decide (1 ≤ T.length ∧ T.length ≤ 12) && (lenN T T.length && fairB T T.length)
theorem lenN_get {T : List (List Bool)} : ∀ {n : Nat}, lenN T n = true → ∀ i, i < n → (T.getD i []).length = T.length
 | n + 1, h, i, hi => by
  simp only [lenN, Bool.and_eq_true, beq_iff_eq] at h
  by_cases c : i = n
  ·rw [c]; exact h.2
  ·exact lenN_get h.1 i (by omega)
theorem lenN_no {T : List (List Bool)} : ∀ {n i : Nat}, i < n → (T.getD i []).length ≠ T.length → lenN T n = false
 | n + 1, i, hi, h => by
  simp only [lenN]
  by_cases c : i = n
  ·subst c
   rw [show ((T.getD i []).length == T.length) = false by simpa using h, Bool.and_false]
  ·rw [lenN_no (by omega) h, Bool.false_and]
theorem rowB_no {T : List (List Bool)} {i : Nat} : ∀ {n k : Nat}, k < n → badP T i k = true → rowB T i n = false
 | n + 1, k, hk, h => by
  simp only [rowB]
  by_cases c : k = n
  ·subst c
   rw [h]; simp
  ·rw [rowB_no (by omega) h, Bool.false_and]
theorem fairB_no {T : List (List Bool)} : ∀ {n i : Nat}, i < n → rowB T i T.length = false → fairB T n = false
 | n + 1, i, hi, h => by
  simp only [fairB]
  by_cases c : i = n
  ·subst c
   rw [h, Bool.and_false]
  ·rw [fairB_no (by omega) h, Bool.false_and]

section
variable {r : Mem} {b off : Nat} {T : List (List Bool)}
theorem tab_row (hM : TabM r b off T) {i : Nat} (hi : i < T.length) : ∃ v, r b (off + i) = some v ∧ RowV r v (T.getD i []) := by
 have : T[i]? = some (T.getD i []) := by rw [List.getD_eq_getElem?_getD, List.getElem?_eq_getElem hi]; rfl
 exact hM i _ this
theorem tab_RS (hM : TabM r b off T) {i : Nat} (hi : i < T.length) (hne : (T.getD i []).length ≠ 0) : ∃ b2 o2 c2, r b (off + i) = some (RS b2 o2 (T.getD i []).length c2) ∧ ∀ k, k < (T.getD i []).length → r b2 (o2 + k) = some (.bool (gT T i k)) := by
 obtain ⟨v, hv, h⟩ := tab_row hM hi
 rcases h with ⟨h, _⟩ | ⟨_, b2, o2, c2, rfl, h⟩
 ·rw [h] at hne; exact absurd rfl hne
 ·refine ⟨b2, o2, c2, hv, fun k hk => h k _ ?_⟩
  unfold gT
  generalize T.getD i [] = l at hk
  rw [List.getD_eq_getElem?_getD, List.getElem?_eq_getElem hk]; rfl
end

end Go.Proofs

/- The reference's check of an order: what the call answers. -/
namespace Go.Proofs
open Go Go.Ev Go.Num
set_option linter.unusedVariables false
set_option linter.unusedSimpArgs false
set_option maxRecDepth 100000

def lenI (T : List (List Bool)) : Nat → Bool
 | 0 => true
 | i + 1 => lenI T i && (((T.getD i []).length == T.length) && !gT T i i)
def badO (T : List (List Bool)) (i k m : Nat) : Bool := gT T i k && (gT T k m && !gT T i m)
def trK (T : List (List Bool)) (i k : Nat) : Nat → Bool
 | 0 => true
 | m + 1 => trK T i k m && !badO T i k m
def trJ (T : List (List Bool)) (i : Nat) : Nat → Bool
 | 0 => true
 | k + 1 => trJ T i k && trK T i k T.length
def trI (T : List (List Bool)) : Nat → Bool
 | 0 => true
 | i + 1 => trI T i && trJ T i T.length
def ckO (T : List (List Bool)) : Bool := decide (1 ≤ T.length ∧ T.length ≤ 12) && (lenI T T.length && trI T T.length)
theorem lenI_get {T : List (List Bool)} : ∀ {n : Nat}, lenI T n = true → ∀ i, i < n → (T.getD i []).length = T.length ∧ gT T i i = false
 | n + 1, h, i, hi => by
  simp only [lenI, Bool.and_eq_true, beq_iff_eq, Bool.not_eq_true'] at h
  by_cases c : i = n
  ·rw [c]; exact h.2
  ·exact lenI_get h.1 i (by omega)
theorem lenI_no {T : List (List Bool)} : ∀ {n i : Nat}, i < n → ((T.getD i []).length ≠ T.length ∨ gT T i i = true) → lenI T n = false
 | n + 1, i, hi, h => by
  simp only [lenI]
  by_cases c : i = n
  ·subst c
   rcases h with h | h
   ·rw [show ((T.getD i []).length == T.length) = false by simpa using h, Bool.false_and, Bool.and_false]
   ·rw [h]; simp
  ·rw [lenI_no (by omega) h, Bool.false_and]
theorem trK_no {T : List (List Bool)} {i k : Nat} : ∀ {n m : Nat}, m < n → badO T i k m = true → trK T i k n = false
 | n + 1, m, hm, h => by
  simp only [trK]
  by_cases c : m = n
  ·subst c
   rw [h]; simp
  ·rw [trK_no (by omega) h, Bool.false_and]
theorem trJ_no {T : List (List Bool)} {i : Nat} : ∀ {n k : Nat}, k < n → trK T i k T.length = false → trJ T i n = false
 | n + 1, k, hk, h => by
  simp only [trJ]
  by_cases c : k = n
  ·subst c
   rw [h, Bool.and_false]
  ·rw [trJ_no (by omega) h, Bool.false_and]
theorem trI_no {T : List (List Bool)} : ∀ {n i : Nat}, i < n → trJ T i T.length = false → trI T n = false
 | n + 1, i, hi, h => by
  simp only [trI]
  by_cases c : i = n
  ·subst c
   rw [h, Bool.and_false]
  ·rw [trI_no (by omega) h, Bool.false_and]
section
variable {r : Mem} {b off n cap : Nat} {T : List (List Bool)}
theorem og_ok (hM : TabM r b off T) (hn : T.length = n) (hn2 : n ≤ 1000) : GrT Tryz.prog r 6 [RS b off n cap] (I (if ckO T then 0 else 100)) := by
 subst hn
 generalize hv : (if ckO T then (0 : Int) else 100) = v
 let E : Outs := ⟨[2], [], fun vs ms os => vs = [some (I v)] ∧ ms = [] ∧ os = []⟩
 refine GrT.ofS (C := SC r) rfl rfl rfl (callO (SC_ok r) (by kernel_rfl) ((bodySC r _).trans OCk_eq) (nt := 78) (by kernel_rfl) (rs := [.tmp 2]) (by kernel_rfl) 253 rfl E ?_ fun γ W F kk hwr hF hro h0' => ?_)
 ·rintro vs ms os ⟨rfl, rfl, rfl⟩
  exact ⟨_, mkA [], by kernel_rfl, rfl⟩
 have h0' : ∀ i, 0 ≤ i → γ i = none := h0'
 have bad : ckO T = false → v = 100 := fun h => by rw [h] at hv; exact hv.symm
 have badL : ∀ {i : Nat}, i < T.length → ((T.getD i []).length ≠ T.length ∨ gT T i i = true) → v = 100 := fun hi h => bad (by unfold ckO; rw [lenI_no hi h, Bool.false_and, Bool.and_false])
 have w1 : ∀ k : Nat, k ≤ 1000 → IntKind.wrap IntKind.i64 ((k : Int) + ((1 : Nat) : Int)) = ((k + 1 : Nat) : Int) := fun k hk => inc1' (by omega)
 have e0 : ∀ o k : Nat, Nat.add o (Nat.mul k 1) = o + k := fun o k => by simp
 refine Go.Ev.Reach.after3R (SC_ok r) TOk.nil (tm := .nil) (L := 1) (L' := 1) (d := 1) hF hro h0' (.step (.step (.step .base)))
  (o1 := ⟨[0, 3, 4], [], fun vs ms os => (1 ≤ T.length ∧ T.length ≤ 12) ∧ vs = vO3 b off T.length cap 0 ∧ ms = [] ∧ os = []⟩)
  (o2 := ⟨[0, 3], [], fun vs ms os => ((1 ≤ T.length ∧ T.length ≤ 12) ∧ lenI T T.length = true) ∧ vs = [some (RS b off T.length cap), some (I (T.length : Nat))] ∧ ms = [] ∧ os = []⟩) [] (fun p hp => nomatch hp) ?_ ?_ ?_
 ·rintro vs ms os ⟨hn, rfl, rfl, rfl⟩
  refine Go.Ev.Reach.blockC (Go.Ev.Reach.loopC (j := T.length) (lv := [0, 3, 4]) (fl := []) (I := fun j vs ms os => ∃ k : Nat, k ≤ T.length ∧ j = T.length - k ∧ lenI T k = true ∧ vs = vO3 b off T.length cap k ∧ ms = [] ∧ os = []) (fun j vs ms os hI => ?_) ⟨0, by omega, rfl, rfl, rfl, rfl, rfl⟩)
  obtain ⟨k, hk, rfl, hl, rfl, rfl, rfl⟩ := hI
  by_cases c : k < T.length
  ·have c1 : (k : Int) < (T.length : Int) := by omega
   have c2 : Nat.blt k T.length = true := Nat.ble_eq_true_of_le (by omega)
   by_cases hz : (T.getD k []).length = 0
   ·obtain ⟨u, hu, hr⟩ := tab_row hM c
    have hun : u = nilT := by
     rcases hr with ⟨_, h⟩ | ⟨h, _⟩
     ·exact h
     ·exact absurd (List.length_eq_zero_iff.1 hz) h
    subst hun
    refine segSh 1 TOk.nil (tm := .nil) (L := 1) (L' := 1) (d := 1) hF hro h0' [(0, ⟨[0, 3], [], fun vs ms os => ((1 ≤ T.length ∧ T.length ≤ 12) ∧ lenI T T.length = true) ∧ vs = [some (RS b off T.length cap), some (I (T.length : Nat))] ∧ ms = [] ∧ os = []⟩)] (fun p hp => by simp only [List.mem_cons, List.not_mem_nil, or_false] at hp; subst hp; rfl) ?_
    have q0 : isNilS nilT = true := rfl
    have q1 : (((0 : Nat) : Int) != (T.length : Int)) = true := neT (by omega)
    have hn' := cgBN r b off T.length cap k
    simp only [Int.ofNat_eq_natCast, Int.toNat_natCast, dT c1, c2, cond_true, e0, hu, q0, q1] at hn'
    exact (hn' _ _ _ _).trans (qq_ok ⟨by rw [badL c (.inl (by omega))]; rfl, rfl, rfl⟩)
   ·obtain ⟨b2, o2, c2', hu, hr⟩ := tab_RS hM c hz
    refine segSh 2 TOk.nil (tm := .nil) (L := 1) (L' := 1) (d := 1) hF hro h0' [(0, ⟨[0, 3], [], fun vs ms os => ((1 ≤ T.length ∧ T.length ≤ 12) ∧ lenI T T.length = true) ∧ vs = [some (RS b off T.length cap), some (I (T.length : Nat))] ∧ ms = [] ∧ os = []⟩)] (fun p hp => by simp only [List.mem_cons, List.not_mem_nil, or_false] at hp; subst hp; rfl) ?_
    have hn' := cgBR r b off T.length cap k
    simp only [Int.ofNat_eq_natCast, Int.toNat_natCast, dT c1, c2, cond_true, e0, hu, ro_RS, ln_RS, bk_RS, of_RS] at hn'
    by_cases q : (T.getD k []).length = T.length
    ·have q1 : (((T.getD k []).length : Int) != (T.length : Int)) = false := neF (by omega)
     have q2 : Nat.blt k (T.getD k []).length = true := Nat.ble_eq_true_of_le (by omega)
     simp only [q1, q2, cond_true, cond_false, hr k (by omega), b_bl, o_bl, w1 k (by omega)] at hn'
     cases hg : gT T k k with
     | true =>
      simp only [hg, cond_true] at hn'
      exact (hn' _ _ _ _).trans (qq_ok ⟨by rw [badL c (.inr hg)]; rfl, rfl, rfl⟩)
     | false =>
      simp only [hg, cond_false] at hn'
      exact (hn' _ _ _ _).trans (qq_ok ⟨T.length - (k + 1), by omega, k + 1, c, rfl, by simp only [lenI, hl, q, hg, beq_self_eq_true, Bool.not_false, Bool.and_self], rfl, rfl, rfl⟩)
    ·have q1 : (((T.getD k []).length : Int) != (T.length : Int)) = true := neT (by omega)
     simp only [q1, cond_true] at hn'
     exact (hn' _ _ _ _).trans (qq_ok ⟨by rw [badL c (.inl q)]; rfl, rfl, rfl⟩)
  ·obtain rfl : k = T.length := by omega
   have c1 : ¬ (T.length : Int) < (T.length : Int) := by omega
   refine segSh 1 TOk.nil (tm := .nil) (L := 1) (L' := 1) (d := 1) hF hro h0' [(0, ⟨[0, 3], [], fun vs ms os => ((1 ≤ T.length ∧ T.length ≤ 12) ∧ lenI T T.length = true) ∧ vs = [some (RS b off T.length cap), some (I (T.length : Nat))] ∧ ms = [] ∧ os = []⟩)] (fun p hp => by simp only [List.mem_cons, List.not_mem_nil, or_false] at hp; subst hp; rfl) ?_
   have hn' := cgBN r b off T.length cap T.length
   simp only [Int.ofNat_eq_natCast, dF c1, cond_false] at hn'
   exact (hn' _ _ _ _).trans (qq_ok ⟨⟨hn, hl⟩, rfl, rfl, rfl⟩)
 ·rintro vs ms os ⟨⟨hn, hl⟩, rfl, rfl, rfl⟩
  have hlen := fun i hi => (lenI_get hl i hi).1
  have fin : trI T T.length = true → v = 0 := fun h => by
   rw [show ckO T = true by unfold ckO; rw [decide_eq_true hn, hl, h]; rfl, if_pos rfl] at hv; exact hv.symm
  have nof : trI T T.length = false → v = 100 := fun h => bad (by unfold ckO; rw [h, Bool.and_false, Bool.and_false])
  have hrow : ∀ i, i < T.length → ∃ bi oi ci, r b (off + i) = some (RS bi oi T.length ci) ∧ ∀ k, k < T.length → r bi (oi + k) = some (.bool (gT T i k)) := fun i hi => by
   have h := tab_RS hM hi (by rw [hlen i hi]; omega)
   rw [hlen i hi] at h
   exact h
  refine Go.Ev.Reach.after3R (SC_ok r) TOk.nil (tm := .nil) (L := 1) (L' := 1) (d := 1) hF hro h0' .base
   (o1 := ⟨[0, 3, 5], [], fun vs ms os => vs = vO3 b off T.length cap 0 ∧ ms = [] ∧ os = []⟩)
   (o2 := ⟨[], [], fun vs ms os => trI T T.length = true ∧ vs = [] ∧ ms = [] ∧ os = []⟩) [] (fun p hp => nomatch hp) ?_ ?_ ?_
  ·rintro vs ms os ⟨rfl, rfl, rfl⟩
   refine Go.Ev.Reach.blockC (Go.Ev.Reach.loopC (j := T.length) (lv := [0, 3, 5]) (fl := []) (I := fun j vs ms os => ∃ i : Nat, i ≤ T.length ∧ j = T.length - i ∧ trI T i = true ∧ vs = vO3 b off T.length cap i ∧ ms = [] ∧ os = []) (fun j vs ms os hI => ?_) ⟨0, by omega, rfl, rfl, rfl, rfl, rfl⟩)
   obtain ⟨i, hi, rfl, hf, rfl, rfl, rfl⟩ := hI
   refine Go.Ev.Reach.seqC (o1 := ⟨[0, 3, 5], [], fun vs ms os => i < T.length ∧ vs = vO3 b off T.length cap i ∧ ms = [] ∧ os = []⟩) ?_ fun vs ms os hq => ?_
   ·refine Go.Ev.Reach.segR (SC_ok r) TOk.nil (tm := .nil) (L := 1) (L' := 1) (d := 1) hF hro h0' [(2, ⟨[], [], fun vs ms os => trI T T.length = true ∧ vs = [] ∧ ms = [] ∧ os = []⟩)] (fun p hp => by simp only [List.mem_cons, List.not_mem_nil, or_false] at hp; subst hp; rfl) ?_
    have hn' := cgD r b off T.length cap i
    simp only [Int.ofNat_eq_natCast] at hn'
    by_cases c : i < T.length
    ·simp only [dT (show (i : Int) < (T.length : Int) by omega), cond_true] at hn'
     exact (hn' _ _ _ _).trans (qq_ok ⟨c, rfl, rfl, rfl⟩)
    ·obtain rfl : i = T.length := by omega
     simp only [dF (show ¬ (T.length : Int) < (T.length : Int) by omega), cond_false] at hn'
     exact (hn' _ _ _ _).trans (qq_ok ⟨hf, rfl, rfl, rfl⟩)
   ·obtain ⟨hi', rfl, rfl, rfl⟩ := hq
    refine Go.Ev.Reach.seqC (o1 := ⟨[0, 3, 5], [], fun vs ms os => trJ T i T.length = true ∧ vs = vO3 b off T.length cap i ∧ ms = [] ∧ os = []⟩) (Go.Ev.Reach.blockC ?_) fun vs ms os hq => ?_
    ·refine Go.Ev.Reach.seqC (o1 := ⟨[0, 3, 5, 6], [], fun vs ms os => vs = vO4 b off T.length cap i 0 ∧ ms = [] ∧ os = []⟩) (Go.Ev.Reach.segR (SC_ok r) TOk.nil (tm := .nil) (L := 1) (L' := 1) (d := 1) hF hro h0' [] (fun p hp => nomatch hp) ((cgE r b off T.length cap i _ _ _ _).trans (qq_ok ⟨rfl, rfl, rfl⟩))) fun vs ms os hq => ?_
     obtain ⟨rfl, rfl, rfl⟩ := hq
     refine Go.Ev.Reach.blockC (Go.Ev.Reach.loopC (j := T.length) (lv := [0, 3, 5, 6]) (fl := []) (I := fun j vs ms os => ∃ k : Nat, k ≤ T.length ∧ j = T.length - k ∧ trJ T i k = true ∧ vs = vO4 b off T.length cap i k ∧ ms = [] ∧ os = []) (fun j vs ms os hI => ?_) ⟨0, by omega, rfl, rfl, rfl, rfl, rfl⟩)
     obtain ⟨k, hk, rfl, hj, rfl, rfl, rfl⟩ := hI
     refine Go.Ev.Reach.seqC (o1 := ⟨[0, 3, 5, 6], [], fun vs ms os => k < T.length ∧ vs = vO4 b off T.length cap i k ∧ ms = [] ∧ os = []⟩) ?_ fun vs ms os hq => ?_
     ·refine Go.Ev.Reach.segR (SC_ok r) TOk.nil (tm := .nil) (L := 1) (L' := 1) (d := 1) hF hro h0' [(4, ⟨[0, 3, 5], [], fun vs ms os => trJ T i T.length = true ∧ vs = vO3 b off T.length cap i ∧ ms = [] ∧ os = []⟩)] (fun p hp => by simp only [List.mem_cons, List.not_mem_nil, or_false] at hp; subst hp; rfl) ?_
      have hn' := cgF r b off T.length cap i k
      simp only [Int.ofNat_eq_natCast] at hn'
      by_cases c : k < T.length
      ·simp only [dT (show (k : Int) < (T.length : Int) by omega), cond_true] at hn'
       exact (hn' _ _ _ _).trans (qq_ok ⟨c, rfl, rfl, rfl⟩)
      ·obtain rfl : k = T.length := by omega
       simp only [dF (show ¬ (T.length : Int) < (T.length : Int) by omega), cond_false] at hn'
       exact (hn' _ _ _ _).trans (qq_ok ⟨hj, rfl, rfl, rfl⟩)
     ·obtain ⟨hk', rfl, rfl, rfl⟩ := hq
      refine Go.Ev.Reach.seqC (o1 := ⟨[0, 3, 5, 6], [], fun vs ms os => trK T i k T.length = true ∧ vs = vO4 b off T.length cap i k ∧ ms = [] ∧ os = []⟩) (Go.Ev.Reach.blockC ?_) fun vs ms os hq => ?_
      ·refine Go.Ev.Reach.seqC (o1 := ⟨[0, 3, 5, 6, 7], [], fun vs ms os => vs = vO5 b off T.length cap i k 0 ∧ ms = [] ∧ os = []⟩) (Go.Ev.Reach.segR (SC_ok r) TOk.nil (tm := .nil) (L := 1) (L' := 1) (d := 1) hF hro h0' [] (fun p hp => nomatch hp) ((cgG r b off T.length cap i k _ _ _ _).trans (qq_ok ⟨rfl, rfl, rfl⟩))) fun vs ms os hq => ?_
       obtain ⟨rfl, rfl, rfl⟩ := hq
       refine Go.Ev.Reach.blockC (Go.Ev.Reach.loopC (j := T.length) (lv := [0, 3, 5, 6, 7]) (fl := []) (I := fun j vs ms os => ∃ m : Nat, m ≤ T.length ∧ j = T.length - m ∧ trK T i k m = true ∧ vs = vO5 b off T.length cap i k m ∧ ms = [] ∧ os = []) (fun j vs ms os hI => ?_) ⟨0, by omega, rfl, rfl, rfl, rfl, rfl⟩)
       obtain ⟨m, hm, rfl, ht, rfl, rfl, rfl⟩ := hI
       refine segSh 2 TOk.nil (tm := .nil) (L := 1) (L' := 1) (d := 1) hF hro h0' [(6, ⟨[0, 3, 5, 6], [], fun vs ms os => trK T i k T.length = true ∧ vs = vO4 b off T.length cap i k ∧ ms = [] ∧ os = []⟩)] (fun p hp => by simp only [List.mem_cons, List.not_mem_nil, or_false] at hp; subst hp; rfl) ?_
       have hn' := cgH r b off T.length cap i k m
       simp only [Int.ofNat_eq_natCast, Int.toNat_natCast] at hn'
       by_cases c : m < T.length
       ·have b1 : Nat.blt i T.length = true := Nat.ble_eq_true_of_le (by omega)
        have b2 : Nat.blt k T.length = true := Nat.ble_eq_true_of_le (by omega)
        have b3 : Nat.blt m T.length = true := Nat.ble_eq_true_of_le (by omega)
        obtain ⟨bi, oi, ci, hui, hri⟩ := hrow i hi'
        obtain ⟨bk, ok, ck, huk, hrk⟩ := hrow k hk'
        simp only [dT (show (m : Int) < (T.length : Int) by omega), cond_true, b1, b2, b3, e0, hui, huk, ro_RS, ln_RS, bk_RS, of_RS, hri k hk', hrk m c, hri m c, b_bl, o_bl, w1 m (by omega)] at hn'
        have go : badO T i k m = false → trK T i k (m + 1) = true := fun h => by simp only [trK, ht, h]; rfl
        have stop : badO T i k m = true → v = 100 := fun h => nof (trI_no hi' (trJ_no hk' (trK_no c h)))
        have hb : badO T i k m = (gT T i k && (gT T k m && !gT T i m)) := rfl
        cases q1 : gT T i k <;> cases q2 : gT T k m <;> cases q3 : gT T i m <;> simp only [q1, q2, q3, cond_true, cond_false] at hn' <;> rw [q1, q2, q3] at hb <;> first
         | exact (hn' _ _ _ _).trans (qq_ok ⟨T.length - (m + 1), by omega, m + 1, c, rfl, go hb, rfl, rfl, rfl⟩)
         | exact (hn' _ _ _ _).trans (qq_ok ⟨by rw [stop hb]; rfl, rfl, rfl⟩)
       ·obtain rfl : m = T.length := by omega
        simp only [dF (show ¬ (T.length : Int) < (T.length : Int) by omega), cond_false] at hn'
        exact (hn' _ _ _ _).trans (qq_ok ⟨ht, rfl, rfl, rfl⟩)
      ·obtain ⟨htk, rfl, rfl, rfl⟩ := hq
       refine Go.Ev.Reach.segR (SC_ok r) TOk.nil (tm := .nil) (L := 1) (L' := 1) (d := 1) hF hro h0' [] (fun p hp => nomatch hp) ?_
       have hn' := cgI r b off T.length cap i k
       simp only [Int.ofNat_eq_natCast, w1 k (by omega)] at hn'
       exact (hn' _ _ _ _).trans (qq_ok ⟨T.length - (k + 1), by omega, k + 1, hk', rfl, by simp only [trJ, hj, htk, Bool.and_self], rfl, rfl, rfl⟩)
    ·obtain ⟨htj, rfl, rfl, rfl⟩ := hq
     refine Go.Ev.Reach.segR (SC_ok r) TOk.nil (tm := .nil) (L := 1) (L' := 1) (d := 1) hF hro h0' [] (fun p hp => nomatch hp) ?_
     have hn' := cgJ r b off T.length cap i
     simp only [Int.ofNat_eq_natCast, w1 i (by omega)] at hn'
     exact (hn' _ _ _ _).trans (qq_ok ⟨T.length - (i + 1), by omega, i + 1, hi', rfl, by simp only [trI, hf, htj, Bool.and_self], rfl, rfl, rfl⟩)
  ·rintro vs ms os ⟨hfb, rfl, rfl, rfl⟩
   refine Go.Ev.Reach.segR (SC_ok r) TOk.nil (tm := .nil) (L := 1) (L' := 1) (d := 1) hF hro h0' [] (fun p hp => nomatch hp) ?_
   exact (cgK r _ _ _ _).trans (qq_ok ⟨by rw [fin hfb]; rfl, rfl, rfl⟩)
  ·exact (cgC r b off T.length cap _ _ _ _).trans (qq_ok ⟨rfl, rfl, rfl⟩)
 ·have hn' := cgA r b off T.length cap
  simp only [Int.ofNat_eq_natCast] at hn'
  by_cases c : (T.length : Int) < 1
  ·simp only [dT c, cond_true] at hn'
   exact (hn' _ _ _ _).trans (qq_ok ⟨by rw [bad (by unfold ckO; rw [decide_eq_false (by omega), Bool.false_and])]; rfl, rfl, rfl⟩)
  ·simp only [dF c, cond_false] at hn'
   by_cases c2 : (T.length : Int) > 12
   ·simp only [dT c2, cond_true] at hn'
    exact (hn' _ _ _ _).trans (qq_ok ⟨by rw [bad (by unfold ckO; rw [decide_eq_false (by omega), Bool.false_and])]; rfl, rfl, rfl⟩)
   ·simp only [dF c2, cond_false] at hn'
    exact (hn' _ _ _ _).trans (qq_ok ⟨⟨by omega, by omega⟩, rfl, rfl, rfl⟩)
end

end Go.Proofs

/- Words as sets; no functions. -/
namespace Go.Proofs
open Go Go.Ev
theorem wrU (v : Int) : IntKind.wrap .u64 v = v % 18446744073709551616 := by simp [IntKind.wrap, IntKind.bits, IntKind.signed]
abbrev U (z : Int) : Value := .int .u64 z
end Go.Proofs
namespace Go.Num
def btN (w j : Nat) : Bool := w / 2 ^ j % 2 == 1
open Go.Proofs

def anN (a b : Nat) : Nat := (a &&& b) ^^^ a
theorem an_zero {a b : Nat} : anN a b = 0 ↔ a &&& b = a := by
 unfold anN
 constructor
 ·intro h
  apply Nat.eq_of_testBit_eq
  intro i
  have := congrArg (fun x => Nat.testBit x i) h
  simp only [Nat.testBit_and, Nat.testBit_xor, Nat.zero_testBit] at this ⊢
  revert this
  cases a.testBit i <;> cases b.testBit i <;> simp
 ·intro h; rw [h]; exact Nat.xor_self a
theorem sub_or {a b y : Nat} : (a ||| b) &&& y = a ||| b ↔ a &&& y = a ∧ b &&& y = b := by
 constructor
 ·intro h
  constructor <;>
  ·apply Nat.eq_of_testBit_eq
   intro i
   have := congrArg (fun x => Nat.testBit x i) h
   simp only [Nat.testBit_and, Nat.testBit_or] at this ⊢
   revert this
   cases a.testBit i <;> cases b.testBit i <;> cases y.testBit i <;> simp
 ·rintro ⟨h1, h2⟩
  apply Nat.eq_of_testBit_eq; intro i
  have h3 := congrArg (fun x => Nat.testBit x i) h1
  have h4 := congrArg (fun x => Nat.testBit x i) h2
  simp only [Nat.testBit_and, Nat.testBit_or] at h3 h4 ⊢
  revert h3 h4
  cases a.testBit i <;> cases b.testBit i <;> cases y.testBit i <;> simp
theorem an_or {a b y : Nat} : anN (a ||| b) y = 0 ↔ anN a y = 0 ∧ anN b y = 0 := by rw [an_zero, an_zero, an_zero, sub_or]
theorem an_all {a m : Nat} : anN a (2 ^ m - 1) = 0 ↔ a < 2 ^ m := by
 rw [an_zero, Nat.and_two_pow_sub_one_eq_mod]
 constructor
 ·intro h
  have := Nat.mod_lt a (Nat.two_pow_pos m)
  omega
 ·exact Nat.mod_eq_of_lt
theorem an_lt {a b k : Nat} (h : a < 2 ^ k) : anN a b < 2 ^ k := Nat.xor_lt_two_pow (Nat.lt_of_le_of_lt Nat.and_le_left h) h
theorem all_lt (m : Nat) : 2 ^ m - 1 < 2 ^ m := by have := Nat.two_pow_pos m; omega
theorem an_in {a x m : Nat} (h : anN a (anN (2 ^ m - 1) x) = 0) : a < 2 ^ m := by
 rw [an_zero] at h
 have h1 : a ≤ anN (2 ^ m - 1) x := by rw [← h]; exact Nat.and_le_right
 have := an_lt (b := x) (all_lt m)
 omega

theorem btN_high {s m k : Nat} (h : s < 2 ^ m) (hk : m ≤ k) : btN s k = false := by
 have : s < 2 ^ k := Nat.lt_of_lt_of_le h (Nat.pow_le_pow_right (by decide) hk)
 unfold btN
 rw [Nat.div_eq_of_lt this]
 rfl
theorem bt_bit (s k : Nat) : btN s k = s.testBit k := by
 unfold btN
 rw [Nat.testBit_eq_decide_div_mod_eq, Bool.eq_iff_iff]
 simp
theorem an_bit (a b i : Nat) : (anN a b).testBit i = (a.testBit i && !b.testBit i) := by
 unfold anN
 rw [Nat.testBit_xor, Nat.testBit_and]
 cases a.testBit i <;> cases b.testBit i <;> rfl
theorem and_ne {a b : Nat} : a &&& b ≠ 0 ↔ ∃ v, a.testBit v = true ∧ b.testBit v = true := by
 constructor
 ·intro h
  obtain ⟨v, hv⟩ := Nat.exists_testBit_of_ne_zero h
  rw [Nat.testBit_and, Bool.and_eq_true] at hv
  exact ⟨v, hv⟩
 ·rintro ⟨v, h1, h2⟩ h
  have := congrArg (fun x => Nat.testBit x v) h
  simp only [Nat.testBit_and, h1, h2, Nat.zero_testBit] at this
  exact nomatch this
theorem and_zero {a b : Nat} : a &&& b = 0 ↔ ∀ v, a.testBit v = true → b.testBit v = false := by
 constructor
 ·intro h v h1
  cases h2 : b.testBit v with
  | false => rfl
  | true => exact absurd h (and_ne.2 ⟨v, h1, h2⟩)
 ·intro h
  by_cases c : a &&& b = 0
  ·exact c
  ·obtain ⟨v, h1, h2⟩ := and_ne.1 c
   rw [h v h1] at h2
   exact nomatch h2
theorem in_bit {a b : Nat} : a &&& b = a ↔ ∀ v, a.testBit v = true → b.testBit v = true := by
 constructor
 ·intro h v h1
  rw [← h, Nat.testBit_and, Bool.and_eq_true] at h1
  exact h1.2
 ·intro h
  apply Nat.eq_of_testBit_eq
  intro i
  rw [Nat.testBit_and]
  cases ha : a.testBit i with
  | false => rfl
  | true => rw [h i ha]; rfl

structure Nbs (w : Nat → Nat) (m : Nat) : Prop where
 low : ∀ i v, (w i).testBit v = true → i < m ∧ v < m
 sym : ∀ i v, (w i).testBit v = true → (w v).testBit i = true

theorem high {x m i : Nat} (h : x < 2 ^ m) (hi : m ≤ i) : x.testBit i = false := Nat.testBit_lt_two_pow (Nat.lt_of_lt_of_le h (Nat.pow_le_pow_right (by decide) hi))

theorem an_an {A x : Nat} (h : x &&& A = x) : anN A (anN A x) = x := by
 apply Nat.eq_of_testBit_eq
 intro i
 rw [an_bit, an_bit]
 have := in_bit.1 h i
 revert this
 cases x.testBit i <;> cases A.testBit i <;> simp
theorem an_sub (A x : Nat) : anN A x &&& A = anN A x := by
 rw [in_bit]
 intro v h
 rw [an_bit, Bool.and_eq_true] at h
 exact h.1
theorem sub_le {a b : Nat} (h : a &&& b = a) : a ≤ b := by rw [← h]; exact Nat.and_le_right
theorem lt_sub {x m : Nat} (h : x < 2 ^ m) : x &&& (2 ^ m - 1) = x := by rw [Nat.and_two_pow_sub_one_eq_mod, Nat.mod_eq_of_lt h]

theorem and_half (a b : Nat) : (a &&& b) / 2 = (a / 2) &&& (b / 2) := Nat.and_div_two
theorem and_odd (a b : Nat) : (a &&& b) % 2 = 1 ↔ a % 2 = 1 ∧ b % 2 = 1 := Nat.and_mod_two_eq_one

theorem in_half {t s : Nat} (h : t &&& s = t) : (t / 2) &&& (s / 2) = t / 2 := by rw [← and_half, h]
theorem in_odd {t s : Nat} (h : t &&& s = t) (ht : t % 2 = 1) : s % 2 = 1 := by
 rw [← h, and_odd] at ht
 exact ht.2


def tzN : Nat → Nat → Nat
 | 0, _ => 0
 | f + 1, s => if s % 2 = 1 then 0 else tzN f (s / 2) + 1

theorem neg_and : ∀ b x, x < 2 ^ b → (2 ^ b - 1 - x) &&& x = 0
 | 0, x, h => by
  obtain rfl : x = 0 := by simpa using h
  exact Nat.and_zero _
 | b + 1, x, h => by
  have hp : 2 ^ (b + 1) = 2 * 2 ^ b := by rw [Nat.pow_succ]; omega
  have ih := neg_and b (x / 2) (by omega)
  generalize hX : 2 ^ (b + 1) - 1 - x = X
  have h1 := and_half X x
  have h2 := and_odd X x
  rw [show X / 2 = 2 ^ b - 1 - x / 2 by omega, ih] at h1
  generalize X &&& x = n at h1 h2
  have : ¬ n % 2 = 1 := fun c => by have := h2.1 c; omega
  omega
theorem low_pow : ∀ b x, x < 2 ^ b → x ≠ 0 → x &&& (2 ^ b - x) = 2 ^ tzN b x
 | 0, x, h, h0 => by exfalso; simp at h; omega
 | b + 1, x, h, h0 => by
  have hp : 2 ^ (b + 1) = 2 * 2 ^ b := by rw [Nat.pow_succ]; omega
  generalize hX : 2 ^ (b + 1) - x = X
  have h1 := and_half x X
  have h2 := and_odd x X
  rw [tzN]
  by_cases c : x % 2 = 1
  ·rw [if_pos c]
   have := neg_and b (x / 2) (by omega)
   rw [show X / 2 = 2 ^ b - 1 - x / 2 by omega, Nat.and_comm (x / 2), this] at h1
   have := h2.2 ⟨c, by omega⟩
   omega
  ·rw [if_neg c, Nat.pow_succ]
   have := low_pow b (x / 2) (by omega) (by omega)
   rw [show X / 2 = 2 ^ b - x / 2 by omega, this] at h1
   have : ¬ (x &&& X) % 2 = 1 := fun c => by have := h2.1 c; omega
   omega
theorem tz_bit : ∀ b x, x < 2 ^ b → x ≠ 0 → tzN b x < b ∧ x.testBit (tzN b x) = true ∧ ∀ i, i < tzN b x → x.testBit i = false
 | 0, x, h, h0 => by exfalso; simp at h; omega
 | b + 1, x, h, h0 => by
  have hp : 2 ^ (b + 1) = 2 * 2 ^ b := by rw [Nat.pow_succ]; omega
  rw [tzN]
  by_cases c : x % 2 = 1
  ·rw [if_pos c]
   exact ⟨by omega, by rw [Nat.testBit_zero]; simpa using c, fun i hi => absurd hi (by omega)⟩
  ·rw [if_neg c]
   obtain ⟨h1, h2, h3⟩ := tz_bit b (x / 2) (by omega) (by omega)
   refine ⟨by omega, by rw [Nat.testBit_succ]; exact h2, fun i hi => ?_⟩
   cases i with
   | zero => rw [Nat.testBit_zero]; simpa using c
   | succ i => rw [Nat.testBit_succ]; exact h3 i (by omega)
theorem clr_bit : ∀ b x, x < 2 ^ b → x ≠ 0 → ∀ i, (x &&& (x - 1)).testBit i = (x.testBit i && !decide (i = tzN b x))
 | 0, x, h, h0, i => by exfalso; simp at h; omega
 | b + 1, x, h, h0, i => by
  have hp : 2 ^ (b + 1) = 2 * 2 ^ b := by rw [Nat.pow_succ]; omega
  rw [tzN, Nat.testBit_and]
  by_cases c : x % 2 = 1
  ·rw [if_pos c]
   cases i with
   | zero =>
    rw [Nat.testBit_zero (x - 1), show ((x - 1) % 2) = 0 by omega]
    simp
   | succ i =>
    rw [Nat.testBit_succ, Nat.testBit_succ, show (x - 1) / 2 = x / 2 by omega]
    simp
  ·rw [if_neg c]
   have ih := clr_bit b (x / 2) (by omega) (by omega)
   cases i with
   | zero =>
    rw [Nat.testBit_zero x, show x % 2 = 0 by omega]
    simp
   | succ i =>
    rw [Nat.testBit_succ, Nat.testBit_succ, show (x - 1) / 2 = x / 2 - 1 by omega]
    have := ih i
    rw [Nat.testBit_and] at this
    rw [this]
    congr 2
    simp

def hiN (s v : Nat) : Nat := s / 2 ^ v * 2 ^ v
theorem hi_bit (s v i : Nat) : (hiN s v).testBit i = (decide (v ≤ i) && s.testBit i) := by
 unfold hiN
 rw [Nat.mul_comm, Nat.testBit_two_pow_mul]
 by_cases c : v ≤ i
 ·rw [decide_eq_true c, Nat.testBit_div_two_pow, Nat.sub_add_cancel c]
 ·simp [c]
theorem hi_le (s v : Nat) : hiN s v ≤ s := Nat.div_mul_le_self s (2 ^ v)
theorem hi_zero (s : Nat) : hiN s 0 = s := by unfold hiN; simp
theorem hi_next {b s v : Nat} (h : s < 2 ^ b) (h0 : hiN s v ≠ 0) : v ≤ tzN b (hiN s v) ∧ tzN b (hiN s v) < b ∧ s.testBit (tzN b (hiN s v)) = true ∧ (∀ i, v ≤ i → i < tzN b (hiN s v) → s.testBit i = false) ∧ hiN s v &&& (hiN s v - 1) = hiN s (tzN b (hiN s v) + 1) := by
 have hh : hiN s v < 2 ^ b := Nat.lt_of_le_of_lt (hi_le s v) h
 obtain ⟨h1, h2, h3⟩ := tz_bit b _ hh h0
 have h4 := clr_bit b _ hh h0
 generalize tzN b (hiN s v) = t at h1 h2 h3 h4
 rw [hi_bit, Bool.and_eq_true, decide_eq_true_eq] at h2
 refine ⟨h2.1, h1, h2.2, fun i hv hi => ?_, ?_⟩
 ·have := h3 i hi
  rw [hi_bit, decide_eq_true hv] at this
  simpa using this
 ·apply Nat.eq_of_testBit_eq
  intro i
  rw [h4, hi_bit, hi_bit]
  by_cases c : t + 1 ≤ i
  ·rw [decide_eq_true c, decide_eq_true (show v ≤ i by omega), decide_eq_false (show ¬ i = t by omega)]
   simp
  ·rw [decide_eq_false c, Bool.false_and]
   by_cases e : i = t
   ·simp [e]
   ·have := h3 i (by omega)
    rw [hi_bit] at this
    rw [this]; rfl
theorem hi_none {s v : Nat} (h : hiN s v = 0) {i : Nat} (hi : v ≤ i) : s.testBit i = false := by
 have := hi_bit s v i
 rw [h, Nat.zero_testBit, decide_eq_true hi] at this
 simpa using this.symm

end Go.Num
namespace Go.Proofs
open Go Go.Ev Go.Num
set_option linter.unusedVariables false
set_option linter.unusedSimpArgs false
set_option maxRecDepth 100000

theorem wrapU' {a : Nat} (h : a < 18446744073709551616) : IntKind.wrap .u64 (a : Int) = (a : Int) := by rw [wrU]; omega
theorem bvU (a : Nat) (h : a < 18446744073709551616) : (BitVec.ofInt 64 (a : Int)).toNat = a := by
 rw [BitVec.ofInt_natCast, BitVec.toNat_ofNat]
 exact Nat.mod_eq_of_lt h
theorem ibO {k : IntKind} (hk : k = .u64 ∨ k = .i64) {a b : Nat} (ha : a < 18446744073709551616) (hb : b < 18446744073709551616) : ibits .or k (a : Int) (b : Int) = k.wrap ((a ||| b : Nat) : Int) ∧ ibits .and k (a : Int) (b : Int) = k.wrap ((a &&& b : Nat) : Int) ∧ ibits .andNot k (a : Int) (b : Int) = k.wrap ((anN a b : Nat) : Int) := by
 have hx : ∀ x y : BitVec 64, x &&& ~~~y = (x &&& y) ^^^ x := fun x y => by
  ext i hi
  simp
  cases x[i] <;> cases y[i] <;> rfl
 have e1 : (BitVec.ofInt 64 (a : Int) ||| BitVec.ofInt 64 (b : Int)).toNat = a ||| b := by rw [BitVec.toNat_or, bvU a ha, bvU b hb]
 have e2 : (BitVec.ofInt 64 (a : Int) &&& BitVec.ofInt 64 (b : Int)).toNat = a &&& b := by rw [BitVec.toNat_and, bvU a ha, bvU b hb]
 have e3 : (BitVec.ofInt 64 (a : Int) &&& ~~~(BitVec.ofInt 64 (b : Int))).toNat = anN a b := by rw [hx, BitVec.toNat_xor, BitVec.toNat_and, bvU a ha, bvU b hb]; rfl
 rcases hk with rfl | rfl
 ·refine ⟨?_, ?_, ?_⟩
  ·show IntKind.wrap .u64 ((BitVec.ofInt 64 (a : Int) ||| BitVec.ofInt 64 (b : Int)).toNat : Int) = _
   rw [e1]
  ·show IntKind.wrap .u64 ((BitVec.ofInt 64 (a : Int) &&& BitVec.ofInt 64 (b : Int)).toNat : Int) = _
   rw [e2]
  ·show IntKind.wrap .u64 ((BitVec.ofInt 64 (a : Int) &&& ~~~(BitVec.ofInt 64 (b : Int))).toNat : Int) = _
   rw [e3]
 ·refine ⟨?_, ?_, ?_⟩
  ·show IntKind.wrap .i64 ((BitVec.ofInt 64 (a : Int) ||| BitVec.ofInt 64 (b : Int)).toNat : Int) = _
   rw [e1]
  ·show IntKind.wrap .i64 ((BitVec.ofInt 64 (a : Int) &&& BitVec.ofInt 64 (b : Int)).toNat : Int) = _
   rw [e2]
  ·show IntKind.wrap .i64 ((BitVec.ofInt 64 (a : Int) &&& ~~~(BitVec.ofInt 64 (b : Int))).toNat : Int) = _
   rw [e3]
theorem uO {a b : Nat} (ha : a < 18446744073709551616) (hb : b < 18446744073709551616) : ibits .or .u64 (a : Int) (b : Int) = ((a ||| b : Nat) : Int) ∧ ibits .and .u64 (a : Int) (b : Int) = ((a &&& b : Nat) : Int) ∧ ibits .andNot .u64 (a : Int) (b : Int) = ((anN a b : Nat) : Int) := by
 have h64 : (18446744073709551616 : Nat) = 2 ^ 64 := by decide
 obtain ⟨h1, h2, h3⟩ := ibO (.inl rfl) ha hb
 refine ⟨h1.trans (wrapU' ?_), h2.trans (wrapU' ?_), h3.trans (wrapU' ?_)⟩
 ·rw [h64] at *; exact Nat.or_lt_two_pow ha hb
 ·rw [h64] at *; exact Nat.and_lt_two_pow _ hb
 ·rw [h64] at *; exact an_lt ha
theorem shl1 {b : Nat} (h : b < 16) : IntKind.wrap IntKind.u64 (Int.ofNat 1 * Int.ofNat 2 ^ min b 64) = ((2 ^ b : Nat) : Int) := by
 have h1 : 2 ^ b < 65536 := Nat.pow_lt_pow_right (n := 16) (by decide) h
 rw [Nat.min_eq_left (by omega), wrU, show (Int.ofNat 1 * Int.ofNat 2 ^ b : Int) = ((2 ^ b : Nat) : Int) by simp]
 generalize 2 ^ b = x at *
 omega

end Go.Proofs

