/- A region that draws its order: the theorem. -/
import Derived.Test.YtdalaifnhppidaaDoorEvDraw2
namespace Go.Ev
open Go
variable {β : Nat}

structure DInv (β : Nat) (C : Cfg) (m n : Nat) (all : List Oper) (en0 : En) (marks : List Nat) (dF : DS) (γ0 : Gam) (W0 : World) (B : Nat → GI) (L : Nat → Bool) (a : Act) (W : World) (γ : Gam) (k : Nat) (A : AW) : Prop where
 wk : dF.ws[k]? = some A
 lo : ∀ j i, dF.cs[j]? = some i → j < k → L i = true
 pend : ∀ j i, dF.cs[j]? = some i → k ≤ j → L i = true → ∃ o ao v0, all[i]? = some o ∧ alLike C m dF.en all i o = some (ao, v0) ∧ Pend W (B i) ao ∧ (∀ x g, γ x = some g → g.blk ≠ (B i).blk) ∧ W0.heap.size ≤ (B i).blk ∧
  ∀ d, o.dst = some d → a.tmps[d]? = some (nmG (B i) v0)
 apart : ∀ j i j' i', dF.cs[j]? = some i → k ≤ j → L i = true → dF.cs[j']? = some i' → k ≤ j' → L i' = true → i ≠ i' → (B i).blk ≠ (B i').blk
 w : WRel γ A W
 ext : Ext γ0 W0 γ W
 size : a.tmps.size = n
 df : DRel β γ W marks a.defers
 t1 : ∀ t v, (∀ (j : Nat) (o : Oper), all[j]? = some o → o.dst = some t → L j = true ∧ ∀ q, dF.cs[q]? = some j → q < k) → dF.en.get m t = some v → ∃ v', a.tmps[t]? = some v' ∧ VRel γ v v'
 t2 : ∀ t v, (∀ (j : Nat) (o : Oper), all[j]? = some o → o.dst = some t → L j = false) → en0.get m t = some v → ∃ v', a.tmps[t]? = some v' ∧ VRel γ v v'
 closed : ∀ (i : Nat) (o : Oper), L i = true → all[i]? = some o → ∀ e ∈ o.after.toList, Region.binds .any e = true → L e.on = true

theorem DInv.bef {C : Cfg} {m n : Nat} {all : List Oper} {en0 : En} {marks : List Nat} {dF : DS} {γ0 : Gam} {W0 : World} {B : Nat → GI} {L : Nat → Bool} {a : Act} {W : World} {γ : Gam} {k : Nat} {A : AW}
  (h : DInv β C m n all en0 marks dF γ0 W0 B L a W γ k A) {j i : Nat} (hb : Bef all j i) (hi : L i = true) : L j = true := by
 induction hb with
 | edge ho he hb => exact h.closed _ _ hi ho _ he hb
 | trans ho he hb _ ih => exact ih (h.closed _ _ hi ho _ he hb)

theorem DInv.bef' {C : Cfg} {m n : Nat} {all : List Oper} {en0 : En} {marks : List Nat} {dF : DS} {γ0 : Gam} {W0 : World} {B : Nat → GI} {L : Nat → Bool} {a : Act} {W : World} {γ : Gam} {k : Nat} {A : AW}
  (h : DInv β C m n all en0 marks dF γ0 W0 B L a W γ k A) {j i : Nat} {o : Oper} (ho : all[i]? = some o) (hr : ∀ e ∈ o.after.toList, Region.binds .any e = true → L e.on = true) (hb : Bef all j i) : L j = true := by
 cases hb with
 | edge ho' he hb => rw [ho] at ho'; cases ho'; exact hr _ he hb
 | trans ho' he hb hb2 => rw [ho] at ho'; cases ho'; exact h.bef hb2 (hr _ he hb)

theorem possB_ok {al : Nat → Bool} {all : List Oper} {ms : List Nat} (hms : ∀ j i, bitOf ms j i = true → Bef all j i) {i k : Nat} : ∀ {cs : List Nat} {j0 : Nat} {pre : Bool},
  (∀ j c, cs[j]? = some c → (j0 + j < k → ¬ Bef all i c) ∧ (¬ j0 + j < k → Bef all c i → al c = true ∧ (pre = true → ¬ ∀ j' c', j' < j → cs[j']? = some c' → Bef all c' i))) → possB al ms i k cs j0 pre = true := by
 intro cs
 induction cs with
 | nil => intro j0 pre _; rfl
 | cons c cs ih =>
  intro j0 pre h
  have hrest : possB al ms i k cs (j0 + 1) (pre && bitOf ms c i) = true := ih fun j c' hj => by
   have := h (j + 1) c' (by simpa using hj)
   rw [show j0 + (j + 1) = j0 + 1 + j by omega] at this
   refine ⟨this.1, fun hge hb => ⟨(this.2 hge hb).1, fun hp hall => ?_⟩⟩
   simp only [Bool.and_eq_true] at hp
   refine (this.2 hge hb).2 hp.1 fun j' c'' hlt hc'' => ?_
   cases j' with
   | zero => simp at hc''; subst hc''; exact hms _ _ hp.2
   | succ j' => exact hall j' c'' (by omega) (by simpa using hc'')
  have h0 := h 0 c rfl
  simp only [Nat.add_zero] at h0
  simp only [possB]
  split
  ·rename_i hlt
   split
   ·rename_i hb; exact absurd (hms _ _ hb) (h0.1 (blt_lt hlt))
   ·exact hrest
  ·rename_i hlt
   have hge : ¬ j0 < k := fun hh => by
    have : Nat.blt j0 k = true := Nat.ble_eq_true_of_le hh
    rw [this] at hlt
    cases hlt
   split
   ·rename_i hb hal
    obtain ⟨h1, h2⟩ := h0.2 hge (hms _ _ hb)
    rw [h1] at hal
    cases hp : pre with
    | false => rw [hp] at hal; cases hal
    | true => exact absurd (fun j' c' hlt => by omega) (h2 hp)
   ·exact hrest

theorem settle {C : Cfg} {fs : Fns} {m n : Nat} {all : List Oper} {en0 : En} {marks : List Nat} {dF : DS} {γ0 : Gam} {W0 : World} {B : Nat → GI} {L : Nat → Bool} {a : Act} {W : World} (hnd : dF.cs.Nodup)
  (hfact : ∀ i o, all[i]? = some o → FactAt C fs m n all en0 dF i o) (huniq : ∀ (i j : Nat) (o o' : Oper) (t : Nat), all[i]? = some o → all[j]? = some o' → o.dst = some t → o'.dst = some t → i = j) :
  ∀ (r k : Nat) (γ : Gam) (A : AW), dF.cs.length - k = r → DInv β C m n all en0 marks dF γ0 W0 B L a W γ k A → ∃ γ' k' A', DInv β C m n all en0 marks dF γ0 W0 B L a W γ' k' A' ∧ ∀ i, dF.cs[k']? = some i → L i = false := by
 intro r
 induction r with
 | zero =>
  intro k γ A hr h
  refine ⟨γ, k, A, h, fun i hi => ?_⟩
  have := (List.getElem?_eq_some_iff.1 hi).1
  omega
 | succ r ih =>
  intro k γ A hr h
  have hlt : k < dF.cs.length := by omega
  have hc : dF.cs[k]? = some dF.cs[k] := List.getElem?_eq_getElem hlt
  generalize dF.cs[k] = i at hc
  cases hL : L i with
  | false => exact ⟨γ, k, A, h, fun i' hi' => by rw [hc] at hi'; cases hi'; exact hL⟩
  | true =>
   obtain ⟨o, ao, v0, ho, hal, hp, hun, hlow, hdst⟩ := h.pend k i hc (Nat.le_refl _) hL
   obtain ⟨en, v, hA1, hB1, hD1, hwent⟩ := hfact i o ho
   have hpos : ∀ q, dF.cs[q]? = some i → q = k := fun q hq => by
    have h1 := (List.getElem?_eq_some_iff.1 hq)
    have h2 := (List.getElem?_eq_some_iff.1 hc)
    obtain ⟨p1, p2⟩ := h1
    obtain ⟨p3, p4⟩ := h2
    exact (List.getElem_inj hnd).1 (p2.trans p4.symm)
   cases hwent with
   | skip hw hn => exact absurd rfl (hn i (List.mem_of_getElem? hc))
   | quiet hw ha hq hn hr hk0 hd => exact absurd rfl (hn i (List.mem_of_getElem? hc))
   | chain hw ha hck hk0 hk1 hd =>
    rename_i k0 D D'
    have := hpos k0 hck
    subst this
    have hDA : D = A := by
     have := h.wk
     rw [hk0] at this
     exact Option.some.inj this
    subst hDA
    obtain ⟨hgc, hv0, hopg, hlate, hdo⟩ := alLike_use hal
    have hval := hdo (rho m en) (fun x hx => by
     cases x with
     | tmp t => simp only [rho, opd, hA1 t fun q o' hq ho' => hlate t hx q o' hq ho']
     | const c => rfl
     | global g => rfl
     | func f => rfl) D
    rcases hd with hd | ⟨_, _, _, hd, _⟩ | ⟨_, _, _, hd, _⟩
    ·rw [hval] at hd
     cases hd
     have hw' := h.w.adopt hgc hp hun
     have hnone : γ D.next = none := h.w.fresh _ (Nat.le_refl _)
     have hle : γ.le (γ.set D.next (B i)) := Gam.le_set _ hnone
     refine ih (k0 + 1) (γ.set D.next (B i)) _ (by omega) ⟨hk1, fun j i' hj hlt => ?_, fun j i' hj hle' hL' => ?_, fun j i1 j' i2 h1 h2 h3 h4 h5 h6 => h.apart j i1 j' i2 h1 (by omega) h3 h4 (by omega) h6, hw', ?_, h.size, h.df.adopt hnone (fun b hb e => by subst e; exact hp.alive hb), fun t u hall hu => ?_,
      fun t u hall hu => ?_, h.closed⟩
     ·by_cases hjk : j = k0
      ·subst hjk; rw [hc] at hj; cases hj; exact hL
      ·exact h.lo j i' hj (by omega)
     ·obtain ⟨o', a', v', q1, q2, q3, q4, q5, q6⟩ := h.pend j i' hj (by omega) hL'
      refine ⟨o', a', v', q1, q2, q3, fun x g hx => ?_, q5, q6⟩
      rcases Gam.set_cases hx with ⟨_, rfl⟩ | ⟨_, hx⟩
      ·refine h.apart k0 i j i' hc (Nat.le_refl _) hL hj (by omega) hL' fun e => ?_
       subst e
       have := hpos j hj
       omega
      ·exact q4 x g hx
     ·refine ⟨Gam.le_trans h.ext.le hle, fun x g hx => ?_, h.ext.size, h.ext.block, h.ext.os, h.ext.tape, h.ext.output, h.ext.drawn⟩
      rcases Gam.set_cases hx with ⟨hx', rfl⟩ | ⟨_, hx'⟩
      ·refine .inr ⟨?_, .inl hlow⟩
       cases hγ : γ0 x with
       | none => rfl
       | some y => rw [hx', ] at hγ; rw [h.ext.le _ _ hγ] at hnone; cases hnone
      ·exact h.ext.new x g hx'
     ·by_cases hdt : o.dst = some t
      ·obtain ⟨hlt', hfin⟩ := hD1 t hdt
       rw [hfin fun q o'' hq hoq hdq => by have := huniq i q o o'' t ho hoq hdt hdq; omega] at hu
       cases hu
       exact ⟨_, hdst t hdt, nm_rel hv0 (Gam.set_same _ _ _)⟩
      ·obtain ⟨u', h1, h2⟩ := h.t1 t u (fun j o' hj hd => by
        obtain ⟨g1, g2⟩ := hall j o' hj hd
        refine ⟨g1, fun q hq => ?_⟩
        have hqk := g2 q hq
        by_cases hqq : q = k0
        ·subst hqq; rw [hc] at hq; cases hq; rw [ho] at hj; cases hj; exact absurd hd hdt
        ·omega) hu
       exact ⟨u', h1, h2.mono hle⟩
     ·obtain ⟨u', h1, h2⟩ := h.t2 t u hall hu
      exact ⟨u', h1, h2.mono hle⟩
    ·rw [hval] at hd; cases hd
    ·rw [hval] at hd; cases hd

theorem draw_any_ok {C : Cfg} (hC : C.Ok) {fs : Fns} (hf : fs.Ok C) {F : Fence} (hF : Wide F) (kk : Nat) {m n : Nat} {ops : Array Oper} {Q : Exit → Act → World → Prop} {γ0 : Gam} {s : St} {a0 : Act} {W0 : World}
  (hs : SRel β γ0 m n s a0 W0) (hR : Ro C.ro γ0 W0) (hok : (evDraw C fs m n ops.toList s).ok = true) (hg : Good β γ0 W0 m n (evDraw C fs m n ops.toList s) Q) : wpAnyIn F kk C.P .any ops Q ops.size (Array.replicate ops.size false) a0 W0.drew := by
 generalize hall : ops.toList = all at hok hg
 have hat : ∀ (i : Nat) (o : Oper), ops[i]? = some o ↔ all[i]? = some o := fun i o => by rw [← hall]; simp
 have hsize : all.length = ops.size := by rw [← hall]; simp
 unfold evDraw at hok hg
 split at hok
 ·rename_i hst
  rw [hst] at hg
  simp only at hg
  split at hok
  ·rename_i dF hgo
   rw [hgo] at hg
   simp only at hg
   split at hok
   ·rename_i hch hrd
    rw [hch, hrd] at hg
    simp only at hg
    have hedge : edgedB all 0 = true ∧ uniqB all = true ∧ allApart (masksGo all []) all all 0 = true := by
     unfold staticB at hst
     split at hst
     ·exact ⟨by assumption, by assumption, by assumption⟩
     ·cases hst
    obtain ⟨he, hu, hap⟩ := hedge
    have hE : Edged ops := fun i o ho e hem hb => by
     have := edgedB_ok he i o ((hat i o).1 ho) e hem hb
     omega
    have hms : ∀ j i, bitOf (masksGo all []) j i = true → Bef all j i := fun j i h => bitOf_bef h
    have huniq := uniqB_ok hu
    have hwf0 : DS.wf ⟨s.en, s.A, [], [s.A], []⟩ := ⟨rfl, rfl⟩
    obtain ⟨hlat, hwf, henF, hcsl⟩ := dGo_later hgo hwf0
    have hfact := dGo_fact (en0 := s.en) (by simp) hgo hwf0 (by simp) (fun _ _ => rfl)
    have hnd := dGo_nodup hgo hwf0 (by simp) (by simp)
    rw [Bool.and_eq_true] at hch
    obtain ⟨hpair, hlook⟩ := hch
    have hws0 : dF.ws[0]? = some s.A := hlat.wsAt rfl
    have hquiet : ∀ i o en v k0 A0, (i, o, en, v) ∈ dF.rs → quietOp o.op = true → dF.ws[k0]? = some A0 → doOp C (rho m en) o A0 = .val v A0 →
      ∀ k A, dF.ws[k]? = some A → possB (isAl C m dF.en all) (masksGo all []) i k dF.cs 0 true = true → doOp C (rho m en) o A = .val v A := fun i o en v k0 A0 hm hq hk0 hd k A hk hp => by
     split at hrd
     ·rename_i hnil
      have hl : dF.ws.length = 1 := by rw [hwf.1, hnil]; rfl
      have e1 : k0 = 0 := by have := (List.getElem?_eq_some_iff.1 hk0).1; omega
      have e2 : k = 0 := by have := (List.getElem?_eq_some_iff.1 hk).1; omega
      subst e1; subst e2
      rw [hk0] at hk
      cases hk
      exact hd
     ·rcases readsB_ok hrd i o en v hm with hst | this
      ·exact still_sameX hst hd
      ·exact sameB_ok hq this k A hk (by simpa using hp)
    refine draw_inv (fun L a W => ∃ B γ k A, DInv β C m n all s.en s.marks dF γ0 W0 B L a W γ k A ∧ ∀ i, dF.cs[k]? = some i → L i = false) hE ?_ ?_ ?_
    ·-- all done
     rintro L a W ⟨B, γ, k, A, h, heag⟩ hdone
     have hk : k = dF.cs.length := by
      have hkl : k < dF.ws.length := (List.getElem?_eq_some_iff.1 h.wk).1
      rw [hwf.1] at hkl
      by_cases hlt : k < dF.cs.length
      ·have hc : dF.cs[k]? = some dF.cs[k] := List.getElem?_eq_getElem hlt
       have hb := hcsl dF.cs[k] (List.getElem_mem hlt)
       have hlt2 : dF.cs[k] < ops.size := by
        rcases hb with hb | hb
        ·cases hb
        ·omega
       have := heag _ hc
       rw [hdone _ hlt2] at this
       cases this
      ·omega
     have hA : A = dF.A := by
      have h1 := h.wk
      rw [hk, hwf.2] at h1
      exact (Option.some.inj h1).symm
     subst hA
     refine hg γ a W ⟨fun t v hv => h.t1 t v (fun j o hj _ => ⟨hdone j ?_, fun q hq => ?_⟩) hv, h.size, h.df, h.w⟩ h.ext
     ·have := (List.getElem?_eq_some_iff.1 hj).1
      omega
     ·have := (List.getElem?_eq_some_iff.1 hq).1
      omega
    ·-- one more
     rintro L a W i o ⟨B, γ, k, A, h, heag⟩ ho hLi hready
     have hoa : all[i]? = some o := (hat i o).1 ho
     obtain ⟨en, v, hA1, hB1, hD1, hwent⟩ := hfact i o (Nat.zero_le _) hoa
     have hapi : ∀ (j : Nat) (o' : Oper), all[j]? = some o' → apartB (masksGo all []) i (looks all o) j o'.dst = true := fun j o' hj => by
      have h1 := allApart_ok hap i o hoa
      have h2 := apartAll_ok h1 j o' hj
      simpa using h2
     have hread : ∀ t ∈ looks all o, ∀ u, en.get m t = some u → ∃ u', a.tmps[t]? = some u' ∧ VRel γ u u' := fun t ht u hu => by
      by_cases hw : ∃ (j : Nat) (o' : Oper), all[j]? = some o' ∧ o'.dst = some t
      ·obtain ⟨j, o', hj, hd⟩ := hw
       have hun : ∀ (q : Nat) (o'' : Oper), all[q]? = some o'' → o''.dst = some t → q = j := fun q o'' hq hdq => huniq q j o'' o' t hq hj hdq hd
       have hb := hapi j o' hj
       rw [hd] at hb
       simp only [apartB] at hb
       by_cases hij : i = j
       ·-- its own place
        subst hij
        refine h.t2 t u (fun q o'' hq hdq => by rw [hun q o'' hq hdq]; exact hLi) ?_
        rw [← hB1 t fun q o'' hq hoq hdq => by have := hun q o'' hoq hdq; omega]
        exact hu
       ·have hne : Nat.beq i j = false := by
         cases hbq : Nat.beq i j with
         | false => rfl
         | true => exact absurd (Nat.eq_of_beq_eq_true hbq) hij
        have hcon : (looks all o).contains t = true := by simpa using ht
        rw [hne, hcon] at hb
        simp only at hb
        split at hb
        ·rename_i hlt
         have hlt' := blt_lt hlt
         have hLj := h.bef' hoa hready (hms _ _ hb)
         have hnamed : ∀ q, dF.cs[q]? = some j → q < k := fun q hq => by
          apply Nat.lt_of_not_le
          intro hkq
          obtain ⟨o1, a1, v1, g1, g2, _⟩ := h.pend q j hq hkq hLj
          rw [hj] at g1
          cases g1
          have hal : isAl C m dF.en all j = true := by simp only [isAl, hj, g2]
          obtain ⟨_, hpre⟩ := lookB_ok (by simpa using lookAll_ok hlook i o hoa) q j t o' hq hal hj hd ht
          have hkl : k < dF.cs.length := by
           have := (List.getElem?_eq_some_iff.1 hq).1
           omega
          have hck : dF.cs[k]? = some dF.cs[k] := List.getElem?_eq_getElem hkl
          have hLk : L dF.cs[k] = true := by
           by_cases hqk : q = k
           ·subst hqk; rw [hq] at hck; rw [← Option.some.inj hck]; exact hLj
           ·exact h.bef' hoa hready (hms _ _ (hpre k _ (by omega) hck))
          rw [heag _ hck] at hLk
          cases hLk
         refine h.t1 t u (fun q o'' hq hdq => by rw [hun q o'' hq hdq]; exact ⟨hLj, hnamed⟩) ?_
         rw [hA1 t fun q o'' hq hoq hdq => by have := hun q o'' hoq hdq; omega]
         exact hu
        ·rename_i hlt
         have hgt : i < j := by
          have : ¬ j < i := fun hh => by
           have hh' : Nat.blt j i = true := Nat.ble_eq_true_of_le hh
           rw [hh'] at hlt
           cases hlt
          omega
         have hLj : L j = false := by
          cases hLj : L j with
          | false => rfl
          | true => rw [h.bef (hms _ _ hb) hLj] at hLi; cases hLi
         refine h.t2 t u (fun q o'' hq hdq => by rw [hun q o'' hq hdq]; exact hLj) ?_
         rw [← hB1 t fun q o'' hq hoq hdq => by have := hun q o'' hoq hdq; omega]
         exact hu
      ·refine h.t1 t u (fun j o' hj hd => absurd ⟨j, o', hj, hd⟩ hw) ?_
       rw [hA1 t fun q o'' _ hoq hdq => hw ⟨q, o'', hoq, hdq⟩]
       exact hu
     have hops : avail m en o.op.operands.toList = true → ∀ x ∈ o.op.operands, VRel γ (rho m en x) (a.eval x) := fun hav x hx => by
      have hx' : x ∈ o.op.operands.toList := by simpa using hx
      have hsome : ∃ u, opd m en x = some u := by
       clear hready hapi hread hwent
       generalize o.op.operands.toList = l at hav hx'
       induction l with
       | nil => cases hx'
       | cons y l ih =>
        simp only [avail] at hav
        split at hav
        ·rename_i u hu'
         rcases List.mem_cons.1 hx' with rfl | hx'
         ·exact ⟨u, hu'⟩
         ·exact ih hav hx'
        ·cases hav
      obtain ⟨u, hu⟩ := hsome
      have hrho : rho m en x = u := by simp [rho, hu]
      rw [hrho]
      cases x with
      | tmp t =>
       have htl : t ∈ looks all o := by
        unfold looks
        exact List.mem_append.2 (.inl (List.mem_filterMap.2 ⟨.tmp t, hx', rfl⟩))
       obtain ⟨u', h1, h2⟩ := hread t htl u hu
       have : a.eval (.tmp t) = u' := by simp [Act.eval, h1]
       rw [this]
       exact h2
      | const c =>
       simp only [opd] at hu
       split at hu
       ·rename_i hgn; cases hu; exact VRel.of_gnd γ _ hgn
       ·cases hu
      | global g => simp only [opd, Option.some.injEq] at hu; subst hu; exact .ptrRo g 0 0
      | func f => simp only [opd, Option.some.injEq] at hu; subst hu; exact .func (.func f) .nil .nil
     have hwant : ∀ b, wantedE m all en o.guard = some b → Region.wanted o (yielded ops a.tmps) = b := fun b hb => by
      unfold wantedE at hb
      unfold Region.wanted
      split at hb
      ·rename_i hgd; simp only [hgd]; exact Option.some.inj hb
      ·rename_i j want hgd
       simp only [hgd, yielded]
       split at hb
       ·rename_i o' ho'
        have ho'' : ops[j]? = some o' := (hat j o').2 ho'
        simp only [ho'', Option.bind_some]
        split at hb
        ·rename_i d hd
         simp only [hd, Option.bind_some]
         have hdl : d ∈ looks all o := by
          unfold looks
          refine List.mem_append.2 (.inr ?_)
          simp [hgd, ho', hd]
         split at hb
         ·rename_i b' hget
          obtain ⟨v', h1, h2⟩ := hread d hdl _ hget
          cases h2
          simp only [h1]
          simpa using hb
         ·rename_i v' hnb hget
          obtain ⟨v'', h1, h2⟩ := hread d hdl _ hget
          simp only [h1]
          cases hb
          cases h2 <;> first | rfl | exact absurd rfl (hnb _)
         ·cases hb
        ·rename_i hd
         cases hb
         simp [hd]
       ·rename_i ho'
        cases hb
        have ho'' : ops[j]? = none := by
         cases hq : ops[j]? with
         | none => rfl
         | some q => rw [(hat j q).1 hq] at ho'; cases ho'
        simp [ho'']
     have keepP : ∀ γ' W' v', Ext γ W γ' W' → ∀ j c, dF.cs[j]? = some c → k ≤ j → L c = true → ∃ o1 a1 v1, all[c]? = some o1 ∧ alLike C m dF.en all c o1 = some (a1, v1) ∧ Pend W' (B c) a1 ∧
       (∀ x g, γ' x = some g → g.blk ≠ (B c).blk) ∧ W0.heap.size ≤ (B c).blk ∧ ∀ d, o1.dst = some d → (a.put o.dst v').tmps[d]? = some (nmG (B c) v1) := fun γ' W' v' hx j c hj hkj hL => by
      obtain ⟨o1, a1, v1, g1, g2, g3, g4, g5, g6⟩ := h.pend j c hj hkj hL
      have hlt : (B c).blk < W.heap.size := g3.2
      have hci : c ≠ i := fun e => by rw [e, hLi] at hL; cases hL
      refine ⟨o1, a1, v1, g1, g2, g3.keep (hx.block _ hlt g4), fun x g hxg => ?_, g5, fun d hd => ?_⟩
      ·rcases hx.new x g hxg with hh | ⟨_, hh | ⟨y, g', hh, he⟩⟩
       ·exact g4 x g hh
       ·omega
       ·rw [← he]; exact g4 y g' hh
      ·cases hdo : o.dst with
       | none => exact g6 d hd
       | some d' =>
        have hne : d' ≠ d := fun e => by
         subst e
         exact hci (huniq c i o1 o d' g1 hoa hd hdo)
        simp only [Act.put]
        rw [Array.getElem?_setIfInBounds_ne hne]
        exact g6 d hd
     have hnext : ∀ (B' : Nat → GI) (k' : Nat) (A' : AW) (γ' : Gam) (W' : World) (v' : Value), dF.ws[k']? = some A' → (∀ j c, dF.cs[j]? = some c → j < k' → upd L i c = true) →
       (∀ j c, dF.cs[j]? = some c → k' ≤ j → upd L i c = true → ∃ o1 a1 v1, all[c]? = some o1 ∧ alLike C m dF.en all c o1 = some (a1, v1) ∧ Pend W' (B' c) a1 ∧
        (∀ x g, γ' x = some g → g.blk ≠ (B' c).blk) ∧ W0.heap.size ≤ (B' c).blk ∧ ∀ d, o1.dst = some d → (a.put o.dst v').tmps[d]? = some (nmG (B' c) v1)) →
       (∀ j c j' c', dF.cs[j]? = some c → k' ≤ j → upd L i c = true → dF.cs[j']? = some c' → k' ≤ j' → upd L i c' = true → c ≠ c' → (B' c).blk ≠ (B' c').blk) →
       (∀ q c, dF.cs[q]? = some c → c ≠ i → q < k' → q < k) →
       ((∀ q, dF.cs[q]? = some i → q < k') → VRel γ' v v') → WRel γ' A' W' → Ext γ W γ' W' →
       ∃ B γ k A, DInv β C m n all s.en s.marks dF γ0 W0 B (upd L i) (a.put o.dst v') W' γ k A ∧ ∀ j, dF.cs[k]? = some j → upd L i j = false := fun B' k' A' γ' W' v' hk' hlo' hpend' hap' hkk hv hw' hx => by
      refine ⟨B', settle hnd (fun j o' hj => hfact j o' (Nat.zero_le _) hj) huniq _ k' γ' A' rfl ⟨hk', hlo', hpend', hap', hw', h.ext.trans hx, ?_, ?_, ?_, ?_, ?_⟩⟩
      ·cases hd : o.dst <;> simp [Act.put, h.size]
      ·have : (a.put o.dst v').defers = a.defers := by cases hd : o.dst <;> rfl
       rw [this]
       exact h.df.mono hx
      ·intro t u hall' hu
       by_cases hdt : o.dst = some t
       ·obtain ⟨hlt, hfin⟩ := hD1 t hdt
        rw [hfin fun q o'' hq hoq hdq => by have := huniq i q o o'' t hoa hoq hdt hdq; omega] at hu
        cases hu
        refine ⟨v', ?_, hv (hall' i o hoa hdt).2⟩
        rw [hdt]
        simp [Act.put, h.size, hlt]
       ·obtain ⟨u', h1, h2⟩ := h.t1 t u (fun j o' hj hd => by
         obtain ⟨g1, g2⟩ := hall' j o' hj hd
         by_cases hji : j = i
         ·subst hji; rw [hoa] at hj; cases hj; exact absurd hd hdt
         ·exact ⟨by rwa [upd_other L hji] at g1, fun q hq => hkk q j hq hji (g2 q hq)⟩) hu
        refine ⟨u', ?_, h2.mono hx.le⟩
        cases hd : o.dst with
        | none => exact h1
        | some d =>
         have hne : d ≠ t := fun e => hdt (by rw [hd, e])
         simp only [Act.put]
         rw [Array.getElem?_setIfInBounds_ne hne]
         exact h1
      ·intro t u hall' hu
       have hdt : o.dst ≠ some t := fun hdt => by
        have := hall' i o hoa hdt
        rw [upd_same] at this
        cases this
       obtain ⟨u', h1, h2⟩ := h.t2 t u (fun j o' hj hd => by
        have := hall' j o' hj hd
        by_cases hji : j = i
        ·subst hji; rw [upd_same] at this; cases this
        ·rwa [upd_other L hji] at this) hu
       refine ⟨u', ?_, h2.mono hx.le⟩
       cases hd : o.dst with
       | none => exact h1
       | some d =>
        have hne : d ≠ t := fun e => hdt (by rw [hd, e])
        simp only [Act.put]
        rw [Array.getElem?_setIfInBounds_ne hne]
        exact h1
      ·intro j o' hj ho' e hem hb
       by_cases hji : j = i
       ·subst hji
        rw [hoa] at ho'
        cases ho'
        have := hready e hem hb
        by_cases hei : e.on = j
        ·rw [hei, upd_same]
        ·rw [upd_other L hei]; exact this
       ·rw [upd_other L hji] at hj
        have := h.closed j o' hj ho' e hem hb
        by_cases hei : e.on = i
        ·rw [hei, upd_same]
        ·rw [upd_other L hei]; exact this
     have hLc : ∀ c, c ≠ i → upd L i c = L c := fun c hc => upd_other L hc
     have hsame : (∀ x ∈ dF.cs, x ≠ i) → ∀ γ' W' v', VRel γ' v v' → WRel γ' A W' → Ext γ W γ' W' →
       ∃ B γ k A, DInv β C m n all s.en s.marks dF γ0 W0 B (upd L i) (a.put o.dst v') W' γ k A ∧ ∀ j, dF.cs[k]? = some j → upd L i j = false := fun hn γ' W' v' hv hw' hx => by
      have hni : ∀ j c, dF.cs[j]? = some c → c ≠ i := fun j c hj => hn c (List.mem_of_getElem? hj)
      refine hnext B k A γ' W' v' h.wk (fun j c hj hlt => ?_) (fun j c hj hle hL => ?_) (fun j c j' c' h1 h2 h3 h4 h5 h6 => ?_) (fun _ _ _ _ h => h) (fun _ => hv) hw' hx
      ·rw [hLc c (hni j c hj)]; exact h.lo j c hj hlt
      ·rw [hLc c (hni j c hj)] at hL; exact keepP γ' W' v' hx j c hj hle hL
      ·rw [hLc c (hni j c h1)] at h3
       rw [hLc c' (hni j' c' h4)] at h6
       exact h.apart j c j' c' h1 h2 h3 h4 h5 h6
     unfold wpOpIn
     rw [ho]
     simp only
     cases hwent with
     | skip hw hn =>
      rw [hwant _ hw]
      simp only [Bool.false_eq_true, if_false]
      exact ⟨fun f _ => hF.fn f, hsame hn γ W undef (.tuple .nil) h.w (Ext.refl _ _)⟩
     | quiet hw ha hq hn hr hk0 hd =>
      rw [hwant _ hw]
      simp only [if_true]
      have hposs : possB (isAl C m dF.en all) (masksGo all []) i k dF.cs 0 true = true := possB_ok hms fun j c hj => by
       simp only [Nat.zero_add]
       refine ⟨fun hlt hb => ?_, fun hge hb => ?_⟩
       ·have := h.bef hb (h.lo j c hj hlt)
        rw [this] at hLi
        cases hLi
       ·have hLc' := h.bef' hoa hready hb
        obtain ⟨o1, a1, v1, g1, g2, _⟩ := h.pend j c hj (by omega) hLc'
        refine ⟨by simp only [isAl, g1, g2], fun _ hall => ?_⟩
        have hkl : k < dF.cs.length := by
         have := (List.getElem?_eq_some_iff.1 hj).1
         omega
        have hck : dF.cs[k]? = some dF.cs[k] := List.getElem?_eq_getElem hkl
        have hLk : L dF.cs[k] = true := by
         by_cases hjk : j = k
         ·subst hjk; rw [hj] at hck; rw [← Option.some.inj hck]; exact hLc'
         ·exact h.bef' hoa hready (hall k _ (by omega) hck)
        rw [heag _ hck] at hLk
        cases hLk
      have hdo := hquiet i o en v _ _ hr hq hk0 hd k A h.wk hposs
      refine oper_ok' hC hf hF kk h.w (hR.ext h.ext) o (hops ha) (.inl hdo) fun v' γ' W' hv hw' hx => ?_
      exact hsame hn γ' W' v' hv hw' hx
     | chain hw ha hc hk0 hk1 hd =>
      rename_i k0 D D'
      rw [hwant _ hw]
      simp only [if_true]
      have hpos : ∀ q, dF.cs[q]? = some i → q = k0 := fun q hq => by
       obtain ⟨p1, p2⟩ := List.getElem?_eq_some_iff.1 hq
       obtain ⟨p3, p4⟩ := List.getElem?_eq_some_iff.1 hc
       exact (List.getElem_inj hnd).1 (p2.trans p4.symm)
      have hge : k ≤ k0 := Nat.le_of_not_lt fun hh => by rw [h.lo k0 i hc hh] at hLi; cases hLi
      cases hal : alLike C m dF.en all i o with
      | some ce =>
       obtain ⟨ao, v0⟩ := ce
       have hopsF : ∀ x ∈ o.op.operands.toList, VRel γ (rho m dF.en x) (a.eval x) := fun x hx => by
        have h1 := hops ha x (by simpa using hx)
        obtain ⟨_, _, _, hlate, _⟩ := alLike_use hal
        cases x with
        | tmp t => simpa only [rho, opd, hA1 t fun q o' hq ho' => hlate t hx q o' hq ho'] using h1
        | const c => exact h1
        | global g => exact h1
        | func f => exact h1
       refine alLike_run hC hf hF kk hal (hR.ext h.ext) hopsF fun g γx W' hg1 hg2 hgp hx => ?_
       obtain ⟨hw', hx'⟩ := h.w.more hx
       have hBi : ∀ c, c ≠ i → (if c = i then g else B c) = B c := fun c hc => if_neg hc
       refine hnext (fun c => if c = i then g else B c) k A γ W' _ h.wk (fun j c hj hlt => ?_) (fun j c hj hle hL => ?_) (fun j c j' c' h1 h2 h3 h4 h5 h6 h7 => ?_) (fun _ _ _ _ h => h) (fun hall => ?_) hw' hx'
       ·have hci : c ≠ i := fun e => by subst e; have := hpos j hj; omega
        rw [hLc c hci]; exact h.lo j c hj hlt
       ·by_cases hci : c = i
        ·subst hci
         refine ⟨o, ao, v0, hoa, hal, ?_, fun x g' hxg => ?_, ?_, fun d hd' => ?_⟩
         ·simp only [if_true]; exact hgp
         ·simp only [if_true]
          have := h.w.lt x g' hxg
          omega
         ·simp only [if_true]
          exact Nat.le_trans h.ext.size hg1
         ·simp only [if_true]
          obtain ⟨hdn, _⟩ := hD1 d hd'
          rw [hd']
          simp [Act.put, h.size, hdn]
        ·rw [hLc c hci] at hL
         simp only [hBi c hci]
         exact keepP γ W' _ hx' j c hj hle hL
       ·have hold : ∀ j c, dF.cs[j]? = some c → k ≤ j → upd L i c = true → c ≠ i → (B c).blk < W.heap.size := fun j c hj hle hL hci => by
         rw [hLc c hci] at hL
         obtain ⟨_, _, _, _, _, ⟨_, hb⟩, _⟩ := h.pend j c hj hle hL
         exact hb
        by_cases hci : c = i
        ·subst hci
         have hc' : c' ≠ c := fun e => h7 e.symm
         simp only [if_true, hBi c' hc']
         have := hold j' c' h4 h5 h6 hc'
         omega
        ·by_cases hci' : c' = i
         ·subst hci'
          simp only [if_true, hBi c hci]
          have := hold j c h1 h2 h3 hci
          omega
         ·simp only [hBi c hci, hBi c' hci']
          rw [hLc c hci] at h3
          rw [hLc c' hci'] at h6
          exact h.apart j c j' c' h1 h2 h3 h4 h5 h6 h7
       ·have := hall k0 hc
        omega
      | none =>
       have hni : isAl C m dF.en all i = false := by simp only [isAl, hoa, hal]
       have hkk0 : k0 = k := by
        apply Nat.le_antisymm _ hge
        apply Nat.le_of_not_lt
        intro hlt
        have hkl : k < dF.cs.length := by
         have := (List.getElem?_eq_some_iff.1 hc).1
         omega
        have hck : dF.cs[k]? = some dF.cs[k] := List.getElem?_eq_getElem hkl
        have hb := pairB_ok hpair k k0 _ _ hlt hck hc hni
        have hLk := h.bef' hoa hready (hms _ _ hb)
        rw [heag _ hck] at hLk
        cases hLk
       subst hkk0
       have hDA : D = A := by
        have := h.wk
        rw [hk0] at this
        exact Option.some.inj this
       subst hDA
       refine oper_ok' hC hf hF kk h.w (hR.ext h.ext) o (hops ha) hd fun v' γ' W' hv hw' hx => ?_
       have hci : ∀ j c, dF.cs[j]? = some c → j ≠ k0 → c ≠ i := fun j c hj hne e => by subst e; exact hne (hpos j hj)
       refine hnext B (k0 + 1) D' γ' W' v' hk1 (fun j c hj hlt => ?_) (fun j c hj hle hL => ?_) (fun j c j' c' h1 h2 h3 h4 h5 h6 h7 => ?_) (fun q c hq hne hlt => ?_) (fun _ => hv) hw' hx
       ·by_cases hjk : j = k0
        ·subst hjk; rw [hc] at hj; cases hj; exact upd_same L _
        ·rw [hLc c (hci j c hj hjk)]; exact h.lo j c hj (by omega)
       ·rw [hLc c (hci j c hj (by omega))] at hL; exact keepP γ' W' v' hx j c hj (by omega) hL
       ·rw [hLc c (hci j c h1 (by omega))] at h3
        rw [hLc c' (hci j' c' h4 (by omega))] at h6
        exact h.apart j c j' c' h1 (by omega) h3 h4 (by omega) h6 h7
       ·have : q ≠ k0 := fun e => by subst e; rw [hc] at hq; cases hq; exact hne rfl
        omega
    ·-- at the start
     refine ⟨fun _ => gi 0 0 0, γ0, 0, s.A, ⟨hws0, fun j i _ hj => absurd hj (Nat.not_lt_zero j), fun _ _ _ _ hL => absurd hL Bool.false_ne_true, fun _ _ _ _ _ _ hL => absurd hL Bool.false_ne_true, hs.w.drew, Ext.drew γ0 W0, hs.size, hs.df.mono (Ext.drew γ0 W0), fun t v hno hv => ?_, fun t v _ hv => hs.tm t v hv, fun i o hi => by cases hi⟩, fun _ _ => rfl⟩
     have hnw : ∀ o ∈ all, o.dst ≠ some t := fun o ho hd => by
      obtain ⟨j, hj⟩ := List.getElem?_of_mem ho
      have := (hno j o hj hd).1
      cases this
     rw [henF t hnw] at hv
     exact hs.tm t v hv
   ·cases hok
  ·cases hok
 ·cases hok

/-! ### what is made aside is made late -/

def alS (o : Oper) : Bool :=
 match o.op with
 | .alloc _ | .buildSlice _ _ _ | .makeMap _ none => true
 | _ => false

def ordGo (ms : List Nat) : List Oper → Nat → List Nat → List Nat
 | [], _, pend => pend
 | o :: r, i, pend => match alS o with
  | true => ordGo ms r (Nat.succ i) (pend ++ [i])
  | false => (pend.filter fun j => bitOf ms j i) ++ i :: ordGo ms r (Nat.succ i) (pend.filter fun j => !bitOf ms j i)

def posL : List Nat → Nat → Nat
 | [], _ => 0
 | x :: l, i => match Nat.beq x i with
  | true => 0
  | false => Nat.succ (posL l i)

def posOf (σ : List Nat) (i : Nat) : Nat := match Nat.blt i σ.length with
 | true => posL σ i
 | false => i

def isRange : List Nat → Nat → Bool
 | [], _ => true
 | x :: l, i => match Nat.beq x i with
  | true => isRange l (Nat.succ i)
  | false => false

def arrange (σ : List Nat) (all : List Oper) : List Oper := σ.filterMap fun i => (all[i]?).map (renOp (posOf σ))

def permB (σ : List Nat) (n : Nat) : Bool := Nat.beq σ.length n && (List.range n).all (fun i => Nat.blt (posL σ i) n && (match σ[posL σ i]? with | some x => Nat.beq x i | none => false)) && (List.range n).all (fun p => match σ[p]? with | some x => Nat.blt x n && Nat.beq (posL σ x) p | none => false)

def evDrawA (C : Cfg) (fs : Fns) (m n : Nat) (all : List Oper) (s : St) : Out :=
 match C.sy with
 | true => evDraw C fs m n all s
 | false => match ordGo (masksGo all []) all 0 [] with
  | σ => match isRange σ 0 with
   | true => evDraw C fs m n all s
   | false => match permB σ all.length, edgedB all 0 with
    | true, true => evDraw C fs m n (arrange σ all) s
    | _, _ => .fail 223

theorem arrange_get {σ : List Nat} {all : List Oper} (h : ∀ x ∈ σ, x < all.length) : ∀ (p : Nat), (arrange σ all)[p]? = (σ[p]?).bind fun i => (all[i]?).map (renOp (posOf σ)) := by
 unfold arrange
 generalize posOf σ = π
 induction σ with
 | nil => intro p; simp
 | cons x l ih =>
  intro p
  have hx : all[x]? = some (all[x]'(h x (by simp))) := List.getElem?_eq_getElem _
  rw [List.filterMap_cons, hx]
  simp only [Option.map_some]
  cases p with
  | zero => simp [hx]
  | succ p => simpa using ih (fun y hy => h y (by simp [hy])) p

theorem arrange_len {σ : List Nat} {all : List Oper} (h : ∀ x ∈ σ, x < all.length) : (arrange σ all).length = σ.length := by
 unfold arrange
 generalize posOf σ = π
 induction σ with
 | nil => rfl
 | cons x l ih =>
  have hx : all[x]? = some (all[x]'(h x (by simp))) := List.getElem?_eq_getElem _
  rw [List.filterMap_cons, hx]
  simp only [Option.map_some, List.length_cons]
  rw [ih fun y hy => h y (by simp [hy])]

theorem permB_ok {σ : List Nat} {ops : Array Oper} (h : permB σ ops.toList.length = true) : Perm ops (arrange σ ops.toList).toArray (posOf σ) (fun p => σ.getD p p) := by
 simp only [permB, Bool.and_eq_true, List.all_eq_true, List.mem_range] at h
 obtain ⟨⟨h1, h2⟩, h3⟩ := h
 have hl : σ.length = ops.size := by have := Nat.eq_of_beq_eq_true h1; simpa using this
 have hsz : ops.toList.length = ops.size := by simp
 have h3' : ∀ p, p < ops.size → ∃ x, σ[p]? = some x ∧ x < ops.size ∧ posL σ x = p := fun p hp => by
  have := h3 p (by omega)
  split at this
  ·rename_i x hx
   simp only [Bool.and_eq_true] at this
   exact ⟨x, hx, by have := blt_lt this.1; omega, Nat.eq_of_beq_eq_true this.2⟩
  ·cases this
 have h2' : ∀ i, i < ops.size → posL σ i < ops.size ∧ σ[posL σ i]? = some i := fun i hi => by
  obtain ⟨q1, q2⟩ := h2 i (by omega)
  refine ⟨by have := blt_lt q1; omega, ?_⟩
  split at q2
  ·rename_i x hx
   rw [hx, Nat.eq_of_beq_eq_true q2]
  ·cases q2
 have hmem : ∀ x ∈ σ, x < ops.toList.length := fun x hx => by
  obtain ⟨p, hp⟩ := List.mem_iff_getElem?.1 hx
  have hpl := (List.getElem?_eq_some_iff.1 hp).1
  obtain ⟨y, hy, hlt, _⟩ := h3' p (by omega)
  rw [hp] at hy
  cases hy
  omega
 have hpos : ∀ i, i < ops.size → posOf σ i = posL σ i := fun i hi => by
  unfold posOf
  rw [show Nat.blt i σ.length = true from Nat.ble_eq_true_of_le (by omega)]
 refine ⟨by simp [arrange_len hmem, hl], fun i hi => by rw [hpos i hi]; exact (h2' i hi).1, fun i hi => ?_, fun p hp => ?_, fun p hp => ?_, fun i hi => ?_, fun i o ho => ?_⟩
 ·rw [hpos i hi]
  simp [List.getD, (h2' i hi).2]
 ·obtain ⟨x, hx, hlt, _⟩ := h3' p hp
  simp [List.getD, hx, hlt]
 ·obtain ⟨x, hx, hlt, he⟩ := h3' p hp
  simp only [List.getD, hx, Option.getD_some]
  rw [hpos x hlt]
  exact he
 ·unfold posOf
  cases hb : Nat.blt i σ.length with
  | true => have := blt_lt hb; omega
  | false => rfl
 ·have hi := (Array.getElem?_eq_some_iff.1 ho).1
  rw [hpos i hi]
  have ho' : ops.toList[i]? = some o := by simpa using ho
  have := arrange_get hmem (posL σ i)
  rw [(h2' i hi).2] at this
  simp only [Option.bind_some, ho', Option.map_some] at this
  simpa using this

theorem draw_ok {C : Cfg} (hC : C.Ok) {fs : Fns} (hf : fs.Ok C) {F : Fence} (hF : Wide F) (kk : Nat) {id : Nat} {m n : Nat} {ops : Array Oper} {Q : Exit → Act → World → Prop} {γ0 : Gam} {s : St} {a0 : Act} {W0 : World}
  (hs : SRel β γ0 m n s a0 W0) (hR : Ro C.ro γ0 W0) (hok : (evDrawA C fs m n ops.toList s).ok = true) (hg : Good β γ0 W0 m n (evDrawA C fs m n ops.toList s) Q) : (Code.region id ops true).wpIn F kk C.P Q a0 W0 := by
 refine wpIn_region_any hC.mixed ?_
 unfold evDrawA at hok hg
 split at hok
 ·rename_i hy
  rw [hy] at hg
  exact draw_any_ok hC hf hF kk hs hR hok hg
 ·rename_i hy
  rw [hy] at hg
  simp only at hok hg
  split at hok
  ·rename_i hr
   rw [hr] at hg
   exact draw_any_ok hC hf hF kk hs hR hok hg
  ·rename_i hr
   rw [hr] at hg
   simp only at hok hg
   split at hok
   ·rename_i hp he
    rw [hp, he] at hg
    simp only at hg
    have hperm := permB_ok (ops := ops) hp
    have hE : Edged ops := fun i o ho e hem hb => by
     have := edgedB_ok he i o (by simpa using ho) e hem hb
     omega
    have hat : (arrange (ordGo (masksGo ops.toList []) ops.toList 0 []) ops.toList).toArray.toList = arrange (ordGo (masksGo ops.toList []) ops.toList 0 []) ops.toList := rfl
    have := draw_any_ok (ops := (arrange (ordGo (masksGo ops.toList []) ops.toList 0 []) ops.toList).toArray) hC hf hF kk hs hR hok hg
    rw [hperm.size] at this
    exact hperm.any hE _ _ _ _ _ (by simp) (by simp) (fun i hi => by simp [hi, hperm.lt i hi]) this
   ·cases hok

end Go.Ev
