/- append and copy. -/
import Derived.Test.YtdalaifnhppidaaDoorEvOps3
namespace Go.Ev
open Go

section runs
variable {P : Program} {W W' : World} {t tx ty e : Nat} {dx : TypeDesc} {inf : TypeInfo} {z x : Value} {n len cap : Nat} {news olds : List Value}

theorem run_append_some {b k : Nat} (ht : P.underlying t = some (.slice e)) (hx : P.underlying tx = some dx) (hn : isSrc dx = true) (hi : P.info? e = some inf)
    (hlen : (Builtin.lenOf x).run P W = .ok n W) (hnew : (Builtin.firstCells inf.size n x).run P W = .ok news.toArray W) (hroom : len + n ≤ cap)
    (hst : (storeCells ⟨b, k + len * inf.size, none⟩ news).run P W = .ok () W') :
    (Builtin.append_ #[t, tx] ty #[.slice (some ⟨b, k, none⟩) len cap, x]).run P W = .ok (.slice (some ⟨b, k, none⟩) (len + n) cap) W' := by
  rcases isSrc_cases hn with ⟨e', rfl⟩ | rfl <;>
    simp [Builtin.append_, run_underlying ht, run_underlying hx, run_sizeOf' hi, hlen, hnew, hroom, Addr.add_lit, hst]

theorem run_append_nil0 (ht : P.underlying t = some (.slice e)) (hx : P.underlying tx = some dx) (hn : isSrc dx = true) (hi : P.info? e = some inf)
    (hlen : (Builtin.lenOf x).run P W = .ok 0 W) (hnew : (Builtin.firstCells inf.size 0 x).run P W = .ok news.toArray W) :
    (Builtin.append_ #[t, tx] ty #[.slice none 0 0, x]).run P W = .ok (.slice none 0 0) W := by
  rcases isSrc_cases hn with ⟨e', rfl⟩ | rfl <;>
    simp [Builtin.append_, run_underlying ht, run_underlying hx, run_sizeOf' hi, hlen, hnew]

theorem run_append_grow {base : Option Addr} (ht : P.underlying t = some (.slice e)) (hx : P.underlying tx = some dx) (hn : isSrc dx = true) (hi : P.info? e = some inf) (hz : inf.zero = some z)
    (hlen : (Builtin.lenOf x).run P W = .ok n W) (hnew : (Builtin.firstCells inf.size n x).run P W.drew = .ok news.toArray W.drew)
    (hold : (Builtin.firstCells inf.size len (.slice base len cap)).run P W.drew = .ok olds.toArray W.drew) (hno : cap < len + n) (hsm : len + n ≤ 1000000) (hb : inf.bytes ≤ 1000000) :
    ∃ (rest : Array Value) (c : Nat), len + n ≤ c ∧ rest.size = (c - (len + n)) * z.cells.size ∧
      (Builtin.append_ #[t, tx] ty #[.slice base len cap, x]).run P W = .ok (.slice (some ⟨W.heap.size, 0, none⟩) (len + n) c) (W.drew.alloc (.cells ((olds ++ news).toArray ++ rest) e)) := by
  have hroom : ¬ (len + n ≤ cap) := by omega
  have h1 : ¬ (9223372036854775807 < ((len : Int) + (n : Int))) := by omega
  have h2 : ¬ (281474976710656 < Builtin.nextslicecap (len + n) cap * inf.bytes) := by
    have h3 := Go.nextslicecap_le hno
    have h4 : Builtin.nextslicecap (len + n) cap * inf.bytes ≤ 2000000 * 1000000 := Nat.mul_le_mul (by omega) hb
    omega
  have hq : (Question.appendCap (len + n) cap e).forced = false := rfl
  refine ⟨Builtin.zeroCells z.cells (Question.cut (.appendCap (len + n) cap e) (W.tape W.drawn (.appendCap (len + n) cap e)) - (len + n)), Question.cut (.appendCap (len + n) cap e) (W.tape W.drawn (.appendCap (len + n) cap e)), ?_, ?_, ?_⟩
  · simp [Question.cut]
  · simp [Builtin.zeroCells]
  · rcases isSrc_cases hn with ⟨e', rfl⟩ | rfl <;>
      simp [Builtin.append_, run_underlying ht, run_underlying hx, run_sizeOf' hi, run_typeInfo' hi, run_zeroValue' hi hz, hlen, hnew, hold, hroom, h1, h2, hq, newRow] <;>
      exact congrArg (fun c => W.drew.alloc (.cells c e)) (by apply Array.ext'; simp)
end runs

def appendK (e sz i k len cap n : Nat) (new : List Value) (A : AW) : OR :=
  match Nat.ble (Nat.add len n) cap with
  | true => match A.store i (Nat.add k (Nat.mul len sz)) new with
    | some A' => .val (.slice (some ⟨i, k, none⟩) (Nat.add len n) cap) A'
    | none => .fail 60
  | false => match A.load i k (Nat.mul len sz) with
    | some old => .val (.slice (some ⟨A.next, 0, none⟩) (Nat.add len n) unk) (A.new (.cells (old ++ new) e A.next sz))
    | none => .fail 61

def appendU (q : Bool) (e sz i k len n : Nat) (new : List Value) (A : AW) : OR :=
  match Nat.beq n 0 with
  | true => .val (.slice (some ⟨i, k, none⟩) len unk) A
  | false => match ones new, A.heap.get i with
    | true, some (.cells c e' f z) => match Nat.beq e' e, Nat.beq z sz, takeAt c k (Nat.mul len sz) with
      | true, true, some old => match Nat.beq k 0 with
        | true => .val (.slice (some ⟨A.next, 0, none⟩) (Nat.add len n) unk) (A.grow q f (Nat.mul len sz) (.cells (old ++ new) e' f z))
        | false => match Nat.beq (Nat.mod k sz) 0 with
          | true => .val (.slice (some ⟨A.next, 0, none⟩) (Nat.add len n) unk) (A.grow true f (Nat.mul len sz) (.cells (old ++ new) e' f z))
          | false => .fail 72
      | _, _, _ => .fail 62
    | _, _ => .fail 63

def appendN (e sz n : Nat) (new : List Value) (A : AW) : OR :=
  match Nat.beq n 0 with
  | true => .val (.slice none 0 0) A
  | false => .val (.slice (some ⟨A.next, 0, none⟩) n unk) (A.new (.cells new e A.next sz))

def doAppend (C : Cfg) (ts : List TypeId) (args : List Value) (A : AW) : OR :=
  match ts, args with
  | [t, tx], [.slice a len cap, x] => match C.under t, C.under tx with
    | some (.slice e), some dx => match C.tys.get e, lenOfV x with
      | some inf, some n => match isSrc dx, Nat.ble (Nat.add len n) 1000000, Nat.ble inf.bytes 1000000, inf.zero with
        | true, true, true, some z => match Nat.beq (vcells z).length inf.size, srcCells C A inf.size n x with
          | true, some new => match Nat.beq new.length (Nat.mul n inf.size) with
            | true => match a with
              | none => appendN e inf.size n new A
              | some ⟨i, k, none⟩ => match Nat.beq cap unkE with
                | true => .fail 64
                | false => match Nat.beq cap unk with
                  | false => appendK e inf.size i k len cap n new A
                  | true => appendU C.sy e inf.size i k len n new A
              | some ⟨_, _, some _⟩ => .fail 65
            | false => .fail 71
          | _, _ => .fail 66
        | _, _, _, _ => .fail 67
      | _, _ => .fail 68
    | _, _ => .fail 69
  | _, _ => .fail 70

/-- The value that growth leaves. -/
theorem grown_rel {γ : Gam} {j len c n sz : Nat} {g : GI} (hg : γ j = some g) (hl : len ≤ c) (hn : c * sz ≤ n) (h1 : g.n = n) (h2 : g.sz = sz) (h0 : g.off = 0) :
    VRel γ (.slice (some ⟨j, 0, none⟩) len unk) (.slice (some ⟨g.blk, 0, none⟩) len c) := by
  have := VRel.slice 0 len unk c hg (.inr ⟨rfl, hl, by rw [h1, h2, h0]; omega⟩)
  rw [h0] at this
  exact this

theorem alloc_grown {γ : Gam} {A : AW} {W : World} (hw : WRel γ A W) {e sz len c zn : Nat} {cs cs' : List Value} {rest : Array Value} (hr : VsRel γ cs cs') (hl : len ≤ c) (hlen : cs.length = len * sz) (hrest : rest.size = (c - len) * zn) (hz : zn = sz) :
    ∃ v' γ', VRel γ' (.slice (some ⟨A.next, 0, none⟩) len unk) v' ∧ v' = .slice (some ⟨W.heap.size, 0, none⟩) len c ∧ WRel γ' (A.new (.cells cs e A.next sz)) (W.drew.alloc (.cells (cs'.toArray ++ rest) e)) ∧ Ext γ W γ' (W.drew.alloc (.cells (cs'.toArray ++ rest) e)) := by
  have hw' := hw.drew
  have hcells : CellsRel (γ.set A.next (gi W.drew.heap.size ((cs'.toArray ++ rest).size) sz)) 0 cs (cs'.toArray ++ rest) := fun k v hk => by
    obtain ⟨v', hv', hvr⟩ := hr.get hk
    have hkl : k < cs'.length := (List.getElem?_eq_some_iff.1 hv').1
    refine ⟨v', ?_, hvr.mono (Gam.le_set _ (hw.fresh _ (Nat.le_refl _)))⟩
    rw [Nat.zero_add, Array.getElem?_append_left (by simpa using hkl)]
    simpa using hv'
  obtain ⟨g1, g2⟩ := hw'.alloc (.cells cs e A.next sz) (.cells (cs'.toArray ++ rest) e) (cs'.toArray ++ rest).size sz
    (.cells (heap_alloc_new _ _) (free_zero _) rfl rfl hcells) (fun _ _ _ _ he => by cases he; rfl)
  have hsz : (cs'.toArray ++ rest).size = c * sz := by
    have := hr.length
    simp only [Array.size_append, List.size_toArray, hrest, hz]
    rw [this, hlen, ← Nat.add_mul]
    congr 1
    omega
  exact ⟨_, _, grown_rel (g := (gi W.drew.heap.size ((cs'.toArray ++ rest).size) sz)) (Gam.set_same _ _ _) hl (Nat.le_of_eq hsz.symm) rfl rfl rfl, rfl, g1, (Ext.drew γ W).trans g2⟩

theorem doAppend_ok {C : Cfg} (hC : C.Ok) {γ : Gam} {A : AW} {W : World} (hw : WRel γ A W) (hro : Ro C.ro γ W) (ts : Array TypeId) (ty : Nat) {args : List Value} {args' : Array Value} (ha : VsRel γ args args'.toList) :
    VOk C.P γ W (doAppend C ts.toList args A) (Builtin.append_ ts ty args') := by
  unfold doAppend
  split
  · rename_i t tx a len cap x hts
    obtain ⟨s', x', hargs, hs, hx⟩ : ∃ s' x', args' = #[s', x'] ∧ VRel γ (.slice a len cap) s' ∧ VRel γ x x' := by
      obtain ⟨l⟩ := args'
      cases ha with
      | cons h1 hl => cases hl with
        | cons h2 hl => cases hl with
          | nil => exact ⟨_, _, rfl, h1, h2⟩
    have hts' : ts = #[t, tx] := by apply Array.ext'; simpa using hts
    subst hargs
    subst hts'
    split
    · rename_i e dx he hdx
      split
      · rename_i inf n hinf hn
        split
        · rename_i z c1 c2 c3 hz
          split
          · rename_i new hzl hnew
            have hsm := ble_le c2
            have hby := ble_le c3
            have hzn : z.cells.size = inf.size := by rw [← Nat.eq_of_beq_eq_true hzl, ← cells_toList]; simp
            have hte := hC.under he
            have htx := hC.under hdx
            have hi := hC.ty _ _ hinf
            have hlen := lenOf_rel (P := C.P) hx hn W
            obtain ⟨new', hn1, hnr⟩ := src_rel (P := C.P) hw hro hx hnew
            obtain ⟨new2, hn2, hnr2⟩ := src_rel (P := C.P) hw.drew hro.drew hx hnew
            split
            · rename_i hnl0
              have hnl : new.length = n * inf.size := Nat.eq_of_beq_eq_true hnl0
              split
              · -- onto nil
                cases hs
                unfold appendN
                split
                · rename_i h0
                  have h0' := Nat.eq_of_beq_eq_true h0
                  subst h0'
                  exact .same hw (run_append_nil0 hte htx c1 hi hlen hn1) .sliceNil
                · rename_i h0
                  have h0' : n ≠ 0 := Nat.ne_of_beq_eq_false h0
                  obtain ⟨rest, c, hc, hrest, hrun⟩ := run_append_grow (ty := ty) (base := none) (len := 0) (cap := 0) (olds := []) hte htx c1 hi hz hlen hn2 (by simp [Builtin.firstCells]) (by omega) (by simpa using hsm) hby
                  obtain ⟨v', γ', q1, rfl, q2, q3⟩ := alloc_grown hw (e := e) (sz := inf.size) (len := n) (c := c) hnr2 (by omega) hnl (by simpa using hrest) hzn
                  refine ⟨_, γ', _, ?_, q1, q2, q3⟩
                  simpa using hrun
              · rename_i i k
                split
                · trivial
                · rename_i hE
                  cases hs with
                  | sliceE => simp at hE
                  | slice k l c c' hg hc =>
                    rename_i g
                    split
                    · -- the capacity is known
                      rename_i hU
                      have hcc : c' = cap := by
                        rcases hc with hc | hc
                        · exact hc.1
                        · rw [hc.1] at hU; simp at hU
                      subst hcc
                      unfold appendK
                      split
                      · rename_i hfit
                        split
                        · rename_i A' hst
                          obtain ⟨g', W', hg', hr, hw', hext⟩ := store_rel (P := C.P) hw hst hnr
                          rw [hg] at hg'
                          cases hg'
                          refine ⟨.slice (some ⟨g.blk, g.off + k, none⟩) (len + n) c', γ, W', ?_, .slice _ _ _ _ hg (.inl ⟨rfl, ?_⟩), hw', hext⟩
                          · exact run_append_some hte htx c1 hi hlen hn1 (ble_le hfit) (by rw [Nat.add_assoc]; exact hr)
                          · rcases hc with hc | hc
                            · exact hc.2
                            · rw [hc.1] at hU; simp at hU
                        · trivial
                      · rename_i hfit
                        split
                        · rename_i old hold
                          have hno : c' < len + n := by
                            have : ¬ (len + n ≤ c') := fun hh => by
                              have hh' : Nat.ble (Nat.add len n) c' = true := Nat.ble_eq_true_of_le hh
                              rw [hh'] at hfit
                              cases hfit
                            omega
                          obtain ⟨g', old', hg', hr, hor⟩ := load_rel (P := C.P) hw.drew hold
                          rw [hg] at hg'
                          cases hg'
                          have hol : old.length = len * inf.size := by
                            unfold AW.load at hold
                            split at hold
                            · exact (takeAt_spec _ _ _ _ hold).1
                            · cases hold
                          obtain ⟨rest, c, hc', hrest, hrun⟩ := run_append_grow (ty := ty) (base := some ⟨g.blk, g.off + k, none⟩) (len := len) (cap := c') (olds := old') hte htx c1 hi hz hlen hn2 (by simpa [Builtin.firstCells] using hr) hno hsm hby
                          obtain ⟨v', γ', q1, rfl, q2, q3⟩ := alloc_grown hw (e := e) (sz := inf.size) (len := len + n) (c := c) (hor.append hnr2) hc' (by rw [List.length_append, hol, hnl, Nat.add_mul]) hrest hzn
                          exact ⟨_, γ', _, hrun, q1, q2, q3⟩
                        · trivial
                    · -- the capacity is not known
                      rename_i hU
                      have hcu : cap = unk := Nat.eq_of_beq_eq_true hU
                      have hc' : len ≤ c' ∧ g.off + k + c' * g.sz ≤ g.n := by
                        rcases hc with h | h
                        · exact absurd hcu h.2
                        · exact h.2
                      subst hcu
                      unfold appendU
                      split
                      · rename_i h0
                        have h0' := Nat.eq_of_beq_eq_true h0
                        subst h0'
                        have hnil : new' = [] := List.eq_nil_of_length_eq_zero (by rw [hnr.length, hnl]; simp)
                        subst hnil
                        exact .same hw (run_append_some hte htx c1 hi hlen hn1 (by omega) rfl) (.slice _ _ _ _ hg (.inr ⟨rfl, hc'.1, hc'.2⟩))
                      · split
                        · rename_i cs e' f z' hones hget
                          split
                          · rename_i old he' hz' hold
                            have hee : e' = e := Nat.eq_of_beq_eq_true he'
                            subst hee
                            have hzz : z' = inf.size := Nat.eq_of_beq_eq_true hz'
                            subst hzz
                            obtain ⟨o1', o2'⟩ := takeAt_spec _ _ _ _ hold
                            have o1 : old.length = len * inf.size := o1'
                            have o2 : ∀ j, j < len * inf.size → cs[k + j]? = old[j]? := o2'
                            clear o1' o2'
                            obtain ⟨g', hg', ho⟩ := hw.obj _ _ hget
                            rw [hg] at hg'
                            cases hg'
                            cases ho with
                            | cells hb hf hn' hzs hcr =>
                              rename_i cc fr
                              have hcap := hc'.2
                              rw [hzs] at hcap
                              suffices key : ∀ q, k % inf.size = 0 → (q = true ∨ k = 0) → VOk C.P γ W (.val (.slice (some ⟨A.next, 0, none⟩) (Nat.add len n) unk) (A.grow q f (Nat.mul len inf.size) (.cells (old ++ new) e' f inf.size))) (Builtin.append_ #[t, tx] ty #[.slice (some ⟨g.blk, g.off + k, none⟩) len c', x']) by
                                split
                                · rename_i hk
                                  have hk0 := Nat.eq_of_beq_eq_true hk
                                  exact key _ (by rw [hk0]; exact Nat.zero_mod _) (.inr hk0)
                                · split
                                  · rename_i hk
                                    exact key _ (Nat.eq_of_beq_eq_true hk) (.inl rfl)
                                  · trivial
                              intro q hal hq'
                              have hal' : k % g.sz = 0 := by rw [hzs]; exact hal
                              by_cases hfit : len + n ≤ c'
                              · -- in place
                                have hroom : (len + n) * inf.size ≤ c' * inf.size := Nat.mul_le_mul_right _ hfit
                                rw [Nat.add_mul] at hroom
                                obtain ⟨cc', hrun, hsz, hcg⟩ := run_store_row (P := C.P) (e := e') new' 0 W g.blk (g.off + k + len * inf.size) cc hb hf (by rw [hnr.length, hnl]; omega) (ones_rel hnr hones)
                                obtain ⟨q1, q2⟩ := hw.grow_in (q := q) (x := k) (n := len * inf.size) (c' := old ++ new) hget hg hb hsz hal' hq'
                                  (fun j hj => by rw [hcg j, if_neg (by omega)])
                                  (.cells (setB_same _ (lt_of_heap hb)) (by rw [hsz]; exact hf) (hsz.trans hn') hzs fun j v hj => by
                                    have hle := Gam.le_set (g.at k hal') (hw.fresh _ (Nat.le_refl A.next))
                                    show ∃ v', cc'[g.off + k + j]? = some v' ∧ _
                                    by_cases hjo : j < old.length
                                    · rw [List.getElem?_append_left hjo] at hj
                                      rw [hcg (g.off + k + j), if_neg (by omega)]
                                      have := o2 j (by omega)
                                      rw [hj] at this
                                      obtain ⟨v', hv', hvr⟩ := hcr (k + j) v this
                                      exact ⟨v', by rw [Nat.add_assoc]; exact hv', hvr.mono hle⟩
                                    · rw [List.getElem?_append_right (by omega)] at hj
                                      have hjl : j - old.length < new.length := (List.getElem?_eq_some_iff.1 hj).1
                                      obtain ⟨v', hv', hvr⟩ := hnr.get hj
                                      have hnl' := hnr.length
                                      rw [hcg (g.off + k + j), if_pos (by omega)]
                                      rw [show g.off + k + j - (g.off + k + len * inf.size + 0) = j - old.length by omega]
                                      exact ⟨v', hv', hvr.mono hle⟩)
                                refine ⟨.slice (some ⟨g.blk, g.off + k, none⟩) (len + n) c', _, _, run_append_some hte htx c1 hi hlen hn1 hfit hrun, ?_, q1, q2⟩
                                exact .slice (g := g.at k hal') 0 _ _ _ (Gam.set_same _ _ _) (.inr ⟨rfl, hfit, by show g.off + k + 0 + c' * g.sz ≤ g.n; rw [hzs]; omega⟩)
                              · -- into a new row
                                obtain ⟨g', old', hg', hr, hor⟩ := load_rel (P := C.P) (i := i) (k := k) (n := len * inf.size) (r := old) hw.drew (by simp only [AW.load, hget]; exact hold)
                                rw [hg] at hg'
                                cases hg'
                                obtain ⟨rest, c, hc2, hrest, hrun⟩ := run_append_grow (ty := ty) (base := some ⟨g.blk, g.off + k, none⟩) (len := len) (cap := c') (olds := old') hte htx c1 hi hz hlen hn2 (by simpa [Builtin.firstCells] using hr) (by omega) hsm hby
                                have hall := hor.append hnr2
                                obtain ⟨q1, q2⟩ := hw.drew.grow_new (q := q) (n := len * inf.size) (c' := old ++ new) (e' := e') hget ((old' ++ new2).toArray ++ rest)
                                  (by have e : ((old' ++ new2).toArray ++ rest).toList.take (old ++ new).length = old' ++ new2 := by
                                        rw [← hall.length, Array.toList_append]
                                        exact List.take_left
                                      rw [e]
                                      exact hall)
                                have hl := hall.length
                                refine ⟨_, _, _, hrun, ?_, q1, (Ext.drew γ W).trans q2⟩
                                have hfin := grown_rel (γ := γ.set A.next (gi W.drew.heap.size (((old' ++ new2).toArray ++ rest).size) inf.size)) (j := A.next) (len := len + n) (c := c) (n := ((old' ++ new2).toArray ++ rest).size) (sz := inf.size) (Gam.set_same _ _ _) hc2 ?_ rfl rfl rfl
                                exact hfin
                                have : (c - (len + n)) * inf.size + (len + n) * inf.size = c * inf.size := by rw [← Nat.add_mul, Nat.sub_add_cancel hc2]
                                have h3 : (len + n) * inf.size = len * inf.size + n * inf.size := Nat.add_mul _ _ _
                                simp only [Array.size_append, List.size_toArray, hrest, hzn, hl, List.length_append, o1, hnl]
                                omega
                          · trivial
                        · trivial
              · trivial
            · trivial
          · trivial
        · trivial
      · trivial
    · trivial
  · trivial

theorem run_append_zeros {P : Program} {W : World} {t tx ty e : Nat} {k kx : IntKind} {inf : TypeInfo} {z : Value} {n : Nat} (ht : P.underlying t = some (.slice e)) (hx : P.underlying tx = some (.int k)) (hi : P.info? e = some inf) (hz : inf.zero = some z)
    (h0 : n ≠ 0) (hsm : n ≤ 1000000) (hb : inf.bytes ≤ 1000000) (hs0 : inf.size ≠ 0) :
    ∃ (rest : Array Value) (c : Nat), n ≤ c ∧ rest.size = (c - n) * z.cells.size ∧
      (Builtin.append_ #[t, tx] ty #[.slice none 0 0, .int kx n]).run P W = .ok (.slice (some ⟨W.heap.size, 0, none⟩) n c) (W.drew.alloc (.cells ((Builtin.zeroCells z.cells n) ++ rest) e)) := by
  have hw : IntKind.wrap .i64 (n : Int) = n := by
    simp [IntKind.wrap, IntKind.bits, IntKind.signed]; omega
  have hneg : ¬ ((n : Int) < 0) := by omega
  have h1 : ¬ (9223372036854775807 < (n : Int)) := by omega
  have h4 : n * inf.bytes ≤ 1000000 * 1000000 := Nat.mul_le_mul hsm hb
  have hbig : ¬ (281474976710656 < (n : Int) * (inf.bytes : Int)) := by
    have : ((n * inf.bytes : Nat) : Int) = (n : Int) * (inf.bytes : Int) := by simp
    omega
  have h2 : ¬ (281474976710656 < Builtin.nextslicecap n 0 * inf.bytes) := by
    have h3 := Go.nextslicecap_le (need := n) (old := 0) (by omega)
    have h5 : Builtin.nextslicecap n 0 * inf.bytes ≤ 2000000 * 1000000 := Nat.mul_le_mul (by omega) hb
    omega
  have hns : n * inf.size ≠ 0 := Nat.mul_ne_zero h0 hs0
  have hq : (Question.appendCap n 0 e).forced = false := rfl
  have hA : ∀ W, (asInt (.int kx (n : Int))).run P W = .ok (n : Int) W := fun _ => rfl
  refine ⟨Builtin.zeroCells z.cells (Question.cut (.appendCap n 0 e) (W.tape W.drawn (.appendCap n 0 e)) - n), Question.cut (.appendCap n 0 e) (W.tape W.drawn (.appendCap n 0 e)), ?_, ?_, ?_⟩
  · simp [Question.cut]
  · simp [Builtin.zeroCells]
  · simp [Builtin.append_, run_underlying ht, run_underlying hx, run_sizeOf' hi, run_typeInfo' hi, run_zeroValue' hi hz, hA, hw, hneg, hbig, hns, h0, h1, h2, hq, newRow, Builtin.firstCells]

/-- append, of zeros as well. -/
def doAppendM (C : Cfg) (ts : List TypeId) (args : List Value) (A : AW) : OR :=
  match ts, args with
  | [t, tx], [.slice none 0 0, .int _ (.ofNat n)] => match C.under t, C.under tx with
    | some (.slice e), some (.int _) => match C.tys.get e with
      | some inf => match inf.zero with
        | some z => match gnds (vcells z), Nat.beq (vcells z).length inf.size, Nat.blt 0 inf.size, Nat.blt 0 n with
          | true, true, true, true => match Nat.ble n 1000000, Nat.ble inf.bytes 1000000 with
            | true, true => .val (.slice (some ⟨A.next, 0, none⟩) n unk) (A.new (.cells (zerosL (Nat.mul n inf.size) (vcells z)) e A.next inf.size))
            | _, _ => .fail 340
          | _, _, _, _ => .fail 341
        | none => .fail 342
      | none => .fail 343
    | _, _ => .fail 344
  | _, _ => doAppend C ts args A

theorem doAppendM_ok {C : Cfg} (hC : C.Ok) {γ : Gam} {A : AW} {W : World} (hw : WRel γ A W) (hro : Ro C.ro γ W) (ts : Array TypeId) (ty : Nat) {args : List Value} {args' : Array Value} (ha : VsRel γ args args'.toList) :
    VOk C.P γ W (doAppendM C ts.toList args A) (Builtin.append_ ts ty args') := by
  unfold doAppendM
  split
  · rename_i t tx kx n hts
    obtain ⟨s', x', hargs, hs, hx⟩ : ∃ s' x', args' = #[s', x'] ∧ VRel γ (.slice none 0 0) s' ∧ VRel γ (.int kx (.ofNat n)) x' := by
      obtain ⟨l⟩ := args'
      cases ha with
      | cons h1 hl => cases hl with
        | cons h2 hl => cases hl with
          | nil => exact ⟨_, _, rfl, h1, h2⟩
    have hts' : ts = #[t, tx] := by apply Array.ext'; simpa using hts
    subst hargs
    subst hts'
    cases hs
    cases hx
    split
    · rename_i e k he hdx
      split
      · rename_i inf hinf
        split
        · rename_i z hz
          split
          · rename_i hgz hzl hs0 hn0
            split
            · rename_i hsm hby
              have hzl' := Nat.eq_of_beq_eq_true hzl
              have hcz : z.cells.toList = vcells z := cells_toList z
              have hzn : z.cells.size = inf.size := by rw [← hzl', ← hcz]; simp
              obtain ⟨rest, c, hc, hrest, hrun⟩ := run_append_zeros (W := W) (ty := ty) (kx := kx) (hC.under he) (hC.under hdx) (hC.ty _ _ hinf) hz (n := n) (by have := blt_lt hn0; omega) (ble_le hsm) (ble_le hby) (by have := blt_lt hs0; omega)
              have hzr := zeros_rel γ (n * z.cells.size) z hgz hcz
              obtain ⟨v', γ', q1, rfl, q2, q3⟩ := alloc_grown hw (e := e) (sz := inf.size) (len := n) (c := c) hzr (by omega) (by rw [hzn]; unfold zerosL; split <;> simp) (by simpa using hrest) hzn
              have e1 : (((Array.range (n * z.cells.size)).map (z.cells[· % z.cells.size]!)).toList).toArray = Builtin.zeroCells z.cells n := by unfold Builtin.zeroCells; exact Array.ext' rfl
              have e2 : n * z.cells.size = Nat.mul n inf.size := by rw [hzn]; rfl
              rw [e1] at q2 q3
              rw [e2] at q2
              exact ⟨_, γ', _, hrun, q1, q2, q3⟩
            · trivial
          · trivial
        · trivial
      · trivial
    · trivial
  · exact doAppend_ok hC hw hro ts ty ha

end Go.Ev
