/- A region that draws its order: what each operation's slot may hold, whatever came up before it. No order is looked at: a condition that each operation keeps. -/
import Derived.OrdersHeld
import Derived.Deep.RegionHeld
import Derived.Test.YtmcafiihicanfaaDoorProg
set_option linter.unusedVariables false
set_option linter.unusedSimpArgs false
namespace Go.Proofs.YtmcafiihicanfaaDoor
namespace Inv

/-- How many are still to come. -/
def left (listed : Array Bool) : Nat := listed.toList.count false
theorem left_set {listed : Array Bool} {i : Nat} (h : listed.getD i true = false) : left (listed.setIfInBounds i true) + 1 = left listed := by
  obtain ⟨l⟩ := listed
  have hi : i < l.length := by
    by_cases hi : i < l.length
    · exact hi
    · simp [Array.getD, hi] at h
  have hl : l[i] = false := by simpa [Array.getD, hi] using h
  have hpos : 0 < l.count false := List.count_pos_iff.2 (hl ▸ List.getElem_mem hi)
  unfold left
  simp only [List.setIfInBounds_toArray]
  rw [List.count_set hi, hl]
  simp
  omega
theorem left_zero {listed : Array Bool} {i : Nat} (h : left listed = 0) : listed.getD i true = true := by
  cases hc : listed.getD i true with
  | true => rfl
  | false => have := left_set hc; omega
section
variable {P : Program} {ops : Array Oper} {Q : Exit → Act → World → Prop} {md : Region.Mode}
theorem wpAny_inv (I : Array Bool → Act → World → Prop) (hend : ∀ listed a w, I listed a w → Region.ready md ops listed = [] → Q .normal a w)
    (hstep : ∀ listed a w i o, I listed a w → i ∈ Region.ready md ops listed → ops[i]? = some o → o.guard = none ∧ ∃ v w', (execOp a.eval o).run P w = .ok (.value v) w' ∧ I (listed.setIfInBounds i true) (a.put o.dst v) w') :
    ∀ (fuel : Nat) (listed : Array Bool) (a : Act) (w : World), left listed ≤ fuel → I listed a w → wpAny P md ops Q fuel listed a w
  | 0, listed, a, w, hl, hI => by
    have hr : Region.ready md ops listed = [] := by
      cases hr : Region.ready md ops listed with
      | nil => rfl
      | cons i rs =>
        have := (mem_ready.1 (hr ▸ List.mem_cons_self : i ∈ Region.ready md ops listed)).1
        rw [left_zero (by omega)] at this; cases this
    exact ⟨hr, hend _ _ _ hI hr⟩
  | fuel + 1, listed, a, w, hl, hI => by
    refine ⟨fun hr => hend _ _ _ hI hr, fun i hi => ?_⟩
    obtain ⟨hu, o, ho, _⟩ := mem_ready.1 hi
    obtain ⟨hg, v, w', hrun, hI'⟩ := hstep listed a w i o hI hi ho
    unfold wpOp
    simp only [ho]
    rw [if_pos (by simp [Region.wanted, hg])]
    refine .inl ?_
    unfold Oper.wp
    simp only [hrun, Oper.upon]
    exact wpAny_inv I hend hstep fuel _ _ _ (by have := left_set hu; omega) hI'
/-- What holds while the operations come up. -/
structure Holds (a0 : Act) (ops : Array Oper) (C : World → Prop) (R : Nat → Value → World → Prop) (listed : Array Bool) (a : Act) (w : World) : Prop where
  ls : listed.size = ops.size
  world : C w
  defs : a.defers = a0.defers
  size : a.tmps.size = a0.tmps.size
  own : ∀ (i : Nat) (o : Oper) (d : Nat), ops[i]? = some o → o.dst = some d → listed.getD i false = true → R i (a.tmps.getD d undef) w
  other : ∀ t, (∀ (i : Nat) (o : Oper), ops[i]? = some o → o.dst = some t → listed.getD i false = false) → a.tmps.getD t undef = a0.tmps.getD t undef
/-- The region's form: slots are unlike, operations wait only for those ahead. -/
structure RForm (md : Region.Mode) (ops : Array Oper) (n : Nat) : Prop where
  dst : ∀ (i : Nat) (o : Oper), ops[i]? = some o → o.guard = none ∧ ∃ d, o.dst = some d ∧ d < n
  apart : ∀ (i j : Nat) (o p : Oper), ops[i]? = some o → ops[j]? = some p → o.dst = p.dst → i = j
  ahead : ∀ (i : Nat) (o : Oper), ops[i]? = some o → ∀ e ∈ o.after, Region.binds md e = true → e.on < i
def dsts (ops : Array Oper) : List Nat := ops.toList.filterMap (·.dst)
theorem put_size (a : Act) (d : Option Tmp) (v : Value) : (a.put d v).tmps.size = a.tmps.size := by cases d <;> simp [Act.put]
theorem put_same (a : Act) (d : Nat) (v : Value) (h : d < a.tmps.size) : (a.put (some d) v).tmps.getD d undef = v := by simp [Act.put, h]
theorem put_other (a : Act) (d t : Nat) (v : Value) (h : t ≠ d) : (a.put (some d) v).tmps.getD t undef = a.tmps.getD t undef := by
  simp only [Act.put, Array.getD_eq_getD_getElem?]
  rw [Array.getElem?_setIfInBounds_ne (Ne.symm h)]
theorem fold_eq (a : Act) : ∀ (L : List Nat) (a0 : Act), a.defers = a0.defers → a.tmps.size = a0.tmps.size → (∀ d ∈ L, d < a0.tmps.size) → (∀ t, t ∉ L → a.tmps.getD t undef = a0.tmps.getD t undef) → L.foldl (fun b d => b.put (some d) (a.tmps.getD d undef)) a0 = a
  | [], a0, hd, hs, _, h => by
    obtain ⟨t, d⟩ := a
    obtain ⟨t0, d0⟩ := a0
    simp only at hd hs h
    subst hd
    show Act.mk t0 _ = Act.mk t _
    congr 1
    apply Array.ext hs.symm
    intro i h1 h2
    have := h i (by simp)
    simpa [h1, h2] using this.symm
  | d :: L, a0, hd, hs, hb, h => by
    refine fold_eq a L (a0.put (some d) (a.tmps.getD d undef)) hd (by rw [put_size]; exact hs) (fun x hx => by rw [put_size]; exact hb x (by simp [hx])) fun t ht => ?_
    by_cases e : t = d
    · subst e; rw [put_same _ _ _ (hb t (by simp))]
    · rw [put_other _ _ _ _ e]; exact h t (by simp [e, ht])
/-- Does an operation wait for another one? -/
def waits (md : Region.Mode) (o : Oper) (j : Nat) : Bool := o.after.any fun e => Region.binds md e && e.on == j
/-- What an operation does, told by what its slot may hold: it asks only for what the operations that it waits for hold, and for the slots that nobody writes. -/
structure StepOk (P : Program) (md : Region.Mode) (ops : Array Oper) (a0 : Act) (C : World → Prop) (R : Nat → Value → World → Prop) (i : Nat) (o : Oper) : Prop where
  run : ∀ (a : Act) (w : World), C w → (∀ (j : Nat) (p : Oper) (d : Nat), ops[j]? = some p → p.dst = some d → waits md o j = true → R j (a.tmps.getD d undef) w) → (∀ t, t ∉ dsts ops → a.tmps.getD t undef = a0.tmps.getD t undef) →
    ∃ v w', (execOp a.eval o).run P w = .ok (.value v) w' ∧ C w' ∧ R i v w' ∧ ∀ j u, R j u w → R j u w'
theorem getD_set_same (l : Array Bool) (i : Nat) (h : l.getD i true = false) : (l.setIfInBounds i true).getD i false = true := by
  have hi : i < l.size := by
    by_cases hi : i < l.size
    · exact hi
    · simp [Array.getD, hi] at h
  simp [hi]
theorem getD_set_other (l : Array Bool) (i j : Nat) (h : j ≠ i) : (l.setIfInBounds i true).getD j false = l.getD j false := by
  simp only [Array.getD_eq_getD_getElem?]
  rw [Array.getElem?_setIfInBounds_ne (Ne.symm h)]
theorem getD_false {l : Array Bool} {i : Nat} (h : l.getD i true = false) : l.getD i false = false := by
  by_cases hi : i < l.size
  · simpa [Array.getD, hi] using h
  · simp [Array.getD, hi]
theorem mem_dsts {i : Nat} {o : Oper} {d : Nat} (h : ops[i]? = some o) (hd : o.dst = some d) : d ∈ dsts ops := by
  unfold dsts
  rw [List.mem_filterMap]
  exact ⟨o, Array.mem_toList_iff.2 (Array.mem_of_getElem? h), hd⟩
theorem of_dsts {d : Nat} (h : d ∈ dsts ops) : ∃ (i : Nat) (o : Oper), ops[i]? = some o ∧ o.dst = some d := by
  unfold dsts at h
  rw [List.mem_filterMap] at h
  obtain ⟨o, ho, hd⟩ := h
  obtain ⟨i, hi⟩ := Array.mem_iff_getElem?.1 (Array.mem_toList_iff.1 ho)
  exact ⟨i, o, hi, hd⟩
/-- **A region that draws its order, by a condition that each operation keeps.** -/
theorem wp_region_inv {id : Nat} {a0 : Act} {w0 : World} (hm : P.follows .mixedOrders = true) (C : World → Prop) (R : Nat → Value → World → Prop) (hform : RForm .any ops a0.tmps.size) (hC : C w0.drew)
    (hsteps : ∀ (i : Nat) (o : Oper), ops[i]? = some o → StepOk P .any ops a0 C R i o)
    (hQ : ∀ (f : Nat → Value) (w : World), C w → (∀ (i : Nat) (o : Oper) (d : Nat), ops[i]? = some o → o.dst = some d → R i (f d) w) → Q .normal ((dsts ops).foldl (fun b d => b.put (some d) (f d)) a0) w) :
    (Code.region id ops true).wp P Q a0 w0 := by
  refine wp_region_any hm (wpAny_inv (Holds a0 ops C R) (fun listed a w h hr => ?_) (fun listed a w i o h hi ho => ?_) _ _ _ _ ?_ ?_)
  · have hall : ∀ i, i < ops.size → listed.getD i true = true := by
      intro i
      induction i using Nat.strongRecOn with
      | ind i ih =>
        intro hi
        cases hc : listed.getD i true with
        | true => rfl
        | false =>
          have ho : ops[i]? = some ops[i] := Array.getElem?_eq_getElem hi
          have : i ∈ Region.ready .any ops listed := mem_ready.2 ⟨hc, ops[i], ho, fun e he hb => by
            have hlt := hform.ahead i _ ho e he hb
            have := ih e.on hlt (by omega)
            have hz : e.on < listed.size := by rw [h.ls]; omega
            simpa [Array.getD, hz] using this⟩
          rw [hr] at this; cases this
    have hall2 : ∀ (i : Nat) (o : Oper), ops[i]? = some o → listed.getD i false = true := fun i o ho => by
      have hi := (Array.getElem?_eq_some_iff.1 ho).1
      have := hall i hi
      have hz : i < listed.size := by rw [h.ls]; exact hi
      simpa [Array.getD, hz] using this
    have hf := fold_eq a (dsts ops) a0 h.defs h.size (fun d hd => by
      obtain ⟨i, o, ho, e⟩ := of_dsts hd
      obtain ⟨_, d', e', hlt⟩ := hform.dst i o ho
      rw [e] at e'; cases e'; exact hlt) (fun t ht => h.other t fun i o ho e => absurd (mem_dsts ho e) ht)
    rw [← hf]
    exact hQ (fun d => a.tmps.getD d undef) w h.world fun i o d ho hd => h.own i o d ho hd (hall2 i o ho)
  · obtain ⟨hu, o', ho', hrdy⟩ := mem_ready.1 hi
    rw [ho] at ho'; cases ho'
    obtain ⟨hg, d, hd, hlt⟩ := hform.dst i o ho
    obtain ⟨v, w', hrun, hC', hR, hmono⟩ := (hsteps i o ho).run a w h.world (fun j p e hp he hx => by
      unfold waits at hx
      rw [Array.any_eq_true'] at hx
      obtain ⟨x, hxm, hx2⟩ := hx
      simp only [Bool.and_eq_true, beq_iff_eq] at hx2
      exact h.own j p e hp he (by rw [← hx2.2]; exact hrdy x hxm hx2.1)) (fun t ht => h.other t fun j p hp he => absurd (mem_dsts hp he) ht)
    refine ⟨hg, v, w', hrun, ⟨by simpa using h.ls, hC', by rw [hd]; exact h.defs, by rw [put_size]; exact h.size, fun j p e hp he hl => ?_, fun t ht => ?_⟩⟩
    · rw [hd]
      by_cases hji : j = i
      · subst hji
        rw [ho] at hp; cases hp
        rw [hd] at he; cases he
        rw [put_same _ _ _ (by rw [h.size]; exact hlt)]
        exact hR
      · have hde : e ≠ d := fun e2 => hji (hform.apart j i p o hp ho (by rw [he, hd, e2]))
        rw [put_other _ _ _ _ hde]
        rw [getD_set_other _ _ _ hji] at hl
        exact hmono _ _ (h.own j p e hp he hl)
    · rw [hd]
      have htd : t ≠ d := fun e2 => by
        have := ht i o ho (by rw [hd, e2])
        rw [getD_set_same _ _ hu] at this; cases this
      rw [put_other _ _ _ _ htd]
      refine h.other t fun j p hp he => ?_
      by_cases hji : j = i
      · subst hji; exact getD_false hu
      · have := ht j p hp he
        rwa [getD_set_other _ _ _ hji] at this
  · unfold left
    simp
  · exact ⟨by simp, hC, rfl, rfl, fun i o d ho hd hl => by
      have hi := (Array.getElem?_eq_some_iff.1 ho).1
      simp [Array.getD, hi] at hl, fun t _ => rfl⟩
/-- The form, reckoned. -/
def formB (md : Region.Mode) (ops : Array Oper) (n : Nat) : Bool :=
  (ops.toList.all fun o => o.guard.isNone && (match o.dst with | some d => decide (d < n) | none => false)) && decide (ops.toList.map (fun o => o.dst.getD 0)).Nodup &&
    (List.range ops.size).all fun i => match ops[i]? with | none => true | some o => o.after.all fun e => !Region.binds md e || decide (e.on < i)
theorem formB_spec {n : Nat} (h : formB md ops n = true) : RForm md ops n := by
  unfold formB at h
  simp only [Bool.and_eq_true, decide_eq_true_eq, List.all_eq_true] at h
  obtain ⟨⟨h1, h2⟩, h3⟩ := h
  have hd : ∀ (i : Nat) (o : Oper), ops[i]? = some o → o.guard = none ∧ ∃ d, o.dst = some d ∧ d < n := fun i o ho => by
    obtain ⟨g, d⟩ := h1 o (Array.mem_toList_iff.2 (Array.mem_of_getElem? ho))
    refine ⟨by simpa using g, ?_⟩
    cases hx : o.dst with
    | none => rw [hx] at d; cases d
    | some x => rw [hx] at d; exact ⟨x, rfl, by simpa using d⟩
  refine ⟨hd, fun i j o p ho hp e => ?_, fun i o ho e he hb => ?_⟩
  · have hi := (Array.getElem?_eq_some_iff.1 ho)
    have hj := (Array.getElem?_eq_some_iff.1 hp)
    obtain ⟨hi1, hi2⟩ := hi
    obtain ⟨hj1, hj2⟩ := hj
    have hp2 := List.pairwise_iff_getElem.1 h2
    rcases Nat.lt_trichotomy i j with hlt | heq | hgt
    · refine absurd ?_ (hp2 i j (by simpa using hi1) (by simpa using hj1) hlt)
      simp [hi2, hj2, e]
    · exact heq
    · refine absurd ?_ (hp2 j i (by simpa using hj1) (by simpa using hi1) hgt)
      simp [hi2, hj2, e]
  · have := h3 i (List.mem_range.2 (Array.getElem?_eq_some_iff.1 ho).1)
    rw [ho] at this
    have := Array.all_eq_true'.1 this e he
    rw [hb] at this
    simpa using this
/-- Each operation of a list, told by its number. -/
def Each (F : Nat → Oper → Prop) : Nat → List Oper → Prop
  | _, [] => True
  | k, o :: l => F k o ∧ Each F (k + 1) l
theorem Each.at {F : Nat → Oper → Prop} : ∀ {l : List Oper} {k i : Nat} {o : Oper}, Each F k l → l[i]? = some o → F (k + i) o
  | [], _, _, _, _, h => by simp at h
  | p :: l, k, 0, o, h, e => by simp at e; subst e; exact h.1
  | p :: l, k, i + 1, o, h, e => by
    have := Each.at h.2 (i := i) (o := o) (by simpa using e)
    rw [show k + (i + 1) = k + 1 + i by omega]
    exact this
theorem Each.steps {F : Nat → Oper → Prop} {l : List Oper} (h : Each F 0 l) (ho : ops = l.toArray) : ∀ (i : Nat) (o : Oper), ops[i]? = some o → F i o := fun i o hi => by
  subst ho
  have := h.at (i := i) (o := o) (by simpa using hi)
  rwa [Nat.zero_add] at this
end
end Inv
end Go.Proofs.YtmcafiihicanfaaDoor
