/- A region that draws its order: what each operation's slot may hold, whatever came up before it. No order is looked at: a condition that each operation keeps. -/
import Derived.OrdersHeld
import Derived.Deep.RegionHeld
import Derived.Test.YtcnedecmmplmoaaGreatDoorProg
import Derived.Test.YtcnedecmmplmoaaGreatDoorCm01
set_option linter.unusedVariables false
set_option linter.unusedSimpArgs false
namespace Go.Proofs.YtcnedecmmplmoaaGreatDoor
namespace Inv

/-- How many are still to come. -/
def left (listed : Array Bool) : Nat := listed.toList.count false
theorem left_set {listed : Array Bool} {i : Nat} (h : listed.getD i true = false) : left (listed.setIfInBounds i true) + 1 = left listed := by
  obtain ⟨l⟩ := listed
  have hi : i < l.length := by
    by_cases hi : i < l.length
    · exact hi
    · simp [Array.getD, hi] at h
  have hl : l[i] = false := by simpa [Array.getD, hi] using h
  have hpos : 0 < l.count false := List.count_pos_iff.2 (hl ▸ List.getElem_mem hi)
  unfold left
  simp only [List.setIfInBounds_toArray]
  rw [List.count_set hi, hl]
  simp
  omega
theorem left_zero {listed : Array Bool} {i : Nat} (h : left listed = 0) : listed.getD i true = true := by
  cases hc : listed.getD i true with
  | true => rfl
  | false => have := left_set hc; omega
section
variable {P : Program} {ops : Array Oper} {Q : Exit → Act → World → Prop} {md : Region.Mode}
theorem wpAny_inv (I : Array Bool → Act → World → Prop) (hend : ∀ listed a w, I listed a w → Region.ready md ops listed = [] → Q .normal a w)
    (hstep : ∀ listed a w i o, I listed a w → i ∈ Region.ready md ops listed → ops[i]? = some o → o.guard = none ∧ ∃ v w', (execOp a.eval o).run P w = .ok (.value v) w' ∧ I (listed.setIfInBounds i true) (a.put o.dst v) w') :
    ∀ (fuel : Nat) (listed : Array Bool) (a : Act) (w : World), left listed ≤ fuel → I listed a w → wpAny P md ops Q fuel listed a w
  | 0, listed, a, w, hl, hI => by
    have hr : Region.ready md ops listed = [] := by
      cases hr : Region.ready md ops listed with
      | nil => rfl
      | cons i rs =>
        have := (mem_ready.1 (hr ▸ List.mem_cons_self : i ∈ Region.ready md ops listed)).1
        rw [left_zero (by omega)] at this; cases this
    exact ⟨hr, hend _ _ _ hI hr⟩
  | fuel + 1, listed, a, w, hl, hI => by
    refine ⟨fun hr => hend _ _ _ hI hr, fun i hi => ?_⟩
    obtain ⟨hu, o, ho, _⟩ := mem_ready.1 hi
    obtain ⟨hg, v, w', hrun, hI'⟩ := hstep listed a w i o hI hi ho
    unfold wpOp
    simp only [ho]
    rw [if_pos (by simp [Region.wanted, hg])]
    refine .inl ?_
    unfold Oper.wp
    simp only [hrun, Oper.upon]
    exact wpAny_inv I hend hstep fuel _ _ _ (by have := left_set hu; omega) hI'
/-- What holds while the operations come up. -/
structure Holds (a0 : Act) (ops : Array Oper) (C : World → Prop) (R : Nat → Value → World → Prop) (listed : Array Bool) (a : Act) (w : World) : Prop where
  ls : listed.size = ops.size
  world : C w
  defs : a.defers = a0.defers
  size : a.tmps.size = a0.tmps.size
  own : ∀ (i : Nat) (o : Oper) (d : Nat), ops[i]? = some o → o.dst = some d → listed.getD i false = true → R i (a.tmps.getD d undef) w
  other : ∀ t, (∀ (i : Nat) (o : Oper), ops[i]? = some o → o.dst = some t → listed.getD i false = false) → a.tmps.getD t undef = a0.tmps.getD t undef
/-- The region's form: slots are unlike, operations wait only for those ahead. -/
structure RForm (md : Region.Mode) (ops : Array Oper) (n : Nat) : Prop where
  dst : ∀ (i : Nat) (o : Oper), ops[i]? = some o → o.guard = none ∧ ∃ d, o.dst = some d ∧ d < n
  apart : ∀ (i j : Nat) (o p : Oper), ops[i]? = some o → ops[j]? = some p → o.dst = p.dst → i = j
  ahead : ∀ (i : Nat) (o : Oper), ops[i]? = some o → ∀ e ∈ o.after, Region.binds md e = true → e.on < i
def dsts (ops : Array Oper) : List Nat := ops.toList.filterMap (·.dst)
theorem put_size (a : Act) (d : Option Tmp) (v : Value) : (a.put d v).tmps.size = a.tmps.size := by cases d <;> simp [Act.put]
theorem put_same (a : Act) (d : Nat) (v : Value) (h : d < a.tmps.size) : (a.put (some d) v).tmps.getD d undef = v := by simp [Act.put, h]
theorem put_other (a : Act) (d t : Nat) (v : Value) (h : t ≠ d) : (a.put (some d) v).tmps.getD t undef = a.tmps.getD t undef := by
  simp only [Act.put, Array.getD_eq_getD_getElem?]
  rw [Array.getElem?_setIfInBounds_ne (Ne.symm h)]
theorem fold_eq (a : Act) : ∀ (L : List Nat) (a0 : Act), a.defers = a0.defers → a.tmps.size = a0.tmps.size → (∀ d ∈ L, d < a0.tmps.size) → (∀ t, t ∉ L → a.tmps.getD t undef = a0.tmps.getD t undef) → L.foldl (fun b d => b.put (some d) (a.tmps.getD d undef)) a0 = a
  | [], a0, hd, hs, _, h => by
    obtain ⟨t, d⟩ := a
    obtain ⟨t0, d0⟩ := a0
    simp only at hd hs h
    subst hd
    show Act.mk t0 _ = Act.mk t _
    congr 1
    apply Array.ext hs.symm
    intro i h1 h2
    have := h i (by simp)
    simpa [h1, h2] using this.symm
  | d :: L, a0, hd, hs, hb, h => by
    refine fold_eq a L (a0.put (some d) (a.tmps.getD d undef)) hd (by rw [put_size]; exact hs) (fun x hx => by rw [put_size]; exact hb x (by simp [hx])) fun t ht => ?_
    by_cases e : t = d
    · subst e; rw [put_same _ _ _ (hb t (by simp))]
    · rw [put_other _ _ _ _ e]; exact h t (by simp [e, ht])
/-- Does an operation wait for another one? -/
def waits (md : Region.Mode) (o : Oper) (j : Nat) : Bool := o.after.any fun e => Region.binds md e && e.on == j
/-- What an operation does, told by what its slot may hold: it asks only for what the operations that it waits for hold, and for the slots that nobody writes. -/
structure StepOk (P : Program) (md : Region.Mode) (ops : Array Oper) (a0 : Act) (C : World → Prop) (R : Nat → Value → World → Prop) (i : Nat) (o : Oper) : Prop where
  run : ∀ (a : Act) (w : World), C w → (∀ (j : Nat) (p : Oper) (d : Nat), ops[j]? = some p → p.dst = some d → waits md o j = true → R j (a.tmps.getD d undef) w) → (∀ t, t ∉ dsts ops → a.tmps.getD t undef = a0.tmps.getD t undef) →
    ∃ v w', (execOp a.eval o).run P w = .ok (.value v) w' ∧ C w' ∧ R i v w' ∧ ∀ j u, R j u w → R j u w'
theorem getD_set_same (l : Array Bool) (i : Nat) (h : l.getD i true = false) : (l.setIfInBounds i true).getD i false = true := by
  have hi : i < l.size := by
    by_cases hi : i < l.size
    · exact hi
    · simp [Array.getD, hi] at h
  simp [hi]
theorem getD_set_other (l : Array Bool) (i j : Nat) (h : j ≠ i) : (l.setIfInBounds i true).getD j false = l.getD j false := by
  simp only [Array.getD_eq_getD_getElem?]
  rw [Array.getElem?_setIfInBounds_ne (Ne.symm h)]
theorem getD_false {l : Array Bool} {i : Nat} (h : l.getD i true = false) : l.getD i false = false := by
  by_cases hi : i < l.size
  · simpa [Array.getD, hi] using h
  · simp [Array.getD, hi]
theorem mem_dsts {i : Nat} {o : Oper} {d : Nat} (h : ops[i]? = some o) (hd : o.dst = some d) : d ∈ dsts ops := by
  unfold dsts
  rw [List.mem_filterMap]
  exact ⟨o, Array.mem_toList_iff.2 (Array.mem_of_getElem? h), hd⟩
theorem of_dsts {d : Nat} (h : d ∈ dsts ops) : ∃ (i : Nat) (o : Oper), ops[i]? = some o ∧ o.dst = some d := by
  unfold dsts at h
  rw [List.mem_filterMap] at h
  obtain ⟨o, ho, hd⟩ := h
  obtain ⟨i, hi⟩ := Array.mem_iff_getElem?.1 (Array.mem_toList_iff.1 ho)
  exact ⟨i, o, hi, hd⟩
/-- **A region that draws its order, by a condition that each operation keeps.** -/
theorem wp_region_inv {id : Nat} {a0 : Act} {w0 : World} (hm : P.follows .mixedOrders = true) (C : World → Prop) (R : Nat → Value → World → Prop) (hform : RForm .any ops a0.tmps.size) (hC : C w0.drew)
    (hsteps : ∀ (i : Nat) (o : Oper), ops[i]? = some o → StepOk P .any ops a0 C R i o)
    (hQ : ∀ (f : Nat → Value) (w : World), C w → (∀ (i : Nat) (o : Oper) (d : Nat), ops[i]? = some o → o.dst = some d → R i (f d) w) → Q .normal ((dsts ops).foldl (fun b d => b.put (some d) (f d)) a0) w) :
    (Code.region id ops true).wp P Q a0 w0 := by
  refine wp_region_any hm (wpAny_inv (Holds a0 ops C R) (fun listed a w h hr => ?_) (fun listed a w i o h hi ho => ?_) _ _ _ _ ?_ ?_)
  · have hall : ∀ i, i < ops.size → listed.getD i true = true := by
      intro i
      induction i using Nat.strongRecOn with
      | ind i ih =>
        intro hi
        cases hc : listed.getD i true with
        | true => rfl
        | false =>
          have ho : ops[i]? = some ops[i] := Array.getElem?_eq_getElem hi
          have : i ∈ Region.ready .any ops listed := mem_ready.2 ⟨hc, ops[i], ho, fun e he hb => by
            have hlt := hform.ahead i _ ho e he hb
            have := ih e.on hlt (by omega)
            have hz : e.on < listed.size := by rw [h.ls]; omega
            simpa [Array.getD, hz] using this⟩
          rw [hr] at this; cases this
    have hall2 : ∀ (i : Nat) (o : Oper), ops[i]? = some o → listed.getD i false = true := fun i o ho => by
      have hi := (Array.getElem?_eq_some_iff.1 ho).1
      have := hall i hi
      have hz : i < listed.size := by rw [h.ls]; exact hi
      simpa [Array.getD, hz] using this
    have hf := fold_eq a (dsts ops) a0 h.defs h.size (fun d hd => by
      obtain ⟨i, o, ho, e⟩ := of_dsts hd
      obtain ⟨_, d', e', hlt⟩ := hform.dst i o ho
      rw [e] at e'; cases e'; exact hlt) (fun t ht => h.other t fun i o ho e => absurd (mem_dsts ho e) ht)
    rw [← hf]
    exact hQ (fun d => a.tmps.getD d undef) w h.world fun i o d ho hd => h.own i o d ho hd (hall2 i o ho)
  · obtain ⟨hu, o', ho', hrdy⟩ := mem_ready.1 hi
    rw [ho] at ho'; cases ho'
    obtain ⟨hg, d, hd, hlt⟩ := hform.dst i o ho
    obtain ⟨v, w', hrun, hC', hR, hmono⟩ := (hsteps i o ho).run a w h.world (fun j p e hp he hx => by
      unfold waits at hx
      rw [Array.any_eq_true'] at hx
      obtain ⟨x, hxm, hx2⟩ := hx
      simp only [Bool.and_eq_true, beq_iff_eq] at hx2
      exact h.own j p e hp he (by rw [← hx2.2]; exact hrdy x hxm hx2.1)) (fun t ht => h.other t fun j p hp he => absurd (mem_dsts hp he) ht)
    refine ⟨hg, v, w', hrun, ⟨by simpa using h.ls, hC', by rw [hd]; exact h.defs, by rw [put_size]; exact h.size, fun j p e hp he hl => ?_, fun t ht => ?_⟩⟩
    · rw [hd]
      by_cases hji : j = i
      · subst hji
        rw [ho] at hp; cases hp
        rw [hd] at he; cases he
        rw [put_same _ _ _ (by rw [h.size]; exact hlt)]
        exact hR
      · have hde : e ≠ d := fun e2 => hji (hform.apart j i p o hp ho (by rw [he, hd, e2]))
        rw [put_other _ _ _ _ hde]
        rw [getD_set_other _ _ _ hji] at hl
        exact hmono _ _ (h.own j p e hp he hl)
    · rw [hd]
      have htd : t ≠ d := fun e2 => by
        have := ht i o ho (by rw [hd, e2])
        rw [getD_set_same _ _ hu] at this; cases this
      rw [put_other _ _ _ _ htd]
      refine h.other t fun j p hp he => ?_
      by_cases hji : j = i
      · subst hji; exact getD_false hu
      · have := ht j p hp he
        rwa [getD_set_other _ _ _ hji] at this
  · unfold left
    simp
  · exact ⟨by simp, hC, rfl, rfl, fun i o d ho hd hl => by
      have hi := (Array.getElem?_eq_some_iff.1 ho).1
      simp [Array.getD, hi] at hl, fun t _ => rfl⟩
/-- The form, reckoned. -/
def formB (md : Region.Mode) (ops : Array Oper) (n : Nat) : Bool :=
  (ops.toList.all fun o => o.guard.isNone && (match o.dst with | some d => decide (d < n) | none => false)) && decide (ops.toList.map (fun o => o.dst.getD 0)).Nodup &&
    (List.range ops.size).all fun i => match ops[i]? with | none => true | some o => o.after.all fun e => !Region.binds md e || decide (e.on < i)
theorem formB_spec {n : Nat} (h : formB md ops n = true) : RForm md ops n := by
  unfold formB at h
  simp only [Bool.and_eq_true, decide_eq_true_eq, List.all_eq_true] at h
  obtain ⟨⟨h1, h2⟩, h3⟩ := h
  have hd : ∀ (i : Nat) (o : Oper), ops[i]? = some o → o.guard = none ∧ ∃ d, o.dst = some d ∧ d < n := fun i o ho => by
    obtain ⟨g, d⟩ := h1 o (Array.mem_toList_iff.2 (Array.mem_of_getElem? ho))
    refine ⟨by simpa using g, ?_⟩
    cases hx : o.dst with
    | none => rw [hx] at d; cases d
    | some x => rw [hx] at d; exact ⟨x, rfl, by simpa using d⟩
  refine ⟨hd, fun i j o p ho hp e => ?_, fun i o ho e he hb => ?_⟩
  · have hi := (Array.getElem?_eq_some_iff.1 ho)
    have hj := (Array.getElem?_eq_some_iff.1 hp)
    obtain ⟨hi1, hi2⟩ := hi
    obtain ⟨hj1, hj2⟩ := hj
    have hp2 := List.pairwise_iff_getElem.1 h2
    rcases Nat.lt_trichotomy i j with hlt | heq | hgt
    · refine absurd ?_ (hp2 i j (by simpa using hi1) (by simpa using hj1) hlt)
      simp [hi2, hj2, e]
    · exact heq
    · refine absurd ?_ (hp2 j i (by simpa using hj1) (by simpa using hi1) hgt)
      simp [hi2, hj2, e]
  · have := h3 i (List.mem_range.2 (Array.getElem?_eq_some_iff.1 ho).1)
    rw [ho] at this
    have := Array.all_eq_true'.1 this e he
    rw [hb] at this
    simpa using this
/-- Each operation of a list, told by its number. -/
def Each (F : Nat → Oper → Prop) : Nat → List Oper → Prop
  | _, [] => True
  | k, o :: l => F k o ∧ Each F (k + 1) l
theorem Each.at {F : Nat → Oper → Prop} : ∀ {l : List Oper} {k i : Nat} {o : Oper}, Each F k l → l[i]? = some o → F (k + i) o
  | [], _, _, _, _, h => by simp at h
  | p :: l, k, 0, o, h, e => by simp at e; subst e; exact h.1
  | p :: l, k, i + 1, o, h, e => by
    have := Each.at h.2 (i := i) (o := o) (by simpa using e)
    rw [show k + (i + 1) = k + 1 + i by omega]
    exact this
theorem Each.steps {F : Nat → Oper → Prop} {l : List Oper} (h : Each F 0 l) (ho : ops = l.toArray) : ∀ (i : Nat) (o : Oper), ops[i]? = some o → F i o := fun i o hi => by
  subst ho
  have := h.at (i := i) (o := o) (by simpa using hi)
  rwa [Nat.zero_add] at this
end
end Inv
end Go.Proofs.YtcnedecmmplmoaaGreatDoor

/- A region that draws its order, by a condition that each operation keeps: with guards, calls and appends. -/
namespace Go.Proofs.YtcnedecmmplmoaaGreatDoor
namespace Inv
section
variable {P : Program} {ops : Array Oper} {Q : Exit → Act → World → Prop} {md : Region.Mode}
theorem wpAny_invW (I : Array Bool → Act → World → Prop) (hend : ∀ listed a w, I listed a w → Region.ready md ops listed = [] → Q .normal a w)
    (hstep : ∀ listed a w i o (K : Act → World → Prop), I listed a w → i ∈ Region.ready md ops listed → ops[i]? = some o → (∀ a' w', I (listed.setIfInBounds i true) a' w' → K a' w') → wpOp P ops Q i K a w) :
    ∀ (fuel : Nat) (listed : Array Bool) (a : Act) (w : World), left listed ≤ fuel → I listed a w → wpAny P md ops Q fuel listed a w
  | 0, listed, a, w, hl, hI => by
    have hr : Region.ready md ops listed = [] := by
      cases hr : Region.ready md ops listed with
      | nil => rfl
      | cons i rs =>
        have := (mem_ready.1 (hr ▸ List.mem_cons_self : i ∈ Region.ready md ops listed)).1
        rw [left_zero (by omega)] at this; cases this
    exact ⟨hr, hend _ _ _ hI hr⟩
  | fuel + 1, listed, a, w, hl, hI => by
    refine ⟨fun hr => hend _ _ _ hI hr, fun i hi => ?_⟩
    obtain ⟨hu, o, ho, _⟩ := mem_ready.1 hi
    exact hstep listed a w i o _ hI hi ho fun a' w' hI' => wpAny_invW I hend hstep fuel _ _ _ (by have := left_set hu; omega) hI'
structure WForm (md : Region.Mode) (ops : Array Oper) (n : Nat) : Prop where
  dst : ∀ (i : Nat) (o : Oper), ops[i]? = some o → ∃ d, o.dst = some d ∧ d < n
  apart : ∀ (i j : Nat) (o p : Oper), ops[i]? = some o → ops[j]? = some p → o.dst = p.dst → i = j
  ahead : ∀ (i : Nat) (o : Oper), ops[i]? = some o → ∀ e ∈ o.after, Region.binds md e = true → e.on < i
/-- What an operation does, whatever stands behind it. -/
structure StepW (P : Program) (Q : Exit → Act → World → Prop) (md : Region.Mode) (ops : Array Oper) (a0 : Act) (C : World → Prop) (R : Nat → Value → World → Prop) (i : Nat) (o : Oper) : Prop where
  run : ∀ (K : Act → World → Prop) (a : Act) (w : World), C w → (∀ (j : Nat) (p : Oper) (d : Nat), ops[j]? = some p → p.dst = some d → waits md o j = true → R j (a.tmps.getD d undef) w) → (∀ t, t ∉ dsts ops → a.tmps.getD t undef = a0.tmps.getD t undef) →
    (∀ v w', C w' → R i v w' → (∀ j u, R j u w → R j u w') → K (a.put o.dst v) w') → wpOp P ops Q i K a w
/-- **A region that draws its order, by a condition that each operation keeps.** -/
theorem wp_region_invW {id : Nat} {a0 : Act} {w0 : World} (hm : P.follows .mixedOrders = true) (C : World → Prop) (R : Nat → Value → World → Prop) (hform : WForm .any ops a0.tmps.size) (hC : C w0.drew)
    (hsteps : ∀ (i : Nat) (o : Oper), ops[i]? = some o → StepW P Q .any ops a0 C R i o)
    (hQ : ∀ (f : Nat → Value) (w : World), C w → (∀ (i : Nat) (o : Oper) (d : Nat), ops[i]? = some o → o.dst = some d → R i (f d) w) → Q .normal ((dsts ops).foldl (fun b d => b.put (some d) (f d)) a0) w) :
    (Code.region id ops true).wp P Q a0 w0 := by
  refine wp_region_any hm (wpAny_invW (Holds a0 ops C R) (fun listed a w h hr => ?_) (fun listed a w i o K h hi ho hK => ?_) _ _ _ _ ?_ ?_)
  · have hall : ∀ i, i < ops.size → listed.getD i true = true := by
      intro i
      induction i using Nat.strongRecOn with
      | ind i ih =>
        intro hi
        cases hc : listed.getD i true with
        | true => rfl
        | false =>
          have ho : ops[i]? = some ops[i] := Array.getElem?_eq_getElem hi
          have : i ∈ Region.ready .any ops listed := mem_ready.2 ⟨hc, ops[i], ho, fun e he hb => by
            have hlt := hform.ahead i _ ho e he hb
            have := ih e.on hlt (by omega)
            have hz : e.on < listed.size := by rw [h.ls]; omega
            simpa [Array.getD, hz] using this⟩
          rw [hr] at this; cases this
    have hall2 : ∀ (i : Nat) (o : Oper), ops[i]? = some o → listed.getD i false = true := fun i o ho => by
      have hi := (Array.getElem?_eq_some_iff.1 ho).1
      have := hall i hi
      have hz : i < listed.size := by rw [h.ls]; exact hi
      simpa [Array.getD, hz] using this
    have hf := fold_eq a (dsts ops) a0 h.defs h.size (fun d hd => by
      obtain ⟨i, o, ho, e⟩ := of_dsts hd
      obtain ⟨d', e', hlt⟩ := hform.dst i o ho
      rw [e] at e'; cases e'; exact hlt) (fun t ht => h.other t fun i o ho e => absurd (mem_dsts ho e) ht)
    rw [← hf]
    exact hQ (fun d => a.tmps.getD d undef) w h.world fun i o d ho hd => h.own i o d ho hd (hall2 i o ho)
  · obtain ⟨hu, o', ho', hrdy⟩ := mem_ready.1 hi
    rw [ho] at ho'; cases ho'
    obtain ⟨d, hd, hlt⟩ := hform.dst i o ho
    refine (hsteps i o ho).run K a w h.world (fun j p e hp he hx => by
      unfold waits at hx
      rw [Array.any_eq_true'] at hx
      obtain ⟨x, hxm, hx2⟩ := hx
      simp only [Bool.and_eq_true, beq_iff_eq] at hx2
      exact h.own j p e hp he (by rw [← hx2.2]; exact hrdy x hxm hx2.1)) (fun t ht => h.other t fun j p hp he => absurd (mem_dsts hp he) ht) fun v w' hC' hR hmono => hK _ _ ?_
    refine ⟨by simpa using h.ls, hC', by rw [hd]; exact h.defs, by rw [put_size]; exact h.size, fun j p e hp he hl => ?_, fun t ht => ?_⟩
    · rw [hd]
      by_cases hji : j = i
      · subst hji
        rw [ho] at hp; cases hp
        rw [hd] at he; cases he
        rw [put_same _ _ _ (by rw [h.size]; exact hlt)]
        exact hR
      · have hde : e ≠ d := fun e2 => hji (hform.apart j i p o hp ho (by rw [he, hd, e2]))
        rw [put_other _ _ _ _ hde]
        rw [getD_set_other _ _ _ hji] at hl
        exact hmono _ _ (h.own j p e hp he hl)
    · rw [hd]
      have htd : t ≠ d := fun e2 => by
        have := ht i o ho (by rw [hd, e2])
        rw [getD_set_same _ _ hu] at this; cases this
      rw [put_other _ _ _ _ htd]
      refine h.other t fun j p hp he => ?_
      by_cases hji : j = i
      · subst hji; exact getD_false hu
      · have := ht j p hp he
        rwa [getD_set_other _ _ _ hji] at this
  · unfold left
    simp
  · exact ⟨by simp, hC, rfl, rfl, fun i o d ho hd hl => by
      have hi := (Array.getElem?_eq_some_iff.1 ho).1
      simp [Array.getD, hi] at hl, fun t _ => rfl⟩
/-- The form, reckoned. -/
def formW (md : Region.Mode) (ops : Array Oper) (n : Nat) : Bool :=
  (ops.toList.all fun o => match o.dst with | some d => decide (d < n) | none => false) && decide (ops.toList.map (fun o => o.dst.getD 0)).Nodup &&
    (List.range ops.size).all fun i => match ops[i]? with | none => true | some o => o.after.all fun e => !Region.binds md e || decide (e.on < i)
theorem formW_spec {n : Nat} (h : formW md ops n = true) : WForm md ops n := by
  unfold formW at h
  simp only [Bool.and_eq_true, decide_eq_true_eq, List.all_eq_true] at h
  obtain ⟨⟨h1, h2⟩, h3⟩ := h
  have hd : ∀ (i : Nat) (o : Oper), ops[i]? = some o → ∃ d, o.dst = some d ∧ d < n := fun i o ho => by
    have d := h1 o (Array.mem_toList_iff.2 (Array.mem_of_getElem? ho))
    cases hx : o.dst with
    | none => rw [hx] at d; cases d
    | some x => rw [hx] at d; exact ⟨x, rfl, by simpa using d⟩
  refine ⟨hd, fun i j o p ho hp e => ?_, fun i o ho e he hb => ?_⟩
  · have hi := (Array.getElem?_eq_some_iff.1 ho)
    have hj := (Array.getElem?_eq_some_iff.1 hp)
    obtain ⟨hi1, hi2⟩ := hi
    obtain ⟨hj1, hj2⟩ := hj
    have hp2 := List.pairwise_iff_getElem.1 h2
    rcases Nat.lt_trichotomy i j with hlt | heq | hgt
    · refine absurd ?_ (hp2 i j (by simpa using hi1) (by simpa using hj1) hlt)
      simp [hi2, hj2, e]
    · exact heq
    · refine absurd ?_ (hp2 j i (by simpa using hj1) (by simpa using hi1) hgt)
      simp [hi2, hj2, e]
  · have := h3 i (List.mem_range.2 (Array.getElem?_eq_some_iff.1 ho).1)
    rw [ho] at this
    have := Array.all_eq_true'.1 this e he
    rw [hb] at this
    simpa using this
/-- An operation that is wanted. -/
theorem wpOp_of {i : Nat} {o : Oper} {K : Act → World → Prop} {a : Act} {w : World} (ho : ops[i]? = some o) (hw : Region.wanted o (yielded ops a.tmps) = true) (h : o.wp P a w K Q) : wpOp P ops Q i K a w := by
  unfold wpOp
  simp only [ho]
  rw [if_pos hw]
  exact .inl h
theorem wp_of_run {o : Oper} {K : Act → World → Prop} {a : Act} {w w' : World} {v : Value} (h : (execOp a.eval o).run P w = .ok (.value v) w') (hk : K (a.put o.dst v) w') : o.wp P a w K Q := by
  unfold Oper.wp
  simp only [h, Oper.upon]
  exact hk
/-- An operation of one run. -/
theorem StepW.of_run {a0 : Act} {C : World → Prop} {R : Nat → Value → World → Prop} {i : Nat} {o : Oper} (ho : ops[i]? = some o)
    (hw : ∀ (a : Act) (w : World), (∀ (j : Nat) (p : Oper) (d : Nat), ops[j]? = some p → p.dst = some d → waits md o j = true → R j (a.tmps.getD d undef) w) → Region.wanted o (yielded ops a.tmps) = true)
    (h : StepOk P md ops a0 C R i o) : StepW P Q md ops a0 C R i o := ⟨fun K a w hC hdep hfix hK => by
  obtain ⟨v, w', hrun, hC', hR, hmono⟩ := h.run a w hC hdep hfix
  exact wpOp_of ho (hw a w hdep) (wp_of_run hrun (hK v w' hC' hR hmono))⟩
/-- A call's operation. -/
theorem StepW.of_call {f : FuncId} {a0 : Act} {C : World → Prop} {R : Nat → Value → World → Prop} {i : Nat} {o : Oper} (ho : ops[i]? = some o)
    (hw : ∀ (a : Act) (w : World), (∀ (j : Nat) (p : Oper) (d : Nat), ops[j]? = some p → p.dst = some d → waits md o j = true → R j (a.tmps.getD d undef) w) → Region.wanted o (yielded ops a.tmps) = true)
    (h : ∀ (a : Act) (w : World), C w → (∀ (j : Nat) (p : Oper) (d : Nat), ops[j]? = some p → p.dst = some d → waits md o j = true → R j (a.tmps.getD d undef) w) → (∀ t, t ∉ dsts ops → a.tmps.getD t undef = a0.tmps.getD t undef) →
      ∃ args w1, (execOp a.eval o).run P w = .ok (.enter f args) w1 ∧ Calls P f args w1 fun e w2 => ∃ v, e = .returned v ∧ C w2 ∧ R i v w2 ∧ ∀ j u, R j u w → R j u w2) : StepW P Q md ops a0 C R i o := ⟨fun K a w hC hdep hfix hK => by
  obtain ⟨args, w1, hrun, hcall⟩ := h a w hC hdep hfix
  refine wpOp_of ho (hw a w hdep) ?_
  unfold Oper.wp
  simp only [hrun]
  refine hcall.mono ?_
  rintro e w2 ⟨v, rfl, h1, h2, h3⟩
  exact hK v w2 h1 h2 h3⟩
end
end Inv
end Go.Proofs.YtcnedecmmplmoaaGreatDoor

/- A region that draws its order, whose operations may have no slot (stores): by a condition on what is done so far. -/
namespace Go.Proofs.YtcnedecmmplmoaaGreatDoor
namespace Inv
section
variable {P : Program} {ops : Array Oper} {Q : Exit → Act → World → Prop} {md : Region.Mode}
structure GForm (md : Region.Mode) (ops : Array Oper) (n : Nat) : Prop where
  dst : ∀ (i : Nat) (o : Oper) (d : Nat), ops[i]? = some o → o.dst = some d → d < n
  apart : ∀ (i j : Nat) (o p : Oper) (d : Nat), ops[i]? = some o → ops[j]? = some p → o.dst = some d → p.dst = some d → i = j
  ahead : ∀ (i : Nat) (o : Oper), ops[i]? = some o → ∀ e ∈ o.after, Region.binds md e = true → e.on < i
/-- What stands between two operations: what is done so far is told by a function. -/
structure HoldsG (a0 : Act) (ops : Array Oper) (C : (Nat → Bool) → World → Prop) (R : Nat → Value → World → Prop) (listed : Array Bool) (a : Act) (w : World) : Prop where
  ls : listed.size = ops.size
  world : C (fun i => listed.getD i false) w
  defs : a.defers = a0.defers
  size : a.tmps.size = a0.tmps.size
  own : ∀ (i : Nat) (o : Oper) (d : Nat), ops[i]? = some o → o.dst = some d → listed.getD i false = true → R i (a.tmps.getD d undef) w
  other : ∀ t, (∀ (i : Nat) (o : Oper), ops[i]? = some o → o.dst = some t → listed.getD i false = false) → a.tmps.getD t undef = a0.tmps.getD t undef
def done (l : Nat → Bool) (i : Nat) : Nat → Bool := fun j => if j = i then true else l j
structure StepG (P : Program) (Q : Exit → Act → World → Prop) (md : Region.Mode) (ops : Array Oper) (a0 : Act) (C : (Nat → Bool) → World → Prop) (R : Nat → Value → World → Prop) (i : Nat) (o : Oper) : Prop where
  run : ∀ (K : Act → World → Prop) (a : Act) (w : World) (l : Nat → Bool), l i = false → C l w → (∀ (j : Nat) (p : Oper), ops[j]? = some p → waits md o j = true → l j = true ∧ ∀ d, p.dst = some d → R j (a.tmps.getD d undef) w) → (∀ t, t ∉ dsts ops → a.tmps.getD t undef = a0.tmps.getD t undef) →
    (∀ v w', C (done l i) w' → (∀ d, o.dst = some d → R i v w') → (∀ j u, j ≠ i → R j u w → R j u w') → K (a.put o.dst v) w') → wpOp P ops Q i K a w
theorem done_eq {listed : Array Bool} {i : Nat} (hu : listed.getD i true = false) : (fun j => (listed.setIfInBounds i true).getD j false) = done (fun j => listed.getD j false) i := by
  funext j
  unfold done
  by_cases h : j = i
  · rw [if_pos h, h, getD_set_same _ _ hu]
  · rw [if_neg h, getD_set_other _ _ _ h]
/-- **A region that draws its order, by a condition on what is done so far.** -/
theorem wp_region_invG {id : Nat} {a0 : Act} {w0 : World} (hm : P.follows .mixedOrders = true) (C : (Nat → Bool) → World → Prop) (R : Nat → Value → World → Prop) (hform : GForm .any ops a0.tmps.size) (hC : C (fun _ => false) w0.drew)
    (hsteps : ∀ (i : Nat) (o : Oper), ops[i]? = some o → StepG P Q .any ops a0 C R i o)
    (hQ : ∀ (f : Nat → Value) (w : World) (l : Nat → Bool), C l w → (∀ i, i < ops.size → l i = true) → (∀ (i : Nat) (o : Oper) (d : Nat), ops[i]? = some o → o.dst = some d → R i (f d) w) → Q .normal ((dsts ops).foldl (fun b d => b.put (some d) (f d)) a0) w) :
    (Code.region id ops true).wp P Q a0 w0 := by
  refine wp_region_any hm (wpAny_invW (HoldsG a0 ops C R) (fun listed a w h hr => ?_) (fun listed a w i o K h hi ho hK => ?_) _ _ _ _ ?_ ?_)
  · have hall : ∀ i, i < ops.size → listed.getD i true = true := by
      intro i
      induction i using Nat.strongRecOn with
      | ind i ih =>
        intro hi
        cases hc : listed.getD i true with
        | true => rfl
        | false =>
          have ho : ops[i]? = some ops[i] := Array.getElem?_eq_getElem hi
          have : i ∈ Region.ready .any ops listed := mem_ready.2 ⟨hc, ops[i], ho, fun e he hb => by
            have hlt := hform.ahead i _ ho e he hb
            have := ih e.on hlt (by omega)
            have hz : e.on < listed.size := by rw [h.ls]; omega
            simpa [Array.getD, hz] using this⟩
          rw [hr] at this; cases this
    have hall3 : ∀ i, i < ops.size → listed.getD i false = true := fun i hi => by
      have := hall i hi
      have hz : i < listed.size := by rw [h.ls]; exact hi
      simpa [Array.getD, hz] using this
    have hall2 : ∀ (i : Nat) (o : Oper), ops[i]? = some o → listed.getD i false = true := fun i o ho => hall3 i (Array.getElem?_eq_some_iff.1 ho).1
    have hf := fold_eq a (dsts ops) a0 h.defs h.size (fun d hd => by
      obtain ⟨i, o, ho, e⟩ := of_dsts hd
      exact hform.dst i o d ho e) (fun t ht => h.other t fun i o ho e => absurd (mem_dsts ho e) ht)
    rw [← hf]
    exact hQ (fun d => a.tmps.getD d undef) w _ h.world hall3 fun i o d ho hd => h.own i o d ho hd (hall2 i o ho)
  · obtain ⟨hu, o', ho', hrdy⟩ := mem_ready.1 hi
    rw [ho] at ho'; cases ho'
    refine (hsteps i o ho).run K a w _ (getD_false hu) h.world (fun j p hp hx => by
      unfold waits at hx
      rw [Array.any_eq_true'] at hx
      obtain ⟨x, hxm, hx2⟩ := hx
      simp only [Bool.and_eq_true, beq_iff_eq] at hx2
      have hl : listed.getD j false = true := by rw [← hx2.2]; exact hrdy x hxm hx2.1
      exact ⟨hl, fun e he => h.own j p e hp he hl⟩) (fun t ht => h.other t fun j p hp he => absurd (mem_dsts hp he) ht) fun v w' hC' hR hmono => hK _ _ (by
        refine ⟨by simpa using h.ls, by rw [done_eq hu]; exact hC', ?_, by rw [put_size]; exact h.size, fun j p e hp he hl => ?_, fun t ht => ?_⟩
        · cases hd : o.dst <;> exact h.defs
        · by_cases hji : j = i
          · subst hji
            rw [ho] at hp; cases hp
            rw [he, put_same _ _ _ (by rw [h.size]; exact hform.dst j o e ho he)]
            exact hR e he
          · have hl2 := hl
            rw [getD_set_other _ _ _ hji] at hl2
            cases hd : o.dst with
            | none => exact hmono _ _ hji (h.own j p e hp he hl2)
            | some d =>
              have hde : e ≠ d := fun e2 => hji (hform.apart j i p o e hp ho he (by rw [hd, e2]))
              rw [put_other _ _ _ _ hde]
              exact hmono _ _ hji (h.own j p e hp he hl2)
        · have hkeep : a.tmps.getD t undef = a0.tmps.getD t undef := h.other t fun j p hp he => by
            by_cases hji : j = i
            · subst hji; exact getD_false hu
            · have := ht j p hp he
              rwa [getD_set_other _ _ _ hji] at this
          cases hd : o.dst with
          | none => exact hkeep
          | some d =>
            have htd : t ≠ d := fun e2 => by
              have := ht i o ho (by rw [hd, e2])
              rw [getD_set_same _ _ hu] at this; cases this
            rw [put_other _ _ _ _ htd]
            exact hkeep)
  · unfold left
    simp
  · refine ⟨by simp, ?_, rfl, rfl, fun i o d ho hd hl => ?_, fun t _ => rfl⟩
    · rw [show (fun i => (Array.replicate ops.size false).getD i false) = fun _ => false from by funext i; by_cases h : i < ops.size <;> simp [Array.getD, h]]
      exact hC
    · have hi := (Array.getElem?_eq_some_iff.1 ho).1
      simp [Array.getD, hi] at hl
/-- The form, reckoned. -/
def formG (md : Region.Mode) (ops : Array Oper) (n : Nat) : Bool :=
  (ops.toList.all fun o => match o.dst with | some d => decide (d < n) | none => true) && decide (ops.toList.filterMap (·.dst)).Nodup &&
    (List.range ops.size).all fun i => match ops[i]? with | none => true | some o => o.after.all fun e => !Region.binds md e || decide (e.on < i)
theorem nodup_apart : ∀ {l : List Oper}, (l.filterMap (·.dst)).Nodup → ∀ (i j : Nat) (o p : Oper) (d : Nat), l[i]? = some o → l[j]? = some p → o.dst = some d → p.dst = some d → i = j
  | [], _, i, _, _, _, _, h, _, _, _ => by simp at h
  | x :: l, hn, i, j, o, p, d, ho, hp, hod, hpd => by
    have hl : (l.filterMap (·.dst)).Nodup := by
      cases hx : x.dst with
      | none => rw [List.filterMap_cons, hx] at hn; exact hn
      | some y => rw [List.filterMap_cons, hx] at hn; exact (List.nodup_cons.1 hn).2
    have hno : ∀ (k : Nat) (q : Oper), l[k]? = some q → q.dst = some d → x.dst = some d → False := fun k q hq hqd hxd => by
      rw [List.filterMap_cons, hxd] at hn
      exact (List.nodup_cons.1 hn).1 (List.mem_filterMap.2 ⟨q, List.mem_of_getElem? hq, hqd⟩)
    match i, j with
    | 0, 0 => rfl
    | 0, j + 1 =>
      simp only [List.getElem?_cons_zero, Option.some.injEq] at ho
      subst ho
      exact absurd (hno j p (by simpa using hp) hpd hod) id
    | i + 1, 0 =>
      simp only [List.getElem?_cons_zero, Option.some.injEq] at hp
      subst hp
      exact absurd (hno i o (by simpa using ho) hod hpd) id
    | i + 1, j + 1 => rw [nodup_apart hl i j o p d (by simpa using ho) (by simpa using hp) hod hpd]
theorem formG_spec {n : Nat} (h : formG md ops n = true) : GForm md ops n := by
  unfold formG at h
  simp only [Bool.and_eq_true, decide_eq_true_eq, List.all_eq_true] at h
  obtain ⟨⟨h1, h2⟩, h3⟩ := h
  refine ⟨fun i o d ho hd => ?_, fun i j o p d ho hp hod hpd => nodup_apart h2 i j o p d (by simpa using ho) (by simpa using hp) hod hpd, fun i o ho e he hb => ?_⟩
  · have := h1 o (Array.mem_toList_iff.2 (Array.mem_of_getElem? ho))
    rw [hd] at this
    simpa using this
  · have := h3 i (List.mem_range.2 (Array.getElem?_eq_some_iff.1 ho).1)
    rw [ho] at this
    have := Array.all_eq_true'.1 this e he
    rw [hb] at this
    simpa using this
/-- An operation of one run that makes a value; what is done so far does not matter to it. -/
theorem StepG.of_run {a0 : Act} {C : (Nat → Bool) → World → Prop} {R : Nat → Value → World → Prop} {i : Nat} {o : Oper} (ho : ops[i]? = some o)
    (hw : ∀ (a : Act) (w : World), (∀ (j : Nat) (p : Oper) (d : Nat), ops[j]? = some p → p.dst = some d → waits md o j = true → R j (a.tmps.getD d undef) w) → Region.wanted o (yielded ops a.tmps) = true)
    (h : ∀ (a : Act) (w : World) (l : Nat → Bool), l i = false → C l w → (∀ (j : Nat) (p : Oper) (d : Nat), ops[j]? = some p → p.dst = some d → waits md o j = true → R j (a.tmps.getD d undef) w) → (∀ j, (∃ p, ops[j]? = some p) → waits md o j = true → l j = true) → (∀ t, t ∉ dsts ops → a.tmps.getD t undef = a0.tmps.getD t undef) →
      ∃ v w', (execOp a.eval o).run P w = .ok (.value v) w' ∧ C (done l i) w' ∧ R i v w' ∧ ∀ j u, j ≠ i → R j u w → R j u w') : StepG P Q md ops a0 C R i o := ⟨fun K a w l hl hC hdep hfix hK => by
  have hd2 : ∀ (j : Nat) (p : Oper) (d : Nat), ops[j]? = some p → p.dst = some d → waits md o j = true → R j (a.tmps.getD d undef) w := fun j p d hp hd hx => (hdep j p hp hx).2 d hd
  obtain ⟨v, w', hrun, hC', hR, hmono⟩ := h a w l hl hC hd2 (fun j ⟨p, hp⟩ hx => (hdep j p hp hx).1) hfix
  exact wpOp_of ho (hw a w hd2) (wp_of_run hrun (hK v w' hC' (fun _ _ => hR) hmono))⟩
theorem wp_of_none {o : Oper} {K : Act → World → Prop} {a : Act} {w w' : World} (hd : o.dst = none) (h : (execOp a.eval o).run P w = .ok .skip w') (hk : K (a.put o.dst undef) w') : o.wp P a w K Q := by
  unfold Oper.wp
  simp only [h, Oper.upon]
  exact hk
/-- A store. -/
theorem StepG.of_store {a0 : Act} {C : (Nat → Bool) → World → Prop} {R : Nat → Value → World → Prop} {i : Nat} {o : Oper} (ho : ops[i]? = some o) (hn : o.dst = none)
    (hw : ∀ (a : Act) (w : World), (∀ (j : Nat) (p : Oper) (d : Nat), ops[j]? = some p → p.dst = some d → waits md o j = true → R j (a.tmps.getD d undef) w) → Region.wanted o (yielded ops a.tmps) = true)
    (h : ∀ (a : Act) (w : World) (l : Nat → Bool), l i = false → C l w → (∀ (j : Nat) (p : Oper) (d : Nat), ops[j]? = some p → p.dst = some d → waits md o j = true → R j (a.tmps.getD d undef) w) → (∀ j, (∃ p, ops[j]? = some p) → waits md o j = true → l j = true) → (∀ t, t ∉ dsts ops → a.tmps.getD t undef = a0.tmps.getD t undef) →
      ∃ w', (execOp a.eval o).run P w = .ok .skip w' ∧ C (done l i) w' ∧ ∀ j u, j ≠ i → R j u w → R j u w') : StepG P Q md ops a0 C R i o := ⟨fun K a w l hl hC hdep hfix hK => by
  have hd2 : ∀ (j : Nat) (p : Oper) (d : Nat), ops[j]? = some p → p.dst = some d → waits md o j = true → R j (a.tmps.getD d undef) w := fun j p d hp hd hx => (hdep j p hp hx).2 d hd
  obtain ⟨w', hrun, hC', hmono⟩ := h a w l hl hC hd2 (fun j ⟨p, hp⟩ hx => (hdep j p hp hx).1) hfix
  exact wpOp_of ho (hw a w hd2) (wp_of_none hn hrun (hK undef w' hC' (fun d hd => by rw [hn] at hd; cases hd) hmono))⟩
/-- A call. -/
theorem StepG.of_call {f : FuncId} {a0 : Act} {C : (Nat → Bool) → World → Prop} {R : Nat → Value → World → Prop} {i : Nat} {o : Oper} (ho : ops[i]? = some o)
    (hw : ∀ (a : Act) (w : World), (∀ (j : Nat) (p : Oper) (d : Nat), ops[j]? = some p → p.dst = some d → waits md o j = true → R j (a.tmps.getD d undef) w) → Region.wanted o (yielded ops a.tmps) = true)
    (h : ∀ (a : Act) (w : World) (l : Nat → Bool), l i = false → C l w → (∀ (j : Nat) (p : Oper) (d : Nat), ops[j]? = some p → p.dst = some d → waits md o j = true → R j (a.tmps.getD d undef) w) → (∀ j, (∃ p, ops[j]? = some p) → waits md o j = true → l j = true) → (∀ t, t ∉ dsts ops → a.tmps.getD t undef = a0.tmps.getD t undef) →
      ∃ args w1, (execOp a.eval o).run P w = .ok (.enter f args) w1 ∧ Calls P f args w1 fun e w2 => ∃ v, e = .returned v ∧ C (done l i) w2 ∧ R i v w2 ∧ ∀ j u, j ≠ i → R j u w → R j u w2) : StepG P Q md ops a0 C R i o := ⟨fun K a w l hl hC hdep hfix hK => by
  have hd2 : ∀ (j : Nat) (p : Oper) (d : Nat), ops[j]? = some p → p.dst = some d → waits md o j = true → R j (a.tmps.getD d undef) w := fun j p d hp hd hx => (hdep j p hp hx).2 d hd
  obtain ⟨args, w1, hrun, hcall⟩ := h a w l hl hC hd2 (fun j ⟨p, hp⟩ hx => (hdep j p hp hx).1) hfix
  refine wpOp_of ho (hw a w hd2) ?_
  unfold Oper.wp
  simp only [hrun]
  refine hcall.mono ?_
  rintro e w2 ⟨v, rfl, h1, h2, h3⟩
  exact hK v w2 h1 (fun _ _ => h2) h3⟩
end
end Inv
end Go.Proofs.YtcnedecmmplmoaaGreatDoor
