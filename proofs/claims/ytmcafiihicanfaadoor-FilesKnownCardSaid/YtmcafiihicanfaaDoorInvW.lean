/- A region that draws its order, by a condition that each operation keeps: with guards, calls and appends. -/
import Derived.Test.YtmcafiihicanfaaDoorInv
import Derived.Test.YtmcafiihicanfaaDoorBase
set_option linter.unusedVariables false
set_option linter.unusedSimpArgs false
namespace Go.Proofs.YtmcafiihicanfaaDoor
namespace Inv
section
variable {P : Program} {ops : Array Oper} {Q : Exit → Act → World → Prop} {md : Region.Mode}
theorem wpAny_invW (I : Array Bool → Act → World → Prop) (hend : ∀ listed a w, I listed a w → Region.ready md ops listed = [] → Q .normal a w)
    (hstep : ∀ listed a w i o (K : Act → World → Prop), I listed a w → i ∈ Region.ready md ops listed → ops[i]? = some o → (∀ a' w', I (listed.setIfInBounds i true) a' w' → K a' w') → wpOp P ops Q i K a w) :
    ∀ (fuel : Nat) (listed : Array Bool) (a : Act) (w : World), left listed ≤ fuel → I listed a w → wpAny P md ops Q fuel listed a w
  | 0, listed, a, w, hl, hI => by
    have hr : Region.ready md ops listed = [] := by
      cases hr : Region.ready md ops listed with
      | nil => rfl
      | cons i rs =>
        have := (mem_ready.1 (hr ▸ List.mem_cons_self : i ∈ Region.ready md ops listed)).1
        rw [left_zero (by omega)] at this; cases this
    exact ⟨hr, hend _ _ _ hI hr⟩
  | fuel + 1, listed, a, w, hl, hI => by
    refine ⟨fun hr => hend _ _ _ hI hr, fun i hi => ?_⟩
    obtain ⟨hu, o, ho, _⟩ := mem_ready.1 hi
    exact hstep listed a w i o _ hI hi ho fun a' w' hI' => wpAny_invW I hend hstep fuel _ _ _ (by have := left_set hu; omega) hI'
structure WForm (md : Region.Mode) (ops : Array Oper) (n : Nat) : Prop where
  dst : ∀ (i : Nat) (o : Oper), ops[i]? = some o → ∃ d, o.dst = some d ∧ d < n
  apart : ∀ (i j : Nat) (o p : Oper), ops[i]? = some o → ops[j]? = some p → o.dst = p.dst → i = j
  ahead : ∀ (i : Nat) (o : Oper), ops[i]? = some o → ∀ e ∈ o.after, Region.binds md e = true → e.on < i
/-- What an operation does, whatever stands behind it. -/
structure StepW (P : Program) (Q : Exit → Act → World → Prop) (md : Region.Mode) (ops : Array Oper) (a0 : Act) (C : World → Prop) (R : Nat → Value → World → Prop) (i : Nat) (o : Oper) : Prop where
  run : ∀ (K : Act → World → Prop) (a : Act) (w : World), C w → (∀ (j : Nat) (p : Oper) (d : Nat), ops[j]? = some p → p.dst = some d → waits md o j = true → R j (a.tmps.getD d undef) w) → (∀ t, t ∉ dsts ops → a.tmps.getD t undef = a0.tmps.getD t undef) →
    (∀ v w', C w' → R i v w' → (∀ j u, R j u w → R j u w') → K (a.put o.dst v) w') → wpOp P ops Q i K a w
/-- **A region that draws its order, by a condition that each operation keeps.** -/
theorem wp_region_invW {id : Nat} {a0 : Act} {w0 : World} (hm : P.follows .mixedOrders = true) (C : World → Prop) (R : Nat → Value → World → Prop) (hform : WForm .any ops a0.tmps.size) (hC : C w0.drew)
    (hsteps : ∀ (i : Nat) (o : Oper), ops[i]? = some o → StepW P Q .any ops a0 C R i o)
    (hQ : ∀ (f : Nat → Value) (w : World), C w → (∀ (i : Nat) (o : Oper) (d : Nat), ops[i]? = some o → o.dst = some d → R i (f d) w) → Q .normal ((dsts ops).foldl (fun b d => b.put (some d) (f d)) a0) w) :
    (Code.region id ops true).wp P Q a0 w0 := by
  refine wp_region_any hm (wpAny_invW (Holds a0 ops C R) (fun listed a w h hr => ?_) (fun listed a w i o K h hi ho hK => ?_) _ _ _ _ ?_ ?_)
  · have hall : ∀ i, i < ops.size → listed.getD i true = true := by
      intro i
      induction i using Nat.strongRecOn with
      | ind i ih =>
        intro hi
        cases hc : listed.getD i true with
        | true => rfl
        | false =>
          have ho : ops[i]? = some ops[i] := Array.getElem?_eq_getElem hi
          have : i ∈ Region.ready .any ops listed := mem_ready.2 ⟨hc, ops[i], ho, fun e he hb => by
            have hlt := hform.ahead i _ ho e he hb
            have := ih e.on hlt (by omega)
            have hz : e.on < listed.size := by rw [h.ls]; omega
            simpa [Array.getD, hz] using this⟩
          rw [hr] at this; cases this
    have hall2 : ∀ (i : Nat) (o : Oper), ops[i]? = some o → listed.getD i false = true := fun i o ho => by
      have hi := (Array.getElem?_eq_some_iff.1 ho).1
      have := hall i hi
      have hz : i < listed.size := by rw [h.ls]; exact hi
      simpa [Array.getD, hz] using this
    have hf := fold_eq a (dsts ops) a0 h.defs h.size (fun d hd => by
      obtain ⟨i, o, ho, e⟩ := of_dsts hd
      obtain ⟨d', e', hlt⟩ := hform.dst i o ho
      rw [e] at e'; cases e'; exact hlt) (fun t ht => h.other t fun i o ho e => absurd (mem_dsts ho e) ht)
    rw [← hf]
    exact hQ (fun d => a.tmps.getD d undef) w h.world fun i o d ho hd => h.own i o d ho hd (hall2 i o ho)
  · obtain ⟨hu, o', ho', hrdy⟩ := mem_ready.1 hi
    rw [ho] at ho'; cases ho'
    obtain ⟨d, hd, hlt⟩ := hform.dst i o ho
    refine (hsteps i o ho).run K a w h.world (fun j p e hp he hx => by
      unfold waits at hx
      rw [Array.any_eq_true'] at hx
      obtain ⟨x, hxm, hx2⟩ := hx
      simp only [Bool.and_eq_true, beq_iff_eq] at hx2
      exact h.own j p e hp he (by rw [← hx2.2]; exact hrdy x hxm hx2.1)) (fun t ht => h.other t fun j p hp he => absurd (mem_dsts hp he) ht) fun v w' hC' hR hmono => hK _ _ ?_
    refine ⟨by simpa using h.ls, hC', by rw [hd]; exact h.defs, by rw [put_size]; exact h.size, fun j p e hp he hl => ?_, fun t ht => ?_⟩
    · rw [hd]
      by_cases hji : j = i
      · subst hji
        rw [ho] at hp; cases hp
        rw [hd] at he; cases he
        rw [put_same _ _ _ (by rw [h.size]; exact hlt)]
        exact hR
      · have hde : e ≠ d := fun e2 => hji (hform.apart j i p o hp ho (by rw [he, hd, e2]))
        rw [put_other _ _ _ _ hde]
        rw [getD_set_other _ _ _ hji] at hl
        exact hmono _ _ (h.own j p e hp he hl)
    · rw [hd]
      have htd : t ≠ d := fun e2 => by
        have := ht i o ho (by rw [hd, e2])
        rw [getD_set_same _ _ hu] at this; cases this
      rw [put_other _ _ _ _ htd]
      refine h.other t fun j p hp he => ?_
      by_cases hji : j = i
      · subst hji; exact getD_false hu
      · have := ht j p hp he
        rwa [getD_set_other _ _ _ hji] at this
  · unfold left
    simp
  · exact ⟨by simp, hC, rfl, rfl, fun i o d ho hd hl => by
      have hi := (Array.getElem?_eq_some_iff.1 ho).1
      simp [Array.getD, hi] at hl, fun t _ => rfl⟩
/-- The form, reckoned. -/
def formW (md : Region.Mode) (ops : Array Oper) (n : Nat) : Bool :=
  (ops.toList.all fun o => match o.dst with | some d => decide (d < n) | none => false) && decide (ops.toList.map (fun o => o.dst.getD 0)).Nodup &&
    (List.range ops.size).all fun i => match ops[i]? with | none => true | some o => o.after.all fun e => !Region.binds md e || decide (e.on < i)
theorem formW_spec {n : Nat} (h : formW md ops n = true) : WForm md ops n := by
  unfold formW at h
  simp only [Bool.and_eq_true, decide_eq_true_eq, List.all_eq_true] at h
  obtain ⟨⟨h1, h2⟩, h3⟩ := h
  have hd : ∀ (i : Nat) (o : Oper), ops[i]? = some o → ∃ d, o.dst = some d ∧ d < n := fun i o ho => by
    have d := h1 o (Array.mem_toList_iff.2 (Array.mem_of_getElem? ho))
    cases hx : o.dst with
    | none => rw [hx] at d; cases d
    | some x => rw [hx] at d; exact ⟨x, rfl, by simpa using d⟩
  refine ⟨hd, fun i j o p ho hp e => ?_, fun i o ho e he hb => ?_⟩
  · have hi := (Array.getElem?_eq_some_iff.1 ho)
    have hj := (Array.getElem?_eq_some_iff.1 hp)
    obtain ⟨hi1, hi2⟩ := hi
    obtain ⟨hj1, hj2⟩ := hj
    have hp2 := List.pairwise_iff_getElem.1 h2
    rcases Nat.lt_trichotomy i j with hlt | heq | hgt
    · refine absurd ?_ (hp2 i j (by simpa using hi1) (by simpa using hj1) hlt)
      simp [hi2, hj2, e]
    · exact heq
    · refine absurd ?_ (hp2 j i (by simpa using hj1) (by simpa using hi1) hgt)
      simp [hi2, hj2, e]
  · have := h3 i (List.mem_range.2 (Array.getElem?_eq_some_iff.1 ho).1)
    rw [ho] at this
    have := Array.all_eq_true'.1 this e he
    rw [hb] at this
    simpa using this
/-- An operation that is wanted. -/
theorem wpOp_of {i : Nat} {o : Oper} {K : Act → World → Prop} {a : Act} {w : World} (ho : ops[i]? = some o) (hw : Region.wanted o (yielded ops a.tmps) = true) (h : o.wp P a w K Q) : wpOp P ops Q i K a w := by
  unfold wpOp
  simp only [ho]
  rw [if_pos hw]
  exact .inl h
theorem wp_of_run {o : Oper} {K : Act → World → Prop} {a : Act} {w w' : World} {v : Value} (h : (execOp a.eval o).run P w = .ok (.value v) w') (hk : K (a.put o.dst v) w') : o.wp P a w K Q := by
  unfold Oper.wp
  simp only [h, Oper.upon]
  exact hk
/-- An operation of one run. -/
theorem StepW.of_run {a0 : Act} {C : World → Prop} {R : Nat → Value → World → Prop} {i : Nat} {o : Oper} (ho : ops[i]? = some o)
    (hw : ∀ (a : Act) (w : World), (∀ (j : Nat) (p : Oper) (d : Nat), ops[j]? = some p → p.dst = some d → waits md o j = true → R j (a.tmps.getD d undef) w) → Region.wanted o (yielded ops a.tmps) = true)
    (h : StepOk P md ops a0 C R i o) : StepW P Q md ops a0 C R i o := ⟨fun K a w hC hdep hfix hK => by
  obtain ⟨v, w', hrun, hC', hR, hmono⟩ := h.run a w hC hdep hfix
  exact wpOp_of ho (hw a w hdep) (wp_of_run hrun (hK v w' hC' hR hmono))⟩
/-- A call's operation. -/
theorem StepW.of_call {f : FuncId} {a0 : Act} {C : World → Prop} {R : Nat → Value → World → Prop} {i : Nat} {o : Oper} (ho : ops[i]? = some o)
    (hw : ∀ (a : Act) (w : World), (∀ (j : Nat) (p : Oper) (d : Nat), ops[j]? = some p → p.dst = some d → waits md o j = true → R j (a.tmps.getD d undef) w) → Region.wanted o (yielded ops a.tmps) = true)
    (h : ∀ (a : Act) (w : World), C w → (∀ (j : Nat) (p : Oper) (d : Nat), ops[j]? = some p → p.dst = some d → waits md o j = true → R j (a.tmps.getD d undef) w) → (∀ t, t ∉ dsts ops → a.tmps.getD t undef = a0.tmps.getD t undef) →
      ∃ args w1, (execOp a.eval o).run P w = .ok (.enter f args) w1 ∧ Calls P f args w1 fun e w2 => ∃ v, e = .returned v ∧ C w2 ∧ R i v w2 ∧ ∀ j u, R j u w → R j u w2) : StepW P Q md ops a0 C R i o := ⟨fun K a w hC hdep hfix hK => by
  obtain ⟨args, w1, hrun, hcall⟩ := h a w hC hdep hfix
  refine wpOp_of ho (hw a w hdep) ?_
  unfold Oper.wp
  simp only [hrun]
  refine hcall.mono ?_
  rintro e w2 ⟨v, rfl, h1, h2, h3⟩
  exact hK v w2 h1 h2 h3⟩
end
end Inv
end Go.Proofs.YtmcafiihicanfaaDoor
