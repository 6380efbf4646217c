/- A region that draws its order, whose operations may have no slot (stores): by a condition on what is done so far. -/
import Derived.Test.YtmcafiihicanfaaDoorInvW
namespace Go.Proofs.YtmcafiihicanfaaDoor
namespace Inv
section
variable {P : Program} {ops : Array Oper} {Q : Exit → Act → World → Prop} {md : Region.Mode}
structure GForm (md : Region.Mode) (ops : Array Oper) (n : Nat) : Prop where
  dst : ∀ (i : Nat) (o : Oper) (d : Nat), ops[i]? = some o → o.dst = some d → d < n
  apart : ∀ (i j : Nat) (o p : Oper) (d : Nat), ops[i]? = some o → ops[j]? = some p → o.dst = some d → p.dst = some d → i = j
  ahead : ∀ (i : Nat) (o : Oper), ops[i]? = some o → ∀ e ∈ o.after, Region.binds md e = true → e.on < i
/-- What stands between two operations: what is done so far is told by a function. -/
structure HoldsG (a0 : Act) (ops : Array Oper) (C : (Nat → Bool) → World → Prop) (R : Nat → Value → World → Prop) (listed : Array Bool) (a : Act) (w : World) : Prop where
  ls : listed.size = ops.size
  world : C (fun i => listed.getD i false) w
  defs : a.defers = a0.defers
  size : a.tmps.size = a0.tmps.size
  own : ∀ (i : Nat) (o : Oper) (d : Nat), ops[i]? = some o → o.dst = some d → listed.getD i false = true → R i (a.tmps.getD d undef) w
  other : ∀ t, (∀ (i : Nat) (o : Oper), ops[i]? = some o → o.dst = some t → listed.getD i false = false) → a.tmps.getD t undef = a0.tmps.getD t undef
def done (l : Nat → Bool) (i : Nat) : Nat → Bool := fun j => if j = i then true else l j
structure StepG (P : Program) (Q : Exit → Act → World → Prop) (md : Region.Mode) (ops : Array Oper) (a0 : Act) (C : (Nat → Bool) → World → Prop) (R : Nat → Value → World → Prop) (i : Nat) (o : Oper) : Prop where
  run : ∀ (K : Act → World → Prop) (a : Act) (w : World) (l : Nat → Bool), l i = false → C l w → (∀ (j : Nat) (p : Oper), ops[j]? = some p → waits md o j = true → l j = true ∧ ∀ d, p.dst = some d → R j (a.tmps.getD d undef) w) → (∀ t, t ∉ dsts ops → a.tmps.getD t undef = a0.tmps.getD t undef) →
    (∀ v w', C (done l i) w' → (∀ d, o.dst = some d → R i v w') → (∀ j u, j ≠ i → R j u w → R j u w') → K (a.put o.dst v) w') → wpOp P ops Q i K a w
theorem done_eq {listed : Array Bool} {i : Nat} (hu : listed.getD i true = false) : (fun j => (listed.setIfInBounds i true).getD j false) = done (fun j => listed.getD j false) i := by
  funext j
  unfold done
  by_cases h : j = i
  · rw [if_pos h, h, getD_set_same _ _ hu]
  · rw [if_neg h, getD_set_other _ _ _ h]
/-- **A region that draws its order, by a condition on what is done so far.** -/
theorem wp_region_invG {id : Nat} {a0 : Act} {w0 : World} (hm : P.follows .mixedOrders = true) (C : (Nat → Bool) → World → Prop) (R : Nat → Value → World → Prop) (hform : GForm .any ops a0.tmps.size) (hC : C (fun _ => false) w0.drew)
    (hsteps : ∀ (i : Nat) (o : Oper), ops[i]? = some o → StepG P Q .any ops a0 C R i o)
    (hQ : ∀ (f : Nat → Value) (w : World) (l : Nat → Bool), C l w → (∀ i, i < ops.size → l i = true) → (∀ (i : Nat) (o : Oper) (d : Nat), ops[i]? = some o → o.dst = some d → R i (f d) w) → Q .normal ((dsts ops).foldl (fun b d => b.put (some d) (f d)) a0) w) :
    (Code.region id ops true).wp P Q a0 w0 := by
  refine wp_region_any hm (wpAny_invW (HoldsG a0 ops C R) (fun listed a w h hr => ?_) (fun listed a w i o K h hi ho hK => ?_) _ _ _ _ ?_ ?_)
  · have hall : ∀ i, i < ops.size → listed.getD i true = true := by
      intro i
      induction i using Nat.strongRecOn with
      | ind i ih =>
        intro hi
        cases hc : listed.getD i true with
        | true => rfl
        | false =>
          have ho : ops[i]? = some ops[i] := Array.getElem?_eq_getElem hi
          have : i ∈ Region.ready .any ops listed := mem_ready.2 ⟨hc, ops[i], ho, fun e he hb => by
            have hlt := hform.ahead i _ ho e he hb
            have := ih e.on hlt (by omega)
            have hz : e.on < listed.size := by rw [h.ls]; omega
            simpa [Array.getD, hz] using this⟩
          rw [hr] at this; cases this
    have hall3 : ∀ i, i < ops.size → listed.getD i false = true := fun i hi => by
      have := hall i hi
      have hz : i < listed.size := by rw [h.ls]; exact hi
      simpa [Array.getD, hz] using this
    have hall2 : ∀ (i : Nat) (o : Oper), ops[i]? = some o → listed.getD i false = true := fun i o ho => hall3 i (Array.getElem?_eq_some_iff.1 ho).1
    have hf := fold_eq a (dsts ops) a0 h.defs h.size (fun d hd => by
      obtain ⟨i, o, ho, e⟩ := of_dsts hd
      exact hform.dst i o d ho e) (fun t ht => h.other t fun i o ho e => absurd (mem_dsts ho e) ht)
    rw [← hf]
    exact hQ (fun d => a.tmps.getD d undef) w _ h.world hall3 fun i o d ho hd => h.own i o d ho hd (hall2 i o ho)
  · obtain ⟨hu, o', ho', hrdy⟩ := mem_ready.1 hi
    rw [ho] at ho'; cases ho'
    refine (hsteps i o ho).run K a w _ (getD_false hu) h.world (fun j p hp hx => by
      unfold waits at hx
      rw [Array.any_eq_true'] at hx
      obtain ⟨x, hxm, hx2⟩ := hx
      simp only [Bool.and_eq_true, beq_iff_eq] at hx2
      have hl : listed.getD j false = true := by rw [← hx2.2]; exact hrdy x hxm hx2.1
      exact ⟨hl, fun e he => h.own j p e hp he hl⟩) (fun t ht => h.other t fun j p hp he => absurd (mem_dsts hp he) ht) fun v w' hC' hR hmono => hK _ _ (by
        refine ⟨by simpa using h.ls, by rw [done_eq hu]; exact hC', ?_, by rw [put_size]; exact h.size, fun j p e hp he hl => ?_, fun t ht => ?_⟩
        · cases hd : o.dst <;> exact h.defs
        · by_cases hji : j = i
          · subst hji
            rw [ho] at hp; cases hp
            rw [he, put_same _ _ _ (by rw [h.size]; exact hform.dst j o e ho he)]
            exact hR e he
          · have hl2 := hl
            rw [getD_set_other _ _ _ hji] at hl2
            cases hd : o.dst with
            | none => exact hmono _ _ hji (h.own j p e hp he hl2)
            | some d =>
              have hde : e ≠ d := fun e2 => hji (hform.apart j i p o e hp ho he (by rw [hd, e2]))
              rw [put_other _ _ _ _ hde]
              exact hmono _ _ hji (h.own j p e hp he hl2)
        · have hkeep : a.tmps.getD t undef = a0.tmps.getD t undef := h.other t fun j p hp he => by
            by_cases hji : j = i
            · subst hji; exact getD_false hu
            · have := ht j p hp he
              rwa [getD_set_other _ _ _ hji] at this
          cases hd : o.dst with
          | none => exact hkeep
          | some d =>
            have htd : t ≠ d := fun e2 => by
              have := ht i o ho (by rw [hd, e2])
              rw [getD_set_same _ _ hu] at this; cases this
            rw [put_other _ _ _ _ htd]
            exact hkeep)
  · unfold left
    simp
  · refine ⟨by simp, ?_, rfl, rfl, fun i o d ho hd hl => ?_, fun t _ => rfl⟩
    · rw [show (fun i => (Array.replicate ops.size false).getD i false) = fun _ => false from by funext i; by_cases h : i < ops.size <;> simp [Array.getD, h]]
      exact hC
    · have hi := (Array.getElem?_eq_some_iff.1 ho).1
      simp [Array.getD, hi] at hl
/-- The form, reckoned. -/
def formG (md : Region.Mode) (ops : Array Oper) (n : Nat) : Bool :=
  (ops.toList.all fun o => match o.dst with | some d => decide (d < n) | none => true) && decide (ops.toList.filterMap (·.dst)).Nodup &&
    (List.range ops.size).all fun i => match ops[i]? with | none => true | some o => o.after.all fun e => !Region.binds md e || decide (e.on < i)
theorem nodup_apart : ∀ {l : List Oper}, (l.filterMap (·.dst)).Nodup → ∀ (i j : Nat) (o p : Oper) (d : Nat), l[i]? = some o → l[j]? = some p → o.dst = some d → p.dst = some d → i = j
  | [], _, i, _, _, _, _, h, _, _, _ => by simp at h
  | x :: l, hn, i, j, o, p, d, ho, hp, hod, hpd => by
    have hl : (l.filterMap (·.dst)).Nodup := by
      cases hx : x.dst with
      | none => rw [List.filterMap_cons, hx] at hn; exact hn
      | some y => rw [List.filterMap_cons, hx] at hn; exact (List.nodup_cons.1 hn).2
    have hno : ∀ (k : Nat) (q : Oper), l[k]? = some q → q.dst = some d → x.dst = some d → False := fun k q hq hqd hxd => by
      rw [List.filterMap_cons, hxd] at hn
      exact (List.nodup_cons.1 hn).1 (List.mem_filterMap.2 ⟨q, List.mem_of_getElem? hq, hqd⟩)
    match i, j with
    | 0, 0 => rfl
    | 0, j + 1 =>
      simp only [List.getElem?_cons_zero, Option.some.injEq] at ho
      subst ho
      exact absurd (hno j p (by simpa using hp) hpd hod) id
    | i + 1, 0 =>
      simp only [List.getElem?_cons_zero, Option.some.injEq] at hp
      subst hp
      exact absurd (hno i o (by simpa using ho) hod hpd) id
    | i + 1, j + 1 => rw [nodup_apart hl i j o p d (by simpa using ho) (by simpa using hp) hod hpd]
theorem formG_spec {n : Nat} (h : formG md ops n = true) : GForm md ops n := by
  unfold formG at h
  simp only [Bool.and_eq_true, decide_eq_true_eq, List.all_eq_true] at h
  obtain ⟨⟨h1, h2⟩, h3⟩ := h
  refine ⟨fun i o d ho hd => ?_, fun i j o p d ho hp hod hpd => nodup_apart h2 i j o p d (by simpa using ho) (by simpa using hp) hod hpd, fun i o ho e he hb => ?_⟩
  · have := h1 o (Array.mem_toList_iff.2 (Array.mem_of_getElem? ho))
    rw [hd] at this
    simpa using this
  · have := h3 i (List.mem_range.2 (Array.getElem?_eq_some_iff.1 ho).1)
    rw [ho] at this
    have := Array.all_eq_true'.1 this e he
    rw [hb] at this
    simpa using this
/-- An operation of one run that makes a value; what is done so far does not matter to it. -/
theorem StepG.of_run {a0 : Act} {C : (Nat → Bool) → World → Prop} {R : Nat → Value → World → Prop} {i : Nat} {o : Oper} (ho : ops[i]? = some o)
    (hw : ∀ (a : Act) (w : World), (∀ (j : Nat) (p : Oper) (d : Nat), ops[j]? = some p → p.dst = some d → waits md o j = true → R j (a.tmps.getD d undef) w) → Region.wanted o (yielded ops a.tmps) = true)
    (h : ∀ (a : Act) (w : World) (l : Nat → Bool), l i = false → C l w → (∀ (j : Nat) (p : Oper) (d : Nat), ops[j]? = some p → p.dst = some d → waits md o j = true → R j (a.tmps.getD d undef) w) → (∀ j, (∃ p, ops[j]? = some p) → waits md o j = true → l j = true) → (∀ t, t ∉ dsts ops → a.tmps.getD t undef = a0.tmps.getD t undef) →
      ∃ v w', (execOp a.eval o).run P w = .ok (.value v) w' ∧ C (done l i) w' ∧ R i v w' ∧ ∀ j u, j ≠ i → R j u w → R j u w') : StepG P Q md ops a0 C R i o := ⟨fun K a w l hl hC hdep hfix hK => by
  have hd2 : ∀ (j : Nat) (p : Oper) (d : Nat), ops[j]? = some p → p.dst = some d → waits md o j = true → R j (a.tmps.getD d undef) w := fun j p d hp hd hx => (hdep j p hp hx).2 d hd
  obtain ⟨v, w', hrun, hC', hR, hmono⟩ := h a w l hl hC hd2 (fun j ⟨p, hp⟩ hx => (hdep j p hp hx).1) hfix
  exact wpOp_of ho (hw a w hd2) (wp_of_run hrun (hK v w' hC' (fun _ _ => hR) hmono))⟩
theorem wp_of_none {o : Oper} {K : Act → World → Prop} {a : Act} {w w' : World} (hd : o.dst = none) (h : (execOp a.eval o).run P w = .ok .skip w') (hk : K (a.put o.dst undef) w') : o.wp P a w K Q := by
  unfold Oper.wp
  simp only [h, Oper.upon]
  exact hk
/-- A store. -/
theorem StepG.of_store {a0 : Act} {C : (Nat → Bool) → World → Prop} {R : Nat → Value → World → Prop} {i : Nat} {o : Oper} (ho : ops[i]? = some o) (hn : o.dst = none)
    (hw : ∀ (a : Act) (w : World), (∀ (j : Nat) (p : Oper) (d : Nat), ops[j]? = some p → p.dst = some d → waits md o j = true → R j (a.tmps.getD d undef) w) → Region.wanted o (yielded ops a.tmps) = true)
    (h : ∀ (a : Act) (w : World) (l : Nat → Bool), l i = false → C l w → (∀ (j : Nat) (p : Oper) (d : Nat), ops[j]? = some p → p.dst = some d → waits md o j = true → R j (a.tmps.getD d undef) w) → (∀ j, (∃ p, ops[j]? = some p) → waits md o j = true → l j = true) → (∀ t, t ∉ dsts ops → a.tmps.getD t undef = a0.tmps.getD t undef) →
      ∃ w', (execOp a.eval o).run P w = .ok .skip w' ∧ C (done l i) w' ∧ ∀ j u, j ≠ i → R j u w → R j u w') : StepG P Q md ops a0 C R i o := ⟨fun K a w l hl hC hdep hfix hK => by
  have hd2 : ∀ (j : Nat) (p : Oper) (d : Nat), ops[j]? = some p → p.dst = some d → waits md o j = true → R j (a.tmps.getD d undef) w := fun j p d hp hd hx => (hdep j p hp hx).2 d hd
  obtain ⟨w', hrun, hC', hmono⟩ := h a w l hl hC hd2 (fun j ⟨p, hp⟩ hx => (hdep j p hp hx).1) hfix
  exact wpOp_of ho (hw a w hd2) (wp_of_none hn hrun (hK undef w' hC' (fun d hd => by rw [hn] at hd; cases hd) hmono))⟩
/-- A call. -/
theorem StepG.of_call {f : FuncId} {a0 : Act} {C : (Nat → Bool) → World → Prop} {R : Nat → Value → World → Prop} {i : Nat} {o : Oper} (ho : ops[i]? = some o)
    (hw : ∀ (a : Act) (w : World), (∀ (j : Nat) (p : Oper) (d : Nat), ops[j]? = some p → p.dst = some d → waits md o j = true → R j (a.tmps.getD d undef) w) → Region.wanted o (yielded ops a.tmps) = true)
    (h : ∀ (a : Act) (w : World) (l : Nat → Bool), l i = false → C l w → (∀ (j : Nat) (p : Oper) (d : Nat), ops[j]? = some p → p.dst = some d → waits md o j = true → R j (a.tmps.getD d undef) w) → (∀ j, (∃ p, ops[j]? = some p) → waits md o j = true → l j = true) → (∀ t, t ∉ dsts ops → a.tmps.getD t undef = a0.tmps.getD t undef) →
      ∃ args w1, (execOp a.eval o).run P w = .ok (.enter f args) w1 ∧ Calls P f args w1 fun e w2 => ∃ v, e = .returned v ∧ C (done l i) w2 ∧ R i v w2 ∧ ∀ j u, j ≠ i → R j u w → R j u w2) : StepG P Q md ops a0 C R i o := ⟨fun K a w l hl hC hdep hfix hK => by
  have hd2 : ∀ (j : Nat) (p : Oper) (d : Nat), ops[j]? = some p → p.dst = some d → waits md o j = true → R j (a.tmps.getD d undef) w := fun j p d hp hd hx => (hdep j p hp hx).2 d hd
  obtain ⟨args, w1, hrun, hcall⟩ := h a w l hl hC hd2 (fun j ⟨p, hp⟩ hx => (hdep j p hp hx).1) hfix
  refine wpOp_of ho (hw a w hd2) ?_
  unfold Oper.wp
  simp only [hrun]
  refine hcall.mono ?_
  rintro e w2 ⟨v, rfl, h1, h2, h3⟩
  exact hK v w2 h1 (fun _ _ => h2) h3⟩
end
end Inv
end Go.Proofs.YtmcafiihicanfaaDoor
