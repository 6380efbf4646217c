/- A region that draws its order, by a condition that each operation keeps: the last operation, a store, waits for all. -/
import Derived.Test.YtmcafiihicanfaaDoorInvW
set_option linter.unusedVariables false
set_option linter.unusedSimpArgs false
namespace Go.Proofs.YtmcafiihicanfaaDoor
namespace Inv
section
variable {P : Program} {ops : Array Oper} {Q : Exit → Act → World → Prop} {md : Region.Mode}
/-- All but the last operation write slots of their own; the last one waits for all. -/
structure LForm (md : Region.Mode) (ops : Array Oper) (n m : Nat) : Prop where
  last : m + 1 = ops.size
  dst : ∀ (i : Nat) (o : Oper), ops[i]? = some o → i ≠ m → ∃ d, o.dst = some d ∧ d < n
  none : ∀ (o : Oper), ops[m]? = some o → o.dst = none
  apart : ∀ (i j : Nat) (o p : Oper), ops[i]? = some o → ops[j]? = some p → i ≠ m → o.dst = p.dst → i = j
  ahead : ∀ (i : Nat) (o : Oper), ops[i]? = some o → ∀ e ∈ o.after, Region.binds md e = true → e.on < i
  waits : ∀ (o : Oper), ops[m]? = some o → ∀ j, j < m → waits md o j = true
theorem wp_region_invL {id m : Nat} {a0 : Act} {w0 : World} (hm : P.follows .mixedOrders = true) (C : World → Prop) (R : Nat → Value → World → Prop) (hform : LForm .any ops a0.tmps.size m) (hC : C w0.drew)
    (hsteps : ∀ (i : Nat) (o : Oper), ops[i]? = some o → i ≠ m → StepW P Q .any ops a0 C R i o)
    (hQ : ∀ (f : Nat → Value) (w : World) (K : Act → World → Prop), C w → (∀ (i : Nat) (o : Oper) (d : Nat), ops[i]? = some o → o.dst = some d → R i (f d) w) → (∀ a' w', Q .normal a' w' → K a' w') → wpOp P ops Q m K ((dsts ops).foldl (fun b d => b.put (some d) (f d)) a0) w) :
    (Code.region id ops true).wp P Q a0 w0 := by
  have hml : m < ops.size := by have := hform.last; omega
  refine wp_region_any hm (wpAny_invW (fun listed a w => (listed.getD m true = false ∧ Holds a0 ops C R listed a w) ∨ (left listed = 0 ∧ Q .normal a w)) (fun listed a w h hr => ?_) (fun listed a w i o K h hi ho hK => ?_) _ _ _ _ ?_ ?_)
  · rcases h with ⟨hlm, h⟩ | ⟨_, h⟩
    · exfalso
      have hall : ∀ i, i < ops.size → i ≠ m → listed.getD i true = true := by
        intro i
        induction i using Nat.strongRecOn with
        | ind i ih =>
          intro hi hne
          cases hc : listed.getD i true with
          | true => rfl
          | false =>
            have ho : ops[i]? = some ops[i] := Array.getElem?_eq_getElem hi
            have : i ∈ Region.ready .any ops listed := mem_ready.2 ⟨hc, ops[i], ho, fun e he hb => by
              have hlt := hform.ahead i _ ho e he hb
              have hla := hform.last
              have := ih e.on hlt (by omega) (by omega)
              have hz : e.on < listed.size := by rw [h.ls]; omega
              simpa [Array.getD, hz] using this⟩
            rw [hr] at this; cases this
      have ho : ops[m]? = some ops[m] := Array.getElem?_eq_getElem hml
      have : m ∈ Region.ready .any ops listed := mem_ready.2 ⟨hlm, ops[m], ho, fun e he hb => by
        have hlt := hform.ahead m _ ho e he hb
        have := hall e.on (by omega) (by omega)
        have hz : e.on < listed.size := by rw [h.ls]; omega
        simpa [Array.getD, hz] using this⟩
      rw [hr] at this; cases this
    · exact h
  · obtain ⟨hu, o', ho', hrdy⟩ := mem_ready.1 hi
    rw [ho] at ho'; cases ho'
    rcases h with ⟨hlm, h⟩ | ⟨h0, _⟩
    · by_cases him : i = m
      · subst him
        have hall2 : ∀ (j : Nat) (p : Oper), ops[j]? = some p → j ≠ i → listed.getD j false = true := fun j p hp hj => by
          have hjl := (Array.getElem?_eq_some_iff.1 hp).1
          have hwt := hform.waits o ho j (by have := hform.last; omega)
          unfold waits at hwt
          rw [Array.any_eq_true'] at hwt
          obtain ⟨x, hxm, hx2⟩ := hwt
          simp only [Bool.and_eq_true, beq_iff_eq] at hx2
          rw [← hx2.2]
          exact hrdy x hxm hx2.1
        have hnd := hform.none o ho
        have hf := fold_eq a (dsts ops) a0 h.defs h.size (fun d hd => by
          obtain ⟨j, p, hp, e⟩ := of_dsts hd
          have hj : j ≠ i := fun e2 => by subst e2; rw [ho] at hp; cases hp; rw [hnd] at e; cases e
          obtain ⟨d', e', hlt⟩ := hform.dst j p hp hj
          rw [e] at e'; cases e'; exact hlt) (fun t ht => h.other t fun j p hp e => absurd (mem_dsts hp e) ht)
        rw [← hf]
        refine hQ (fun d => a.tmps.getD d undef) w K h.world (fun j p d hp hd => h.own j p d hp hd (hall2 j p hp (fun e2 => by subst e2; rw [ho] at hp; cases hp; rw [hnd] at hd; cases hd))) fun a' w' hq => hK _ _ (.inr ⟨?_, hq⟩)
        have hz : (listed.setIfInBounds i true).toList.count false = 0 := by
          rw [List.count_eq_zero]
          intro hmem
          obtain ⟨j, hj⟩ := List.mem_iff_getElem?.1 hmem
          have hjl : j < ops.size := by
            have := (List.getElem?_eq_some_iff.1 hj).1
            rw [← h.ls]; simpa using this
          have hp : ops[j]? = some ops[j] := Array.getElem?_eq_getElem hjl
          by_cases hji : j = i
          · subst hji
            have h1 := getD_set_same _ _ hu
            rw [Array.getD_eq_getD_getElem?, ← Array.getElem?_toList, hj] at h1
            cases h1
          · have h1 := getD_set_other listed i j hji
            rw [hall2 j _ hp hji, Array.getD_eq_getD_getElem?, ← Array.getElem?_toList, hj] at h1
            cases h1
        exact hz
      · obtain ⟨d, hd, hlt⟩ := hform.dst i o ho him
        refine (hsteps i o ho him).run K a w h.world (fun j p e hp he hx => by
          unfold waits at hx
          rw [Array.any_eq_true'] at hx
          obtain ⟨x, hxm, hx2⟩ := hx
          simp only [Bool.and_eq_true, beq_iff_eq] at hx2
          exact h.own j p e hp he (by rw [← hx2.2]; exact hrdy x hxm hx2.1)) (fun t ht => h.other t fun j p hp he => absurd (mem_dsts hp he) ht) fun v w' hC' hR hmono => hK _ _ (.inl ⟨?_, ?_⟩)
        · rw [Array.getD_eq_getD_getElem?, Array.getElem?_setIfInBounds_ne him, ← Array.getD_eq_getD_getElem?]
          exact hlm
        · refine ⟨by simpa using h.ls, hC', by rw [hd]; exact h.defs, by rw [put_size]; exact h.size, fun j p e hp he hl => ?_, fun t ht => ?_⟩
          · rw [hd]
            by_cases hji : j = i
            · subst hji
              rw [ho] at hp; cases hp
              rw [hd] at he; cases he
              rw [put_same _ _ _ (by rw [h.size]; exact hlt)]
              exact hR
            · have hde : e ≠ d := fun e2 => hji (hform.apart i j o p ho hp him (by rw [he, hd, e2])).symm
              rw [put_other _ _ _ _ hde]
              rw [getD_set_other _ _ _ hji] at hl
              exact hmono _ _ (h.own j p e hp he hl)
          · rw [hd]
            have htd : t ≠ d := fun e2 => by
              have := ht i o ho (by rw [hd, e2])
              rw [getD_set_same _ _ hu] at this; cases this
            rw [put_other _ _ _ _ htd]
            refine h.other t fun j p hp he => ?_
            by_cases hji : j = i
            · subst hji; exact getD_false hu
            · have := ht j p hp he
              rwa [getD_set_other _ _ _ hji] at this
    · rw [left_zero h0] at hu; cases hu
  · unfold left
    simp
  · refine .inl ⟨by simp [Array.getD, hml], by simp, hC, rfl, rfl, fun i o d ho hd hl => ?_, fun t _ => rfl⟩
    have hi := (Array.getElem?_eq_some_iff.1 ho).1
    simp [Array.getD, hi] at hl
/-- The form, reckoned. -/
def formL (md : Region.Mode) (ops : Array Oper) (n m : Nat) : Bool :=
  decide (m + 1 = ops.size) && ((ops.toList.take m).all fun o => match o.dst with | some d => decide (d < n) | none => false) && (match ops[m]? with | some o => o.dst.isNone && (List.range m).all (fun j => waits md o j) | none => false) &&
    decide ((ops.toList.take m).map (fun o => o.dst.getD 0)).Nodup && (List.range ops.size).all fun i => match ops[i]? with | none => true | some o => o.after.all fun e => !Region.binds md e || decide (e.on < i)
theorem formL_spec {n m : Nat} (h : formL md ops n m = true) : LForm md ops n m := by
  unfold formL at h
  simp only [Bool.and_eq_true, decide_eq_true_eq] at h
  obtain ⟨⟨⟨⟨h0, h1⟩, h2⟩, h3⟩, h4⟩ := h
  rw [List.all_eq_true] at h1 h4
  have hml : m < ops.size := by omega
  have hlo : ops[m]? = some ops[m] := Array.getElem?_eq_getElem hml
  rw [hlo] at h2
  simp only [Bool.and_eq_true, List.all_eq_true] at h2
  have hd : ∀ (i : Nat) (o : Oper), ops[i]? = some o → i ≠ m → ∃ d, o.dst = some d ∧ d < n := fun i o ho hne => by
    have hi := (Array.getElem?_eq_some_iff.1 ho).1
    have hmem : o ∈ ops.toList.take m := by
      refine List.mem_of_getElem? (i := i) ?_
      rw [List.getElem?_take, if_pos (by omega), Array.getElem?_toList]
      exact ho
    have d := h1 o hmem
    cases hx : o.dst with
    | none => rw [hx] at d; cases d
    | some x => rw [hx] at d; exact ⟨x, rfl, by simpa using d⟩
  have hn : ∀ (o : Oper), ops[m]? = some o → o.dst = none := fun o ho => by
    rw [hlo] at ho; cases ho
    simpa using h2.1
  refine ⟨h0, hd, hn, fun i j o p ho hp hne e => ?_, fun i o ho e he hb => ?_, fun o ho j hj => ?_⟩
  · have hjm : j ≠ m := fun e2 => by
      subst e2
      obtain ⟨d, hx, _⟩ := hd i o ho hne
      rw [hn p hp, hx] at e; cases e
    have hi := (Array.getElem?_eq_some_iff.1 ho).1
    have hj := (Array.getElem?_eq_some_iff.1 hp).1
    have hi2 := (Array.getElem?_eq_some_iff.1 ho).2
    have hj2 := (Array.getElem?_eq_some_iff.1 hp).2
    have hp2 := List.pairwise_iff_getElem.1 h3
    rcases Nat.lt_trichotomy i j with hlt | heq | hgt
    · refine absurd ?_ (hp2 i j (by simp; omega) (by simp; omega) hlt)
      simp [hi2, hj2, e]
    · exact heq
    · refine absurd ?_ (hp2 j i (by simp; omega) (by simp; omega) hgt)
      simp [hi2, hj2, e]
  · have := h4 i (List.mem_range.2 (Array.getElem?_eq_some_iff.1 ho).1)
    rw [ho] at this
    have := Array.all_eq_true'.1 this e he
    rw [hb] at this
    simpa using this
  · rw [hlo] at ho; cases ho
    exact h2.2 j (List.mem_range.2 hj)
end
end Inv
end Go.Proofs.YtmcafiihicanfaaDoor
