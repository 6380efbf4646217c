/- numbers: the whole number below, for the law NumbersWhole (maths). -/
import Derived.Test.YtbmmoclaijoofaaGreatDoorNumWa
set_option linter.unusedVariables false
set_option linter.unusedSimpArgs false
namespace Go.Proofs.YtbmmoclaijoofaaGreatDoor
open Go.RowKit Go.BigFrame
open Num (nanB sg rg rv sv tv key eqF ltF cmpI wd infR R53 P0 wholeR flN ONE)
attribute [local irreducible] Num.rv

theorem tv_le (r : Nat) : tv r * P0 ≤ rv r := by unfold Num.tv; exact Nat.div_mul_le_self _ _
theorem tv_gt (r : Nat) : rv r < (tv r + 1) * P0 := by unfold Num.tv; rw [Nat.add_mul, Nat.one_mul]; exact Nat.lt_div_mul_add Num.P0_pos
theorem sv_wd (s : Bool) (r : Nat) (h : r < infR) : sv (wd s r) = if s then -(rv r : Int) else (rv r : Int) := by
  unfold Num.sv
  rw [Num.sg_wd s (Num.lt_big h), Num.rg_wd s (Num.lt_big h)]
theorem fl_lt {x : Nat} (h : rg x < R53) : flN (sg x) (rg x) < 2 ^ 53 := by
  have h1 := Num.rung_53.1 h
  unfold Num.flN
  split
  · rename_i hc
    rw [Bool.and_eq_true, decide_eq_true_eq] at hc
    have h2 : rg x < Num.B52 := by
      apply Nat.lt_of_not_le
      intro h3
      exact hc.2 (Num.rv_B52_le h3)
    have h3 := tv_le (rg x)
    have h4 := Num.rv_lt.2 h2
    rw [Num.rv_B52] at h4
    have h6 : tv (rg x) * P0 < 2 ^ 52 * P0 := Nat.lt_of_le_of_lt h3 h4
    have := Nat.lt_of_mul_lt_mul_right h6
    omega
  · exact h1
theorem sv_sum (S : Int) (b : Bool) (r : Nat) (hr : r < infR) (h : S.natAbs = rv r) : sv (wd (if S = 0 then b else decide (S < 0)) r) = S := by
  rw [sv_wd _ r hr, ← h]
  by_cases h0 : S = 0
  · subst h0; rw [if_pos rfl]; cases b <;> rfl
  · rw [if_neg h0]
    by_cases h1 : S < 0
    · rw [decide_eq_true h1, if_pos rfl]; omega
    · rw [decide_eq_false h1, if_neg (by decide)]; omega
/-- What is below, and one more. -/
theorem down_near {x d : Nat} (h : DownIs x d) (hx : rg x < R53) : wholeR (rg d) = true ∧ nanB d = false ∧ sv d ≤ sv x ∧ ∃ s, Go.floatBits .add .f64 d 4607182418800017408 = some s ∧ nanB s = false ∧ sv x < sv s := by
  have hxi : rg x < infR := Nat.lt_trans hx Num.R53_lt
  obtain ⟨rt, hrt, hv, rfl⟩ := h.fin hxi
  have hf := fl_lt hx
  have htv : tv rt = flN (sg x) (rg x) := by unfold Num.tv; rw [hv, Nat.mul_div_cancel _ Num.P0_pos]
  have h63 := Num.lt_big hrt
  have hsx : sv x = if sg x then -(rv (rg x) : Int) else (rv (rg x) : Int) := by unfold Num.sv; rfl
  have hsd := sv_wd (sg x) rt hrt
  have hlo := tv_le (rg x)
  have hhi := tv_gt (rg x)
  have hP := Num.P0_pos
  rw [Nat.add_mul, Nat.one_mul] at hhi
  have hone : sv 4607182418800017408 = (P0 : Int) := by
    have : sv ONE = (rv ONE : Int) := by unfold Num.sv; rw [Num.sg_one, Num.rg_one]; rfl
    rw [Num.rv_one] at this; exact this
  obtain ⟨a, ha⟩ : ∃ a, a = rv (rg x) := ⟨_, rfl⟩
  obtain ⟨m, hm, hms⟩ : ∃ m, m ≤ 2 ^ 53 ∧ (sv (wd (sg x) rt) + (P0 : Int)).natAbs = m * P0 := by
    rw [hsd, hv]
    have hf2 := hf
    clear hone hlo hhi hsx htv hxi ha h hv hsd
    generalize flN (sg x) (rg x) = f at *
    generalize sg x = sx at *
    clear hf
    generalize P0 = q at *
    cases sx
    · exact ⟨f + 1, by omega, by rw [if_neg (by decide), Nat.add_mul, Nat.one_mul]; omega⟩
    · rcases Nat.eq_zero_or_pos f with rfl | h0
      · exact ⟨1, by decide, by rw [if_pos rfl, Nat.zero_mul]; omega⟩
      · obtain ⟨g, rfl⟩ : ∃ g, f = g + 1 := ⟨f - 1, by omega⟩
        exact ⟨g, by omega, by rw [if_pos rfl, Nat.add_mul, Nat.one_mul]; omega⟩
  obtain ⟨r, hr, _, hrv⟩ := Num.int_rung m hm
  have hadd := Num.add_exact (wd (sg x) rt) 4607182418800017408 r (by rw [Num.rg_wd _ h63]; exact hrt) (by decide) hr (by rw [hone, hms, hrv])
  refine ⟨?_, ?_, ?_, _, hadd, ?_, ?_⟩
  · rw [Num.rg_wd _ h63, Num.wholeR_is, htv, hv, decide_eq_true rfl, Bool.true_and, decide_eq_true_eq, Num.rung_53, htv]; exact hf
  · exact Num.finite_nan (by rw [Num.rg_wd _ h63]; exact hrt)
  · rw [hsd, hsx, hv]
    unfold Num.flN
    cases sg x
    · simp only [Bool.false_and]; rw [if_neg (by decide), if_neg (by decide), if_neg (by decide)]; omega
    · rw [if_pos rfl, if_pos rfl, Bool.true_and]
      split
      · rw [Nat.add_mul, Nat.one_mul]; omega
      · rename_i hc; rw [decide_eq_true_eq, Classical.not_not] at hc; omega
  · exact Num.finite_nan (by rw [Num.rg_wd _ (Num.lt_big hr)]; exact hr)
  · rw [sv_sum _ _ r hr (by rw [hone, hms, hrv]), hone, hsd, hsx, hv]
    clear hone hadd hms hm hrv hxi h hv hsd hsx hf
    unfold Num.flN
    generalize rv (rg x) = a at *
    generalize tv (rg x) = t at *
    generalize P0 = q at *
    generalize sg x = sx at *
    cases sx
    · simp only [Bool.false_and]; rw [if_neg (by decide), if_neg (by decide), if_neg (by decide)]; generalize t * q = z at *; omega
    · rw [if_pos rfl, if_pos rfl, Bool.true_and]
      split
      · rename_i hc; rw [decide_eq_true_eq] at hc; rw [Nat.add_mul, Nat.one_mul]; generalize t * q = z at *; omega
      · rename_i hc; rw [decide_eq_true_eq, Classical.not_not] at hc; generalize t * q = z at *; omega
end Go.Proofs.YtbmmoclaijoofaaGreatDoor
