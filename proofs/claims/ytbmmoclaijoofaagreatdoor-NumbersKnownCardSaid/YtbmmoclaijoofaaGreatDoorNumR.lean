/- numbers: exact products, whole numbers, what is cut off (maths). -/
import Derived.Test.YtbmmoclaijoofaaGreatDoorNumQ
set_option linter.unusedVariables false
set_option linter.unusedSimpArgs false
namespace Go.Proofs.YtbmmoclaijoofaaGreatDoor.Num
open Ieee

/-- 1, in the least one above 0. -/
def powK (k : Nat) : Nat := 2 ^ k
def P0 : Nat := powK 1074
theorem P0_is (k : Nat) (h : k = 1074) : P0 = 2 ^ k := congrArg powK h.symm
theorem P0_pos : 0 < P0 := by
  obtain ⟨c, hc⟩ : ∃ c : Nat, c = 1074 := ⟨_, rfl⟩
  rw [P0_is c hc]; exact Nat.two_pow_pos _
attribute [irreducible] P0
/-- A product of finite numbers that is a number's is that number. -/
theorem mul_exact (x y r : Nat) (hx : rg x < infR) (hy : rg y < infR) (hr : r < infR) (h : rv (rg x) * rv (rg y) = rv r * P0) : double.mul x y = some (wd (sg x ^^ sg y) r) := by
  unfold Format.mul
  rw [read_num x hx, read_num y hy]
  unfold Datum.product
  dsimp only [Option.map]
  congr 1
  unfold Format.write
  dsimp only
  by_cases h0 : mag (rg x) * mag (rg y) = 0
  · have hr0 : rv r = 0 := by
      have h1 : rv (rg x) * rv (rg y) = 0 := by
        rw [rv_is, rv_is]
        rcases Nat.mul_eq_zero.1 h0 with h0 | h0 <;> simp [h0]
      rw [h1] at h
      have := P0_pos
      rcases Nat.mul_eq_zero.1 h.symm with h2 | h2
      · exact h2
      · omega
    have : r = 0 := rv_inj.1 (by rw [hr0]; rfl)
    subst this
    unfold Format.nearest
    rw [if_pos h0, word_is]
  · rw [← word_is]
    obtain ⟨c, hc⟩ : ∃ c : Nat, c = 1074 := ⟨_, rfl⟩
    refine nearest_exact _ _ r _ (up (rg x) + up (rg y)) c h0 hr (by omega) ?_
    rw [← P0_is c hc, ← h, rv_is, rv_is, Nat.pow_add]
    generalize 2 ^ up (rg x) = a
    generalize 2 ^ up (rg y) = b
    generalize mag (rg x) = c
    generalize mag (rg y) = d
    rw [Nat.mul_assoc, Nat.mul_assoc, Nat.mul_left_comm d a b]
/-- A whole number's float64. -/
theorem int_float (n : Int) (r : Nat) (hr : r < infR) (h : rv r = n.natAbs * P0) : Go.floatOfInt .f64 n = wd (decide (n < 0)) r := by
  unfold Go.floatOfInt Go.FloatKind.nearest Go.FloatKind.encode
  change double.write (.number (decide (n < 0)) n.natAbs 0) = _
  unfold Format.write
  dsimp only
  by_cases h0 : n.natAbs = 0
  · rw [h0, Nat.zero_mul] at h
    have : r = 0 := rv_inj.1 (by rw [h]; rfl)
    subst this
    unfold Format.nearest
    rw [if_pos h0, word_is]
  · rw [← word_is]
    obtain ⟨c, hc⟩ : ∃ c : Nat, c = 1074 := ⟨_, rfl⟩
    exact nearest_exact _ _ r _ c 0 h0 hr (by omega) (by rw [h, Nat.pow_zero, Nat.mul_one, P0_is c hc])
/-- What stands ahead of the point. -/
def tv (r : Nat) : Nat := rv r / P0
theorem cut_zero (neg : Bool) (n d : Nat) : Toward.zero.cut neg n d = n / 2 ^ d := by
  unfold Toward.cut
  dsimp only
  rw [Nat.shiftLeft_eq, Nat.one_mul]
  rcases Nat.lt_or_ge (n.log2 + 2) d with h | h
  · rw [show min d (n.log2 + 2) = n.log2 + 2 by omega]
    have h2 := Nat.lt_log2_self (n := n)
    have h3 : n < 2 ^ (n.log2 + 2) := Nat.lt_of_lt_of_le h2 (Nat.pow_le_pow_right (by decide) (by omega))
    have h4 : n < 2 ^ d := Nat.lt_of_lt_of_le h2 (Nat.pow_le_pow_right (by decide) (by omega))
    rw [Nat.div_eq_of_lt h3, Nat.div_eq_of_lt h4]; rfl
  · rw [show min d (n.log2 + 2) = d by omega]; rfl
theorem scale_div (m u : Nat) : (m <<< ((u : Int) - 1074).toNat) / 2 ^ (-((u : Int) - 1074)).toNat = m * 2 ^ u / P0 := by
  obtain ⟨c, hc⟩ : ∃ c : Nat, c = 1074 := ⟨_, rfl⟩
  rw [Nat.shiftLeft_eq, P0_is c hc]
  rcases Nat.lt_or_ge u c with h | h
  · rw [show ((u : Int) - 1074).toNat = 0 by omega, show (-((u : Int) - 1074)).toNat = c - u by omega, Nat.pow_zero, Nat.mul_one,
      show (2 : Nat) ^ c = 2 ^ (c - u) * 2 ^ u by rw [← Nat.pow_add, show c - u + u = c by omega]]
    exact (Nat.mul_div_mul_right _ _ (Nat.two_pow_pos u)).symm
  · rw [show ((u : Int) - 1074).toNat = u - c by omega, show (-((u : Int) - 1074)).toNat = 0 by omega, Nat.pow_zero, Nat.div_one,
      show (2 : Nat) ^ u = 2 ^ (u - c) * 2 ^ c by rw [← Nat.pow_add, show u - c + c = u by omega], ← Nat.mul_assoc]
    exact (Nat.mul_div_cancel _ (Nat.two_pow_pos c)).symm
theorem toInt_num (b : Nat) (h : rg b < infR) : (double.read b).toInt .zero = some (if sg b then -(tv (rg b) : Int) else (tv (rg b) : Int)) := by
  rw [read_num b h]
  unfold Datum.toInt Datum.integral
  dsimp only
  unfold signed
  rw [cut_zero, scale_div, ← rv_is, Nat.shiftLeft_zero]
  rfl
/-- int(x) of what is less than 2^63 in size. -/
theorem float_int (b : Nat) (h : rg b < infR) (h2 : tv (rg b) < 2 ^ 63) : Go.floatToIntVal .f64 b .i64 = some (if sg b then -(tv (rg b) : Int) else (tv (rg b) : Int)) := by
  unfold Go.floatToIntVal
  have e : (Go.FloatKind.f64.decode b) = double.read b := rfl
  rw [e, toInt_num b h]
  dsimp only
  rw [if_pos]
  have m1 : Go.IntKind.i64.min = -9223372036854775808 := by decide
  have m2 : Go.IntKind.i64.max = 9223372036854775807 := by decide
  rw [m1, m2]
  split <;> omega
end Go.Proofs.YtbmmoclaijoofaaGreatDoor.Num
