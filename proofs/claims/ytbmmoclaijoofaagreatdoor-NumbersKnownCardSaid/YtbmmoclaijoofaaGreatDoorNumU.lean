/- numbers: Frexp's parts, halves and doubles (maths). -/
import Derived.Test.YtbmmoclaijoofaaGreatDoorNumT
set_option linter.unusedVariables false
set_option linter.unusedSimpArgs false
namespace Go.Proofs.YtbmmoclaijoofaaGreatDoor.Num
open Ieee

/-- A rung made normal, and by how much. -/
theorem norm_is {r : Nat} (h0 : 0 < r) (hr : r < 2 ^ 52) : ∃ rn, 2 ^ 52 ≤ rn ∧ rn < infR ∧ rv rn = r * 2 ^ 52 := by
  have hrv : r * 2 ^ 52 < rv infR := by
    have h1 : r * 2 ^ 52 < rv (2 ^ 59) := by
      have : rv (2 ^ 59) = 2 ^ 52 * 2 ^ 127 := by decide
      rw [this]; omega
    exact Nat.lt_trans h1 (rv_mono (by decide))
  obtain ⟨rn, h1, h2⟩ := rv_of r 52 (by omega) hrv
  refine ⟨rn, ?_, h1, h2⟩
  have : rv (2 ^ 52) ≤ rv rn := by
    rw [h2]
    have : rv (2 ^ 52) = 2 ^ 52 := by decide
    rw [this]; omega
  rcases Nat.lt_or_ge rn (2 ^ 52) with h3 | h3
  · have := rv_mono h3; omega
  · exact h3
/-- 2^52 as a number: its bits, its size. -/
def B52 : Nat := 4841369599423283200
theorem rv_B52 : rv B52 = 2 ^ 52 * P0 := by
  obtain ⟨c, hc⟩ : ∃ c : Nat, c = 1074 := ⟨_, rfl⟩
  obtain ⟨q, hq⟩ : ∃ q, q = B52 / 2 ^ 52 - 1 := ⟨_, rfl⟩
  have h1 : ¬ B52 < 2 ^ 52 := by decide
  have h2 : B52 % 2 ^ 52 = 0 := by decide
  have h3 : B52 / 2 ^ 52 - 1 = 1074 := by decide
  unfold rv
  rw [if_neg h1, h2, ← hq, P0_is c hc, Nat.add_zero, show q = c by omega]
theorem mul_B52 (x rn : Nat) (hx : rg x < infR) (hr : rn < infR) (h : rv rn = rv (rg x) * 2 ^ 52) : double.mul x B52 = some (wd (sg x) rn) := by
  have h1 : rg B52 = B52 := by decide
  have h2 : sg B52 = false := by decide
  rw [mul_exact x B52 rn hx (by rw [h1]; decide) hr (by rw [h1, rv_B52, h, Nat.mul_assoc]), h2, Bool.xor_false]
/-- A part in [1/2, 1), of a significand. -/
def partF (t : Nat) : Nat := 1022 * 2 ^ 52 + t
theorem part_mul (t : Nat) (ht : t < 2 ^ 52) : ∃ G, double.mul (partF t) R53 = some G ∧ Go.floatToIntVal .f64 G .i64 = some ((2 ^ 52 + t : Nat) : Int) := by
  obtain ⟨rm, h1, h2, h3⟩ := int_rung (2 ^ 52 + t) (by omega)
  have hp : partF t < infR := by unfold partF infR; omega
  have hl : infR < 2 ^ 63 := infR_lt
  have g1 : rg (partF t) = partF t := Nat.mod_eq_of_lt (by omega)
  have g2 : sg (partF t) = false := by unfold sg; rw [show partF t / 2 ^ 63 = 0 by omega]; rfl
  have g3 : rg R53 = R53 := by decide
  have g4 : sg R53 = false := by decide
  obtain ⟨c, hc⟩ : ∃ c : Nat, c = 1074 := ⟨_, rfl⟩
  obtain ⟨q, hq⟩ : ∃ q, q = partF t / 2 ^ 52 - 1 := ⟨_, rfl⟩
  have hq1 : q = 1021 := by rw [hq]; unfold partF; omega
  have hv : rv (partF t) = (2 ^ 52 + t) * 2 ^ q := by
    unfold rv
    rw [if_neg (by unfold partF; omega), ← hq, show partF t % 2 ^ 52 = t by unfold partF; omega]
  refine ⟨wd false rm, ?_, ?_⟩
  · rw [mul_exact (partF t) R53 rm (by rw [g1]; exact hp) (by rw [g3]; exact R53_lt) h1 (by
      rw [g1, g3, hv, rv_53, h3]
      have e : 2 ^ q * 2 ^ 53 = P0 := by rw [← Nat.pow_add, P0_is c hc, show q + 53 = c by omega]
      rw [← e]
      simp only [Nat.mul_assoc]), g2, g4]; rfl
  · have r1 : rg (wd false rm) = rm := rg_wd _ (by omega)
    have ht2 : tv rm = 2 ^ 52 + t := by unfold tv; rw [h3, Nat.mul_div_cancel _ P0_pos]
    rw [float_int (wd false rm) (by rw [r1]; exact h1) (by rw [r1, ht2]; omega), r1, ht2, sg_wd _ (by omega)]
    rfl
theorem rv_norm {r : Nat} (h : 2 ^ 52 ≤ r) : rv r = (2 ^ 52 + r % 2 ^ 52) * 2 ^ (r / 2 ^ 52 - 1) := by unfold rv; rw [if_neg (by omega)]
/-- When what is left is odd, it is the odd part. -/
theorem odd_end {r m a b : Nat} (hr : 0 < r) (h : m * 2 ^ a = rv r * 2 ^ b) (hm : m % 2 = 1) : m = oddM r ∧ a = oddE r + b := by
  obtain ⟨h1, h2⟩ := odd_is hr
  rw [h1, Nat.mul_assoc, ← Nat.pow_add] at h
  exact odd_unique hm h2 h
/-- 2 as a number. -/
def TWO : Nat := 4611686018427387904
theorem rv_two : rv TWO = 2 * P0 := by
  obtain ⟨c, hc⟩ : ∃ c : Nat, c = 1074 := ⟨_, rfl⟩
  obtain ⟨q, hq⟩ : ∃ q, q = TWO / 2 ^ 52 - 1 := ⟨_, rfl⟩
  have h1 : ¬ TWO < 2 ^ 52 := by decide
  have h2 : TWO % 2 ^ 52 = 0 := by decide
  have h3 : TWO / 2 ^ 52 - 1 = 1023 := by decide
  unfold rv
  rw [if_neg h1, h2, ← hq, P0_is c hc, Nat.add_zero, show c = q + 51 by omega, Nat.pow_add, Nat.mul_comm (2 ^ q) (2 ^ 51), ← Nat.mul_assoc]
theorem mul_two (x r : Nat) (hx : rg x < infR) (hr : r < infR) (h : rv r = rv (rg x) * 2) : Go.floatBits .mul .f64 x 4611686018427387904 = some (wd (sg x) r) := by
  change double.mul x TWO = _
  have h1 : rg TWO = TWO := by decide
  have h2 : sg TWO = false := by decide
  rw [mul_exact x TWO r hx (by rw [h1]; decide) hr (by rw [h1, rv_two, h, Nat.mul_assoc]), h2, Bool.xor_false]
theorem two_mag : mag (rg TWO) = 2 ^ 52 ∧ up (rg TWO) = 1023 ∧ sg TWO = false ∧ rg TWO < infR := by decide
set_option maxRecDepth 100000 in
set_option maxHeartbeats 1000000 in
theorem div_two (x r : Nat) (hx : rg x < infR) (hr : r < infR) (h : rv r * 2 = rv (rg x)) : Go.floatBits .quo .f64 x 4611686018427387904 = some (wd (sg x) r) := by
  change double.div x TWO = _
  obtain ⟨h1, h2, h3, h4⟩ := two_mag
  unfold Format.div
  rw [read_num x hx, read_num TWO h4, h1, h2, h3]
  unfold Datum.quotient
  dsimp only
  rw [if_neg (by decide)]
  dsimp only [Option.map]
  congr 1
  have hlog : (2 ^ 52 : Nat).log2 = 52 := by decide
  rw [hlog, Nat.shiftLeft_eq, show double.fractionBits + 2 + 52 = 106 from rfl, Bool.xor_false]
  obtain ⟨k, hk⟩ : ∃ k, k = 106 - (mag (rg x)).log2 - 52 := ⟨_, rfl⟩
  have hml : (mag (rg x)).log2 ≤ 52 := by
    by_cases h0 : mag (rg x) = 0
    · rw [h0]; decide
    · have := (Nat.log2_lt h0).2 (mag_lt (rg x)); omega
  have hmore : 106 - (mag (rg x)).log2 = k + 52 := by omega
  rw [hmore]
  have hd : mag (rg x) * 2 ^ (k + 52) = mag (rg x) * 2 ^ k * 2 ^ 52 := by rw [Nat.pow_add, Nat.mul_assoc]
  rw [hd, Nat.mul_div_cancel _ (by decide), Nat.mul_mod_left]
  unfold Format.write
  dsimp only
  rw [← word_is]
  have e0 : ((0 : Nat) != 0).toNat = 0 := rfl
  rw [e0, Nat.add_zero]
  by_cases hz : 2 * (mag (rg x) * 2 ^ k) = 0
  · have hm0 : mag (rg x) = 0 := by
      have := Nat.two_pow_pos k
      rcases Nat.mul_eq_zero.1 hz with h5 | h5
      · omega
      · rcases Nat.mul_eq_zero.1 h5 with h5 | h5
        · exact h5
        · omega
    have hr0 : r = 0 := rv_inj.1 (by
      have : rv (rg x) = 0 := by rw [rv_is, hm0, Nat.zero_mul]
      rw [rv_zero]; omega)
    subst hr0
    unfold Format.nearest
    rw [if_pos hz]
  · refine nearest_exact _ _ r _ (up (rg x)) (k + 2) hz hr (by omega) ?_
    have : rv r * 2 ^ (k + 2) = rv r * 2 * (2 * 2 ^ k) := by
      rw [Nat.pow_succ, Nat.pow_succ]
      generalize 2 ^ k = z
      generalize rv r = v
      ac_rfl
    rw [this, h, rv_is]
    generalize 2 ^ k = z
    generalize 2 ^ up (rg x) = y
    generalize mag (rg x) = m
    ac_rfl
end Go.Proofs.YtbmmoclaijoofaaGreatDoor.Num
