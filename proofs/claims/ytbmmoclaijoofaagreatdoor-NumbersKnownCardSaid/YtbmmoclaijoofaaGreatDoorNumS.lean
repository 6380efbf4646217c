/- numbers: signs turned, odd parts, texts (maths). -/
import Derived.Test.YtbmmoclaijoofaaGreatDoorNumR
import Derived.Lib.ItoaNum
set_option linter.unusedVariables false
set_option linter.unusedSimpArgs false
namespace Go.Proofs.YtbmmoclaijoofaaGreatDoor.Num
open Ieee

theorem neg_is (b : Nat) (hb : b < 2 ^ 64) : Go.Op.negFloat .f64 b = wd (!sg b) (rg b) := by
  unfold Go.Op.negFloat
  change b ^^^ 2 ^ 63 = _
  have hw := wd_of hb
  have hr := rg_lt b
  conv => lhs; rw [← hw]
  generalize rg b = r at *
  cases sg b
  · unfold wd
    rw [if_neg (by simp), if_pos (by rfl)]
    have h1 : r ^^^ 2 ^ 63 = 2 ^ 63 ||| r := by
      apply Nat.eq_of_testBit_eq
      intro i
      rw [Nat.testBit_xor, Nat.testBit_or, Nat.testBit_two_pow]
      by_cases hi : 63 = i
      · subst hi
        rw [Nat.testBit_lt_two_pow hr]; simp
      · simp [hi]
    rw [h1]
    have := Nat.two_pow_add_eq_or_of_lt hr 1
    rw [Nat.mul_one] at this
    exact this.symm
  · unfold wd
    rw [if_pos rfl, if_neg (by simp)]
    have h1 := Nat.two_pow_add_eq_or_of_lt hr 1
    rw [Nat.mul_one] at h1
    rw [h1]
    apply Nat.eq_of_testBit_eq
    intro i
    rw [Nat.testBit_xor, Nat.testBit_or, Nat.testBit_two_pow]
    by_cases hi : 63 = i
    · subst hi
      rw [Nat.testBit_lt_two_pow hr]; simp
    · simp [hi]
/-- How often 2 divides. -/
def twos : Nat → Nat → Nat
  | 0, _ => 0
  | f + 1, n => if n % 2 = 1 then 0 else twos f (n / 2) + 1
theorem twos_spec : ∀ (f n : Nat), n ≠ 0 → n < 2 ^ f → n = n / 2 ^ twos f n * 2 ^ twos f n ∧ n / 2 ^ twos f n % 2 = 1
  | 0, n, h0, h => by rw [Nat.pow_zero] at h; omega
  | f + 1, n, h0, h => by
    unfold twos
    by_cases h1 : n % 2 = 1
    · rw [if_pos h1]; simp [h1]
    · rw [if_neg h1]
      obtain ⟨h2, h3⟩ := twos_spec f (n / 2) (by omega) (by rw [Nat.pow_succ] at h; omega)
      have e : n / 2 ^ (twos f (n / 2) + 1) = n / 2 / 2 ^ twos f (n / 2) := by rw [Nat.div_div_eq_div_mul, Nat.pow_succ, Nat.mul_comm]
      rw [e]
      refine ⟨?_, h3⟩
      rw [Nat.pow_succ, ← Nat.mul_assoc, ← h2]
      omega
/-- An odd part is one. -/
theorem odd_unique {m n a b : Nat} (hm : m % 2 = 1) (hn : n % 2 = 1) (h : m * 2 ^ a = n * 2 ^ b) : m = n ∧ a = b := by
  have key : ∀ (m n a b : Nat), m % 2 = 1 → m * 2 ^ a = n * 2 ^ b → b ≤ a := by
    intro m n a b hm h
    rcases Nat.lt_or_ge a b with hlt | hge
    · exfalso
      have : m = n * 2 ^ (b - a) := by
        refine Nat.eq_of_mul_eq_mul_right (Nat.two_pow_pos a) ?_
        rw [h, Nat.mul_assoc, ← Nat.pow_add, show b - a + a = b by omega]
      rw [this, show b - a = (b - a - 1) + 1 by omega, Nat.pow_succ, ← Nat.mul_assoc] at hm
      omega
    · exact hge
  have h1 := key m n a b hm h
  have h2 := key n m b a hn h.symm
  obtain rfl : a = b := by omega
  exact ⟨Nat.eq_of_mul_eq_mul_right (Nat.two_pow_pos a) h, rfl⟩
theorem mag_lt (r : Nat) : mag r < 2 ^ 53 := by unfold mag; split <;> omega
theorem mag_pos {r : Nat} (h : 0 < r) : mag r ≠ 0 := by unfold mag; split <;> omega
/-- The odd part, and how often 2 divides what is left over. -/
def oddM (r : Nat) : Nat := mag r / 2 ^ twos 53 (mag r)
def oddE (r : Nat) : Nat := up r + twos 53 (mag r)
theorem odd_is {r : Nat} (h : 0 < r) : rv r = oddM r * 2 ^ oddE r ∧ oddM r % 2 = 1 := by
  obtain ⟨h1, h2⟩ := twos_spec 53 (mag r) (mag_pos h) (mag_lt r)
  refine ⟨?_, h2⟩
  unfold oddM oddE
  rw [rv_is, Nat.add_comm, Nat.pow_add, ← Nat.mul_assoc, ← h1]
theorem oddM_lt (r : Nat) : oddM r < 2 ^ 53 := Nat.lt_of_le_of_lt (Nat.div_le_self _ _) (mag_lt r)
/-- Is a rung a whole number's that is less than 2^53? -/
def wholeR (r : Nat) : Bool := decide (rv r % P0 = 0) && decide (rv r < 2 ^ 53 * P0)
theorem tv_of {r : Nat} (h : wholeR r = true) : rv r = tv r * P0 ∧ tv r < 2 ^ 53 := by
  unfold wholeR at h
  rw [Bool.and_eq_true, decide_eq_true_eq, decide_eq_true_eq] at h
  unfold tv
  generalize rv r = v at *
  have hp := P0_pos
  generalize P0 = q at *
  refine ⟨?_, ?_⟩
  · have := Nat.div_add_mod v q
    rw [h.1, Nat.add_zero, Nat.mul_comm] at this
    exact this.symm
  · exact (Nat.div_lt_iff_lt_mul hp).2 h.2
def decS (n : Nat) : ByteArray := ⟨(Lib.decDigits n).toArray⟩
def expS (e : Int) : ByteArray := if e < 0 then ⟨#[45]⟩ ++ decS (-e).toNat else decS e.toNat
def textR (r : Nat) : ByteArray :=
  if r = infR then ⟨#[105, 110, 102]⟩ else if wholeR r then decS (tv r) else decS (oddM r) ++ ⟨#[112]⟩ ++ expS ((oddE r : Int) - 1074)
/-- A number's text. -/
def textN (b : Nat) : ByteArray := if nanB b then ⟨#[110, 97, 110]⟩ else if sg b then ⟨#[45]⟩ ++ textR (rg b) else textR (rg b)
end Go.Proofs.YtbmmoclaijoofaaGreatDoor.Num
