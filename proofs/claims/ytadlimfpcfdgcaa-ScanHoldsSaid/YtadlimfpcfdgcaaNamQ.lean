/- Plain facts: letters' values as a number, and its bytes. -/
import Derived.Test.YtadlimfpcfdgcaaNamP
set_option linter.unusedVariables false
set_option linter.unusedSimpArgs false
namespace Go.Proofs.Ytadlimfpcfdgcaa.Nam
open Go.RowKit

/-- The number of the first k letters. -/
def numL (v : Nat → Nat) : Nat → Nat
  | 0 => 0
  | k + 1 => numL v k * 32 + v k
theorem numL_div (v : Nat → Nat) (hv : ∀ i, v i < 32) (k m : Nat) : numL v (k + m) / 32 ^ m = numL v k := by
  induction m with
  | zero => simp
  | succ m ih =>
    rw [Nat.pow_succ, Nat.mul_comm, ← Nat.div_div_eq_div_mul]
    have : numL v (k + (m + 1)) / 32 = numL v (k + m) := by
      show (numL v (k + m) * 32 + v (k + m)) / 32 = _
      have := hv (k + m)
      omega
    rw [this, ih]
theorem numL_pre (v : Nat → Nat) (hv : ∀ i, v i < 32) (k : Nat) (hk : k ≤ 32) : numL v k = numL v 32 / 2 ^ (5 * (32 - k)) := by
  have := numL_div v hv k (32 - k)
  rw [show k + (32 - k) = 32 from by omega] at this
  rw [← this, Nat.pow_mul]
theorem numL_letNo (v : Nat → Nat) (hv : ∀ i, v i < 32) (i : Nat) (hi : i < 32) : letNo (numL v 32) i = v i := by
  have h : numL v (i + 1) % 32 = v i := by
    show (numL v i * 32 + v i) % 32 = v i
    have := hv i
    omega
  rw [numL_pre v hv (i + 1) (by omega)] at h
  rw [letNo, show 155 - 5 * i = 5 * (32 - (i + 1)) from by omega, h]
theorem numL_congr (v u : Nat → Nat) (k : Nat) (h : ∀ i, i < k → v i = u i) : numL v k = numL u k := by
  induction k with
  | zero => rfl
  | succ k ih => simp only [numL]; rw [ih fun i hi => h i (by omega), h k (by omega)]

/-- The i-th byte of a number of 20. -/
def byteNo (M i : Nat) : Nat := M / 2 ^ (152 - 8 * i) % 256
theorem byteNo_lt (M i : Nat) : byteNo M i < 256 := Nat.mod_lt _ (by decide)
theorem mod64_div256 (a n : Nat) (hn : n ≤ 56) : a % 18446744073709551616 / 2 ^ n % 256 = a / 2 ^ n % 256 := by
  rw [show (18446744073709551616 : Nat) = 2 ^ n * 2 ^ (64 - n) from by rw [← Nat.pow_add, show n + (64 - n) = 64 from by omega], Nat.mod_mul_right_div_self]
  exact Nat.mod_mod_of_dvd _ ⟨2 ^ (56 - n), by rw [show (256 : Nat) = 2 ^ 8 from rfl, ← Nat.pow_add]; congr 1; omega⟩
theorem byte_of (v : Nat → Nat) (hv : ∀ i, v i < 32) (k a n : Nat) (hk : k ≤ 32) (h : n + 8 * (a + 1) = 5 * k) (hn : n ≤ 56) : numL v k % 18446744073709551616 / 2 ^ n % 256 = byteNo (numL v 32) a := by
  rw [mod64_div256 _ _ hn, numL_pre v hv k hk, Nat.div_div_eq_div_mul, ← Nat.pow_add, byteNo, show 5 * (32 - k) + n = 152 - 8 * a from by omega]
theorem num_byteNo (d : Nat → Nat) (hd : ∀ i, d i < 256) (i : Nat) (hi : i < 20) : byteNo (num d 20) i = d i := by
  have h := num_mod d hd i
  rw [num_pre d hd (i + 1) (by omega)] at h
  rw [byteNo, show 152 - 8 * i = 8 * (20 - (i + 1)) from by omega, h]

/-- The i-th byte, when n bits are there. -/
def partNo (M n i : Nat) : Nat := M / 2 ^ (160 - n) * 2 ^ (160 - n) / 2 ^ (152 - 8 * i) % 256
theorem partNo_lt (M n i : Nat) : partNo M n i < 256 := Nat.mod_lt _ (by decide)
theorem partNo_done (M i : Nat) (_hi : i < 20) : partNo M 160 i = byteNo M i := by simp [partNo, byteNo]
theorem partNo_zero (M i : Nat) (hM : M < 2 ^ 160) : partNo M 0 i = 0 := by
  have : M / 2 ^ (160 - 0) = 0 := Nat.div_eq_of_lt hM
  rw [partNo, this]; simp
theorem half (M n : Nat) (hn : n < 160) : M / 2 ^ (160 - (n + 1)) = 2 * (M / 2 ^ (160 - n)) + bitNo M n := by
  have h := bits_step M (160 - (n + 1)) 0
  rw [bitNo, show 160 - n = (160 - (n + 1)) + 1 from by omega, Nat.pow_succ 2 (160 - (n + 1)), ← Nat.div_div_eq_div_mul, show 159 - n = 160 - (n + 1) from by omega]
  omega
theorem partNo_step (M n i : Nat) (hn : n < 160) (hi : i < 20) : partNo M (n + 1) i = if i = n / 8 then partNo M n i + bitNo M n * 2 ^ (7 - n % 8) else partNo M n i := by
  have hb : bitNo M n < 2 := Nat.mod_lt _ (by decide)
  have hh := half M n hn
  rw [partNo, partNo, hh]
  generalize M / 2 ^ (160 - n) = V
  generalize bitNo M n = b at hb
  have e1 : 2 ^ (160 - n) = 2 * 2 ^ (160 - (n + 1)) := by rw [show 160 - n = (160 - (n + 1)) + 1 from by omega, Nat.pow_succ, Nat.mul_comm]
  rcases Nat.lt_trichotomy i (n / 8) with h | h | h
  · rw [if_neg (by omega)]
    congr 1
    -- 2 ^ (152 - 8 i) is a multiple of 2 ^ (160 - n)
    have e2 : 2 ^ (152 - 8 * i) = 2 ^ (160 - (n + 1)) * (2 * 2 ^ (152 - 8 * i - (160 - n))) := by
      rw [← Nat.pow_succ', ← Nat.pow_add]; congr 1; omega
    rw [e2, e1]
    generalize hc : 2 ^ (160 - (n + 1)) = c
    have hc0 : 0 < c := hc ▸ Nat.two_pow_pos _
    generalize 2 ^ (152 - 8 * i - (160 - n)) = q
    have a1 : (2 * V + b) * c / (c * (2 * q)) = V / q := by
      rw [← Nat.div_div_eq_div_mul, Nat.mul_div_cancel _ hc0, ← Nat.div_div_eq_div_mul]
      congr 1
      omega
    have a2 : V * (2 * c) / (c * (2 * q)) = V / q := by
      rw [show V * (2 * c) = 2 * V * c from by ac_rfl, ← Nat.div_div_eq_div_mul, Nat.mul_div_cancel _ hc0, ← Nat.div_div_eq_div_mul]
      congr 1
      omega
    rw [a1, a2]
  · rw [if_pos h]
    have er : 160 - (n + 1) = (152 - 8 * i) + (7 - n % 8) := by omega
    have e3 : 2 ^ (160 - (n + 1)) = 2 ^ (152 - 8 * i) * 2 ^ (7 - n % 8) := by rw [← Nat.pow_add, er]
    rw [e1, e3]
    generalize hc : 2 ^ (152 - 8 * i) = c
    have hc0 : 0 < c := hc ▸ Nat.two_pow_pos _
    generalize hr : 7 - n % 8 = r
    have hr7 : r ≤ 7 := by omega
    have a1 : (2 * V + b) * (c * 2 ^ r) / c = (2 * V + b) * 2 ^ r := by
      rw [show (2 * V + b) * (c * 2 ^ r) = (2 * V + b) * 2 ^ r * c from by ac_rfl]
      exact Nat.mul_div_cancel _ hc0
    have a2 : V * (2 * (c * 2 ^ r)) / c = V * (2 * 2 ^ r) := by
      rw [show V * (2 * (c * 2 ^ r)) = V * (2 * 2 ^ r) * c from by ac_rfl]
      exact Nat.mul_div_cancel _ hc0
    rw [a1, a2]
    have hp : r = 0 ∨ r = 1 ∨ r = 2 ∨ r = 3 ∨ r = 4 ∨ r = 5 ∨ r = 6 ∨ r = 7 := by omega
    have hb' : b = 0 ∨ b = 1 := by omega
    rcases hp with rfl | rfl | rfl | rfl | rfl | rfl | rfl | rfl <;> rcases hb' with rfl | rfl <;> simp <;> omega
  · rw [if_neg (by omega)]
    -- both are multiples of 256
    have e4 : 2 ^ (160 - (n + 1)) = 2 ^ (152 - 8 * i) * (256 * 2 ^ (160 - (n + 1) - (160 - 8 * i))) := by
      rw [show (256 : Nat) = 2 ^ 8 from rfl, ← Nat.pow_add, ← Nat.pow_add]; congr 1; omega
    rw [e1, e4]
    generalize hc : 2 ^ (152 - 8 * i) = c
    have hc0 : 0 < c := hc ▸ Nat.two_pow_pos _
    generalize 2 ^ (160 - (n + 1) - (160 - 8 * i)) = q
    have a1 : (2 * V + b) * (c * (256 * q)) / c = 256 * ((2 * V + b) * q) := by
      rw [show (2 * V + b) * (c * (256 * q)) = 256 * ((2 * V + b) * q) * c from by ac_rfl]
      exact Nat.mul_div_cancel _ hc0
    have a2 : V * (2 * (c * (256 * q))) / c = 256 * (V * (2 * q)) := by
      rw [show V * (2 * (c * (256 * q))) = 256 * (V * (2 * q)) * c from by ac_rfl]
      exact Nat.mul_div_cancel _ hc0
    rw [a1, a2, Nat.mul_mod_right, Nat.mul_mod_right]
theorem partNo_or (M n : Nat) (hn : n < 160) : partNo M n (n / 8) % (2 * 2 ^ (7 - n % 8)) = 0 := by
  rw [partNo]
  generalize M / 2 ^ (160 - n) = V
  have er : 160 - n = (152 - 8 * (n / 8)) + ((7 - n % 8) + 1) := by omega
  rw [show 2 ^ (160 - n) = 2 ^ (152 - 8 * (n / 8)) * 2 ^ ((7 - n % 8) + 1) from by rw [← Nat.pow_add]; congr 1]
  generalize hc : 2 ^ (152 - 8 * (n / 8)) = c
  have hc0 : 0 < c := hc ▸ Nat.two_pow_pos _
  generalize hr : 7 - n % 8 = r
  have hr7 : r ≤ 7 := by omega
  rw [show V * (c * 2 ^ (r + 1)) = V * 2 ^ (r + 1) * c from by ac_rfl, Nat.mul_div_cancel _ hc0]
  have hp : r = 0 ∨ r = 1 ∨ r = 2 ∨ r = 3 ∨ r = 4 ∨ r = 5 ∨ r = 6 ∨ r = 7 := by omega
  rcases hp with rfl | rfl | rfl | rfl | rfl | rfl | rfl | rfl <;> simp <;> omega
theorem bit_letNo (M i k : Nat) (hi : i < 32) (hk : k < 5) : letNo M i / 2 ^ (4 - k) % 2 = bitNo M (5 * i + k) := by
  rw [letNo, bitNo, show 159 - (5 * i + k) = (155 - 5 * i) + (4 - k) from by omega, Nat.pow_add, ← Nat.div_div_eq_div_mul]
  generalize M / 2 ^ (155 - 5 * i) = y
  have hp : k = 0 ∨ k = 1 ∨ k = 2 ∨ k = 3 ∨ k = 4 := by omega
  rcases hp with rfl | rfl | rfl | rfl | rfl <;> simp <;> omega
theorem numL_lt (v : Nat → Nat) (hv : ∀ i, v i < 32) (k : Nat) : numL v k < 32 ^ k := by
  induction k with
  | zero => simp [numL]
  | succ k ih =>
    show numL v k * 32 + v k < 32 ^ (k + 1)
    have := hv k
    rw [Nat.pow_succ]
    omega
end Go.Proofs.Ytadlimfpcfdgcaa.Nam
