/- Plain facts on bytes as numbers, and on letters of five bits. -/
import Derived.WalkKit
import Derived.Laws.BitsAllLaws
import Derived.Lib.RabinKarpLaws
set_option linter.unusedVariables false
set_option linter.unusedSimpArgs false
namespace Go.Proofs.Ytadlimfpcfdgcaa.Nam
open Go.RowKit

/-- The number of the first k bytes. -/
def num (d : Nat → Nat) : Nat → Nat
  | 0 => 0
  | k + 1 => num d k * 256 + d k

theorem num_div (d : Nat → Nat) (hd : ∀ i, d i < 256) (k m : Nat) : num d (k + m) / 256 ^ m = num d k := by
  induction m with
  | zero => simp
  | succ m ih =>
    rw [Nat.pow_succ, Nat.mul_comm, ← Nat.div_div_eq_div_mul]
    have : num d (k + (m + 1)) / 256 = num d (k + m) := by
      show (num d (k + m) * 256 + d (k + m)) / 256 = _
      have := hd (k + m)
      omega
    rw [this, ih]
theorem num_pre (d : Nat → Nat) (hd : ∀ i, d i < 256) (k : Nat) (hk : k ≤ 20) : num d k = num d 20 / 2 ^ (8 * (20 - k)) := by
  have := num_div d hd k (20 - k)
  rw [show k + (20 - k) = 20 from by omega] at this
  rw [← this, Nat.pow_mul]
theorem num_lt (d : Nat → Nat) (hd : ∀ i, d i < 256) (k : Nat) : num d k < 256 ^ k := by
  induction k with
  | zero => simp [num]
  | succ k ih =>
    show num d k * 256 + d k < 256 ^ (k + 1)
    have := hd k
    rw [Nat.pow_succ]
    omega
theorem num_mod (d : Nat → Nat) (hd : ∀ i, d i < 256) (k : Nat) : num d (k + 1) % 256 = d k := by
  show (num d k * 256 + d k) % 256 = d k
  have := hd k
  omega

theorem mod64_div (a n : Nat) (hn : n ≤ 59) : a % 18446744073709551616 / 2 ^ n % 32 = a / 2 ^ n % 32 := by
  rw [show (18446744073709551616 : Nat) = 2 ^ n * 2 ^ (64 - n) from by rw [← Nat.pow_add, show n + (64 - n) = 64 from by omega], Nat.mod_mul_right_div_self]
  exact Nat.mod_mod_of_dvd _ ⟨2 ^ (59 - n), by rw [show (32 : Nat) = 2 ^ 5 from rfl, ← Nat.pow_add]; congr 1; omega⟩

/-- The letters' values. -/
def letNo (M j : Nat) : Nat := M / 2 ^ (155 - 5 * j) % 32
theorem letNo_lt (M j : Nat) : letNo M j < 32 := Nat.mod_lt _ (by decide)

/-- The letter that the first k bytes tell when n bits are left. -/
theorem let_of (d : Nat → Nat) (hd : ∀ i, d i < 256) (k j n : Nat) (hk : k ≤ 20) (hn : n + 5 * (j + 1) = 8 * k) (hn' : n ≤ 59) : num d k % 18446744073709551616 / 2 ^ n % 32 = letNo (num d 20) j := by
  rw [mod64_div _ _ hn', num_pre d hd k hk, Nat.div_div_eq_div_mul, ← Nat.pow_add, letNo, show 8 * (20 - k) + n = 155 - 5 * j from by omega]

/-- The n-th bit. -/
def bitNo (M n : Nat) : Nat := M / 2 ^ (159 - n) % 2
theorem bit_of (d : Nat → Nat) (hd : ∀ i, d i < 256) (n : Nat) (hn : n < 160) : d (n / 8) / 2 ^ (7 - n % 8) % 2 = bitNo (num d 20) n := by
  have h := num_mod d hd (n / 8)
  rw [num_pre d hd (n / 8 + 1) (by omega)] at h
  rw [← h, bitNo, show 159 - n = 8 * (20 - (n / 8 + 1)) + (7 - n % 8) from by omega, Nat.pow_add, ← Nat.div_div_eq_div_mul]
  generalize num d 20 / 2 ^ (8 * (20 - (n / 8 + 1))) = y
  generalize hr : 7 - n % 8 = r
  have hr7 : r ≤ 7 := by omega
  rw [show (256 : Nat) = 2 ^ r * 2 ^ (8 - r) from by rw [← Nat.pow_add, show r + (8 - r) = 8 from by omega], Nat.mod_mul_right_div_self]
  exact Nat.mod_mod_of_dvd _ ⟨2 ^ (7 - r), by rw [← Nat.pow_succ']; congr 1; omega⟩
theorem bits_step (M a k : Nat) : M / 2 ^ a % 2 ^ (k + 1) = 2 * (M / 2 ^ (a + 1) % 2 ^ k) + M / 2 ^ a % 2 := by
  rw [Nat.pow_succ 2 a, ← Nat.div_div_eq_div_mul]
  generalize M / 2 ^ a = y
  rw [Nat.pow_succ, Nat.mul_comm (2 ^ k) 2, Nat.mod_mul]
  omega
/-- What k bits of the i-th letter are worth. -/
def preNo (M i k : Nat) : Nat := M / 2 ^ (160 - 5 * i - k) % 2 ^ k
theorem preNo_zero (M i : Nat) : preNo M i 0 = 0 := by simp [preNo, Nat.mod_one]
theorem preNo_succ (M i k : Nat) (hi : i < 32) (hk : k < 5) : preNo M i (k + 1) = 2 * preNo M i k + bitNo M (5 * i + k) := by
  have h := bits_step M (160 - 5 * i - (k + 1)) k
  rw [preNo, h, preNo, bitNo, show 160 - 5 * i - (k + 1) + 1 = 160 - 5 * i - k from by omega, show 159 - (5 * i + k) = 160 - 5 * i - (k + 1) from by omega]
theorem preNo_five (M i : Nat) (_hi : i < 32) : preNo M i 5 = letNo M i := by
  rw [preNo, letNo, show 160 - 5 * i - 5 = 155 - 5 * i from by omega]
theorem preNo_lt (M i k : Nat) (hk : k ≤ 5) : preNo M i k < 32 := by
  have h : preNo M i k < 2 ^ k := Nat.mod_lt _ (Nat.two_pow_pos k)
  have : 2 ^ k ≤ 2 ^ 5 := Nat.pow_le_pow_right (by decide) hk
  omega

def abc : List UInt8 := [48, 49, 50, 51, 52, 53, 54, 55, 56, 57, 97, 98, 99, 100, 102, 103, 104, 105, 106, 107, 108, 109, 110, 112, 113, 114, 115, 118, 119, 120, 121, 122]
/-- The letters of the number of 20 bytes. -/
def letters (M n : Nat) : List UInt8 := (List.range n).map fun j => abc.getD (letNo M j) 0
theorem letters_succ (M n : Nat) : letters M (n + 1) = letters M n ++ [abc.getD (letNo M n) 0] := by
  simp [letters, List.range_succ]
theorem letters_len (M n : Nat) : (letters M n).length = n := by simp [letters]

/-- An array of bytes. -/
def cells (d : Nat → Nat) (n : Nat) : List Value := (List.range n).map fun i => Value.int .u8 (d i : Int)
def digA (d : Nat → Nat) (n : Nat) : Array Value := (cells d n).toArray
theorem digA_size (d : Nat → Nat) (n : Nat) : (digA d n).size = n := by simp [digA, cells]
theorem digA_get (d : Nat → Nat) (n i : Nat) (h : i < n) : (digA d n)[i]? = some (.int .u8 (d i : Int)) := by
  simp [digA, cells, h]
theorem and_one_i64 (y : Int) (h0 : 0 ≤ y) (h1 : y < 256) : bits BinOp.and IntKind.i64 (wrap64 y) 1 = ((y.toNat % 2 : Nat) : Int) := by
  obtain ⟨n, rfl⟩ := Int.eq_ofNat_of_zero_le h0
  have : wrap64 (n : Int) = n := by unfold wrap64; omega
  rw [this]
  exact and_one n (by omega)
theorem cast_div (x r : Nat) : (x : Int) / 2 ^ r = ((x / 2 ^ r : Nat) : Int) := by push_cast; rfl
end Go.Proofs.Ytadlimfpcfdgcaa.Nam
