/- Plain facts: bits that are turned within 32, one behind the other. -/
import Derived.Test.YtdmikdpajijahaaCrcP
namespace Go.Proofs.Ytdmikdpajijahaa
open Go.RowKit

theorem regAt_congr (f g : Nat → Bool) (n : Nat) (r : Reg) (h : ∀ i, i < n → f i = g i) : regAt f n r = regAt g n r := by
  induction n with
  | zero => rfl
  | succ n ih => rw [regAt, regAt, ih (fun i hi => h i (by omega)), h n (by omega)]
theorem regAt_add (f : Nat → Bool) (n m : Nat) (r : Reg) : regAt f (n + m) r = regAt (fun i => f (n + i)) m (regAt f n r) := by
  induction m with
  | zero => rfl
  | succ m ih => rw [← Nat.add_assoc, regAt, regAt, ih]
/-- The bits of a row of bytes. -/
def bitF (d : Nat → Nat) (j : Nat) : Bool := (d (j / 8)).testBit (j % 8)
theorem runs_bits (d : Nat → Nat) (n : Nat) (r : Reg) : runs d n r = regAt (bitF d) (8 * n) r := by
  induction n with
  | zero => rfl
  | succ n ih =>
    rw [runs, ih, Nat.mul_succ, regAt_add, step]
    exact regAt_congr _ _ _ _ fun i hi => by rw [bitF, show (8 * n + i) / 8 = n by omega, show (8 * n + i) % 8 = i by omega]

def fl (d : Nat → Nat) (f : Nat) (b : Reg) : Nat → Nat → Nat
  | 0, j => d j
  | k + 1, j => if b.getLsbD k = true ∧ (f + k) / 8 = j then fl d f b k j ^^^ 2 ^ ((f + k) % 8) else fl d f b k j
theorem fl_lt (d : Nat → Nat) (hd : ∀ i, d i < 256) (f : Nat) (b : Reg) (k j : Nat) : fl d f b k j < 256 := by
  induction k with
  | zero => exact hd j
  | succ k ih =>
    unfold fl
    split
    · have h2 : 2 ^ ((f + k) % 8) < 2 ^ 8 := Nat.pow_lt_pow_right (by decide) (by omega)
      exact Nat.xor_lt_two_pow (n := 8) ih h2
    · exact ih
def del (f : Nat) (b : Reg) (k j : Nat) : Bool := decide (f ≤ j ∧ j < f + k) && b.getLsbD (j - f)
theorem fl_bit (d : Nat → Nat) (f : Nat) (b : Reg) (k j : Nat) : bitF (fl d f b k) j = (bitF d j ^^ del f b k j) := by
  induction k with
  | zero =>
    have : ¬ (f ≤ j ∧ j < f + 0) := by omega
    rw [del, decide_eq_false this, Bool.false_and, Bool.xor_false]
    rfl
  | succ k ih =>
    by_cases he : j = f + k
    · subst he
      have h1 : ¬ (f ≤ f + k ∧ f + k < f + k) := by omega
      have h2 : f ≤ f + k ∧ f + k < f + (k + 1) := by omega
      rw [del, decide_eq_false h1, Bool.false_and, Bool.xor_false] at ih
      rw [del, decide_eq_true h2, Bool.true_and, Nat.add_sub_cancel_left, ← ih]
      unfold bitF
      cases hb : b.getLsbD k
      · simp [fl, hb]
      · simp only [fl, hb, true_and, if_true, Nat.testBit_xor]
        rw [Nat.testBit_two_pow_self]
    · have hd : del f b (k + 1) j = del f b k j := by
        unfold del
        by_cases h1 : f ≤ j ∧ j < f + k
        · rw [decide_eq_true h1, decide_eq_true (by omega)]
        · rw [decide_eq_false h1, decide_eq_false (by omega)]
      rw [hd, ← ih]
      unfold bitF
      simp only [fl]
      split
      · rename_i h
        rw [Nat.testBit_xor, Nat.testBit_two_pow_of_ne (by omega), Bool.xor_false]
      · rfl

theorem iter1_xor (k : Nat) (a b : Reg) : iter1 k (a ^^^ b) = iter1 k a ^^^ iter1 k b := by
  induction k with
  | zero => rfl
  | succ k ih => rw [iter1, iter1, iter1, ih, bit1_xor]
theorem iter1_one : ∀ k : Fin 32, iter1 k.val (1#32 <<< k.val) = 1#32 := by decide +kernel
def low (k : Nat) (b : Reg) : Reg := BitVec.ofNat 32 (b.toNat % 2 ^ k)
theorem low_bit (k : Nat) (b : Reg) (i : Nat) (hi : i < 32) : (low k b).getLsbD i = (decide (i < k) && b.getLsbD i) := by
  rw [low, BitVec.getLsbD_ofNat, Nat.testBit_mod_two_pow]
  simp [hi, BitVec.getLsbD]
theorem low_succ (k : Nat) (b : Reg) (hk : k < 32) : low (k + 1) b = low k b ^^^ (bitOf (b.getLsbD k) <<< k) := by
  apply BitVec.eq_of_getLsbD_eq
  intro i hi
  rw [BitVec.getLsbD_xor, low_bit _ _ _ hi, low_bit _ _ _ hi, BitVec.getLsbD_shiftLeft]
  by_cases h : i = k
  · subst h
    cases b.getLsbD i <;> simp [bitOf, hi]
  · by_cases h2 : i < k
    · have : i < k + 1 := by omega
      simp [h2, this]
    · have h3 : ¬ i < k + 1 := by omega
      have h4 : (bitOf (b.getLsbD k)).getLsbD (i - k) = false := by
        have : i - k ≠ 0 := by omega
        cases b.getLsbD k <;> simp [bitOf, this, BitVec.getLsbD_one]
      simp [h2, h3, h4]
theorem low_all (b : Reg) : low 32 b = b := by
  rw [low, Nat.mod_eq_of_lt b.isLt, BitVec.ofNat_toNat]; simp
theorem iter_bitOf (x : Bool) (k : Nat) (hk : k < 32) : iter1 k (bitOf x <<< k) = bitOf x := by
  cases x
  · rw [show bitOf false = 0#32 from rfl, BitVec.zero_shiftLeft, iter1_zero]
  · exact iter1_one ⟨k, hk⟩
theorem del_zero (f : Nat) (b : Reg) (n : Nat) (h : n ≤ f) : regAt (del f b 32) n 0#32 = 0#32 := by
  induction n with
  | zero => rfl
  | succ n ih =>
    have h1 : ¬ (f ≤ n ∧ n < f + 32) := by omega
    rw [regAt, ih (by omega), del, decide_eq_false h1, Bool.false_and]
    decide
theorem del_in (f : Nat) (b : Reg) (k : Nat) (h : k ≤ 32) : regAt (del f b 32) (f + k) 0#32 = iter1 k (low k b) := by
  induction k with
  | zero => rw [Nat.add_zero, del_zero f b f (Nat.le_refl _), iter1, low, Nat.pow_zero, Nat.mod_one]
  | succ k ih =>
    have h1 : f ≤ f + k ∧ f + k < f + 32 := by omega
    rw [← Nat.add_assoc, regAt, ih (by omega), del, decide_eq_true h1, Bool.true_and, Nat.add_sub_cancel_left, iter1, low_succ k b (by omega), iter1_xor, iter_bitOf _ k (by omega)]
theorem del_ne (f : Nat) (b : Reg) (hb : b ≠ 0#32) (m : Nat) : regAt (del f b 32) (f + 32 + m) 0#32 ≠ 0#32 := by
  induction m with
  | zero =>
    rw [Nat.add_zero, del_in f b 32 (Nat.le_refl _), low_all]
    intro h
    rw [← iter1_zero 32] at h
    exact hb (iter1_inj _ _ _ h)
  | succ m ih =>
    have h1 : ¬ (f ≤ f + 32 + m ∧ f + 32 + m < f + 32) := by omega
    rw [← Nat.add_assoc, regAt, del, decide_eq_false h1, Bool.false_and]
    intro h
    rw [← bit1_zero] at h
    have := bit1_inj _ _ h
    rw [show bitOf false = 0#32 from rfl, BitVec.xor_zero] at this
    exact ih this
theorem burst_ne (d : Nat → Nat) (n f : Nat) (b : Reg) (hb : b ≠ 0#32) (hn : f + 32 ≤ 8 * n) : sumR (fl d f b 32) n ≠ sumR d n := by
  unfold sumR
  rw [runs_bits, runs_bits]
  intro h
  have h' := congrArg (fun x : Reg => ~~~ x) h
  simp only [BitVec.not_not] at h'
  have hx := regAt_xor (bitF (fl d f b 32)) (bitF d) (8 * n) (BitVec.allOnes 32) (BitVec.allOnes 32)
  rw [h', BitVec.xor_self, BitVec.xor_self] at hx
  have hf : (fun i => bitF (fl d f b 32) i ^^ bitF d i) = del f b 32 := by
    funext i
    rw [fl_bit]
    cases bitF d i <;> cases del f b 32 i <;> rfl
  rw [hf] at hx
  obtain ⟨m, hm⟩ : ∃ m, 8 * n = f + 32 + m := ⟨8 * n - (f + 32), by omega⟩
  rw [hm] at hx
  exact del_ne f b hb m hx
end Go.Proofs.Ytdmikdpajijahaa
