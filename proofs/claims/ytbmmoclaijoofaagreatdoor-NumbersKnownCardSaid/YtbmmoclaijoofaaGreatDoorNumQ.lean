/- numbers: what is written exactly (maths). -/
import Derived.Test.YtbmmoclaijoofaaGreatDoorNumP
set_option linter.unusedVariables false
set_option linter.unusedSimpArgs false
namespace Go.Proofs.YtbmmoclaijoofaaGreatDoor.Num
open Ieee

theorem log2_mul_pow (m i : Nat) (h : m ≠ 0) : (m * 2 ^ i).log2 = m.log2 + i := by
  have hp : 0 < 2 ^ i := Nat.two_pow_pos i
  have h0 : m * 2 ^ i ≠ 0 := by
    intro e
    rcases Nat.mul_eq_zero.1 e with e | e
    · exact h e
    · omega
  rw [Nat.log2_eq_iff h0]
  have h1 := Nat.log2_self_le h
  have h2 := Nat.lt_log2_self (n := m)
  constructor
  · rw [Nat.pow_add]; exact Nat.mul_le_mul_right _ h1
  · rw [show m.log2 + i + 1 = (m.log2 + 1) + i by omega, Nat.pow_add]; exact Nat.mul_lt_mul_of_pos_right h2 hp
theorem log2_range {m k : Nat} (h1 : 2 ^ k ≤ m) (h2 : m < 2 ^ (k + 1)) : m.log2 = k := by
  rw [Nat.log2_eq_iff (by have := Nat.two_pow_pos k; omega)]
  exact ⟨h1, h2⟩
theorem cut_exact (neg : Bool) (n : Nat) : Toward.even.cut neg n 0 = n := by
  unfold Toward.cut
  simp [Nat.mod_one]
theorem cut_pow (neg : Bool) (n d : Nat) (h : n ≠ 0) : Toward.even.cut neg (n * 2 ^ d) d = n := by
  unfold Toward.cut
  dsimp only
  rw [log2_mul_pow n d h, show min d (n.log2 + d + 2) = d by omega, Nat.shiftLeft_eq, Nat.one_mul, Nat.mul_div_cancel _ (Nat.two_pow_pos d), Nat.mul_mod_left]
  have := Nat.two_pow_pos d
  have e : (2 ^ d == 2 * 0) = false := by simp
  simp [e]
/-- What is m times 2 to the power of p, exactly, is written so. -/
theorem nearest_exact (neg : Bool) (m r : Nat) (p : Int) (i j : Nat) (hm : m ≠ 0) (hr : r < infR) (hp : p = (i : Int) - (j : Int) - 1074) (h : m * 2 ^ i = rv r * 2 ^ j) : double.nearest neg m p = double.word neg r := by
  have hr0 : rv r ≠ 0 := by
    intro e
    rw [e, Nat.zero_mul] at h
    have := Nat.two_pow_pos i
    rcases Nat.mul_eq_zero.1 h with h | h <;> omega
  unfold Format.nearest
  rw [if_neg hm]
  dsimp only
  rw [d_least, d_binade, d_inf]
  have hf : (double.fractionBits : Int) = 52 := rfl
  rw [hf]
  have hl := log2_mul_pow m i hm
  rw [h] at hl
  congr 1
  by_cases h1 : r < 2 ^ 52
  · have hrv : rv r = r := by unfold rv; rw [if_pos h1]
    rw [hrv] at hl h hr0
    rw [log2_mul_pow r j hr0] at hl
    have hlr : r.log2 < 52 := by
      rw [Nat.log2_lt hr0]; exact h1
    have hlast : max (p + (m.log2 : Int) - 52) (-1074) = -1074 := by omega
    rw [hlast]
    rcases Nat.lt_or_ge i j with hij | hij
    · have hm2 : m = r * 2 ^ (j - i) := by
        have := Nat.two_pow_pos i
        refine Nat.eq_of_mul_eq_mul_right this ?_
        rw [h, Nat.mul_assoc, ← Nat.pow_add, show j - i + i = j by omega]
      rw [show (p - -1074).toNat = 0 by omega, show (-1074 - p).toNat = j - i by omega, Nat.shiftLeft_zero, hm2, cut_pow neg r (j - i) hr0]
      have : (-1074 - -1074 : Int).toNat = 0 := rfl
      rw [this]
      omega
    · have hm2 : m * 2 ^ (i - j) = r := by
        have := Nat.two_pow_pos j
        refine Nat.eq_of_mul_eq_mul_right this ?_
        rw [← h, Nat.mul_assoc, ← Nat.pow_add, show i - j + j = i by omega]
      rw [show (p - -1074).toNat = i - j by omega, show (-1074 - p).toNat = 0 by omega, Nat.shiftLeft_eq, hm2, cut_exact]
      have : (-1074 - -1074 : Int).toNat = 0 := rfl
      rw [this]
      omega
  · obtain ⟨M, hM⟩ : ∃ M, M = 2 ^ 52 + r % 2 ^ 52 := ⟨_, rfl⟩
    obtain ⟨u, hu⟩ : ∃ u, u = r / 2 ^ 52 - 1 := ⟨_, rfl⟩
    have hrv : rv r = M * 2 ^ u := by unfold rv; rw [if_neg h1, hM, hu]
    have hML : M.log2 = 52 := log2_range (by omega) (by omega)
    have hM0 : M ≠ 0 := by omega
    rw [hrv, Nat.mul_assoc, ← Nat.pow_add] at h hl
    rw [log2_mul_pow M _ hM0, hML] at hl
    have hlast : max (p + (m.log2 : Int) - 52) (-1074) = (u : Int) - 1074 := by omega
    rw [hlast]
    have hfin : ((u : Int) - 1074 - -1074).toNat * 2 ^ 52 + M = r := by
      rw [show ((u : Int) - 1074 - -1074).toNat = u by omega, hM, hu]
      omega
    rcases Nat.lt_or_ge i (u + j) with hij | hij
    · have hm2 : m = M * 2 ^ (u + j - i) := by
        have := Nat.two_pow_pos i
        refine Nat.eq_of_mul_eq_mul_right this ?_
        rw [h, Nat.mul_assoc, ← Nat.pow_add, show u + j - i + i = u + j by omega]
      rw [show (p - ((u : Int) - 1074)).toNat = 0 by omega, show ((u : Int) - 1074 - p).toNat = u + j - i by omega, Nat.shiftLeft_zero, hm2, cut_pow neg M (u + j - i) hM0, hfin]
      omega
    · have hm2 : m * 2 ^ (i - (u + j)) = M := by
        have := Nat.two_pow_pos (u + j)
        refine Nat.eq_of_mul_eq_mul_right this ?_
        rw [← h, Nat.mul_assoc, ← Nat.pow_add, show i - (u + j) + (u + j) = i by omega]
      rw [show (p - ((u : Int) - 1074)).toNat = i - (u + j) by omega, show ((u : Int) - 1074 - p).toNat = 0 by omega, Nat.shiftLeft_eq, hm2, cut_exact, hfin]
      omega
/-- A word of a sign and a rung. -/
def wd (s : Bool) (r : Nat) : Nat := if s then 2 ^ 63 + r else r
theorem word_is (s : Bool) (r : Nat) : double.word s r = wd s r := rfl
theorem rg_wd (s : Bool) {r : Nat} (h : r < 2 ^ 63) : rg (wd s r) = r := by unfold rg wd; split <;> omega
theorem sg_wd (s : Bool) {r : Nat} (h : r < 2 ^ 63) : sg (wd s r) = s := by
  unfold sg wd
  cases s
  · rw [if_neg (by simp), show r / 2 ^ 63 = 0 by omega]; rfl
  · rw [if_pos rfl, show (2 ^ 63 + r) / 2 ^ 63 = 1 by omega]; rfl
theorem wd_of {b : Nat} (h : b < 2 ^ 64) : wd (sg b) (rg b) = b := by
  have e : ∀ q : Nat, q < 2 → (q % 2 == 1) = decide (q = 1) := by decide
  unfold wd sg rg
  rw [e _ (by omega)]
  simp only [decide_eq_true_eq]
  split <;> omega
theorem wd_lt (s : Bool) {r : Nat} (h : r < 2 ^ 63) : wd s r < 2 ^ 64 := by unfold wd; split <;> omega
theorem infR_lt : infR < 2 ^ 63 := by decide
/-- What has at most 53 digits, and is not too great, is a rung's. -/
theorem rv_of (m e : Nat) (h : m < 2 ^ 53) (hb : m * 2 ^ e < rv infR) : ∃ r, r < infR ∧ rv r = m * 2 ^ e := by
  have key : ∀ r, rv r = m * 2 ^ e → r < infR := fun r hr => rv_lt.1 (by rw [hr]; exact hb)
  suffices ∃ r, rv r = m * 2 ^ e by
    obtain ⟨r, hr⟩ := this
    exact ⟨r, key r hr, hr⟩
  by_cases hm : m = 0
  · exact ⟨0, by rw [hm, Nat.zero_mul]; rfl⟩
  have hL : m.log2 ≤ 52 := by have := (Nat.log2_lt hm).2 h; omega
  have h1 := Nat.log2_self_le hm
  have h2 := Nat.lt_log2_self (n := m)
  rcases Nat.lt_or_ge (m.log2 + e) 52 with h3 | h3
  · refine ⟨m * 2 ^ e, ?_⟩
    unfold rv
    rw [if_pos]
    refine Nat.lt_of_lt_of_le (Nat.mul_lt_mul_of_pos_right h2 (Nat.two_pow_pos e)) ?_
    rw [← Nat.pow_add]
    exact Nat.pow_le_pow_right (by decide) (by omega)
  · obtain ⟨M, hM⟩ : ∃ M, M = m * 2 ^ (52 - m.log2) := ⟨_, rfl⟩
    have a1 : 2 ^ 52 ≤ M := by
      rw [hM, show (2 : Nat) ^ 52 = 2 ^ m.log2 * 2 ^ (52 - m.log2) by rw [← Nat.pow_add, show m.log2 + (52 - m.log2) = 52 by omega]]
      exact Nat.mul_le_mul_right _ h1
    have a2 : M < 2 ^ 53 := by
      rw [hM, show (2 : Nat) ^ 53 = 2 ^ (m.log2 + 1) * 2 ^ (52 - m.log2) by rw [← Nat.pow_add, show m.log2 + 1 + (52 - m.log2) = 53 by omega]]
      exact Nat.mul_lt_mul_of_pos_right h2 (Nat.two_pow_pos _)
    refine ⟨(m.log2 + e - 52 + 1) * 2 ^ 52 + (M - 2 ^ 52), ?_⟩
    unfold rv
    rw [if_neg (by omega), show ((m.log2 + e - 52 + 1) * 2 ^ 52 + (M - 2 ^ 52)) % 2 ^ 52 = M - 2 ^ 52 by omega, show ((m.log2 + e - 52 + 1) * 2 ^ 52 + (M - 2 ^ 52)) / 2 ^ 52 - 1 = m.log2 + e - 52 by omega,
      show 2 ^ 52 + (M - 2 ^ 52) = M by omega, hM, Nat.mul_assoc, ← Nat.pow_add, show 52 - m.log2 + (m.log2 + e - 52) = e by omega]
end Go.Proofs.YtbmmoclaijoofaaGreatDoor.Num
