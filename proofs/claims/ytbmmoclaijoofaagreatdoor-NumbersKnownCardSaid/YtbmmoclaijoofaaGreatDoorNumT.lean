/- numbers: sums, whole numbers' rungs, floors (maths). -/
import Derived.Test.YtbmmoclaijoofaaGreatDoorNumS
set_option linter.unusedVariables false
set_option linter.unusedSimpArgs false
namespace Go.Proofs.YtbmmoclaijoofaaGreatDoor.Num
open Ieee

/-- A sum that is a number's is that number. -/
theorem add_exact (x y r : Nat) (hx : rg x < infR) (hy : rg y < infR) (hr : r < infR) (h : (sv x + sv y).natAbs = rv r) : double.add x y = some (wd (if sv x + sv y = 0 then sg x && sg y else decide (sv x + sv y < 0)) r) := by
  unfold Format.add
  rw [read_num x hx, read_num y hy]
  unfold Datum.sum
  dsimp only [Option.map]
  obtain ⟨k, hk⟩ : ∃ k, k = min (up (rg x)) (up (rg y)) := ⟨_, rfl⟩
  have hb : min ((up (rg x) : Int) - 1074) ((up (rg y) : Int) - 1074) = (k : Int) - 1074 := by omega
  rw [hb, show ((up (rg x) : Int) - 1074 - ((k : Int) - 1074)).toNat = up (rg x) - k by omega, show ((up (rg y) : Int) - 1074 - ((k : Int) - 1074)).toNat = up (rg y) - k by omega]
  obtain ⟨T, hT⟩ : ∃ T, T = signed (sg x) (mag (rg x)) (up (rg x) - k) + signed (sg y) (mag (rg y)) (up (rg y) - k) := ⟨_, rfl⟩
  have hs : T * (2 ^ k : Nat) = sv x + sv y := by
    rw [hT, Int.add_mul, signed_scale, signed_scale, show up (rg x) - k + k = up (rg x) by omega, show up (rg y) - k + k = up (rg y) by omega, rv_signed, rv_signed]
    rfl
  rw [← hT]
  have hp : (0 : Int) < (2 ^ k : Nat) := by exact_mod_cast Nat.two_pow_pos k
  have e0 : (T = 0) ↔ (sv x + sv y = 0) := by
    rw [← hs]
    constructor
    · intro e; rw [e, Int.zero_mul]
    · intro e
      rcases Int.mul_eq_zero.1 e with e | e
      · exact e
      · omega
  have e1 : (T < 0) ↔ (sv x + sv y < 0) := by
    rw [← hs]
    constructor
    · intro e; exact Int.mul_neg_of_neg_of_pos e hp
    · intro e
      rcases Int.lt_or_le T 0 with h1 | h1
      · exact h1
      · have := Int.mul_nonneg h1 (Int.le_of_lt hp); omega
  congr 1
  unfold Format.write
  dsimp only
  have hab : T.natAbs * 2 ^ k = rv r := by
    rw [← h, ← hs, Int.natAbs_mul]
    rfl
  have hsign : (if T = 0 then sg x && sg y else decide (T < 0)) = (if sv x + sv y = 0 then sg x && sg y else decide (sv x + sv y < 0)) := by
    by_cases h0 : T = 0
    · rw [if_pos h0, if_pos (e0.1 h0)]
    · rw [if_neg h0, if_neg (fun e => h0 (e0.2 e)), decide_eq_decide]; exact e1
  rw [← hsign, ← word_is]
  by_cases hz : T.natAbs = 0
  · have hr0 : r = 0 := rv_inj.1 (by rw [← hab, hz, Nat.zero_mul]; rfl)
    subst hr0
    unfold Format.nearest
    rw [if_pos hz]
  · exact nearest_exact _ _ r _ k 0 hz hr (by omega) (by rw [hab, Nat.pow_zero, Nat.mul_one])
theorem sub_is (x y : Nat) (hy : rg y < infR) : double.sub x y = double.add x (wd (!sg y) (rg y)) := by
  unfold Format.sub Format.add
  have h1 := rg_lt y
  rw [read_num y hy, read_num (wd (!sg y) (rg y)) (by rw [rg_wd _ h1]; exact hy), rg_wd _ h1, sg_wd _ h1]
  rfl
theorem sv_neg (y : Nat) : sv (wd (!sg y) (rg y)) = -sv y := by
  have h1 := rg_lt y
  unfold sv
  rw [rg_wd _ h1, sg_wd _ h1]
  cases sg y <;> simp
/-- The rung of 2^53. -/
def R53 : Nat := 4845873199050653696
theorem R53_lt : R53 < infR := by decide
theorem rv_53 : rv R53 = 2 ^ 53 * P0 := by
  obtain ⟨c, hc⟩ : ∃ c : Nat, c = 1074 := ⟨_, rfl⟩
  obtain ⟨q, hq⟩ : ∃ q, q = R53 / 2 ^ 52 - 1 := ⟨_, rfl⟩
  have h1 : ¬ R53 < 2 ^ 52 := by decide
  have h2 : R53 % 2 ^ 52 = 0 := by decide
  have h3 : R53 / 2 ^ 52 - 1 = 1075 := by decide
  unfold rv
  rw [if_neg h1, h2, ← hq, P0_is c hc, Nat.add_zero, show q = c + 1 by omega, Nat.pow_succ 2 c]
  generalize 2 ^ c = z
  omega
/-- A whole number of at most 2^53 has a rung. -/
theorem int_rung (m : Nat) (h : m ≤ 2 ^ 53) : ∃ r, r < infR ∧ r ≤ R53 ∧ rv r = m * P0 := by
  by_cases h1 : m = 2 ^ 53
  · exact ⟨R53, R53_lt, Nat.le_refl _, by rw [h1]; exact rv_53⟩
  · obtain ⟨c, hc⟩ : ∃ c : Nat, c = 1074 := ⟨_, rfl⟩
    have hp := P0_pos
    have hlt : m * P0 < rv R53 := by rw [rv_53]; exact Nat.mul_lt_mul_of_pos_right (by omega) hp
    have hlt2 : rv R53 < rv infR := rv_mono R53_lt
    obtain ⟨r, hr, hv⟩ := rv_of m c (by omega) (by rw [← P0_is c hc]; omega)
    rw [← P0_is c hc] at hv
    exact ⟨r, hr, Nat.le_of_lt (rv_lt.1 (by rw [hv]; exact hlt)), hv⟩
theorem rung_53 {r : Nat} : r < R53 ↔ tv r < 2 ^ 53 := by
  rw [← rv_lt, rv_53]
  unfold tv
  exact (Nat.div_lt_iff_lt_mul P0_pos).symm
/-- From 2^53 on all are whole. -/
theorem whole_above {r : Nat} (h : R53 ≤ r) : rv r = tv r * P0 := by
  obtain ⟨c, hc⟩ : ∃ c : Nat, c = 1074 := ⟨_, rfl⟩
  have h1 : ¬ r < 2 ^ 52 := by have : R53 = 4845873199050653696 := rfl; omega
  have h2 : c ≤ r / 2 ^ 52 - 1 := by have : R53 = 4845873199050653696 := rfl; omega
  unfold tv
  have h3 : rv r = (2 ^ 52 + r % 2 ^ 52) * 2 ^ (r / 2 ^ 52 - 1 - c) * P0 := by
    conv => lhs; unfold rv
    rw [if_neg h1, P0_is c hc, Nat.mul_assoc, ← Nat.pow_add, show r / 2 ^ 52 - 1 - c + c = r / 2 ^ 52 - 1 by omega]
  rw [h3, Nat.mul_div_cancel _ P0_pos]
theorem wholeR_is (r : Nat) : wholeR r = (decide (rv r = tv r * P0) && decide (r < R53)) := by
  unfold wholeR
  congr 1
  · rw [decide_eq_decide]
    unfold tv
    have := Nat.div_add_mod (rv r) P0
    rw [Nat.mul_comm] at this
    omega
  · rw [decide_eq_decide, ← rv_53, rv_lt]
/-- The floor's size. -/
def flN (s : Bool) (r : Nat) : Nat := if s && decide (rv r ≠ tv r * P0) then tv r + 1 else tv r
theorem cut_down (neg : Bool) (n d : Nat) : Toward.down.cut neg n d = n / 2 ^ d + (neg && decide (n % 2 ^ d ≠ 0)).toNat := by
  unfold Toward.cut
  dsimp only
  rw [Nat.shiftLeft_eq, Nat.one_mul]
  rcases Nat.lt_or_ge (n.log2 + 2) d with h | h
  · rw [show min d (n.log2 + 2) = n.log2 + 2 by omega]
    have h2 := Nat.lt_log2_self (n := n)
    have h3 : n < 2 ^ (n.log2 + 2) := Nat.lt_of_lt_of_le h2 (Nat.pow_le_pow_right (by decide) (by omega))
    have h4 : n < 2 ^ d := Nat.lt_of_lt_of_le h2 (Nat.pow_le_pow_right (by decide) (by omega))
    rw [Nat.div_eq_of_lt h3, Nat.div_eq_of_lt h4, Nat.mod_eq_of_lt h3, Nat.mod_eq_of_lt h4]
    simp [bne]
    rfl
  · rw [show min d (n.log2 + 2) = d by omega]
    simp [bne]
    rfl
theorem scale_mod (m u : Nat) : ((m <<< ((u : Int) - 1074).toNat) % 2 ^ (-((u : Int) - 1074)).toNat ≠ 0) ↔ (m * 2 ^ u ≠ m * 2 ^ u / P0 * P0) := by
  obtain ⟨c, hc⟩ : ∃ c : Nat, c = 1074 := ⟨_, rfl⟩
  rw [Nat.shiftLeft_eq, P0_is c hc]
  rcases Nat.lt_or_ge u c with h | h
  · rw [show ((u : Int) - 1074).toNat = 0 by omega, show (-((u : Int) - 1074)).toNat = c - u by omega, Nat.pow_zero, Nat.mul_one]
    have e : (2 : Nat) ^ c = 2 ^ (c - u) * 2 ^ u := by rw [← Nat.pow_add, show c - u + u = c by omega]
    rw [e, Nat.mul_div_mul_right _ _ (Nat.two_pow_pos u)]
    have hd := Nat.div_add_mod m (2 ^ (c - u))
    have hp := Nat.two_pow_pos u
    generalize 2 ^ (c - u) = A at *
    generalize 2 ^ u = B at *
    rw [← Nat.mul_assoc]
    constructor
    · intro h1 h2
      have := Nat.eq_of_mul_eq_mul_right hp h2
      rw [Nat.mul_comm] at hd
      omega
    · intro h1 h2
      apply h1
      rw [h2, Nat.add_zero, Nat.mul_comm] at hd
      rw [hd]
  · rw [show ((u : Int) - 1074).toNat = u - c by omega, show (-((u : Int) - 1074)).toNat = 0 by omega, Nat.pow_zero, Nat.mod_one]
    have e : (2 : Nat) ^ u = 2 ^ (u - c) * 2 ^ c := by rw [← Nat.pow_add, show u - c + c = u by omega]
    rw [e, ← Nat.mul_assoc, Nat.mul_div_cancel _ (Nat.two_pow_pos c)]
    simp
theorem floor_num (b : Nat) (h : rg b < infR) : (double.read b).integral .down = .number (sg b) (flN (sg b) (rg b)) 0 := by
  rw [read_num b h]
  unfold Datum.integral
  dsimp only
  rw [cut_down, scale_div, ← rv_is]
  have e : decide ((mag (rg b) <<< ((up (rg b) : Int) - 1074).toNat) % 2 ^ (-((up (rg b) : Int) - 1074)).toNat ≠ 0) = decide (rv (rg b) ≠ tv (rg b) * P0) := by
    rw [decide_eq_decide, scale_mod, ← rv_is]; rfl
  rw [e]
  unfold flN
  change Datum.number _ (tv (rg b) + _) 0 = _
  cases sg b
  · simp
  · cases hd : decide (rv (rg b) ≠ tv (rg b) * P0) <;> simp
theorem trunc_num (b : Nat) (h : rg b < infR) : (double.read b).integral .zero = .number (sg b) (tv (rg b)) 0 := by
  rw [read_num b h]
  unfold Datum.integral
  dsimp only
  rw [cut_zero, scale_div, ← rv_is]
  rfl
/-- A whole number with its sign is written as it is. -/
theorem write_int (s : Bool) (n r : Nat) (hr : r < infR) (h : rv r = n * P0) : double.write (.number s n 0) = wd s r := by
  unfold Format.write
  dsimp only
  rw [← word_is]
  by_cases h0 : n = 0
  · rw [h0, Nat.zero_mul] at h
    have : r = 0 := rv_inj.1 (by rw [h]; rfl)
    subst this
    unfold Format.nearest
    rw [if_pos h0]
  · obtain ⟨c, hc⟩ : ∃ c : Nat, c = 1074 := ⟨_, rfl⟩
    exact nearest_exact _ _ r _ c 0 h0 hr (by omega) (by rw [h, Nat.pow_zero, Nat.mul_one, P0_is c hc])
end Go.Proofs.YtbmmoclaijoofaaGreatDoor.Num
