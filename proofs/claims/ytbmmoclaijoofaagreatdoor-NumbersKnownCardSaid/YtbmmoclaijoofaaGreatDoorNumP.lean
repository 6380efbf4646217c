/- numbers: the float64s as signs and rungs (maths). -/
import Derived.Laws.FloatArith
set_option linter.unusedVariables false
set_option linter.unusedSimpArgs false
namespace Go.Proofs.YtbmmoclaijoofaaGreatDoor.Num
open Ieee

/-- A number's sign; its rung. -/
def sg (b : Nat) : Bool := b / 2 ^ 63 % 2 == 1
def rg (b : Nat) : Nat := b % 2 ^ 63
/-- The rung of infinity. -/
def infR : Nat := 2047 * 2 ^ 52
/-- A rung's size, in the least one above 0. -/
def rv (r : Nat) : Nat := if r < 2 ^ 52 then r else (2 ^ 52 + r % 2 ^ 52) * 2 ^ (r / 2 ^ 52 - 1)
def sv (b : Nat) : Int := if sg b then -(rv (rg b) : Int) else (rv (rg b) : Int)
def nanB (b : Nat) : Bool := decide (infR < rg b)
/-- A number's place in the order: -0 ahead of 0, nan behind all. -/
def key (b : Nat) : Int := if nanB b then 2 ^ 64 else if sg b then -(rg b : Int) - 1 else (rg b : Int)
theorem rg_lt (b : Nat) : rg b < 2 ^ 63 := Nat.mod_lt _ (by decide)
theorem rv_step (r : Nat) : rv r < rv (r + 1) := by
  unfold rv
  by_cases h1 : r + 1 < 2 ^ 52
  · rw [if_pos h1, if_pos (by omega)]; omega
  · by_cases h2 : r < 2 ^ 52
    · rw [if_neg h1, if_pos h2, show r + 1 = 2 ^ 52 by omega]
      simp
      omega
    · rw [if_neg h1, if_neg h2]
      have hq : 1 ≤ r / 2 ^ 52 := by omega
      by_cases h3 : r % 2 ^ 52 + 1 < 2 ^ 52
      · rw [show (r + 1) / 2 ^ 52 = r / 2 ^ 52 by omega, show (r + 1) % 2 ^ 52 = r % 2 ^ 52 + 1 by omega]
        exact Nat.mul_lt_mul_of_pos_right (by omega) (Nat.two_pow_pos _)
      · obtain ⟨q, hq2⟩ : ∃ q, q = r / 2 ^ 52 - 1 := ⟨_, rfl⟩
        rw [show (r + 1) / 2 ^ 52 - 1 = q + 1 by omega, show (r + 1) % 2 ^ 52 = 0 by omega, ← hq2, @Nat.pow_succ 2 q, Nat.mul_comm (2 ^ q) 2, ← Nat.mul_assoc]
        exact Nat.mul_lt_mul_of_pos_right (by omega) (Nat.two_pow_pos _)
theorem rv_mono {r s : Nat} (h : r < s) : rv r < rv s := by
  induction s with
  | zero => omega
  | succ s ih =>
    rcases Nat.lt_or_ge r s with h1 | h1
    · exact Nat.lt_trans (ih h1) (rv_step s)
    · obtain rfl : r = s := by omega
      exact rv_step r
theorem rv_lt {r s : Nat} : rv r < rv s ↔ r < s :=
  ⟨fun h => Nat.lt_of_not_le fun h2 => by
    rcases Nat.lt_or_ge s r with h3 | h3
    · have := rv_mono h3; omega
    · obtain rfl : r = s := by omega
      omega, rv_mono⟩
theorem rv_inj {r s : Nat} : rv r = rv s ↔ r = s := by
  constructor
  · intro h
    rcases Nat.lt_trichotomy r s with h1 | h1 | h1
    · have := rv_mono h1; omega
    · exact h1
    · have := rv_mono h1; omega
  · intro h; rw [h]
theorem rv_zero : rv 0 = 0 := rfl
theorem rv_pos {r : Nat} : 0 < rv r ↔ 0 < r := by rw [← rv_zero]; exact rv_lt

theorem d_binade : double.binade = 2 ^ 52 := rfl
theorem d_inf : double.infRung = infR := rfl
theorem d_sign : double.signWeight = 2 ^ 63 := rfl
theorem d_least : double.leastPlace = -1074 := by decide
/-- What a word stands for. -/
def mag (r : Nat) : Nat := if r < 2 ^ 52 then r else 2 ^ 52 + r % 2 ^ 52
def up (r : Nat) : Nat := if r < 2 ^ 52 then 0 else r / 2 ^ 52 - 1
theorem rv_is (r : Nat) : rv r = mag r * 2 ^ up r := by
  unfold rv mag up
  split <;> simp
theorem read_num (b : Nat) (h : rg b < infR) : double.read b = .number (sg b) (mag (rg b)) ((up (rg b) : Int) - 1074) := by
  unfold Format.read
  rw [d_binade, d_inf, d_sign, d_least]
  change (if rg b < 2 ^ 52 then Datum.number (sg b) (rg b) (-1074) else if rg b < infR then _ else _) = _
  unfold mag up
  by_cases h1 : rg b < 2 ^ 52
  · rw [if_pos h1, if_pos h1, if_pos h1]; rfl
  · rw [if_neg h1, if_neg h1, if_neg h1, if_pos h]
    exact congrArg _ (show -1074 + ((rg b / 2 ^ 52 - 1 : Nat) : Int) = ((rg b / 2 ^ 52 - 1 : Nat) : Int) - 1074 by omega)
theorem read_inf (b : Nat) (h : rg b = infR) : double.read b = .infinity (sg b) := by
  unfold Format.read
  rw [d_binade, d_inf, d_sign, d_least]
  change (if rg b < 2 ^ 52 then Datum.number (sg b) (rg b) (-1074) else if rg b < infR then _ else if rg b = infR then Datum.infinity (sg b) else _) = _
  rw [if_neg (by rw [h]; decide), if_neg (by omega), if_pos h]
theorem read_nan (b : Nat) (h : infR < rg b) : double.read b = .nan (sg b) (rg b - infR) := by
  unfold Format.read
  rw [d_binade, d_inf, d_sign, d_least]
  change (if rg b < 2 ^ 52 then Datum.number (sg b) (rg b) (-1074) else if rg b < infR then _ else if rg b = infR then Datum.infinity (sg b) else Datum.nan (sg b) (rg b - infR)) = _
  have : infR = 2047 * 2 ^ 52 := rfl
  rw [if_neg (by omega), if_neg (by omega), if_neg (by omega)]
theorem signed_scale (s : Bool) (m u k : Nat) : signed s m u * (2 ^ k : Nat) = signed s m (u + k) := by
  unfold signed
  rw [Nat.shiftLeft_eq, Nat.shiftLeft_eq, Nat.pow_add, ← Nat.mul_assoc]
  cases s <;> simp [Int.neg_mul]
theorem cmp_lt {a b : Int} (h : a < b) : compare a b = .lt := by
  show compareOfLessAndEq a b = .lt
  unfold compareOfLessAndEq
  rw [if_pos h]
theorem cmp_gt {a b : Int} (h : b < a) : compare a b = .gt := by
  show compareOfLessAndEq a b = .gt
  unfold compareOfLessAndEq
  rw [if_neg (by omega), if_neg (by omega)]
theorem cmp_eq (a : Int) : compare a a = .eq := by
  show compareOfLessAndEq a a = .eq
  unfold compareOfLessAndEq
  rw [if_neg (by omega), if_pos rfl]
theorem compare_scale (a b : Int) (k : Nat) : compare (a * (2 ^ k : Nat)) (b * (2 ^ k : Nat)) = compare a b := by
  have hk : (0 : Int) < (2 ^ k : Nat) := by exact_mod_cast Nat.two_pow_pos k
  rcases Int.lt_trichotomy a b with h | h | h
  · rw [cmp_lt h, cmp_lt (Int.mul_lt_mul_of_pos_right h hk)]
  · subst h; rw [cmp_eq, cmp_eq]
  · rw [cmp_gt h, cmp_gt (Int.mul_lt_mul_of_pos_right h hk)]
theorem infR_is : infR = 2047 * 2 ^ 52 := rfl
theorem rv_signed (s : Bool) (r : Nat) : signed s (mag r) (up r) = if s then -(rv r : Int) else (rv r : Int) := by
  unfold signed
  rw [Nat.shiftLeft_eq, rv_is]
theorem order_num (x y : Nat) (hx : rg x ≤ infR) (hy : rg y ≤ infR) : double.order x y = some (compare (sv x) (sv y)) := by
  unfold Format.order
  have hpi : 0 < rv infR := rv_pos.2 (by decide)
  rcases Nat.lt_or_ge (rg x) infR with h1 | h1
  · rw [read_num x h1]
    rcases Nat.lt_or_ge (rg y) infR with h2 | h2
    · rw [read_num y h2]
      unfold Datum.order
      dsimp only
      congr 1
      obtain ⟨k, hk⟩ : ∃ k, k = min (up (rg x)) (up (rg y)) := ⟨_, rfl⟩
      have hb : min ((up (rg x) : Int) - 1074) ((up (rg y) : Int) - 1074) = (k : Int) - 1074 := by omega
      rw [hb, show ((up (rg x) : Int) - 1074 - ((k : Int) - 1074)).toNat = up (rg x) - k by omega, show ((up (rg y) : Int) - 1074 - ((k : Int) - 1074)).toNat = up (rg y) - k by omega,
        ← compare_scale _ _ k, signed_scale, signed_scale, show up (rg x) - k + k = up (rg x) by omega, show up (rg y) - k + k = up (rg y) by omega, rv_signed, rv_signed]
      rfl
    · have h3 : rg y = infR := by omega
      have h4 := rv_mono h1
      rw [read_inf y h3]
      unfold Datum.order sv
      dsimp only
      rw [h3]
      cases sg y
      · simp only [Bool.false_eq_true, if_false]
        rw [cmp_lt (by split <;> omega)]
      · simp only [if_true]
        rw [cmp_gt (by split <;> omega)]
  · have h3 : rg x = infR := by omega
    rw [read_inf x h3]
    rcases Nat.lt_or_ge (rg y) infR with h2 | h2
    · have h4 := rv_mono h2
      rw [read_num y h2]
      unfold Datum.order sv
      dsimp only
      rw [h3]
      cases sg x
      · simp only [Bool.false_eq_true, if_false]
        rw [cmp_gt (by split <;> omega)]
      · simp only [if_true]
        rw [cmp_lt (by split <;> omega)]
    · have h5 : rg y = infR := by omega
      rw [read_inf y h5]
      unfold Datum.order sv
      dsimp only
      rw [h3, h5]
      cases sg x <;> cases sg y
      · simp
      · simp only [Bool.false_eq_true, if_false, if_true]
        rw [cmp_gt (by omega)]; decide
      · simp only [Bool.false_eq_true, if_false, if_true]
        rw [cmp_lt (by omega)]; decide
      · simp
theorem order_nan (x y : Nat) (h : infR < rg x ∨ infR < rg y) : double.order x y = none := by
  unfold Format.order
  rcases h with h | h
  · rw [read_nan x h]; unfold Datum.order; rfl
  · rw [read_nan y h]; unfold Datum.order; split <;> first | rfl | simp_all
/-- x == y, x < y. -/
def eqF (x y : Nat) : Bool := !nanB x && !nanB y && decide (sv x = sv y)
def ltF (x y : Nat) : Bool := !nanB x && !nanB y && decide (sv x < sv y)
theorem order_parts (x y : Nat) : (nanB x = false ∧ nanB y = false ∧ double.order x y = some (compare (sv x) (sv y))) ∨ ((nanB x = true ∨ nanB y = true) ∧ double.order x y = none) := by
  unfold nanB
  by_cases h1 : infR < rg x
  · exact .inr ⟨.inl (by simpa using h1), order_nan x y (.inl h1)⟩
  · by_cases h2 : infR < rg y
    · exact .inr ⟨.inr (by simpa using h2), order_nan x y (.inr h2)⟩
    · exact .inl ⟨by simpa using h1, by simpa using h2, order_num x y (by omega) (by omega)⟩
theorem ord_eq (x y : Nat) : (Go.FloatKind.f64.format.order x y == some .eq) = eqF x y := by
  change (double.order x y == some .eq) = eqF x y
  unfold eqF
  rcases order_parts x y with ⟨h1, h2, h3⟩ | ⟨h1, h3⟩
  · rw [h1, h2, h3]
    rcases Int.lt_trichotomy (sv x) (sv y) with h | h | h
    · rw [cmp_lt h]; simp; omega
    · rw [h, cmp_eq]; simp
    · rw [cmp_gt h]; simp; omega
  · rw [h3]; rcases h1 with h1 | h1 <;> simp [h1]
theorem ord_lt (x y : Nat) : (Go.FloatKind.f64.format.order x y == some .lt) = ltF x y := by
  change (double.order x y == some .lt) = ltF x y
  unfold ltF
  rcases order_parts x y with ⟨h1, h2, h3⟩ | ⟨h1, h3⟩
  · rw [h1, h2, h3]
    rcases Int.lt_trichotomy (sv x) (sv y) with h | h | h
    · rw [cmp_lt h]; simp [h]
    · rw [h, cmp_eq]; simp
    · rw [cmp_gt h]; simp; omega
  · rw [h3]; rcases h1 with h1 | h1 <;> simp [h1]
theorem ord_gt (x y : Nat) : (Go.FloatKind.f64.format.order x y == some .gt) = ltF y x := by
  change (double.order x y == some .gt) = ltF y x
  unfold ltF
  rcases order_parts x y with ⟨h1, h2, h3⟩ | ⟨h1, h3⟩
  · rw [h1, h2, h3]
    rcases Int.lt_trichotomy (sv x) (sv y) with h | h | h
    · rw [cmp_lt h]; simp; omega
    · rw [h, cmp_eq]; simp
    · rw [cmp_gt h]; simp [h]
  · rw [h3]; rcases h1 with h1 | h1 <;> simp [h1]
/-- How two stand to each other in the order of keys. -/
def cmpI (a b : Int) : Int := if a < b then -1 else if b < a then 1 else 0
theorem key_nan {x : Nat} (h : nanB x = true) : key x = 2 ^ 64 := by unfold key; rw [if_pos h]
theorem key_lt {x : Nat} (h : nanB x = false) : key x < 2 ^ 63 ∧ -(2 ^ 63) ≤ key x := by
  have := rg_lt x
  unfold key
  simp only [h, Bool.false_eq_true, if_false]
  split <;> omega
theorem sv_key {x y : Nat} (hx : nanB x = false) (hy : nanB y = false) (h : ¬ (rg x = 0 ∧ rg y = 0)) : sv x < sv y ↔ key x < key y := by
  unfold sv key
  simp only [hx, hy, Bool.false_eq_true, if_false]
  have e1 := rv_lt (r := rg x) (s := rg y)
  have e2 := rv_lt (r := rg y) (s := rg x)
  have e3 := rv_pos (r := rg x)
  have e4 := rv_pos (r := rg y)
  cases sg x <;> cases sg y <;> simp only [Bool.false_eq_true, if_false, if_true] <;> omega
theorem key_inj {x y : Nat} (hx : x < 2 ^ 64) (hy : y < 2 ^ 64) (nx : nanB x = false) (h : key x = key y) : x = y := by
  have ny : nanB y = false := by
    cases ny : nanB y with
    | false => rfl
    | true => have := key_lt nx; have := key_nan ny; omega
  unfold key at h
  simp only [nx, ny, Bool.false_eq_true, if_false] at h
  unfold sg rg at h
  have a1 : x / 2 ^ 63 < 2 := by omega
  have a2 : y / 2 ^ 63 < 2 := by omega
  have e : ∀ q : Nat, q < 2 → (q % 2 == 1) = decide (q = 1) := by decide
  rw [e _ a1, e _ a2] at h
  simp only [decide_eq_true_eq] at h
  split at h <;> split at h <;> omega
end Go.Proofs.YtbmmoclaijoofaaGreatDoor.Num
