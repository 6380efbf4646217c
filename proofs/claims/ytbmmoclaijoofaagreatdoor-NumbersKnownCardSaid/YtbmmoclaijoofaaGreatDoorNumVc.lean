/- numbers: Ldexp. -/
import Derived.Test.YtbmmoclaijoofaaGreatDoorNumVb
set_option linter.unusedVariables false
set_option linter.unusedSimpArgs false
namespace Go.Proofs.YtbmmoclaijoofaaGreatDoor
open Go.RowKit Go.BigFrame
open Num (nanB sg rg rv sv tv key eqF ltF cmpI wd infR R53 P0 wholeR flN ONE)

namespace Num
theorem and_i64 (q : Nat) (h1 : 1023 ≤ q) (h2 : q ≤ 1076) : bits .and .i64 (q : Int) 2047 = (q : Int) := by
  have h : ∀ j : Fin 54, bits .and .i64 ((1023 + j.val : Nat) : Int) 2047 = ((1023 + j.val : Nat) : Int) := by decide +kernel
  have := h ⟨q - 1023, by omega⟩
  simpa [show 1023 + (q - 1023) = q by omega] using this
theorem or_exp (t u : Nat) (ht : t < 4503599627370496) (hu : u < 2047) : bits .or .u64 (t : Int) (((u * 4503599627370496 : Nat)) : Int) = ((u * 4503599627370496 + t : Nat) : Int) := by
  rw [u64_or_nat t _ (by omega) (by omega), Nat.or_comm, Nat.mul_comm u, show (4503599627370496 : Nat) = 2 ^ 52 from rfl, ← Nat.two_pow_add_eq_or_of_lt (by omega : t < 2 ^ 52) u]
/-- The float64 of a whole number above 0, less than 2^53. -/
structure IsInt (m x : Nat) : Prop where
  lo : ONE ≤ x
  hi : x < R53
  eq : rv x = m * P0
theorem isInt_of {m : Nat} (h0 : 0 < m) (h : m < 2 ^ 53) : ∃ x, IsInt m x := by
  obtain ⟨x, h1, h2, h3⟩ := int_rung m (by omega)
  refine ⟨x, ?_, ?_, h3⟩
  · refine Nat.le_of_not_lt fun hlt => ?_
    have := rv_mono hlt
    rw [h3, rv_one] at this
    have hp := P0_pos
    have : P0 ≤ m * P0 := Nat.le_mul_of_pos_left _ h0
    omega
  · refine Nat.lt_of_le_of_ne h2 fun e => ?_
    rw [e, rv_53] at h3
    have := Nat.eq_of_mul_eq_mul_right P0_pos h3
    omega
theorem one_is : ONE = 4607182418800017408 := rfl
theorem IsInt.q {m x : Nat} (h : IsInt m x) : 1023 ≤ x / 4503599627370496 ∧ x / 4503599627370496 ≤ 1076 := by
  have h1 := h.lo
  have h2 := h.hi
  have e1 := one_is
  have e2 : R53 = 4845873199050653696 := rfl
  omega
theorem IsInt.val {m x : Nat} (h : IsInt m x) : (2 ^ 52 + x % 4503599627370496) * 2 ^ (x / 4503599627370496 - 1) = m * P0 := by
  have := h.q
  rw [← h.eq, rv_norm (by omega)]
/-- What m times 2 to the power of e is. -/
def LdIs (m : Nat) (e : Int) (r : Nat) : Prop := r < infR ∧ ∃ a b : Nat, e = (a : Int) - (b : Int) ∧ m * P0 * 2 ^ a = rv r * 2 ^ b
/-- A normal result. -/
theorem ld_normal {m x r : Nat} {e : Int} (h : IsInt m x) (hr : LdIs m e r) (u : Nat) (hu : (u : Int) = e + (x / 4503599627370496 : Nat)) (h1 : 1 ≤ u) : u * 4503599627370496 + x % 4503599627370496 = r := by
  obtain ⟨hri, a, b, he, heq⟩ := hr
  have hv := h.val
  have hq := h.q
  apply rv_inj.1
  have ht : x % 4503599627370496 < 4503599627370496 := Nat.mod_lt _ (by decide)
  generalize x % 4503599627370496 = t at *
  generalize x / 4503599627370496 = q at *
  rw [rv_norm (by omega), show (u * 4503599627370496 + t) % 2 ^ 52 = t by omega, show (u * 4503599627370496 + t) / 2 ^ 52 - 1 = u - 1 by omega]
  refine Nat.eq_of_mul_eq_mul_right (Nat.two_pow_pos b) ?_
  rw [← heq, ← hv, Nat.mul_assoc, Nat.mul_assoc, ← Nat.pow_add, ← Nat.pow_add, show u - 1 + b = q - 1 + a by omega]
/-- The bits of 2 to the power of -53. -/
def D53 : Nat := 4368491638549381120
theorem rv_D53 : rv D53 * 2 ^ 53 = P0 := by
  obtain ⟨c, hc⟩ : ∃ c : Nat, c = 1074 := ⟨_, rfl⟩
  obtain ⟨q, hq⟩ : ∃ q, q = D53 / 2 ^ 52 - 1 := ⟨_, rfl⟩
  have h1 : ¬ D53 < 2 ^ 52 := by decide
  have h2 : D53 % 2 ^ 52 = 0 := by decide
  have h3 : D53 / 2 ^ 52 - 1 = 969 := by decide
  have hqc : 52 + q + 53 = c := by rw [hq, h3, hc]
  unfold rv
  rw [if_neg h1, h2, ← hq, P0_is c hc, Nat.add_zero, ← Nat.pow_add, ← Nat.pow_add, hqc]
def double_mul_D53 (y : Nat) : Option Nat := Ieee.double.mul D53 y
/-- A result too small to be normal. -/
theorem ld_small {m x r : Nat} {e : Int} (h : IsInt m x) (hr : LdIs m e r) (u : Nat) (hu : (u : Int) = e + (x / 4503599627370496 : Nat) + 53) (h1 : 1 ≤ u) (h2 : u < 2047) : double_mul_D53 (u * 4503599627370496 + x % 4503599627370496) = some r := by
  obtain ⟨hri, a, b, he, heq⟩ := hr
  have hv := h.val
  have hq := h.q
  have ht : x % 4503599627370496 < 4503599627370496 := Nat.mod_lt _ (by decide)
  have hl := infR_lt
  have hi : infR = 2047 * 2 ^ 52 := rfl
  generalize x % 4503599627370496 = t at *
  generalize x / 4503599627370496 = q at *
  have hy : rv (u * 4503599627370496 + t) = rv r * 2 ^ 53 := by
    rw [rv_norm (by omega), show (u * 4503599627370496 + t) % 2 ^ 52 = t by omega, show (u * 4503599627370496 + t) / 2 ^ 52 - 1 = u - 1 by omega]
    refine Nat.eq_of_mul_eq_mul_right (Nat.two_pow_pos b) ?_
    rw [Nat.mul_right_comm (rv r), ← heq, ← hv, Nat.mul_assoc, Nat.mul_assoc, Nat.mul_assoc, ← Nat.pow_add, ← Nat.pow_add, ← Nat.pow_add, show u - 1 + b = q - 1 + (a + 53) by omega]
  have hb : u * 4503599627370496 + t < 2 ^ 63 := by omega
  obtain ⟨s1, g1⟩ := (show sg (u * 4503599627370496 + t) = false ∧ rg (u * 4503599627370496 + t) = u * 4503599627370496 + t from ⟨by unfold sg; rw [show (u * 4503599627370496 + t) / 2 ^ 63 = 0 by omega]; rfl, Nat.mod_eq_of_lt hb⟩)
  have g2 : rg D53 = D53 := by decide
  have s2 : sg D53 = false := by decide
  unfold double_mul_D53
  rw [mul_exact D53 _ r (by rw [g2]; decide) (by rw [g1]; omega) hri (by rw [g1, g2, hy, ← rv_D53]; generalize 2 ^ 53 = z; generalize rv D53 = y; generalize rv r = v; ac_rfl), s1, s2]
  rfl
theorem mul_one (y : Nat) (h : y < infR) : Go.floatBits .mul .f64 4607182418800017408 y = some y := by
  change Ieee.double.mul ONE y = some y
  have hl := infR_lt
  have g1 : rg y = y := Nat.mod_eq_of_lt (by omega)
  have s1 : sg y = false := by unfold sg; rw [show y / 2 ^ 63 = 0 by omega]; rfl
  rw [mul_exact ONE y y (by rw [rg_one]; exact one_lt) (by rw [g1]; exact h) h (by rw [g1, rg_one, rv_one, Nat.mul_comm]), s1, sg_one]
  rfl
end Num
set_option maxRecDepth 100000 in
set_option maxHeartbeats 800000 in
theorem normal_any (x : Nat) (w : World) (h1 : ONE ≤ x) (h2 : x < R53) : Calls Tryz.prog 71 #[.float .f64 x] w fun e w' => e = .returned (.tuple #[.float .f64 x, .int .i64 0]) ∧ w' = w := by
  have e1 := Num.one_is
  have e2 : R53 = 4845873199050653696 := rfl
  have hx : x < infR := by have := Num.R53_lt; omega
  have h63 := Num.lt_big hx
  obtain ⟨hs, hr⟩ := Num.pos_bits h63
  have HA := Lib.hid (abs_any x w (by omega))
  rw [hr] at HA
  have hn : nanB x = false := by unfold Num.nanB; rw [hr]; simp; omega
  have ho := Num.ord_lt x 4503599627370496
  rw [Num.lt_rung hn (by decide) hs (by decide), hr, show rg 4503599627370496 = 4503599627370496 by decide, decide_eq_false (by omega)] at ho
  clear h1 h2 e1 e2 hx h63 hs hr hn
  go_enter Tryz.func71, Tryz.ntmps71
  go_wp2_with fail
  refine HA.out.mono ?_
  rintro e w' ⟨rfl, hw⟩
  obtain rfl := hw.symm
  go_wp2
  go_ret2
  exact ⟨rfl, by trivial⟩
theorem sign_and (x : Nat) (h : x < 2 ^ 63) : bits .and .u64 (x : Int) 9223372036854775808 = 0 := by
  rw [show (9223372036854775808 : Int) = ((9223372036854775808 : Nat) : Int) from rfl, u64_and_nat x _ (by omega) (by decide), show (9223372036854775808 : Nat) = 2 ^ 63 from rfl]
  have h0 : x &&& 2 ^ 63 = 0 := by
    apply Nat.eq_of_testBit_eq
    intro i
    rw [Nat.testBit_and, Nat.testBit_two_pow, Nat.zero_testBit]
    by_cases hi : 63 = i
    · subst hi; rw [Nat.testBit_lt_two_pow h]; rfl
    · simp [hi]
  rw [h0]; rfl
set_option maxRecDepth 100000 in
set_option maxHeartbeats 400000 in
theorem copysign_any (x : Nat) (w : World) (h : x < 2 ^ 63) : Calls Tryz.prog 78 #[.float .f64 0, .float .f64 x] w fun e w' => e = .returned (.float .f64 0) ∧ w' = w := by
  have hf := run_frombits
  have ht := run_tobits
  have h1 : bits .andNot .u64 0 9223372036854775808 = 0 := by decide
  have h2 := sign_and x h
  have h3 : bits .or .u64 0 0 = 0 := by decide
  clear h
  go_enter Tryz.func78, Tryz.ntmps78
  go_wp2
  go_ret
  exact ⟨rfl, by trivial⟩
def LdPost (m : Nat) (e : Int) (w : World) (en : Ending) (w' : World) : Prop := Below w.heap.size w w' ∧ ∃ r, en = .returned (.float .f64 r) ∧ r < 2 ^ 64 ∧ ∀ rr, Num.LdIs m e rr → r = rr
theorem ld_top {m x r : Nat} {e : Int} (h : Num.IsInt m x) (hr : Num.LdIs m e r) : -1074 ≤ e + (x / 4503599627370496 : Nat) - 1023 ∧ e + (x / 4503599627370496 : Nat) - 1023 ≤ 1023 := by
  obtain ⟨hri, a, b, he, heq⟩ := hr
  have hv := h.val
  have hq := h.q
  have ht : x % 4503599627370496 < 4503599627370496 := Nat.mod_lt _ (by decide)
  generalize x % 4503599627370496 = t at *
  generalize x / 4503599627370496 = q at *
  have hM : (2 ^ 52 + t).log2 = 52 := Num.log2_range (by omega) (by omega)
  have h0 : 2 ^ 52 + t ≠ 0 := by omega
  rw [← hv, Nat.mul_assoc, ← Nat.pow_add] at heq
  have hl := congrArg Nat.log2 heq
  have hr0 : rv r ≠ 0 := by
    intro e0
    rw [e0, Nat.zero_mul] at heq
    have := Nat.two_pow_pos (q - 1 + a)
    rcases Nat.mul_eq_zero.1 heq with h | h <;> omega
  rw [Num.log2_mul_pow _ _ h0, hM, Num.log2_mul_pow _ _ hr0] at hl
  have hrl : (rv r).log2 ≤ 52 + 2045 := by
    rw [Num.rv_is]
    have hm0 : Num.mag r ≠ 0 := fun e0 => hr0 (by rw [Num.rv_is, e0, Nat.zero_mul])
    rw [Num.log2_mul_pow _ _ hm0]
    have h1 : (Num.mag r).log2 ≤ 52 := by have := (Nat.log2_lt hm0).2 (Num.mag_lt r); omega
    have h2 : Num.up r ≤ 2045 := by
      have : infR = 2047 * 2 ^ 52 := rfl
      unfold Num.up; split <;> omega
    omega
  omega
set_option maxRecDepth 100000 in
set_option maxHeartbeats 4000000 in
theorem ldexp_any (m x : Nat) (e : Int) (w : World) (h : Num.IsInt m x) (he0 : -9223372036854775808 ≤ e) (he1 : e ≤ 9223372036854775807) : Calls Tryz.prog 90 #[.float .f64 x, .int .i64 e] w (LdPost m e w) := by
  have HP := Lib.hid (fun (r : Nat) (w' : World) (hb : Below w.heap.size w w') (h1 : r < 2 ^ 64) (h2 : ∀ rr, Num.LdIs m e rr → r = rr) => show LdPost m e w (.returned (.float .f64 r)) w' from ⟨hb, r, rfl, h1, h2⟩)
  generalize LdPost m e w = post at *
  have HTOP := Lib.hid (fun (rr : Nat) (hr : Num.LdIs m e rr) => ld_top h hr)
  have HNO := Lib.hid (fun (rr : Nat) (hr : Num.LdIs m e rr) (u : Nat) (hu : (u : Int) = e + (x / 4503599627370496 : Nat)) (h1 : 1 ≤ u) => Num.ld_normal h hr u hu h1)
  have HSM := Lib.hid (fun (rr : Nat) (hr : Num.LdIs m e rr) (u : Nat) (hu : (u : Int) = e + (x / 4503599627370496 : Nat) + 53) (h1 : 1 ≤ u) (h2 : u < 2047) => Num.ld_small h hr u hu h1 h2)
  have e1 := Num.one_is
  have e2 : R53 = 4845873199050653696 := rfl
  have e3 : infR = 2047 * 2 ^ 52 := rfl
  have hx1 := h.lo
  have hx2 := h.hi
  have hq := h.q
  have hx : x < infR := by omega
  have h63 := Num.lt_big hx
  obtain ⟨hs, hr⟩ := Num.pos_bits h63
  have hn : nanB x = false := by unfold Num.nanB; rw [hr]; simp; omega
  have ho := Num.ord_eq x 0
  rw [Num.eq_zero hn, hr, decide_eq_false (by omega)] at ho
  have holt := Num.ord_lt x 0
  rw [Num.lt_zero hn, hs, Bool.false_and] at holt
  have HI := Lib.hid (isInf0_any x w (by omega))
  rw [hr, decide_eq_false (by omega)] at HI
  have HNN := Lib.hid (mathIsNaN_any x w)
  rw [hn] at HNN
  have HNM := Lib.hid (normal_any x w hx1 hx2)
  have HCS := Lib.hid (copysign_any x w h63)
  have HIN := Lib.hid (mathInf_any w)
  have hf := run_frombits
  have ht := run_tobits
  have hfr := Num.frac_bits x h63
  have HT := Lib.hid (Nat.mod_lt x (show 0 < 4503599627370496 by decide))
  have hdiv : (x : Int) / 4503599627370496 = ((x / 4503599627370496 : Nat) : Int) := by omega
  have hand := Num.and_i64 _ hq.1 hq.2
  clear h hx1 hx2 hx h63 hs hr hn e1 e2
  generalize x / 4503599627370496 = q at *
  generalize x % 4503599627370496 = tt at *
  obtain ⟨hq1, hq2⟩ := hq
  by_cases hwrap : 9223372036854775808 ≤ e + ((q : Int) - 1023)
  · have hE : IntKind.i64.wrap (e + ((q : Int) - 1023)) = e + ((q : Int) - 1023) - 18446744073709551616 := by rw [IntKind.wrap_i64]; omega
    have hlow : e + ((q : Int) - 1023) - 18446744073709551616 < -1075 := by omega
    have HQ := Lib.hid (HP.out 0 w (Below.refl _ _) (by decide) (fun rr hr => by have := HTOP.out rr hr; omega))
    clear HTOP HNO HSM HP
    go_enter Tryz.func90, Tryz.ntmps90
    go_wp2_with fail
    refine HI.out.mono ?_
    rintro e w' ⟨rfl, hw⟩
    obtain rfl := hw.symm
    go_wp2_with fail
    refine HNN.out.mono ?_
    rintro e w' ⟨rfl, hw⟩
    obtain rfl := hw.symm
    go_wp2_with fail
    refine HNM.out.mono ?_
    rintro e w' ⟨rfl, hw⟩
    obtain rfl := hw.symm
    go_wp2_with fail
    refine HCS.out.mono ?_
    rintro e w' ⟨rfl, hw⟩
    obtain rfl := hw.symm
    go_wp2
    exact HQ.out
  · by_cases hlow : e + ((q : Int) - 1023) < -1075
    · have HQ := Lib.hid (HP.out 0 w (Below.refl _ _) (by decide) (fun rr hr => by have := HTOP.out rr hr; omega))
      clear HTOP HNO HSM HP
      go_enter Tryz.func90, Tryz.ntmps90
      go_wp2_with fail
      refine HI.out.mono ?_
      rintro e w' ⟨rfl, hw⟩
      obtain rfl := hw.symm
      go_wp2_with fail
      refine HNN.out.mono ?_
      rintro e w' ⟨rfl, hw⟩
      obtain rfl := hw.symm
      go_wp2_with fail
      refine HNM.out.mono ?_
      rintro e w' ⟨rfl, hw⟩
      obtain rfl := hw.symm
      go_wp2_with fail
      refine HCS.out.mono ?_
      rintro e w' ⟨rfl, hw⟩
      obtain rfl := hw.symm
      go_wp2
      exact HQ.out
    · by_cases hhi : 1023 < e + ((q : Int) - 1023)
      · have HQ := Lib.hid (HP.out 9218868437227405312 w (Below.refl _ _) (by decide) (fun rr hr => by have := HTOP.out rr hr; omega))
        clear HTOP HNO HSM HP
        go_enter Tryz.func90, Tryz.ntmps90
        go_wp2_with fail
        refine HI.out.mono ?_
        rintro e w' ⟨rfl, hw⟩
        obtain rfl := hw.symm
        go_wp2_with fail
        refine HNN.out.mono ?_
        rintro e w' ⟨rfl, hw⟩
        obtain rfl := hw.symm
        go_wp2_with fail
        refine HNM.out.mono ?_
        rintro e w' ⟨rfl, hw⟩
        obtain rfl := hw.symm
        go_wp2_with fail
        refine HIN.out.mono ?_
        rintro e w' ⟨rfl, hw⟩
        obtain rfl := hw.symm
        go_wp2
        exact HQ.out
      · by_cases hden : e + ((q : Int) - 1023) < -1022
        · obtain ⟨u, hu⟩ : ∃ u : Nat, (u : Int) = e + (q : Int) + 53 := ⟨(e + (q : Int) + 53).toNat, by omega⟩
          have hu1 : 1 ≤ u := by omega
          have hu2 : u < 2047 := by omega
          have hor := Num.or_exp tt u HT.out hu2
          rw [show ((u * 4503599627370496 : Nat) : Int) = (e + ((q : Int) - 1023) + 53 + 1023) * 4503599627370496 by omega] at hor
          obtain ⟨r, w1, hr1, hb1, hrun⟩ := run_works (P := Tryz.prog) w .mul 25 4368491638549381120 (u * 4503599627370496 + tt) (by simp)
          have HQ := Lib.hid (HP.out r w1 hb1 hr1.1 (fun rr hr => by
            have h1 := HSM.out rr hr u (by omega) hu1 hu2
            rcases hr1.2 with h2 | ⟨h2, _⟩
            · have h3 : some rr = some r := h1.symm.trans h2
              exact (Option.some.inj h3).symm
            · have h3 : some rr = none := h1.symm.trans h2
              cases h3))
          obtain ⟨y, hy⟩ : ∃ y, y = u * 4503599627370496 + tt := ⟨_, rfl⟩
          rw [← hy] at hor hrun
          clear HTOP HNO HSM HP hr1 hb1 hu hu1 hu2 hy
          go_enter Tryz.func90, Tryz.ntmps90
          go_wp2_with fail
          refine HI.out.mono ?_
          rintro e w' ⟨rfl, hw⟩
          obtain rfl := hw.symm
          go_wp2_with fail
          refine HNN.out.mono ?_
          rintro e w' ⟨rfl, hw⟩
          obtain rfl := hw.symm
          go_wp2_with fail
          refine HNM.out.mono ?_
          rintro e w' ⟨rfl, hw⟩
          obtain rfl := hw.symm
          go_wp2
          exact HQ.out
        · obtain ⟨u, hu⟩ : ∃ u : Nat, (u : Int) = e + (q : Int) := ⟨(e + (q : Int)).toNat, by omega⟩
          have hu1 : 1 ≤ u := by omega
          have hu2 : u < 2047 := by omega
          have hor := Num.or_exp tt u HT.out hu2
          have hyl : u * 4503599627370496 + tt < infR := by have := HT.out; omega
          have hrun := fun w => run_float_arith (P := Tryz.prog) w .mul 25 .f64 _ _ _ (Num.mul_one _ hyl)
          have HQ := Lib.hid (HP.out (u * 4503599627370496 + tt) w (Below.refl _ _) (by omega) (fun rr hr => HNO.out rr hr u (by omega) hu1))
          rw [show ((u * 4503599627370496 : Nat) : Int) = (e + ((q : Int) - 1023) + 1023) * 4503599627370496 by omega] at hor
          obtain ⟨y, hy⟩ : ∃ y, y = u * 4503599627370496 + tt := ⟨_, rfl⟩
          rw [← hy] at hor hrun HQ
          clear HTOP HNO HSM HP hu hu1 hu2 hy hyl
          go_enter Tryz.func90, Tryz.ntmps90
          go_wp2_with fail
          refine HI.out.mono ?_
          rintro e w' ⟨rfl, hw⟩
          obtain rfl := hw.symm
          go_wp2_with fail
          refine HNN.out.mono ?_
          rintro e w' ⟨rfl, hw⟩
          obtain rfl := hw.symm
          go_wp2_with fail
          refine HNM.out.mono ?_
          rintro e w' ⟨rfl, hw⟩
          obtain rfl := hw.symm
          go_wp2
          exact HQ.out
end Go.Proofs.YtbmmoclaijoofaaGreatDoor
