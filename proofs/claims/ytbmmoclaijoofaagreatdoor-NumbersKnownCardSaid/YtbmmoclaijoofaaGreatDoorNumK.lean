/- numbers: Frexp. -/
import Derived.Test.YtbmmoclaijoofaaGreatDoorNumJ
import Derived.Test.YtbmmoclaijoofaaGreatDoorNumU
set_option linter.unusedVariables false
set_option linter.unusedSimpArgs false
namespace Go.Proofs.YtbmmoclaijoofaaGreatDoor
open Go.RowKit Go.BigFrame
open Num (nanB sg rg rv sv tv key eqF ltF cmpI wd infR R53 P0 wholeR flN)

namespace Num
theorem pos_bits {x : Nat} (h : x < 2 ^ 63) : sg x = false ∧ rg x = x := by
  constructor
  · unfold sg; rw [show x / 2 ^ 63 = 0 by omega]; rfl
  · exact Nat.mod_eq_of_lt h
theorem wd_false (r : Nat) : wd false r = r := rfl
theorem exp_bits (b : Nat) (h : b < infR) : bits .and .u64 ((b : Int) / 4503599627370496) 2047 = ((b / 4503599627370496 : Nat) : Int) := by
  have hi : infR = 2047 * 2 ^ 52 := rfl
  have e : ((b : Int) / 4503599627370496) = ((b / 4503599627370496 : Nat) : Int) := by omega
  rw [e, show (2047 : Int) = ((2047 : Nat) : Int) from rfl, u64_and_nat _ _ (by omega) (by decide), show (2047 : Nat) = 2 ^ 11 - 1 from rfl, Nat.and_two_pow_sub_one_eq_mod]
  congr 1
  omega
theorem frac_bits (b : Nat) (h : b < 2 ^ 63) : bits .andNot .u64 (b : Int) 9218868437227405312 = ((b % 4503599627370496 : Nat) : Int) := by
  rw [show (9218868437227405312 : Int) = ((9218868437227405312 : Nat) : Int) from rfl, u64_andNot_nat b _ (by omega) (by decide)]
  congr 1
  have e : 18446744073709551615 - 9218868437227405312 = 2 ^ 63 ||| (2 ^ 52 - 1) := by decide
  rw [e, Nat.and_or_distrib_left, Nat.and_two_pow_sub_one_eq_mod]
  have h0 : b &&& 2 ^ 63 = 0 := by
    apply Nat.eq_of_testBit_eq
    intro i
    rw [Nat.testBit_and, Nat.testBit_two_pow, Nat.zero_testBit]
    by_cases hi : 63 = i
    · subst hi; rw [Nat.testBit_lt_two_pow h]; rfl
    · simp [hi]
  rw [h0, Nat.zero_or]
theorem set_bits (t : Nat) (h : t < 4503599627370496) : bits .or .u64 (t : Int) 4602678819172646912 = ((partF t : Nat) : Int) := by
  rw [show (4602678819172646912 : Int) = ((4602678819172646912 : Nat) : Int) from rfl, u64_or_nat t _ (by omega) (by decide), Nat.or_comm, show (4602678819172646912 : Nat) = 2 ^ 52 * 1022 by decide, ← Nat.two_pow_add_eq_or_of_lt (by omega : t < 2 ^ 52) 1022]
  unfold partF
  rw [Nat.mul_comm]
end Num
set_option maxRecDepth 100000 in
set_option maxHeartbeats 800000 in
theorem normalize_any (x : Nat) (w : World) (h0 : 0 < x) (hx : x < infR) : Calls Tryz.prog 71 #[.float .f64 x] w fun e w' => (∃ rn s : Nat, e = .returned (.tuple #[.float .f64 rn, .int .i64 (-(s : Int))]) ∧ 2 ^ 52 ≤ rn ∧ rn < infR ∧ rv rn = rv x * 2 ^ s ∧ s ≤ 52) ∧ w' = w := by
  have HP := Lib.hid (fun (rn s : Nat) (i : Int) (hi : i = -(s : Int)) (h1 : 2 ^ 52 ≤ rn) (h2 : rn < infR) (h3 : rv rn = rv x * 2 ^ s) (h4 : s ≤ 52) => show (fun e w' => (∃ rn s : Nat, e = Ending.returned (.tuple #[.float .f64 rn, .int .i64 (-(s : Int))]) ∧ 2 ^ 52 ≤ rn ∧ rn < infR ∧ rv rn = rv x * 2 ^ s ∧ s ≤ 52) ∧ w' = w) (.returned (.tuple #[.float .f64 rn, .int .i64 i])) w from ⟨⟨rn, s, by rw [hi], h1, h2, h3, h4⟩, rfl⟩)
  generalize (fun e w' => (∃ rn s : Nat, e = Ending.returned (.tuple #[.float .f64 rn, .int .i64 (-(s : Int))]) ∧ 2 ^ 52 ≤ rn ∧ rn < infR ∧ rv rn = rv x * 2 ^ s ∧ s ≤ 52) ∧ w' = w) = post at *
  have h63 := Num.lt_big hx
  obtain ⟨hs, hr⟩ := Num.pos_bits h63
  have HA := Lib.hid (abs_any x w (by omega))
  rw [hr] at HA
  have hn : nanB x = false := by unfold Num.nanB; rw [hr]; simp; omega
  have h1 := Num.ord_lt x 4503599627370496
  rw [Num.lt_rung hn (by decide) hs (by decide), hr, show rg 4503599627370496 = 4503599627370496 by decide] at h1
  by_cases hlt : x < 4503599627370496
  · obtain ⟨rn, a1, a2, a3⟩ := Num.norm_is h0 hlt
    have hrv : rv x = x := by unfold Num.rv; rw [if_pos hlt]
    have HQ := Lib.hid (HP.out rn 52 (-52) (by decide) a1 a2 (by rw [a3, hrv]) (by decide))
    have hm : Go.floatBits .mul .f64 x 4841369599423283200 = some rn := by
      have := Num.mul_B52 x rn (by rw [hr]; exact hx) a2 (by rw [hr, hrv, a3])
      rw [hs] at this
      exact this
    have hrun := fun w => run_float_arith (P := Tryz.prog) w .mul 25 .f64 _ _ _ hm
    rw [decide_eq_true hlt] at h1
    clear h0 hx h63 hs hr hn hlt a1 a2 a3 hrv HP hm
    go_enter Tryz.func71, Tryz.ntmps71
    go_wp2_with fail
    refine HA.out.mono ?_
    rintro e w' ⟨rfl, hw⟩
    obtain rfl := hw.symm
    go_wp2
    exact HQ.out
  · have HQ := Lib.hid (HP.out x 0 0 (by decide) (by omega) hx (by rw [Nat.pow_zero, Nat.mul_one]) (by decide))
    rw [decide_eq_false hlt] at h1
    clear h0 hx h63 hs hr hn hlt HP
    go_enter Tryz.func71, Tryz.ntmps71
    go_wp2_with fail
    refine HA.out.mono ?_
    rintro e w' ⟨rfl, hw⟩
    obtain rfl := hw.symm
    go_wp2
    exact HQ.out
/-- What Frexp tells of a number above 0: rn is it made normal, by s. -/
structure Parts (x rn s : Nat) : Prop where
  lo : 2 ^ 52 ≤ rn
  hi : rn < infR
  eq : rv rn = rv x * 2 ^ s
  s52 : s ≤ 52
def FrexpPost (x : Nat) (w : World) (e : Ending) (w' : World) : Prop := (∃ rn s : Nat, e = .returned (.tuple #[.float .f64 (Num.partF (rn % 4503599627370496)), .int .i64 (((rn / 4503599627370496 : Nat) : Int) - 1022 - (s : Int))]) ∧ Parts x rn s) ∧ w' = w
set_option maxRecDepth 100000 in
set_option maxHeartbeats 1600000 in
theorem frexp_any (x : Nat) (w : World) (h0 : 0 < x) (hx : x < infR) : Calls Tryz.prog 56 #[.float .f64 x] w (FrexpPost x w) := by
  have HP := Lib.hid (fun (rn s : Nat) (i : Int) (hi : i = ((rn / 4503599627370496 : Nat) : Int) - 1022 - (s : Int)) (h : Parts x rn s) => show FrexpPost x w (.returned (.tuple #[.float .f64 (Num.partF (rn % 4503599627370496)), .int .i64 i])) w from ⟨⟨rn, s, by rw [hi], h⟩, rfl⟩)
  generalize FrexpPost x w = post at *
  have h63 := Num.lt_big hx
  obtain ⟨hs, hr⟩ := Num.pos_bits h63
  have hn : nanB x = false := by unfold Num.nanB; rw [hr]; simp; omega
  have h1 := Num.ord_eq x 0
  rw [Num.eq_zero hn, hr, decide_eq_false (by omega)] at h1
  have HI := Lib.hid (isInf0_any x w (by omega))
  rw [hr, decide_eq_false (by omega)] at HI
  have HNN := Lib.hid (mathIsNaN_any x w)
  rw [hn] at HNN
  have HNM := Lib.hid (normalize_any x w h0 hx)
  have hf := run_frombits
  have ht := run_tobits
  clear h0 hx h63 hs hr hn
  go_enter Tryz.func56, Tryz.ntmps56
  go_wp2_with fail
  refine HI.out.mono ?_
  rintro e w' ⟨rfl, hw⟩
  obtain rfl := hw.symm
  go_wp2_with fail
  refine HNN.out.mono ?_
  rintro e w' ⟨rfl, hw⟩
  obtain rfl := hw.symm
  go_wp2_with fail
  refine HNM.out.mono ?_
  rintro e w' ⟨⟨rn, s, rfl, a1, a2, a3, a4⟩, hw⟩
  obtain rfl := hw.symm
  have HQ := Lib.hid (fun i hi => HP.out rn s i hi ⟨a1, a2, a3, a4⟩)
  have e1 := Num.exp_bits rn a2
  have e2 := Num.frac_bits rn (Num.lt_big a2)
  have e3 := Num.set_bits (rn % 4503599627370496) (Nat.mod_lt _ (by decide))
  have hq : rn / 4503599627370496 < 2047 := by have : infR = 2047 * 2 ^ 52 := rfl; omega
  clear a1 a2 a3 HP
  generalize rn / 4503599627370496 = q at *
  generalize rn % 4503599627370496 = t at *
  go_wp2
  exact HQ.out (-(s : Int) + ((q : Int) - 1023 + 1)) (by omega)
theorem Frexp_any (x : Nat) (w : World) (h0 : 0 < x) (hx : x < infR) : Calls Tryz.prog 34 #[.float .f64 x] w (FrexpPost x w) := by
  have HP := Lib.hid (fun (rn s : Nat) (h : Parts x rn s) => show FrexpPost x w (.returned (.tuple #[.float .f64 (Num.partF (rn % 4503599627370496)), .int .i64 (((rn / 4503599627370496 : Nat) : Int) - 1022 - (s : Int))])) w from ⟨⟨rn, s, rfl, h⟩, rfl⟩)
  have HF := Lib.hid (frexp_any x w h0 hx)
  unfold FrexpPost at HF
  generalize FrexpPost x w = post at *
  clear h0 hx
  go_enter Tryz.func34, Tryz.ntmps34
  go_wp2_with fail
  refine HF.out.mono ?_
  rintro e w' ⟨⟨rn, s, rfl, hp⟩, hw⟩
  obtain rfl := hw.symm
  have HQ := Lib.hid (HP.out rn s hp)
  clear hp HP
  generalize ((rn / 4503599627370496 : Nat) : Int) - 1022 - (s : Int) = i at *
  go_wp2
  exact HQ.out
end Go.Proofs.YtbmmoclaijoofaaGreatDoor
