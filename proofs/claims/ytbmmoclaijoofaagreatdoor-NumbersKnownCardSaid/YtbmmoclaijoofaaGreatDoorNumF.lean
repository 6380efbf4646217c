/- numbers: functions without a body; math's small ones. -/
import Derived.Test.YtbmmoclaijoofaaGreatDoorNumE
import Derived.Laws.Externs
set_option linter.unusedVariables false
set_option linter.unusedSimpArgs false
namespace Go.Proofs.YtbmmoclaijoofaaGreatDoor
open Go.RowKit Go.BigFrame
open Num (nanB sg rg sv key eqF ltF cmpI wd infR)

theorem run_frombits (n : Int) (w : World) : (callFunc 59 #[.int .u64 n]).run Tryz.prog w = .ok (.value (.float .f64 n.toNat)) w := by
  rw [run_callFunc_extern (e := Extern.MathFloatBits.float64frombits) Tryz.func59 (by kernel_rfl) (by kernel_rfl) (by kernel_rfl) (by kernel_rfl)]
  rfl
theorem run_tobits (b : Nat) (w : World) : (callFunc 60 #[.float .f64 b]).run Tryz.prog w = .ok (.value (.int .u64 (b : Int))) w := by
  rw [run_callFunc_extern (e := Extern.MathFloatBits.float64bits) Tryz.func60 (by kernel_rfl) (by kernel_rfl) (by kernel_rfl) (by kernel_rfl)]
  rfl
theorem num_nan {b : Nat} (h : nanB b = false) : (Ieee.double.read b).isNaN = false := by
  unfold Num.nanB at h
  rw [decide_eq_false_iff_not] at h
  rcases Nat.lt_or_ge (rg b) infR with h1 | h1
  · rw [Num.read_num b h1]; rfl
  · rw [Num.read_inf b (by omega)]; rfl
section
attribute [local irreducible] Go.FloatKind.decode
theorem toI_dec {P : Program} (name : String) (way : Ieee.Toward) (b : Nat) (w : World) (h : (FloatKind.f64.decode b).isNaN = false) : (Extern.MathFloor.toIntegral name way #[.float .f64 b]).run P w = .ok (.float .f64 (FloatKind.f64.encode ((FloatKind.f64.decode b).integral way))) w := by
  conv => lhs; arg 2; whnf
  generalize FloatKind.f64.decode b = d at *
  cases d with
  | nan s t => cases h
  | infinity s => rfl
  | number s m i => rfl
end
theorem toI_num {P : Program} (name : String) (way : Ieee.Toward) (b : Nat) (w : World) (h : (Ieee.double.read b).isNaN = false) : (Extern.MathFloor.toIntegral name way #[.float .f64 b]).run P w = .ok (.float .f64 (Ieee.double.write ((Ieee.double.read b).integral way))) w := toI_dec name way b w h
theorem run_archTrunc (b : Nat) (w : World) (h : nanB b = false) : (callFunc 61 #[.float .f64 b]).run Tryz.prog w = .ok (.value (.float .f64 (Ieee.double.write ((Ieee.double.read b).integral .zero)))) w := by
  rw [run_callFunc_extern (e := Extern.MathFloor.toIntegral "math.archTrunc" .zero) Tryz.func61 (by kernel_rfl) (by kernel_rfl) (by kernel_rfl) (by kernel_rfl)]
  rw [toI_num _ _ _ _ (num_nan h)]
  rfl
theorem run_archFloor (b : Nat) (w : World) (h : nanB b = false) : (callFunc 63 #[.float .f64 b]).run Tryz.prog w = .ok (.value (.float .f64 (Ieee.double.write ((Ieee.double.read b).integral .down)))) w := by
  rw [run_callFunc_extern (e := Extern.MathFloor.toIntegral "math.archFloor" .down) Tryz.func63 (by kernel_rfl) (by kernel_rfl) (by kernel_rfl) (by kernel_rfl)]
  rw [toI_num _ _ _ _ (num_nan h)]
  rfl
theorem mathNaN_any (w : World) : Calls Tryz.prog 51 #[] w fun e w' => e = .returned (.float .f64 9221120237041090561) ∧ w' = w := by
  have hf := run_frombits 9221120237041090561
  go_enter Tryz.func51, Tryz.ntmps51
  go_wp2
  go_ret
  exact ⟨rfl, by trivial⟩
theorem mathInf_any (w : World) : Calls Tryz.prog 73 #[.int .i64 1] w fun e w' => e = .returned (.float .f64 9218868437227405312) ∧ w' = w := by
  have hf := run_frombits 9218868437227405312
  go_enter Tryz.func73, Tryz.ntmps73
  go_wp2
  go_ret
  exact ⟨rfl, by trivial⟩
theorem mathIsNaN_any (x : Nat) (w : World) : Calls Tryz.prog 70 #[.float .f64 x] w fun e w' => e = .returned (.bool (nanB x)) ∧ w' = w := by
  have h := Num.ord_self x
  go_enter Tryz.func70, Tryz.ntmps70
  go_wp2
  go_ret
  exact ⟨by first | rfl | rw [h], by trivial⟩
theorem u64_andNot_nat (x y : Nat) (hx : x < 18446744073709551616) (hy : y < 18446744073709551616) : bits .andNot .u64 (x : Int) (y : Int) = ((x &&& (18446744073709551615 - y) : Nat) : Int) := by
  have hm : (18446744073709551615 - y) < 18446744073709551616 := by omega
  rw [← u64_and_nat x (18446744073709551615 - y) hx hm]
  unfold bits
  have e : BitVec.ofInt IntKind.u64.bits ((18446744073709551615 - y : Nat) : Int) = ~~~ BitVec.ofInt IntKind.u64.bits (y : Int) := by
    apply BitVec.eq_of_toNat_eq
    have hb : IntKind.u64.bits = 64 := rfl
    rw [hb, BitVec.toNat_not, BitVec.toNat_ofInt, BitVec.toNat_ofInt]
    omega
  rw [e]
theorem abs_bits (x : Nat) (hx : x < 2 ^ 64) : bits .andNot .u64 (x : Int) 9223372036854775808 = (rg x : Int) := by
  rw [show (9223372036854775808 : Int) = ((9223372036854775808 : Nat) : Int) from rfl, u64_andNot_nat x _ hx (by decide)]
  unfold Num.rg
  rw [show 18446744073709551615 - 9223372036854775808 = 2 ^ 63 - 1 by decide, Nat.and_two_pow_sub_one_eq_mod]
set_option maxRecDepth 100000 in
set_option maxHeartbeats 400000 in
theorem abs_any (x : Nat) (w : World) (hx : x < 2 ^ 64) : Calls Tryz.prog 42 #[.float .f64 x] w fun e w' => e = .returned (.float .f64 (rg x)) ∧ w' = w := by
  have hf := run_frombits
  have ht := run_tobits
  have hb := abs_bits x hx
  go_enter Tryz.func42, Tryz.ntmps42
  go_wp2
  go_ret
  refine ⟨?_, by trivial⟩
  first
  | rfl
  | (simp only [hb]; rfl)
namespace Num
theorem max_float : (9218868437227405311 : Nat) = infR - 1 := by decide
theorem nan_rg (x : Nat) : nanB (rg x) = nanB x := by unfold nanB; rw [show rg (rg x) = rg x from Nat.mod_eq_of_lt (rg_lt x)]
theorem sg_rg (x : Nat) : sg (rg x) = false := by
  have := rg_lt x
  unfold sg
  rw [show rg x / 2 ^ 63 = 0 by omega]; rfl
theorem rg_rg (x : Nat) : rg (rg x) = rg x := Nat.mod_eq_of_lt (rg_lt x)
/-- What stands against a rung's number. -/
theorem lt_rung {x y : Nat} (hx : nanB x = false) (hy : nanB y = false) (sx : sg x = false) (sy : sg y = false) : ltF x y = decide (rg x < rg y) := by
  rw [ltF_num hx hy, decide_eq_decide]
  unfold sv
  simp only [sx, sy, Bool.false_eq_true, if_false]
  have := rv_lt (r := rg x) (s := rg y)
  omega
theorem inf_above (x : Nat) (hs : sg x = false) : ltF 9218868437227405311 x = (!nanB x && decide (rg x = infR)) := by
  cases hn : nanB x
  · rw [lt_rung (by decide) hn (by decide) hs]
    unfold nanB at hn
    rw [decide_eq_false_iff_not] at hn
    rw [show rg 9218868437227405311 = infR - 1 by decide]
    have : infR = 2047 * 2 ^ 52 := rfl
    simp
    omega
  · rw [lt_nan2 hn]; simp
end Num
set_option maxRecDepth 100000 in
set_option maxHeartbeats 400000 in
theorem isInf0_any (x : Nat) (w : World) (hx : x < 2 ^ 64) : Calls Tryz.prog 32 #[.float .f64 x, .int .i64 0] w fun e w' => e = .returned (.bool (decide (rg x = infR))) ∧ w' = w := by
  have HP := Lib.hid (fun (b : Bool) (h : b = decide (rg x = infR)) => show Ending.returned (.bool b) = .returned (.bool (decide (rg x = infR))) by rw [h])
  have HA := Lib.hid (abs_any x w hx)
  have HC := Lib.hid (show (Go.FloatKind.f64.format.order (rg x) 9218868437227405311 == some .gt) = decide (rg x = infR) by
    rw [Num.ord_gt, Num.inf_above _ (Num.sg_rg x), Num.nan_rg, Num.rg_rg]
    cases hn : nanB x
    · rfl
    · unfold Num.nanB at hn; rw [decide_eq_true_eq] at hn
      simp; omega)
  generalize rg x = r at *
  clear hx
  go_enter Tryz.func32, Tryz.ntmps32
  go_wp2_with fail
  refine HA.out.mono ?_
  rintro e w' ⟨rfl, hw⟩
  obtain rfl := hw.symm
  go_wp2
  go_ret
  exact ⟨HP.out _ HC.out, by trivial⟩
set_option maxRecDepth 100000 in
set_option maxHeartbeats 400000 in
theorem isInf1_any (x : Nat) (w : World) (hs : sg x = false) : Calls Tryz.prog 32 #[.float .f64 x, .int .i64 1] w fun e w' => e = .returned (.bool (!nanB x && decide (rg x = infR))) ∧ w' = w := by
  have HP := Lib.hid (fun (b : Bool) (h : b = (!nanB x && decide (rg x = infR))) => show Ending.returned (.bool b) = .returned (.bool (!nanB x && decide (rg x = infR))) by rw [h])
  have HC := Lib.hid (show (Go.FloatKind.f64.format.order x 9218868437227405311 == some .gt) = (!nanB x && decide (rg x = infR)) by
    rw [Num.ord_gt, Num.inf_above _ hs])
  generalize (!nanB x && decide (rg x = infR)) = b at *
  clear hs
  go_enter Tryz.func32, Tryz.ntmps32
  go_wp2
  go_ret
  exact ⟨HP.out _ HC.out, by trivial⟩
end Go.Proofs.YtbmmoclaijoofaaGreatDoor
