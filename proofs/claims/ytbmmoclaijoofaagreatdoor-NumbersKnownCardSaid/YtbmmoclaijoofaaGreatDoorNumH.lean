/- numbers: Whole, Down; the reference's. -/
import Derived.Test.YtbmmoclaijoofaaGreatDoorNumG
set_option linter.unusedVariables false
set_option linter.unusedSimpArgs false
namespace Go.Proofs.YtbmmoclaijoofaaGreatDoor
open Go.RowKit Go.BigFrame
open Num (nanB sg rg rv sv tv key eqF ltF cmpI wd infR R53 P0 wholeR flN)

namespace Num
theorem nan_not {r : Nat} (s : Bool) (h : r < infR) : nanB (wd s r) = false := by
  have : infR = 2047 * 2 ^ 52 := rfl
  unfold nanB; rw [rg_wd s (by omega)]; simp; omega
theorem eq_sign {a b : Nat} (ha : nanB a = false) (hb : nanB b = false) (h : sg a = sg b) : eqF a b = decide (rg a = rg b) := by
  rw [eqF_num ha hb, decide_eq_decide]
  unfold sv
  rw [h]
  have := rv_inj (r := rg a) (s := rg b)
  cases sg b <;> simp <;> omega
theorem R53_is : (4845873199050653696 : Nat) = R53 := rfl
theorem nan_R53 : nanB R53 = false := by decide
theorem sg_R53 : sg R53 = false := by decide
theorem rg_R53 : rg R53 = R53 := by decide
theorem below_53 {x : Nat} (hs : sg x = false) : ltF x R53 = decide (rg x < R53) := by
  cases hn : nanB x
  · rw [lt_rung hn nan_R53 hs sg_R53, rg_R53]
  · rw [lt_nan hn]
    unfold nanB at hn
    rw [decide_eq_true_eq] at hn
    have : R53 < infR := R53_lt
    symm; simp; omega
theorem inf_is : infR < 2 ^ 63 := infR_lt
end Num
/-- A whole number's value. -/
def valI (s : Bool) (n : Nat) : Int := if s then -(n : Int) else (n : Int)
set_option maxRecDepth 100000 in
set_option maxHeartbeats 400000 in
theorem trunc_any (x rt : Nat) (w : World) (hn : nanB x = false) (hx : rg x < infR) (hr : rt < infR) (hv : rv rt = tv (rg x) * P0) : Calls Tryz.prog 43 #[.float .f64 x] w fun e w' => e = .returned (.float .f64 (wd (sg x) rt)) ∧ w' = w := by
  have ha := fun w => run_archTrunc x w hn
  rw [Num.trunc_num x hx, Num.write_int _ _ rt hr hv] at ha
  clear hn hx hr hv
  go_enter Tryz.func43, Tryz.ntmps43
  go_wp2
  go_ret
  exact ⟨rfl, by trivial⟩
set_option maxRecDepth 100000 in
set_option maxHeartbeats 400000 in
theorem floor_any (x rt : Nat) (w : World) (hn : nanB x = false) (hx : rg x < infR) (hr : rt < infR) (hv : rv rt = flN (sg x) (rg x) * P0) : Calls Tryz.prog 44 #[.float .f64 x] w fun e w' => e = .returned (.float .f64 (wd (sg x) rt)) ∧ w' = w := by
  have ha := fun w => run_archFloor x w hn
  rw [Num.floor_num x hx, Num.write_int _ _ rt hr hv] at ha
  clear hn hx hr hv
  go_enter Tryz.func44, Tryz.ntmps44
  go_wp2
  go_ret
  exact ⟨rfl, by trivial⟩
/-- What Whole answers. -/
def wholeI (x : Nat) : Int := if wholeR (rg x) then valI (sg x) (tv (rg x)) else 0
theorem wholeR_no {r : Nat} (h : ¬ r < R53) : wholeR r = false := by rw [Num.wholeR_is, decide_eq_false h, Bool.and_false]
theorem wholeR_lt {r : Nat} (h : r < R53) : wholeR r = decide (rv r = tv r * P0) := by rw [Num.wholeR_is, decide_eq_true h, Bool.and_true]
theorem int_of (x : Nat) (h : rg x < R53) (w : World) : (convert 25 3 (.float .f64 x)).run Tryz.prog w = .ok (.int .i64 (valI (sg x) (tv (rg x)))) w := by
  have h1 : rg x < infR := by have := Num.R53_lt; omega
  have h2 := Num.rung_53.1 h
  exact run_convert_float_int w 25 3 .f64 .i64 x _ (by kernel_rfl) Tryz.underlying3 (Num.float_int x h1 (by omega))
set_option maxRecDepth 100000 in
set_option maxHeartbeats 1600000 in
theorem whole_any (x : Nat) (w : World) (hx : x < 2 ^ 64) : Calls Tryz.prog 17 #[.float .f64 x] w fun e w' => e = .returned (.tuple #[.int .i64 (wholeI x), .bool (wholeR (rg x))]) ∧ w' = w := by
  have HP := Lib.hid (fun (i : Int) (b : Bool) (h1 : i = wholeI x) (h2 : b = wholeR (rg x)) => show (fun e w' => e = Ending.returned (.tuple #[.int .i64 (wholeI x), .bool (wholeR (rg x))]) ∧ w' = w) (.returned (.tuple #[.int .i64 i, .bool b])) w from ⟨by rw [h1, h2], rfl⟩)
  generalize (fun e w' => e = Ending.returned (.tuple #[.int .i64 (wholeI x), .bool (wholeR (rg x))]) ∧ w' = w) = post at *
  have HA := Lib.hid (abs_any x w hx)
  have h1 := (Num.ord_lt (rg x) R53).trans (Num.below_53 (Num.sg_rg x))
  rw [Num.rg_rg, ← Num.R53_is] at h1
  by_cases hlt : rg x < R53
  · have hinf : rg x < infR := by have := Num.R53_lt; omega
    have hn : nanB x = false := by unfold Num.nanB; simp; omega
    have htv := Num.rung_53.1 hlt
    obtain ⟨rt, hr1, _, hr2⟩ := Num.int_rung (tv (rg x)) (by omega)
    have HT := Lib.hid (trunc_any x rt w hn hinf hr1 hr2)
    have hs63 : rt < 2 ^ 63 := by have := Num.infR_lt; omega
    have h2 := (Num.ord_eq (wd (sg x) rt) x).trans (Num.eq_sign (Num.nan_not _ hr1) hn (Num.sg_wd _ hs63))
    rw [Num.rg_wd _ hs63] at h2
    have hW := wholeR_lt hlt
    have hc := fun w => int_of x hlt w
    have he : decide (rt = rg x) = wholeR (rg x) := by
      rw [hW, decide_eq_decide, ← hr2, Num.rv_inj]
      exact ⟨fun h => h.symm, fun h => h.symm⟩
    rw [he] at h2
    rw [show decide (rg x < 4845873199050653696) = true from decide_eq_true hlt] at h1
    cases hwr : wholeR (rg x)
    · have HQ := Lib.hid (HP.out 0 false (by unfold wholeI; rw [hwr]; rfl) hwr.symm)
      rw [hwr] at h2
      clear hlt hinf hn htv hr1 hr2 hs63 hW he hwr HP hx hc
      go_enter Tryz.func17, Tryz.ntmps17
      go_wp2_with fail
      refine HA.out.mono ?_
      rintro e w' ⟨rfl, hw⟩
      obtain rfl := hw.symm
      go_wp2_with fail
      refine HT.out.mono ?_
      rintro e w' ⟨rfl, hw⟩
      obtain rfl := hw.symm
      go_wp2
      exact HQ.out
    · have HQ := Lib.hid (HP.out (valI (sg x) (tv (rg x))) true (by unfold wholeI; rw [hwr]; rfl) hwr.symm)
      rw [hwr] at h2
      clear hlt hinf hn htv hr1 hr2 hs63 hW he hwr HP hx
      go_enter Tryz.func17, Tryz.ntmps17
      go_wp2_with fail
      refine HA.out.mono ?_
      rintro e w' ⟨rfl, hw⟩
      obtain rfl := hw.symm
      go_wp2_with fail
      refine HT.out.mono ?_
      rintro e w' ⟨rfl, hw⟩
      obtain rfl := hw.symm
      go_wp2
      exact HQ.out
  · have hW := wholeR_no hlt
    have HQ := Lib.hid (HP.out 0 false (by unfold wholeI; rw [hW]; rfl) hW.symm)
    rw [show decide (rg x < 4845873199050653696) = false from decide_eq_false hlt] at h1
    clear hlt hW HP hx
    go_enter Tryz.func17, Tryz.ntmps17
    go_wp2_with fail
    refine HA.out.mono ?_
    rintro e w' ⟨rfl, hw⟩
    obtain rfl := hw.symm
    go_wp2
    exact HQ.out
theorem big_any (w : World) : Calls Tryz.prog 45 #[] w fun e w' => e = .returned (.float .f64 4845873199050653696) ∧ w' = w := by
  go_enter Tryz.func45, Tryz.ntmps45
  go_wp2
  go_ret
  exact ⟨rfl, by trivial⟩
namespace Num
theorem cmp_ge (x y : Nat) : (Go.FloatKind.f64.format.order x y == some .gt || Go.FloatKind.f64.format.order x y == some .eq) = (ltF y x || eqF x y) := by rw [ord_gt, ord_eq]
theorem ge_53 {x : Nat} (hn : nanB x = false) (hs : sg x = false) : (ltF R53 x || eqF x R53) = decide (R53 ≤ rg x) := by
  rw [lt_rung nan_R53 hn sg_R53 hs, eq_sign hn nan_R53 (by rw [hs, sg_R53]), rg_R53]
  by_cases h : R53 ≤ rg x
  · rw [decide_eq_true h]
    rcases Nat.lt_or_ge R53 (rg x) with h1 | h1
    · rw [decide_eq_true h1]; rfl
    · rw [decide_eq_false (by omega), decide_eq_true (by omega)]; rfl
  · rw [decide_eq_false h, decide_eq_false (by omega), decide_eq_false (by omega)]; rfl
end Num
theorem float_of (n : Int) (r : Nat) (hr : r < infR) (h : rv r = n.natAbs * P0) (w : World) : (convert 3 25 (.int .i64 n)).run Tryz.prog w = .ok (.float .f64 (wd (decide (n < 0)) r)) w := by
  rw [run_convert_int_float w 3 25 .i64 .f64 n (by kernel_rfl) Tryz.underlying25, Num.int_float n r hr h]
set_option maxRecDepth 100000 in
set_option maxHeartbeats 1600000 in
theorem refwhole_any (x : Nat) (w : World) (hn : nanB x = false) (hs : sg x = false) : Calls Tryz.prog 39 #[.float .f64 x] w fun e w' => e = .returned (.tuple #[.int .i64 (wholeI x), .bool (wholeR (rg x))]) ∧ w' = w := by
  have HP := Lib.hid (fun (i : Int) (b : Bool) (h1 : i = wholeI x) (h2 : b = wholeR (rg x)) => show (fun e w' => e = Ending.returned (.tuple #[.int .i64 (wholeI x), .bool (wholeR (rg x))]) ∧ w' = w) (.returned (.tuple #[.int .i64 i, .bool b])) w from ⟨by rw [h1, h2], rfl⟩)
  generalize (fun e w' => e = Ending.returned (.tuple #[.int .i64 (wholeI x), .bool (wholeR (rg x))]) ∧ w' = w) = post at *
  have HBG := Lib.hid (big_any w)
  have h1 := (Num.cmp_ge x R53).trans (Num.ge_53 hn hs)
  rw [← Num.R53_is] at h1
  by_cases hlt : rg x < R53
  · have htv := Num.rung_53.1 hlt
    obtain ⟨rt, hr1, _, hr2⟩ := Num.int_rung (tv (rg x)) (by omega)
    have hc := fun w => int_of x hlt w
    have hvi : valI (sg x) (tv (rg x)) = (tv (rg x) : Int) := by unfold valI; rw [hs]; rfl
    rw [hvi] at hc
    have hf := fun w => float_of (tv (rg x) : Int) rt hr1 (by rw [hr2]; rfl) w
    rw [show decide ((tv (rg x) : Int) < 0) = false by simp] at hf
    have hs63 : rt < 2 ^ 63 := by have := Num.infR_lt; omega
    have h2 := (Num.ord_ne (wd false rt) x)
    rw [Num.eq_sign (Num.nan_not _ hr1) hn (by rw [Num.sg_wd _ hs63, hs]), Num.rg_wd _ hs63] at h2
    have he : decide (rt = rg x) = wholeR (rg x) := by
      rw [wholeR_lt hlt, decide_eq_decide, ← hr2, Num.rv_inj]
      exact ⟨fun h => h.symm, fun h => h.symm⟩
    rw [he] at h2
    rw [show decide (4845873199050653696 ≤ rg x) = false from decide_eq_false (by have := Num.R53_is; omega)] at h1
    cases hwr : wholeR (rg x)
    · have HQ := Lib.hid (HP.out 0 false (by unfold wholeI; rw [hwr]; rfl) hwr.symm)
      rw [hwr] at h2
      clear hlt hn htv hr1 hr2 hs63 he hwr HP hvi hs
      generalize wd false rt = y at *
      generalize tv (rg x) = n at *
      go_enter Tryz.func39, Tryz.ntmps39
      go_wp2_with fail
      refine HBG.out.mono ?_
      rintro e w' ⟨rfl, hw⟩
      obtain rfl := hw.symm
      go_wp2
      exact HQ.out
    · have HQ := Lib.hid (HP.out (tv (rg x) : Int) true (by unfold wholeI; rw [hwr, hvi]; rfl) hwr.symm)
      rw [hwr] at h2
      clear hlt hn htv hr1 hr2 hs63 he hwr HP hvi hs
      generalize wd false rt = y at *
      generalize tv (rg x) = n at *
      go_enter Tryz.func39, Tryz.ntmps39
      go_wp2_with fail
      refine HBG.out.mono ?_
      rintro e w' ⟨rfl, hw⟩
      obtain rfl := hw.symm
      go_wp2
      exact HQ.out
  · have hW := wholeR_no hlt
    have HQ := Lib.hid (HP.out 0 false (by unfold wholeI; rw [hW]; rfl) hW.symm)
    rw [show decide (4845873199050653696 ≤ rg x) = true from decide_eq_true (by have := Num.R53_is; omega)] at h1
    clear hlt hW HP hn hs
    go_enter Tryz.func39, Tryz.ntmps39
    go_wp2_with fail
    refine HBG.out.mono ?_
    rintro e w' ⟨rfl, hw⟩
    obtain rfl := hw.symm
    go_wp2
    exact HQ.out
end Go.Proofs.YtbmmoclaijoofaaGreatDoor
