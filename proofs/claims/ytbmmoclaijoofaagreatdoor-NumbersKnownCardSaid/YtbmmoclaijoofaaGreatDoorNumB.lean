/- numbers: Compare, Same; the reference's. -/
import Derived.Test.YtbmmoclaijoofaaGreatDoorNumA
import Derived.Laws.FloatArith
set_option linter.unusedVariables false
set_option linter.unusedSimpArgs false
namespace Go.Proofs.YtbmmoclaijoofaaGreatDoor
open Go.RowKit Go.BigFrame
open Num (nanB sg rg sv key eqF ltF cmpI wd infR)

namespace Num
theorem zero_two {x : Nat} (hx : x < 2 ^ 64) (h : rg x = 0) : (x = 0 ∧ sg x = false) ∨ (x = 9223372036854775808 ∧ sg x = true) := by
  have hw := wd_of hx
  rw [h] at hw
  cases hs : sg x
  · rw [hs] at hw; exact .inl ⟨hw.symm, rfl⟩
  · rw [hs] at hw; exact .inr ⟨hw.symm, rfl⟩
theorem div_zero {x : Nat} (hx : x < 2 ^ 64) (h : rg x = 0) : Go.floatBits .quo .f64 4607182418800017408 x = some (wd (sg x) infR) := by
  rcases zero_two hx h with ⟨rfl, _⟩ | ⟨rfl, _⟩ <;> kernel_rfl
theorem cmpI_int (a b : Int) : Lib.compareInt a b = cmpI a b := by unfold Lib.compareInt cmpI; rfl
theorem key_num {x y : Nat} (hx : nanB x = false) (hy : nanB y = false) (h : ¬ (rg x = 0 ∧ rg y = 0)) : fcmp x y = cmpI (key x) (key y) := by
  have h1 := sv_key hx hy h
  have h2 := sv_key hy hx (by omega)
  unfold fcmp cmpI
  simp only [hx, hy, Bool.false_eq_true, if_false, h1, h2]
theorem key_zero {x : Nat} (h : rg x = 0) : key x = if sg x then -1 else 0 := by
  unfold key
  rw [if_neg (by simp [nan_zero h]), h]
  split <;> rfl
theorem fcmp_inf (s t : Bool) : fcmp (wd s infR) (wd t infR) = cmpI (if s then -1 else 0) (if t then -1 else 0) := by
  have h1 := rg_wd s infR_lt
  have h2 := sg_wd s infR_lt
  have h3 := rg_wd t infR_lt
  have h4 := sg_wd t infR_lt
  have n1 : nanB (wd s infR) = false := by unfold nanB; rw [h1]; simp
  have n2 : nanB (wd t infR) = false := by unfold nanB; rw [h3]; simp
  have hp : 0 < rv infR := rv_pos.2 (by decide)
  unfold fcmp sv cmpI
  rw [n1, n2, h1, h2, h3, h4]
  generalize rv infR = v at *
  cases s <;> cases t <;> simp <;> omega
theorem key_nans {x y : Nat} (h : nanB x = true ∨ nanB y = true) : cmpI (if nanB x then 1 else 0) (if nanB y then 1 else 0) = cmpI (key x) (key y) := by
  unfold cmpI
  cases hx : nanB x
  · cases hy : nanB y
    · rcases h with h | h <;> simp_all
    · have := key_lt hx; rw [key_nan hy]; simp; omega
  · cases hy : nanB y
    · have := key_lt hy; rw [key_nan hx]; simp; omega
    · rw [key_nan hx, key_nan hy]; simp
end Num
set_option maxRecDepth 100000 in
set_option maxHeartbeats 800000 in
theorem compare_any (x y : Nat) (w : World) (hx : x < 2 ^ 64) (hy : y < 2 ^ 64) : Calls Tryz.prog 22 #[.float .f64 x, .float .f64 y] w fun e w' => e = .returned (.int .i64 (cmpI (key x) (key y))) ∧ w' = w := by
  have HP := Lib.hid (fun (c : Int) (h : c = cmpI (key x) (key y)) => show Ending.returned (.int .i64 c) = .returned (.int .i64 (cmpI (key x) (key y))) by rw [h])
  have h1 := Num.ord_self x
  have h2 := Num.ord_self y
  by_cases hn : nanB x = true ∨ nanB y = true
  · have HC := Lib.hid (Num.key_nans hn)
    have HO1 := Lib.hid (fun b w => order_any b w)
    have HCI := Lib.hid (fun a b w => Tryz.cmp_Compare_int a b w)
    cases hxn : nanB x
    · have hyn : nanB y = true := by rcases hn with h | h; rw [hxn] at h; cases h; exact h
      rw [hxn] at h1 HC
      rw [hyn] at h2 HC
      clear hn hxn hyn
      go_enter Tryz.func22, Tryz.ntmps22
      go_wp2_with fail
      refine (HO1.out false w).mono ?_
      rintro e w' ⟨rfl, hw⟩
      obtain rfl := hw.symm
      go_wp2_with fail
      refine (HO1.out true w).mono ?_
      rintro e w' ⟨rfl, hw⟩
      obtain rfl := hw.symm
      go_wp2_with fail
      refine (HCI.out 0 1 w).mono ?_
      rintro e w' ⟨rfl, hw⟩
      obtain rfl := hw.symm
      go_wp2
      go_ret
      exact ⟨HP.out _ ((Num.cmpI_int 0 1).trans HC.out), by trivial⟩
    · cases hyn : nanB y
      · rw [hxn] at h1 HC
        rw [hyn] at h2 HC
        clear hn hxn hyn
        go_enter Tryz.func22, Tryz.ntmps22
        go_wp2_with fail
        refine (HO1.out true w).mono ?_
        rintro e w' ⟨rfl, hw⟩
        obtain rfl := hw.symm
        go_wp2_with fail
        refine (HO1.out false w).mono ?_
        rintro e w' ⟨rfl, hw⟩
        obtain rfl := hw.symm
        go_wp2_with fail
        refine (HCI.out 1 0 w).mono ?_
        rintro e w' ⟨rfl, hw⟩
        obtain rfl := hw.symm
        go_wp2
        go_ret
        exact ⟨HP.out _ ((Num.cmpI_int 1 0).trans HC.out), by trivial⟩
      · rw [hxn] at h1 HC
        rw [hyn] at h2 HC
        clear hn hxn hyn
        go_enter Tryz.func22, Tryz.ntmps22
        go_wp2_with fail
        refine (HO1.out true w).mono ?_
        rintro e w' ⟨rfl, hw⟩
        obtain rfl := hw.symm
        go_wp2_with fail
        refine (HO1.out true w).mono ?_
        rintro e w' ⟨rfl, hw⟩
        obtain rfl := hw.symm
        go_wp2_with fail
        refine (HCI.out 1 1 w).mono ?_
        rintro e w' ⟨rfl, hw⟩
        obtain rfl := hw.symm
        go_wp2
        go_ret
        exact ⟨HP.out _ ((Num.cmpI_int 1 1).trans HC.out), by trivial⟩
  · have hxn : nanB x = false := by cases h : nanB x; rfl; exact absurd (.inl h) hn
    have hyn : nanB y = false := by cases h : nanB y; rfl; exact absurd (.inr h) hn
    rw [hxn] at h1
    rw [hyn] at h2
    have h3 := (Num.ord_eq x 0).trans (Num.eq_zero hxn)
    have h4 := (Num.ord_eq y 0).trans (Num.eq_zero hyn)
    by_cases hz : rg x = 0 ∧ rg y = 0
    · rw [decide_eq_true hz.1] at h3
      rw [decide_eq_true hz.2] at h4
      have hq1 := fun w => Go.run_float_arith (P := Tryz.prog) w .quo 25 .f64 _ _ _ (Num.div_zero hx hz.1)
      have hq2 := fun w => Go.run_float_arith (P := Tryz.prog) w .quo 25 .f64 _ _ _ (Num.div_zero hy hz.2)
      have HF := Lib.hid (cmpF_any (wd (sg x) infR) (wd (sg y) infR) w)
      rw [Num.fcmp_inf, ← Num.key_zero hz.1, ← Num.key_zero hz.2] at HF
      clear hn hxn hyn hz
      go_enter Tryz.func22, Tryz.ntmps22
      go_wp2_with fail
      refine HF.out.mono ?_
      rintro e w' ⟨rfl, hw⟩
      obtain rfl := hw.symm
      go_wp2
      go_ret
      exact ⟨HP.out _ rfl, by trivial⟩
    · have HF := Lib.hid (cmpF_any x y w)
      rw [Num.key_num hxn hyn hz] at HF
      by_cases hz1 : rg x = 0
      · have hz2 : ¬ rg y = 0 := fun h => hz ⟨hz1, h⟩
        rw [decide_eq_true hz1] at h3
        rw [decide_eq_false hz2] at h4
        clear hn hxn hyn hz hz1 hz2
        go_enter Tryz.func22, Tryz.ntmps22
        go_wp2_with fail
        refine HF.out.mono ?_
        rintro e w' ⟨rfl, hw⟩
        obtain rfl := hw.symm
        go_wp2
        go_ret
        exact ⟨HP.out _ rfl, by trivial⟩
      · rw [decide_eq_false hz1] at h3
        clear hn hxn hyn hz hz1 h4
        go_enter Tryz.func22, Tryz.ntmps22
        go_wp2_with fail
        refine HF.out.mono ?_
        rintro e w' ⟨rfl, hw⟩
        obtain rfl := hw.symm
        go_wp2
        go_ret
        exact ⟨HP.out _ rfl, by trivial⟩
end Go.Proofs.YtbmmoclaijoofaaGreatDoor
