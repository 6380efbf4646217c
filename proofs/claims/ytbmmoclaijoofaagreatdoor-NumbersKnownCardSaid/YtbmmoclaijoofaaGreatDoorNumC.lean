/- numbers: the sign, Same, the reference's Compare. -/
import Derived.Test.YtbmmoclaijoofaaGreatDoorNumB
set_option linter.unusedVariables false
set_option linter.unusedSimpArgs false
namespace Go.Proofs.YtbmmoclaijoofaaGreatDoor
open Go.RowKit Go.BigFrame
open Num (nanB sg rg sv key eqF ltF cmpI wd infR)

namespace Num
/-- Is a number below 0, or -0? -/
def minusB (x : Nat) : Bool := !nanB x && sg x
theorem lt_nan {x y : Nat} (h : nanB x = true) : ltF x y = false := by unfold ltF; rw [h]; rfl
theorem lt_nan2 {x y : Nat} (h : nanB y = true) : ltF x y = false := by unfold ltF; rw [h]; simp
theorem eq_nan {x y : Nat} (h : nanB x = true) : eqF x y = false := by unfold eqF; rw [h]; rfl
theorem inf_lt (s : Bool) : ltF (wd s infR) 0 = s := by
  have h1 := rg_wd s infR_lt
  have h2 := sg_wd s infR_lt
  have n1 : nanB (wd s infR) = false := by unfold nanB; rw [h1]; simp
  rw [lt_zero n1, h1, h2]
  cases s <;> rfl
theorem eq_case {x y : Nat} (hx : nanB x = false) (hy : nanB y = false) (h : sv x = sv y) : cmpI (key x) (key y) = if sg x == sg y then 0 else if sg x then -1 else 1 := by
  by_cases hz : rg x = 0 ∧ rg y = 0
  · rw [key_zero hz.1, key_zero hz.2]
    unfold cmpI
    cases sg x <;> cases sg y <;> rfl
  · have h1 := sv_key hx hy hz
    have h2 := sv_key hy hx (by omega)
    have hk : key x = key y := by omega
    have hs : sg x = sg y := by
      unfold key at hk
      simp only [hx, hy, Bool.false_eq_true, if_false] at hk
      cases h3 : sg x <;> cases h4 : sg y <;> simp [h3, h4] at hk ⊢ <;> omega
    rw [hk, hs]
    unfold cmpI
    simp
end Num
set_option maxRecDepth 100000 in
set_option maxHeartbeats 400000 in
theorem below_any (x : Nat) (w : World) (hx : x < 2 ^ 64) : Calls Tryz.prog 31 #[.float .f64 x] w fun e w' => e = .returned (.bool (Num.minusB x)) ∧ w' = w := by
  have HP := Lib.hid (fun (b : Bool) (h : Num.minusB x = b) => show Ending.returned (.bool b) = .returned (.bool (Num.minusB x)) by rw [h])
  have h1 := Num.ord_lt x 0
  have h2 := Num.ord_eq x 0
  cases hn : nanB x
  · rw [Num.lt_zero hn] at h1
    rw [Num.eq_zero hn] at h2
    by_cases hz : rg x = 0
    · have HC := Lib.hid (show Num.minusB x = sg x by unfold Num.minusB; rw [hn]; rfl)
      have hq := fun w => Go.run_float_arith (P := Tryz.prog) w .quo 25 .f64 _ _ _ (Num.div_zero hx hz)
      have h3 := (Num.ord_lt (wd (sg x) infR) 0).trans (Num.inf_lt (sg x))
      rw [decide_eq_true hz] at h2
      rw [show decide (rg x ≠ 0) = false by simpa using hz, Bool.and_false] at h1
      clear hn hz
      go_enter Tryz.func31, Tryz.ntmps31
      go_wp2
      go_ret
      exact ⟨HP.out _ (by first | exact HC.out | (rw [h3]; exact HC.out)), by trivial⟩
    · have HC := Lib.hid (show Num.minusB x = sg x by unfold Num.minusB; rw [hn]; rfl)
      rw [decide_eq_false hz] at h2
      rw [show decide (rg x ≠ 0) = true by simpa using hz, Bool.and_true] at h1
      clear hn hz
      cases hs : sg x
      · rw [hs] at h1 HC
        clear hs
        go_enter Tryz.func31, Tryz.ntmps31
        go_wp2
        go_ret
        exact ⟨HP.out _ HC.out, by trivial⟩
      · rw [hs] at h1 HC
        clear hs
        go_enter Tryz.func31, Tryz.ntmps31
        go_wp2
        go_ret
        exact ⟨HP.out _ HC.out, by trivial⟩
  · have HC := Lib.hid (show Num.minusB x = false by unfold Num.minusB; rw [hn]; rfl)
    rw [Num.lt_nan hn] at h1
    rw [Num.eq_nan hn] at h2
    clear hn
    go_enter Tryz.func31, Tryz.ntmps31
    go_wp2
    go_ret
    exact ⟨HP.out _ HC.out, by trivial⟩
set_option maxRecDepth 100000 in
set_option maxHeartbeats 400000 in
theorem minus_any (x : Nat) (w : World) (hx : x < 2 ^ 64) : Calls Tryz.prog 37 #[.float .f64 x] w fun e w' => e = .returned (.bool (Num.minusB x)) ∧ w' = w := by
  have HP := Lib.hid (fun (b : Bool) (h : Num.minusB x = b) => show Ending.returned (.bool b) = .returned (.bool (Num.minusB x)) by rw [h])
  have h1 := Num.ord_lt x 0
  have h2 := Num.ord_eq x 0
  cases hn : nanB x
  · rw [Num.lt_zero hn] at h1
    rw [Num.eq_zero hn] at h2
    by_cases hz : rg x = 0
    · have HC := Lib.hid (show Num.minusB x = sg x by unfold Num.minusB; rw [hn]; rfl)
      have hq := fun w => Go.run_float_arith (P := Tryz.prog) w .quo 25 .f64 _ _ _ (Num.div_zero hx hz)
      have h3 := (Num.ord_lt (wd (sg x) infR) 0).trans (Num.inf_lt (sg x))
      rw [decide_eq_true hz] at h2
      rw [show decide (rg x ≠ 0) = false by simpa using hz, Bool.and_false] at h1
      clear hn hz
      go_enter Tryz.func37, Tryz.ntmps37
      go_wp2
      go_ret
      exact ⟨HP.out _ (by first | exact HC.out | (rw [h3]; exact HC.out)), by trivial⟩
    · have HC := Lib.hid (show Num.minusB x = sg x by unfold Num.minusB; rw [hn]; rfl)
      rw [decide_eq_false hz] at h2
      rw [show decide (rg x ≠ 0) = true by simpa using hz, Bool.and_true] at h1
      clear hn hz
      cases hs : sg x
      · rw [hs] at h1 HC
        clear hs
        go_enter Tryz.func37, Tryz.ntmps37
        go_wp2
        go_ret
        exact ⟨HP.out _ HC.out, by trivial⟩
      · rw [hs] at h1 HC
        clear hs
        go_enter Tryz.func37, Tryz.ntmps37
        go_wp2
        go_ret
        exact ⟨HP.out _ HC.out, by trivial⟩
  · have HC := Lib.hid (show Num.minusB x = false by unfold Num.minusB; rw [hn]; rfl)
    rw [Num.lt_nan hn] at h1
    rw [Num.eq_nan hn] at h2
    clear hn
    go_enter Tryz.func37, Tryz.ntmps37
    go_wp2
    go_ret
    exact ⟨HP.out _ HC.out, by trivial⟩
set_option maxRecDepth 100000 in
set_option maxHeartbeats 400000 in
theorem nan_any (x : Nat) (w : World) : Calls Tryz.prog 36 #[.float .f64 x] w fun e w' => e = .returned (.bool (nanB x)) ∧ w' = w := by
  have h := Num.ord_self x
  go_enter Tryz.func36, Tryz.ntmps36
  go_wp2
  go_ret
  exact ⟨by first | rfl | rw [h], by trivial⟩
set_option maxRecDepth 100000 in
set_option maxHeartbeats 1600000 in
theorem refCompare_any (x y : Nat) (w : World) (hx : x < 2 ^ 64) (hy : y < 2 ^ 64) : Calls Tryz.prog 23 #[.float .f64 x, .float .f64 y] w fun e w' => e = .returned (.int .i64 (cmpI (key x) (key y))) ∧ w' = w := by
  have HP := Lib.hid (fun (c : Int) (h : c = cmpI (key x) (key y)) => show Ending.returned (.int .i64 c) = .returned (.int .i64 (cmpI (key x) (key y))) by rw [h])
  have HN1 := Lib.hid (nan_any x w)
  have HN2 := Lib.hid (nan_any y w)
  have HM1 := Lib.hid (minus_any x w hx)
  have HM2 := Lib.hid (minus_any y w hy)
  have h1 := Num.ord_lt x y
  have h2 := Num.ord_gt x y
  clear hx hy
  cases hxn : nanB x
  · cases hyn : nanB y
    · rw [Num.ltF_num hxn hyn] at h1
      rw [Num.ltF_num hyn hxn] at h2
      rw [hxn] at HN1
      rw [hyn] at HN2
      have hm1 : Num.minusB x = sg x := by unfold Num.minusB; rw [hxn]; rfl
      have hm2 : Num.minusB y = sg y := by unfold Num.minusB; rw [hyn]; rfl
      rw [hm1] at HM1
      rw [hm2] at HM2
      clear hm1 hm2
      rcases Int.lt_trichotomy (sv x) (sv y) with h | h | h
      · have HC := Lib.hid (show (-1 : Int) = cmpI (key x) (key y) by
          rw [← Num.key_num hxn hyn (fun hz => by rw [Num.sv_zero hz.1, Num.sv_zero hz.2] at h; omega)]
          unfold Num.fcmp
          simp [hxn, hyn, h])
        rw [decide_eq_true h] at h1
        rw [decide_eq_false (by omega)] at h2
        clear h hxn hyn
        go_enter Tryz.func23, Tryz.ntmps23
        go_wp2_with fail
        refine HN1.out.mono ?_
        rintro e w' ⟨rfl, hw⟩
        obtain rfl := hw.symm
        go_wp2_with fail
        refine HN1.out.mono ?_
        rintro e w' ⟨rfl, hw⟩
        obtain rfl := hw.symm
        go_wp2_with fail
        refine HN2.out.mono ?_
        rintro e w' ⟨rfl, hw⟩
        obtain rfl := hw.symm
        go_wp2
        go_ret
        exact ⟨HP.out _ HC.out, by trivial⟩
      · have HC := Lib.hid (Num.eq_case hxn hyn h)
        rw [decide_eq_false (by omega)] at h1
        rw [decide_eq_false (by omega)] at h2
        clear h hxn hyn
        cases hs : sg x
        · cases ht : sg y
          · rw [hs] at HC HM1
            rw [ht] at HC HM2
            clear hs ht
            go_enter Tryz.func23, Tryz.ntmps23
            go_wp2_with fail
            refine HN1.out.mono ?_
            rintro e w' ⟨rfl, hw⟩
            obtain rfl := hw.symm
            go_wp2_with fail
            refine HN1.out.mono ?_
            rintro e w' ⟨rfl, hw⟩
            obtain rfl := hw.symm
            go_wp2_with fail
            refine HN2.out.mono ?_
            rintro e w' ⟨rfl, hw⟩
            obtain rfl := hw.symm
            go_wp2_with fail
            refine HM1.out.mono ?_
            rintro e w' ⟨rfl, hw⟩
            obtain rfl := hw.symm
            go_wp2_with fail
            refine HM2.out.mono ?_
            rintro e w' ⟨rfl, hw⟩
            obtain rfl := hw.symm
            go_wp2
            go_ret
            exact ⟨HP.out _ HC.out.symm, by trivial⟩
          · rw [hs] at HC HM1
            rw [ht] at HC HM2
            clear hs ht
            go_enter Tryz.func23, Tryz.ntmps23
            go_wp2_with fail
            refine HN1.out.mono ?_
            rintro e w' ⟨rfl, hw⟩
            obtain rfl := hw.symm
            go_wp2_with fail
            refine HN1.out.mono ?_
            rintro e w' ⟨rfl, hw⟩
            obtain rfl := hw.symm
            go_wp2_with fail
            refine HN2.out.mono ?_
            rintro e w' ⟨rfl, hw⟩
            obtain rfl := hw.symm
            go_wp2_with fail
            refine HM1.out.mono ?_
            rintro e w' ⟨rfl, hw⟩
            obtain rfl := hw.symm
            go_wp2_with fail
            refine HM2.out.mono ?_
            rintro e w' ⟨rfl, hw⟩
            obtain rfl := hw.symm
            go_wp2_with fail
            refine HM1.out.mono ?_
            rintro e w' ⟨rfl, hw⟩
            obtain rfl := hw.symm
            go_wp2
            go_ret
            exact ⟨HP.out _ HC.out.symm, by trivial⟩
        · cases ht : sg y
          · rw [hs] at HC HM1
            rw [ht] at HC HM2
            clear hs ht
            go_enter Tryz.func23, Tryz.ntmps23
            go_wp2_with fail
            refine HN1.out.mono ?_
            rintro e w' ⟨rfl, hw⟩
            obtain rfl := hw.symm
            go_wp2_with fail
            refine HN1.out.mono ?_
            rintro e w' ⟨rfl, hw⟩
            obtain rfl := hw.symm
            go_wp2_with fail
            refine HN2.out.mono ?_
            rintro e w' ⟨rfl, hw⟩
            obtain rfl := hw.symm
            go_wp2_with fail
            refine HM1.out.mono ?_
            rintro e w' ⟨rfl, hw⟩
            obtain rfl := hw.symm
            go_wp2_with fail
            refine HM2.out.mono ?_
            rintro e w' ⟨rfl, hw⟩
            obtain rfl := hw.symm
            go_wp2_with fail
            refine HM1.out.mono ?_
            rintro e w' ⟨rfl, hw⟩
            obtain rfl := hw.symm
            go_wp2
            go_ret
            exact ⟨HP.out _ HC.out.symm, by trivial⟩
          · rw [hs] at HC HM1
            rw [ht] at HC HM2
            clear hs ht
            go_enter Tryz.func23, Tryz.ntmps23
            go_wp2_with fail
            refine HN1.out.mono ?_
            rintro e w' ⟨rfl, hw⟩
            obtain rfl := hw.symm
            go_wp2_with fail
            refine HN1.out.mono ?_
            rintro e w' ⟨rfl, hw⟩
            obtain rfl := hw.symm
            go_wp2_with fail
            refine HN2.out.mono ?_
            rintro e w' ⟨rfl, hw⟩
            obtain rfl := hw.symm
            go_wp2_with fail
            refine HM1.out.mono ?_
            rintro e w' ⟨rfl, hw⟩
            obtain rfl := hw.symm
            go_wp2_with fail
            refine HM2.out.mono ?_
            rintro e w' ⟨rfl, hw⟩
            obtain rfl := hw.symm
            go_wp2
            go_ret
            exact ⟨HP.out _ HC.out.symm, by trivial⟩
      · have HC := Lib.hid (show (1 : Int) = cmpI (key x) (key y) by
          rw [← Num.key_num hxn hyn (fun hz => by rw [Num.sv_zero hz.1, Num.sv_zero hz.2] at h; omega)]
          unfold Num.fcmp
          have h' : ¬ sv x < sv y := by omega
          simp [hxn, hyn, h, h'])
        rw [decide_eq_false (by omega)] at h1
        rw [decide_eq_true h] at h2
        clear h hxn hyn
        go_enter Tryz.func23, Tryz.ntmps23
        go_wp2_with fail
        refine HN1.out.mono ?_
        rintro e w' ⟨rfl, hw⟩
        obtain rfl := hw.symm
        go_wp2_with fail
        refine HN1.out.mono ?_
        rintro e w' ⟨rfl, hw⟩
        obtain rfl := hw.symm
        go_wp2_with fail
        refine HN2.out.mono ?_
        rintro e w' ⟨rfl, hw⟩
        obtain rfl := hw.symm
        go_wp2
        go_ret
        exact ⟨HP.out _ HC.out, by trivial⟩
    · have HC := Lib.hid (Num.key_nans (x := x) (y := y) (.inr hyn))
      rw [hxn] at HN1 HC
      rw [hyn] at HN2 HC
      clear hxn hyn
      go_enter Tryz.func23, Tryz.ntmps23
      go_wp2_with fail
      refine HN1.out.mono ?_
      rintro e w' ⟨rfl, hw⟩
      obtain rfl := hw.symm
      go_wp2_with fail
      refine HN1.out.mono ?_
      rintro e w' ⟨rfl, hw⟩
      obtain rfl := hw.symm
      go_wp2_with fail
      refine HN2.out.mono ?_
      rintro e w' ⟨rfl, hw⟩
      obtain rfl := hw.symm
      go_wp2
      go_ret
      exact ⟨HP.out _ HC.out, by trivial⟩
  · cases hyn : nanB y
    · have HC := Lib.hid (Num.key_nans (x := x) (y := y) (.inl hxn))
      rw [hxn] at HN1 HC
      rw [hyn] at HN2 HC
      clear hxn hyn
      go_enter Tryz.func23, Tryz.ntmps23
      go_wp2_with fail
      refine HN1.out.mono ?_
      rintro e w' ⟨rfl, hw⟩
      obtain rfl := hw.symm
      go_wp2_with fail
      refine HN2.out.mono ?_
      rintro e w' ⟨rfl, hw⟩
      obtain rfl := hw.symm
      go_wp2_with fail
      refine HN1.out.mono ?_
      rintro e w' ⟨rfl, hw⟩
      obtain rfl := hw.symm
      go_wp2
      go_ret
      exact ⟨HP.out _ HC.out, by trivial⟩
    · have HC := Lib.hid (Num.key_nans (x := x) (y := y) (.inl hxn))
      rw [hxn] at HN1 HC
      rw [hyn] at HN2 HC
      clear hxn hyn
      go_enter Tryz.func23, Tryz.ntmps23
      go_wp2_with fail
      refine HN1.out.mono ?_
      rintro e w' ⟨rfl, hw⟩
      obtain rfl := hw.symm
      go_wp2_with fail
      refine HN2.out.mono ?_
      rintro e w' ⟨rfl, hw⟩
      obtain rfl := hw.symm
      go_wp2
      go_ret
      exact ⟨HP.out _ HC.out, by trivial⟩
/-- Are two the same? -/
def sameF (x y : Nat) : Bool := decide (key x = key y)
theorem sameF_of (x y : Nat) : decide (cmpI (key x) (key y) = 0) = sameF x y := by
  unfold sameF cmpI
  rw [decide_eq_decide]
  split
  · simp; omega
  · split
    · simp; omega
    · simp; omega
set_option maxRecDepth 100000 in
set_option maxHeartbeats 400000 in
theorem same_any (x y : Nat) (w : World) (hx : x < 2 ^ 64) (hy : y < 2 ^ 64) : Calls Tryz.prog 20 #[.float .f64 x, .float .f64 y] w fun e w' => e = .returned (.bool (sameF x y)) ∧ w' = w := by
  have HP := Lib.hid (fun (b : Bool) (h : b = sameF x y) => show Ending.returned (.bool b) = .returned (.bool (sameF x y)) by rw [h])
  have HC := Lib.hid (compare_any x y w hx hy)
  have HS := Lib.hid (sameF_of x y)
  generalize cmpI (key x) (key y) = c at *
  clear hx hy
  go_enter Tryz.func20, Tryz.ntmps20
  go_wp2_with fail
  refine HC.out.mono ?_
  rintro e w' ⟨rfl, hw⟩
  obtain rfl := hw.symm
  go_wp2
  go_ret
  exact ⟨HP.out _ HS.out, by trivial⟩
set_option maxRecDepth 100000 in
set_option maxHeartbeats 400000 in
theorem refSame_any (x y : Nat) (w : World) (hx : x < 2 ^ 64) (hy : y < 2 ^ 64) : Calls Tryz.prog 16 #[.float .f64 x, .float .f64 y] w fun e w' => e = .returned (.bool (sameF x y)) ∧ w' = w := by
  have HP := Lib.hid (fun (b : Bool) (h : b = sameF x y) => show Ending.returned (.bool b) = .returned (.bool (sameF x y)) by rw [h])
  have HC := Lib.hid (refCompare_any x y w hx hy)
  have HS := Lib.hid (sameF_of x y)
  generalize cmpI (key x) (key y) = c at *
  clear hx hy
  go_enter Tryz.func16, Tryz.ntmps16
  go_wp2_with fail
  refine HC.out.mono ?_
  rintro e w' ⟨rfl, hw⟩
  obtain rfl := hw.symm
  go_wp2
  go_ret
  exact ⟨HP.out _ HS.out, by trivial⟩
end Go.Proofs.YtbmmoclaijoofaaGreatDoor
