/- numbers: Compare, Same; the reference's. -/
import Derived.Test.YtbmmoclaijoofaaGreatDoorBase
import Derived.Test.YtbmmoclaijoofaaGreatDoorNumS
import Derived.Test.YtbmmoclaijoofaaGreatDoorShelf
import Derived.WalkLawsBesides
set_option linter.unusedVariables false
set_option linter.unusedSimpArgs false
namespace Go.Proofs.YtbmmoclaijoofaaGreatDoor
open Go.RowKit Go.BigFrame
open Num (nanB sg rg sv key eqF ltF cmpI wd infR)

namespace Num
theorem eqF_self (x : Nat) : eqF x x = !nanB x := by unfold eqF; simp
theorem ord_ne (x y : Nat) : (Go.FloatKind.f64.format.order x y != some .eq) = !eqF x y := by rw [bne, ord_eq]
theorem ord_self (x : Nat) : (Go.FloatKind.f64.format.order x x != some .eq) = nanB x := by rw [ord_ne, eqF_self, Bool.not_not]
theorem ltF_num {x y : Nat} (hx : nanB x = false) (hy : nanB y = false) : ltF x y = decide (sv x < sv y) := by unfold ltF; rw [hx, hy]; rfl
theorem eqF_num {x y : Nat} (hx : nanB x = false) (hy : nanB y = false) : eqF x y = decide (sv x = sv y) := by unfold eqF; rw [hx, hy]; rfl
theorem sv_zero {x : Nat} (h : rg x = 0) : sv x = 0 := by unfold sv; rw [h, rv_zero]; split <;> rfl
theorem sv_eq_zero {x : Nat} : sv x = 0 ↔ rg x = 0 := by
  constructor
  · intro h
    have := rv_pos (r := rg x)
    unfold sv at h
    split at h <;> omega
  · exact sv_zero
theorem nan_zero {x : Nat} (h : rg x = 0) : nanB x = false := by unfold nanB; rw [h]; decide
theorem nz : nanB 0 = false := by decide
theorem sz : sv 0 = 0 := by decide
theorem eq_zero {x : Nat} (h : nanB x = false) : eqF x 0 = decide (rg x = 0) := by
  rw [eqF_num h nz, sz]
  exact decide_eq_decide.2 sv_eq_zero
theorem lt_zero {x : Nat} (h : nanB x = false) : ltF x 0 = (sg x && decide (rg x ≠ 0)) := by
  rw [ltF_num h nz, sz]
  have := rv_pos (r := rg x)
  unfold sv
  cases sg x
  · simp
  · rw [Bool.true_and]; exact decide_eq_decide.2 (by simp only [if_true]; omega)
/-- As cmp.Compare has them: nan ahead of all. -/
def fcmp (x y : Nat) : Int := if nanB x then (if nanB y then 0 else -1) else if nanB y then 1 else if sv x < sv y then -1 else if sv y < sv x then 1 else 0
end Num
set_option maxRecDepth 100000 in
set_option maxHeartbeats 400000 in
theorem isNaN_any (x : Nat) (w : World) : Calls Tryz.prog 66 #[.float .f64 x] w fun e w' => e = .returned (.bool (nanB x)) ∧ w' = w := by
  have h := Num.ord_self x
  go_enter Tryz.func66, Tryz.ntmps66
  go_wp2
  go_ret
  exact ⟨by first | rfl | rw [h], by trivial⟩

set_option maxRecDepth 100000 in
set_option maxHeartbeats 800000 in
theorem cmpF_any (x y : Nat) (w : World) : Calls Tryz.prog 48 #[.float .f64 x, .float .f64 y] w fun e w' => e = .returned (.int .i64 (Num.fcmp x y)) ∧ w' = w := by
  have HP := Lib.hid (fun (c : Int) (h : Num.fcmp x y = c) => show Ending.returned (.int .i64 c) = .returned (.int .i64 (Num.fcmp x y)) by rw [h])
  have h1 := isNaN_any x w
  have h2 := isNaN_any y w
  have h3 := Num.ord_lt x y
  have h4 := Num.ord_gt x y
  cases hx : nanB x
  · cases hy : nanB y
    · rw [Num.ltF_num hx hy] at h3
      rw [Num.ltF_num hy hx] at h4
      rw [hx] at h1
      rw [hy] at h2
      have HF := Lib.hid (show Num.fcmp x y = if sv x < sv y then -1 else if sv y < sv x then 1 else 0 by unfold Num.fcmp; rw [hx, hy]; rfl)
      clear hx hy
      rcases Int.lt_trichotomy (sv x) (sv y) with h | h | h
      · have HC := Lib.hid (show Num.fcmp x y = -1 by rw [HF.out, if_pos h])
        rw [decide_eq_true h] at h3
        clear h HF h4
        go_enter Tryz.func48, Tryz.ntmps48
        go_wp2_with fail
        refine h1.mono ?_
        rintro e w' ⟨rfl, hw⟩
        obtain rfl := hw.symm
        go_wp2_with fail
        refine h2.mono ?_
        rintro e w' ⟨rfl, hw⟩
        obtain rfl := hw.symm
        go_wp2
        go_ret
        exact ⟨HP.out _ HC.out, by trivial⟩
      · have HC := Lib.hid (show Num.fcmp x y = 0 by rw [HF.out, if_neg (by omega), if_neg (by omega)])
        rw [decide_eq_false (by omega)] at h3
        rw [decide_eq_false (by omega)] at h4
        clear h HF
        go_enter Tryz.func48, Tryz.ntmps48
        go_wp2_with fail
        refine h1.mono ?_
        rintro e w' ⟨rfl, hw⟩
        obtain rfl := hw.symm
        go_wp2_with fail
        refine h2.mono ?_
        rintro e w' ⟨rfl, hw⟩
        obtain rfl := hw.symm
        go_wp2
        go_ret
        exact ⟨HP.out _ HC.out, by trivial⟩
      · have HC := Lib.hid (show Num.fcmp x y = 1 by rw [HF.out, if_neg (by omega), if_pos h])
        rw [decide_eq_false (by omega)] at h3
        rw [decide_eq_true h] at h4
        clear h HF
        go_enter Tryz.func48, Tryz.ntmps48
        go_wp2_with fail
        refine h1.mono ?_
        rintro e w' ⟨rfl, hw⟩
        obtain rfl := hw.symm
        go_wp2_with fail
        refine h2.mono ?_
        rintro e w' ⟨rfl, hw⟩
        obtain rfl := hw.symm
        go_wp2
        go_ret
        exact ⟨HP.out _ HC.out, by trivial⟩
    · have HC := Lib.hid (show Num.fcmp x y = 1 by unfold Num.fcmp; rw [hx, hy]; rfl)
      rw [hx] at h1
      rw [hy] at h2
      clear hx hy h3 h4
      go_enter Tryz.func48, Tryz.ntmps48
      go_wp2_with fail
      refine h1.mono ?_
      rintro e w' ⟨rfl, hw⟩
      obtain rfl := hw.symm
      go_wp2_with fail
      refine h2.mono ?_
      rintro e w' ⟨rfl, hw⟩
      obtain rfl := hw.symm
      go_wp2
      go_ret
      exact ⟨HP.out _ HC.out, by trivial⟩
  · cases hy : nanB y
    · have HC := Lib.hid (show Num.fcmp x y = -1 by unfold Num.fcmp; rw [hx, hy]; rfl)
      rw [hx] at h1
      rw [hy] at h2
      clear hx hy h3 h4
      go_enter Tryz.func48, Tryz.ntmps48
      go_wp2_with fail
      refine h1.mono ?_
      rintro e w' ⟨rfl, hw⟩
      obtain rfl := hw.symm
      go_wp2_with fail
      refine h2.mono ?_
      rintro e w' ⟨rfl, hw⟩
      obtain rfl := hw.symm
      go_wp2
      go_ret
      exact ⟨HP.out _ HC.out, by trivial⟩
    · have HC := Lib.hid (show Num.fcmp x y = 0 by unfold Num.fcmp; rw [hx, hy]; rfl)
      rw [hx] at h1
      rw [hy] at h2
      clear hx hy h3 h4
      go_enter Tryz.func48, Tryz.ntmps48
      go_wp2_with fail
      refine h1.mono ?_
      rintro e w' ⟨rfl, hw⟩
      obtain rfl := hw.symm
      go_wp2_with fail
      refine h2.mono ?_
      rintro e w' ⟨rfl, hw⟩
      obtain rfl := hw.symm
      go_wp2
      go_ret
      exact ⟨HP.out _ HC.out, by trivial⟩
theorem order_any (b : Bool) (w : World) : Calls Tryz.prog 47 #[.bool b] w fun e w' => e = .returned (.int .i64 (if b then 1 else 0)) ∧ w' = w := by
  cases b
  · go_enter Tryz.func47, Tryz.ntmps47
    go_wp2
    go_ret
    exact ⟨rfl, by trivial⟩
  · go_enter Tryz.func47, Tryz.ntmps47
    go_wp2
    go_ret
    exact ⟨rfl, by trivial⟩
end Go.Proofs.YtbmmoclaijoofaaGreatDoor
