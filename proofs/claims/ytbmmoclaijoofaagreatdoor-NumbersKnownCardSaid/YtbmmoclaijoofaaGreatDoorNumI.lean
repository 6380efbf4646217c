/- numbers: the reference's Whole, finite; Down of both. -/
import Derived.Test.YtbmmoclaijoofaaGreatDoorNumH
set_option linter.unusedVariables false
set_option linter.unusedSimpArgs false
namespace Go.Proofs.YtbmmoclaijoofaaGreatDoor
open Go.RowKit Go.BigFrame
open Num (nanB sg rg rv sv tv key eqF ltF cmpI wd infR R53 P0 wholeR flN)

namespace Num
theorem rg_zero_neg : rg 9223372036854775808 = 0 ∧ sg 9223372036854775808 = true ∧ nanB 9223372036854775808 = false := by decide
theorem wholeR_zero : wholeR 0 = true := by
  rw [wholeR_is]
  have h1 : rv 0 = tv 0 * P0 := by unfold tv; rw [rv_zero, Nat.zero_div, Nat.zero_mul]
  rw [decide_eq_true h1]; rfl
theorem tv_zero : tv 0 = 0 := by unfold tv; rw [rv_zero, Nat.zero_div]
theorem neg_bits {x : Nat} (hx : x < 2 ^ 64) : Go.Op.negFloat .f64 x = wd (!sg x) (rg x) := neg_is x hx
theorem lt_big {r : Nat} (h : r < infR) : r < 2 ^ 63 := by have := infR_lt; omega
theorem finite_nan {x : Nat} (h : rg x < infR) : nanB x = false := by unfold nanB; simp; omega
def ONE : Nat := 4607182418800017408
theorem rv_one : rv ONE = P0 := by
  obtain ⟨c, hc⟩ : ∃ c : Nat, c = 1074 := ⟨_, rfl⟩
  obtain ⟨q, hq⟩ : ∃ q, q = ONE / 2 ^ 52 - 1 := ⟨_, rfl⟩
  have h1 : ¬ ONE < 2 ^ 52 := by decide
  have h2 : ONE % 2 ^ 52 = 0 := by decide
  have h3 : ONE / 2 ^ 52 - 1 = 1022 := by decide
  unfold rv
  rw [if_neg h1, h2, ← hq, P0_is c hc, Nat.add_zero, show c = 52 + q by omega, Nat.pow_add]
theorem sg_one : sg ONE = false := by decide
theorem rg_one : rg ONE = ONE := by decide
theorem one_lt : ONE < infR := by decide
/-- x - x of a finite one is 0. -/
theorem sub_self (x : Nat) (h : rg x < infR) : Go.floatBits .sub .f64 x x = some 0 := by
  change Ieee.double.sub x x = some 0
  have h1 := rg_lt x
  have h0 : sv x + sv (wd (!sg x) (rg x)) = 0 := by rw [sv_neg]; omega
  rw [sub_is x x h, add_exact x _ 0 h (by rw [rg_wd _ h1]; exact h) (by decide) (by rw [h0]; rfl), h0, sg_wd _ h1]
  cases sg x <;> rfl
theorem sub_inf (x : Nat) (h : ¬ rg x < infR) : Go.floatBits .sub .f64 x x = none := by
  change Ieee.double.sub x x = none
  unfold Ieee.Format.sub
  by_cases h1 : rg x = infR
  · rw [read_inf x h1]
    cases sg x <;> rfl
  · rw [read_nan x (by omega)]; rfl
theorem ge_big {x : Nat} (hn : nanB x = false) : (ltF R53 x || eqF x R53) = (!sg x && decide (R53 ≤ rg x)) := by
  cases hs : sg x
  · rw [ge_53 hn hs]; rfl
  · have hp : 0 < rv R53 := rv_pos.2 (by decide)
    rw [ltF_num nan_R53 hn, eqF_num hn nan_R53]
    unfold sv
    rw [hs, sg_R53, rg_R53]
    simp; omega
theorem neg_nan {x : Nat} (s : Bool) : nanB (wd s (rg x)) = nanB x := by unfold nanB; rw [rg_wd _ (rg_lt x)]
end Num
theorem run_neg {P : Program} (x y : Nat) (h : Go.Op.negFloat .f64 x = y) (w : World) : (Op.unary .neg (.float .f64 x)).run P w = .ok (.float .f64 y) w := by rw [← h]; rfl
set_option maxRecDepth 100000 in
set_option maxHeartbeats 800000 in
theorem finite_any (x : Nat) (w : World) : Calls Tryz.prog 38 #[.float .f64 x] w fun e w' => e = .returned (.bool (decide (rg x < infR))) ∧ Below w.heap.size w w' := by
  have HN := Lib.hid (fun (y : Nat) (w1 : World) => nan_any y w1)
  by_cases h : rg x < infR
  · have hs := fun w => run_float_arith (P := Tryz.prog) w .sub 25 .f64 x x 0 (Num.sub_self x h)
    have HN1 := Lib.hid (HN.out 0 w)
    have HN2 := Lib.hid (HN.out x w)
    rw [Num.finite_nan h] at HN2
    rw [show nanB 0 = false by decide] at HN1
    rw [decide_eq_true h]
    clear h HN
    go_enter Tryz.func38, Tryz.ntmps38
    go_wp2_with fail
    refine HN1.out.mono ?_
    rintro e w' ⟨rfl, hw⟩
    obtain rfl := hw.symm
    go_wp2_with fail
    refine HN2.out.mono ?_
    rintro e w' ⟨rfl, hw⟩
    obtain rfl := hw.symm
    go_wp2
    go_ret
    exact ⟨rfl, Below.refl _ _⟩
  · obtain ⟨r, hr1, hr2, hrun⟩ := run_nan (P := Tryz.prog) w .sub 25 x x (by simp) (Num.sub_inf x h)
    have HN1 := Lib.hid (HN.out r w.drew)
    rw [hr1] at HN1
    have HB := Lib.hid ((Below.refl w.heap.size w).drew)
    rw [decide_eq_false h]
    clear h hr1 hr2 HN
    go_enter Tryz.func38, Tryz.ntmps38
    go_wp2_with fail
    refine HN1.out.mono ?_
    rintro e w' ⟨rfl, hw⟩
    obtain rfl := hw.symm
    go_wp2
    go_ret
    exact ⟨rfl, HB.out⟩
theorem refwhole_zero (w : World) : Calls Tryz.prog 39 #[.float .f64 9223372036854775808] w fun e w' => e = .returned (.tuple #[.int .i64 0, .bool true]) ∧ w' = w := by
  have HBG := Lib.hid (big_any w)
  obtain ⟨hz, hs, hn⟩ := Num.rg_zero_neg
  have h1 := (Num.cmp_ge 9223372036854775808 R53).trans (Num.ge_big hn)
  rw [hs, ← Num.R53_is] at h1
  have hc := fun w => int_of 9223372036854775808 (by rw [hz]; decide) w
  rw [hz, Num.tv_zero, show valI (sg 9223372036854775808) 0 = 0 by rw [hs]; rfl] at hc
  have hf := fun w => float_of 0 0 (by decide) (by simp [Num.rv_zero]) w
  rw [show wd (decide ((0 : Int) < 0)) 0 = 0 by decide] at hf
  have h2 := Num.ord_ne 0 9223372036854775808
  rw [show eqF 0 9223372036854775808 = true by decide] at h2
  clear hz hs hn
  go_enter Tryz.func39, Tryz.ntmps39
  go_wp2_with fail
  refine HBG.out.mono ?_
  rintro e w' ⟨rfl, hw⟩
  obtain rfl := hw.symm
  go_wp2
  go_ret2
  exact ⟨rfl, by trivial⟩
set_option maxRecDepth 100000 in
set_option maxHeartbeats 1600000 in
theorem refWhole_any (x : Nat) (w : World) (hx : x < 2 ^ 64) : Calls Tryz.prog 18 #[.float .f64 x] w fun e w' => e = .returned (.tuple #[.int .i64 (wholeI x), .bool (wholeR (rg x))]) ∧ w' = w := by
  have HP := Lib.hid (fun (i : Int) (b : Bool) (h1 : i = wholeI x) (h2 : b = wholeR (rg x)) => show (fun e w' => e = Ending.returned (.tuple #[.int .i64 (wholeI x), .bool (wholeR (rg x))]) ∧ w' = w) (.returned (.tuple #[.int .i64 i, .bool b])) w from ⟨by rw [h1, h2], rfl⟩)
  generalize (fun e w' => e = Ending.returned (.tuple #[.int .i64 (wholeI x), .bool (wholeR (rg x))]) ∧ w' = w) = post at *
  have HN := Lib.hid (nan_any x w)
  have h1 := Num.ord_lt x 0
  cases hn : nanB x
  · rw [hn] at HN
    rw [Num.lt_zero hn] at h1
    cases hs : sg x
    · rw [hs] at h1
      have HW := Lib.hid (refwhole_any x w hn hs)
      have HQ := Lib.hid (HP.out _ _ rfl rfl)
      generalize wholeI x = i at *
      generalize wholeR (rg x) = b at *
      clear hn hs HP hx
      go_enter Tryz.func18, Tryz.ntmps18
      go_wp2_with fail
      refine HN.out.mono ?_
      rintro e w' ⟨rfl, hw⟩
      obtain rfl := hw.symm
      go_wp2_with fail
      refine HW.out.mono ?_
      rintro e w' ⟨rfl, hw⟩
      obtain rfl := hw.symm
      go_wp2
      exact HQ.out
    · by_cases hz : rg x = 0
      · obtain rfl : x = 9223372036854775808 := by
          rcases Num.zero_two hx hz with ⟨_, h⟩ | ⟨h, _⟩
          · rw [hs] at h; cases h
          · exact h
        have HW := Lib.hid (refwhole_zero w)
        have HQ := Lib.hid (HP.out 0 true (by unfold wholeI; rw [hz, Num.wholeR_zero, Num.tv_zero, hs]; rfl) (by rw [hz, Num.wholeR_zero]))
        rw [hs, show decide (rg 9223372036854775808 ≠ 0) = false by decide] at h1
        clear hn hs HP hx hz
        go_enter Tryz.func18, Tryz.ntmps18
        go_wp2_with fail
        refine HN.out.mono ?_
        rintro e w' ⟨rfl, hw⟩
        obtain rfl := hw.symm
        go_wp2_with fail
        refine HW.out.mono ?_
        rintro e w' ⟨rfl, hw⟩
        obtain rfl := hw.symm
        go_wp2
        exact HQ.out
      · have hng0 := Num.neg_bits hx
        rw [hs] at hng0
        have hng := fun w => run_neg (P := Tryz.prog) x _ hng0 w
        clear hng0
        rw [hs, show decide (rg x ≠ 0) = true by simpa using hz] at h1
        have h63 := Num.rg_lt x
        have HW := Lib.hid (refwhole_any (wd (!true) (rg x)) w (by rw [Num.neg_nan, hn]) (by rw [Num.sg_wd _ h63]; rfl))
        rw [Num.rg_wd _ h63] at HW
        have hwi : wholeI (wd (!true) (rg x)) = if wholeR (rg x) then (tv (rg x) : Int) else 0 := by unfold wholeI; rw [Num.rg_wd _ h63, Num.sg_wd _ h63]; rfl
        have hwx : wholeI x = if wholeR (rg x) then -(tv (rg x) : Int) else 0 := by unfold wholeI; rw [hs]; rfl
        rw [hwi] at HW
        have hb : wholeR (rg x) = true → tv (rg x) < 2 ^ 53 := fun h => (Num.tv_of h).2
        have HQ := Lib.hid (HP.out _ _ hwx.symm rfl)
        generalize wd (!true) (rg x) = y at *
        generalize tv (rg x) = n at *
        clear hn hs HP hx hz h63 hwi hwx
        cases hwr : wholeR (rg x)
        · rw [hwr] at HW HQ
          clear hb hwr
          go_enter Tryz.func18, Tryz.ntmps18
          go_wp2_with fail
          refine HN.out.mono ?_
          rintro e w' ⟨rfl, hw⟩
          obtain rfl := hw.symm
          go_wp2_with fail
          refine HW.out.mono ?_
          rintro e w' ⟨rfl, hw⟩
          obtain rfl := hw.symm
          go_wp2
          exact HQ.out
        · rw [hwr] at HW HQ
          have hb2 := hb hwr
          clear hb hwr
          go_enter Tryz.func18, Tryz.ntmps18
          go_wp2_with fail
          refine HN.out.mono ?_
          rintro e w' ⟨rfl, hw⟩
          obtain rfl := hw.symm
          go_wp2_with fail
          refine HW.out.mono ?_
          rintro e w' ⟨rfl, hw⟩
          obtain rfl := hw.symm
          go_wp2
          exact HQ.out
  · rw [hn] at HN
    have hW : wholeR (rg x) = false := wholeR_no (by
      unfold Num.nanB at hn; rw [decide_eq_true_eq] at hn; have := Num.R53_lt; omega)
    have HQ := Lib.hid (HP.out 0 false (by unfold wholeI; rw [hW]; rfl) hW.symm)
    clear hn HP hx hW h1
    go_enter Tryz.func18, Tryz.ntmps18
    go_wp2_with fail
    refine HN.out.mono ?_
    rintro e w' ⟨rfl, hw⟩
    obtain rfl := hw.symm
    go_wp2
    exact HQ.out
end Go.Proofs.YtbmmoclaijoofaaGreatDoor
