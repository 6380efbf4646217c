/- numbers: the law NumbersWhole, walked. -/
import Derived.Test.YtbmmoclaijoofaaGreatDoorNumWc
set_option linter.unusedVariables false
set_option linter.unusedSimpArgs false
namespace Go.Proofs.YtbmmoclaijoofaaGreatDoor
open Go.RowKit Go.BigFrame
open Num (nanB sg rg rv sv tv key eqF ltF cmpI wd infR R53 P0 wholeR flN ONE)

theorem sv_r53 : sv 4845873199050653696 = (rv R53 : Int) := by
  have h := sv_wd false R53 Num.R53_lt
  rwa [if_neg (by decide)] at h
theorem sv_n53 : sv 14069245235905429504 = -(rv R53 : Int) := by
  have h := sv_wd true R53 Num.R53_lt
  rwa [if_pos rfl] at h
theorem in_range {x : Nat} (h : rg x < R53) : ltF 14069245235905429504 x = true ∧ ltF x 4845873199050653696 = true := by
  have hn : nanB x = false := Num.finite_nan (Nat.lt_trans h Num.R53_lt)
  have h1 := Num.rv_lt.2 h
  rw [Num.ltF_num (by decide) hn, Num.ltF_num hn (by decide), sv_r53, sv_n53, decide_eq_true_eq, decide_eq_true_eq]
  unfold Num.sv
  generalize rv (rg x) = a at *
  generalize rv R53 = b at *
  split <;> omega
theorem not_range {x : Nat} (h : ¬ rg x < R53) : ltF 14069245235905429504 x = false ∨ (ltF 14069245235905429504 x = true ∧ ltF x 4845873199050653696 = false) := by
  cases hn : nanB x with
  | true => left; unfold Num.ltF; rw [hn]; simp
  | false =>
    rw [Num.ltF_num (by decide) hn, Num.ltF_num hn (by decide), sv_r53, sv_n53, decide_eq_false_iff_not, decide_eq_true_eq, decide_eq_false_iff_not]
    have h1 : rv R53 ≤ rv (rg x) := Nat.le_of_not_lt fun h2 => h (Num.rv_lt.1 h2)
    unfold Num.sv
    generalize rv (rg x) = a at *
    generalize rv R53 = b at *
    split <;> omega
theorem back_eq {x : Nat} (h : rg x < R53) (hw : wholeR (rg x) = true) : eqF (wd (decide (wholeI x < 0)) (rg x)) x = true ∧ rv (rg x) = (wholeI x).natAbs * P0 := by
  have hi := Nat.lt_trans h Num.R53_lt
  have hr : rv (rg x) = tv (rg x) * P0 := by
    rw [Num.wholeR_is, Bool.and_eq_true, decide_eq_true_eq] at hw; exact hw.1
  have hI : wholeI x = valI (sg x) (tv (rg x)) := by unfold wholeI; rw [if_pos hw]
  have hP := Num.P0_pos
  rw [Num.eqF_num (Num.finite_nan (by rw [Num.rg_wd _ (Num.lt_big hi)]; exact hi)) (Num.finite_nan hi), decide_eq_true_eq, sv_wd _ _ hi, hI]
  unfold Num.sv valI
  rw [hr]
  generalize tv (rg x) = a at *
  generalize sg x = s at *
  generalize P0 = q at *
  cases s
  · rw [if_neg (show ¬ false = true by decide), decide_eq_false (by omega), if_neg (by decide)]
    exact ⟨rfl, by rw [Int.natAbs_natCast]⟩
  · rw [if_pos rfl, if_pos rfl]
    rcases Nat.eq_zero_or_pos a with rfl | h0
    · rw [Nat.zero_mul]; exact ⟨by split <;> rfl, by simp⟩
    · rw [decide_eq_true (by omega), if_pos rfl]
      exact ⟨rfl, by rw [Int.natAbs_neg, Int.natAbs_natCast]⟩
set_option maxRecDepth 100000 in
set_option maxHeartbeats 1600000 in
theorem numbersWhole_walk (x : Nat) (w : World) (hx : x < 2 ^ 64) (he : ErrsW w) (ht : TabW w) : Calls Tryz.prog 6 #[.float .f64 x] w (YesPost w) := by
  have HP := Lib.hid (fun (w' : World) (hb : Below w.heap.size w w') => show YesPost w (.returned (.bool true)) w' from ⟨rfl, hb⟩)
  generalize YesPost w = post at *
  have KW := Lib.hid (fun (w1 : World) (hb : Below w.heap.size w w1) => works_at w w1 he ht hb)
  have K1 := Lib.hid (whole_any x w hx)
  have K2 := Lib.hid (refWhole_any x w hx)
  have K3 := Lib.hid (down_any x w hx)
  have K4 := Lib.hid (fun (w1 : World) => refDown_any x w1 hx)
  have K5 := Lib.hid (fun (r s : Nat) (h1 : DownIs x r) (h2 : DownIs x s) (w1 : World) => (h1.same h2) ▸ same_any r s w1 h1.lt h2.lt)
  have K6 := Lib.hid (fun (d : Nat) (h1 : DownIs x d) (w1 : World) => whole_any d w1 h1.lt)
  have c1 := Num.ord_gt x 14069245235905429504
  have c2 := Num.ord_lt x 4845873199050653696
  clear he ht
  by_cases hl : rg x < R53
  · obtain ⟨a1, a2⟩ := in_range hl
    rw [a1] at c1
    rw [a2] at c2
    have HL := Lib.hid hl
    have HN := Lib.hid (Num.finite_nan (Nat.lt_trans hl Num.R53_lt))
    clear a1 a2
    cases hw : wholeR (rg x) with
    | true =>
      obtain ⟨b1, b2⟩ := back_eq hl hw
      have r2 := fun w => float_of (wholeI x) (rg x) (Nat.lt_trans hl Num.R53_lt) b2 w
      have c5 := (Num.ord_ne (wd (decide (wholeI x < 0)) (rg x)) x).trans (congrArg (!·) b1)
      rw [hw] at K1 K2
      clear b1 b2 hw hl hx
      generalize wd (decide (wholeI x < 0)) (rg x) = y at *
      generalize wholeI x = xi at *
      go_enter Tryz.func6, Tryz.ntmps6
      go_wp2_with fail
      refine K1.out.mono ?_
      rintro e w1 ⟨rfl, hw⟩
      obtain rfl := hw.symm
      go_wp2_with fail
      refine K2.out.mono ?_
      rintro e w2 ⟨rfl, hw⟩
      obtain rfl := hw.symm
      go_wp2_with fail
      refine K3.out.mono ?_
      rintro e w3 ⟨d, rfl, hd, hb3⟩
      have HB3 := Lib.hid hb3
      have HD := Lib.hid hd
      clear hb3 hd
      obtain ⟨n1, n2, n3, s, n4, n5, n6⟩ := down_near HD.out HL.out
      have KD := Lib.hid (n1 ▸ K6.out d HD.out)
      have r1 := fun w1 => run_float_arith (P := Tryz.prog) w1 .add 25 .f64 _ _ _ n4
      have c3 : (Go.FloatKind.f64.format.order d x == some .lt || Go.FloatKind.f64.format.order d x == some .eq) = true := by
        rw [Num.ord_lt, Num.ord_eq, Num.ltF_num n2 HN.out, Num.eqF_num n2 HN.out, Bool.or_eq_true, decide_eq_true_eq, decide_eq_true_eq]; omega
      have c4 : (Go.FloatKind.f64.format.order s x == some .gt) = true := by
        rw [Num.ord_gt, Num.ltF_num HN.out n5, decide_eq_true_eq]; exact n6
      clear n1 n2 n3 n4 n5 n6
      generalize wholeI d = di at *
      go_wp2_with fail
      refine (K4.out _).mono ?_
      rintro e w4 ⟨d2, rfl, hd2, hb4⟩
      have HB4 := Lib.hid (step_below HB3.out hb4)
      have KS := Lib.hid (K5.out d d2 HD.out hd2)
      clear hb4 hd2
      go_wp2_with fail
      refine (KS.out _).mono ?_
      rintro e w5 ⟨rfl, hw⟩
      obtain rfl := hw.symm
      go_wp2_with fail
      refine (KD.out _).mono ?_
      rintro e w6 ⟨rfl, hw⟩
      obtain rfl := hw.symm
      go_wp2_with fail
      refine (KW.out _ HB4.out).mono ?_
      rintro e w7 ⟨rfl, hb7⟩
      have HB7 := Lib.hid hb7
      clear hb7
      go_wp2
      exact HP.out _ HB7.out
    | false =>
      rw [hw] at K1 K2
      clear hw hl hx
      generalize wholeI x = xi at *
      go_enter Tryz.func6, Tryz.ntmps6
      go_wp2_with fail
      refine K1.out.mono ?_
      rintro e w1 ⟨rfl, hw⟩
      obtain rfl := hw.symm
      go_wp2_with fail
      refine K2.out.mono ?_
      rintro e w2 ⟨rfl, hw⟩
      obtain rfl := hw.symm
      go_wp2_with fail
      refine K3.out.mono ?_
      rintro e w3 ⟨d, rfl, hd, hb3⟩
      have HB3 := Lib.hid hb3
      have HD := Lib.hid hd
      clear hb3 hd
      obtain ⟨n1, n2, n3, s, n4, n5, n6⟩ := down_near HD.out HL.out
      have KD := Lib.hid (n1 ▸ K6.out d HD.out)
      have r1 := fun w1 => run_float_arith (P := Tryz.prog) w1 .add 25 .f64 _ _ _ n4
      have c3 : (Go.FloatKind.f64.format.order d x == some .lt || Go.FloatKind.f64.format.order d x == some .eq) = true := by
        rw [Num.ord_lt, Num.ord_eq, Num.ltF_num n2 HN.out, Num.eqF_num n2 HN.out, Bool.or_eq_true, decide_eq_true_eq, decide_eq_true_eq]; omega
      have c4 : (Go.FloatKind.f64.format.order s x == some .gt) = true := by
        rw [Num.ord_gt, Num.ltF_num HN.out n5, decide_eq_true_eq]; exact n6
      clear n1 n2 n3 n4 n5 n6
      generalize wholeI d = di at *
      go_wp2_with fail
      refine (K4.out _).mono ?_
      rintro e w4 ⟨d2, rfl, hd2, hb4⟩
      have HB4 := Lib.hid (step_below HB3.out hb4)
      have KS := Lib.hid (K5.out d d2 HD.out hd2)
      clear hb4 hd2
      go_wp2_with fail
      refine (KS.out _).mono ?_
      rintro e w5 ⟨rfl, hw⟩
      obtain rfl := hw.symm
      go_wp2_with fail
      refine (KD.out _).mono ?_
      rintro e w6 ⟨rfl, hw⟩
      obtain rfl := hw.symm
      go_wp2_with fail
      refine (KW.out _ HB4.out).mono ?_
      rintro e w7 ⟨rfl, hb7⟩
      have HB7 := Lib.hid hb7
      clear hb7
      go_wp2
      exact HP.out _ HB7.out
  · have hw := wholeR_no hl
    rw [hw] at K1 K2
    rcases not_range hl with a1 | ⟨a1, a2⟩
    · rw [a1] at c1
      clear hw a1 hl hx
      generalize wholeI x = xi at *
      go_enter Tryz.func6, Tryz.ntmps6
      go_wp2_with fail
      refine K1.out.mono ?_
      rintro e w1 ⟨rfl, hw⟩
      obtain rfl := hw.symm
      go_wp2_with fail
      refine K2.out.mono ?_
      rintro e w2 ⟨rfl, hw⟩
      obtain rfl := hw.symm
      go_wp2_with fail
      refine K3.out.mono ?_
      rintro e w3 ⟨d, rfl, hd, hb3⟩
      have HB3 := Lib.hid hb3
      have HD := Lib.hid hd
      clear hb3 hd
      go_wp2_with fail
      refine (K4.out _).mono ?_
      rintro e w4 ⟨d2, rfl, hd2, hb4⟩
      have HB4 := Lib.hid (step_below HB3.out hb4)
      have KS := Lib.hid (K5.out d d2 HD.out hd2)
      clear hb4 hd2
      go_wp2_with fail
      refine (KS.out _).mono ?_
      rintro e w5 ⟨rfl, hw⟩
      obtain rfl := hw.symm
      go_wp2_with fail
      refine (KW.out _ HB4.out).mono ?_
      rintro e w7 ⟨rfl, hb7⟩
      have HB7 := Lib.hid hb7
      clear hb7
      go_wp2
      exact HP.out _ HB7.out
    · rw [a1] at c1
      rw [a2] at c2
      clear hw a1 a2 hl hx
      generalize wholeI x = xi at *
      go_enter Tryz.func6, Tryz.ntmps6
      go_wp2_with fail
      refine K1.out.mono ?_
      rintro e w1 ⟨rfl, hw⟩
      obtain rfl := hw.symm
      go_wp2_with fail
      refine K2.out.mono ?_
      rintro e w2 ⟨rfl, hw⟩
      obtain rfl := hw.symm
      go_wp2_with fail
      refine K3.out.mono ?_
      rintro e w3 ⟨d, rfl, hd, hb3⟩
      have HB3 := Lib.hid hb3
      have HD := Lib.hid hd
      clear hb3 hd
      go_wp2_with fail
      refine (K4.out _).mono ?_
      rintro e w4 ⟨d2, rfl, hd2, hb4⟩
      have HB4 := Lib.hid (step_below HB3.out hb4)
      have KS := Lib.hid (K5.out d d2 HD.out hd2)
      clear hb4 hd2
      go_wp2_with fail
      refine (KS.out _).mono ?_
      rintro e w5 ⟨rfl, hw⟩
      obtain rfl := hw.symm
      go_wp2_with fail
      refine (KW.out _ HB4.out).mono ?_
      rintro e w7 ⟨rfl, hb7⟩
      have HB7 := Lib.hid hb7
      clear hb7
      go_wp2
      exact HP.out _ HB7.out
end Go.Proofs.YtbmmoclaijoofaaGreatDoor
