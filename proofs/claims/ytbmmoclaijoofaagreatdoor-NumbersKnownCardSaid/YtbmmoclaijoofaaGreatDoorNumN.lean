/- numbers: the reference's Print. -/
import Derived.Test.YtbmmoclaijoofaaGreatDoorNumM
set_option linter.unusedVariables false
set_option linter.unusedSimpArgs false
namespace Go.Proofs.YtbmmoclaijoofaaGreatDoor
open Go.RowKit Go.BigFrame
open Num (nanB sg rg rv sv tv key eqF ltF cmpI wd infR R53 P0 wholeR flN decS expS textR textN oddM oddE)

theorem digits_int (z : Int) (n : Nat) (hz : z = (n : Int)) (hn : n < 9007199254740993) (w : World) : Calls Tryz.prog 40 #[.int .i64 z] w fun e w' => e = .returned (.string (decS n)) ∧ Below w.heap.size w w' := by
  subst hz; exact digits_any n hn w
theorem oddE_le {x : Nat} (hx : x ≤ infR) : oddE x ≤ 2200 := by
  have h2 := Num.twos_le 53 (Num.mag x)
  have h3 : x / 2 ^ 52 ≤ 2047 := by have : infR = 2047 * 2 ^ 52 := rfl; omega
  unfold Num.oddE Num.up
  split <;> omega
theorem text_minus (a d : ByteArray) : a ++ ⟨#[112, 45]⟩ ++ d = a ++ ⟨#[112]⟩ ++ (⟨#[45]⟩ ++ d) := by
  apply str_ext
  simp
set_option maxRecDepth 100000 in
set_option maxHeartbeats 4000000 in
theorem refPrint_pos (x : Nat) (w : World) (hx : x ≤ infR) : Calls Tryz.prog 15 #[.float .f64 x] w (TextPost (textR x) w) := by
  have HP := Lib.hid (fun (s : ByteArray) (w' : World) (h : s = textR x) (hb : Below w.heap.size w w') => show TextPost (textR x) w (.returned (.string s)) w' from ⟨by rw [h], hb⟩)
  generalize TextPost (textR x) w = post at *
  have h63 : x < 2 ^ 63 := by have := Num.infR_lt; omega
  obtain ⟨hs, hr⟩ := Num.pos_bits h63
  have hn : nanB x = false := by unfold Num.nanB; rw [hr]; simp; omega
  have HN := Lib.hid (nan_any x w)
  rw [hn] at HN
  have HM := Lib.hid (minus_any x w (by omega))
  rw [show Num.minusB x = false by unfold Num.minusB; rw [hs, Bool.and_false]] at HM
  have HF := Lib.hid (finite_any x w)
  rw [hr] at HF
  by_cases hi : x = infR
  · rw [decide_eq_false (by omega)] at HF
    have HTX := Lib.hid (show (⟨#[105, 110, 102]⟩ : ByteArray) = textR x by unfold Num.textR; rw [if_pos hi])
    clear hx h63 hs hr hn hi
    go_enter Tryz.func15, Tryz.ntmps15
    go_wp2_with fail
    refine HN.out.mono ?_
    rintro e w' ⟨rfl, hw⟩
    obtain rfl := hw.symm
    go_wp2_with fail
    refine HM.out.mono ?_
    rintro e w' ⟨rfl, hw⟩
    obtain rfl := hw.symm
    go_wp2_with fail
    refine HF.out.mono ?_
    rintro e w1 ⟨rfl, hb1⟩
    have HB1 := Lib.hid (hb1)
    clear hb1
    go_wp2
    exact HP.out _ w1 HTX.out HB1.out
  · have hlt : x < infR := by omega
    rw [decide_eq_true hlt] at HF
    have HW := Lib.hid (fun w1 => refwhole_any x w1 hn hs)
    unfold wholeI at HW
    rw [hs, hr] at HW
    cases hw : wholeR x
    · have hx0 : 0 < x := by
        rcases Nat.eq_zero_or_pos x with h | h
        · subst h; rw [Num.wholeR_zero] at hw; cases hw
        · exact h
      have HTX := Lib.hid (show textR x = decS (oddM x) ++ ⟨#[112]⟩ ++ expS ((oddE x : Int) - 1074) by unfold Num.textR; rw [if_neg hi, hw]; rfl)
      rw [hw] at HW
      have HPT := Lib.hid (fun w1 => parts_any x w1 hx0 hlt)
      unfold PartsPost at HPT
      have HD1 := Lib.hid (fun w1 => digits_any (oddM x) (by have := Num.oddM_lt x; omega) w1)
      have hol := oddE_le hx
      have hz1 := decS_size (oddM x) (by have := Num.oddM_lt x; omega)
      by_cases hneg : (oddE x : Int) - 1074 < 0
      · have HD2 := Lib.hid (fun w1 => digits_int (-((oddE x : Int) - 1074)) (-((oddE x : Int) - 1074)).toNat (by omega) (by omega) w1)
        have hz2 := decS_size (-((oddE x : Int) - 1074)).toNat (by omega)
        have HFIN := Lib.hid (show decS (oddM x) ++ ⟨#[112, 45]⟩ ++ decS (-((oddE x : Int) - 1074)).toNat = textR x by
          rw [HTX.out, text_minus]
          unfold Num.expS
          rw [if_pos hneg])
        have hlo : -1074 ≤ (oddE x : Int) - 1074 := by omega
        clear hx h63 hs hr hn hi hlt hw hx0 HTX hol
        generalize (oddE x : Int) - 1074 = E at *
        generalize decS (-E).toNat = s2 at *
        generalize decS (oddM x) = s1 at *
        generalize oddM x = m at *
        go_enter Tryz.func15, Tryz.ntmps15
        go_wp2_with fail
        refine HN.out.mono ?_
        rintro e w' ⟨rfl, hw⟩
        obtain rfl := hw.symm
        go_wp2_with fail
        refine HM.out.mono ?_
        rintro e w' ⟨rfl, hw⟩
        obtain rfl := hw.symm
        go_wp2_with fail
        refine HF.out.mono ?_
        rintro e w1 ⟨rfl, hb1⟩
        have HB1 := Lib.hid (hb1)
        clear hb1
        go_wp2_with fail
        refine (HW.out w1).mono ?_
        rintro e w' ⟨rfl, hw⟩
        obtain rfl := hw.symm
        go_wp2_with fail
        refine (HPT.out w1).mono ?_
        rintro e w' ⟨rfl, hw⟩
        obtain rfl := hw.symm
        go_wp2_with fail
        refine (HD1.out w1).mono ?_
        rintro e w2 ⟨rfl, hb2⟩
        have HB2 := Lib.hid (step_below HB1.out hb2)
        clear hb2
        go_wp2_with fail
        refine (HD2.out w2).mono ?_
        rintro e w3 ⟨rfl, hb3⟩
        have HB3 := Lib.hid (step_below HB2.out hb3)
        clear hb3
        go_wp2
        exact HP.out _ w3 HFIN.out HB3.out
      · have HD2 := Lib.hid (fun w1 => digits_int ((oddE x : Int) - 1074) ((oddE x : Int) - 1074).toNat (by omega) (by omega) w1)
        have hz2 := decS_size ((oddE x : Int) - 1074).toNat (by omega)
        have HFIN := Lib.hid (show decS (oddM x) ++ ⟨#[112]⟩ ++ decS ((oddE x : Int) - 1074).toNat = textR x by
          rw [HTX.out]
          unfold Num.expS
          rw [if_neg hneg])
        have hlo : (oddE x : Int) - 1074 ≤ 2200 := by omega
        clear hx h63 hs hr hn hi hlt hw hx0 HTX hol
        generalize (oddE x : Int) - 1074 = E at *
        generalize decS E.toNat = s2 at *
        generalize decS (oddM x) = s1 at *
        generalize oddM x = m at *
        go_enter Tryz.func15, Tryz.ntmps15
        go_wp2_with fail
        refine HN.out.mono ?_
        rintro e w' ⟨rfl, hw⟩
        obtain rfl := hw.symm
        go_wp2_with fail
        refine HM.out.mono ?_
        rintro e w' ⟨rfl, hw⟩
        obtain rfl := hw.symm
        go_wp2_with fail
        refine HF.out.mono ?_
        rintro e w1 ⟨rfl, hb1⟩
        have HB1 := Lib.hid (hb1)
        clear hb1
        go_wp2_with fail
        refine (HW.out w1).mono ?_
        rintro e w' ⟨rfl, hw⟩
        obtain rfl := hw.symm
        go_wp2_with fail
        refine (HPT.out w1).mono ?_
        rintro e w' ⟨rfl, hw⟩
        obtain rfl := hw.symm
        go_wp2_with fail
        refine (HD1.out w1).mono ?_
        rintro e w2 ⟨rfl, hb2⟩
        have HB2 := Lib.hid (step_below HB1.out hb2)
        clear hb2
        go_wp2_with fail
        refine (HD2.out w2).mono ?_
        rintro e w3 ⟨rfl, hb3⟩
        have HB3 := Lib.hid (step_below HB2.out hb3)
        clear hb3
        go_wp2
        exact HP.out _ w3 HFIN.out HB3.out
    · have hb := (Num.tv_of hw).2
      have HTX := Lib.hid (show decS (tv x) = textR x by unfold Num.textR; rw [if_neg hi, hw]; rfl)
      rw [hw] at HW
      have HD1 := Lib.hid (fun w1 => digits_any (tv x) (by omega) w1)
      clear hx h63 hs hr hn hi hlt hw
      have hvi : (if true = true then valI false (tv x) else 0) = (tv x : Int) := rfl
      rw [hvi] at HW
      generalize tv x = n at *
      go_enter Tryz.func15, Tryz.ntmps15
      go_wp2_with fail
      refine HN.out.mono ?_
      rintro e w' ⟨rfl, hw⟩
      obtain rfl := hw.symm
      go_wp2_with fail
      refine HM.out.mono ?_
      rintro e w' ⟨rfl, hw⟩
      obtain rfl := hw.symm
      go_wp2_with fail
      refine HF.out.mono ?_
      rintro e w1 ⟨rfl, hb1⟩
      have HB1 := Lib.hid (hb1)
      clear hb1
      go_wp2_with fail
      refine (HW.out w1).mono ?_
      rintro e w' ⟨rfl, hw⟩
      obtain rfl := hw.symm
      go_wp2_with fail
      refine (HD1.out w1).mono ?_
      rintro e w2 ⟨rfl, hb2⟩
      have HB2 := Lib.hid (step_below HB1.out hb2)
      clear hb2
      go_wp2
      exact HP.out _ w2 HTX.out HB2.out
set_option maxRecDepth 100000 in
set_option maxHeartbeats 1600000 in
theorem refPrint_any (x : Nat) (w : World) (hx : x < 2 ^ 64) : Calls Tryz.prog 15 #[.float .f64 x] w (TextPost (textN x) w) := by
  cases hn : nanB x
  · have hle : rg x ≤ infR := by unfold Num.nanB at hn; rw [decide_eq_false_iff_not] at hn; omega
    cases hs : sg x
    · have hxr : rg x = x := by have := Num.wd_of hx; rw [hs] at this; exact this
      have hp := refPrint_pos x w (by omega)
      have e : textN x = textR x := by unfold Num.textN; rw [hn, hs, hxr]; rfl
      rw [e]
      exact hp
    · have HTX := Lib.hid (show textN x = ⟨#[45]⟩ ++ textR (rg x) by unfold Num.textN; rw [hn, hs]; rfl)
      have HP := Lib.hid (fun (s : ByteArray) (w' : World) (h : s = textN x) (hb : Below w.heap.size w w') => show TextPost (textN x) w (.returned (.string s)) w' from ⟨by rw [h], hb⟩)
      generalize TextPost (textN x) w = post at *
      have HN := Lib.hid (nan_any x w)
      rw [hn] at HN
      have HM := Lib.hid (minus_any x w hx)
      rw [show Num.minusB x = true by unfold Num.minusB; rw [hn, hs]; rfl] at HM
      have hng := fun w => run_neg (P := Tryz.prog) x _ (Num.neg_bits hx) w
      rw [hs, Bool.not_true, Num.wd_false] at hng
      have HR := Lib.hid (refPrint_pos (rg x) w hle)
      unfold TextPost at HR
      have hz := textR_size hle
      clear hn hle hs hx
      generalize textR (rg x) = s at *
      generalize rg x = r at *
      go_enter Tryz.func15, Tryz.ntmps15
      go_wp2_with fail
      refine HN.out.mono ?_
      rintro e w' ⟨rfl, hw⟩
      obtain rfl := hw.symm
      go_wp2_with fail
      refine HM.out.mono ?_
      rintro e w' ⟨rfl, hw⟩
      obtain rfl := hw.symm
      go_wp2_with fail
      refine HR.out.mono ?_
      rintro e w1 ⟨rfl, hb1⟩
      have HB1 := Lib.hid (hb1)
      clear hb1
      go_wp2
      exact HP.out _ w1 HTX.out.symm HB1.out
  · have HQ := Lib.hid (show TextPost (textN x) w (.returned (.string ⟨#[110, 97, 110]⟩)) w from ⟨by unfold Num.textN; rw [hn]; rfl, Below.refl _ _⟩)
    generalize TextPost (textN x) w = post at *
    have HN := Lib.hid (nan_any x w)
    rw [hn] at HN
    clear hn hx
    go_enter Tryz.func15, Tryz.ntmps15
    go_wp2_with fail
    refine HN.out.mono ?_
    rintro e w' ⟨rfl, hw⟩
    obtain rfl := hw.symm
    go_wp2
    exact HQ.out
end Go.Proofs.YtbmmoclaijoofaaGreatDoor
