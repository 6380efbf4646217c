/- The walk of the law RangesBack. -/
import Derived.Test.YtjckcdemkpmheaaDoorRngAg
namespace Go.Proofs.YtjckcdemkpmheaaDoor
open Go.RowKit Go.BigFrame

def BackFits (s : ByteArray) (r : List (List Bd)) (v : ByteArray) : Prop := s.size ≤ 1000 ∧ SmallR r ∧ v.size ≤ 60
set_option maxRecDepth 100000 in
set_option maxHeartbeats 4000000 in
/-- From the third statement on: what is printed is parsed as what allows the same. -/
theorem rangesBack_walk (s : ByteArray) (a : Value) (r : List (List Bd)) (v : ByteArray) (w : World) (_ : True) (hs : s.size ≤ maxLen) (ha : RngAt w a r) (hv : v.size ≤ maxLen) : Calls Tryd.prog 6 #[.string s, a, .string v] w fun e w' => e = .returned (.bool true) ∧ Below w.heap.size w w' := by
  have HSM := Lib.hid (smallR_any a r w ha)
  have HA := Lib.hid ha
  clear ha
  unfold maxLen at hs hv
  by_cases hsl : s.size ≤ 1000
  · have hslI : ¬ (s.size : Int) > 1000 := by omega
    go_enter Tryd.func6, Tryd.ntmps6
    go_wp2_with fail
    refine HSM.out.mono ?_
    rintro e w0 ⟨b, rfl, hsm, rfl⟩
    cases b
    · clear hsm
      go_wp2_with fail
      refine (works_any _).mono ?_
      rintro e w4 ⟨rfl, hb4⟩
      go_wp2
      go_ret
      exact ⟨rfl, hb4⟩
    · have HS := Lib.hid (hsm rfl)
      clear hsm HSM
      by_cases hvl : v.size ≤ 60
      · have hvlI : ¬ (v.size : Int) > 60 := by omega
        have HSH := Lib.hid HS.out.short
        have fin : ∀ w1 : World, Below w0.heap.size w0 w1 → True := fun _ _ => trivial
        clear fin
        cases hm : mayR (rowsB s)
        all_goals cases hr : mayR r
        · have HM := Lib.hid hm
          have HR := Lib.hid hr
          have HPR := Lib.hid (show prE r = 2 by rw [prE_is r _ hr]; rfl)
          have HAL := Lib.hid (show allowR r v = false by unfold allowR; rw [hr, Bool.false_and])
          clear hm hr
          go_wp2_with fail
          refine (rparse_no s _ (by omega) HM.out).mono ?_
          rintro e w1 ⟨rfl, hb1⟩
          have HA1 := Lib.hid (HA.out.below hb1)
          go_wp2_with fail
          refine (print_is _ _ r _ _ HA1.out HSH.out ⟨rfl, HPR.out⟩).mono ?_
          rintro e w2 ⟨rfl, hb2⟩
          have HA2 := Lib.hid (HA1.out.below hb2)
          replace hb1 := below_step hb1 hb2 hb1.size
          clear hb2
          go_wp2_with fail
          refine (allow_is false r _ v _ HA2.out HSH.out (by omega) HAL.out).mono ?_
          rintro e w3 ⟨rfl, hb3⟩
          replace hb1 := below_step hb1 hb3 hb1.size
          clear hb3
          go_wp2_with fail
          refine (works_any _).mono ?_
          rintro e w4 ⟨rfl, hb4⟩
          go_wp2
          go_ret
          exact ⟨rfl, below_step hb1 hb4 hb1.size⟩
        · have HM := Lib.hid hm
          have HR := Lib.hid hr
          have HPR := Lib.hid (show prE r = 0 by rw [prE_is r _ hr]; rfl)
          have HBK := Lib.hid (back_allow r v hr)
          have HTZ := Lib.hid (print_size r HS.out)
          clear hm hr
          obtain ⟨t, ht⟩ : ∃ t, t = prS r := ⟨_, rfl⟩
          rw [← ht] at HBK HTZ
          have HT := Lib.hid ht.symm
          obtain ⟨ok, hok⟩ : ∃ ok, ok = allowR r v := ⟨_, rfl⟩
          rw [← hok] at HBK
          have HOK := Lib.hid hok.symm
          have e1 : (ok == ok) = true := bool_eqs ok
          clear ht hok
          go_wp2_with fail
          refine (rparse_no s _ (by omega) HM.out).mono ?_
          rintro e w1 ⟨rfl, hb1⟩
          have HA1 := Lib.hid (HA.out.below hb1)
          go_wp2_with fail
          refine (print_is t 0 r _ _ HA1.out HSH.out ⟨HT.out, HPR.out⟩).mono ?_
          rintro e w2 ⟨rfl, hb2⟩
          have HA2 := Lib.hid (HA1.out.below hb2)
          replace hb1 := below_step hb1 hb2 hb1.size
          clear hb2
          go_wp2_with fail
          refine (rparse_yes t _ HTZ.out HBK.out.1).mono ?_
          rintro e w3 ⟨u, rfl, hu, hb3⟩
          have HA3 := Lib.hid (HA2.out.below hb3)
          have HU := Lib.hid hu
          replace hb1 := below_step hb1 hb3 hb1.size
          clear hb3 hu
          go_wp2_with fail
          refine (allow_is ok _ u v _ HU.out (rows_short t HTZ.out) (by omega) HBK.out.2).mono ?_
          rintro e w4 ⟨rfl, hb4⟩
          have HA4 := Lib.hid (HA3.out.below hb4)
          replace hb1 := below_step hb1 hb4 hb1.size
          clear hb4
          go_wp2_with fail
          refine (allow_is ok r _ v _ HA4.out HSH.out (by omega) HOK.out).mono ?_
          rintro e w5 ⟨rfl, hb5⟩
          replace hb1 := below_step hb1 hb5 hb1.size
          clear hb5
          go_wp2_with fail
          refine (works_any _).mono ?_
          rintro e w6 ⟨rfl, hb6⟩
          go_wp2
          go_ret
          exact ⟨rfl, below_step hb1 hb6 hb1.size⟩
        · have HM := Lib.hid hm
          have HR := Lib.hid hr
          have HPP := Lib.hid (print_parse s hm)
          have HSS := Lib.hid (rows_short s (by omega))
          have HPR := Lib.hid (show prE r = 2 by rw [prE_is r _ hr]; rfl)
          have HAL := Lib.hid (show allowR r v = false by unfold allowR; rw [hr, Bool.false_and])
          have e1 : (s.toList != s.toList) = false := by simp
          clear hm hr
          go_wp2_with fail
          refine (rparse_yes s _ (by omega) HM.out).mono ?_
          rintro e w1 ⟨u, rfl, hu, hb1⟩
          have HA1 := Lib.hid (HA.out.below hb1)
          have HU := Lib.hid hu
          clear hu
          go_wp2_with fail
          refine (print_is s 0 _ u _ HU.out HSS.out HPP.out).mono ?_
          rintro e w2 ⟨rfl, hb2⟩
          have HA2 := Lib.hid (HA1.out.below hb2)
          replace hb1 := below_step hb1 hb2 hb1.size
          clear hb2
          go_wp2_with fail
          refine (print_is _ _ r _ _ HA2.out HSH.out ⟨rfl, HPR.out⟩).mono ?_
          rintro e w3 ⟨rfl, hb3⟩
          have HA3 := Lib.hid (HA2.out.below hb3)
          replace hb1 := below_step hb1 hb3 hb1.size
          clear hb3
          go_wp2_with fail
          refine (allow_is false r _ v _ HA3.out HSH.out (by omega) HAL.out).mono ?_
          rintro e w4 ⟨rfl, hb4⟩
          replace hb1 := below_step hb1 hb4 hb1.size
          clear hb4
          go_wp2_with fail
          refine (works_any _).mono ?_
          rintro e w5 ⟨rfl, hb5⟩
          go_wp2
          go_ret
          exact ⟨rfl, below_step hb1 hb5 hb1.size⟩
        · have HM := Lib.hid hm
          have HR := Lib.hid hr
          have HPP := Lib.hid (print_parse s hm)
          have HSS := Lib.hid (rows_short s (by omega))
          have HPR := Lib.hid (show prE r = 0 by rw [prE_is r _ hr]; rfl)
          have HBK := Lib.hid (back_allow r v hr)
          have HTZ := Lib.hid (print_size r HS.out)
          have e1 : (s.toList != s.toList) = false := by simp
          clear hm hr
          obtain ⟨t, ht⟩ : ∃ t, t = prS r := ⟨_, rfl⟩
          rw [← ht] at HBK HTZ
          have HT := Lib.hid ht.symm
          obtain ⟨ok, hok⟩ : ∃ ok, ok = allowR r v := ⟨_, rfl⟩
          rw [← hok] at HBK
          have HOK := Lib.hid hok.symm
          have e2 : (ok == ok) = true := bool_eqs ok
          clear ht hok
          go_wp2_with fail
          refine (rparse_yes s _ (by omega) HM.out).mono ?_
          rintro e w1 ⟨u0, rfl, hu, hb1⟩
          have HA1 := Lib.hid (HA.out.below hb1)
          have HU0 := Lib.hid hu
          clear hu
          go_wp2_with fail
          refine (print_is s 0 _ u0 _ HU0.out HSS.out HPP.out).mono ?_
          rintro e w2 ⟨rfl, hb2⟩
          have HA2 := Lib.hid (HA1.out.below hb2)
          replace hb1 := below_step hb1 hb2 hb1.size
          clear hb2
          go_wp2_with fail
          refine (print_is t 0 r _ _ HA2.out HSH.out ⟨HT.out, HPR.out⟩).mono ?_
          rintro e w3 ⟨rfl, hb3⟩
          have HA3 := Lib.hid (HA2.out.below hb3)
          replace hb1 := below_step hb1 hb3 hb1.size
          clear hb3
          go_wp2_with fail
          refine (rparse_yes t _ HTZ.out HBK.out.1).mono ?_
          rintro e w4 ⟨u, rfl, hu, hb4⟩
          have HA4 := Lib.hid (HA3.out.below hb4)
          have HU := Lib.hid hu
          replace hb1 := below_step hb1 hb4 hb1.size
          clear hb4 hu
          go_wp2_with fail
          refine (allow_is ok _ u v _ HU.out (rows_short t HTZ.out) (by omega) HBK.out.2).mono ?_
          rintro e w5 ⟨rfl, hb5⟩
          have HA5 := Lib.hid (HA4.out.below hb5)
          replace hb1 := below_step hb1 hb5 hb1.size
          clear hb5
          go_wp2_with fail
          refine (allow_is ok r _ v _ HA5.out HSH.out (by omega) HOK.out).mono ?_
          rintro e w6 ⟨rfl, hb6⟩
          replace hb1 := below_step hb1 hb6 hb1.size
          clear hb6
          go_wp2_with fail
          refine (works_any _).mono ?_
          rintro e w7 ⟨rfl, hb7⟩
          go_wp2
          go_ret
          exact ⟨rfl, below_step hb1 hb7 hb1.size⟩
      · have hvlI : (v.size : Int) > 60 := by omega
        go_wp2_with fail
        refine (works_any _).mono ?_
        rintro e w4 ⟨rfl, hb4⟩
        go_wp2
        go_ret
        exact ⟨rfl, hb4⟩
  · have hslI : (s.size : Int) > 1000 := by omega
    go_enter Tryd.func6, Tryd.ntmps6
    go_wp2_with fail
    refine (works_any _).mono ?_
    rintro e w4 ⟨rfl, hb4⟩
    go_wp2
    go_ret
    exact ⟨rfl, hb4⟩
end Go.Proofs.YtjckcdemkpmheaaDoor
