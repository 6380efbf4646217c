/- numbers: works. -/
import Derived.Test.YtbmmoclaijoofaaGreatDoorNumVg
set_option linter.unusedVariables false
set_option linter.unusedSimpArgs false
namespace Go.Proofs.YtbmmoclaijoofaaGreatDoor
open Go.RowKit Go.BigFrame
open Num (nanB sg rg rv sv tv key eqF ltF cmpI wd infR R53 P0 wholeR flN ONE TWO decS expS textR textN oddM oddE)

theorem q_inf : Go.floatBits .quo .f64 4607182418800017408 0 = some 9218868437227405312 := by kernel_rfl
theorem q_m : Go.floatBits .quo .f64 13830554455654793216 9218868437227405312 = some 9223372036854775808 := by kernel_rfl
theorem q_half : Go.floatBits .quo .f64 1 4611686018427387904 = some 0 := by kernel_rfl
theorem s_eq (x : ByteArray) : (x.toList == x.toList) = true := by rw [str_eq_is]; simp
set_option maxRecDepth 100000 in
set_option maxHeartbeats 4000000 in
theorem works_any (w : World) (he : ErrsW w) (ht : TabW w) : Calls Tryz.prog 12 #[] w fun e w' => e = .returned (.bool true) ∧ Below w.heap.size w w' := by
  obtain ⟨nn, hn1, hn2, hnan⟩ := run_nan (P := Tryz.prog) w .quo 25 0 0 (by simp) zz
  have HB := Lib.hid (show Below w.heap.size w w.drew from (Below.refl _ _).drew)
  have HP := Lib.hid (fun (w' : World) (hb : Below w.heap.size w w') => show (fun (e : Ending) (w' : World) => e = .returned (.bool true) ∧ Below w.heap.size w w') (.returned (.bool true)) w' from ⟨rfl, hb⟩)
  generalize (fun (e : Ending) (w' : World) => e = .returned (.bool true) ∧ Below w.heap.size w w') = post at *
  have K1 := Lib.hid (fun (w1 : World) (hb : Below w.heap.size w w1) => ex_parse_least w w1 he ht hb)
  have K2 := Lib.hid (fun (w1 : World) (hb : Below w.heap.size w w1) => ex_parse_01 w w1 he ht hb)
  have K3 := Lib.hid (fun (w1 : World) (hb : Below w.heap.size w w1) => ex_parse_2p3 w w1 he ht hb)
  have K4 := Lib.hid (fun (w1 : World) (hb : Below w.heap.size w w1) => ex_do w w1 hb)
  have K5 := Lib.hid (fun (w1 : World) (hb : Below w.heap.size w w1) => ex_print_12 w w1 ht hb)
  have K6 := Lib.hid (fun (w1 : World) (hb : Below w.heap.size w w1) => ex_print_half w w1 ht hb)
  have K7 := Lib.hid (fun (w1 : World) (hb : Below w.heap.size w w1) => ex_print_3p60 w w1 ht hb)
  have K8 := Lib.hid (fun (w1 : World) (hb : Below w.heap.size w w1) => ex_print_third w w1 ht hb)
  have K9 := Lib.hid ex_cmp0
  have KA := Lib.hid (fun (w1 : World) (hb : Below w.heap.size w w1) => ex_down0 w w1 hb)
  have KB := Lib.hid ex_same0
  have KC := Lib.hid (ex_cmp1 nn hn1 hn2)
  have KD := Lib.hid (ex_cmp2 nn hn2)
  have KE := Lib.hid (fun (w1 : World) (hb : Below w.heap.size w w1) => ex_down1 w w1 hb)
  have KF := Lib.hid (ex_least nn hn1 hn2 w)
  have KG := Lib.hid ex_same1
  clear he ht hn1 hn2
  have r1 := fun w1 => run_float_arith (P := Tryz.prog) w1 .quo 25 .f64 _ _ _ q_inf
  have r2 := fun w1 => run_float_arith (P := Tryz.prog) w1 .quo 25 .f64 _ _ _ q_m
  have r3 := fun w1 => run_float_arith (P := Tryz.prog) w1 .quo 25 .f64 _ _ _ q_half
  have r4 := fun w1 => run_neg (P := Tryz.prog) 9218868437227405312 18442240474082181120 ((Num.neg_bits (by decide)).trans (by decide)) w1
  have c1 := (Num.ord_gt 1 0).trans (by decide : _ = true)
  have c2 := (Num.ord_eq 0 0).trans (by decide : _ = true)
  have c3 := (Num.ord_eq 18442240474082181120 18442240474082181120).trans ((Num.eqF_self _).trans (by decide : _ = true))
  have c4 := (Num.ord_eq 13835058055282163712 13835058055282163712).trans ((Num.eqF_self _).trans (by decide : _ = true))
  have s12 := s_eq ⟨#[49, 50]⟩
  have shalf := s_eq ⟨#[45, 49, 112, 45, 49]⟩
  have s3p60 := s_eq ⟨#[51, 112, 54, 48]⟩
  have sthird := s_eq ⟨#[54, 48, 48, 52, 55, 57, 57, 53, 48, 51, 49, 54, 48, 54, 54, 49, 112, 45, 53, 52]⟩
  go_enter Tryz.func12, Tryz.ntmps12
  go_wp2_with fail
  refine (K1.out _ HB.out).mono ?_
  rintro e w1 ⟨rfl, hb1⟩
  have HB1 := Lib.hid hb1
  clear hb1 HB
  go_wp2_with fail
  refine (K2.out _ HB1.out).mono ?_
  rintro e w2 ⟨rfl, hb2⟩
  have HB2 := Lib.hid hb2
  clear hb2 HB1
  go_wp2_with fail
  refine (K3.out _ HB2.out).mono ?_
  rintro e w3 ⟨rfl, hb3⟩
  have HB3 := Lib.hid hb3
  clear hb3 HB2
  go_wp2_with fail
  refine (K4.out _ HB3.out).mono ?_
  rintro e w4 ⟨rfl, hb4⟩
  have HB4 := Lib.hid hb4
  clear hb4 HB3
  go_wp2_with fail
  refine (K5.out _ HB4.out).mono ?_
  rintro e w5 ⟨rfl, hb5⟩
  have HB5 := Lib.hid hb5
  clear hb5 HB4
  go_wp2_with fail
  refine (K6.out _ HB5.out).mono ?_
  rintro e w6 ⟨rfl, hb6⟩
  have HB6 := Lib.hid hb6
  clear hb6 HB5
  go_wp2_with fail
  refine (K7.out _ HB6.out).mono ?_
  rintro e w7 ⟨rfl, hb7⟩
  have HB7 := Lib.hid hb7
  clear hb7 HB6
  go_wp2_with fail
  refine (K8.out _ HB7.out).mono ?_
  rintro e w8 ⟨rfl, hb8⟩
  have HB8 := Lib.hid hb8
  clear hb8 HB7
  go_wp2_with fail
  refine (K9.out _).mono ?_
  rintro e w9 ⟨rfl, hw⟩
  obtain rfl := hw.symm
  go_wp2_with fail
  refine (KA.out _ HB8.out).mono ?_
  rintro e w10 ⟨rfl, hb10⟩
  have HB10 := Lib.hid hb10
  clear hb10 HB8
  go_wp2_with fail
  refine (KB.out _).mono ?_
  rintro e w11 ⟨rfl, hw⟩
  obtain rfl := hw.symm
  go_wp2_with fail
  refine (KC.out _).mono ?_
  rintro e w12 ⟨rfl, hw⟩
  obtain rfl := hw.symm
  go_wp2_with fail
  refine (KD.out _).mono ?_
  rintro e w13 ⟨rfl, hw⟩
  obtain rfl := hw.symm
  go_wp2_with fail
  refine (KE.out _ HB10.out).mono ?_
  rintro e w14 ⟨rfl, hb14⟩
  have HB14 := Lib.hid hb14
  clear hb14 HB10
  go_wp2_with fail
  refine (KF.out _ _ ?c1 ?c2 ?c3 ?c4 ?c5).mono ?_
  case c1 => show _ < (Array.push _ _).size; rw [Array.size_push]; exact Nat.lt_succ_self _
  case c2 => exact HB14.out.alloc HB14.out.size _
  case c3 => exact (cell_of_row _ _ _ _ _ _ (heap_alloc_new _ _)).trans rfl
  case c4 => exact (cell_of_row _ _ _ _ _ _ (heap_alloc_new _ _)).trans rfl
  case c5 => exact (cell_of_row _ _ _ _ _ _ (heap_alloc_new _ _)).trans rfl
  rintro e wl ⟨⟨r, rfl, hr1, hr2⟩, hbl⟩
  have KZ := Lib.hid (KG.out r hr1 hr2)
  have HBL := Lib.hid hbl
  clear hr1 hr2 hbl
  go_wp2_with fail
  refine (KZ.out _).mono ?_
  rintro e w15 ⟨rfl, hw⟩
  obtain rfl := hw.symm
  go_wp2
  exact HP.out _ HBL.out
end Go.Proofs.YtbmmoclaijoofaaGreatDoor
