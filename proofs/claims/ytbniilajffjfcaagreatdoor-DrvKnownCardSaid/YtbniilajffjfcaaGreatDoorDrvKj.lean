/- drv's laws: the walk of DrvHolds. -/
import Derived.Test.YtbniilajffjfcaaGreatDoorDrvKh
import Derived.Test.YtbniilajffjfcaaGreatDoorDrvKi
set_option linter.unusedVariables false
set_option linter.unusedSimpArgs false
namespace Go.Proofs.YtbniilajffjfcaaGreatDoor
open Go.RowKit Go.BigFrame Go.Maps
open Drv (posO edges edgeAt dupB)

set_option maxRecDepth 100000 in
set_option maxHeartbeats 8000000 in
theorem drvHolds_walk (a : Value) (names : List ByteArray) (b : Value) (needs : List (List ByteArray)) (c : Value) (roots : List ByteArray) (more : ByteArray) (w : World) (ht : Sha.Tabs w) (ha : TRow w AllB a names) (hs : Small names) (hb : TextsAt w b needs) (hss : ∀ r ∈ needs, Small r) (hc : TRow w AllB c roots) (hcs : Small roots) (hm : more.size ≤ maxLen) :
    Calls Tryz.prog 12 #[a, b, c, .string more] w fun e w' => e = .returned (.bool true) ∧ Below w.heap.size w w' := by
  by_cases hall : graphB names needs = true ∧ shortB roots 30 = true ∧ more.size ≤ 200 ∧ dupB names = false
  · obtain ⟨hg, hg2, hmo, hdn⟩ := hall
    by_cases hs0 : sortC names needs = 0
    · exact holds_sorted a names b needs c roots more w ht ha hs hb hss hc hcs hmo hg hg2 hdn hs0
    · exact holds_circle a names b needs c roots more w ht ha hs hb hss hc hcs hmo hg hg2 hdn hs0
  have HG := Lib.hid (graph_any a b names needs w ha hb hs hss)
  unfold YesAt at HG
  have HSH := Lib.hid (fun (w1 : World) (h : Below w.heap.size w w1) => short_any c roots 30 w1 (RdS.below hc h) hcs (by omega))
  unfold YesAt at HSH
  have HA := Lib.hid (fun (w1 : World) (h : Below w.heap.size w w1) => show TRow w1 AllB a names from RdS.below ha h)
  have HB := Lib.hid (fun (w1 : World) (h : Below w.heap.size w w1) => show TextsAt w1 b needs from hb.below h)
  have HC := Lib.hid (fun (w1 : World) (h : Below w.heap.size w w1) => show TRow w1 AllB c roots from RdS.below hc h)
  have HT := Lib.hid (fun (w1 : World) (h : Below w.heap.size w w1) => works_any w1 (ht.below h))
  obtain ⟨A, ca, rfl, _, _⟩ := RdS.form ha
  obtain ⟨B, cb, rfl, _, _⟩ := OutS.form hb
  obtain ⟨C, cc, rfl, _, _⟩ := RdS.form hc
  unfold maxLen at hm
  clear ha hb ht hs hss hc hcs
  go_enter Tryz.func12, Tryz.ntmps12
  cases hg : graphB names needs
  · rw [hg] at HG
    clear hg
    go_wp2_with fail
    refine HG.out.mono ?_
    rintro e w1 ⟨rfl, nq, hw⟩
    have HB1 := Lib.hid (show Below w.heap.size w w1 by rw [hw]; exact below_drewN (Below.refl _ _) _)
    clear hw
    go_wp2_with fail
    refine (HT.out w1 HB1.out).mono ?_
    rintro e w2 ⟨rfl, hb2⟩
    have HB2 := Lib.hid (step HB1.out hb2)
    clear hb2
    go_wp2
    go_ret
    exact ⟨rfl, HB2.out⟩
  have HF := Lib.hid (graphB_few hg)
  have HGT := Lib.hid hg
  rw [hg] at HG
  clear hg
  cases hg : shortB roots 30
  · rw [hg] at HSH
    clear hg
    go_wp2_with fail
    refine HG.out.mono ?_
    rintro e w0 ⟨rfl, nq, hw⟩
    have HB0 := Lib.hid (show Below w.heap.size w w0 by rw [hw]; exact below_drewN (Below.refl _ _) _)
    clear hw
    go_wp2_with fail
    refine (HSH.out w0 HB0.out).mono ?_
    rintro e w1 ⟨rfl, nq, hw⟩
    have HB1 := Lib.hid (show Below w.heap.size w w1 by rw [hw]; exact below_drewN HB0.out _)
    clear hw
    go_wp2_with fail
    refine (HT.out w1 HB1.out).mono ?_
    rintro e w2 ⟨rfl, hb2⟩
    have HB2 := Lib.hid (step HB1.out hb2)
    clear hb2
    go_wp2
    go_ret
    exact ⟨rfl, HB2.out⟩
  have HRS := Lib.hid (shortB_small hg)
  have HST := Lib.hid hg
  rw [hg] at HSH
  clear hg
  by_cases hmo : more.size ≤ 200
  case neg =>
    have hmi : (200 : Int) < (more.size : Int) := by omega
    go_wp2_with fail
    refine HG.out.mono ?_
    rintro e w0 ⟨rfl, nq, hw⟩
    have HB0 := Lib.hid (show Below w.heap.size w w0 by rw [hw]; exact below_drewN (Below.refl _ _) _)
    clear hw
    go_wp2_with fail
    refine (HSH.out w0 HB0.out).mono ?_
    rintro e w1 ⟨rfl, nq, hw⟩
    have HB1 := Lib.hid (show Below w.heap.size w w1 by rw [hw]; exact below_drewN HB0.out _)
    clear hw
    go_wp2_with fail
    refine (HT.out w1 HB1.out).mono ?_
    rintro e w2 ⟨rfl, hb2⟩
    have HB2 := Lib.hid (step HB1.out hb2)
    clear hb2
    go_wp2
    go_ret
    exact ⟨rfl, HB2.out⟩
  have hmi : ¬ (200 : Int) < (more.size : Int) := by omega
  have hr30 := HRS.out.1
  go_wp2_with fail
  refine HG.out.mono ?_
  rintro e w0 ⟨rfl, nq, hw⟩
  have HB0 := Lib.hid (show Below w.heap.size w w0 by rw [hw]; exact below_drewN (Below.refl _ _) _)
  clear hw
  go_wp2_with fail
  refine (HSH.out w0 HB0.out).mono ?_
  rintro e w1 ⟨rfl, nq, hw⟩
  have HB1 := Lib.hid (show Below w.heap.size w w1 by rw [hw]; exact below_drewN HB0.out _)
  clear hw
  go_wp2_with fail
  refine (sort_is _ _ names needs w1 (HA.out w1 HB1.out) (HB.out w1 HB1.out) HF.out.1 _ _ rfl rfl).mono ?_
  rintro e w2 ⟨A2, c2, rfl, hb2, hi2⟩
  have HB2 := Lib.hid (step HB1.out hb2)
  have HI2 := Lib.hid hi2
  clear hb2 hi2
  go_wp2_with fail
  refine (clos_is _ _ _ names needs roots w2 (HA.out w2 HB2.out) (HB.out w2 HB2.out) (HC.out w2 HB2.out) HF.out.1 (by omega) HRS.out.2.2 _ _ rfl rfl).mono ?_
  rintro e w3 ⟨A3, c3, rfl, hb3, hi3⟩
  have HB3 := Lib.hid (step HB2.out hb3)
  have HI3 := Lib.hid hi3
  have HL3 := Lib.hid (RdS.below HI2.out hb3)
  clear hb3 hi3 HI2
  by_cases hcc : closC names = 0
  case neg =>
    obtain ⟨hdu, hc151⟩ := closC_two hcc
    have hs151 := sortC_two (needs := needs) hdu
    rw [hc151, hs151]
    go_wp2_with fail
    refine (HT.out w3 HB3.out).mono ?_
    rintro e w4 ⟨rfl, hb4⟩
    have HB4 := Lib.hid (step HB3.out hb4)
    clear hb4
    go_wp2
    go_ret
    exact ⟨rfl, HB4.out⟩
  exact hall.elim ⟨HGT.out, HST.out, hmo, by
    cases hd : dupB names with
    | false => rfl
    | true => unfold closC at hcc; rw [hd] at hcc; simp at hcc⟩
end Go.Proofs.YtbniilajffjfcaaGreatDoor
