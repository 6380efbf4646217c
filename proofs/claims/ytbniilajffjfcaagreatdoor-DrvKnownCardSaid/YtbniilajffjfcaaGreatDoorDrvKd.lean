/- drv's laws: the walk of DrvPut. -/
import Derived.Test.YtbniilajffjfcaaGreatDoorDrvKc
import Derived.Deep.RegionHeld3
import Derived.Test.YtbniilajffjfcaaGreatDoorDmE3
set_option linter.unusedVariables false
set_option linter.unusedSimpArgs false
namespace Go.Proofs.YtbniilajffjfcaaGreatDoor
open Go.RowKit Go.BigFrame Go.Maps

set_option maxRecDepth 100000 in
set_option maxHeartbeats 4000000 in
theorem drvPut_walk (nm : ByteArray) (v : Value) (ins : List ByteArray) (rc : ByteArray) (w : World) (ht : Sha.Tabs w) (hv : TRow w AllB v ins) (hs : Small ins) (hn : nm.size ≤ maxLen) (hr : rc.size ≤ maxLen) :
    Calls Tryz.prog 5 #[.agg #[.string nm, v, .string rc]] w fun e w' => e = .returned (.bool true) ∧ Below w.heap.size w w' := by
  have HFW := Lib.hid (fun (w1 : World) (h : Below w.heap.size w w1) => few_any nm v ins rc w1 (RdS.below hv h) hs hn hr)
  unfold YesNo at HFW
  have HT := Lib.hid (fun (w1 : World) (h : Below w.heap.size w w1) => works_any w1 (ht.below h))
  have HPU := Lib.hid (fun (w1 : World) (h : Below w.heap.size w w1) => put_any nm v ins rc w1 (RdS.below hv h) hs hn hr)
  have HPR := Lib.hid (fun (w1 : World) (h : Below w.heap.size w w1) => refPut_any nm v ins rc w1 (RdS.below hv h) hs hn hr)
  have HNA := Lib.hid (fun (w1 : World) (h : Below w.heap.size w w1) => name_any nm v ins rc w1 (ht.below h) (RdS.below hv h) hs hn hr)
  have HNR := Lib.hid (fun (w1 : World) (h : Below w.heap.size w w1) => refName_any nm v ins rc w1 (RdS.below hv h) hs hn hr)
  have HRD := Lib.hid (fun (w1 : World) (h : Below w.heap.size w w1) => right_drv nm v ins rc w1 (RdS.below hv h) hs hn hr)
  have HRR := Lib.hid (fun (w1 : World) (h : Below w.heap.size w w1) => refRight_drv nm v ins rc w1 (RdS.below hv h) hs hn hr)
  unfold YesNo at HRD HRR
  unfold TextErr at HNA HNR
  obtain ⟨A, ca, rfl, _, _⟩ := RdS.form hv
  clear hv ht hs hn hr
  go_enter Tryz.func5, Tryz.ntmps5
  go_upto_region 1 with (fail)
  obtain ⟨w1, hw1, hg1, hb1, hz1⟩ := row_new w (.cells #[.string nm, .slice A ins.length ca, .string rc] 28)
  rw [← hw1]
  have HB1 := Lib.hid hb1
  obtain ⟨hc0, hc1, hc2⟩ := three_cells hg1
  have HCE := Lib.hid (fun (x : World) (h : Below w1.heap.size w1 x) => three_cells ((h.block _ (block_lt hg1)).trans hg1))
  clear hw1 hb1 hz1 hg1
  cases hg : fewB nm ins rc
  · rw [hg] at HFW
    clear hg
    go_wp2_with fail
    refine (HFW.out w1 HB1.out).mono ?_
    rintro e w2 ⟨rfl, hb2⟩
    have HB2 := Lib.hid (step HB1.out hb2)
    clear hb2
    go_wp2_with fail
    refine (HT.out w2 HB2.out).mono ?_
    rintro e w3 ⟨rfl, hb3⟩
    have HB3 := Lib.hid (step HB2.out hb3)
    clear hb3
    go_wp2
    go_ret
    exact ⟨rfl, HB3.out⟩
  · rw [hg] at HFW
    clear hg
    go_wp2_with fail
    refine (HFW.out w1 HB1.out).mono ?_
    rintro e w2 ⟨rfl, hb2⟩
    have HX2 := Lib.hid hb2
    clear hb2 hc0 hc1 hc2
    obtain ⟨hc0, hc1, hc2⟩ := HCE.out w2 HX2.out
    go_wp2_with fail
    refine (HPU.out w2 (step HB1.out HX2.out)).mono ?_
    intro e w3 h3
    obtain ⟨A3, c3, rfl, hy3, hb3⟩ := bytes_is h3
    have HX3 := Lib.hid (step HX2.out hb3)
    have HY3 := Lib.hid hy3
    clear h3 hy3 hb3 hc0 hc1 hc2 HX2
    obtain ⟨hc0, hc1, hc2⟩ := HCE.out w3 HX3.out
    go_wp2_with fail
    refine (HPR.out w3 (step HB1.out HX3.out)).mono ?_
    intro e w4 h4
    obtain ⟨A4, c4, rfl, hy4, hb4⟩ := bytes_is h4
    have HX4 := Lib.hid (step HX3.out hb4)
    have HY4 := Lib.hid hy4
    have HY3' := Lib.hid (HY3.out.below hb4)
    clear h4 hy4 hb4 hc0 hc1 hc2 HX3 HY3
    obtain ⟨hc0, hc1, hc2⟩ := HCE.out w4 HX4.out
    go_wp2_with fail
    refine (HNA.out w4 (step HB1.out HX4.out)).mono ?_
    rintro e w5 ⟨rfl, hb5⟩
    have HX5 := Lib.hid (step HX4.out hb5)
    have HY3 := Lib.hid (HY3'.out.below hb5)
    have HY4' := Lib.hid (HY4.out.below hb5)
    clear hb5 hc0 hc1 hc2 HX4 HY3' HY4
    obtain ⟨hc0, hc1, hc2⟩ := HCE.out w5 HX5.out
    go_wp2_with fail
    refine (HNR.out w5 (step HB1.out HX5.out)).mono ?_
    rintro e w6 ⟨rfl, hb6⟩
    have HX6 := Lib.hid (step HX5.out hb6)
    have HY3' := Lib.hid (HY3.out.below hb6)
    have HY4 := Lib.hid (HY4'.out.below hb6)
    clear hb6 hc0 hc1 hc2 HX5 HY3 HY4'
    go_upto_region 7 with (fail)
    generalize putR nm ins rc = l at *
    generalize putE nm ins rc = c at *
    generalize nameR nm ins rc = s at *
    generalize nameE nm ins rc = x at *
    generalize rightD nm ins rc = b at *
    have HCV := Lib.hid (fun (y : World) (h : Below w6.heap.size w6 y) => And.intro (HY3'.out.below h).conv (HY4.out.below h).conv)
    have HCC := Lib.hid (fun (y : World) (h : Below w6.heap.size w6 y) => HCE.out y (step HX6.out h))
    have HBB := Lib.hid (fun (y : World) (h : Below w6.heap.size w6 y) => step HB1.out (step HX6.out h))
    have hlz : ((strOf l).toList == (strOf l).toList) = true := by simp
    have hsz : (s.toList == s.toList) = true := by simp
    have HK0 := Lib.hid (KeepW.start (W := w6) (B := w6.heap.size) (Nat.le_refl _))
    have HKK := Lib.hid (fun (y : World) (h : KeepW w6 w6.heap.size y) => show ((y.cell? ⟨w.heap.size, 0, none⟩ = some (.string nm) ∧ y.cell? ⟨w.heap.size, 1, none⟩ = some (.slice A ins.length ca) ∧ y.cell? ⟨w.heap.size, 2, none⟩ = some (.string rc)) ∧ (convert 26 9 (.slice A3 l.length c3)).run Tryz.prog y = .ok (.string (strOf l)) y ∧ (convert 26 9 (.slice A4 l.length c4)).run Tryz.prog y = .ok (.string (strOf l)) y) ∧ KeepW w6 w6.heap.size y from ⟨⟨HCC.out y h.1, (HCV.out y h.1).1, (HCV.out y h.1).2⟩, h⟩)
    have HR1 := Lib.hid (fun (y : World) (h : KeepW w6 w6.heap.size y) => h.calls (HRD.out y (HBB.out y h.1)))
    have HR2 := Lib.hid (fun (y : World) (h : KeepW w6 w6.heap.size y) => h.calls (HRR.out y (HBB.out y h.1)))
    have HW := Lib.hid (fun (y : World) (h : KeepW w6 w6.heap.size y) => h.calls (HT.out y (HBB.out y h.1)))
    clear HFW HPU HPR HNA HNR HCE HY3' HY4 HX6 HB1
    go_region_held3 (fun w' => ((w'.cell? ⟨w.heap.size, 0, none⟩ = some (.string nm) ∧ w'.cell? ⟨w.heap.size, 1, none⟩ = some (.slice A ins.length ca) ∧ w'.cell? ⟨w.heap.size, 2, none⟩ = some (.string rc)) ∧ (convert 26 9 (.slice A3 l.length c3)).run Tryz.prog w' = .ok (.string (strOf l)) w' ∧ (convert 26 9 (.slice A4 l.length c4)).run Tryz.prog w' = .ok (.string (strOf l)) w') ∧ KeepW w6 w6.heap.size w') (first | exact HKK.out _ (by assumption) | exact HKK.out _ (KeepW.drew HK0.out) | exact HKK.out _ (KeepW.drew (by assumption)) | go_keep) (first | (go_at_call 9; refine (HR1.out _ (by first | assumption | exact KeepW.drew HK0.out)).mono ?_; rintro e w7 ⟨rfl, hk7⟩) | (go_at_call 18; refine (HR2.out _ (by first | assumption | exact KeepW.drew HK0.out)).mono ?_; rintro e w8 ⟨rfl, hk8⟩) | (go_at_call 13; refine (HW.out _ (by first | assumption | exact KeepW.drew HK0.out)).mono ?_; rintro e w9 ⟨rfl, hk9⟩))
    all_goals
      have HEND := Lib.hid (HBB.out _ hk9.1)
      go_wp2_with fail
      go_ret
      exact ⟨rfl, HEND.out⟩
end Go.Proofs.YtbniilajffjfcaaGreatDoor
