/- drv's laws: the walk of DrvClosure. -/
import Derived.Test.YtbniilajffjfcaaGreatDoorDmJ1
set_option linter.unusedVariables false
set_option linter.unusedSimpArgs false
namespace Go.Proofs.YtbniilajffjfcaaGreatDoor
open Go.RowKit Go.BigFrame Go.Maps
open Drv (posO edges edgeAt dupB)

set_option maxRecDepth 100000 in
set_option maxHeartbeats 4000000 in
theorem drvClosure_walk (a : Value) (names : List ByteArray) (b : Value) (needs : List (List ByteArray)) (c : Value) (roots : List ByteArray) (w : World) (ht : Sha.Tabs w) (ha : TRow w AllB a names) (hs : Small names) (hb : TextsAt w b needs) (hss : ∀ r ∈ needs, Small r) (hc : TRow w AllB c roots) (hcs : Small roots) :
    Calls Tryz.prog 11 #[a, b, c] w fun e w' => e = .returned (.bool true) ∧ Below w.heap.size w w' := by
  have HG := Lib.hid (graph_any a b names needs w ha hb hs hss)
  unfold YesAt at HG
  have HSH := Lib.hid (fun (w1 : World) (h : Below w.heap.size w w1) => short_any c roots 30 w1 (RdS.below hc h) hcs (by omega))
  unfold YesAt at HSH
  have HA := Lib.hid (fun (w1 : World) (h : Below w.heap.size w w1) => show TRow w1 AllB a names from RdS.below ha h)
  have HB := Lib.hid (fun (w1 : World) (h : Below w.heap.size w w1) => show TextsAt w1 b needs from hb.below h)
  have HC := Lib.hid (fun (w1 : World) (h : Below w.heap.size w w1) => show TRow w1 AllB c roots from RdS.below hc h)
  have HT := Lib.hid (fun (w1 : World) (h : Below w.heap.size w w1) => ht.below h)
  obtain ⟨A, ca, rfl, _, _⟩ := RdS.form ha
  obtain ⟨B, cb, rfl, _, _⟩ := OutS.form hb
  obtain ⟨C, cc, rfl, _, _⟩ := RdS.form hc
  clear ha hb ht hs hss hc hcs
  go_enter Tryz.func11, Tryz.ntmps11
  cases hg : graphB names needs
  · rw [hg] at HG
    clear hg
    go_wp2_with fail
    refine HG.out.mono ?_
    rintro e w1 ⟨rfl, nq, hw⟩
    have HB1 := Lib.hid (show Below w.heap.size w w1 by rw [hw]; exact below_drewN (Below.refl _ _) _)
    clear hw
    go_wp2_with fail
    refine (works_any w1 (HT.out w1 HB1.out)).mono ?_
    rintro e w2 ⟨rfl, hb2⟩
    have HB2 := Lib.hid (step HB1.out hb2)
    clear hb2
    go_wp2
    go_ret
    exact ⟨rfl, HB2.out⟩
  · have HF := Lib.hid (graphB_few hg).1
    rw [hg] at HG
    clear hg
    cases hg : shortB roots 30
    · rw [hg] at HSH
      clear hg
      go_wp2_with fail
      refine HG.out.mono ?_
      rintro e w0 ⟨rfl, nq, hw⟩
      have HB0 := Lib.hid (show Below w.heap.size w w0 by rw [hw]; exact below_drewN (Below.refl _ _) _)
      clear hw
      go_wp2_with fail
      refine (HSH.out w0 HB0.out).mono ?_
      rintro e w1 ⟨rfl, nq, hw⟩
      have HB1 := Lib.hid (show Below w.heap.size w w1 by rw [hw]; exact below_drewN HB0.out _)
      clear hw
      go_wp2_with fail
      refine (works_any w1 (HT.out w1 HB1.out)).mono ?_
      rintro e w2 ⟨rfl, hb2⟩
      have HB2 := Lib.hid (step HB1.out hb2)
      clear hb2
      go_wp2
      go_ret
      exact ⟨rfl, HB2.out⟩
    · obtain ⟨hr30, _, hrsm⟩ := shortB_small hg
      rw [hg] at HSH
      clear hg
      go_wp2_with fail
      refine HG.out.mono ?_
      rintro e w0 ⟨rfl, nq, hw⟩
      have HB0 := Lib.hid (show Below w.heap.size w w0 by rw [hw]; exact below_drewN (Below.refl _ _) _)
      clear hw
      go_wp2_with fail
      refine (HSH.out w0 HB0.out).mono ?_
      rintro e w1 ⟨rfl, nq, hw⟩
      have HB1 := Lib.hid (show Below w.heap.size w w1 by rw [hw]; exact below_drewN HB0.out _)
      clear hw
      go_wp2_with fail
      refine (clos_is _ _ _ names needs roots w1 (HA.out w1 HB1.out) (HB.out w1 HB1.out) (HC.out w1 HB1.out) HF.out (by omega) hrsm _ _ rfl rfl).mono ?_
      rintro e w2 ⟨A2, c2, rfl, hb2, hi2⟩
      have HB2 := Lib.hid (step HB1.out hb2)
      have HI2 := Lib.hid hi2
      clear hb2 hi2
      go_wp2_with fail
      refine (refClosure_any _ _ _ names needs roots w2 (HA.out w2 HB2.out) (HB.out w2 HB2.out) (HC.out w2 HB2.out) HF.out (by omega)).mono ?_
      rintro e w3 h3
      obtain ⟨A3, c3, rfl, hb3, hi3⟩ := h3.is
      have HB3 := Lib.hid (step HB2.out hb3)
      have HSM := Lib.hid (same_is _ _ (ofN (closL names needs roots)) w3 (RdS.below HI2.out hb3) hi3)
      clear hb3 hi3 h3
      generalize closL names needs roots = l at *
      generalize closC names = x at *
      go_wp2_with fail
      refine HSM.out.mono ?_
      rintro e w4 ⟨rfl, hb4⟩
      have HB4 := Lib.hid (step HB3.out hb4)
      clear hb4
      go_wp2_with fail
      refine (works_any w4 (HT.out w4 HB4.out)).mono ?_
      rintro e w5 ⟨rfl, hb5⟩
      have HB5 := Lib.hid (step HB4.out hb5)
      clear hb5
      go_wp2
      go_ret
      exact ⟨rfl, HB5.out⟩
end Go.Proofs.YtbniilajffjfcaaGreatDoor
