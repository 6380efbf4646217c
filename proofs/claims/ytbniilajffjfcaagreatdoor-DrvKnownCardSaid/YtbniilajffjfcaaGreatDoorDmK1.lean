/- drv: Name, the package's and the reference's. -/
import Derived.Test.YtbniilajffjfcaaGreatDoorDmE3
import Derived.Test.YtbniilajffjfcaaGreatDoorDmS7
set_option linter.unusedVariables false
set_option linter.unusedSimpArgs false
namespace Go.Proofs.YtbniilajffjfcaaGreatDoor
open Go.RowKit Go.BigFrame

def drvS : ByteArray := ⟨#[46, 100, 114, 118]⟩
def dgD (nm : ByteArray) (ins : List ByteArray) (rc : ByteArray) : Nat → Nat := Sha.sumB (dOf (putL nm ins rc)) (putL nm ins rc).length
theorem dgD_lt (nm : ByteArray) (ins : List ByteArray) (rc : ByteArray) (i : Nat) : dgD nm ins rc i < 256 := Nat.mod_lt _ (by decide)
def nameB (nm : ByteArray) (ins : List ByteArray) (rc : ByteArray) : Bool := rightD nm ins rc && Nam.rightB (nm ++ drvS)
def nameR (nm : ByteArray) (ins : List ByteArray) (rc : ByteArray) : ByteArray := if nameB nm ins rc then Nam.nameS (dgD nm ins rc) (nm ++ drvS) else ⟨#[]⟩
def nameE (nm : ByteArray) (ins : List ByteArray) (rc : ByteArray) : Int := if nameB nm ins rc then 0 else 2
theorem putL_len {nm : ByteArray} {ins : List ByteArray} {rc : ByteArray} (h : rightD nm ins rc = true) : (putL nm ins rc).length ≤ 300000 := by
  obtain ⟨h1, h2, h3, h4⟩ := right_parts h
  have := insL_len h4 ins.length (Nat.le_refl _)
  rw [List.take_length] at this
  have := headL_len nm ins.length
  unfold putL
  rw [List.length_append, List.length_append, textL_len]
  omega
def TextErr (r : ByteArray) (c : Int) (w : World) (e : Ending) (w' : World) : Prop := e = .returned (.tuple #[.string r, .int .i64 c]) ∧ Below w.heap.size w w'
set_option maxRecDepth 100000 in
set_option maxHeartbeats 2000000 in
theorem name_any (nm : ByteArray) (v : Value) (ins : List ByteArray) (rc : ByteArray) (w : World) (ht : Sha.Tabs w) (hv : TRow w AllB v ins) (hs : Small ins) (hn : nm.size ≤ maxLen) (hr : rc.size ≤ maxLen) :
    Calls Tryz.prog 16 #[.agg #[.string nm, v, .string rc]] w (TextErr (nameR nm ins rc) (nameE nm ins rc) w) := by
  obtain ⟨A, ca, rfl, hla, hma⟩ := RdS.form hv
  have HR := Lib.hid (fun (w1 : World) (h : TRow w1 AllB (.slice A ins.length ca) ins) => put_any nm (.slice A ins.length ca) ins rc w1 h hs hn hr)
  have HP := Lib.hid (fun (r : ByteArray) (c : Int) (w' : World) (h : nameR nm ins rc = r) (h1 : nameE nm ins rc = c) (h2 : Below w.heap.size w w') => show TextErr (nameR nm ins rc) (nameE nm ins rc) w (.returned (.tuple #[.string r, .int .i64 c])) w' from ⟨by rw [h, h1], h2⟩)
  generalize TextErr (nameR nm ins rc) (nameE nm ins rc) w = post at *
  unfold maxLen at hma hn hr
  cases hrd : rightD nm ins rc
  · have HP2 := Lib.hid (fun (w' : World) (h2 : Below w.heap.size w w') => HP.out ⟨#[]⟩ 2 w' (by unfold nameR nameB; rw [hrd]; rfl) (by unfold nameE nameB; rw [hrd]; rfl) h2)
    unfold putE putR at HR
    rw [hrd] at HR
    clear HP
    go_enter Tryz.func16, Tryz.ntmps16
    go_upto_region 1 with (fail)
    obtain ⟨W0, hW0, hg0, hb0, hz0, hbb⟩ := row_at w w (.cells #[.string nm, .slice A ins.length ca, .string rc] 28) (Below.refl _ _)
    rw [← hW0]
    obtain ⟨hc0, hc1, hc2⟩ := three_cells hg0
    have HB0 := Lib.hid hbb
    have HV := Lib.hid (show TRow W0 AllB (.slice A ins.length ca) ins from RdS.below hv hb0)
    clear hW0 hg0 hb0 hz0 hbb hv hrd
    go_wp2_with fail
    refine (HR.out W0 HV.out).mono ?_
    rintro e w1 ⟨u, rfl, hby, hb1⟩
    have HB1 := Lib.hid (below_step HB0.out hb1 HB0.out.size)
    obtain ⟨A1, c1, rfl, _⟩ := hby
    clear hb1
    go_wp2
    exact HP2.out _ HB1.out
  · have HLN := Lib.hid (putL_len hrd)
    have h60 := (right_parts hrd).1
    have HNO := Lib.hid (fun (h : Nam.rightB (nm ++ drvS) = false) (w' : World) (h2 : Below w.heap.size w w') => HP.out ⟨#[]⟩ 2 w' (by unfold nameR nameB; rw [hrd, h]; rfl) (by unfold nameE nameB; rw [hrd, h]; rfl) h2)
    have HYES := Lib.hid (fun (h : Nam.rightB (nm ++ drvS) = true) (w' : World) (h2 : Below w.heap.size w w') => HP.out (Nam.nameS (dgD nm ins rc) (nm ++ drvS)) 0 w' (by unfold nameR nameB; rw [hrd, h]; rfl) (by unfold nameE nameB; rw [hrd, h]; rfl) h2)
    unfold putE putR at HR
    rw [hrd] at HR
    have hs4 : (nm ++ drvS).size = nm.size + 4 := by rw [ByteArray.size_append]; rfl
    clear HP
    go_enter Tryz.func16, Tryz.ntmps16
    go_upto_region 1 with (fail)
    obtain ⟨W0, hW0, hg0, hb0, hz0, hbb⟩ := row_at w w (.cells #[.string nm, .slice A ins.length ca, .string rc] 28) (Below.refl _ _)
    rw [← hW0]
    obtain ⟨hc0, hc1, hc2⟩ := three_cells hg0
    have HB0 := Lib.hid hbb
    have hzz : w.heap.size < W0.heap.size := by omega
    have HG := Lib.hid (fun (w1 : World) (h : Below W0.heap.size W0 w1) => (three_cells ((h.block w.heap.size hzz).trans hg0)).1)
    have HV := Lib.hid (show TRow W0 AllB (.slice A ins.length ca) ins from RdS.below hv hb0)
    have HT := Lib.hid (fun (w1 : World) (h : Below W0.heap.size W0 w1) => (ht.below hb0).below h)
    clear hW0 hg0 hb0 hz0 hbb hv hrd
    go_wp2_with fail
    refine (HR.out W0 HV.out).mono ?_
    rintro e w1 ⟨u, rfl, hby, hb1⟩
    have HB1 := Lib.hid hb1
    obtain ⟨A1, c1, rfl, hn1, hm1, hh1, hz1⟩ := hby
    have HSUM := Lib.hid (fun (w2 : World) (hk : KeepW w1 w1.heap.size w2) => hk.calls (Sha.sum_any (dOf (putL nm ins rc)) (dOf_lt _) A1 (putL nm ins rc).length c1 hn1 hm1 w2 (HT.out w2 (below_step HB1.out hk.1 HB1.out.size)) ((hh1.below hk.1).more hk.2) hz1))
    have HCELL := Lib.hid (fun (w2 : World) (hk : KeepW w1 w1.heap.size w2) => (show w2.cell? ⟨w.heap.size, 0, none⟩ = some (.string nm) ∧ KeepW w1 w1.heap.size w2 from ⟨HG.out w2 (below_step HB1.out hk.1 HB1.out.size), hk⟩))
    have HK0 := Lib.hid (KeepW.start (Nat.le_refl w1.heap.size))
    clear hb1 hc0 hc1 hc2 hh1 hz1
    have ha1 : ¬ 9223372036854775807 < nm.size + 4 := by omega
    have ha2 : ¬ (9223372036854775807 : Int) < (nm.size : Int) + 4 := by omega
    have hm4 : (⟨#[46, 100, 114, 118]⟩ : ByteArray).size = 4 := rfl
    have hdr : nm ++ (⟨#[46, 100, 114, 118]⟩ : ByteArray) = nm ++ drvS := rfl
    cases hrb : Nam.rightB (nm ++ drvS)
    · have HNM := Lib.hid (fun (w2 : World) (hk : KeepW w1 w1.heap.size w2) => hk.calls (Nam.name_no (dgD nm ins rc) (nm ++ drvS) w2 (by unfold maxLen; omega) hrb))
      have HFIN := Lib.hid (HNO.out hrb)
      clear hrb HNO HYES
      generalize hd9 : nm ++ drvS = nd at *
      clear hd9
      go_wp2_with fail
      go_region_held3 (fun w' => w'.cell? ⟨w.heap.size, 0, none⟩ = some (.string nm) ∧ KeepW w1 w1.heap.size w') (first | exact HCELL.out _ (by first | assumption | exact KeepW.drew HK0.out | exact KeepW.drew (by assumption)) | go_keep) (first | (go_at_call 37; refine (HSUM.out _ (by first | assumption | exact KeepW.drew HK0.out)).mono ?_; rintro e w4 ⟨rfl, hk4⟩) | (go_at_call 36; refine (HNM.out _ (by first | assumption | exact KeepW.drew HK0.out)).mono ?_; rintro e w5 ⟨rfl, hk5⟩))
      all_goals
        have HB5 := Lib.hid (below_step HB0.out (below_step HB1.out (show KeepW w1 w1.heap.size _ by assumption).1 HB1.out.size) HB0.out.size)
        go_wp2_with fail
        exact HFIN.out _ HB5.out
    · have HNM := Lib.hid (fun (w2 : World) (hk : KeepW w1 w1.heap.size w2) => hk.calls (Nam.name_yes (dgD nm ins rc) (dgD_lt nm ins rc) (nm ++ drvS) w2 (by unfold maxLen; omega) hrb))
      have HFIN := Lib.hid (HYES.out hrb)
      clear hrb HNO HYES
      generalize hd9 : nm ++ drvS = nd at *
      clear hd9
      generalize Nam.nameS (dgD nm ins rc) nd = ns at *
      go_wp2_with fail
      go_region_held3 (fun w' => w'.cell? ⟨w.heap.size, 0, none⟩ = some (.string nm) ∧ KeepW w1 w1.heap.size w') (first | exact HCELL.out _ (by first | assumption | exact KeepW.drew HK0.out | exact KeepW.drew (by assumption)) | go_keep) (first | (go_at_call 37; refine (HSUM.out _ (by first | assumption | exact KeepW.drew HK0.out)).mono ?_; rintro e w4 ⟨rfl, hk4⟩) | (go_at_call 36; refine (HNM.out _ (by first | assumption | exact KeepW.drew HK0.out)).mono ?_; rintro e w5 ⟨rfl, hk5⟩))
      all_goals
        have HB5 := Lib.hid (below_step HB0.out (below_step HB1.out (show KeepW w1 w1.heap.size _ by assumption).1 HB1.out.size) HB0.out.size)
        go_wp2_with fail
        exact HFIN.out _ HB5.out
set_option maxRecDepth 100000 in
set_option maxHeartbeats 2000000 in
theorem refName_any (nm : ByteArray) (v : Value) (ins : List ByteArray) (rc : ByteArray) (w : World) (hv : TRow w AllB v ins) (hs : Small ins) (hn : nm.size ≤ maxLen) (hr : rc.size ≤ maxLen) :
    Calls Tryz.prog 17 #[.agg #[.string nm, v, .string rc]] w (TextErr (nameR nm ins rc) (nameE nm ins rc) w) := by
  obtain ⟨A, ca, rfl, hla, hma⟩ := RdS.form hv
  have HR := Lib.hid (fun (w1 : World) (h : TRow w1 AllB (.slice A ins.length ca) ins) => refPut_any nm (.slice A ins.length ca) ins rc w1 h hs hn hr)
  have HP := Lib.hid (fun (r : ByteArray) (c : Int) (w' : World) (h : nameR nm ins rc = r) (h1 : nameE nm ins rc = c) (h2 : Below w.heap.size w w') => show TextErr (nameR nm ins rc) (nameE nm ins rc) w (.returned (.tuple #[.string r, .int .i64 c])) w' from ⟨by rw [h, h1], h2⟩)
  generalize TextErr (nameR nm ins rc) (nameE nm ins rc) w = post at *
  unfold maxLen at hma hn hr
  cases hrd : rightD nm ins rc
  · have HP2 := Lib.hid (fun (w' : World) (h2 : Below w.heap.size w w') => HP.out ⟨#[]⟩ 2 w' (by unfold nameR nameB; rw [hrd]; rfl) (by unfold nameE nameB; rw [hrd]; rfl) h2)
    unfold putE putR at HR
    rw [hrd] at HR
    clear HP
    go_enter Tryz.func17, Tryz.ntmps17
    go_upto_region 1 with (fail)
    obtain ⟨W0, hW0, hg0, hb0, hz0, hbb⟩ := row_at w w (.cells #[.string nm, .slice A ins.length ca, .string rc] 28) (Below.refl _ _)
    rw [← hW0]
    obtain ⟨hc0, hc1, hc2⟩ := three_cells hg0
    have HB0 := Lib.hid hbb
    have HV := Lib.hid (show TRow W0 AllB (.slice A ins.length ca) ins from RdS.below hv hb0)
    clear hW0 hg0 hb0 hz0 hbb hv hrd
    go_wp2_with fail
    refine (HR.out W0 HV.out).mono ?_
    rintro e w1 ⟨u, rfl, hby, hb1⟩
    have HB1 := Lib.hid (below_step HB0.out hb1 HB0.out.size)
    obtain ⟨A1, c1, rfl, _⟩ := hby
    clear hb1
    go_wp2
    exact HP2.out _ HB1.out
  · have HLN := Lib.hid (putL_len hrd)
    have h60 := (right_parts hrd).1
    have HNO := Lib.hid (fun (h : Nam.rightB (nm ++ drvS) = false) (w' : World) (h2 : Below w.heap.size w w') => HP.out ⟨#[]⟩ 2 w' (by unfold nameR nameB; rw [hrd, h]; rfl) (by unfold nameE nameB; rw [hrd, h]; rfl) h2)
    have HYES := Lib.hid (fun (h : Nam.rightB (nm ++ drvS) = true) (w' : World) (h2 : Below w.heap.size w w') => HP.out (Nam.nameS (dgD nm ins rc) (nm ++ drvS)) 0 w' (by unfold nameR nameB; rw [hrd, h]; rfl) (by unfold nameE nameB; rw [hrd, h]; rfl) h2)
    unfold putE putR at HR
    rw [hrd] at HR
    have hs4 : (nm ++ drvS).size = nm.size + 4 := by rw [ByteArray.size_append]; rfl
    clear HP
    go_enter Tryz.func17, Tryz.ntmps17
    go_upto_region 1 with (fail)
    obtain ⟨W0, hW0, hg0, hb0, hz0, hbb⟩ := row_at w w (.cells #[.string nm, .slice A ins.length ca, .string rc] 28) (Below.refl _ _)
    rw [← hW0]
    obtain ⟨hc0, hc1, hc2⟩ := three_cells hg0
    have HB0 := Lib.hid hbb
    have hzz : w.heap.size < W0.heap.size := by omega
    have HG := Lib.hid (fun (w1 : World) (h : Below W0.heap.size W0 w1) => (three_cells ((h.block w.heap.size hzz).trans hg0)).1)
    have HV := Lib.hid (show TRow W0 AllB (.slice A ins.length ca) ins from RdS.below hv hb0)
    clear hW0 hg0 hb0 hz0 hbb hv hrd
    go_wp2_with fail
    refine (HR.out W0 HV.out).mono ?_
    rintro e w1 ⟨u, rfl, hby, hb1⟩
    have HB1 := Lib.hid hb1
    obtain ⟨A1, c1, rfl, hn1, hm1, hh1, hz1⟩ := hby
    have HSUM := Lib.hid (fun (w2 : World) (hk : KeepW w1 w1.heap.size w2) => hk.calls (Sha.refSum_any (dOf (putL nm ins rc)) (dOf_lt _) A1 (putL nm ins rc).length c1 hn1 w2 ((hh1.below hk.1).more hk.2) hz1 (by have := HLN.out; omega)))
    have HCELL := Lib.hid (fun (w2 : World) (hk : KeepW w1 w1.heap.size w2) => (show w2.cell? ⟨w.heap.size, 0, none⟩ = some (.string nm) ∧ KeepW w1 w1.heap.size w2 from ⟨HG.out w2 (below_step HB1.out hk.1 HB1.out.size), hk⟩))
    have HK0 := Lib.hid (KeepW.start (Nat.le_refl w1.heap.size))
    clear hb1 hc0 hc1 hc2 hh1 hz1
    have ha1 : ¬ 9223372036854775807 < nm.size + 4 := by omega
    have ha2 : ¬ (9223372036854775807 : Int) < (nm.size : Int) + 4 := by omega
    have hm4 : (⟨#[46, 100, 114, 118]⟩ : ByteArray).size = 4 := rfl
    have hdr : nm ++ (⟨#[46, 100, 114, 118]⟩ : ByteArray) = nm ++ drvS := rfl
    cases hrb : Nam.rightB (nm ++ drvS)
    · have HNM := Lib.hid (fun (w2 : World) (hk : KeepW w1 w1.heap.size w2) => hk.calls (Nam.refName_no (dgD nm ins rc) (nm ++ drvS) w2 (by unfold maxLen; omega) hrb))
      have HFIN := Lib.hid (HNO.out hrb)
      clear hrb HNO HYES
      generalize hd9 : nm ++ drvS = nd at *
      clear hd9
      go_wp2_with fail
      go_region_held3 (fun w' => w'.cell? ⟨w.heap.size, 0, none⟩ = some (.string nm) ∧ KeepW w1 w1.heap.size w') (first | exact HCELL.out _ (by first | assumption | exact KeepW.drew HK0.out | exact KeepW.drew (by assumption)) | go_keep) (first | (go_at_call 39; refine (HSUM.out _ (by first | assumption | exact KeepW.drew HK0.out)).mono ?_; rintro e w4 ⟨rfl, hk4⟩) | (go_at_call 38; refine (HNM.out _ (by first | assumption | exact KeepW.drew HK0.out)).mono ?_; rintro e w5 ⟨rfl, hk5⟩))
      all_goals
        have HB5 := Lib.hid (below_step HB0.out (below_step HB1.out (show KeepW w1 w1.heap.size _ by assumption).1 HB1.out.size) HB0.out.size)
        go_wp2_with fail
        exact HFIN.out _ HB5.out
    · have HNM := Lib.hid (fun (w2 : World) (hk : KeepW w1 w1.heap.size w2) => hk.calls (Nam.refName_yes (dgD nm ins rc) (dgD_lt nm ins rc) (nm ++ drvS) w2 (by unfold maxLen; omega) hrb))
      have HFIN := Lib.hid (HYES.out hrb)
      clear hrb HNO HYES
      generalize hd9 : nm ++ drvS = nd at *
      clear hd9
      generalize Nam.nameS (dgD nm ins rc) nd = ns at *
      go_wp2_with fail
      go_region_held3 (fun w' => w'.cell? ⟨w.heap.size, 0, none⟩ = some (.string nm) ∧ KeepW w1 w1.heap.size w') (first | exact HCELL.out _ (by first | assumption | exact KeepW.drew HK0.out | exact KeepW.drew (by assumption)) | go_keep) (first | (go_at_call 39; refine (HSUM.out _ (by first | assumption | exact KeepW.drew HK0.out)).mono ?_; rintro e w4 ⟨rfl, hk4⟩) | (go_at_call 38; refine (HNM.out _ (by first | assumption | exact KeepW.drew HK0.out)).mono ?_; rintro e w5 ⟨rfl, hk5⟩))
      all_goals
        have HB5 := Lib.hid (below_step HB0.out (below_step HB1.out (show KeepW w1 w1.heap.size _ by assumption).1 HB1.out.size) HB0.out.size)
        go_wp2_with fail
        exact HFIN.out _ HB5.out
end Go.Proofs.YtbniilajffjfcaaGreatDoor
