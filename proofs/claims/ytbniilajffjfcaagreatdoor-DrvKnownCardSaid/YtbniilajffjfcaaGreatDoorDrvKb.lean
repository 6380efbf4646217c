/- drv's laws: same; the walk of DrvBack. -/
import Derived.Test.YtbniilajffjfcaaGreatDoorDrvKa
import Derived.Test.YtbniilajffjfcaaGreatDoorDrvJc
set_option linter.unusedVariables false
set_option linter.unusedSimpArgs false
namespace Go.Proofs.YtbniilajffjfcaaGreatDoor
open Go.RowKit Go.BigFrame Go.Maps

set_option maxRecDepth 100000 in
set_option maxHeartbeats 1600000 in
theorem same_any (nm : ByteArray) (v : Value) (ins : List ByteArray) (rc nm' : ByteArray) (v' : Value) (ins' : List ByteArray) (rc' : ByteArray) (w : World) (hv : TRow w AllB v ins) (hv' : TRow w AllB v' ins') (he : nm = nm' ∧ ins = ins' ∧ rc = rc') :
    Calls Tryz.prog 20 #[.agg #[.string nm, v, .string rc], .agg #[.string nm', v', .string rc']] w fun e w' => e = .returned (.bool true) ∧ Below w.heap.size w w' := by
  obtain ⟨rfl, rfl, rfl⟩ := he
  have HS := Lib.hid (fun (w1 : World) (h : Below w.heap.size w w1) => show Calls Tryz.prog 45 #[v, v'] w1 (fun e w' => e = .returned (.bool true) ∧ Below w1.heap.size w1 w') from (sameT v v' ins ins w1 (RdS.below hv h) (RdS.below hv' h)).mono fun e w' h => ⟨by rw [h.1]; simp, h.2⟩)
  obtain ⟨A, ca, rfl, _, _⟩ := RdS.form hv
  obtain ⟨B, cb, rfl, _, _⟩ := RdS.form hv'
  clear hv hv'
  have h1 : (nm.toList == nm.toList) = true := by simp
  have h2 : (rc.toList == rc.toList) = true := by simp
  go_enter Tryz.func20, Tryz.ntmps20
  go_upto_region 1 with (fail)
  obtain ⟨w1, hw1, hg1, hb1, hz1⟩ := row_new w (.cells #[.string nm, .slice A ins.length ca, .string rc] 28)
  rw [← hw1]
  obtain ⟨w2, hw2, hg2, hb2, hz2⟩ := row_new w1 (.cells #[.string nm, .slice B ins.length cb, .string rc] 28)
  rw [hz1] at hg2
  rw [← hw2]
  have hg1' := (hb2.block _ (block_lt hg1)).trans hg1
  obtain ⟨hc0, hc1, hc2⟩ := three_cells hg1'
  obtain ⟨hd0, hd1, hd2⟩ := three_cells hg2
  have HB2 := Lib.hid (step hb1 hb2)
  clear hw1 hw2 hg1 hg2 hg1' hb1 hb2
  go_wp2_with fail
  refine (HS.out w2 HB2.out).mono ?_
  rintro e w3 ⟨rfl, hb3⟩
  have HB3 := Lib.hid (step HB2.out hb3)
  clear hb3
  go_wp2
  go_ret
  exact ⟨rfl, HB3.out⟩
theorem putR_yes {nm : ByteArray} {ins : List ByteArray} {rc : ByteArray} (h : rightD nm ins rc = true) : putR nm ins rc = putL nm ins rc := by unfold putR; rw [h]; rfl
theorem putE_yes {nm : ByteArray} {ins : List ByteArray} {rc : ByteArray} (h : rightD nm ins rc = true) : putE nm ins rc = 0 := by unfold putE; rw [h]; rfl
theorem putR_no {nm : ByteArray} {ins : List ByteArray} {rc : ByteArray} (h : rightD nm ins rc = false) : putR nm ins rc = [] := by unfold putR; rw [h]; rfl
theorem putE_no {nm : ByteArray} {ins : List ByteArray} {rc : ByteArray} (h : rightD nm ins rc = false) : putE nm ins rc = 2 := by unfold putE; rw [h]; rfl
theorem rights_small {ins : List ByteArray} (h : insOk ins = true) : Small ins := fun s hs => by
  obtain ⟨k, hk, e⟩ := List.mem_iff_getElem.1 hs
  have := okP_le (insOk_at h hk)
  rw [List.getD_eq_getElem?_getD, List.getElem?_eq_getElem hk] at this
  simp only [Option.getD_some] at this
  rw [← e]; unfold maxLen; omega
theorem bytes_is {l : List UInt8} {c : Int} {w : World} {e : Ending} {w' : World} (h : BytesErr l c w e w') : ∃ A cap, e = .returned (.tuple #[.slice A l.length cap, .int .i64 c]) ∧ Byt w' (.slice A l.length cap) l ∧ Below w.heap.size w w' := by
  obtain ⟨u, rfl, hy, hb⟩ := h
  have hy' := hy
  obtain ⟨A, cap, rfl, _⟩ := hy'
  exact ⟨A, cap, rfl, hy, hb⟩
theorem few_small {nm : ByteArray} {ins : List ByteArray} {rc : ByteArray} (h : fewB nm ins rc = true) : nm.size ≤ 200 ∧ rc.size ≤ 1000 ∧ shortB ins 70 = true := by
  unfold fewB at h
  rw [Bool.and_eq_true, Bool.and_eq_true, decide_eq_true_eq, decide_eq_true_eq] at h
  exact h
set_option maxRecDepth 100000 in
set_option maxHeartbeats 8000000 in
theorem drvBack_at (nm : ByteArray) (v : Value) (ins : List ByteArray) (rc : ByteArray) (u : Value) (l : List UInt8) (w : World) (ht : Sha.Tabs w) (hv : TRow w AllB v ins) (hs : Small ins) (hn : nm.size ≤ maxLen) (hr : rc.size ≤ maxLen) (hy : Byt w u l) :
    Calls Tryz.prog 6 #[.agg #[.string nm, v, .string rc], u] w fun e w' => e = .returned (.bool true) ∧ Below w.heap.size w w' := by
  have HFW := Lib.hid (fun (w1 : World) (h : Below w.heap.size w w1) => few_any nm v ins rc w1 (RdS.below hv h) hs hn hr)
  unfold YesNo at HFW
  have HT := Lib.hid (fun (w1 : World) (h : Below w.heap.size w w1) => works_any w1 (ht.below h))
  have HPU := Lib.hid (fun (w1 : World) (h : Below w.heap.size w w1) => put_any nm v ins rc w1 (RdS.below hv h) hs hn hr)
  have HV := Lib.hid (fun (w1 : World) (h : Below w.heap.size w w1) => show TRow w1 AllB v ins from RdS.below hv h)
  have HY := Lib.hid (fun (w1 : World) (h : Below w.heap.size w w1) => show Byt w1 u l from hy.below h)
  obtain ⟨A, ca, rfl, _, _⟩ := RdS.form hv
  have hy' := hy
  obtain ⟨B, cb, rfl, hlb, hmb, _, _⟩ := hy'
  unfold maxLen at hmb
  clear hv ht hs hn hr hy
  go_enter Tryz.func6, Tryz.ntmps6
  go_upto_region 1 with (fail)
  obtain ⟨w1, hw1, hg1, hb1, hz1⟩ := row_new w (.cells #[.string nm, .slice A ins.length ca, .string rc] 28)
  rw [← hw1]
  have HB1 := Lib.hid hb1
  obtain ⟨hc0, hc1, hc2⟩ := three_cells hg1
  have HCE := Lib.hid (fun (x : World) (h : Below w1.heap.size w1 x) => three_cells ((h.block _ (block_lt hg1)).trans hg1))
  clear hw1 hb1 hz1 hg1
  cases hg : fewB nm ins rc
  · rw [hg] at HFW
    clear hg
    go_wp2_with fail
    refine (HFW.out w1 HB1.out).mono ?_
    rintro e w2 ⟨rfl, hb2⟩
    have HB2 := Lib.hid (step HB1.out hb2)
    clear hb2
    go_wp2_with fail
    refine (HT.out w2 HB2.out).mono ?_
    rintro e w3 ⟨rfl, hb3⟩
    have HB3 := Lib.hid (step HB2.out hb3)
    clear hb3
    go_wp2
    go_ret
    exact ⟨rfl, HB3.out⟩
  rw [hg] at HFW
  clear hg
  by_cases hlen : l.length ≤ 3000
  case neg =>
    have hli : (3000 : Int) < (l.length : Int) := by omega
    go_wp2_with fail
    refine (HFW.out w1 HB1.out).mono ?_
    rintro e w2 ⟨rfl, hb2⟩
    have HB2 := Lib.hid (step HB1.out hb2)
    clear hb2
    go_wp2_with fail
    refine (HT.out w2 HB2.out).mono ?_
    rintro e w3 ⟨rfl, hb3⟩
    have HB3 := Lib.hid (step HB2.out hb3)
    clear hb3
    go_wp2
    go_ret
    exact ⟨rfl, HB3.out⟩
  have hli : ¬ (3000 : Int) < (l.length : Int) := by omega
  have HL := Lib.hid hlen
  go_wp2_with fail
  refine (HFW.out w1 HB1.out).mono ?_
  rintro e w2 ⟨rfl, hb2⟩
  have HX2 := Lib.hid hb2
  clear hb2 hc0 hc1 hc2 HFW
  obtain ⟨hc0, hc1, hc2⟩ := HCE.out w2 HX2.out
  cases hrd : rightD nm ins rc
  · have HPU2 := Lib.hid (HPU.out w2 (step HB1.out HX2.out))
    rw [putR_no hrd, putE_no hrd] at HPU2
    clear hrd
    go_wp2_with fail
    refine HPU2.out.mono ?_
    intro e w3 h3
    obtain ⟨A3, c3, rfl, _, hb3⟩ := bytes_is h3
    have HX := Lib.hid (step HX2.out hb3)
    clear h3 hb3 hc0 hc1 hc2 HX2 HPU2
    have HB := Lib.hid (step HB1.out HX.out)
    go_wp2_with fail
    refine (get_any _ l _ (HY.out _ HB.out) (by have := HL.out; omega)).mono ?_
    rintro e y ⟨hby, hg⟩
    have HX2 := Lib.hid (step HX.out hby)
    cases hgs : getS l with
    | none =>
      rw [hgs] at hg
      obtain rfl := hg
      clear hgs hby
      go_upto_region 9 with (fail)
      obtain ⟨y2, hy2, _, hb2, _⟩ := row_new y (.cells #[.string ⟨#[]⟩, .slice none 0 0, .string ⟨#[]⟩] 28)
      rw [← hy2]
      have HX3 := Lib.hid (step HX2.out hb2)
      clear hy2 hb2
      go_wp2_with fail
      refine (HT.out _ (step HB1.out HX3.out)).mono ?_
      rintro e y3 ⟨rfl, hb3⟩
      have HE := Lib.hid (step HB1.out (step HX3.out hb3))
      clear hb3
      go_wp2
      go_ret
      exact ⟨rfl, HE.out⟩
    | some q =>
      obtain ⟨nm2, ins2, rc2⟩ := q
      rw [hgs] at hg
      obtain ⟨v2, rfl, ho2⟩ := hg
      obtain ⟨hr2, hp2⟩ := getS_get hgs
      obtain ⟨V2, cv2, rfl⟩ := own_form ho2
      have HR2 := Lib.hid (show TRow y AllB (.slice V2 ins2.length cv2) ins2 from RdS.all (RdS.own ho2))
      have HRD := Lib.hid hr2
      have HPL := Lib.hid hp2
      clear hgs hby ho2 hr2 hp2
      go_upto_region 9 with (fail)
      obtain ⟨y2, hy2, hg2, hb2, _⟩ := row_new y (.cells #[.string nm2, .slice V2 ins2.length cv2, .string rc2] 28)
      rw [← hy2]
      have HX3 := Lib.hid (step HX2.out hb2)
      have HR3 := Lib.hid (RdS.below HR2.out hb2)
      obtain ⟨hc0, hc1, hc2⟩ := three_cells hg2
      clear hy2 hb2 hg2
      obtain ⟨hz1, hz2, hz3, hz4⟩ := right_parts HRD.out
      go_wp2_with fail
      refine (put_any nm2 _ ins2 rc2 y2 HR3.out (rights_small hz4) (Nat.le_trans hz1 (by unfold maxLen; decide)) (Nat.le_trans hz3 (by unfold maxLen; decide))).mono ?_
      intro e y3 h3
      have h3' : BytesErr l 0 y2 e y3 := by
        have := h3
        rw [putR_yes HRD.out, putE_yes HRD.out, HPL.out] at this
        exact this
      obtain ⟨A3, c3, rfl, hy3, hb3⟩ := bytes_is h3'
      have HX4 := Lib.hid (step HX3.out hb3)
      have hcv1 := hy3.conv
      have hcv2 := (HY.out y3 (step HB1.out HX4.out)).conv
      have hll : ((strOf l).toList == (strOf l).toList) = true := by simp
      clear h3 h3' hy3 hb3 hc0 hc1 hc2
      go_wp2_with fail
      refine (HT.out _ (step HB1.out HX4.out)).mono ?_
      rintro e y4 ⟨rfl, hb4⟩
      have HE := Lib.hid (step HB1.out (step HX4.out hb4))
      clear hb4
      go_wp2
      go_ret
      exact ⟨rfl, HE.out⟩
  · have HPU2 := Lib.hid (HPU.out w2 (step HB1.out HX2.out))
    rw [putR_yes hrd, putE_yes hrd] at HPU2
    have HGP := Lib.hid (getS_put hrd)
    have HPL0 := Lib.hid (putL_len hrd)
    clear hrd
    go_wp2_with fail
    refine HPU2.out.mono ?_
    intro e w3 h3
    obtain ⟨A3, c3, rfl, hy3, hb3⟩ := bytes_is h3
    have HX3 := Lib.hid (step HX2.out hb3)
    have HGE := Lib.hid (get_any _ _ w3 hy3 (by have := HPL0.out; omega))
    clear h3 hy3 hb3 hc0 hc1 hc2 HX2 HPU2
    generalize putL nm ins rc = pl at *
    go_wp2_with fail
    refine HGE.out.mono ?_
    rintro e w4 ⟨hb4, hg4⟩
    rw [HGP.out] at hg4
    obtain ⟨v4, rfl, ho4⟩ := hg4
    obtain ⟨V4, cv4, rfl⟩ := own_form ho4
    have HX4 := Lib.hid (step HX3.out hb4)
    have HR4 := Lib.hid (show TRow w4 AllB (.slice V4 ins.length cv4) ins from RdS.all (RdS.own ho4))
    clear hb4 ho4 HGE HX3
    go_upto_region 6 with (fail)
    obtain ⟨w5, hw5, hg5, hb5, hz5⟩ := row_new w4 (.cells #[.string nm, .slice V4 ins.length cv4, .string rc] 28)
    rw [← hw5]
    have HX5 := Lib.hid (step HX4.out hb5)
    have HR5 := Lib.hid (RdS.below HR4.out hb5)
    obtain ⟨hd0, hd1, hd2⟩ := three_cells hg5
    obtain ⟨hc0, hc1, hc2⟩ := HCE.out w5 HX5.out
    have HSA := Lib.hid (same_any nm _ ins rc nm _ ins rc w5 HR5.out (HV.out w5 (step HB1.out HX5.out)) ⟨rfl, rfl, rfl⟩)
    clear hw5 hg5 hb5 hz5 HR4 HX4
    go_wp2_with fail
    refine HSA.out.mono ?_
    rintro e w6 ⟨rfl, hb6⟩
    have HX := Lib.hid (step HX5.out hb6)
    clear hb6 hc0 hc1 hc2 hd0 hd1 hd2 HSA HX5
    have HB := Lib.hid (step HB1.out HX.out)
    go_wp2_with fail
    refine (get_any _ l _ (HY.out _ HB.out) (by have := HL.out; omega)).mono ?_
    rintro e y ⟨hby, hg⟩
    have HX2 := Lib.hid (step HX.out hby)
    cases hgs : getS l with
    | none =>
      rw [hgs] at hg
      obtain rfl := hg
      clear hgs hby
      go_upto_region 9 with (fail)
      obtain ⟨y2, hy2, _, hb2, _⟩ := row_new y (.cells #[.string ⟨#[]⟩, .slice none 0 0, .string ⟨#[]⟩] 28)
      rw [← hy2]
      have HX3 := Lib.hid (step HX2.out hb2)
      clear hy2 hb2
      go_wp2_with fail
      refine (HT.out _ (step HB1.out HX3.out)).mono ?_
      rintro e y3 ⟨rfl, hb3⟩
      have HE := Lib.hid (step HB1.out (step HX3.out hb3))
      clear hb3
      go_wp2
      go_ret
      exact ⟨rfl, HE.out⟩
    | some q =>
      obtain ⟨nm2, ins2, rc2⟩ := q
      rw [hgs] at hg
      obtain ⟨v2, rfl, ho2⟩ := hg
      obtain ⟨hr2, hp2⟩ := getS_get hgs
      obtain ⟨V2, cv2, rfl⟩ := own_form ho2
      have HR2 := Lib.hid (show TRow y AllB (.slice V2 ins2.length cv2) ins2 from RdS.all (RdS.own ho2))
      have HRD := Lib.hid hr2
      have HPL := Lib.hid hp2
      clear hgs hby ho2 hr2 hp2
      go_upto_region 9 with (fail)
      obtain ⟨y2, hy2, hg2, hb2, _⟩ := row_new y (.cells #[.string nm2, .slice V2 ins2.length cv2, .string rc2] 28)
      rw [← hy2]
      have HX3 := Lib.hid (step HX2.out hb2)
      have HR3 := Lib.hid (RdS.below HR2.out hb2)
      obtain ⟨hc0, hc1, hc2⟩ := three_cells hg2
      clear hy2 hb2 hg2
      obtain ⟨hz1, hz2, hz3, hz4⟩ := right_parts HRD.out
      go_wp2_with fail
      refine (put_any nm2 _ ins2 rc2 y2 HR3.out (rights_small hz4) (Nat.le_trans hz1 (by unfold maxLen; decide)) (Nat.le_trans hz3 (by unfold maxLen; decide))).mono ?_
      intro e y3 h3
      have h3' : BytesErr l 0 y2 e y3 := by
        have := h3
        rw [putR_yes HRD.out, putE_yes HRD.out, HPL.out] at this
        exact this
      obtain ⟨A3, c3, rfl, hy3, hb3⟩ := bytes_is h3'
      have HX4 := Lib.hid (step HX3.out hb3)
      have hcv1 := hy3.conv
      have hcv2 := (HY.out y3 (step HB1.out HX4.out)).conv
      have hll : ((strOf l).toList == (strOf l).toList) = true := by simp
      clear h3 h3' hy3 hb3 hc0 hc1 hc2
      go_wp2_with fail
      refine (HT.out _ (step HB1.out HX4.out)).mono ?_
      rintro e y4 ⟨rfl, hb4⟩
      have HE := Lib.hid (step HB1.out (step HX4.out hb4))
      clear hb4
      go_wp2
      go_ret
      exact ⟨rfl, HE.out⟩
theorem cellsU8 : Tryz.prog.cellsOf 5 = 1 := by kernel_rfl
theorem byt_of {w : World} {d : Nat → Nat} {A : Option Addr} {n cap : Nat} (hd : ∀ i, d i < 256) (hnc : n ≤ cap) (hcm : cap ≤ maxLen) (hh : Holds w w.heap.size A n d) (hz : A = none → cap = 0) : Byt w (.slice A n cap) (txt d n) := by
  have hl := txt_len d n
  refine ⟨A, cap, by rw [hl], by rw [hl]; exact hnc, hcm, ?_, hz⟩
  rw [hl]
  intro h0
  obtain ⟨ad, e, hb, hc⟩ := hh h0
  refine ⟨ad, e, hb, fun j hj => ?_⟩
  rw [hc j hj]
  have : dOf (txt d n) j = d j := by
    unfold dOf txt
    have := hd j
    simp [List.getD, hj]
    omega
  rw [this]
theorem drvBack_walk (nm : ByteArray) (v : Value) (ins : List ByteArray) (rc : ByteArray) (d : Nat → Nat) (A : Option Addr) (n cap : Nat) (w : World) (ht : Sha.Tabs w) (hv : TRow w AllB v ins) (hs : Small ins) (hn : nm.size ≤ maxLen) (hr : rc.size ≤ maxLen)
    (hd : ∀ i, d i < 256) (hnc : n ≤ cap) (hcm : cap ≤ maxLen) (hh : Holds w w.heap.size A n d) (hz : A = none → cap = 0) :
    Calls Tryz.prog 6 #[.agg #[.string nm, v, .string rc], .slice A n cap] w fun e w' => e = .returned (.bool true) ∧ Below w.heap.size w w' :=
  drvBack_at nm v ins rc _ _ w ht hv hs hn hr (byt_of hd hnc hcm hh hz)
end Go.Proofs.YtbniilajffjfcaaGreatDoor
