/- The walk of the law VersionBack. -/
import Derived.Test.YtijepjoklmblhaaDoorVerPd
namespace Go.Proofs.YtijepjoklmblhaaDoor
open Go.RowKit Go.BigFrame
open Ver (prs prt okTag cmpV BL)

theorem toI_toN (xs : List Int) (h : xs.all (fun n => decide (0 ≤ n ∧ n ≤ 999999999)) = true) : toI (toN xs) = xs := by
  unfold toI toN
  rw [List.map_map]
  refine (List.map_congr_left (g := id) fun n hn => ?_).trans (List.map_id _)
  have := List.all_eq_true.1 h n hn
  simp at this
  simp; omega
theorem okP_parts {xs : List Int} {t : ByteArray} (h : okP xs t = true) : (1 ≤ xs.length ∧ xs.length ≤ 8) ∧ xs.all (fun n => decide (0 ≤ n ∧ n ≤ 999999999)) = true ∧ okTag t.data.toList = true := by
  simp only [okP, Bool.and_eq_true, decide_eq_true_eq] at h
  exact ⟨h.1.1, h.1.2, h.2⟩
theorem okV_of {xs : List Int} {t : ByteArray} (h : okP xs t = true) : Ver.okV (toN xs) t.data.toList = true := by
  obtain ⟨h1, h2, h3⟩ := okP_parts h
  simp only [Ver.okV, Bool.and_eq_true, decide_eq_true_eq, List.all_eq_true]
  refine ⟨⟨by simpa [toN] using h1, fun n hn => inRange xs h2 n hn⟩, h3⟩
theorem round_trip {xs : List Int} {t : ByteArray} (h : okP xs t = true) : okS (printS xs t) = true ∧ verOf (printS xs t) = (xs, t.data.toList) ∧ (printS xs t).size ≤ 1000 := by
  obtain ⟨h1, h2, h3⟩ := okP_parts h
  have hp : prs (printS xs t).data.toList = some (toN xs, t.data.toList) := by
    rw [(printS_yes h).1]
    exact Ver.prs_prt _ _ (okV_of h)
  refine ⟨by unfold okS; rw [hp]; rfl, by unfold verOf; rw [hp]; simp only [toI_toN xs h2], ?_⟩
  rw [(printS_yes h).1, ← len_data]
  show (prt (toN xs) t.data.toList).length ≤ 1000
  unfold prt
  rw [List.length_append]
  have hj := join_len xs h2
  have ht : t.data.toList.length ≤ 16 := by simp only [okTag, Bool.and_eq_true, decide_eq_true_eq] at h3; exact h3.1
  split
  · simp; omega
  · rw [List.length_cons]; omega
theorem back_same {s t : ByteArray} (h : okS s = true) (ht : t.data.toList = (verOf s).2) : printS (verOf s).1 t = s ∧ errP (verOf s).1 t = 0 := by
  unfold okS at h
  unfold verOf at ht ⊢
  cases hp : prs s.data.toList with
  | none => rw [hp] at h; cases h
  | some v =>
    obtain ⟨ns, tg⟩ := v
    rw [hp] at ht
    dsimp only at ht ⊢
    obtain ⟨h1, h2⟩ := Ver.prs_some _ _ _ hp
    have hN : toN (toI ns) = ns := by
      unfold toN toI
      rw [List.map_map]
      exact (List.map_congr_left (g := id) fun n _ => by simp).trans (List.map_id _)
    have hok : okP (toI ns) t = true := by
      simp only [Ver.okV, Bool.and_eq_true, decide_eq_true_eq, List.all_eq_true] at h2
      refine okP_all _ _ (by simpa [toI] using h2.1.1) ?_ (by rw [ht]; exact h2.2)
      rw [List.all_eq_true]
      intro z hz
      obtain ⟨n, hn, rfl⟩ := List.mem_map.1 hz
      have := h2.1.2 n hn
      simp; omega
    refine ⟨?_, (printS_yes hok).2⟩
    rw [(printS_yes hok).1, hN, ht]
    exact str_ext (by simpa using h1)
theorem print_is (ps : ByteArray) (ep : Int) (a : Value) (xs : List Int) (t : ByteArray) (B : Nat) (w : World) (ha : Reads w B a (ints xs)) (hB : B ≤ w.heap.size) (ht : t.size ≤ 1000000) (htab : TabW w) (h : printS xs t = ps ∧ errP xs t = ep) :
    Calls Tryd.prog 7 #[.agg #[a, .string t]] w fun e w' => e = .returned (.tuple #[.string ps, .int .i64 ep]) ∧ Below w.heap.size w w' := h.1 ▸ h.2 ▸ print_any a xs t B w ha hB ht htab
set_option maxRecDepth 100000 in
set_option maxHeartbeats 4000000 in
theorem versionBack_walk (s : ByteArray) (a : Value) (xs : List Int) (p : ByteArray) (w : World) (htab : TabW w) (hs : s.size ≤ maxLen) (ha : Reads w w.heap.size a (ints xs)) :
    Calls Tryd.prog 4 #[.string s, .agg #[a, .string p]] w fun e w' => e = .returned (.bool true) ∧ Below w.heap.size w w' := by
  unfold maxLen at hs
  obtain ⟨A, ca, rfl⟩ := ha.form
  have HRA := Lib.hid ha
  have HTAB := Lib.hid htab
  clear ha htab
  by_cases hall : s.size ≤ 500 ∧ xs.length ≤ 100 ∧ p.size ≤ 100
  · obtain ⟨h1, h2, h3⟩ := hall
    obtain ⟨W1, hW1, hg0, hb1, hz1⟩ := row_new w (.cells #[.slice A xs.length ca, .string p] 24)
    have hR1 := (HRA.out.below hb1).more hb1.size
    have hT1 := HTAB.out.below hb1
    obtain ⟨hc0, hc1, _, _⟩ := cell_two hg0
    have HKV := Lib.hid (fun (w' : World) (h : KeepW W1 W1.heap.size w') => (⟨⟨(h.1.cell (p := ⟨w.heap.size, 0, none⟩) (by show w.heap.size < _; omega)).trans hc0, (h.1.cell (p := ⟨w.heap.size, 1, none⟩) (by show w.heap.size < _; omega)).trans hc1⟩, hR1.below h.1, hT1.below h.1⟩ :
      (w'.cell? ⟨w.heap.size, 0, none⟩ = some (.slice A xs.length ca) ∧ w'.cell? ⟨w.heap.size, 1, none⟩ = some (.string p)) ∧ Reads w' W1.heap.size (.slice A xs.length ca) (ints xs) ∧ TabW w'))
    have HB1 := Lib.hid hb1
    have HK0 := Lib.hid (KeepW.start (Nat.le_refl W1.heap.size))
    have HW1 := Lib.hid hW1
    have esb : (s.toList == s.toList) = true := by simp
    have esn : (s.toList != s.toList) = false := by simp
    have epb : (p.toList == p.toList) = true := by simp
    have HV0 : Hid (cmpV (xs, p.data.toList) (xs, p.data.toList) = 0) := Lib.hid ((Ver.cmpV_ord.zero _ _).2 rfl)
    clear hb1 hg0 hR1 hT1 hz1 hW1 hc0 hc1
    cases ho : okS s
    · have HO := Lib.hid ho
      clear ho
      go_enter Tryd.func4, Tryd.ntmps4
      go_upto_region 1 with (fail)
      rw [← HW1.out]
      have hk0 := HK0.out
      obtain ⟨⟨hc0, hc1⟩, _, _⟩ := HKV.out _ hk0
      go_wp2_with fail
      refine (parse_no s _ (by omega) HO.out).mono ?_
      rintro e w2 ⟨rfl, hb2⟩
      have hk2 := hk0.step hb2
      clear hc0 hc1
      go_upto_region 8 with (fail)
      obtain ⟨wc, hwc, _, hb2c, _, _⟩ := row_at w2 w2 (.cells #[.slice none 0 0, .string ⟨#[]⟩] 24) (Below.refl _ _)
      rw [← hwc]
      have hk := hk2.step hb2c
      clear hk0 hk2 hwc hb2c hb2
      obtain ⟨⟨hc0, hc1⟩, hRc, hTc⟩ := HKV.out _ hk
      cases hok : okP xs p
      · have HF := Lib.hid (printS_no hok)
        clear hok
        go_wp2_with fail
        refine (print_is ⟨#[]⟩ 130 _ xs p W1.heap.size _ hRc hk.2 (by omega) hTc HF.out).mono ?_
        rintro e wd ⟨rfl, hbd⟩
        have hkd := hk.step hbd
        go_wp2_with fail
        refine (works_any _).mono ?_
        rintro e we ⟨rfl, hbe⟩
        have hke := hkd.step hbe
        go_wp2_with fail
        go_ret
        exact ⟨rfl, HB1.out.trans (hke.1.mono HB1.out.size)⟩
      · have HF := Lib.hid (printS_yes hok)
        obtain ⟨r1, r2, r3⟩ := round_trip hok
        obtain ⟨T, hT⟩ : ∃ T, T = printS xs p := ⟨_, rfl⟩
        have HP := Lib.hid (show printS xs p = T ∧ errP xs p = 0 from ⟨hT.symm, HF.out.2⟩)
        rw [← hT] at r1 r2 r3
        have HR1 := Lib.hid r1
        have HR2 := Lib.hid r2
        clear hok hT r1 r2 HF
        go_wp2_with fail
        refine (print_is T 0 _ xs p W1.heap.size _ hRc hk.2 (by omega) hTc HP.out).mono ?_
        rintro e wd ⟨rfl, hbd⟩
        have hkd := hk.step hbd
        clear hbd hc0 hc1 hRc hTc hk
        go_wp2_with fail
        refine (parse_yes T _ (by omega) HR1.out).mono ?_
        rintro e wf ⟨v5, t5, rfl, hR5, htl5, htz5, hbf, ⟨A5, n5, c5, rfl, _⟩⟩
        rw [HR2.out] at hR5 htl5
        obtain rfl : t5 = p := str_ext htl5
        have hkf := hkd.step hbf
        go_upto_region 12 with (fail)
        obtain ⟨wg, hwg, hgg, hbg, hzg, _⟩ := row_at wf wf (.cells #[.slice A5 n5 c5, .string t5] 24) (Below.refl _ _)
        rw [← hwg]
        have hkg := hkf.step hbg
        have HR5 := Lib.hid ((hR5.below hbg).more hbg.size)
        obtain ⟨hd0, hd1, _, _⟩ := cell_two hgg
        obtain ⟨⟨hc0, hc1⟩, hRg, _⟩ := HKV.out _ hkg
        have hRg' := Lib.hid (hRg.more hkg.2)
        have hwz : wf.heap.size < wg.heap.size := by omega
        clear hkd hkf hwg hbg hR5 htl5 hbf hzg hgg hRg
        go_wp2_with fail
        refine (compare_any _ _ xs xs t5 t5 wg.heap.size _ HR5.out hRg'.out (Nat.le_refl _) (by omega) (by omega)).mono ?_
        rintro e wh ⟨rfl, hbh⟩
        rw [HV0.out]
        have hkh := hkg.step hbh.below
        have hd0' := (hbh.below.cell (p := ⟨wf.heap.size, 0, none⟩) hwz).trans hd0
        have hd1' := (hbh.below.cell (p := ⟨wf.heap.size, 1, none⟩) hwz).trans hd1
        have HR6 := Lib.hid ((HR5.out.below hbh.below).more hbh.below.size)
        obtain ⟨⟨he0, he1⟩, hRh, _⟩ := HKV.out _ hkh
        have hwz2 : wf.heap.size < wh.heap.size := Nat.lt_of_lt_of_le hwz hbh.below.size
        have hRh' := Lib.hid (hRh.more hkh.2)
        clear hkg hbh hd0 hd1 hc0 hc1 hRh
        go_wp2_with fail
        refine (sameInts_any _ _ xs xs _ _ HR6.out hRh'.out).mono ?_
        rintro e wi ⟨rfl, nq, hwi⟩
        rw [show decide (xs = xs) = true from decide_eq_true rfl]
        have hbi : Below wh.heap.size wh wi := by rw [hwi]; exact below_drewN (Below.refl _ _) nq
        have hki := hkh.step hbi
        have hf1 := (hbi.cell (p := ⟨wf.heap.size, 1, none⟩) hwz2).trans hd1'
        obtain ⟨⟨hh0, hh1⟩, _, _⟩ := HKV.out _ hki
        clear hkh hbi hwi hd0' hd1' he0 he1
        go_wp2_with fail
        refine (works_any _).mono ?_
        rintro e wj ⟨rfl, hbj⟩
        have hkj := hki.step hbj
        go_wp2_with fail
        go_ret
        exact ⟨rfl, HB1.out.trans (hkj.1.mono HB1.out.size)⟩
    · have HO := Lib.hid ho
      clear ho
      go_enter Tryd.func4, Tryd.ntmps4
      go_upto_region 1 with (fail)
      rw [← HW1.out]
      have hk0 := HK0.out
      obtain ⟨⟨hc0, hc1⟩, _, _⟩ := HKV.out _ hk0
      go_wp2_with fail
      refine (parse_yes s _ (by omega) HO.out).mono ?_
      rintro e w2 ⟨v, t, rfl, hR, htl, htz, hb2, ⟨Av, nv, cv, rfl, _⟩⟩
      have hk2 := hk0.step hb2
      clear hc0 hc1
      go_upto_region 5 with (fail)
      obtain ⟨w3, hw3, hg3, hb23, hz3, _⟩ := row_at w2 w2 (.cells #[.slice Av nv cv, .string t] 24) (Below.refl _ _)
      rw [← hw3]
      have hk3 := hk2.step hb23
      have HBK := Lib.hid (back_same HO.out htl)
      obtain ⟨⟨_, _⟩, _, hT3⟩ := HKV.out _ hk3
      have HR3 := Lib.hid ((hR.below hb23).more hb23.size)
      obtain ⟨hd0, hd1, _, _⟩ := cell_two hg3
      clear hk0 hk2 hw3 hb23 hb2 hR htl hg3 hz3
      go_wp2_with fail
      refine (print_is s 0 _ (verOf s).1 t w3.heap.size _ HR3.out (Nat.le_refl _) (by omega) hT3 HBK.out).mono ?_
      rintro e wc ⟨rfl, hbc⟩
      have hk := hk3.step hbc
      clear hbc hk3 hT3 hd0 hd1
      go_upto_region 8 with (fail)
      obtain ⟨⟨hc0, hc1⟩, hRc, hTc⟩ := HKV.out _ hk
      cases hok : okP xs p
      · have HF := Lib.hid (printS_no hok)
        clear hok
        go_wp2_with fail
        refine (print_is ⟨#[]⟩ 130 _ xs p W1.heap.size _ hRc hk.2 (by omega) hTc HF.out).mono ?_
        rintro e wd ⟨rfl, hbd⟩
        have hkd := hk.step hbd
        go_wp2_with fail
        refine (works_any _).mono ?_
        rintro e we ⟨rfl, hbe⟩
        have hke := hkd.step hbe
        go_wp2_with fail
        go_ret
        exact ⟨rfl, HB1.out.trans (hke.1.mono HB1.out.size)⟩
      · have HF := Lib.hid (printS_yes hok)
        obtain ⟨r1, r2, r3⟩ := round_trip hok
        obtain ⟨T, hT⟩ : ∃ T, T = printS xs p := ⟨_, rfl⟩
        have HP := Lib.hid (show printS xs p = T ∧ errP xs p = 0 from ⟨hT.symm, HF.out.2⟩)
        rw [← hT] at r1 r2 r3
        have HR1 := Lib.hid r1
        have HR2 := Lib.hid r2
        clear hok hT r1 r2 HF
        go_wp2_with fail
        refine (print_is T 0 _ xs p W1.heap.size _ hRc hk.2 (by omega) hTc HP.out).mono ?_
        rintro e wd ⟨rfl, hbd⟩
        have hkd := hk.step hbd
        clear hbd hc0 hc1 hRc hTc hk
        go_wp2_with fail
        refine (parse_yes T _ (by omega) HR1.out).mono ?_
        rintro e wf ⟨v5, t5, rfl, hR5, htl5, htz5, hbf, ⟨A5, n5, c5, rfl, _⟩⟩
        rw [HR2.out] at hR5 htl5
        obtain rfl : t5 = p := str_ext htl5
        have hkf := hkd.step hbf
        go_upto_region 12 with (fail)
        obtain ⟨wg, hwg, hgg, hbg, hzg, _⟩ := row_at wf wf (.cells #[.slice A5 n5 c5, .string t5] 24) (Below.refl _ _)
        rw [← hwg]
        have hkg := hkf.step hbg
        have HR5 := Lib.hid ((hR5.below hbg).more hbg.size)
        obtain ⟨hd0, hd1, _, _⟩ := cell_two hgg
        obtain ⟨⟨hc0, hc1⟩, hRg, _⟩ := HKV.out _ hkg
        have hRg' := Lib.hid (hRg.more hkg.2)
        have hwz : wf.heap.size < wg.heap.size := by omega
        clear hkd hkf hwg hbg hR5 htl5 hbf hzg hgg hRg
        go_wp2_with fail
        refine (compare_any _ _ xs xs t5 t5 wg.heap.size _ HR5.out hRg'.out (Nat.le_refl _) (by omega) (by omega)).mono ?_
        rintro e wh ⟨rfl, hbh⟩
        rw [HV0.out]
        have hkh := hkg.step hbh.below
        have hd0' := (hbh.below.cell (p := ⟨wf.heap.size, 0, none⟩) hwz).trans hd0
        have hd1' := (hbh.below.cell (p := ⟨wf.heap.size, 1, none⟩) hwz).trans hd1
        have HR6 := Lib.hid ((HR5.out.below hbh.below).more hbh.below.size)
        obtain ⟨⟨he0, he1⟩, hRh, _⟩ := HKV.out _ hkh
        have hwz2 : wf.heap.size < wh.heap.size := Nat.lt_of_lt_of_le hwz hbh.below.size
        have hRh' := Lib.hid (hRh.more hkh.2)
        clear hkg hbh hd0 hd1 hc0 hc1 hRh
        go_wp2_with fail
        refine (sameInts_any _ _ xs xs _ _ HR6.out hRh'.out).mono ?_
        rintro e wi ⟨rfl, nq, hwi⟩
        rw [show decide (xs = xs) = true from decide_eq_true rfl]
        have hbi : Below wh.heap.size wh wi := by rw [hwi]; exact below_drewN (Below.refl _ _) nq
        have hki := hkh.step hbi
        have hf1 := (hbi.cell (p := ⟨wf.heap.size, 1, none⟩) hwz2).trans hd1'
        obtain ⟨⟨hh0, hh1⟩, _, _⟩ := HKV.out _ hki
        clear hkh hbi hwi hd0' hd1' he0 he1
        go_wp2_with fail
        refine (works_any _).mono ?_
        rintro e wj ⟨rfl, hbj⟩
        have hkj := hki.step hbj
        go_wp2_with fail
        go_ret
        exact ⟨rfl, HB1.out.trans (hkj.1.mono HB1.out.size)⟩
  · have hR : ∀ wk : World, Below w.heap.size w wk → Calls Tryd.prog 6 #[] wk fun e w2 => e = .returned (.bool true) ∧ Below w.heap.size w w2 := fun wk h => (works_any wk).mono fun _ _ ⟨he, hb⟩ => ⟨he, below_step h hb h.size⟩
    have HW := Lib.hid hR
    have HH : 500 < s.size ∨ (s.size ≤ 500 ∧ 100 < xs.length) ∨ (s.size ≤ 500 ∧ xs.length ≤ 100 ∧ 100 < p.size) := by omega
    clear hall hR
    rcases HH with h1 | ⟨h1, h2⟩ | ⟨h1, h2, h3⟩
    all_goals
      go_enter Tryd.func4, Tryd.ntmps4
      go_wp2_with (go_at_call 6; refine (HW.out _ ((Below.refl _ _).alloc (Nat.le_refl _) _)).mono ?_; rintro e w2 ⟨rfl, hb2⟩)
      go_ret
      exact ⟨rfl, hb2⟩
end Go.Proofs.YtijepjoklmblhaaDoor
