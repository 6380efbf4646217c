/- Contract of the reference's Allows. -/
import Derived.Test.YtjckcdemkpmheaaDoorRngV
namespace Go.Proofs.YtjckcdemkpmheaaDoor
open Go.RowKit Go.BigFrame
open Ver (cmpV BL parts)

theorem any_step {α : Type} (f : α → Bool) (l : List α) (k : Nat) (x : α) (hk : l[k]? = some x) : (l.take (k + 1)).any f = ((l.take k).any f || f x) := by
  rw [take_next l k x hk, List.any_append, List.any_cons, List.any_nil, Bool.or_false]
set_option maxRecDepth 100000 in
set_option maxHeartbeats 4000000 in
theorem refAllow_any (r : List (List Bd)) (v : Value) (s : ByteArray) (w : World) (h : RngAt w v r) (hsz : Short r) (hs : s.size ≤ 1000000) :
    Calls Tryd.prog 17 #[v, .string s] w fun e w' => e = .returned (.bool (allowR r s)) ∧ Below w.heap.size w w' := by
  obtain ⟨A, cap, rfl, hcl, hcm⟩ := h.form
  have HR := Lib.hid h
  have HSZ := Lib.hid hsz
  clear h hsz
  unfold maxLen at hcm
  cases ho : okS s
  · have HF := Lib.hid (show allowR r s = false by unfold allowR allowsB; rw [ho, Bool.false_and, Bool.and_false])
    have HO := Lib.hid ho
    clear ho
    go_enter Tryd.func17, Tryd.ntmps17
    go_wp2_with fail
    refine (refParse_no s _ hs HO.out).mono ?_
    rintro e w1 ⟨rfl, hb1⟩
    go_wp2
    go_ret
    exact ⟨ret_bool HF.out.symm, hb1.alloc hb1.size _⟩
  · have HO := Lib.hid ho
    clear ho
    go_enter Tryd.func17, Tryd.ntmps17
    go_wp2_with fail
    refine (refParse_yes s _ hs HO.out).mono ?_
    rintro e w1 ⟨a, t, rfl, hR, htl, htz, hb1, ⟨A', n', cap', rfl, _⟩⟩
    go_upto_region 2 with (fail)
    obtain ⟨W2, hW2, hg2, hq2, hz2, hB2⟩ := row_at w w1 (.cells #[.slice A' n' cap', .string t] 61) hb1
    rw [← hW2]
    have HX := Lib.hid ((hR.below hq2).more hq2.size)
    have HT := Lib.hid (show ((verOf s).1, t.data.toList) = verOf s by rw [htl])
    have HG2 := Lib.hid hg2
    have HB2 := Lib.hid hB2
    have HMY := Lib.hid (may_any r _ W2 (HR.out.below hB2) HSZ.out)
    clear hW2 hg2 hq2 hz2 hB2 hR htl hb1
    cases hm : mayR r
    · rw [hm] at HMY
      have HF := Lib.hid (show allowR r s = false by unfold allowR; rw [hm, Bool.false_and])
      clear hm
      go_wp2_with (go_at_call 28; refine HMY.out.mono ?_; rintro e w3 ⟨rfl, hb3⟩)
      go_ret
      exact ⟨ret_bool HF.out.symm, below_step HB2.out hb3 HB2.out.size⟩
    · rw [hm] at HMY
      have HF := Lib.hid (show allowR r s = (decide (r.length = 0) || r.any (rowAll (verOf s))) by unfold allowR allowsB; rw [hm, HO.out, Bool.true_and, Bool.true_and])
      have HMA := Lib.hid (may_all r hm)
      clear hm
      go_wp2_with (go_at_call 28; refine HMY.out.mono ?_; rintro e w3 ⟨rfl, hb3⟩)
      have HB3 := Lib.hid (below_step HB2.out hb3 HB2.out.size)
      have HG3 := Lib.hid ((hb3.block w1.heap.size (block_lt HG2.out)).trans HG2.out)
      have HX3 := Lib.hid ((HX.out.below hb3).more hb3.size)
      clear hb3 HMY HX HG2 HB2
      go_loopw [7] (fun i wr => ∃ (k : Nat), k ≤ r.length ∧ i = .int .i64 (k : Int) ∧ Hid ((r.take k).any (rowAll (verOf s)) = false) ∧ Hid (Below w3.heap.size w3 wr)) (fun i _ => r.length - (intOf i).toNat)
      case atStart => exact ⟨0, by omega, rfl, Lib.hid rfl, Lib.hid (Below.refl _ _)⟩
      case round =>
        obtain ⟨k, hk, rfl, HANY, HB⟩ := hrel
        by_cases hlt : k < r.length
        · have hltI : (k : Int) < (r.length : Int) := by omega
          have hk0 : (0 : Int) ≤ (k : Int) := by omega
          obtain ⟨ad, u, rfl, hc, hrow⟩ := (HR.out.below (below_step HB3.out HB.out HB3.out.size)).get k hlt
          obtain ⟨row, hrw⟩ : ∃ row, row = r.getD k default := ⟨_, rfl⟩
          rw [← hrw] at hrow
          have HRK := Lib.hid (show r[k]? = some row by rw [hrw]; exact getD_get r k _ hlt)
          have HSR := Lib.hid (show ∀ b ∈ row, b.2.size ≤ 1000000 from HSZ.out row (List.mem_of_getElem? HRK.out))
          have HMR := Lib.hid (show ∀ b ∈ row, mayB b = true from HMA.out row (List.mem_of_getElem? HRK.out))
          obtain ⟨A2, cap2, rfl, hcl2, hcm2⟩ := RdS.form hrow
          have HROW := Lib.hid hrow
          clear hrow hrw
          unfold maxLen at hcm2
          obtain ⟨wo, hwo⟩ : ∃ wo : World, wo = wr := ⟨_, rfl⟩
          rw [← hwo] at HB hc HROW ⊢
          clear hwo wr
          have HC := Lib.hid hc
          clear hc
          go_wp2
          go_loopw [8, 9] (fun f j wq => ∃ (m : Nat) (fl : Bool), m ≤ row.length ∧ f = .bool fl ∧ j = .int .i64 (m : Int) ∧ Hid (fl = !(row.take m).any (bars (verOf s))) ∧ Hid (Below wo.heap.size wo wq)) (fun _ j _ => row.length - (intOf j).toNat)
          case atStart => exact ⟨0, true, by omega, rfl, rfl, Lib.hid rfl, Lib.hid (Below.refl _ _)⟩
          case round =>
            obtain ⟨m, fl, hm, rfl, rfl, HFL, HBI⟩ := hrel
            have hbl0 := block_lt_of_cell (show wo.cell? ⟨(ad.add k).block, (ad.add k).off, (ad.add k).3⟩ = _ from HC.out)
            have hc : wr.cell? (ad.add k) = some (.slice A2 row.length cap2) := (HBI.out.cell hbl0).trans HC.out
            have hbl := block_lt_of_cell (show wr.cell? ⟨(ad.add k).block, (ad.add k).off, (ad.add k).3⟩ = _ from hc)
            clear hbl0
            by_cases hmt : m < row.length
            · have hmtI : (m : Int) < (row.length : Int) := by omega
              have hm0 : (0 : Int) ≤ (m : Int) := by omega
              have HST := Lib.hid (fun x (hx : row[m]? = some x) => any_step (bars (verOf s)) row m x hx)
              obtain ⟨ad2, rfl, hbc⟩ := BRow.get (RdS.below HROW.out HBI.out) m hmt
              cases fl
              · have HN := Lib.hid (show false = !(row.take (m + 1)).any (bars (verOf s)) by
                  rw [HST.out _ (getD_get row m default hmt), show (row.take m).any (bars (verOf s)) = true by have := HFL.out; revert this; cases (row.take m).any (bars (verOf s)) <;> simp]; rfl)
                clear hbc
                go_wp2
                go_quiet (fail)
                go_wp2
                go_roundw
                case rel => exact ⟨m + 1, false, by omega, rfl, by go_num, HN, Lib.hid (below_drewN HBI.out _)⟩
                case measure => simp [intOf]; omega
              · obtain ⟨b, hbb⟩ : ∃ b, b = row.getD m default := ⟨_, rfl⟩
                rw [← hbb] at hbc
                have HBK := Lib.hid (show row[m]? = some b by rw [hbb]; exact getD_get row m _ hmt)
                have hvz : b.2.size ≤ 1000000 := HSR.out b (List.mem_of_getElem? HBK.out)
                have hmb := HMR.out b (List.mem_of_getElem? HBK.out)
                clear hbb
                have hz3 : w3.heap.size ≤ wr.heap.size := Nat.le_trans HB.out.size HBI.out.size
                have hbw3 := below_step HB.out HBI.out HB.out.size
                have hg1 := (hbw3.block w1.heap.size (block_lt HG3.out)).trans HG3.out
                obtain ⟨hv0, hv1, _, _⟩ := cell_two hg1
                have hlv := block_lt hg1
                have hX := (HX3.out.below hbw3).more hbw3.size
                have hal : ∀ w', KeepW wr wr.heap.size w' → Calls Tryd.prog 34 #[.agg #[.int .u8 (b.1 : Int), .string b.2], .agg #[.slice A' n' cap', .string t]] w' fun e w2 => e = .returned (.bool (opV b.1 (verOf s) (verOf b.2))) ∧ KeepW wr wr.heap.size w2 := fun w' hk => by
                  have hw := hk.2
                  have hc := refallow_any b _ (verOf s).1 t w' hmb hvz ((hX.below hk.1).more hk.2) (by omega)
                  rw [HT.out] at hc
                  exact hk.calls hc
                obtain ⟨ok, hok⟩ : ∃ ok, ok = opV b.1 (verOf s) (verOf b.2) := ⟨_, rfl⟩
                rw [← hok] at hal
                have HN := Lib.hid (show ok = !(row.take (m + 1)).any (bars (verOf s)) by
                  rw [HST.out _ HBK.out, show (row.take m).any (bars (verOf s)) = false by have := HFL.out; revert this; cases (row.take m).any (bars (verOf s)) <;> simp]
                  unfold bars
                  rw [Bool.false_or, Bool.not_not, hok])
                obtain ⟨o, tx⟩ := b
                dsimp only at hal hvz
                have hb0 : wr.cell? (ad2.add (m * 2)) = some (.int .u8 (o : Int)) := by have := hbc 0 _ rfl; simpa [add_add] using this
                have hb1 : wr.cell? ⟨(ad2.add (m * 2)).block, (ad2.add (m * 2)).off + 1, none⟩ = some (.string tx) := hbc 1 _ rfl
                have hbl2 := block_lt_of_cell (show wr.cell? ⟨(ad2.add (m * 2)).block, (ad2.add (m * 2)).off, (ad2.add (m * 2)).3⟩ = _ from hb0)
                have HAL := Lib.hid hal
                have hkk : ∀ w', KeepW wr wr.heap.size w' → (w'.cell? (ad.add k) = some (.slice (some ad2) row.length cap2) ∧ w'.cell? (ad2.add (m * 2)) = some (.int .u8 (o : Int)) ∧ w'.cell? ⟨(ad2.add (m * 2)).block, (ad2.add (m * 2)).off + 1, none⟩ = some (.string tx) ∧ w'.cell? ⟨w1.heap.size, 0, none⟩ = some (.slice A' n' cap') ∧ w'.cell? ⟨w1.heap.size, 1, none⟩ = some (.string t)) ∧ KeepW wr wr.heap.size w' := fun w' h =>
                  ⟨⟨(h.1.cell hbl).trans hc, (h.1.cell hbl2).trans hb0, (h.1.cell (p := ⟨(ad2.add (m * 2)).block, (ad2.add (m * 2)).off + 1, none⟩) hbl2).trans hb1, (h.1.cell (p := ⟨w1.heap.size, 0, none⟩) hlv).trans hv0, (h.1.cell (p := ⟨w1.heap.size, 1, none⟩) hlv).trans hv1⟩, h⟩
                have HKK := Lib.hid hkk
                have hk0' : KeepW wr wr.heap.size wr := KeepW.start (Nat.le_refl _)
                clear hkk hal hX hbw3 hg1 hbc hmb hok hlv hbl2 hbl
                go_wp2
                go_region_held3 (fun w' => (w'.cell? (ad.add k) = some (.slice (some ad2) row.length cap2) ∧ w'.cell? (ad2.add (m * 2)) = some (.int .u8 (o : Int)) ∧ w'.cell? ⟨(ad2.add (m * 2)).block, (ad2.add (m * 2)).off + 1, none⟩ = some (.string tx) ∧ w'.cell? ⟨w1.heap.size, 0, none⟩ = some (.slice A' n' cap') ∧ w'.cell? ⟨w1.heap.size, 1, none⟩ = some (.string t)) ∧ KeepW wr wr.heap.size w') (first | exact HKK.out _ (by assumption) | exact HKK.out _ (KeepW.drew (by assumption)) | go_keep) (first | (go_at_call 34; refine (HAL.out _ (by first | assumption | exact KeepW.drew (by assumption))).mono ?_; rintro e w4 ⟨rfl, hk4⟩))
                all_goals
                  have HB4 := Lib.hid (below_step HBI.out hk4.1 HBI.out.size)
                  go_wp2_with fail
                  go_roundw
                  case rel => exact ⟨m + 1, ok, by omega, rfl, by go_num, HN, HB4⟩
                  case measure => simp [intOf]; omega
            · have hmtI : ¬ (m : Int) < (row.length : Int) := by omega
              have HRA := Lib.hid (show fl = rowAll (verOf s) row by
                have := HFL.out
                rw [show m = row.length by omega, List.take_length] at this
                exact this)
              have HBX := Lib.hid (below_step HB.out HBI.out HB.out.size)
              cases fl
              · have HN := Lib.hid (any_next (rowAll (verOf s)) r k row HRK.out HANY.out HRA.out.symm)
                go_wp2
                go_roundw
                case rel => exact ⟨k + 1, by omega, by go_num, HN, HBX⟩
                case measure => simp [intOf]; omega
              · have HN := Lib.hid (show allowR r s = true by rw [HF.out, any_hit (rowAll (verOf s)) r k row HRK.out HRA.out.symm, Bool.or_true])
                go_wp2
                go_ret
                exact ⟨ret_bool HN.out.symm, below_step HB3.out HBX.out HB3.out.size⟩
        · have hke : k = r.length := by omega
          subst hke
          have hltI : ¬ (r.length : Int) < (r.length : Int) := by omega
          have HN := Lib.hid (show allowR r s = ((r.length : Int) == 0) by
            have := HANY.out
            rw [List.take_length] at this
            rw [HF.out, this, Bool.or_false, Bool.eq_iff_iff]
            simp)
          go_wp2
          go_ret
          exact ⟨ret_bool HN.out.symm, below_step HB3.out HB.out HB3.out.size⟩
end Go.Proofs.YtjckcdemkpmheaaDoor
