/- Contract of the reference's May. -/
import Derived.Test.YtjckcdemkpmheaaDoorRngR
namespace Go.Proofs.YtjckcdemkpmheaaDoor
open Go.RowKit Go.BigFrame
open Ver (cmpV BL parts)

theorem refParse_e (v : ByteArray) (w : World) (hv : v.size ≤ 1000000) : Calls Tryd.prog 33 #[.string v] w fun e w' => ∃ a t, e = .returned (.tuple #[.agg #[a, .string t], .int .i64 (if okS v = true then 0 else 130)]) ∧ (∃ A n cap, a = .slice A n cap) ∧ Below w.heap.size w w' := by
  cases ho : okS v
  · refine (refParse_no v w hv ho).mono ?_
    rintro e w' ⟨rfl, hb⟩
    exact ⟨_, _, rfl, ⟨_, _, _, rfl⟩, hb⟩
  · refine (refParse_yes v w hv ho).mono ?_
    rintro e w' ⟨a, t, rfl, _, _, _, hb, ⟨A, n, cap, rfl, _⟩⟩
    exact ⟨_, _, rfl, ⟨_, _, _, rfl⟩, hb⟩
set_option maxRecDepth 100000 in
set_option maxHeartbeats 4000000 in
theorem may_any (r : List (List Bd)) (v : Value) (w : World) (h : RngAt w v r) (hsz : Short r) : Calls Tryd.prog 28 #[v] w fun e w' => e = .returned (.bool (mayR r)) ∧ Below w.heap.size w w' := by
  obtain ⟨A, cap, rfl, hcl, hcm⟩ := h.form
  have HR := Lib.hid h
  have HSZ := Lib.hid hsz
  clear h hsz
  unfold maxLen at hcm
  go_enter Tryd.func28, Tryd.ntmps28
  go_wp2
  go_loopw [3] (fun i wr => ∃ (k : Nat), k ≤ r.length ∧ i = .int .i64 (k : Int) ∧ Hid ((r.take k).all mayRow = true) ∧ Hid (Below w.heap.size w wr)) (fun i _ => r.length - (intOf i).toNat)
  case atStart => exact ⟨0, by omega, rfl, Lib.hid rfl, Lib.hid (Below.refl _ _)⟩
  case round =>
    obtain ⟨k, hk, rfl, HALL, HB⟩ := hrel
    by_cases hlt : k < r.length
    · have hltI : (k : Int) < (r.length : Int) := by omega
      have hk0 : (0 : Int) ≤ (k : Int) := by omega
      obtain ⟨ad, u, rfl, hc, hrow⟩ := (HR.out.below HB.out).get k hlt
      obtain ⟨row, hrw⟩ : ∃ row, row = r.getD k default := ⟨_, rfl⟩
      rw [← hrw] at hrow
      have HRK := Lib.hid (show r[k]? = some row by rw [hrw]; exact getD_get r k _ hlt)
      have HSR := Lib.hid (show ∀ b ∈ row, b.2.size ≤ 1000000 from HSZ.out row (List.mem_of_getElem? HRK.out))
      obtain ⟨A2, cap2, rfl, hcl2, hcm2⟩ := RdS.form hrow
      have HROW := Lib.hid hrow
      clear hrow hrw
      unfold maxLen at hcm2
      by_cases hrl : 1 ≤ row.length ∧ row.length ≤ 16
      · have hr1 : ¬ (row.length : Int) < 1 := by omega
        have hr2 : ¬ (row.length : Int) > 16 := by omega
        go_wp2
        obtain ⟨wo, hwo⟩ : ∃ wo : World, wo = wr := ⟨_, rfl⟩
        rw [← hwo] at HB hc HROW ⊢
        clear hwo wr
        have HC := Lib.hid hc
        clear hc
        go_loopw [4] (fun j wq => ∃ (m : Nat), m ≤ row.length ∧ j = .int .i64 (m : Int) ∧ Hid ((row.take m).all mayB = true) ∧ Hid (Below wo.heap.size wo wq)) (fun j _ => row.length - (intOf j).toNat)
        case atStart => exact ⟨0, by omega, rfl, Lib.hid rfl, Lib.hid (Below.refl _ _)⟩
        case round =>
          obtain ⟨m, hm, rfl, HMAY, HBI⟩ := hrel
          have hbl := block_lt_of_cell (show wo.cell? ⟨(ad.add k).block, (ad.add k).off, (ad.add k).3⟩ = _ from HC.out)
          have hc : wr.cell? (ad.add k) = some (.slice A2 row.length cap2) := (HBI.out.cell hbl).trans HC.out
          have hbw := below_step HB.out HBI.out HB.out.size
          have HBW := Lib.hid hbw
          clear hbw hbl
          by_cases hmt : m < row.length
          · have hmtI : (m : Int) < (row.length : Int) := by omega
            have hm0 : (0 : Int) ≤ (m : Int) := by omega
            obtain ⟨ad2, rfl, hbc⟩ := BRow.get (RdS.below HROW.out HBI.out) m hmt
            obtain ⟨b, hbb⟩ : ∃ b, b = row.getD m default := ⟨_, rfl⟩
            rw [← hbb] at hbc
            have HBK := Lib.hid (show row[m]? = some b by rw [hbb]; exact getD_get row m _ hmt)
            have hvz : b.2.size ≤ 1000000 := HSR.out b (List.mem_of_getElem? HBK.out)
            clear hbb
            obtain ⟨o, tx⟩ := b
            have hb0 : wr.cell? (ad2.add (m * 2)) = some (.int .u8 (o : Int)) := by have := hbc 0 _ rfl; simpa [add_add] using this
            have hb1 : wr.cell? ⟨(ad2.add (m * 2)).block, (ad2.add (m * 2)).off + 1, none⟩ = some (.string tx) := hbc 1 _ rfl
            clear hbc
            go_upto_region 10 with (fail)
            obtain ⟨W9, hW9, hg9, hq9, hz9, hB9⟩ := row_at w wr (.cells #[.int .u8 (o : Int), .string tx] 45) HBW.out
            rw [← hW9]
            have HQ9 := Lib.hid (below_step HBI.out hq9 HBI.out.size)
            have HG9 := Lib.hid hg9
            clear hW9 hb0 hb1 hc hq9
            obtain ⟨hc0, hc1, _, _⟩ := cell_two hg9
            clear hg9 hz9
            go_wp2_with fail
            refine (refParse_e tx _ hvz).mono ?_
            rintro e w2 ⟨a, t, rfl, ⟨A3, n3, c3, rfl⟩, hb2⟩
            obtain ⟨ev, hev⟩ : ∃ ev : Int, ev = if okS tx = true then 0 else 130 := ⟨_, rfl⟩
            rw [← hev]
            have HEV := Lib.hid hev
            clear hev
            go_upto_region 11 with (fail)
            obtain ⟨WX, hWX, hgX, hqX, hzX, hBX⟩ := row_at w w2 (.cells #[.slice A3 n3 c3, .string t] 61) (below_step hB9 hb2 hB9.size)
            rw [← hWX]
            obtain ⟨hx0, hx1, _, _⟩ := cell_two ((hqX.block wr.heap.size (Nat.lt_of_lt_of_le (block_lt HG9.out) hb2.size)).trans ((hb2.block wr.heap.size (block_lt HG9.out)).trans HG9.out))
            have HBX := Lib.hid hBX
            have HWX := Lib.hid (show Below wo.heap.size wo WX from below_step (below_step HQ9.out hb2 HQ9.out.size) hqX (Nat.le_trans HQ9.out.size hb2.size))
            clear hWX hgX hqX hzX hBX hb2 hB9 hc0 hc1
            by_cases h0 : o = 0
            · subst h0
              have HM := Lib.hid (mayB_zero tx)
              by_cases hz : tx.size = 0
              · obtain rfl : tx = ⟨#[]⟩ := str_ext (List.eq_nil_of_length_eq_zero (by rw [len_data]; exact hz))
                have HNX := Lib.hid (all_next mayB row m _ HBK.out HMAY.out (by rw [HM.out]; rfl))
                clear hz
                go_wp2
                go_roundw
                case rel => exact ⟨m + 1, by omega, by go_num, HNX, HWX⟩
                case measure => simp [intOf]; omega
              · have hcons := cons_list tx (by omega)
                have HN := Lib.hid (mayR_row r k row HRK.out (mayRow_bd row m _ HBK.out (by rw [HM.out, decide_eq_false hz])))
                go_wp2
                go_ret
                exact ⟨ret_bool HN.out.symm, HBX.out⟩
            · have HM := Lib.hid (mayB_pos o tx h0)
              have he0 : ((o : Int) == 0) = false := by rw [beq_eq_false_iff_ne]; omega
              have hn0 : ((o : Int) != 0) = true := by rw [bne_iff_ne]; omega
              have HO := Lib.hid h0
              clear h0
              by_cases h7 : o ≤ 7
              · have h7I : ¬ (o : Int) > 7 := by omega
                cases ho : okS tx
                · have HN := Lib.hid (mayR_row r k row HRK.out (mayRow_bd row m _ HBK.out (by rw [HM.out, ho, Bool.and_false])))
                  have hev : ev = 130 := by rw [HEV.out, ho, if_neg (by simp)]
                  subst hev
                  go_wp2
                  go_ret
                  exact ⟨ret_bool HN.out.symm, HBX.out⟩
                · have HNX := Lib.hid (all_next mayB row m _ HBK.out HMAY.out (by rw [HM.out, ho, decide_eq_true h7]; rfl))
                  have hev : ev = 0 := by rw [HEV.out, ho, if_pos rfl]
                  subst hev
                  go_wp2
                  go_roundw
                  case rel => exact ⟨m + 1, by omega, by go_num, HNX, HWX⟩
                  case measure => simp [intOf]; omega
              · have h7I : (o : Int) > 7 := by omega
                have HN := Lib.hid (mayR_row r k row HRK.out (mayRow_bd row m _ HBK.out (by rw [HM.out, decide_eq_false h7, Bool.false_and])))
                go_wp2
                go_ret
                exact ⟨ret_bool HN.out.symm, HBX.out⟩
          · have hmtI : ¬ (m : Int) < (row.length : Int) := by omega
            have HNX := Lib.hid (all_next mayRow r k row HRK.out HALL.out (by
              unfold mayRow
              have := HMAY.out
              rw [show m = row.length by omega, List.take_length] at this
              rw [decide_eq_true hrl, this]; rfl))
            go_wp2
            go_roundw
            case rel => exact ⟨k + 1, by omega, by go_num, HNX, HBW⟩
            case measure => simp [intOf]; omega
      · have HN := Lib.hid (mayR_row r k row HRK.out (mayRow_len row hrl))
        by_cases h1 : row.length < 1
        · have h1I : (row.length : Int) < 1 := by omega
          go_wp2
          go_ret
          exact ⟨ret_bool HN.out.symm, HB.out⟩
        · have h1I : ¬ (row.length : Int) < 1 := by omega
          have h2I : (row.length : Int) > 16 := by omega
          go_wp2
          go_ret
          exact ⟨ret_bool HN.out.symm, HB.out⟩
    · have hke : k = r.length := by omega
      subst hke
      have hltI : ¬ (r.length : Int) < (r.length : Int) := by omega
      have HN := Lib.hid (show mayR r = decide ((r.length : Int) ≤ 16) by
        unfold mayR
        have := HALL.out
        rw [List.take_length] at this
        rw [this, Bool.and_true, decide_eq_decide]; omega)
      go_wp2
      go_ret
      exact ⟨ret_bool HN.out.symm, HB.out⟩
end Go.Proofs.YtjckcdemkpmheaaDoor
