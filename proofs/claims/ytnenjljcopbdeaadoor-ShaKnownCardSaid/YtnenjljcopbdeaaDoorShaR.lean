/- The contract of the reference's Read. -/
import Derived.Test.YtnenjljcopbdeaaDoorShaQ
namespace Go.Proofs.YtnenjljcopbdeaaDoor
open Go.RowKit Go.BigFrame

theorem digit_val (c : UInt8) (w : World) :
    Calls Tryd.prog 30 #[.int .u8 (c.toNat : Int)] w fun e w' => e = .returned (.int .i64 (digI c.toNat)) ∧ w' = w := digit_any c.toNat c.toNat_lt w
theorem run_index_chr (w : World) (s : ByteArray) (m : Int) (i : Nat) (hm : m = (i : Int)) (h : i < s.size) : (Instr.index 9 (.string s) (.int .i64 m)).run Tryd.prog w = .ok (.int .u8 ((chr s i).toNat : Int)) w := by
  subst hm
  have h0 : s[i]? = some (chr s i) := by
    rw [← chr_at s i h]
    exact getElem?_pos s i h
  simp [Instr.index, asIntOf, run_underlying Tryd.underlying9, h0]
theorem digI_yes (c : Nat) (h : hexOk c = true) : digI c = (hexV c : Int) := by simp [digI, h]
theorem digI_no (c : Nat) (h : hexOk c = false) : digI c = -1 := by simp [digI, h]

set_option maxRecDepth 100000 in
set_option maxHeartbeats 1000000 in
theorem refRead_any (s : ByteArray) (w : World) (hs : s.size ≤ maxLen) :
    Calls Tryd.prog 18 #[.string s] w fun e w' => e = .returned (.tuple #[.agg (digA (rdD s) 32), .bool (okR s)]) ∧ Below w.heap.size w w' := by
  unfold maxLen at hs
  go_enter Tryd.func18, Tryd.ntmps18
  go_upto_region 2 with (fail)
  rw [zeros32]
  obtain ⟨w1, hw1, hgR, hgD, hb, hsz⟩ := rows2 w (.cells (digA (fun _ => 0) 32) 33) (.cells (digA (fun _ => 0) 32) 33)
  rw [← hw1]
  clear hw1
  by_cases h64 : s.size = 64
  · have hbn : ((s.size : Int) != 64) = false := by rw [h64]; rfl
    have H64 := Lib.hid h64
    have hs1 : s.size ≤ 64 := by omega
    have hs2 : 64 ≤ s.size := by omega
    clear h64
    rw [rdTo_zero s] at hgD
    go_wp2_with fail
    go_loopw [5] (fun i wr => ∃ k : Nat, k ≤ 32 ∧ i = .int .i64 k ∧ Hid (allOk s (2 * k) = true) ∧ wr.heap[w.heap.size]? = some (.cells (digA (fun _ => 0) 32) 33) ∧ wr.heap[w.heap.size + 1]? = some (.cells (digA (rdTo s k) 32) 33) ∧ Below w.heap.size w wr) (fun i _ => 32 - (intOf i).toNat)
    case atStart => exact ⟨0, by omega, rfl, Lib.hid rfl, hgR, hgD, hb⟩
    case round =>
      clear hgR hgD hb
      obtain ⟨k, hk, rfl, HA, hgR, hgD, hb⟩ := hrel
      by_cases hlt : k < 32
      · have h2k : 2 * k < s.size := by omega
        have h2k1 : 2 * k + 1 < s.size := by omega
        have i1 : (2 : Int) * (k : Int) < (s.size : Int) := by omega
        have i2 : (2 : Int) * (k : Int) + 1 < (s.size : Int) := by omega
        have j1 : IntKind.i64.wrap (2 * (k : Int)) = 2 * (k : Int) := by rw [IntWalk.i64_in _ (by omega)]
        have j2 : IntKind.i64.wrap (2 * (k : Int) + 1) = 2 * (k : Int) + 1 := by rw [IntWalk.i64_in _ (by omega)]
        have g1 := chr_at s (2 * k) h2k
        have g2 := chr_at s (2 * k + 1) h2k1
        have ri1 := fun w' => run_index_chr w' s (2 * (k : Int)) (2 * k) (by omega) h2k
        have ri2 := fun w' => run_index_chr w' s (2 * (k : Int) + 1) (2 * k + 1) (by omega) h2k1
        have HX := Lib.hid (allOk_two s k HA.out)
        have HN1 := Lib.hid (okR_at s (2 * k) (by omega))
        have HN2 := Lib.hid (okR_at s (2 * k + 1) (by omega))
        have HV := Lib.hid (show rdB s k = hexV (chr s (2 * k)).toNat * 16 + hexV (chr s (2 * k + 1)).toNat from rfl)
        generalize chr s (2 * k) = x at *
        generalize chr s (2 * k + 1) = y at *
        by_cases hx : hexOk x.toNat = true
        · by_cases hy : hexOk y.toNat = true
          · have hdx := digI_yes _ hx
            have hdy := digI_yes _ hy
            have HXO := Lib.hid hx
            have HYO := Lib.hid hy
            have hv1 := hexV_lt x.toNat
            have hv2 := hexV_lt y.toNat
            have HRL := rdB_lt s k
            clear hx hy
            generalize hexV x.toNat = vx at *
            generalize hexV y.toNat = vy at *
            go_wp2_with fail
            go_quiet ((go_at_call 30; exact Calls.quiet_of_same (digit_val _ _)))
            obtain ⟨wz0, hwz0, hgR0, hgD0, hb0⟩ : ∃ wz, wz = wr.drewN nq ∧ wz.heap[w.heap.size]? = some (.cells (digA (fun _ => 0) 32) 33) ∧ wz.heap[w.heap.size + 1]? = some (.cells (digA (rdTo s k) 32) 33) ∧ Below w.heap.size w wz := ⟨_, rfl, hgR, hgD, below_drewN hb nq⟩
            rw [← hwz0]
            clear hwz0 hgR hgD hb
            have hcd : wz0.cell? ⟨w.heap.size + 1, k, none⟩ = some (.int .u8 (rdTo s k k : Int)) := by rw [cell_of_row _ _ _ _ _ _ hgD0, digA_get _ _ _ hlt]
            have hfd : wz0.frozen? ⟨w.heap.size + 1, k, none⟩ = false := frozen_of_row _ _ _ _ _ hgD0
            obtain ⟨wz, hwz, hgRz, hgDz, hbz⟩ : ∃ wz, wz = wz0.setCell ⟨w.heap.size + 1, k, none⟩ (.int .u8 (rdB s k : Int)) ∧ wz.heap[w.heap.size]? = some (.cells (digA (fun _ => 0) 32) 33) ∧ wz.heap[w.heap.size + 1]? = some (.cells (digA (rdTo s (k + 1)) 32) 33) ∧ Below w.heap.size w wz := by
              refine ⟨_, rfl, (heap_setCell_other wz0 _ _ _ (by show w.heap.size ≠ w.heap.size + 1; omega)).trans hgR0, ?_, hb0.setCell (by show w.heap.size ≤ w.heap.size + 1; omega) _⟩
              rw [heap_setCell_same wz0 (w.heap.size + 1) k _ _ _ hgD0, rdTo_set]
            clear hgR0 hgD0 hb0
            have ev : 16 * (vx : Int) + (vy : Int) = (rdB s k : Int) := by rw [HV.out]; omega
            go_wp2_with fail
            rw [← hwz]
            go_roundw
            case rel => exact ⟨k + 1, by omega, by go_num, Lib.hid (HX.out HXO.out HYO.out), hgRz, hgDz, hbz⟩
            case measure => simp [intOf]; omega
          · have hy' := Bool.eq_false_iff.2 hy
            have hdx := digI_yes _ hx
            have hdy := digI_no _ hy'
            have hv1 := hexV_lt x.toNat
            have HNO := Lib.hid (HN2.out hy')
            clear hx hy hy'
            go_wp2_with fail
            go_quiet ((go_at_call 30; exact Calls.quiet_of_same (digit_val _ _)))
            rename Nat => nq0
            have hgR : (wr.drewN nq0).heap[w.heap.size]? = some (.cells (digA (fun _ => 0) 32) 33) := hgR
            have hb := below_drewN hb nq0
            go_wp2_with ((refine wpList_store_row rfl 33 _ _ rfl w.heap.size (digA (fun _ => 0) 32) rfl rfl 33 _ hgR info32z rfl (digA_ok _ _) ?_))
            refine bodyPost_ret (v := .tuple #[.agg (digA (fun _ => 0) 32), .bool false]) (results_cell_tmp Tryd.results18 _ _ w.heap.size 33 _ (0, 0) _ _ rfl rfl (setRow_heap _ _ _ _ _ _ hgR) Tryd.underlying33 rfl info32z) rfl ?_
            exact ⟨by rw [HNO.out, rdD_no s HNO.out], below_setRow hb (Nat.le_refl _) _⟩
        · have hx' := Bool.eq_false_iff.2 hx
          have hdx := digI_no _ hx'
          have HNO := Lib.hid (HN1.out hx')
          clear hx hx'
          go_wp2_with fail
          go_quiet ((go_at_call 30; exact Calls.quiet_of_same (digit_val _ _)))
          rename Nat => nq0
          have hgR : (wr.drewN nq0).heap[w.heap.size]? = some (.cells (digA (fun _ => 0) 32) 33) := hgR
          have hb := below_drewN hb nq0
          go_wp2_with ((refine wpList_store_row rfl 33 _ _ rfl w.heap.size (digA (fun _ => 0) 32) rfl rfl 33 _ hgR info32z rfl (digA_ok _ _) ?_))
          refine bodyPost_ret (v := .tuple #[.agg (digA (fun _ => 0) 32), .bool false]) (results_cell_tmp Tryd.results18 _ _ w.heap.size 33 _ (0, 0) _ _ rfl rfl (setRow_heap _ _ _ _ _ _ hgR) Tryd.underlying33 rfl info32z) rfl ?_
          exact ⟨by rw [HNO.out, rdD_no s HNO.out], below_setRow hb (Nat.le_refl _) _⟩
      · obtain rfl : k = 32 := by omega
        have HY := Lib.hid (okR_yes s H64.out HA.out)
        rw [rdTo_all] at hgD
        go_wp2_with (first | (refine wpList_load_row rfl 33 _ rfl (w.heap.size + 1) rfl 33 _ (0, 0) _ hgD Tryd.underlying33 rfl (by rw [digA_size]; exact info32) ?_) | (refine wpList_store_row rfl 33 _ _ rfl w.heap.size (digA (rdB s) 32) rfl rfl 33 _ hgR (by rw [digA_size]; exact info32) (by rw [digA_size, digA_size]) (digA_ok _ _) ?_))
        refine bodyPost_ret (v := .tuple #[.agg (digA (rdB s) 32), .bool true]) (results_cell_tmp Tryd.results18 _ _ w.heap.size 33 _ (0, 0) _ _ rfl rfl (setRow_heap _ _ _ _ _ _ hgR) Tryd.underlying33 rfl (by rw [digA_size]; exact info32)) rfl ?_
        exact ⟨by rw [HY.out, rdD_yes s HY.out], below_setRow hb (Nat.le_refl _) _⟩
  · have hbn : ((s.size : Int) != 64) = true := by rw [bne_iff_ne]; omega
    have HNO := Lib.hid (okR_len s h64)
    clear h64
    go_wp2_with (first | (refine wpList_load_row rfl 33 _ rfl (w.heap.size + 1) rfl 33 _ (0, 0) _ hgD Tryd.underlying33 rfl info32z ?_) | (refine wpList_store_row rfl 33 _ _ rfl w.heap.size (digA (fun _ => 0) 32) rfl rfl 33 _ hgR info32z rfl (digA_ok _ _) ?_))
    refine bodyPost_ret (v := .tuple #[.agg (digA (fun _ => 0) 32), .bool false]) (results_cell_tmp Tryd.results18 _ _ w.heap.size 33 _ (0, 0) _ _ rfl rfl (setRow_heap _ _ _ _ _ _ hgR) Tryd.underlying33 rfl info32z) rfl ?_
    exact ⟨by rw [HNO.out, rdD_no s HNO.out], below_setRow hb (Nat.le_refl _) _⟩
end Go.Proofs.YtnenjljcopbdeaaDoor
