/- The contract of Read. -/
import Derived.Test.YtnenjljcopbdeaaDoorShaI
namespace Go.Proofs.YtnenjljcopbdeaaDoor
open Go.RowKit

def hexV (c : Nat) : Nat := if 48 ≤ c ∧ c ≤ 57 then c - 48 else if 97 ≤ c ∧ c ≤ 102 then c - 87 else 0
def hexOk (c : Nat) : Bool := decide (48 ≤ c ∧ c ≤ 57) || decide (97 ≤ c ∧ c ≤ 102)
theorem hexV_lt (c : Nat) : hexV c < 16 := by unfold hexV; split; omega; split <;> omega
theorem value_any (c : Nat) (hc : c < 256) (w : World) :
    Calls Tryd.prog 29 #[.int .u8 (c : Int)] w fun e w' => e = .returned (.tuple #[.int .u8 (hexV c : Int), .bool (hexOk c)]) ∧ w = w' := by
  have hv : hexV c = if 48 ≤ c ∧ c ≤ 57 then c - 48 else if 97 ≤ c ∧ c ≤ 102 then c - 87 else 0 := rfl
  have ho : hexOk c = (decide (48 ≤ c ∧ c ≤ 57) || decide (97 ≤ c ∧ c ≤ 102)) := rfl
  by_cases h1 : 48 ≤ c ∧ c ≤ 57
  · have e1 := Lib.hid (show hexV c = c - 48 by rw [hv, if_pos h1])
    have e2 := Lib.hid (show hexOk c = true by simp [ho, h1])
    obtain ⟨h1, h1'⟩ := h1
    clear hv ho
    rw [e1.out, e2.out]
    go_enter Tryd.func29, Tryd.ntmps29
    go_wp2
    go_ret2
    refine ⟨?_, rfl⟩
    rw [show ((c - 48 : Nat) : Int) = (c : Int) - 48 from by omega]
    rfl
  · by_cases h2 : 97 ≤ c ∧ c ≤ 102
    · have e1 := Lib.hid (show hexV c = c - 87 by rw [hv, if_neg h1, if_pos h2])
      have e2 := Lib.hid (show hexOk c = true by simp [ho, h2])
      obtain ⟨h2, h2'⟩ := h2
      clear hv ho h1
      rw [e1.out, e2.out]
      go_enter Tryd.func29, Tryd.ntmps29
      go_wp2
      go_ret2
      refine ⟨?_, rfl⟩
      rw [show ((c - 87 : Nat) : Int) = (c : Int) - 97 + 10 from by omega]
      rfl
    · have e1 := Lib.hid (show hexV c = 0 by rw [hv, if_neg h1, if_neg h2])
      have e2 := Lib.hid (show hexOk c = false by simp [ho, h1, h2])
      clear hv ho
      rw [e1.out, e2.out]
      go_enter Tryd.func29, Tryd.ntmps29
      go_wp2
      all_goals first | omega | (go_ret2; exact ⟨rfl, rfl⟩)
theorem value_is (b : Bool) (c : UInt8) (m : Int) (hm : m = (c.toNat : Int)) (w : World) (h : hexOk c.toNat = b) :
    Calls Tryd.prog 29 #[.int .u8 m] w fun e w' => e = .returned (.tuple #[.int .u8 (hexV c.toNat : Int), .bool b]) ∧ w = w' :=
  h ▸ hm ▸ value_any c.toNat c.toNat_lt w

/-- The bytes of a text. -/
def chr (s : ByteArray) (i : Nat) : UInt8 := s.data.toList.getD i 0
theorem chr_at (s : ByteArray) (k : Nat) (h : k < s.size) : s[k] = chr s k := by
  simp [chr, List.getD, h]
  rfl
def rdB (s : ByteArray) (i : Nat) : Nat := hexV (chr s (2 * i)).toNat * 16 + hexV (chr s (2 * i + 1)).toNat
theorem rdB_lt (s : ByteArray) (i : Nat) : rdB s i < 256 := by have := hexV_lt (chr s (2 * i)).toNat; have := hexV_lt (chr s (2 * i + 1)).toNat; unfold rdB; omega
def allOk (s : ByteArray) (n : Nat) : Bool := (List.range n).all fun i => hexOk (chr s i).toNat
def okR (s : ByteArray) : Bool := decide (s.size = 64) && allOk s 64
def rdD (s : ByteArray) (i : Nat) : Nat := if okR s then rdB s i else 0
theorem allOk_two (s : ByteArray) (k : Nat) (h : allOk s (2 * k) = true) (h1 : hexOk (chr s (2 * k)).toNat = true) (h2 : hexOk (chr s (2 * k + 1)).toNat = true) : allOk s (2 * (k + 1)) = true := by
  unfold allOk at *
  rw [show 2 * (k + 1) = 2 * k + 1 + 1 from by omega, List.range_succ, List.range_succ]
  simp only [List.all_append, List.all_cons, List.all_nil, Bool.and_true]
  rw [h, h1, h2]
  rfl
theorem okR_len (s : ByteArray) (h : s.size ≠ 64) : okR s = false := by simp [okR, h]
theorem okR_at (s : ByteArray) (i : Nat) (hi : i < 64) (h : hexOk (chr s i).toNat = false) : okR s = false := by
  have : allOk s 64 = false := by
    unfold allOk
    rw [List.all_eq_false]
    exact ⟨i, by simpa using hi, by simp [h]⟩
  simp [okR, this]
theorem okR_yes (s : ByteArray) (h : s.size = 64) (ha : allOk s 64 = true) : okR s = true := by simp [okR, h, ha]
theorem rdD_no (s : ByteArray) (h : okR s = false) : digA (rdD s) 32 = digA (fun _ => 0) 32 := digA_congr _ _ _ fun i _ => by simp [rdD, h]
theorem rdD_yes (s : ByteArray) (h : okR s = true) : rdD s = rdB s := by funext i; simp [rdD, h]
def rdTo (s : ByteArray) (k i : Nat) : Nat := if i < k then rdB s i else 0
theorem rdTo_zero (s : ByteArray) : digA (fun _ => 0) 32 = digA (rdTo s 0) 32 := digA_congr _ _ _ fun i _ => by simp [rdTo]
theorem rdTo_all (s : ByteArray) : digA (rdTo s 32) 32 = digA (rdB s) 32 := digA_congr _ _ _ fun i hi => by simp [rdTo, hi]
theorem rdTo_set (s : ByteArray) (k : Nat) : (digA (rdTo s k) 32).setIfInBounds k (.int .u8 (rdB s k : Int)) = digA (rdTo s (k + 1)) 32 := by
  have e : rdB s k = rdTo s (k + 1) k := by simp [rdTo]
  rw [e]
  exact digA_set _ _ _ _ fun i _ hne => by unfold rdTo; split <;> split <;> first | rfl | omega
theorem or_hex (x y : Nat) (hx : x < 16) (hy : y < 16) : bits BinOp.or IntKind.u8 ((x : Int) * 16) (y : Int) = ((x * 16 + y : Nat) : Int) := by
  have e : ∀ x y : Fin 16, bits BinOp.or IntKind.u8 ((x.val : Int) * 16) (y.val : Int) = ((x.val * 16 + y.val : Nat) : Int) := by decide +kernel
  exact e ⟨x, hx⟩ ⟨y, hy⟩

theorem info32z : (Tryd.prog.info? 33).map (·.size) = some (digA (fun _ => 0) 32).size := info32

set_option maxRecDepth 100000 in
set_option maxHeartbeats 1000000 in
theorem read_any (s : ByteArray) (w : World) (hs : s.size ≤ maxLen) :
    Calls Tryd.prog 17 #[.string s] w fun e w' => e = .returned (.tuple #[.agg (digA (rdD s) 32), .bool (okR s)]) ∧ Below w.heap.size w w' := by
  unfold maxLen at hs
  go_enter Tryd.func17, Tryd.ntmps17
  go_upto_region 2 with (fail)
  rw [zeros32]
  obtain ⟨w1, hw1, hgR, hgD, hb, hsz⟩ := rows2 w (.cells (digA (fun _ => 0) 32) 33) (.cells (digA (fun _ => 0) 32) 33)
  rw [← hw1]
  clear hw1
  by_cases h64 : s.size = 64
  · have hbn : ((s.size : Int) != 64) = false := by rw [h64]; rfl
    have H64 := Lib.hid h64
    have hs1 : s.size ≤ 64 := by omega
    have hs2 : 64 ≤ s.size := by omega
    clear h64
    rw [rdTo_zero s] at hgD
    go_wp2
    go_loopw [14] (fun i wr => ∃ k : Nat, k ≤ 32 ∧ i = .int .i64 k ∧ Hid (allOk s (2 * k) = true) ∧ wr.heap[w.heap.size]? = some (.cells (digA (fun _ => 0) 32) 33) ∧ wr.heap[w.heap.size + 1]? = some (.cells (digA (rdTo s k) 32) 33) ∧ Below w.heap.size w wr) (fun i _ => 32 - (intOf i).toNat)
    case atStart => exact ⟨0, by omega, rfl, Lib.hid rfl, hgR, hgD, hb⟩
    case round =>
      clear hgR hgD hb
      obtain ⟨k, hk, rfl, HA, hgR, hgD, hb⟩ := hrel
      by_cases hlt : k < 32
      · have h2k : 2 * k < s.size := by omega
        have h2k1 : 2 * k + 1 < s.size := by omega
        have g1 := chr_at s (2 * k) h2k
        have g2 := chr_at s (2 * k + 1) h2k1
        have HX := Lib.hid (allOk_two s k HA.out)
        have HN1 := Lib.hid (okR_at s (2 * k) (by omega))
        have HN2 := Lib.hid (okR_at s (2 * k + 1) (by omega))
        have HV := Lib.hid (show rdB s k = hexV (chr s (2 * k)).toNat * 16 + hexV (chr s (2 * k + 1)).toNat from rfl)
        generalize chr s (2 * k) = x at *
        generalize chr s (2 * k + 1) = y at *
        have hcd : wr.cell? ⟨w.heap.size + 1, k, none⟩ = some (.int .u8 (rdTo s k k : Int)) := by rw [cell_of_row _ _ _ _ _ _ hgD, digA_get _ _ _ hlt]
        have hfd : wr.frozen? ⟨w.heap.size + 1, k, none⟩ = false := frozen_of_row _ _ _ _ _ hgD
        by_cases hx : hexOk x.toNat = true
        · have HXX := Lib.hid hx
          clear hx
          go_wp2_with fail
          refine (value_is true x _ rfl _ HXX.out).mono ?_
          rintro _ _ ⟨rfl, rfl⟩
          by_cases hy : hexOk y.toNat = true
          · have HYY := Lib.hid hy
            clear hy
            have eo := or_hex (hexV x.toNat) (hexV y.toNat) (hexV_lt _) (hexV_lt _)
            rw [← HV.out] at eo
            have hv1 := hexV_lt x.toNat
            have hv2 := hexV_lt y.toNat
            obtain ⟨wz, hwz, hgRz, hgDz, hbz⟩ : ∃ wz, wz = wr.setCell ⟨w.heap.size + 1, k, none⟩ (.int .u8 (rdB s k : Int)) ∧ wz.heap[w.heap.size]? = some (.cells (digA (fun _ => 0) 32) 33) ∧ wz.heap[w.heap.size + 1]? = some (.cells (digA (rdTo s (k + 1)) 32) 33) ∧ Below w.heap.size w wz := by
              refine ⟨_, rfl, (heap_setCell_other wr _ _ _ (by show w.heap.size ≠ w.heap.size + 1; omega)).trans hgR, ?_, hb.setCell (by show w.heap.size ≤ w.heap.size + 1; omega) _⟩
              rw [heap_setCell_same wr (w.heap.size + 1) k _ _ _ hgD, rdTo_set]
            clear hgR hgD hb
            go_wp2_with fail
            refine (value_is true y _ rfl _ HYY.out).mono ?_
            rintro _ _ ⟨rfl, rfl⟩
            go_wp2_with fail
            rw [← hwz]
            go_roundw
            case rel => exact ⟨k + 1, by omega, by go_num, Lib.hid (HX.out HXX.out HYY.out), hgRz, hgDz, hbz⟩
            case measure => simp [intOf]; omega
          · have HYY := Lib.hid (Bool.eq_false_iff.2 hy)
            have HNO := Lib.hid (HN2.out HYY.out)
            clear hy
            go_wp2_with fail
            refine (value_is false y _ rfl _ HYY.out).mono ?_
            rintro _ _ ⟨rfl, rfl⟩
            go_wp2_with (refine wpList_store_row rfl 33 _ _ rfl w.heap.size (digA (fun _ => 0) 32) rfl rfl 33 _ hgR info32z rfl (digA_ok _ _) ?_)
            refine bodyPost_ret (v := .tuple #[.agg (digA (fun _ => 0) 32), .bool false]) (results_cell_tmp Tryd.results17 _ _ w.heap.size 33 _ (0, 0) _ _ rfl rfl (setRow_heap _ _ _ _ _ _ hgR) Tryd.underlying33 rfl (by rw [digA_size]; exact info32)) rfl ?_
            exact ⟨by rw [HNO.out, rdD_no s HNO.out], below_setRow hb (Nat.le_refl _) _⟩
        · have HXX := Lib.hid (Bool.eq_false_iff.2 hx)
          have HNO := Lib.hid (HN1.out HXX.out)
          clear hx
          go_wp2_with fail
          refine (value_is false x _ rfl _ HXX.out).mono ?_
          rintro _ _ ⟨rfl, rfl⟩
          go_wp2_with fail
          refine (value_is _ y _ rfl _ rfl).mono ?_
          rintro _ _ ⟨rfl, rfl⟩
          go_wp2_with (refine wpList_store_row rfl 33 _ _ rfl w.heap.size (digA (fun _ => 0) 32) rfl rfl 33 _ hgR info32z rfl (digA_ok _ _) ?_)
          refine bodyPost_ret (v := .tuple #[.agg (digA (fun _ => 0) 32), .bool false]) (results_cell_tmp Tryd.results17 _ _ w.heap.size 33 _ (0, 0) _ _ rfl rfl (setRow_heap _ _ _ _ _ _ hgR) Tryd.underlying33 rfl (by rw [digA_size]; exact info32)) rfl ?_
          exact ⟨by rw [HNO.out, rdD_no s HNO.out], below_setRow hb (Nat.le_refl _) _⟩
      · obtain rfl : k = 32 := by omega
        have HY := Lib.hid (okR_yes s H64.out HA.out)
        rw [rdTo_all] at hgD
        go_wp2_with (first | (refine wpList_load_row rfl 33 _ rfl (w.heap.size + 1) rfl 33 _ (0, 0) _ hgD Tryd.underlying33 rfl (by rw [digA_size]; exact info32) ?_) | (refine wpList_store_row rfl 33 _ _ rfl w.heap.size (digA (rdB s) 32) rfl rfl 33 _ hgR (by rw [digA_size]; exact info32) (by rw [digA_size, digA_size]) (digA_ok _ _) ?_))
        refine bodyPost_ret (v := .tuple #[.agg (digA (rdB s) 32), .bool true]) (results_cell_tmp Tryd.results17 _ _ w.heap.size 33 _ (0, 0) _ _ rfl rfl (setRow_heap _ _ _ _ _ _ hgR) Tryd.underlying33 rfl (by rw [digA_size]; exact info32)) rfl ?_
        exact ⟨by rw [HY.out, rdD_yes s HY.out], below_setRow hb (Nat.le_refl _) _⟩
  · have hbn : ((s.size : Int) != 64) = true := by rw [bne_iff_ne]; omega
    have HNO := Lib.hid (okR_len s h64)
    clear h64
    go_wp2_with (refine wpList_store_row rfl 33 _ _ rfl w.heap.size (digA (fun _ => 0) 32) rfl rfl 33 _ hgR info32z rfl (digA_ok _ _) ?_)
    refine bodyPost_ret (v := .tuple #[.agg (digA (fun _ => 0) 32), .bool false]) (results_cell_tmp Tryd.results17 _ _ w.heap.size 33 _ (0, 0) _ _ rfl rfl (setRow_heap _ _ _ _ _ _ hgR) Tryd.underlying33 rfl (by rw [digA_size]; exact info32)) rfl ?_
    exact ⟨by rw [HNO.out, rdD_no s HNO.out], below_setRow hb (Nat.le_refl _) _⟩
end Go.Proofs.YtnenjljcopbdeaaDoor
