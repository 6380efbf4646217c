/- Contract of the reference's Bytes. -/
import Derived.Test.YtadlimfpcfdgcaaNamG
import Derived.RegionTactic
import Derived.ChangeAlike
set_option linter.unusedVariables false
set_option linter.unusedSimpArgs false
namespace Go.Proofs.Ytadlimfpcfdgcaa.Nam
open Go.RowKit

def numS (s : ByteArray) : Nat := numL (letV s) 32
theorem numS_lt (s : ByteArray) : numS s < 2 ^ 160 := Nat.lt_of_lt_of_le (numL_lt (letV s) (letV_lt s) 32) (by rw [show (32 : Nat) ^ 32 = 2 ^ 160 from by decide +kernel]; exact Nat.le_refl _)
theorem partA_zero (s : ByteArray) : digA (partNo (numS s) 0) 20 = digA (fun _ => 0) 20 := by
  unfold digA cells
  refine congrArg List.toArray (List.map_congr_left fun i _ => ?_)
  rw [partNo_zero _ _ (numS_lt s)]
theorem partA_done (s : ByteArray) : digA (partNo (numS s) 160) 20 = digA (byteNo (numS s)) 20 := by
  unfold digA cells
  refine congrArg List.toArray (List.map_congr_left fun i hi => ?_)
  simp at hi
  rw [partNo_done _ _ hi]
theorem partA_stay (M n : Nat) (hn : n < 160) (hb : bitNo M n = 0) : digA (partNo M (n + 1)) 20 = digA (partNo M n) 20 := by
  unfold digA cells
  refine congrArg List.toArray (List.map_congr_left fun i hi => ?_)
  simp at hi
  rw [partNo_step _ _ _ hn hi, hb]
  split <;> simp
theorem partA_set (M n : Nat) (hn : n < 160) (hb : bitNo M n = 1) : (digA (partNo M n) 20).setIfInBounds (n / 8) (.int .u8 ((partNo M n (n / 8) + 2 ^ (7 - n % 8) : Nat) : Int)) = digA (partNo M (n + 1)) 20 := by
  apply Array.ext
  · simp [digA_size]
  · intro i h1 h2
    have hi : i < 20 := by simpa [digA_size] using h2
    apply Option.some.inj
    rw [← Array.getElem?_eq_getElem, ← Array.getElem?_eq_getElem, Array.getElem?_setIfInBounds, digA_get _ _ _ hi, digA_get _ _ _ hi, partNo_step _ _ _ hn hi, hb]
    by_cases h : n / 8 = i
    · subst h; simp [digA_size, hi]
    · rw [if_neg h, if_neg (fun e => h e.symm)]
theorem or_bit (M n : Nat) (hn : n < 160) : bits BinOp.or IntKind.u8 (partNo M n (n / 8) : Int) (2 ^ (7 - n % 8) % 256) = ((partNo M n (n / 8) + 2 ^ (7 - n % 8) : Nat) : Int) := by
  have hp := partNo_lt M n (n / 8)
  have h2 := partNo_or M n hn
  generalize hr : 7 - n % 8 = r at *
  have hr7 : r ≤ 7 := by omega
  have hlt : 2 ^ r < 256 := by
    have : 2 ^ r ≤ 2 ^ 7 := Nat.pow_le_pow_right (by decide) hr7
    omega
  rw [show ((2 : Int) ^ r) % 256 = ((2 ^ r : Nat) : Int) from by rw [show ((2 : Int) ^ r) = ((2 ^ r : Nat) : Int) from by push_cast; rfl]; exact Int.emod_eq_of_lt (Int.natCast_nonneg _) (Int.ofNat_lt.2 hlt), u8_or_nat _ _ hp hlt, nat_join (r + 1) _ _ (by rw [Nat.pow_succ, Nat.mul_comm]; exact h2) (by rw [Nat.pow_succ]; have := Nat.two_pow_pos r; omega)]

theorem and_test (v j b : Nat) (hv : v < 32) (h : v / 2 ^ (4 - j) % 2 = b) : bits BinOp.and IntKind.i64 ((v : Int) / 2 ^ (4 - j)) 1 = (b : Int) := by
  have hle := Nat.div_le_self v (2 ^ (4 - j))
  rw [cast_div, and_one _ (by omega), h]

set_option maxRecDepth 100000 in
set_option maxHeartbeats 800000 in
theorem refBytes_any (s : ByteArray) (w : World) (hs : s.size ≤ maxLen) :
    Calls Try.prog 19 #[.string s] w fun e w' => e = .returned (.tuple #[.agg (digA (outD s) 20), .bool (okL s)]) ∧ Below w.heap.size w w' := by
  unfold maxLen at hs
  go_enter Try.func19, Try.ntmps19
  go_upto_region 2 with (fail)
  rw [zeros_eq]
  obtain ⟨w1, hw1, hgR, hgB, hb, hsz⟩ := rows_start w (.cells (digA (fun _ => 0) 20) 53)
  rw [← hw1]
  clear hw1
  by_cases h32 : s.size = 32
  · have H32 := Lib.hid h32
    have hs32 : s.size ≤ 32 := by omega
    have hs32' : 32 ≤ s.size := by omega
    have hbn : ((s.size : Int) != 32) = false := by rw [h32]; rfl
    clear h32 hsz
    go_wp2
    go_loopw [5] (fun i wr => ∃ k : Nat, k ≤ 32 ∧ i = .int .i64 k ∧ Hid (∀ x, ∀ h : x < s.size, x < k → 0 ≤ valI s[x]) ∧
        wr.heap[w.heap.size]? = some (.cells (digA (fun _ => 0) 20) 53) ∧ wr.heap[w.heap.size + 1]? = some (.cells (digA (partNo (numS s) (5 * k)) 20) 53) ∧ Below w.heap.size w wr) (fun i _ => 32 - (intOf i).toNat)
    case atStart => exact ⟨0, by omega, rfl, Lib.hid (fun x _ h => absurd h (Nat.not_lt_zero x)), hgR, by rw [partA_zero]; exact hgB, hb⟩
    case round =>
      clear hgR hgB hb
      obtain ⟨k, hk, rfl, HA, hgR, hgB, hb⟩ := hrel
      by_cases hlt : k < 32
      · have hks : k < s.size := by omega
        have hdk : decide ((k : Int) < 32) = true := by simp; omega
        by_cases hv : valI s[k] < 0
        · have HO := Lib.hid (okL_no s k hks hv)
          go_wp2_with (first | (go_at_call 33; refine (value_any _ _).mono ?_; rintro e w' ⟨rfl, rfl⟩) | (refine wpList_store_row rfl 53 _ _ rfl w.heap.size (digA (fun _ => 0) 20) rfl rfl 53 _ hgR info20 rfl (digA_ok _ _) ?_))
          refine bodyPost_ret (v := .tuple #[.agg (digA (fun _ => 0) 20), .bool false]) (results_cell_tmp Try.results19 _ _ w.heap.size 53 _ (0, 0) _ _ rfl rfl (setRow_heap _ _ _ _ _ _ hgR) Try.underlying53 rfl info20) rfl ?_
          refine ⟨by rw [HO.out, outD_no s HO.out], below_setRow hb (Nat.le_refl _) _⟩
        · have HV := Lib.hid (letV_of s k hks (by omega))
          have hx := letV_lt s k
          have HL := Lib.hid (numL_letNo (letV s) (letV_lt s) k hlt)
          have HA' : Hid (∀ x, ∀ h : x < s.size, x < k + 1 → 0 ≤ valI s[x]) := Lib.hid fun x h hx' => by
            rcases Nat.lt_or_ge x k with h1 | h1
            · exact HA.out x h h1
            · obtain rfl : x = k := by omega
              omega
          clear hv
          go_wp2_with (first | (go_at_call 33; refine (value_any _ _).mono ?_; rw [HV.out]; rintro e w' ⟨rfl, rfl⟩))
          go_loopw [7] (fun i wr => ∃ j : Nat, j ≤ 5 ∧ i = .int .i64 j ∧
            wr.heap[w.heap.size]? = some (.cells (digA (fun _ => 0) 20) 53) ∧ wr.heap[w.heap.size + 1]? = some (.cells (digA (partNo (numS s) (5 * k + j)) 20) 53) ∧ Below w.heap.size w wr) (fun i _ => 5 - (intOf i).toNat)
          case atStart => exact ⟨0, by omega, rfl, hgR, hgB, hb⟩
          case round =>
            clear hgR hgB hb
            obtain ⟨j, hj, rfl, hgR, hgB, hb⟩ := hrel
            by_cases hjlt : j < 5
            · have hn : 5 * k + j < 160 := by omega
              have h8 : (5 * k + j) / 8 < 20 := by omega
              have hcell : wr.cell? ⟨w.heap.size + 1, (5 * k + j) / 8, none⟩ = some (.int .u8 (partNo (numS s) (5 * k + j) ((5 * k + j) / 8) : Int)) := by
                rw [cell_of_row _ _ _ _ _ _ hgB, digA_get _ _ _ h8]
              have hfr : wr.frozen? ⟨w.heap.size + 1, (5 * k + j) / 8, none⟩ = false := frozen_of_row _ _ _ _ _ hgB
              rcases (show bitNo (numS s) (5 * k + j) = 0 ∨ bitNo (numS s) (5 * k + j) = 1 by have : bitNo (numS s) (5 * k + j) < 2 := Nat.mod_lt _ (by decide); omega) with h0 | h1
              · have eb := and_test (letV s k) j 0 hx (by rw [← HL.out, bit_letNo _ _ _ hlt hjlt]; exact h0)
                have HS := Lib.hid (partA_stay (numS s) (5 * k + j) hn h0)
                clear h0
                go_wp2
                go_roundw
                case rel => exact ⟨j + 1, by omega, by go_num, hgR, by rw [show 5 * k + (j + 1) = 5 * k + j + 1 from rfl, HS.out]; exact hgB, hb⟩
                case measure => simp [intOf]; omega
              · have eb := and_test (letV s k) j 1 hx (by rw [← HL.out, bit_letNo _ _ _ hlt hjlt]; exact h1)
                have HS := Lib.hid (partA_set (numS s) (5 * k + j) hn h1)
                have eo := or_bit (numS s) (5 * k + j) hn
                clear h1
                go_upto_region 15 with (fail)
                go_region
                have hgR' := (heap_setCell_other wr ⟨w.heap.size + 1, (5 * k + j) / 8, none⟩ w.heap.size (.int .u8 ((partNo (numS s) (5 * k + j) ((5 * k + j) / 8) + 2 ^ (7 - (5 * k + j) % 8) : Nat) : Int)) (by simp)).trans hgR
                have hgB' := heap_setCell_same wr (w.heap.size + 1) ((5 * k + j) / 8) _ _ (.int .u8 ((partNo (numS s) (5 * k + j) ((5 * k + j) / 8) + 2 ^ (7 - (5 * k + j) % 8) : Nat) : Int)) hgB
                rw [HS.out] at hgB'
                have hb' := (hb.setCell (p := ⟨w.heap.size + 1, (5 * k + j) / 8, none⟩) (by simp) (.int .u8 ((partNo (numS s) (5 * k + j) ((5 * k + j) / 8) + 2 ^ (7 - (5 * k + j) % 8) : Nat) : Int))).drew
                clear hgR hgB hb hcell hfr
                go_wp2
                go_roundw
                case rel => exact ⟨j + 1, by omega, by go_num, hgR', hgB', hb'⟩
                case measure => simp [intOf]; omega
            · have HJ := Lib.hid (show j = 5 by omega)
              go_wp2
              go_roundw
              case rel => exact ⟨k + 1, by omega, by go_num, HA', hgR, by rw [show 5 * (k + 1) = 5 * k + j by have := HJ.out; omega]; exact hgB, hb⟩
              case measure => simp [intOf]; omega
      · have HK := Lib.hid (show k = 32 by omega)
        have HO := Lib.hid (okL_yes s H32.out fun x h => HA.out x h (by omega))
        go_wp2_with (first | (refine wpList_load_row rfl 53 _ rfl (w.heap.size + 1) rfl 53 _ (0, 0) _ hgB Try.underlying53 rfl (by rw [digA_size]; exact info20) ?_) | (refine wpList_store_row rfl 53 _ _ rfl w.heap.size _ rfl rfl 53 _ hgR (by rw [digA_size]; exact info20) (by rw [digA_size, digA_size]) (digA_ok _ _) ?_))
        refine bodyPost_ret (v := .tuple #[.agg (digA (partNo (numS s) (5 * k)) 20), .bool true]) (results_cell_tmp Try.results19 _ _ w.heap.size 53 _ (0, 0) _ _ rfl rfl (setRow_heap _ _ _ _ _ _ hgR) Try.underlying53 rfl (by rw [digA_size]; exact info20)) rfl ?_
        refine ⟨by rw [HO.out, outD_yes s HO.out, HK.out, show 5 * 32 = 160 from rfl, partA_done]; rfl, below_setRow hb (Nat.le_refl _) _⟩
  · have hbn : ((s.size : Int) != 32) = true := by rw [bne_iff_ne]; omega
    have HO := Lib.hid (okL_len s h32)
    clear h32
    go_wp2_with (first | (refine wpList_load_row rfl 53 _ rfl (w.heap.size + 1) rfl 53 _ (0, 0) _ hgB Try.underlying53 rfl info20 ?_) | (refine wpList_store_row rfl 53 _ _ rfl w.heap.size (digA (fun _ => 0) 20) rfl rfl 53 _ hgR info20 rfl (digA_ok _ _) ?_))
    refine bodyPost_ret (v := .tuple #[.agg (digA (fun _ => 0) 20), .bool false]) (results_cell_tmp Try.results19 _ _ w.heap.size 53 _ (0, 0) _ _ rfl rfl (setRow_heap _ _ _ _ _ _ hgR) Try.underlying53 rfl info20) rfl ?_
    refine ⟨by rw [HO.out, outD_no s HO.out], below_setRow hb (Nat.le_refl _) _⟩
end Go.Proofs.Ytadlimfpcfdgcaa.Nam
