/- The walk of the law NamingBack. -/
import Derived.Test.YtdicdmajobjppaaNamU
namespace Go.Proofs.Ytdicdmajobjppaa
open Go.RowKit Go.BigFrame

def sameTo (d x : Nat → Nat) (k : Nat) : Bool := (List.range k).all fun i => d i == x i
theorem sameTo_succ (d x : Nat → Nat) (k : Nat) : sameTo d x (k + 1) = (sameTo d x k && (d k == x k)) := by
  simp [sameTo, List.range_succ]
theorem sameB_of (f g d x : Nat → Nat) (h1 : ∀ i, i < 20 → f i = d i) (h2 : ∀ i, i < 20 → g i = x i) : sameB f g = sameTo d x 20 := by
  unfold sameB sameTo
  rw [Bool.eq_iff_iff]
  simp only [List.all_eq_true, List.mem_range, beq_iff_eq]
  exact ⟨fun h i hi => by rw [← h1 i hi, ← h2 i hi]; exact h i hi, fun h i hi => by rw [h1 i hi, h2 i hi]; exact h i hi⟩
theorem sameTo_comm (d x : Nat → Nat) (k : Nat) : sameTo d x k = sameTo x d k := by
  unfold sameTo
  congr 1
  funext i
  exact Bool.eq_iff_iff.2 ⟨fun h => beq_iff_eq.2 (beq_iff_eq.1 h).symm, fun h => beq_iff_eq.2 (beq_iff_eq.1 h).symm⟩
theorem letS_eq (d x : Nat → Nat) (hd : ∀ i, d i < 256) (hx : ∀ i, x i < 256) : ((letS x).toList == (letS d).toList) = sameTo d x 20 := by
  rw [fit_iff (letS x) d hd (okL_letS x), sameB_of _ _ x d (fun i hi => outD_letS x hx i hi) (fun i _ => rfl), sameTo_comm]
theorem beq_cast (a b : Nat) : (((a : Int) == (b : Int)) : Bool) = (a == b) := by rw [Bool.eq_iff_iff]; simp; omega
theorem sameTo_self (d : Nat → Nat) (k : Nat) : sameTo d d k = true := by simp [sameTo]

theorem namingBack_long (d x : Nat → Nat) (s : ByteArray) (w : World) (hs : s.size ≤ maxLen) (h5 : 500 < s.size) :
    Calls Try.prog 7 #[.agg (digA d 32), .agg (digA x 32), .string s] w fun e w' => e = .returned (.bool true) ∧ Below w.heap.size w w' := by
  unfold maxLen at hs
  go_enter Try.func7, Try.ntmps7
  go_upto_region 1 with (fail)
  have hb1 : Below w.heap.size w ((w.alloc (.cells (digA d 32) 23)).alloc (.cells (digA x 32) 23)) := ((Below.refl _ _).alloc (Nat.le_refl _) _).alloc (by simp) _
  generalize ((w.alloc (.cells (digA d 32) 23)).alloc (.cells (digA x 32) 23)) = w1 at *
  go_wp2_with fail
  refine (works_any _).mono ?_
  rintro e w4 ⟨rfl, hb4⟩
  go_wp2_with fail
  go_ret
  exact ⟨rfl, below_step hb1 hb4 hb1.size⟩

set_option maxHeartbeats 1000000 in
theorem namingBack_short (d x : Nat → Nat) (s : ByteArray) (w : World) (hd : ∀ i, d i < 256) (hx : ∀ i, x i < 256) (hs : s.size ≤ maxLen) (h5 : ¬ 500 < s.size) (b : Bool) (hbs : sameTo d x 20 = b) (r : Bool) (hr : rightB s = r) :
    Calls Try.prog 7 #[.agg (digA d 32), .agg (digA x 32), .string s] w fun e w' => e = .returned (.bool true) ∧ Below w.heap.size w w' := by
  have HS := Lib.hid hs
  have HD := Lib.hid hd
  have HX := Lib.hid hx
  have HB := Lib.hid hbs
  have HR := Lib.hid hr
  have hlz : (letS d).size ≤ 32 := by rw [letS_size]; omega
  have hlz' : 32 ≤ (letS d).size := by rw [letS_size]; omega
  have hln : (((letS d).size : Int) != 32) = false := by rw [letS_size]; rfl
  unfold maxLen at hs
  clear hd hx hbs hr
  go_enter Try.func7, Try.ntmps7
  go_upto_region 1 with (fail)
  obtain ⟨hgD, hgX⟩ := rows2 w (.cells (digA d 32) 23) (.cells (digA x 32) 23)
  have hb1 : Below w.heap.size w ((w.alloc (.cells (digA d 32) 23)).alloc (.cells (digA x 32) 23)) := ((Below.refl _ _).alloc (Nat.le_refl _) _).alloc (by simp) _
  have hz1 : ((w.alloc (.cells (digA d 32) 23)).alloc (.cells (digA x 32) 23)).heap.size = w.heap.size + 2 := by simp
  generalize ((w.alloc (.cells (digA d 32) 23)).alloc (.cells (digA x 32) 23)) = w1 at *
  go_wp2_with (refine wpList_load_row rfl 23 _ rfl w.heap.size rfl 23 _ (0, 0) _ hgD Try.underlying23 rfl (by rw [digA_size]; exact info32) ?_)
  refine (letters_is d HD.out _).mono ?_
  rintro e w2 ⟨rfl, hb2⟩
  have hgD2 := (hb2.block w.heap.size (by omega)).trans hgD
  have hgX2 := (hb2.block (w.heap.size + 1) (by omega)).trans hgX
  have hB2 := below_step hb1 hb2 hb1.size
  have hz2 : w.heap.size + 2 ≤ w2.heap.size := by have := hb2.size; omega
  clear hgD hgX hb1 hb2 hz1
  go_wp2_with fail
  refine (bytes_is true (letS d) _ (by rw [letS_size]; decide) (okL_letS d)).mono ?_
  rintro e w3 ⟨rfl, hb3⟩
  have hgD3 := (hb3.block w.heap.size (by omega)).trans hgD2
  have hgX3 := (hb3.block (w.heap.size + 1) (by omega)).trans hgX2
  have hB3 := below_step hB2 hb3 hB2.size
  have hz3 : w.heap.size + 2 ≤ w3.heap.size := by have := hb3.size; omega
  clear hgD2 hgX2 hB2 hb3 hz2
  go_upto_region 5 with (refine wpList_store_row rfl 27 _ _ rfl _ (digA (outD (letS d)) 20) rfl rfl 27 _ (heap_alloc_new _ _) (info20' _) (z20_size _) (digA_ok _ _) ?_)
  obtain ⟨w4, hw4, hgO, hz4, hB4, hb34⟩ := rows_put w w3 (.cells #[Value.int IntKind.u8 0, Value.int IntKind.u8 0, Value.int IntKind.u8 0, Value.int IntKind.u8 0, Value.int IntKind.u8 0, Value.int IntKind.u8 0, Value.int IntKind.u8 0, Value.int IntKind.u8 0, Value.int IntKind.u8 0, Value.int IntKind.u8 0, Value.int IntKind.u8 0, Value.int IntKind.u8 0, Value.int IntKind.u8 0, Value.int IntKind.u8 0, Value.int IntKind.u8 0, Value.int IntKind.u8 0, Value.int IntKind.u8 0, Value.int IntKind.u8 0, Value.int IntKind.u8 0, Value.int IntKind.u8 0] 27) (digA (outD (letS d)) 20) 27 hB3 ⟨_, rfl⟩
  have hgD4 := (hb34.block w.heap.size (by omega)).trans hgD3
  have hgX4 := (hb34.block (w.heap.size + 1) (by omega)).trans hgX3
  rw [← hw4]
  clear hw4 hgD3 hgX3 hb34 hB3
  go_wp2
  go_loopw [10, 11] (fun sm i wr => ∃ k : Nat, k ≤ 20 ∧ i = .int .i64 k ∧ sm = .bool (sameTo d x k) ∧ ∃ nq, wr = w4.drewN nq) (fun _ i _ => 20 - (intOf i).toNat)
  case atStart => exact ⟨0, by omega, rfl, rfl, 0, rfl⟩
  case round =>
    obtain ⟨k, hk, rfl, rfl, n0, rfl⟩ := hrel
    by_cases hlt : k < 20
    · have hcO : w4.cell? ⟨w3.heap.size, k, none⟩ = some (.int .u8 (d k : Int)) := by rw [cell_of_row _ _ _ _ _ _ hgO, digA_get _ _ _ hlt, outD_letS d HD.out k hlt]
      have hcD : w4.cell? ⟨w.heap.size, k, none⟩ = some (.int .u8 (d k : Int)) := by rw [cell_of_row _ _ _ _ _ _ hgD4, digA_get _ _ _ (by omega)]
      have hcX : w4.cell? ⟨w.heap.size + 1, k, none⟩ = some (.int .u8 (x k : Int)) := by rw [cell_of_row _ _ _ _ _ _ hgX4, digA_get _ _ _ (by omega)]
      have HS' := Lib.hid (sameTo_succ d x k)
      cases hsk : sameTo d x k
      · have HSK := Lib.hid hsk
        clear hsk
        go_wp2
        go_quiet (fail)
        go_wp2
        go_quiet (fail)
        go_wp2
        go_roundw
        case rel => exact ⟨k + 1, by omega, by go_num, by rw [HS'.out, HSK.out]; rfl, _, rfl⟩
        case measure => simp [intOf]; omega
      · have HSK := Lib.hid hsk
        clear hsk
        go_wp2
        go_quiet (fail)
        go_wp2
        go_quiet (fail)
        go_wp2
        go_roundw
        case rel => exact ⟨k + 1, by omega, by go_num, by rw [HS'.out, HSK.out, beq_cast, Bool.true_and], _, rfl⟩
        case measure => simp [intOf]; omega
    · obtain rfl : k = 20 := by omega
      rw [HB.out]
      have hgDn : (w4.drewN n0).heap[w.heap.size]? = some (.cells (digA d 32) 23 (0, 0)) := hgD4
      have hgXn : (w4.drewN n0).heap[w.heap.size + 1]? = some (.cells (digA x 32) 23 (0, 0)) := hgX4
      have hBn := below_drewN hB4 n0
      have hzn : w.heap.size + 2 ≤ (w4.drewN n0).heap.size := by show _ ≤ w4.heap.size; omega
      generalize w4.drewN n0 = w5 at *
      clear hgD4 hgX4 hgO hB4 hz4 hz3
      have hle := (letS_eq d x HD.out HX.out).trans HB.out
      go_wp2_with (refine wpList_load_row rfl 23 _ rfl (w.heap.size + 1) rfl 23 _ (0, 0) _ hgXn Try.underlying23 rfl (by rw [digA_size]; exact info32) ?_)
      refine (letters_is x HX.out _).mono ?_
      rintro e w6 ⟨rfl, hb6⟩
      have hgD6 := (hb6.block w.heap.size (by omega)).trans hgDn
      have hgX6 := (hb6.block (w.heap.size + 1) (by omega)).trans hgXn
      have hB6 := below_step hBn hb6 hBn.size
      have hz6 : w.heap.size + 2 ≤ w6.heap.size := by have := hb6.size; omega
      clear hgDn hgXn hBn hb6 hzn
      go_wp2_with (refine wpList_load_row rfl 23 _ rfl w.heap.size rfl 23 _ (0, 0) _ hgD6 Try.underlying23 rfl (by rw [digA_size]; exact info32) ?_)
      cases r
      · refine (name_no d s _ HS.out HR.out).mono ?_
        rintro e w7 ⟨rfl, hb7⟩
        have hB7 := below_step hB6 hb7 hB6.size
        go_wp2_with fail
        refine (works_any _).mono ?_
        rintro e w8 ⟨rfl, hb8⟩
        go_wp2_with fail
        go_ret
        exact ⟨rfl, below_step hB7 hb8 hB7.size⟩
      · refine (name_yes d HD.out s _ HS.out HR.out).mono ?_
        rintro e w7 ⟨rfl, hb7⟩
        have hgD7 := (hb7.block w.heap.size (by omega)).trans hgD6
        have hgX7 := (hb7.block (w.heap.size + 1) (by omega)).trans hgX6
        have hB7 := below_step hB6 hb7 hB6.size
        have hz7 : w.heap.size + 2 ≤ w7.heap.size := by have := hb7.size; omega
        clear hgD6 hgX6 hB6 hb7 hz6
        go_wp2_with fail
        refine (parse_name d s _ HR.out).mono ?_
        rintro e w8 ⟨rfl, hb8⟩
        have hgD8 := (hb8.block w.heap.size (by omega)).trans hgD7
        have hgX8 := (hb8.block (w.heap.size + 1) (by omega)).trans hgX7
        have hB8 := below_step hB7 hb8 hB7.size
        have hz8 : w.heap.size + 2 ≤ w8.heap.size := by have := hb8.size; omega
        clear hgD7 hgX7 hB7 hb8 hz7
        have HF1 := Lib.hid (show sameB (outD (letS d)) d = true by rw [sameB_of _ _ d d (fun i hi => outD_letS d HD.out i hi) (fun i _ => rfl), sameTo_self])
        have HF2 := Lib.hid (show sameB (outD (letS d)) x = b by rw [sameB_of _ _ d x (fun i hi => outD_letS d HD.out i hi) (fun i _ => rfl), HB.out])
        go_wp2_with (refine wpList_load_row_g rfl 23 _ rfl w.heap.size rfl 23 _ (0, 0) _ hgD8 Try.underlying23 rfl (by rw [digA_size]; exact info32) ?_)
        refine (fits_name d d s _ HR.out).mono ?_
        rw [HF1.out]
        rintro e w9 ⟨rfl, hb9⟩
        have hgX9 := (hb9.block (w.heap.size + 1) (by omega)).trans hgX8
        have hB9 := below_step hB8 hb9 hB8.size
        clear hgD8 hgX8 hB8 hb9 hz8
        go_wp2_with (refine wpList_load_row_g rfl 23 _ rfl (w.heap.size + 1) rfl 23 _ (0, 0) _ hgX9 Try.underlying23 rfl (by rw [digA_size]; exact info32) ?_)
        refine (fits_name d x s _ HR.out).mono ?_
        rw [HF2.out]
        rintro e w10 ⟨rfl, hb10⟩
        have hB10 := below_step hB9 hb10 hB9.size
        clear hgX9 hB9 hb10
        go_wp2_with fail
        refine (works_any _).mono ?_
        rintro e w11 ⟨rfl, hb11⟩
        go_wp2_with fail
        go_ret
        exact ⟨rfl, below_step hB10 hb11 hB10.size⟩
theorem namingBack_walk (d x : Nat → Nat) (s : ByteArray) (w : World) (hd : ∀ i, d i < 256) (hx : ∀ i, x i < 256) (hs : s.size ≤ maxLen) :
    Calls Try.prog 7 #[.agg (digA d 32), .agg (digA x 32), .string s] w fun e w' => e = .returned (.bool true) ∧ Below w.heap.size w w' := by
  by_cases h5 : 500 < s.size
  · exact namingBack_long d x s w hs h5
  · exact namingBack_short d x s w hd hx hs h5 _ rfl _ rfl
end Go.Proofs.Ytdicdmajobjppaa
