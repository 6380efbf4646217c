/- Contracts of the reference's Hex, digit and Read. -/
import Derived.Test.YtnenjljcopbdeaaDoorShaM
namespace Go.Proofs.YtnenjljcopbdeaaDoor
open Go.RowKit Go.BigFrame

set_option maxRecDepth 100000 in
set_option maxHeartbeats 400000 in
theorem refHex_any (d : Nat → Nat) (hd : ∀ i, d i < 256) (w : World) :
    Calls Tryd.prog 20 #[.agg (digA d 32)] w fun e w' => e = .returned (.string (hexS d)) ∧ Below w.heap.size w w' := by
  have HD := Lib.hid hd
  clear hd
  obtain ⟨i0, hi, hz0, hz1, hz2⟩ := info_parts infoU8
  go_enter Tryd.func20, Tryd.ntmps20
  go_upto_region 1 with (fail)
  obtain ⟨w1, hw1, hgD, hb, hsz⟩ := row_new w (.cells (digA d 32) 33)
  rw [← hw1]
  clear hw1 hsz
  go_wp2_with fail
  go_loopw [3, 4] (fun v i wr => ∃ k : Nat, k ≤ 32 ∧ i = .int .i64 k ∧ wr.heap[w.heap.size]? = some (.cells (digA d 32) 33) ∧ wr.ownsRow (w.heap.size + 1) 5 1 v (2 * k) (cells (hexB d) (2 * k)) ∧ Below w.heap.size w wr) (fun _ i _ => 32 - (intOf i).toNat)
  case atStart => exact ⟨0, by omega, rfl, hgD, World.ownsRow_nil _ _ _ _, hb⟩
  case round =>
    clear hgD hb
    obtain ⟨k, hk, rfl, hgD, hown, hb⟩ := hrel
    have hsz := block_lt hgD
    by_cases hlt : k < 32
    · have hcell : wr.cell? ⟨w.heap.size, k, none⟩ = some (.int .u8 (d k : Int)) := by rw [cell_of_row _ _ _ _ _ _ hgD, digA_get _ _ _ hlt]
      have hk0 : (0 : Int) ≤ (k : Int) := by omega
      have hk32 : (k : Int) < 32 := by omega
      have hdk := HD.out k
      have hxd : d k / 16 < 16 := by omega
      have hyd : d k % 16 < 16 := by omega
      have e1 : (d k : Int) / 16 = ((d k / 16 : Nat) : Int) := by omega
      have e2 : (d k : Int) % 16 = ((d k % 16 : Nat) : Int) := by omega
      have e3 : (d k : Int).tdiv 16 = ((d k / 16 : Nat) : Int) := by rw [Int.tdiv_eq_ediv_of_nonneg (by omega)]; omega
      have e4 : (d k : Int).tmod 16 = ((d k % 16 : Nat) : Int) := by rw [Int.tmod_eq_emod_of_nonneg (by omega)]; omega
      have e5 : IntKind.u8.wrap ((d k / 16 : Nat) : Int) = ((d k / 16 : Nat) : Int) := by rw [IntKind.wrap_u8]; omega
      have HH := Lib.hid (hex_two d k)
      generalize d k / 16 = x at *
      generalize d k % 16 = y at *
      have hxi : (x : Int) < 16 := by omega
      have hyi : (y : Int) < 16 := by omega
      have hsx : x < (ByteArray.mk #[48, 49, 50, 51, 52, 53, 54, 55, 56, 57, 97, 98, 99, 100, 101, 102]).size := hxd
      have hsy : y < (ByteArray.mk #[48, 49, 50, 51, 52, 53, 54, 55, 56, 57, 97, 98, 99, 100, 101, 102]).size := hyd
      have gx := digit_idx x hsx
      have gy := digit_idx y hsy
      go_wp2_with fail
      go_region_held3 (fun w' => w'.cell? ⟨w.heap.size, k, none⟩ = some (.int .u8 (d k : Int))) (first | go_keep | (rw [hgrow.cell_far _ (by simp; omega) (fun e => by have := (hown.lt w.heap.size e.symm).1; omega)]; assumption)) ((refine step_append_lies _ (by rfl) _ _ _ (by rfl) (w.heap.size + 1) 5 i0 _ 1 1 Tryd.underlying23 hi hz0 hz1 hz2 rfl (by omega) _ (2 * k) _ (by rfl) ((hown.alloc _).drew) ⟨wr.heap.size, 0, none⟩ 2 2 [.int .u8 (hexD x : Int), .int .u8 (hexD y : Int)] (by rfl) (by rfl) (World.news_of_block (cs := #[.int .u8 (hexD x : Int), .int .u8 (hexD y : Int)]) (t := 5) (fr := (0, 0)) (heap_alloc_new wr _)) (by simp [Value.oneCell']) (by omega) (by unfold maxLen; omega) (by omega) (by simp; omega) (wr.heap.size + 1) (by simp) ?_; intro gg cap w1 hown1 hgrow hat hlt1))
      all_goals
        rw [HH.out] at hown1
        have hb1 := ((hb.alloc (by omega) (.cells #[.int .u8 (hexD x : Int), .int .u8 (hexD y : Int)] 5)).drew).grown hgrow (by simp; omega) (fun g hg => by have := (hown.lt g hg).1; omega)
        have hgD1 : w1.heap[w.heap.size]? = some (.cells (digA d 32) 33) := kept (show ((wr.alloc (.cells #[.int .u8 (hexD x : Int), .int .u8 (hexD y : Int)] 5)).drew).heap[w.heap.size]? = _ from (old_block _ _ _ hsz).trans hgD) hgrow (fun e => by have := (hown.lt w.heap.size e.symm).1; omega)
        clear hown hgrow hat hlt1 hb hgD hcell
        go_wp2_with fail
        go_roundw
        case rel => exact ⟨k + 1, by omega, by go_num, hgD1, hown1, hb1⟩
        case measure => simp [intOf]; omega
    · obtain rfl : k = 32 := by omega
      have hcv := convert_own (P := Tryd.prog) (src := 23) (dst := 9) (l := txt (hexB d) 64) (by rw [txt_len, ← txt_cells _ _ (hexB_lt d HD.out)]; exact hown) Tryd.underlying23 Tryd.underlying5 Tryd.underlying9
      go_wp2_with fail
      go_ret
      exact ⟨rfl, hb⟩

def digI (c : Nat) : Int := if hexOk c then (hexV c : Int) else -1
set_option maxHeartbeats 400000 in
theorem digit_any (c : Nat) (hc : c < 256) (w : World) :
    Calls Tryd.prog 30 #[.int .u8 (c : Int)] w fun e w' => e = .returned (.int .i64 (digI c)) ∧ w' = w := by
  have hv : hexV c = if 48 ≤ c ∧ c ≤ 57 then c - 48 else if 97 ≤ c ∧ c ≤ 102 then c - 87 else 0 := rfl
  have ho : hexOk c = (decide (48 ≤ c ∧ c ≤ 57) || decide (97 ≤ c ∧ c ≤ 102)) := rfl
  by_cases h1 : 48 ≤ c ∧ c ≤ 57
  · have e1 := Lib.hid (show digI c = (c : Int) - 48 by rw [digI, ho, hv, if_pos h1]; simp [h1]; omega)
    obtain ⟨h1, h1'⟩ := h1
    clear hv ho
    go_enter Tryd.func30, Tryd.ntmps30
    go_wp2
    go_ret
    exact ⟨ret_int e1.out.symm, rfl⟩
  · by_cases h2 : 97 ≤ c ∧ c ≤ 102
    · have e1 := Lib.hid (show digI c = (c : Int) - 97 + 10 by rw [digI, ho, hv, if_neg h1, if_pos h2]; simp [h2]; omega)
      obtain ⟨h2, h2'⟩ := h2
      clear hv ho h1
      go_enter Tryd.func30, Tryd.ntmps30
      go_wp2
      go_ret
      exact ⟨ret_int e1.out.symm, rfl⟩
    · have e1 := Lib.hid (show digI c = -1 by rw [digI, ho]; simp [h1, h2])
      clear hv ho
      go_enter Tryd.func30, Tryd.ntmps30
      go_wp2
      all_goals first | omega | (go_ret; exact ⟨ret_int e1.out.symm, rfl⟩)
end Go.Proofs.YtnenjljcopbdeaaDoor
