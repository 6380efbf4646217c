/- The contract of Pad. -/
import Derived.Test.YtnenjljcopbdeaaDoorShaE
import Derived.Deep.OwnRows
namespace Go.Proofs.YtnenjljcopbdeaaDoor
open Go.RowKit

def noughts (n : Nat) : Nat := (64 - (n + 9) % 64) % 64
def padLen (n : Nat) : Nat := noughts n + 9
def padB (n i : Nat) : Nat := if i = 0 then 128 else if i ≤ noughts n then 0 else n * 8 % 18446744073709551616 / 256 ^ (padLen n - 1 - i) % 256

theorem noughts_lt (n : Nat) : noughts n < 64 := Nat.mod_lt _ (by decide)
theorem noughts_of (n : Nat) : wrap64 ((IntKind.u64.wrap (64 - (IntKind.u64.wrap ((n : Int) + 9)).tmod 64)).tmod 64) = (noughts n : Int) := by
  have h1 : (IntKind.u64.wrap ((n : Int) + 9)).tmod 64 = (((n + 9) % 64 : Nat) : Int) := by
    rw [IntKind.wrap_u64, Int.tmod_eq_emod_of_nonneg (by omega)]; omega
  rw [h1]
  have h2 : (IntKind.u64.wrap (64 - (((n + 9) % 64 : Nat) : Int))).tmod 64 = (noughts n : Int) := by
    rw [IntKind.wrap_u64, Int.tmod_eq_emod_of_nonneg (by omega)]; unfold noughts; omega
  rw [h2]
  have := noughts_lt n
  unfold wrap64
  omega
theorem made_zero (n : Nat) : madeCells #[Value.int .u8 0] n = digA (fun _ => 0) n := by
  apply Array.toList_inj.1
  rw [toList_madeCells_one]
  simp [digA, cells, List.map_const']
/-- The bytes while they are put. -/
def padTo (n i j : Nat) : Nat := if j = 0 then 128 else if j < padLen n - i then 0 else padB n j
theorem pad_first (n : Nat) : (digA (fun _ => 0) (padLen n)).setIfInBounds 0 (.int .u8 128) = digA (padTo n 0) (padLen n) :=
  digA_set (fun _ => 0) (padTo n 0) (padLen n) 0 fun i hi hne => by simp [padTo, hne, hi]
theorem padB_lt (n i : Nat) : padB n i < 256 := by unfold padB; split; omega; split; omega; exact Nat.mod_lt _ (by decide)
theorem pad_last (n : Nat) : digA (padTo n 8) (padLen n) = digA (padB n) (padLen n) :=
  digA_congr _ _ _ fun i hi => by
    unfold padTo padB
    unfold padLen at *
    by_cases h : i = 0
    · simp [h]
    · rw [if_neg h, if_neg h]
      by_cases h2 : i < noughts n + 9 - 8
      · rw [if_pos h2, if_pos (by omega)]
      · rw [if_neg h2]
theorem pad_step (n i : Nat) (hi : i < 8) : (digA (padTo n i) (padLen n)).setIfInBounds (padLen n - 1 - i) (.int .u8 (padB n (padLen n - 1 - i) : Int)) = digA (padTo n (i + 1)) (padLen n) := by
  have e : padB n (padLen n - 1 - i) = padTo n (i + 1) (padLen n - 1 - i) := by
    unfold padTo
    rw [if_neg (by unfold padLen; omega), if_neg (by unfold padLen; omega)]
  rw [e]
  exact digA_set _ _ _ _ fun j hj hne => by
    unfold padTo
    by_cases h : j = 0
    · simp [h]
    · rw [if_neg h, if_neg h]
      by_cases h2 : j < padLen n - (i + 1)
      · rw [if_pos h2, if_pos (by omega)]
      · rw [if_neg h2]
        by_cases h3 : j < padLen n - i
        · omega
        · rw [if_neg h3]
theorem pad_byte (n i : Nat) (hi : i < 8) : IntKind.u8.wrap (((n : Int) * 8 % 18446744073709551616) / 2 ^ (8 * i)) = (padB n (padLen n - 1 - i) : Int) := by
  have e : padB n (padLen n - 1 - i) = n * 8 % 18446744073709551616 / 256 ^ i % 256 := by
    unfold padB
    rw [if_neg (by unfold padLen; omega), if_neg (by unfold padLen; omega), show padLen n - 1 - (padLen n - 1 - i) = i from by unfold padLen; omega]
  rw [e, IntKind.wrap_u8, show (256 : Nat) ^ i = 2 ^ (8 * i) from (Nat.pow_mul 2 8 i).symm, Int.natCast_emod, Int.natCast_ediv, Int.natCast_emod, Int.natCast_mul, Int.natCast_pow]
  rfl

set_option maxRecDepth 100000 in
set_option maxHeartbeats 400000 in
theorem pad_any (n : Nat) (w : World) :
    Calls Tryd.prog 11 #[.int .u64 (n : Int)] w fun e w' => e = .returned (.slice (some ⟨w.heap.size, 0, none⟩) (padLen n) (padLen n)) ∧ Below w.heap.size w w' ∧ w'.heap[w.heap.size]? = some (.cells (digA (padB n) (padLen n)) 5) := by
  obtain ⟨i0, hi, hz0, hz1, hz2⟩ := info_parts infoU8
  have ek := noughts_of n
  have hk := noughts_lt n
  obtain ⟨k, HK⟩ : ∃ k, Hid (k = noughts n) := ⟨_, Lib.hid rfl⟩
  have HL := Lib.hid (show padLen n = k + 9 by rw [HK.out]; rfl)
  rw [← HK.out] at ek hk
  have hmk : ∀ w' : World, (Instr.makeSlice 23 (.int .i64 ((k : Int) + 9)) (.int .i64 ((k : Int) + 9))).run Tryd.prog w' = .ok (.slice (some ⟨w'.heap.size, 0, none⟩) (k + 9) (k + 9)) (w'.alloc (.cells (digA (fun _ => 0) (k + 9)) 5)) := fun w' => by
    have := run_make_row (P := Tryd.prog) 23 5 i0 (.int .u8 0) Tryd.underlying23 hi hz0 hz1 rfl .i64 .i64 (k + 9) (by rw [hz2]; omega) (by omega) w'
    rw [made_zero] at this
    exact this
  go_enter Tryd.func11, Tryd.ntmps11
  go_upto_region 3 with (fail)
  obtain ⟨w1, hw1, hg, hb, hsz⟩ : ∃ w1, w1 = w.alloc (.cells (digA (fun _ => 0) (k + 9)) 5) ∧ w1.heap[w.heap.size]? = some (.cells (digA (fun _ => 0) (k + 9)) 5) ∧ Below w.heap.size w w1 ∧ w1.heap.size = w.heap.size + 1 :=
    ⟨_, rfl, heap_alloc_new w _, (Below.refl _ _).alloc (Nat.le_refl _) _, by simp⟩
  rw [← hw1]
  have hc0 : w1.cell? ⟨w.heap.size, 0, none⟩ = some (.int .u8 0) := by rw [cell_of_row _ _ _ _ _ _ hg, digA_get _ _ _ (by omega)]; rfl
  have hf0 : w1.frozen? ⟨w.heap.size, 0, none⟩ = false := frozen_of_row _ _ _ _ _ hg
  obtain ⟨w2, hw2, hg2, hb2, hsz2⟩ : ∃ w2, w2 = w1.setCell ⟨w.heap.size, 0, none⟩ (.int .u8 128) ∧ w2.heap[w.heap.size]? = some (.cells (digA (padTo n 0) (k + 9)) 5) ∧ Below w.heap.size w w2 ∧ w.heap.size < w2.heap.size := by
    refine ⟨_, rfl, ?_, hb.setCell (by show w.heap.size ≤ w.heap.size; omega) _, by simp; omega⟩
    rw [heap_setCell_same w1 w.heap.size 0 _ _ _ hg, ← HL.out, pad_first]
  have hk0 : (0 : Int) < (k : Int) + 9 := by omega
  clear hw1 hg hb hsz hmk ek
  go_wp2
  rw [← hw2]
  clear hw2 hc0 hf0 w1
  go_loopw [17] (fun i wr => ∃ j : Nat, j ≤ 8 ∧ i = .int .i64 j ∧ wr.heap[w.heap.size]? = some (.cells (digA (padTo n j) (k + 9)) 5) ∧ Below w.heap.size w wr ∧ w.heap.size < wr.heap.size) (fun i _ => 8 - (intOf i).toNat)
  case atStart => exact ⟨0, by omega, rfl, hg2, hb2, hsz2⟩
  case round =>
    clear hg2 hb2 hsz2
    obtain ⟨j, hj, rfl, hg, hb, hsz⟩ := hrel
    by_cases hlt : j < 8
    · obtain ⟨q, hq⟩ : ∃ q, q = k + 8 - j := ⟨_, rfl⟩
      have eq1 : (k : Int) + 9 - 1 - (j : Int) = (q : Int) := by omega
      have eq2 : (k : Int) + 8 - (j : Int) = (q : Int) := by omega
      have hqk : q < k + 9 := by omega
      have hqi : (q : Int) < (k : Int) + 9 := by omega
      have HQ := Lib.hid (show padLen n - 1 - j = q by rw [HL.out]; omega)
      clear hq
      obtain ⟨v, hv⟩ : ∃ v, v = padB n q := ⟨_, rfl⟩
      have ev : IntKind.u8.wrap (((n : Int) * 8 % 18446744073709551616) / 2 ^ (8 * j)) = (v : Int) := by rw [hv, ← HQ.out]; exact pad_byte n j hlt
      have ev2 : IntKind.u64.wrap ((n : Int) * 8) / 2 ^ (8 * j) % 256 = (v : Int) := by rw [← ev, IntKind.wrap_u8, IntKind.wrap_u64]
      have HV := Lib.hid hv
      clear ev
      clear hv
      have hc : wr.cell? ⟨w.heap.size, q, none⟩ = some (.int .u8 (padTo n j q : Int)) := by rw [cell_of_row _ _ _ _ _ _ hg, digA_get _ _ _ hqk]
      have hf : wr.frozen? ⟨w.heap.size, q, none⟩ = false := frozen_of_row _ _ _ _ _ hg
      obtain ⟨wz, hwz, hgz, hbz, hszz⟩ : ∃ wz, wz = wr.setCell ⟨w.heap.size, q, none⟩ (.int .u8 (v : Int)) ∧ wz.heap[w.heap.size]? = some (.cells (digA (padTo n (j + 1)) (k + 9)) 5) ∧ Below w.heap.size w wz ∧ w.heap.size < wz.heap.size := by
        refine ⟨_, rfl, ?_, hb.setCell (by show w.heap.size ≤ w.heap.size; omega) _, by simp; omega⟩
        rw [heap_setCell_same wr w.heap.size q _ _ _ hg, HV.out, ← HL.out, ← HQ.out, pad_step n j hlt]
      clear hg hb hsz
      go_wp2
      rw [← hwz]
      go_roundw
      case rel => exact ⟨j + 1, by omega, by go_num, hgz, hbz, hszz⟩
      case measure => simp [intOf]; omega
    · obtain rfl : j = 8 := by omega
      go_wp2
      go_ret
      rw [← HL.out] at hg
      rw [pad_last, HL.out] at hg
      rw [HL.out]
      exact ⟨rfl, hb, hg⟩
end Go.Proofs.YtnenjljcopbdeaaDoor
