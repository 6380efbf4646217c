/- Contracts of bits, of Step, and of the reference's Step. -/
import Derived.Test.YtdmikdpajijahaaCrcP
import Derived.Test.YtdmikdpajijahaaRows
import Derived.WalkKit
import Derived.WalkSpells
import Derived.WalkLawsBesides
import Derived.BigQuiet
import Derived.Deep.QuietTactic
import Derived.IntWalk
import Derived.Outline
namespace Go.Proofs.Ytdmikdpajijahaa
open Go.RowKit

theorem r_shr1 (a : Reg) : (a.toNat : Int) / (2 : Int) = ((a >>> 1).toNat : Int) := by
  rw [BitVec.toNat_ushiftRight, Nat.shiftRight_eq_div_pow]; omega
theorem r_lsb (a : Reg) : bits .and .u32 (a.toNat : Int) 1 = if lsb a then 1 else 0 := by
  have h : (1 : Int) = ((1#32 : Reg).toNat : Int) := by decide
  rw [h, r_and, BitVec.toNat_and, show (1#32 : Reg).toNat = 1 from rfl, Nat.and_one_is_mod]
  have : lsb a = decide (a.toNat % 2 = 1) := by
    rw [lsb, BitVec.getLsbD, Nat.testBit_zero]
  rw [this]
  rcases Nat.mod_two_eq_zero_or_one a.toNat with h | h <;> simp [h]
theorem r_poly (a : Reg) : bits .xor .u32 (a.toNat : Int) 3988292384 = ((a ^^^ poly).toNat : Int) := r_xor a poly

theorem bit_yes (y : Reg) (h : (bits .and .u32 (y.toNat : Int) 1 == 1) = true) : bits .xor .u32 ((y.toNat : Int) / 2) 3988292384 = ((bit1 y).toNat : Int) := by
  rw [r_lsb] at h
  have hl : lsb y = true := by cases hc : lsb y <;> simp [hc] at h ⊢
  rw [r_shr1, r_poly, bit1, hl]; rfl
theorem bit_no (y : Reg) (h : (bits .and .u32 (y.toNat : Int) 1 == 1) = false) : (y.toNat : Int) / 2 = ((bit1 y).toNat : Int) := by
  rw [r_lsb] at h
  have hl : lsb y = false := by cases hc : lsb y <;> simp [hc] at h ⊢
  rw [r_shr1, bit1, hl, mask]; simp

theorem ref_lsb (y : Reg) (c k : Nat) (hc : c < 256) : bits .and .u32 (bits .xor .u32 (y.toNat : Int) ((c : Int) / 2 ^ k % 4294967296)) 1 = if lsb (y ^^^ BitVec.ofNat 32 (c >>> k)) then 1 else 0 := by
  have h : (c : Int) / 2 ^ k % 4294967296 = ((BitVec.ofNat 32 (c >>> k) : Reg).toNat : Int) := by
    rw [BitVec.toNat_ofNat, Nat.shiftRight_eq_div_pow, Int.natCast_emod, Int.natCast_ediv, Int.natCast_pow]; rfl
  rw [h, r_xor, r_lsb]
theorem refBit_yes (y : Reg) (c k : Nat) (hc : c < 256) (h : (bits .and .u32 (bits .xor .u32 (y.toNat : Int) ((c : Int) / 2 ^ k % 4294967296)) 1 == 1) = true) : bits .xor .u32 ((y.toNat : Int) / 2) 3988292384 = ((bit1 (y ^^^ bitOf (c.testBit k))).toNat : Int) := by
  rw [ref_lsb y c k hc] at h
  have hl : lsb (y ^^^ BitVec.ofNat 32 (c >>> k)) = true := by cases hc : lsb (y ^^^ BitVec.ofNat 32 (c >>> k)) <;> simp [hc] at h ⊢
  rw [r_shr1, r_poly, ← ref_bit y c k hc, hl]; rfl
theorem refBit_no (y : Reg) (c k : Nat) (hc : c < 256) (h : (bits .and .u32 (bits .xor .u32 (y.toNat : Int) ((c : Int) / 2 ^ k % 4294967296)) 1 == 1) = false) : (y.toNat : Int) / 2 = ((bit1 (y ^^^ bitOf (c.testBit k))).toNat : Int) := by
  rw [ref_lsb y c k hc] at h
  have hl : lsb (y ^^^ BitVec.ofNat 32 (c >>> k)) = false := by cases hc : lsb (y ^^^ BitVec.ofNat 32 (c >>> k)) <;> simp [hc] at h ⊢
  rw [r_shr1, ← ref_bit y c k hc, hl, mask]; simp
set_option maxHeartbeats 400000 in
theorem bits_any (x : Reg) (w : World) :
    Calls Try.prog 15 #[.int .u32 (x.toNat : Int)] w fun e w' => e = .returned (.int .u32 ((iter1 8 x).toNat : Int)) ∧ w = w' := by
  go_enter Try.func15, Try.ntmps15
  go_wp2
  go_loop [0, 4] (fun r i => ∃ k : Nat, k ≤ 8 ∧ i = .int .i64 k ∧ r = .int .u32 ((iter1 k x).toNat : Int)) (fun _ i => 8 - (intOf i).toNat)
  case atStart => exact ⟨0, Nat.zero_le _, rfl, rfl⟩
  case round =>
    obtain ⟨k, hk, rfl, rfl⟩ := hrel
    by_cases hlt : k < 8
    · go_wp2
      · have h := bit_yes _ (by assumption)
        go_round
        case rel => exact ⟨k + 1, by omega, by go_num, val_int h⟩
        case measure => simp [intOf]; omega
      · have h := bit_no _ (by assumption)
        go_round
        case rel => exact ⟨k + 1, by omega, by go_num, val_int h⟩
        case measure => simp [intOf]; omega
    · obtain rfl : k = 8 := by omega
      go_wp2
      go_ret
      exact ⟨rfl, rfl⟩

theorem r_byte (c : Nat) (hc : c < 256) : ((BitVec.ofNat 32 c : Reg).toNat : Int) = (c : Int) := by
  rw [BitVec.toNat_ofNat, Nat.mod_eq_of_lt (by omega)]
theorem step_any (r : Reg) (c : Nat) (hc : c < 256) (w : World) :
    Calls Try.prog 10 #[.int .u32 (r.toNat : Int), .int .u8 (c : Int)] w fun e w' => e = .returned (.int .u32 ((step r c).toNat : Int)) ∧ w = w' := by
  have hx : bits .xor .u32 (r.toNat : Int) (c : Int) = ((r ^^^ BitVec.ofNat 32 c).toNat : Int) := by rw [← r_byte c hc, r_xor]
  have HS := Lib.hid (step_iter r c hc)
  go_enter Try.func10, Try.ntmps10
  go_wp2_with (go_at_call 15; refine (bits_any (r ^^^ BitVec.ofNat 32 c) _).mono ?_; rintro e w' ⟨rfl, rfl⟩)
  rw [HS.out]
  go_ret
  exact ⟨rfl, rfl⟩

set_option maxHeartbeats 400000 in
theorem refStep_any (x : Reg) (c : Nat) (hc : c < 256) (w : World) :
    Calls Try.prog 11 #[.int .u32 (x.toNat : Int), .int .u8 (c : Int)] w fun e w' => e = .returned (.int .u32 ((step x c).toNat : Int)) ∧ w = w' := by
  go_enter Try.func11, Try.ntmps11
  go_wp2
  go_loop [0, 5] (fun r i => ∃ k : Nat, k ≤ 8 ∧ i = .int .i64 k ∧ r = .int .u32 ((regAt (fun i => c.testBit i) k x).toNat : Int)) (fun _ i => 8 - (intOf i).toNat)
  case atStart => exact ⟨0, Nat.zero_le _, rfl, rfl⟩
  case round =>
    obtain ⟨k, hk, rfl, rfl⟩ := hrel
    by_cases hlt : k < 8
    · go_wp2
      · have h := refBit_yes _ c k hc (by assumption)
        go_round
        case rel => exact ⟨k + 1, by omega, by go_num, val_int h⟩
        case measure => simp [intOf]; omega
      · have h := refBit_no _ c k hc (by assumption)
        go_round
        case rel => exact ⟨k + 1, by omega, by go_num, val_int h⟩
        case measure => simp [intOf]; omega
    · obtain rfl : k = 8 := by omega
      go_wp2
      go_ret
      exact ⟨rfl, rfl⟩
end Go.Proofs.Ytdmikdpajijahaa
