/- Contracts of the reference's bit, Of20 and Letters. -/
import Derived.Test.YtdicdmajobjppaaNamA
import Derived.Test.YtdicdmajobjppaaNamP
import Derived.IntWalk
namespace Go.Proofs.Ytdicdmajobjppaa
open Go.RowKit

theorem i64_id (n : Int) (h0 : -9223372036854775808 ≤ n) (h1 : n ≤ 9223372036854775807) : wrap64 n = n := by unfold wrap64; omega

set_option maxHeartbeats 400000 in
theorem bit_any (d : Nat → Nat) (hd : ∀ i, d i < 256) (b : Nat) (cap : Nat) (n : Nat) (w : World) (hn : n < 160) (hc : w.cell? ⟨b, n / 8, none⟩ = some (.int .u8 (d (n / 8) : Int))) :
    Calls Try.prog 26 #[.slice (some ⟨b, 0, none⟩) 20 cap, .int .i64 (n : Int)] w fun e w' => e = .returned (.int .i64 (bitNo (num d 20) n : Int)) ∧ w = w' := by
  have h8 : n / 8 < 20 := by omega
  have HB := Lib.hid (bit_of d hd n hn)
  have hx := hd (n / 8)
  clear hd
  generalize d (n / 8) = x at *
  go_enter Try.func26, Try.ntmps26
  go_wp2
  go_ret
  refine ⟨ret_int ?_, rfl⟩
  have hle : x / 2 ^ (7 - n % 8) ≤ x := Nat.div_le_self _ _
  rw [← HB.out, cast_div, and_one_i64 _ (Int.natCast_nonneg _) (Int.ofNat_lt.2 (Nat.lt_of_le_of_lt hle hx)), Int.toNat_natCast]

theorem bit_at (d : Nat → Nat) (hd : ∀ i, d i < 256) (b : Nat) (cap : Nat) (m : Int) (n : Nat) (w : World) (hm : m = (n : Int)) (hn : n < 160) (hc : w.cell? ⟨b, n / 8, none⟩ = some (.int .u8 (d (n / 8) : Int))) :
    Calls Try.prog 26 #[.slice (some ⟨b, 0, none⟩) 20 cap, .int .i64 m] w fun e w' => e = .returned (.int .i64 (bitNo (num d 20) n : Int)) ∧ w = w' :=
  hm ▸ bit_any d hd b cap n w hn hc

/-- A slice over a block of 20 bytes. -/
def Has20 (w : World) (b : Nat) (d : Nat → Nat) : Prop := ∀ i, i < 20 → w.cell? ⟨b, i, none⟩ = some (.int .u8 (d i : Int))

def strOf (l : List UInt8) : ByteArray := ⟨l.toArray⟩
theorem strOf_size (l : List UInt8) : (strOf l).size = l.length := by simp [strOf, ByteArray.size]
theorem str_ext {a b : ByteArray} (h : a.data.toList = b.data.toList) : a = b := by
  cases a; cases b; simp at h; rw [h]
theorem abc_at (l : List UInt8) (v : Nat) (h : v < 32) : (strOf l ++ ByteArray.extract ⟨#[48, 49, 50, 51, 52, 53, 54, 55, 56, 57, 97, 98, 99, 100, 102, 103, 104, 105, 106, 107, 108, 109, 110, 112, 113, 114, 115, 118, 119, 120, 121, 122]⟩ v (v + 1)) = strOf (l ++ [abc.getD v 0]) := by
  have e : ∀ v : Fin 32, (ByteArray.extract ⟨#[48, 49, 50, 51, 52, 53, 54, 55, 56, 57, 97, 98, 99, 100, 102, 103, 104, 105, 106, 107, 108, 109, 110, 112, 113, 114, 115, 118, 119, 120, 121, 122]⟩ v.val (v.val + 1)).data.toList = [abc.getD v.val 0] := by decide +kernel
  apply str_ext
  rw [ByteArray.data_append, Array.toList_append, e ⟨v, h⟩]
  simp [strOf]

set_option maxHeartbeats 400000 in
theorem of20_any (d : Nat → Nat) (hd : ∀ i, d i < 256) (b : Nat) (cap : Nat) (w : World) (hc : Has20 w b d) :
    Calls Try.prog 22 #[.slice (some ⟨b, 0, none⟩) 20 cap] w fun e w' => e = .returned (.string (strOf (letters (num d 20) 32))) ∧ w = w' := by
  have HC := Lib.hid hc
  clear hc
  have HD := Lib.hid hd
  clear hd
  go_enter Try.func22, Try.ntmps22
  go_wp2
  go_loop [3, 4] (fun s i => ∃ k : Nat, k ≤ 32 ∧ i = .int .i64 k ∧ s = .string (strOf (letters (num d 20) k))) (fun _ i => 32 - (intOf i).toNat)
  case atStart => exact ⟨0, by omega, rfl, rfl⟩
  case round =>
    obtain ⟨k, hk, rfl, rfl⟩ := hrel
    by_cases hlt : k < 32
    · go_wp2
      go_loop [5, 6] (fun v i => ∃ j : Nat, j ≤ 5 ∧ i = .int .i64 j ∧ v = .int .i64 (preNo (num d 20) k j : Int)) (fun _ i => 5 - (intOf i).toNat)
      case atStart => exact ⟨0, by omega, rfl, by rw [preNo_zero]; rfl⟩
      case round =>
        obtain ⟨j, hj, rfl, rfl⟩ := hrel
        by_cases hjlt : j < 5
        · have hp := preNo_lt (num d 20) k j hj
          go_wp2_with fail
          refine (bit_at d HD.out b cap _ (5 * k + j) _ (by omega) (by omega) (HC.out _ (by omega))).mono ?_
          rintro e w' ⟨rfl, rfl⟩
          have hb : bitNo (num d 20) (5 * k + j) < 2 := Nat.mod_lt _ (by decide)
          have HS := Lib.hid (preNo_succ (num d 20) k j hlt hjlt)
          go_wp2
          go_round
          case rel => exact ⟨j + 1, by omega, by go_num, by rw [HS.out]; go_num⟩
          case measure => simp [intOf]; omega
        · have hj5 : j = 5 := by omega
          have hp := preNo_lt (num d 20) k j hj
          have HP := Lib.hid (show preNo (num d 20) k j = letNo (num d 20) k by rw [hj5]; exact preNo_five _ _ hlt)
          clear hj5
          have hvl := letNo_lt (num d 20) k
          have hsz : (strOf (letters (num d 20) k)).size ≤ 32 := by rw [strOf_size, letters_len]; exact hk
          have HE := Lib.hid (show _ = strOf (letters (num d 20) (k + 1)) from (abc_at (letters (num d 20) k) _ hvl).trans (by rw [letters_succ]))
          rw [← HP.out] at HE
          clear hvl
          generalize preNo (num d 20) k j = v at *
          go_wp2
          go_round
          case rel => exact ⟨k + 1, by omega, by go_num, congrArg Value.string HE.out⟩
          case measure => simp [intOf]; omega
    · have HK := Lib.hid (show k = 32 by omega)
      go_wp2
      go_ret
      exact ⟨congrArg (fun n => Ending.returned (.string (strOf (letters (num d 20) n)))) HK.out, rfl⟩
end Go.Proofs.Ytdicdmajobjppaa
