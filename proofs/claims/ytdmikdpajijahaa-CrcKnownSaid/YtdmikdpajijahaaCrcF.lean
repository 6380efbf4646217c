/- The walk of the law CrcKnown. -/
import Derived.Test.YtdmikdpajijahaaCrcE
namespace Go.Proofs.Ytdmikdpajijahaa
open Go.RowKit

theorem wf8 (k : Nat) (h : k < 256) : (Lit.int .u8 (k : Int)).wf = true := by
  simp [Lit.wf, IntKind.min, IntKind.max, IntKind.signed, IntKind.bits]; omega
theorem wf16 (k : Nat) (h : k < 65536) : (Lit.int .u16 (k : Int)).wf = true := by
  simp [Lit.wf, IntKind.min, IntKind.max, IntKind.signed, IntKind.bits]; omega
theorem wf32 (k : Nat) (h : k < 4294967296) : (Lit.int .u32 (k : Int)).wf = true := by
  simp [Lit.wf, IntKind.min, IntKind.max, IntKind.signed, IntKind.bits]; omega
def abcd (i : Nat) : Nat := [97, 98, 99, 100, 101, 102, 103, 104].getD i 0
theorem abcd_lt (i : Nat) : abcd i < 256 := by
  unfold abcd
  rw [List.getD_eq_getElem?_getD]
  by_cases h : i < 8
  · have e : ∀ i : Fin 8, ([97, 98, 99, 100, 101, 102, 103, 104] : List Nat)[i.val]?.getD 0 < 256 := by decide
    exact e ⟨i, h⟩
  · rw [List.getElem?_eq_none (by simp; omega)]; decide
theorem nil_sum : ((sumR (fun _ => 0) 0).toNat : Int) = 0 := by decide +kernel
theorem zero_sum : ((sumR (fun _ => 0) 1).toNat : Int) = 3523407757 := by decide +kernel
theorem one_one : ((step 1#32 1).toNat : Int) = 0 := by decide +kernel
theorem all_zero : ((step 4294967295#32 0).toNat : Int) = 771559538 := by decide +kernel

set_option maxRecDepth 100000 in
set_option maxHeartbeats 1000000 in
theorem crcKnown_walk (w : World) :
    Calls Try.prog 9 #[] w fun e w' => e = .returned (.bool true) ∧ Below w.heap.size w w' := by
  go_enter Try.func9, Try.ntmps9
  go_wp2_with fail
  go_loopw [1] (fun i wr => ∃ k : Nat, k ≤ 256 ∧ i = .int .i64 k ∧ Below w.heap.size w wr) (fun i _ => 256 - (intOf i).toNat)
  case atStart => exact ⟨0, by omega, rfl, Below.refl _ _⟩
  case round =>
    obtain ⟨k, hk, rfl, hB⟩ := hrel
    by_cases hlt : k < 256
    · have e0 : (k : Int) % 256 = (k : Int) := by omega
      obtain ⟨k1, K1⟩ : ∃ k1 : Nat, Hid (k1 = (k + 1) % 256) := ⟨_, Lib.hid rfl⟩
      have e1 : ((k : Int) + 1) % 256 = (k1 : Int) := by rw [K1.out]; omega
      have hk1 : k1 < 256 := by have := K1.out; omega
      go_wp2_with fail
      refine (crcSteps_walk 0 (k : Int) _ (wf32 0 (by decide)) (wf8 k hlt)).mono ?_
      rintro e w2 ⟨rfl, hb2⟩
      have hB2 := below_step hB hb2 hB.size
      clear hb2
      go_wp2_with fail
      refine (crcSteps_walk 4294967295 (k : Int) _ (wf32 4294967295 (by decide)) (wf8 k hlt)).mono ?_
      rintro e w3 ⟨rfl, hb3⟩
      have hB3 := below_step hB2 hb3 hB2.size
      clear hb3 hB2
      go_wp2_with fail
      refine (crcUnlike_walk 1 2 (k : Int) (k1 : Int) _ (wf32 1 (by decide)) (wf32 2 (by decide)) (wf8 k hlt) (wf8 k1 hk1)).mono ?_
      rintro e w4 ⟨rfl, hb4⟩
      have hB4 := below_step hB3 hb4 hB3.size
      clear hb4 hB3
      go_wp2_with fail
      refine (crcSums_walk (fun _ => k) (some ⟨w4.heap.size, 0, none⟩) 1 1 _ (fun _ => hlt) (Nat.le_refl _) (by decide) (holds_new w4 5 (fun _ => k) 1 (0, 0)) (fun h => by cases h)).mono ?_
      rintro e w5 ⟨rfl, hb5⟩
      have hB5 := below_step (hB4.alloc hB4.size (.cells #[Value.int .u8 (k : Int)] 5)) hb5 (by simp; exact Nat.le_succ_of_le hB4.size)
      clear hb5 hB4
      go_wp2_with fail
      go_roundw
      case rel => exact ⟨k + 1, by omega, by go_num, hB5⟩
      case measure => simp [intOf]; omega
    · go_wp2_with fail
      go_loopw [2] (fun i wr => ∃ k : Nat, k ≤ 32 ∧ i = .int .i64 k ∧ Below w.heap.size w wr) (fun i _ => 32 - (intOf i).toNat)
      case atStart => exact ⟨0, by omega, rfl, hB⟩
      case round =>
        clear hB
        obtain ⟨k, hk, rfl, hB⟩ := hrel
        by_cases hlt : k < 32
        · have e0 : (k : Int) % 65536 = (k : Int) := by omega
          have e2 : (k : Int) % 256 = (k : Int) := by omega
          have h2 : 2 ^ k < 4294967296 := show 2 ^ k < 2 ^ 32 from Nat.pow_lt_pow_right (by decide) hlt
          obtain ⟨p, P⟩ : ∃ p : Nat, Hid (p = 2 ^ k) := ⟨_, Lib.hid rfl⟩
          rw [← P.out] at h2
          have ep : (2 : Int) ^ k = (p : Int) := by
            have e1 : ((2 ^ k : Nat) : Int) = (2 : Int) ^ k := by rw [Int.natCast_pow]; rfl
            rw [← e1, ← P.out]
          have kc := fun (w : World) (C : Array Value) (n c : Nat) => Lib.run_convert_bytes_const (P := Try.prog) w 26 5 C n c Try.underlying26 Try.underlying5
          have ep2 : (p : Int) % 4294967296 = (p : Int) := by omega
          go_wp2_with fail
          refine (crcBursts_walk abcd (some ⟨wr.heap.size, 0, none⟩) 8 8 (k : Int) (p : Int) _ abcd_lt (Nat.le_refl _) (by decide) (holds_new wr 5 abcd 8 (8, 9)) (fun h => by cases h) (wf16 k (by omega)) (wf32 p h2)).mono ?_
          rintro e w2 ⟨rfl, hb2⟩
          have hB2 := below_step (hB.alloc hB.size (.cells (digA abcd 8) 5 (8, 9))) hb2 (by simp; exact Nat.le_succ_of_le hB.size)
          clear hb2
          go_wp2_with fail
          refine (crcSteps_walk (p : Int) (k : Int) _ (wf32 p h2) (wf8 k (by omega))).mono ?_
          rintro e w3 ⟨rfl, hb3⟩
          have hB3 := below_step hB2 hb3 hB2.size
          clear hb3 hB2
          go_wp2_with fail
          go_roundw
          case rel => exact ⟨k + 1, by omega, by go_num, hB3⟩
          case measure => simp [intOf]; omega
        · have HS1 := Lib.hid (fun w => sum_any (fun _ => 0) (fun _ => by decide) none 0 0 (Nat.le_refl _) (by decide) w (fun h => absurd h (by omega)))
          have HS2 := Lib.hid (sum_any (fun _ => 0) (fun _ => by decide) (some ⟨wr.heap.size, 0, none⟩) 1 1 (Nat.le_refl _) (by decide) _ (holds_new wr 5 (fun _ => 0) 1 (0, 0)))
          have HT1 := Lib.hid (fun w => step_any 1#32 1 (by decide) w)
          have HT2 := Lib.hid (fun w => step_any 4294967295#32 0 (by decide) w)
          rw [nil_sum] at HS1
          rw [zero_sum] at HS2
          rw [one_one] at HT1
          rw [all_zero] at HT2
          go_wp2_with fail
          refine (HS1.out _).mono ?_
          rintro e w' ⟨rfl, rfl⟩
          go_wp2_with fail
          refine HS2.out.mono ?_
          rintro e w' ⟨rfl, rfl⟩
          go_wp2_with fail
          refine (HT1.out _).mono ?_
          rintro e w' ⟨rfl, rfl⟩
          go_wp2_with fail
          refine (HT2.out _).mono ?_
          rintro e w' ⟨rfl, rfl⟩
          go_wp2_with fail
          refine (works_any _).mono ?_
          rintro e w5 ⟨rfl, hb5⟩
          go_wp2_with fail
          go_ret
          exact ⟨rfl, below_step (hB.alloc hB.size _) hb5 (by simp; exact Nat.le_succ_of_le hB.size)⟩
end Go.Proofs.Ytdmikdpajijahaa
