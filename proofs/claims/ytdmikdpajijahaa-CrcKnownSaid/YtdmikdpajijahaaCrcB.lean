/- Contracts of Sum, of the reference's Sum, and of works. -/
import Derived.Test.YtdmikdpajijahaaCrcA
import Derived.Test.YtdmikdpajijahaaFacts
namespace Go.Proofs.Ytdmikdpajijahaa
open Go.RowKit

theorem all_val : Value.int .u32 4294967295 = .int .u32 ((BitVec.allOnes 32).toNat : Int) := val_int (by decide)
theorem not_max (a : Reg) : bits .xor .u32 IntKind.u32.max (a.toNat : Int) = ((~~~a).toNat : Int) := r_not a

set_option maxHeartbeats 400000 in
theorem sum_any (d : Nat → Nat) (hd : ∀ i, d i < 256) (A : Option Addr) (n cap : Nat) (hnc : n ≤ cap) (hcm : cap ≤ maxLen) (w : World) (hr : Holds w w.heap.size A n d) :
    Calls Try.prog 13 #[.slice A n cap] w fun e w' => e = .returned (.int .u32 ((sumR d n).toNat : Int)) ∧ w = w' := by
  unfold maxLen at hcm
  have HD := Lib.hid hd
  have HR := Lib.hid hr
  clear hd hr
  have HA := Lib.hid all_val
  go_enter Try.func13, Try.ntmps13
  go_wp2
  go_loop [3, 8] (fun r i => ∃ k : Nat, k ≤ n ∧ i = .int .i64 k ∧ r = .int .u32 ((runs d k (BitVec.allOnes 32)).toNat : Int)) (fun _ i => n - (intOf i).toNat)
  case atStart => exact ⟨0, Nat.zero_le _, rfl, HA.out⟩
  case round =>
    obtain ⟨k, hk, rfl, rfl⟩ := hrel
    by_cases hlt : k < n
    · obtain ⟨ad, rfl, hl, hc⟩ := HR.out (by omega)
      have hcell := hc k hlt
      clear hc
      go_wp2_with (go_at_call 10; refine (step_any _ (d k) (HD.out k) _).mono ?_; rintro e w' ⟨rfl, rfl⟩)
      go_round
      case rel => exact ⟨k + 1, by omega, by go_num, rfl⟩
      case measure => simp [intOf]; omega
    · obtain rfl : k = n := by omega
      have hsg : IntKind.u32.signed = false := rfl
      go_wp2
      go_ret
      exact ⟨ret_int (not_max _), rfl⟩

set_option maxHeartbeats 400000 in
theorem refSum_any (d : Nat → Nat) (hd : ∀ i, d i < 256) (A : Option Addr) (n cap : Nat) (hnc : n ≤ cap) (hcm : cap ≤ maxLen) (w : World) (hr : Holds w w.heap.size A n d) :
    Calls Try.prog 14 #[.slice A n cap] w fun e w' => e = .returned (.int .u32 ((sumR d n).toNat : Int)) ∧ w = w' := by
  unfold maxLen at hcm
  have HD := Lib.hid hd
  have HR := Lib.hid hr
  clear hd hr
  have HA := Lib.hid all_val
  go_enter Try.func14, Try.ntmps14
  go_wp2
  go_loop [3, 4] (fun r i => ∃ k : Nat, k ≤ n ∧ i = .int .i64 k ∧ r = .int .u32 ((runs d k (BitVec.allOnes 32)).toNat : Int)) (fun _ i => n - (intOf i).toNat)
  case atStart => exact ⟨0, Nat.zero_le _, rfl, HA.out⟩
  case round =>
    obtain ⟨k, hk, rfl, rfl⟩ := hrel
    by_cases hlt : k < n
    · obtain ⟨ad, rfl, hl, hc⟩ := HR.out (by omega)
      have hcell := hc k hlt
      clear hc
      go_wp2_with (go_at_call 11; refine (refStep_any _ (d k) (HD.out k) _).mono ?_; rintro e w' ⟨rfl, rfl⟩)
      go_round
      case rel => exact ⟨k + 1, by omega, by go_num, rfl⟩
      case measure => simp [intOf]; omega
    · obtain rfl : k = n := by omega
      have hsg : IntKind.u32.signed = false := rfl
      go_wp2
      go_ret
      exact ⟨ret_int (not_max _), rfl⟩

def nineD (i : Nat) : Nat := [49, 50, 51, 52, 53, 54, 55, 56, 57].getD i 0
theorem nineD_lt (i : Nat) : nineD i < 256 := by
  unfold nineD
  rw [List.getD_eq_getElem?_getD]
  by_cases h : i < 9
  · have e : ∀ i : Fin 9, ([49, 50, 51, 52, 53, 54, 55, 56, 57] : List Nat)[i.val]?.getD 0 < 256 := by decide
    exact e ⟨i, h⟩
  · rw [List.getElem?_eq_none (by simp; omega)]; decide
theorem nine_sum : ((sumR nineD 9).toNat : Int) = 3421780262 := by decide +kernel
theorem one_step : ((step 0#32 1).toNat : Int) = 1996959894 := by decide +kernel
set_option maxHeartbeats 400000 in
theorem works_any (w : World) :
    Calls Try.prog 12 #[] w fun e w' => e = .returned (.bool true) ∧ Below w.heap.size w w' := by
  have hs := sum_any nineD nineD_lt (some ⟨w.heap.size, 0, none⟩) 9 9 (Nat.le_refl _) (by decide) _ (holds_new w 5 nineD 9 (9, 10))
  have ht := fun w => step_any 0#32 1 (by decide) w
  rw [nine_sum] at hs
  rw [one_step] at ht
  have HS := Lib.hid hs
  have HT := Lib.hid ht
  clear hs ht
  have kc := fun (w : World) (C : Array Value) (n c : Nat) => Lib.run_convert_bytes_const (P := Try.prog) w 26 5 C n c Try.underlying26 Try.underlying5
  go_enter Try.func12, Try.ntmps12
  go_wp2_with fail
  refine HS.out.mono ?_
  rintro e w' ⟨rfl, rfl⟩
  go_wp2_with fail
  refine (HT.out _).mono ?_
  rintro e w' ⟨rfl, rfl⟩
  go_wp2_with fail
  go_ret
  exact ⟨rfl, (Below.refl _ _).alloc (Nat.le_refl _) _⟩
end Go.Proofs.Ytdmikdpajijahaa
