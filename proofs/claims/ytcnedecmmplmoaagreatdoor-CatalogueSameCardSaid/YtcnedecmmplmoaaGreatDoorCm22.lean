/- Contracts of the reference's Right. -/
import Derived.Test.YtcnedecmmplmoaaGreatDoorCm21
set_option linter.unusedVariables false
set_option linter.unusedSimpArgs false
namespace Go.Proofs.YtcnedecmmplmoaaGreatDoor
open Go.RowKit

theorem right_false_of_at' (s : ByteArray) (k : Nat) (hk : k < s.size) (h : plainB s[k].toNat = false) : rightB s = false := right_false_of_at s k hk h
theorem plain_iff (c : Nat) : plainB c = true ↔ (97 ≤ (c : Int) ∧ (c : Int) ≤ 122) ∨ (65 ≤ (c : Int) ∧ (c : Int) ≤ 90) ∨ (48 ≤ (c : Int) ∧ (c : Int) ≤ 57) ∨ (c : Int) = 43 ∨ (c : Int) = 45 ∨ (c : Int) = 46 ∨ (c : Int) = 95 := by
  simp [plainB]
  omega
theorem plain_iff' (c : Nat) : plainB c = false ↔ ¬ ((97 ≤ (c : Int) ∧ (c : Int) ≤ 122) ∨ (65 ≤ (c : Int) ∧ (c : Int) ≤ 90) ∨ (48 ≤ (c : Int) ∧ (c : Int) ≤ 57) ∨ (c : Int) = 43 ∨ (c : Int) = 45 ∨ (c : Int) = 46 ∨ (c : Int) = 95) := by
  rw [← plain_iff, Bool.not_eq_true]

set_option maxRecDepth 100000 in
set_option maxHeartbeats 1000000 in
theorem refRight_any (s : ByteArray) (w : World) (hs : s.size ≤ maxLen) :
    Calls Tryz.prog 67 #[.string s] w fun e w' => e = .returned (.bool (rightB s)) ∧ w = w' := by
  unfold maxLen at hs
  go_enter Tryz.func67, Tryz.ntmps67
  go_wp2
  go_loop [3] (fun i => ∃ k : Nat, k ≤ s.size ∧ i = .int .i64 k ∧ Hid (allB (s.data.toList.take k) = true)) (fun i => s.size - (intOf i).toNat)
  case atStart => exact ⟨0, Nat.zero_le _, rfl, Lib.hid rfl⟩
  case round =>
    obtain ⟨k, hk, rfl, HA⟩ := hrel
    by_cases hlt : k < s.size ∧ k < 65
    · obtain ⟨hlt, hlt65⟩ := hlt
      go_wp2
      all_goals first
        | (go_ret
           refine ⟨ret_bool (right_false_of_at s k hlt ?_).symm, rfl⟩
           rw [plain_iff']
           simp only [bne_iff_ne, ne_eq] at *
           omega)
        | (have hp : plainB s[k].toNat = true := by
             rw [plain_iff]
             simp only [bne_eq_false_iff_eq] at *
             omega
           go_round
           case rel => exact ⟨k + 1, by omega, by go_num, Lib.hid (all_snoc s k hlt HA.out hp)⟩
           case measure => simp [intOf]; omega)
    · by_cases hkk : k = s.size
      · have HK := Lib.hid hkk
        clear hkk
        by_cases h1 : 1 ≤ s.size ∧ s.size ≤ 64
        · obtain ⟨h1, h64⟩ := h1
          have g0 : 0 < s.size := h1
          have HA' := Lib.hid (HK.out ▸ HA.out)
          by_cases h2 : (s[0].toNat : Int) = 46
          · have hb : ((s[0].toNat : Int) != 46) = false := by rw [h2]; rfl
            have HF := Lib.hid (right_false_of_dot s g0 h2)
            clear h2
            go_wp2
            go_ret
            exact ⟨ret_bool HF.out.symm, rfl⟩
          · have hb : ((s[0].toNat : Int) != 46) = true := by rw [bne_iff_ne]; exact h2
            have HF := Lib.hid (right_true s h1 h64 h2 (HK.out ▸ HA.out))
            clear h2
            go_wp2
            go_ret
            exact ⟨ret_bool HF.out.symm, rfl⟩
        · have HF := Lib.hid (right_false_of_len s h1)
          go_wp2
          all_goals
            go_ret
            exact ⟨ret_bool HF.out.symm, rfl⟩
      · have HF := Lib.hid (right_false_of_len s (by omega))
        have h64 : 64 < s.size := by omega
        have hlt' : k < s.size := by omega
        have hk65 : 65 ≤ k := by omega
        clear hkk hlt
        go_wp2
        go_ret
        exact ⟨ret_bool HF.out.symm, rfl⟩
end Go.Proofs.YtcnedecmmplmoaaGreatDoor
