/- Contracts of plain and Right, of naming and of its reference. -/
import Derived.Test.YtcnedecmmplmoaaGreatDoorRows
import Derived.WalkKit
import Derived.WalkSpells
import Derived.WalkLawsBesides
import Derived.Lib.Hide
import Derived.BigQuiet
import Derived.Deep.QuietTactic
set_option linter.unusedVariables false
set_option linter.unusedSimpArgs false
namespace Go.Proofs.YtcnedecmmplmoaaGreatDoor
open Go.RowKit

def plainB (c : Nat) : Bool := decide (97 ≤ c ∧ c ≤ 122) || decide (65 ≤ c ∧ c ≤ 90) || decide (48 ≤ c ∧ c ≤ 57) || decide (c = 43) || decide (c = 45) || decide (c = 46) || decide (c = 95)

theorem ret_bool {a b : Bool} (h : a = b) : Ending.returned (.bool a) = .returned (.bool b) := by rw [h]
theorem ret_int {k : IntKind} {a b : Int} (h : a = b) : Ending.returned (.int k a) = .returned (.int k b) := by rw [h]

set_option maxRecDepth 100000 in
set_option maxHeartbeats 400000 in
theorem plain_any (c : Nat) (w : World) :
    Calls Tryz.prog 91 #[.int .u8 (c : Int)] w fun e w' => e = .returned (.bool (plainB c)) ∧ w = w' := by
  go_enter Tryz.func91, Tryz.ntmps91
  go_wp2
  all_goals
    go_ret
    refine ⟨ret_bool ?_, rfl⟩
    rw [Bool.eq_iff_iff]
    simp [plainB]
    omega

theorem plain_no (c : Nat) (w : World) (h : plainB c = false) :
    Calls Tryz.prog 91 #[.int .u8 (c : Int)] w fun e w' => e = .returned (.bool false) ∧ w = w' :=
  h ▸ plain_any c w
theorem plain_yes (c : Nat) (w : World) (h : plainB c = true) :
    Calls Tryz.prog 91 #[.int .u8 (c : Int)] w fun e w' => e = .returned (.bool true) ∧ w = w' :=
  h ▸ plain_any c w

/-- Is a text a plain name? -/
def allB (l : List UInt8) : Bool := l.all (fun c => plainB c.toNat)
def rightB (s : ByteArray) : Bool := decide (1 ≤ s.size ∧ s.size ≤ 64) && allB s.data.toList && decide (s.data.toList.head? ≠ some 46)

theorem right_false_of_len (s : ByteArray) (h : ¬ (1 ≤ s.size ∧ s.size ≤ 64)) : rightB s = false := by simp [rightB, h]
theorem right_false_of_dot (s : ByteArray) (h0 : 0 < s.size) (h : (s[0].toNat : Int) = 46) : rightB s = false := by
  have hh : s.data.toList.head? = some 46 := by
    rw [List.head?_eq_getElem?, List.getElem?_eq_getElem (by simpa using h0)]
    have : s[0] = 46 := UInt8.toNat_inj.1 (by simpa using (by omega : s[0].toNat = 46))
    exact congrArg some this
  simp [rightB, hh]
theorem right_false_of_at (s : ByteArray) (k : Nat) (hk : k < s.size) (h : plainB s[k].toNat = false) : rightB s = false := by
  have : allB s.data.toList = false := by
    unfold allB
    rw [List.all_eq_false]
    exact ⟨s[k], List.getElem_mem (l := s.data.toList) (by simpa using hk), by simp [h]⟩
  simp [rightB, this]
theorem right_true (s : ByteArray) (h1 : 1 ≤ s.size) (h2 : s.size ≤ 64) (h3 : ¬ (s[0].toNat : Int) = 46) (h4 : allB (s.data.toList.take s.size) = true) : rightB s = true := by
  have hh : s.data.toList.head? ≠ some 46 := by
    rw [List.head?_eq_getElem?, List.getElem?_eq_getElem (by simp; omega)]
    intro e
    have e' : s[0] = 46 := Option.some.inj e
    exact h3 (by rw [e']; rfl)
  rw [List.take_of_length_le (by simp)] at h4
  simp [rightB, h1, h2, h4, hh]
theorem all_snoc (s : ByteArray) (k : Nat) (hk : k < s.size) (h : allB (s.data.toList.take k) = true) (h' : plainB s[k].toNat = true) : allB (s.data.toList.take (k + 1)) = true := by
  rw [List.take_succ_eq_append_getElem (by simpa using hk)]
  unfold allB at *
  rw [List.all_append, h, Bool.true_and, List.all_cons, List.all_nil, Bool.and_true]
  exact h'
theorem toList_ne (s : ByteArray) (h : 0 < s.size) : ¬ s.toList = [] ∧ s.toList.isEmpty = false ∧ (!s.toList.isEmpty) = true := by
  rw [ByteArray.toList_eq]
  have hl : s.data.toList.length = s.size := rfl
  have : s.data.toList ≠ [] := fun e => by rw [e] at hl; simp at hl; omega
  refine ⟨this, ?_, ?_⟩ <;> cases hc : s.data.toList <;> simp_all
theorem toList_eq_nil (s : ByteArray) (h : s.size = 0) : s.toList = [] := by
  rw [ByteArray.toList_eq]
  exact List.eq_nil_of_length_eq_zero (by simpa using h)

set_option maxRecDepth 100000 in
set_option maxHeartbeats 400000 in
theorem right_any (s : ByteArray) (w : World) (hs : s.size ≤ maxLen) :
    Calls Tryz.prog 57 #[.string s] w fun e w' => e = .returned (.bool (rightB s)) ∧ w = w' := by
  unfold maxLen at hs
  by_cases h1 : 1 ≤ s.size ∧ s.size ≤ 64
  · obtain ⟨h1, h64⟩ := h1
    have g0 : 0 < s.size := h1
    obtain ⟨n1, n2, n3⟩ := toList_ne s g0
    by_cases h2 : (s[0].toNat : Int) = 46
    · have hb : ((s[0].toNat : Int) == 46) = true := by rw [h2]; rfl
      have HF := Lib.hid (right_false_of_dot s g0 h2)
      clear h2
      go_enter Tryz.func57, Tryz.ntmps57
      go_wp2
      go_ret
      exact ⟨ret_bool HF.out.symm, rfl⟩
    · have hb : ((s[0].toNat : Int) == 46) = false := by rw [beq_eq_false_iff_ne]; exact h2
      have H2 := Lib.hid h2
      clear h2
      go_enter Tryz.func57, Tryz.ntmps57
      go_wp2
      go_loop [3, 18] (fun _ i => ∃ k : Nat, k ≤ s.size ∧ i = .int .i64 k ∧ Hid (allB (s.data.toList.take k) = true)) (fun _ i => s.size - (intOf i).toNat)
      case atStart => exact ⟨0, Nat.zero_le _, rfl, Lib.hid rfl⟩
      case round =>
        obtain ⟨k, hk, rfl, HA⟩ := hrel
        by_cases hlt : k < s.size
        · by_cases hp : plainB s[k].toNat = true
          · have HP := Lib.hid hp
            clear hp
            go_wp2_with (go_at_call 91; refine (plain_yes _ _ HP.out).mono ?_; rintro e w' ⟨rfl, rfl⟩)
            go_round
            case rel => exact ⟨k + 1, by omega, by go_num, Lib.hid (all_snoc s k hlt HA.out HP.out)⟩
            case measure => simp [intOf]; omega
          · have HP := Lib.hid (Bool.eq_false_iff.2 hp)
            clear hp
            go_wp2_with (go_at_call 91; refine (plain_no _ _ HP.out).mono ?_; rintro e w' ⟨rfl, rfl⟩)
            go_ret
            exact ⟨ret_bool (right_false_of_at s k hlt HP.out).symm, rfl⟩
        · have hkk : k = s.size := by omega
          have HK := Lib.hid hkk
          clear hkk
          go_wp2
          go_ret
          exact ⟨ret_bool (right_true s h1 h64 H2.out (HK.out ▸ HA.out)).symm, rfl⟩
  · have HF := Lib.hid (right_false_of_len s h1)
    by_cases h0 : s.size = 0
    · have n0 := toList_eq_nil s h0
      clear h1
      go_enter Tryz.func57, Tryz.ntmps57
      go_wp2
      go_ret
      exact ⟨ret_bool HF.out.symm, rfl⟩
    · have h64 : 64 < s.size := by omega
      obtain ⟨n1, n2, n3⟩ := toList_ne s (by omega)
      clear h0 h1
      go_enter Tryz.func57, Tryz.ntmps57
      go_wp2
      go_ret
      exact ⟨ret_bool HF.out.symm, rfl⟩
end Go.Proofs.YtcnedecmmplmoaaGreatDoor
