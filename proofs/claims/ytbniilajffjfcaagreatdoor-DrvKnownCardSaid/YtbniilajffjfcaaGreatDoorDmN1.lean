/- Contracts of plain and Right, of naming and of its reference. -/
import Derived.Test.YtbniilajffjfcaaGreatDoorRows
import Derived.WalkKit
import Derived.WalkSpells
import Derived.WalkLawsBesides
import Derived.Lib.Hide
import Derived.BigQuiet
import Derived.Deep.QuietTactic
import Derived.Laws.BitsAllLaws
import Derived.Lib.RabinKarpLaws
import Derived.IntWalk
import Derived.OwnWalk
import Derived.WalkSmall
import Derived.Laws.IdiomStrings
set_option linter.unusedVariables false
set_option linter.unusedSimpArgs false
namespace Go.Proofs.YtbniilajffjfcaaGreatDoor.Nam
open Go.RowKit

def plainB (c : Nat) : Bool := decide (97 ≤ c ∧ c ≤ 122) || decide (65 ≤ c ∧ c ≤ 90) || decide (48 ≤ c ∧ c ≤ 57) || decide (c = 43) || decide (c = 45) || decide (c = 46) || decide (c = 95)

theorem ret_bool {a b : Bool} (h : a = b) : Ending.returned (.bool a) = .returned (.bool b) := by rw [h]
theorem ret_int {k : IntKind} {a b : Int} (h : a = b) : Ending.returned (.int k a) = .returned (.int k b) := by rw [h]

set_option maxRecDepth 100000 in
set_option maxHeartbeats 400000 in
theorem plain_any (c : Nat) (w : World) :
    Calls Tryz.prog 47 #[.int .u8 (c : Int)] w fun e w' => e = .returned (.bool (plainB c)) ∧ w = w' := by
  go_enter Tryz.func47, Tryz.ntmps47
  go_wp2
  all_goals
    go_ret
    refine ⟨ret_bool ?_, rfl⟩
    rw [Bool.eq_iff_iff]
    simp [plainB]
    omega

theorem plain_no (c : Nat) (w : World) (h : plainB c = false) :
    Calls Tryz.prog 47 #[.int .u8 (c : Int)] w fun e w' => e = .returned (.bool false) ∧ w = w' :=
  h ▸ plain_any c w
theorem plain_yes (c : Nat) (w : World) (h : plainB c = true) :
    Calls Tryz.prog 47 #[.int .u8 (c : Int)] w fun e w' => e = .returned (.bool true) ∧ w = w' :=
  h ▸ plain_any c w

/-- Is a text a plain name? -/
def allB (l : List UInt8) : Bool := l.all (fun c => plainB c.toNat)
def rightB (s : ByteArray) : Bool := decide (1 ≤ s.size ∧ s.size ≤ 64) && allB s.data.toList && decide (s.data.toList.head? ≠ some 46)

theorem right_false_of_len (s : ByteArray) (h : ¬ (1 ≤ s.size ∧ s.size ≤ 64)) : rightB s = false := by simp [rightB, h]
theorem right_false_of_dot (s : ByteArray) (h0 : 0 < s.size) (h : (s[0].toNat : Int) = 46) : rightB s = false := by
  have hh : s.data.toList.head? = some 46 := by
    rw [List.head?_eq_getElem?, List.getElem?_eq_getElem (by simpa using h0)]
    have : s[0] = 46 := UInt8.toNat_inj.1 (by simpa using (by omega : s[0].toNat = 46))
    exact congrArg some this
  simp [rightB, hh]
theorem right_false_of_at (s : ByteArray) (k : Nat) (hk : k < s.size) (h : plainB s[k].toNat = false) : rightB s = false := by
  have : allB s.data.toList = false := by
    unfold allB
    rw [List.all_eq_false]
    exact ⟨s[k], List.getElem_mem (l := s.data.toList) (by simpa using hk), by simp [h]⟩
  simp [rightB, this]
theorem right_true (s : ByteArray) (h1 : 1 ≤ s.size) (h2 : s.size ≤ 64) (h3 : ¬ (s[0].toNat : Int) = 46) (h4 : allB (s.data.toList.take s.size) = true) : rightB s = true := by
  have hh : s.data.toList.head? ≠ some 46 := by
    rw [List.head?_eq_getElem?, List.getElem?_eq_getElem (by simp; omega)]
    intro e
    have e' : s[0] = 46 := Option.some.inj e
    exact h3 (by rw [e']; rfl)
  rw [List.take_of_length_le (by simp)] at h4
  simp [rightB, h1, h2, h4, hh]
theorem all_snoc (s : ByteArray) (k : Nat) (hk : k < s.size) (h : allB (s.data.toList.take k) = true) (h' : plainB s[k].toNat = true) : allB (s.data.toList.take (k + 1)) = true := by
  rw [List.take_succ_eq_append_getElem (by simpa using hk)]
  unfold allB at *
  rw [List.all_append, h, Bool.true_and, List.all_cons, List.all_nil, Bool.and_true]
  exact h'
theorem toList_ne (s : ByteArray) (h : 0 < s.size) : ¬ s.toList = [] ∧ s.toList.isEmpty = false ∧ (!s.toList.isEmpty) = true := by
  rw [ByteArray.toList_eq]
  have hl : s.data.toList.length = s.size := rfl
  have : s.data.toList ≠ [] := fun e => by rw [e] at hl; simp at hl; omega
  refine ⟨this, ?_, ?_⟩ <;> cases hc : s.data.toList <;> simp_all
theorem toList_eq_nil (s : ByteArray) (h : s.size = 0) : s.toList = [] := by
  rw [ByteArray.toList_eq]
  exact List.eq_nil_of_length_eq_zero (by simpa using h)

set_option maxRecDepth 100000 in
set_option maxHeartbeats 400000 in
theorem right_any (s : ByteArray) (w : World) (hs : s.size ≤ maxLen) :
    Calls Tryz.prog 23 #[.string s] w fun e w' => e = .returned (.bool (rightB s)) ∧ w = w' := by
  unfold maxLen at hs
  by_cases h1 : 1 ≤ s.size ∧ s.size ≤ 64
  · obtain ⟨h1, h64⟩ := h1
    have g0 : 0 < s.size := h1
    obtain ⟨n1, n2, n3⟩ := toList_ne s g0
    by_cases h2 : (s[0].toNat : Int) = 46
    · have hb : ((s[0].toNat : Int) == 46) = true := by rw [h2]; rfl
      have HF := Lib.hid (right_false_of_dot s g0 h2)
      clear h2
      go_enter Tryz.func23, Tryz.ntmps23
      go_wp2
      go_ret
      exact ⟨ret_bool HF.out.symm, rfl⟩
    · have hb : ((s[0].toNat : Int) == 46) = false := by rw [beq_eq_false_iff_ne]; exact h2
      have H2 := Lib.hid h2
      clear h2
      go_enter Tryz.func23, Tryz.ntmps23
      go_wp2
      go_loop [3, 18] (fun _ i => ∃ k : Nat, k ≤ s.size ∧ i = .int .i64 k ∧ Hid (allB (s.data.toList.take k) = true)) (fun _ i => s.size - (intOf i).toNat)
      case atStart => exact ⟨0, Nat.zero_le _, rfl, Lib.hid rfl⟩
      case round =>
        obtain ⟨k, hk, rfl, HA⟩ := hrel
        by_cases hlt : k < s.size
        · by_cases hp : plainB s[k].toNat = true
          · have HP := Lib.hid hp
            clear hp
            go_wp2_with (go_at_call 47; refine (plain_yes _ _ HP.out).mono ?_; rintro e w' ⟨rfl, rfl⟩)
            go_round
            case rel => exact ⟨k + 1, by omega, by go_num, Lib.hid (all_snoc s k hlt HA.out HP.out)⟩
            case measure => simp [intOf]; omega
          · have HP := Lib.hid (Bool.eq_false_iff.2 hp)
            clear hp
            go_wp2_with (go_at_call 47; refine (plain_no _ _ HP.out).mono ?_; rintro e w' ⟨rfl, rfl⟩)
            go_ret
            exact ⟨ret_bool (right_false_of_at s k hlt HP.out).symm, rfl⟩
        · have hkk : k = s.size := by omega
          have HK := Lib.hid hkk
          clear hkk
          go_wp2
          go_ret
          exact ⟨ret_bool (right_true s h1 h64 H2.out (HK.out ▸ HA.out)).symm, rfl⟩
  · have HF := Lib.hid (right_false_of_len s h1)
    by_cases h0 : s.size = 0
    · have n0 := toList_eq_nil s h0
      clear h1
      go_enter Tryz.func23, Tryz.ntmps23
      go_wp2
      go_ret
      exact ⟨ret_bool HF.out.symm, rfl⟩
    · have h64 : 64 < s.size := by omega
      obtain ⟨n1, n2, n3⟩ := toList_ne s (by omega)
      clear h0 h1
      go_enter Tryz.func23, Tryz.ntmps23
      go_wp2
      go_ret
      exact ⟨ret_bool HF.out.symm, rfl⟩
end Go.Proofs.YtbniilajffjfcaaGreatDoor.Nam

/- Contracts of the reference's Right. -/
namespace Go.Proofs.YtbniilajffjfcaaGreatDoor.Nam
open Go.RowKit

theorem right_false_of_at' (s : ByteArray) (k : Nat) (hk : k < s.size) (h : plainB s[k].toNat = false) : rightB s = false := right_false_of_at s k hk h
theorem plain_iff (c : Nat) : plainB c = true ↔ (97 ≤ (c : Int) ∧ (c : Int) ≤ 122) ∨ (65 ≤ (c : Int) ∧ (c : Int) ≤ 90) ∨ (48 ≤ (c : Int) ∧ (c : Int) ≤ 57) ∨ (c : Int) = 43 ∨ (c : Int) = 45 ∨ (c : Int) = 46 ∨ (c : Int) = 95 := by
  simp [plainB]
  omega
theorem plain_iff' (c : Nat) : plainB c = false ↔ ¬ ((97 ≤ (c : Int) ∧ (c : Int) ≤ 122) ∨ (65 ≤ (c : Int) ∧ (c : Int) ≤ 90) ∨ (48 ≤ (c : Int) ∧ (c : Int) ≤ 57) ∨ (c : Int) = 43 ∨ (c : Int) = 45 ∨ (c : Int) = 46 ∨ (c : Int) = 95) := by
  rw [← plain_iff, Bool.not_eq_true]

set_option maxRecDepth 100000 in
set_option maxHeartbeats 1000000 in
theorem refRight_any (s : ByteArray) (w : World) (hs : s.size ≤ maxLen) :
    Calls Tryz.prog 40 #[.string s] w fun e w' => e = .returned (.bool (rightB s)) ∧ w = w' := by
  unfold maxLen at hs
  go_enter Tryz.func40, Tryz.ntmps40
  go_wp2
  go_loop [3] (fun i => ∃ k : Nat, k ≤ s.size ∧ i = .int .i64 k ∧ Hid (allB (s.data.toList.take k) = true)) (fun i => s.size - (intOf i).toNat)
  case atStart => exact ⟨0, Nat.zero_le _, rfl, Lib.hid rfl⟩
  case round =>
    obtain ⟨k, hk, rfl, HA⟩ := hrel
    by_cases hlt : k < s.size ∧ k < 65
    · obtain ⟨hlt, hlt65⟩ := hlt
      go_wp2
      all_goals first
        | (go_ret
           refine ⟨ret_bool (right_false_of_at s k hlt ?_).symm, rfl⟩
           rw [plain_iff']
           simp only [bne_iff_ne, ne_eq] at *
           omega)
        | (have hp : plainB s[k].toNat = true := by
             rw [plain_iff]
             simp only [bne_eq_false_iff_eq] at *
             omega
           go_round
           case rel => exact ⟨k + 1, by omega, by go_num, Lib.hid (all_snoc s k hlt HA.out hp)⟩
           case measure => simp [intOf]; omega)
    · by_cases hkk : k = s.size
      · have HK := Lib.hid hkk
        clear hkk
        by_cases h1 : 1 ≤ s.size ∧ s.size ≤ 64
        · obtain ⟨h1, h64⟩ := h1
          have g0 : 0 < s.size := h1
          have HA' := Lib.hid (HK.out ▸ HA.out)
          by_cases h2 : (s[0].toNat : Int) = 46
          · have hb : ((s[0].toNat : Int) != 46) = false := by rw [h2]; rfl
            have HF := Lib.hid (right_false_of_dot s g0 h2)
            clear h2
            go_wp2
            go_ret
            exact ⟨ret_bool HF.out.symm, rfl⟩
          · have hb : ((s[0].toNat : Int) != 46) = true := by rw [bne_iff_ne]; exact h2
            have HF := Lib.hid (right_true s h1 h64 h2 (HK.out ▸ HA.out))
            clear h2
            go_wp2
            go_ret
            exact ⟨ret_bool HF.out.symm, rfl⟩
        · have HF := Lib.hid (right_false_of_len s h1)
          go_wp2
          all_goals
            go_ret
            exact ⟨ret_bool HF.out.symm, rfl⟩
      · have HF := Lib.hid (right_false_of_len s (by omega))
        have h64 : 64 < s.size := by omega
        have hlt' : k < s.size := by omega
        have hk65 : 65 ≤ k := by omega
        clear hkk hlt
        go_wp2
        go_ret
        exact ⟨ret_bool HF.out.symm, rfl⟩
end Go.Proofs.YtbniilajffjfcaaGreatDoor.Nam

/- Plain facts on bytes as numbers, and on letters of five bits. -/
namespace Go.Proofs.YtbniilajffjfcaaGreatDoor.Nam
open Go.RowKit

/-- The number of the first k bytes. -/
def num (d : Nat → Nat) : Nat → Nat
  | 0 => 0
  | k + 1 => num d k * 256 + d k

theorem num_div (d : Nat → Nat) (hd : ∀ i, d i < 256) (k m : Nat) : num d (k + m) / 256 ^ m = num d k := by
  induction m with
  | zero => simp
  | succ m ih =>
    rw [Nat.pow_succ, Nat.mul_comm, ← Nat.div_div_eq_div_mul]
    have : num d (k + (m + 1)) / 256 = num d (k + m) := by
      show (num d (k + m) * 256 + d (k + m)) / 256 = _
      have := hd (k + m)
      omega
    rw [this, ih]
theorem num_pre (d : Nat → Nat) (hd : ∀ i, d i < 256) (k : Nat) (hk : k ≤ 20) : num d k = num d 20 / 2 ^ (8 * (20 - k)) := by
  have := num_div d hd k (20 - k)
  rw [show k + (20 - k) = 20 from by omega] at this
  rw [← this, Nat.pow_mul]
theorem num_lt (d : Nat → Nat) (hd : ∀ i, d i < 256) (k : Nat) : num d k < 256 ^ k := by
  induction k with
  | zero => simp [num]
  | succ k ih =>
    show num d k * 256 + d k < 256 ^ (k + 1)
    have := hd k
    rw [Nat.pow_succ]
    omega
theorem num_mod (d : Nat → Nat) (hd : ∀ i, d i < 256) (k : Nat) : num d (k + 1) % 256 = d k := by
  show (num d k * 256 + d k) % 256 = d k
  have := hd k
  omega

theorem mod64_div (a n : Nat) (hn : n ≤ 59) : a % 18446744073709551616 / 2 ^ n % 32 = a / 2 ^ n % 32 := by
  rw [show (18446744073709551616 : Nat) = 2 ^ n * 2 ^ (64 - n) from by rw [← Nat.pow_add, show n + (64 - n) = 64 from by omega], Nat.mod_mul_right_div_self]
  exact Nat.mod_mod_of_dvd _ ⟨2 ^ (59 - n), by rw [show (32 : Nat) = 2 ^ 5 from rfl, ← Nat.pow_add]; congr 1; omega⟩

/-- The letters' values. -/
def letNo (M j : Nat) : Nat := M / 2 ^ (155 - 5 * j) % 32
theorem letNo_lt (M j : Nat) : letNo M j < 32 := Nat.mod_lt _ (by decide)

/-- The letter that the first k bytes tell when n bits are left. -/
theorem let_of (d : Nat → Nat) (hd : ∀ i, d i < 256) (k j n : Nat) (hk : k ≤ 20) (hn : n + 5 * (j + 1) = 8 * k) (hn' : n ≤ 59) : num d k % 18446744073709551616 / 2 ^ n % 32 = letNo (num d 20) j := by
  rw [mod64_div _ _ hn', num_pre d hd k hk, Nat.div_div_eq_div_mul, ← Nat.pow_add, letNo, show 8 * (20 - k) + n = 155 - 5 * j from by omega]

/-- The n-th bit. -/
def bitNo (M n : Nat) : Nat := M / 2 ^ (159 - n) % 2
theorem bit_of (d : Nat → Nat) (hd : ∀ i, d i < 256) (n : Nat) (hn : n < 160) : d (n / 8) / 2 ^ (7 - n % 8) % 2 = bitNo (num d 20) n := by
  have h := num_mod d hd (n / 8)
  rw [num_pre d hd (n / 8 + 1) (by omega)] at h
  rw [← h, bitNo, show 159 - n = 8 * (20 - (n / 8 + 1)) + (7 - n % 8) from by omega, Nat.pow_add, ← Nat.div_div_eq_div_mul]
  generalize num d 20 / 2 ^ (8 * (20 - (n / 8 + 1))) = y
  generalize hr : 7 - n % 8 = r
  have hr7 : r ≤ 7 := by omega
  rw [show (256 : Nat) = 2 ^ r * 2 ^ (8 - r) from by rw [← Nat.pow_add, show r + (8 - r) = 8 from by omega], Nat.mod_mul_right_div_self]
  exact Nat.mod_mod_of_dvd _ ⟨2 ^ (7 - r), by rw [← Nat.pow_succ']; congr 1; omega⟩
theorem bits_step (M a k : Nat) : M / 2 ^ a % 2 ^ (k + 1) = 2 * (M / 2 ^ (a + 1) % 2 ^ k) + M / 2 ^ a % 2 := by
  rw [Nat.pow_succ 2 a, ← Nat.div_div_eq_div_mul]
  generalize M / 2 ^ a = y
  rw [Nat.pow_succ, Nat.mul_comm (2 ^ k) 2, Nat.mod_mul]
  omega
/-- What k bits of the i-th letter are worth. -/
def preNo (M i k : Nat) : Nat := M / 2 ^ (160 - 5 * i - k) % 2 ^ k
theorem preNo_zero (M i : Nat) : preNo M i 0 = 0 := by simp [preNo, Nat.mod_one]
theorem preNo_succ (M i k : Nat) (hi : i < 32) (hk : k < 5) : preNo M i (k + 1) = 2 * preNo M i k + bitNo M (5 * i + k) := by
  have h := bits_step M (160 - 5 * i - (k + 1)) k
  rw [preNo, h, preNo, bitNo, show 160 - 5 * i - (k + 1) + 1 = 160 - 5 * i - k from by omega, show 159 - (5 * i + k) = 160 - 5 * i - (k + 1) from by omega]
theorem preNo_five (M i : Nat) (_hi : i < 32) : preNo M i 5 = letNo M i := by
  rw [preNo, letNo, show 160 - 5 * i - 5 = 155 - 5 * i from by omega]
theorem preNo_lt (M i k : Nat) (hk : k ≤ 5) : preNo M i k < 32 := by
  have h : preNo M i k < 2 ^ k := Nat.mod_lt _ (Nat.two_pow_pos k)
  have : 2 ^ k ≤ 2 ^ 5 := Nat.pow_le_pow_right (by decide) hk
  omega

def abc : List UInt8 := [48, 49, 50, 51, 52, 53, 54, 55, 56, 57, 97, 98, 99, 100, 102, 103, 104, 105, 106, 107, 108, 109, 110, 112, 113, 114, 115, 118, 119, 120, 121, 122]
/-- The letters of the number of 20 bytes. -/
def letters (M n : Nat) : List UInt8 := (List.range n).map fun j => abc.getD (letNo M j) 0
theorem letters_succ (M n : Nat) : letters M (n + 1) = letters M n ++ [abc.getD (letNo M n) 0] := by
  simp [letters, List.range_succ]
theorem letters_len (M n : Nat) : (letters M n).length = n := by simp [letters]

/-- An array of bytes. -/
def cells (d : Nat → Nat) (n : Nat) : List Value := (List.range n).map fun i => Value.int .u8 (d i : Int)
def digA (d : Nat → Nat) (n : Nat) : Array Value := (cells d n).toArray
theorem digA_size (d : Nat → Nat) (n : Nat) : (digA d n).size = n := by simp [digA, cells]
theorem digA_get (d : Nat → Nat) (n i : Nat) (h : i < n) : (digA d n)[i]? = some (.int .u8 (d i : Int)) := by
  simp [digA, cells, h]
theorem and_one_i64 (y : Int) (h0 : 0 ≤ y) (h1 : y < 256) : bits BinOp.and IntKind.i64 (wrap64 y) 1 = ((y.toNat % 2 : Nat) : Int) := by
  obtain ⟨n, rfl⟩ := Int.eq_ofNat_of_zero_le h0
  have : wrap64 (n : Int) = n := by unfold wrap64; omega
  rw [this]
  exact and_one n (by omega)
theorem cast_div (x r : Nat) : (x : Int) / 2 ^ r = ((x / 2 ^ r : Nat) : Int) := by push_cast; rfl
end Go.Proofs.YtbniilajffjfcaaGreatDoor.Nam

/- Contracts of the reference's bit, Of20 and Letters. -/
namespace Go.Proofs.YtbniilajffjfcaaGreatDoor.Nam
open Go.RowKit

theorem i64_id (n : Int) (h0 : -9223372036854775808 ≤ n) (h1 : n ≤ 9223372036854775807) : wrap64 n = n := by unfold wrap64; omega

set_option maxRecDepth 100000 in
set_option maxHeartbeats 400000 in
theorem bit_any (d : Nat → Nat) (hd : ∀ i, d i < 256) (b : Nat) (cap : Nat) (n : Nat) (w : World) (hn : n < 160) (hc : w.cell? ⟨b, n / 8, none⟩ = some (.int .u8 (d (n / 8) : Int))) :
    Calls Tryz.prog 98 #[.slice (some ⟨b, 0, none⟩) 20 cap, .int .i64 (n : Int)] w fun e w' => e = .returned (.int .i64 (bitNo (num d 20) n : Int)) ∧ w = w' := by
  have h8 : n / 8 < 20 := by omega
  have HB := Lib.hid (bit_of d hd n hn)
  have hx := hd (n / 8)
  clear hd
  generalize d (n / 8) = x at *
  go_enter Tryz.func98, Tryz.ntmps98
  go_wp2
  go_ret
  refine ⟨ret_int ?_, rfl⟩
  have hle : x / 2 ^ (7 - n % 8) ≤ x := Nat.div_le_self _ _
  rw [← HB.out, cast_div, and_one_i64 _ (Int.natCast_nonneg _) (Int.ofNat_lt.2 (Nat.lt_of_le_of_lt hle hx)), Int.toNat_natCast]

theorem bit_at (d : Nat → Nat) (hd : ∀ i, d i < 256) (b : Nat) (cap : Nat) (m : Int) (n : Nat) (w : World) (hm : m = (n : Int)) (hn : n < 160) (hc : w.cell? ⟨b, n / 8, none⟩ = some (.int .u8 (d (n / 8) : Int))) :
    Calls Tryz.prog 98 #[.slice (some ⟨b, 0, none⟩) 20 cap, .int .i64 m] w fun e w' => e = .returned (.int .i64 (bitNo (num d 20) n : Int)) ∧ w = w' :=
  hm ▸ bit_any d hd b cap n w hn hc

/-- A slice over a block of 20 bytes. -/
def Has20 (w : World) (b : Nat) (d : Nat → Nat) : Prop := ∀ i, i < 20 → w.cell? ⟨b, i, none⟩ = some (.int .u8 (d i : Int))

def strOf (l : List UInt8) : ByteArray := ⟨l.toArray⟩
theorem strOf_size (l : List UInt8) : (strOf l).size = l.length := by simp [strOf, ByteArray.size]
theorem str_ext {a b : ByteArray} (h : a.data.toList = b.data.toList) : a = b := by
  cases a; cases b; simp at h; rw [h]
theorem abc_at (l : List UInt8) (v : Nat) (h : v < 32) : (strOf l ++ ByteArray.extract ⟨#[48, 49, 50, 51, 52, 53, 54, 55, 56, 57, 97, 98, 99, 100, 102, 103, 104, 105, 106, 107, 108, 109, 110, 112, 113, 114, 115, 118, 119, 120, 121, 122]⟩ v (v + 1)) = strOf (l ++ [abc.getD v 0]) := by
  have e : ∀ v : Fin 32, (ByteArray.extract ⟨#[48, 49, 50, 51, 52, 53, 54, 55, 56, 57, 97, 98, 99, 100, 102, 103, 104, 105, 106, 107, 108, 109, 110, 112, 113, 114, 115, 118, 119, 120, 121, 122]⟩ v.val (v.val + 1)).data.toList = [abc.getD v.val 0] := by decide +kernel
  apply str_ext
  rw [ByteArray.data_append, Array.toList_append, e ⟨v, h⟩]
  simp [strOf]

set_option maxRecDepth 100000 in
set_option maxHeartbeats 400000 in
theorem of20_any (d : Nat → Nat) (hd : ∀ i, d i < 256) (b : Nat) (cap : Nat) (w : World) (hc : Has20 w b d) :
    Calls Tryz.prog 78 #[.slice (some ⟨b, 0, none⟩) 20 cap] w fun e w' => e = .returned (.string (strOf (letters (num d 20) 32))) ∧ w = w' := by
  have HC := Lib.hid hc
  clear hc
  have HD := Lib.hid hd
  clear hd
  go_enter Tryz.func78, Tryz.ntmps78
  go_wp2
  go_loop [3, 4] (fun s i => ∃ k : Nat, k ≤ 32 ∧ i = .int .i64 k ∧ s = .string (strOf (letters (num d 20) k))) (fun _ i => 32 - (intOf i).toNat)
  case atStart => exact ⟨0, by omega, rfl, rfl⟩
  case round =>
    obtain ⟨k, hk, rfl, rfl⟩ := hrel
    by_cases hlt : k < 32
    · go_wp2
      go_loop [5, 6] (fun v i => ∃ j : Nat, j ≤ 5 ∧ i = .int .i64 j ∧ v = .int .i64 (preNo (num d 20) k j : Int)) (fun _ i => 5 - (intOf i).toNat)
      case atStart => exact ⟨0, by omega, rfl, by rw [preNo_zero]; rfl⟩
      case round =>
        obtain ⟨j, hj, rfl, rfl⟩ := hrel
        by_cases hjlt : j < 5
        · have hp := preNo_lt (num d 20) k j hj
          go_wp2_with fail
          refine (bit_at d HD.out b cap _ (5 * k + j) _ (by omega) (by omega) (HC.out _ (by omega))).mono ?_
          rintro e w' ⟨rfl, rfl⟩
          have hb : bitNo (num d 20) (5 * k + j) < 2 := Nat.mod_lt _ (by decide)
          have HS := Lib.hid (preNo_succ (num d 20) k j hlt hjlt)
          go_wp2
          go_round
          case rel => exact ⟨j + 1, by omega, by go_num, by rw [HS.out]; go_num⟩
          case measure => simp [intOf]; omega
        · have hj5 : j = 5 := by omega
          have hp := preNo_lt (num d 20) k j hj
          have HP := Lib.hid (show preNo (num d 20) k j = letNo (num d 20) k by rw [hj5]; exact preNo_five _ _ hlt)
          clear hj5
          have hvl := letNo_lt (num d 20) k
          have hsz : (strOf (letters (num d 20) k)).size ≤ 32 := by rw [strOf_size, letters_len]; exact hk
          have HE := Lib.hid (show _ = strOf (letters (num d 20) (k + 1)) from (abc_at (letters (num d 20) k) _ hvl).trans (by rw [letters_succ]))
          rw [← HP.out] at HE
          clear hvl
          generalize preNo (num d 20) k j = v at *
          go_wp2
          go_round
          case rel => exact ⟨k + 1, by omega, by go_num, congrArg Value.string HE.out⟩
          case measure => simp [intOf]; omega
    · have HK := Lib.hid (show k = 32 by omega)
      go_wp2
      go_ret
      exact ⟨congrArg (fun n => Ending.returned (.string (strOf (letters (num d 20) n)))) HK.out, rfl⟩
end Go.Proofs.YtbniilajffjfcaaGreatDoor.Nam

/- Contracts of the reference's Letters. -/
namespace Go.Proofs.YtbniilajffjfcaaGreatDoor.Nam
open Go.RowKit

theorem infoU8 : (Tryz.prog.info? 5).map (fun i => (i.zero, i.size, i.bytes)) = some (some (.int .u8 0), 1, 1) := by kernel_rfl
theorem cells_succ (d : Nat → Nat) (k : Nat) : cells d (k + 1) = cells d k ++ [Value.int .u8 (d k : Int)] := by simp [cells, List.range_succ]
theorem cells_len (d : Nat → Nat) (k : Nat) : (cells d k).length = k := by simp [cells]
theorem cells_get (d : Nat → Nat) (n i : Nat) (h : i < n) : (cells d n)[i]? = some (.int .u8 (d i : Int)) := by simp [cells, h]

theorem own_has {wr : World} {base : Nat} {E : TypeId} {v : Value} {d : Nat → Nat} (hown : wr.ownsRow base E 1 v 20 (cells d 20)) :
    ∃ g cap, v = .slice (some ⟨g, 0, none⟩) 20 cap ∧ Has20 wr g d ∧ base ≤ g := by
  obtain ⟨hl, ⟨rfl, h0⟩ | ⟨g, cap, cur, rfl, hg, hgg, hn, hcm, hcs, htk⟩⟩ := hown
  · omega
  · refine ⟨g, cap, rfl, fun i hi => ?_, hg⟩
    have h1 : wr.cell? ⟨g, i, none⟩ = cur[i]? := by simp [World.cell?, hgg]
    have := cells_get d 20 i hi
    rw [← htk, List.getElem?_take_of_lt (by omega)] at this
    rw [h1]
    simpa using this

set_option maxRecDepth 100000 in
set_option maxHeartbeats 400000 in
theorem refLetters_any (d : Nat → Nat) (hd : ∀ i, d i < 256) (w : World) :
    Calls Tryz.prog 63 #[.agg (digA d 32)] w fun e w' => e = .returned (.string (strOf (letters (num d 20) 32))) ∧ Below w.heap.size w w' := by
  obtain ⟨i0, hi, hz0, hz1, hz2⟩ := info_parts infoU8
  have HD := Lib.hid hd
  clear hd
  go_enter Tryz.func63, Tryz.ntmps63
  go_wp2
  go_loopw [3, 4] (fun v i wr => ∃ k : Nat, k ≤ 20 ∧ i = .int .i64 k ∧ wr.ownsRow (w.heap.size + 1) 5 1 v k (cells d k) ∧ Below (w.heap.size + 1) (w.alloc (.cells (digA d 32) 24)) wr) (fun _ i _ => 20 - (intOf i).toNat)
  case atStart => exact ⟨0, by omega, rfl, World.ownsRow_nil _ _ _ _, Below.refl _ _⟩
  case round =>
    obtain ⟨k, hk, rfl, hown, hb⟩ := hrel
    have hsz := hb.size
    simp only [World.size_alloc] at hsz
    by_cases hlt : k < 20
    · have hcell : wr.cell? ⟨w.heap.size, k, none⟩ = some (.int .u8 (d k : Int)) := by
        rw [hb.cell (p := ⟨w.heap.size, k, none⟩) (by simp), World.cell?_alloc_at _ _ _ _ rfl]
        exact digA_get d 32 k (by omega)
      go_wp2_with (at_builtin; refine wpList_append_own _ rfl _ _ 26 rfl (w.heap.size + 1) 5 i0 (.int .u8 0) 1 1 Tryz.underlying26 hi hz0 hz1 hz2 rfl (by decide) _ _ _ rfl (hown.alloc _) ⟨wr.heap.size, 0, none⟩ 1 1 [.int .u8 (d k : Int)] rfl rfl ?c1 ?c2 ?c3 ?c4 ?c5 ?_)
      case c1 =>
        intro j u hj
        match j, hj with
        | 0, hj => simp at hj; subst hj; simp [Addr.add]
      case c2 => intro u hu; simp at hu; subst hu; rfl
      case c3 => unfold maxLen; omega
      case c4 => omega
      case c5 => simp; omega
      intro v' w1 hown' hgrow _
      rw [← cells_succ] at hown'
      have hb' := ((hb.alloc (by omega) _).grown hgrow (by simp; omega) (fun g hg => (hown.lt g hg).1))
      clear hown hb hgrow hcell
      go_wp2
      go_roundw
      case rel => exact ⟨k + 1, by omega, by go_num, hown', hb'⟩
      case measure => simp [intOf]; omega
    · obtain rfl : k = 20 := by omega
      obtain ⟨g, cap, hv, hhas, hg⟩ := own_has hown
      clear hown
      rw [hv]
      go_wp2_with fail
      refine (of20_any d HD.out g cap _ hhas).mono ?_
      rintro e w' ⟨rfl, rfl⟩
      go_wp2
      go_ret
      exact ⟨rfl, (((Below.refl _ _).alloc (Nat.le_refl _) _).trans (hb.mono (by omega)))⟩
end Go.Proofs.YtbniilajffjfcaaGreatDoor.Nam

/- Contracts of naming's Letters. -/
namespace Go.Proofs.YtbniilajffjfcaaGreatDoor.Nam
open Go.RowKit

def letC (M j : Nat) : List Value := (letters M j).map fun c => Value.int .u8 (c.toNat : Int)
def mod64 (a : Nat) : Nat := a % 18446744073709551616

theorem mod64_lt (a : Nat) : mod64 a < 18446744073709551616 := Nat.mod_lt _ (by decide)
theorem wrap_u64_nat (n : Nat) : IntKind.u64.wrap (n : Int) = (mod64 n : Int) := by rw [IntKind.wrap_u64]; unfold mod64; omega
theorem or_byte (a c : Nat) (hc : c < 256) : bits BinOp.or IntKind.u64 (IntKind.u64.wrap ((mod64 a : Int) * 256)) (IntKind.u64.wrap (c : Int)) = (mod64 (a * 256 + c) : Int) := by
  have e1 : ((mod64 a : Int) * 256) = ((mod64 a * 256 : Nat) : Int) := by omega
  have h1 : mod64 c = c := by unfold mod64; omega
  have h2 : mod64 (mod64 a * 256) % 2 ^ 8 = 0 := by unfold mod64; omega
  rw [e1, wrap_u64_nat, wrap_u64_nat, h1, u64_or_nat _ _ (mod64_lt _) (by omega), nat_join 8 _ _ h2 (by omega)]
  unfold mod64
  omega
theorem and31 (y : Nat) (h : y < 18446744073709551616) : bits BinOp.and IntKind.u64 (y : Int) 31 = ((y % 32 : Nat) : Int) := by
  rw [show (31 : Int) = ((31 : Nat) : Int) from rfl, u64_and_nat _ _ h (by omega), nat_mask5]

theorem abc_idx (x : Nat) (h : x < (ByteArray.mk #[48, 49, 50, 51, 52, 53, 54, 55, 56, 57, 97, 98, 99, 100, 102, 103, 104, 105, 106, 107, 108, 109, 110, 112, 113, 114, 115, 118, 119, 120, 121, 122]).size) : ((ByteArray.mk #[48, 49, 50, 51, 52, 53, 54, 55, 56, 57, 97, 98, 99, 100, 102, 103, 104, 105, 106, 107, 108, 109, 110, 112, 113, 114, 115, 118, 119, 120, 121, 122])[x]).toNat = (abc.getD x 0).toNat := by
  have e : ∀ v : Fin 32, ((ByteArray.mk #[48, 49, 50, 51, 52, 53, 54, 55, 56, 57, 97, 98, 99, 100, 102, 103, 104, 105, 106, 107, 108, 109, 110, 112, 113, 114, 115, 118, 119, 120, 121, 122])[v.val]'(v.isLt)).toNat = (abc.getD v.val 0).toNat := by decide +kernel
  exact e ⟨x, h⟩
theorem letC_succ (M j : Nat) : letC M (j + 1) = letC M j ++ [Value.int .u8 ((abc.getD (letNo M j) 0).toNat : Int)] := by simp [letC, letters_succ]
theorem idx_of (d : Nat → Nat) (hd : ∀ i, d i < 256) (k j q : Nat) (hk : k < 20) (h : q + 5 + 5 * j = 8 * (k + 1)) (hq : q < 13) : bits BinOp.and IntKind.u64 ((mod64 (num d (k + 1)) : Int) / 2 ^ q) 31 = (letNo (num d 20) j : Int) := by
  rw [cast_div, and31 _ (Nat.lt_of_le_of_lt (Nat.div_le_self _ _) (mod64_lt _))]
  exact congrArg Int.ofNat (let_of d hd (k + 1) j q (by omega) (by omega) (by omega))

theorem convert_own {P : Program} {wr : World} {base : Nat} {E src dst : TypeId} {v : Value} {l : List UInt8} (hown : wr.ownsRow base E 1 v l.length (l.map fun c => Value.int .u8 (c.toNat : Int)))
    (hs : P.underlying src = some (.slice E)) (he : P.underlying E = some (.int .u8)) (hd : P.underlying dst = some .string) :
    (convert src dst v).run P wr = .ok (.string (strOf l)) wr := by
  obtain ⟨hl, ⟨rfl, h0⟩ | ⟨g, cap, cur, rfl, hg, hgg, hn, hcm, hcs, htk⟩⟩ := hown
  · have : l = [] := List.eq_nil_of_length_eq_zero h0
    subst this
    rw [run_convert_bytes_string wr src dst E none 0 0 hs he hd]
    simp [Conv.bytesToString, strOf]
    rfl
  · refine run_convert_bytes_back wr src dst E ⟨g, 0, none⟩ cap l hs he hd fun j hj => ?_
    have h1 : wr.cell? ((⟨g, 0, none⟩ : Addr).add j) = cur[j]? := by
      unfold Addr.add
      split
      · rename_i h; subst h; simp [World.cell?, hgg]
      · simp [World.cell?, hgg]
    have : (l.map fun c => Value.int .u8 (c.toNat : Int))[j]? = some (.int .u8 (l[j].toNat : Int)) := by simp [List.getElem?_eq_getElem hj]
    rw [← htk, List.getElem?_take_of_lt (by omega)] at this
    rw [h1]
    simpa using this

set_option maxRecDepth 100000 in
set_option maxHeartbeats 400000 in
theorem letters_any (d : Nat → Nat) (hd : ∀ i, d i < 256) (w : World) :
    Calls Tryz.prog 4 #[.agg (digA d 32)] w fun e w' => e = .returned (.string (strOf (letters (num d 20) 32))) ∧ Below w.heap.size w w' := by
  have HD := Lib.hid hd
  clear hd
  obtain ⟨i0, hi, hz0, hz1, hz2⟩ := info_parts infoU8
  go_enter Tryz.func4, Tryz.ntmps4
  go_wp2_with (at_make; refine wpList_make_own _ rfl _ _ 26 rfl (w.heap.size + 1) 5 i0 (.int .u8 0) 1 Tryz.underlying26 hi hz0 hz1 .i64 .i64 _ 32 rfl rfl rfl ?m1 ?m2 ?m3 ?_)
  case m1 => omega
  case m2 => unfold maxLen; omega
  case m3 => simp
  intro w1 hown hg
  have hb := (Below.refl (w.heap.size + 1) (w.alloc (.cells (digA d 32) 24))).grown hg (by simp) (fun _ h => by cases h)
  clear hg
  go_wp2
  go_loopw [3, 4, 5, 11] (fun v b n i wr => ∃ k j m : Nat, k ≤ 20 ∧ j ≤ 32 ∧ m < 5 ∧ m + 5 * j = 8 * k ∧ i = .int .i64 k ∧ n = .int .i64 m ∧ b = .int .u64 (mod64 (num d k) : Int) ∧ wr.ownsRow (w.heap.size + 1) 5 1 v j (letC (num d 20) j) ∧ Below (w.heap.size + 1) (w.alloc (.cells (digA d 32) 24)) wr) (fun _ _ _ i _ => 20 - (intOf i).toNat)
  case atStart => exact ⟨0, 0, 0, by omega, by omega, by omega, by omega, rfl, rfl, rfl, hown, hb⟩
  case round =>
    obtain ⟨k, j, m, hk, hj, hm, hmj, rfl, rfl, rfl, hown, hb⟩ := hrel
    have hsz := hb.size
    simp only [World.size_alloc] at hsz
    by_cases hlt : k < 20
    · have hcell : wr.cell? ⟨w.heap.size, k, none⟩ = some (.int .u8 (d k : Int)) := by
        rw [hb.cell (p := ⟨w.heap.size, k, none⟩) (by simp), World.cell?_alloc_at _ _ _ _ rfl]
        exact digA_get d 32 k (by omega)
      have hdk : decide ((k : Int) < 20) = true := by simp; omega
      have HM := Lib.hid hmj
      clear hmj
      have eb := or_byte (num d k) (d k) (HD.out k)
      rw [show num d k * 256 + d k = num d (k + 1) from rfl] at eb
      go_wp2
      go_loopw [3, 5] (fun v n wr => ∃ j m : Nat, j ≤ 32 ∧ m < 13 ∧ Hid (m + 5 * j = 8 * (k + 1)) ∧ n = .int .i64 m ∧ wr.ownsRow (w.heap.size + 1) 5 1 v j (letC (num d 20) j) ∧ Below (w.heap.size + 1) (w.alloc (.cells (digA d 32) 24)) wr) (fun _ n _ => (intOf n).toNat)
      case atStart => exact ⟨j, m + 8, by omega, by omega, Lib.hid (by have := HM.out; omega), by go_num, hown, hb⟩
      case round =>
        clear hown hb hcell eb
        obtain ⟨j, m, hj, hm, HM, rfl, hown, hb⟩ := hrel
        by_cases hm5 : 5 ≤ m
        · obtain ⟨q, rfl⟩ : ∃ q, m = q + 5 := ⟨m - 5, by omega⟩
          have eI := idx_of d HD.out k j q hlt (by have := HM.out; omega) (by omega)
          have hx := letNo_lt (num d 20) j
          have HS := Lib.hid (letC_succ (num d 20) j)
          have hj32 : j < 32 := by have := HM.out; omega
          generalize letNo (num d 20) j = x at *
          go_wp2_with (at_builtin; refine wpList_append_own _ rfl _ _ 26 rfl (w.heap.size + 1) 5 i0 (.int .u8 0) 1 1 Tryz.underlying26 hi hz0 hz1 hz2 rfl (by decide) _ _ _ rfl (hown.alloc _) ⟨wr.heap.size, 0, none⟩ 1 1 [.int .u8 ((ByteArray.mk #[48, 49, 50, 51, 52, 53, 54, 55, 56, 57, 97, 98, 99, 100, 102, 103, 104, 105, 106, 107, 108, 109, 110, 112, 113, 114, 115, 118, 119, 120, 121, 122])[x].toNat : Int)] rfl rfl ?c1 ?c2 ?c3 ?c4 ?c5 ?_)
          case c1 =>
            intro j u hj
            match j, hj with
            | 0, hj => simp at hj; subst hj; simp [Addr.add]
          case c2 => intro u hu; simp at hu; subst hu; rfl
          case c3 => unfold maxLen; omega
          case c4 => omega
          case c5 => have := hb.size; simp at this; simp; omega
          intro v' w1 hown' hgrow _
          rw [abc_idx, ← HS.out] at hown'
          have hb' := ((hb.alloc (by have := hb.size; simp at this; omega) _).grown hgrow (by have := hb.size; simp at this; simp; omega) (fun g hg => (hown.lt g hg).1))
          clear hown hb hgrow eI
          go_wp2
          go_roundw
          case rel =>
            exact ⟨j + 1, q, by omega, by omega, Lib.hid (by have := HM.out; omega), by go_num, hown', hb'⟩
          case measure => simp [intOf]; omega
        · go_wp2
          go_roundw
          case rel => exact ⟨k + 1, j, m, by omega, by omega, by omega, HM.out, by go_num, rfl, rfl, hown, hb⟩
          case measure => simp [intOf]; omega
    · obtain rfl : k = 20 := by omega
      obtain rfl : j = 32 := by omega
      have hcv := convert_own (P := Tryz.prog) (src := 26) (dst := 9) (l := letters (num d 20) 32) (by rw [letters_len]; exact hown) Tryz.underlying26 Tryz.underlying5 Tryz.underlying9
      clear hmj
      go_wp2
      go_ret
      exact ⟨rfl, (((Below.refl _ _).alloc (Nat.le_refl _) _).trans (hb.mono (by omega)))⟩
end Go.Proofs.YtbniilajffjfcaaGreatDoor.Nam
