/- The contracts of get, Byte, Short, Word, Long, Raw, Left, Bad, and of the reference's Number. -/
import Derived.Test.YtohojfgceaajfaaFldD
namespace Go.Proofs.Ytohojfgceaajfaa
open Go.RowKit

/-- The number of k bytes. -/
def numV (d : Nat → Nat) : Nat → Nat
  | 0 => 0
  | k + 1 => numV d k * 256 + d k
theorem numV_lt (d : Nat → Nat) (hd : ∀ i, d i < 256) (k : Nat) : numV d k < 256 ^ k := by
  induction k with
  | zero => simp [numV]
  | succ k ih =>
    have := hd k
    rw [numV, Nat.pow_succ]
    omega
theorem numV_le8 (d : Nat → Nat) (hd : ∀ i, d i < 256) (k : Nat) (hk : k ≤ 8) : numV d k < 18446744073709551616 :=
  Nat.lt_of_lt_of_le (numV_lt d hd k) (show 256 ^ k ≤ 256 ^ 8 from Nat.pow_le_pow_right (by decide) hk)
theorem numV_or (d : Nat → Nat) (hd : ∀ i, d i < 256) (k : Nat) (hk : k < 8) : bits .or .u64 (IntKind.u64.wrap ((numV d k : Int) * 256)) (IntKind.u64.wrap (d k : Int)) = (numV d (k + 1) : Int) := by
  have h1 : numV d k < 2 ^ 56 := Nat.lt_of_lt_of_le (numV_lt d hd k) (show 256 ^ k ≤ 256 ^ 7 from Nat.pow_le_pow_right (by decide) (by omega))
  have h2 := hd k
  have h3 : IntKind.u64.wrap ((numV d k : Int) * 256) = ((numV d k * 256 : Nat) : Int) := by rw [IntKind.wrap_u64]; omega
  have h4 : IntKind.u64.wrap (d k : Int) = (d k : Int) := by rw [IntKind.wrap_u64]; omega
  rw [h3, h4, u64_or_nat _ _ (by omega) (by omega), numV, Nat.mul_comm]
  congr 1
  exact (Nat.two_pow_add_eq_or_of_lt (show d k < 2 ^ 8 by omega) _).symm
theorem numV_congr (d e : Nat → Nat) (k : Nat) (h : ∀ i, i < k → d i = e i) : numV d k = numV e k := by
  induction k with
  | zero => rfl
  | succ k ih => rw [numV, numV, ih fun i hi => h i (by omega), h k (by omega)]

set_option maxHeartbeats 400000 in
theorem refNumber_any (A : Option Addr) (k c : Nat) (d : Nat → Nat) (hd : ∀ i, d i < 256) (hk : k ≤ 8) (w : World) (B : Nat) (hr : Holds w B A k d) :
    Calls Try.prog 17 #[.slice A k c] w fun e w' => e = .returned (.int .u64 (numV d k : Int)) ∧ w = w' := by
  have HD := Lib.hid hd
  have HR := Lib.hid hr
  clear hd hr
  go_enter Try.func17, Try.ntmps17
  go_wp2_with fail
  go_loop [3, 4] (fun r i => ∃ j : Nat, j ≤ k ∧ i = .int .i64 j ∧ r = .int .u64 (numV d j : Int)) (fun _ i => k - (intOf i).toNat)
  case atStart => exact ⟨0, Nat.zero_le _, rfl, rfl⟩
  case round =>
    obtain ⟨j, hj, rfl, rfl⟩ := hrel
    by_cases hlt : j < k
    · obtain ⟨ad, rfl, hl, hc⟩ := HR.out (by omega)
      have hcell := hc j hlt
      have hor := numV_or d HD.out j (by omega)
      clear hc
      go_wp2_with fail
      go_round
      case rel => exact ⟨j + 1, by omega, by go_num, rfl⟩
      case measure => simp [intOf]; omega
    · obtain rfl : j = k := by omega
      go_wp2_with fail
      go_ret
      exact ⟨rfl, rfl⟩

/-- What a reader answers of a number of k bytes: its value, and what is left. -/
def Got (w : World) (g n k : Nat) (d : Nat → Nat) (bad : Bool) (val : Nat → Ending) (e : Ending) (w' : World) : Prop :=
  KeptBut w w' g none ∧ if bad = false ∧ k ≤ n then e = val (numV d k) ∧ Rd w' g (n - k) (shiftD k d) false else e = val 0 ∧ Rd w' g 0 (fun _ => 0) true
theorem Rd.zero {w : World} {g : Nat} {d e : Nat → Nat} {bad : Bool} (h : Rd w g 0 d bad) : Rd w g 0 e bad := by
  obtain ⟨A, cap, h0, _, h2⟩ := h
  exact ⟨A, cap, h0, fun h => absurd h (by omega), h2⟩

set_option maxRecDepth 100000 in
set_option maxHeartbeats 1000000 in
theorem get_1 (w : World) (g n : Nat) (d : Nat → Nat) (bad : Bool) (hd : ∀ i, d i < 256) (hR : Rd w g n d bad) (hb : bad = true → n = 0) :
    Calls Try.prog 33 #[.pointer (some ⟨g, 0, none⟩), .int .i64 1] w fun e w' => Got w g n 1 d bad (fun x => .returned (.iface 5 (.int .u8 (x : Int)))) e w' := by
  have HD := Lib.hid hd
  clear hd
  by_cases hok : bad = false ∧ 1 ≤ n
  · obtain ⟨rfl, hk⟩ := hok
    have HT := Lib.hid (take_ok 1 w g n d hR hk)
    have hm0 : (numV d 1 : Int) % 256 = (numV d 1 : Int) := by have := numV_lt d HD.out 1; omega
    have HN := Lib.hid hk
    clear hR hb hk
    go_enter Try.func33, Try.ntmps33
    go_wp2_with fail
    refine HT.out.mono ?_
    rintro e w1 ⟨A, c, rfl, hr, hkc, hcm, hA, hR1, hkb⟩
    have HR := Lib.hid hr
    have HR1 := Lib.hid hR1
    have HKB := Lib.hid hkb
    unfold maxLen at hcm
    clear hr hA hR1 hkb
    go_wp2_with fail
    go_loop [5, 12] (fun r i => ∃ j : Nat, j ≤ 1 ∧ i = .int .i64 j ∧ r = .int .u64 (numV d j : Int)) (fun _ i => 1 - (intOf i).toNat)
    case atStart => exact ⟨0, Nat.zero_le _, rfl, rfl⟩
    case round =>
      obtain ⟨j, hj, rfl, rfl⟩ := hrel
      by_cases hlt : j < 1
      · obtain ⟨ad, rfl, hl, hc⟩ := HR.out (by omega)
        have hcell := hc j hlt
        have hor := numV_or d HD.out j (by omega)
        clear hc hm0
        go_wp2_with fail
        go_round
        case rel => exact ⟨j + 1, by omega, by go_num, rfl⟩
        case measure => simp [intOf]; omega
      · obtain rfl : j = 1 := by omega
        go_wp2_with fail
        go_ret
        exact ⟨HKB.out, by rw [if_pos ⟨rfl, HN.out⟩]; exact ⟨rfl, HR1.out⟩⟩
  · have HNO := Lib.hid hok
    cases bad with
    | false =>
      have HT := Lib.hid (take_no 1 w g n d hR (.inr (by simp at hok; omega)))
      have HNN : Hid (n < 1) := Lib.hid (by simp at hok; omega)
      clear hR hb hok HNO
      go_enter Try.func33, Try.ntmps33
      go_wp2_with fail
      refine HT.out.mono ?_
      rintro e w1 ⟨rfl, hR1, hkb⟩
      have HR1 := Lib.hid hR1
      have HKB := Lib.hid hkb
      clear hR1 hkb
      go_wp2_with fail
      go_loop [5, 12] (fun r i => i = .int .i64 0 ∧ r = .int .u64 0) (fun _ _ => 0)
      case atStart => exact ⟨rfl, rfl⟩
      case round =>
        obtain ⟨rfl, rfl⟩ := hrel
        go_wp2_with fail
        go_ret
        exact ⟨HKB.out, by rw [if_neg (fun h => by have := HNN.out; have := h.2; omega)]; exact ⟨rfl, HR1.out⟩⟩
    | true =>
      obtain rfl := hb rfl
      have HT := Lib.hid (take_bad 1 w g d hR)
      have HR1 := Lib.hid hR
      clear hR hb hok HNO
      go_enter Try.func33, Try.ntmps33
      go_wp2_with fail
      refine HT.out.mono ?_
      rintro e w1 ⟨rfl, rfl⟩
      go_wp2_with fail
      go_loop [5, 12] (fun r i => i = .int .i64 0 ∧ r = .int .u64 0) (fun _ _ => 0)
      case atStart => exact ⟨rfl, rfl⟩
      case round =>
        obtain ⟨rfl, rfl⟩ := hrel
        go_wp2_with fail
        go_ret
        exact ⟨KeptBut.refl _ _ _, by rw [if_neg (fun h => by cases h.1)]; exact ⟨rfl, HR1.out.zero⟩⟩

theorem rByte_any (w : World) (g n : Nat) (d : Nat → Nat) (bad : Bool) (hd : ∀ i, d i < 256) (hR : Rd w g n d bad) (hb : bad = true → n = 0) :
    Calls Try.prog 26 #[.pointer (some ⟨g, 0, none⟩)] w fun e w' => Got w g n 1 d bad (fun x => .returned (.int .u8 (x : Int))) e w' := by
  have HT := Lib.hid (get_1 w g n d bad hd hR hb)
  have HB := Lib.hid hb
  have htb := tb_u8
  clear hd hR hb
  go_enter Try.func26, Try.ntmps26
  go_wp2_with fail
  refine HT.out.mono ?_
  rintro e w1 ⟨hkb, hif⟩
  have HKB := Lib.hid hkb
  clear hkb
  by_cases hok : bad = false ∧ 1 ≤ n
  · rw [if_pos hok] at hif
    obtain ⟨rfl, hR1⟩ := hif
    have HOK := Lib.hid hok
    have HR1 := Lib.hid hR1
    clear hok hR1
    go_wp2_with fail
    go_ret
    exact ⟨HKB.out, by rw [if_pos HOK.out]; exact ⟨rfl, HR1.out⟩⟩
  · rw [if_neg hok] at hif
    obtain ⟨rfl, hR1⟩ := hif
    have HOK := Lib.hid hok
    have HR1 := Lib.hid hR1
    clear hok hR1
    go_wp2_with fail
    go_ret
    exact ⟨HKB.out, by rw [if_neg HOK.out]; exact ⟨rfl, HR1.out⟩⟩

set_option maxRecDepth 100000 in
set_option maxHeartbeats 1000000 in
theorem get_2 (w : World) (g n : Nat) (d : Nat → Nat) (bad : Bool) (hd : ∀ i, d i < 256) (hR : Rd w g n d bad) (hb : bad = true → n = 0) :
    Calls Try.prog 33 #[.pointer (some ⟨g, 0, none⟩), .int .i64 2] w fun e w' => Got w g n 2 d bad (fun x => .returned (.iface 54 (.int .u16 (x : Int)))) e w' := by
  have HD := Lib.hid hd
  clear hd
  by_cases hok : bad = false ∧ 2 ≤ n
  · obtain ⟨rfl, hk⟩ := hok
    have HT := Lib.hid (take_ok 2 w g n d hR hk)
    have hm0 : (numV d 2 : Int) % 65536 = (numV d 2 : Int) := by have := numV_lt d HD.out 2; omega
    have HN := Lib.hid hk
    clear hR hb hk
    go_enter Try.func33, Try.ntmps33
    go_wp2_with fail
    refine HT.out.mono ?_
    rintro e w1 ⟨A, c, rfl, hr, hkc, hcm, hA, hR1, hkb⟩
    have HR := Lib.hid hr
    have HR1 := Lib.hid hR1
    have HKB := Lib.hid hkb
    unfold maxLen at hcm
    clear hr hA hR1 hkb
    go_wp2_with fail
    go_loop [5, 12] (fun r i => ∃ j : Nat, j ≤ 2 ∧ i = .int .i64 j ∧ r = .int .u64 (numV d j : Int)) (fun _ i => 2 - (intOf i).toNat)
    case atStart => exact ⟨0, Nat.zero_le _, rfl, rfl⟩
    case round =>
      obtain ⟨j, hj, rfl, rfl⟩ := hrel
      by_cases hlt : j < 2
      · obtain ⟨ad, rfl, hl, hc⟩ := HR.out (by omega)
        have hcell := hc j hlt
        have hor := numV_or d HD.out j (by omega)
        clear hc hm0
        go_wp2_with fail
        go_round
        case rel => exact ⟨j + 1, by omega, by go_num, rfl⟩
        case measure => simp [intOf]; omega
      · obtain rfl : j = 2 := by omega
        go_wp2_with fail
        go_ret
        exact ⟨HKB.out, by rw [if_pos ⟨rfl, HN.out⟩]; exact ⟨rfl, HR1.out⟩⟩
  · have HNO := Lib.hid hok
    cases bad with
    | false =>
      have HT := Lib.hid (take_no 2 w g n d hR (.inr (by simp at hok; omega)))
      have HNN : Hid (n < 2) := Lib.hid (by simp at hok; omega)
      clear hR hb hok HNO
      go_enter Try.func33, Try.ntmps33
      go_wp2_with fail
      refine HT.out.mono ?_
      rintro e w1 ⟨rfl, hR1, hkb⟩
      have HR1 := Lib.hid hR1
      have HKB := Lib.hid hkb
      clear hR1 hkb
      go_wp2_with fail
      go_loop [5, 12] (fun r i => i = .int .i64 0 ∧ r = .int .u64 0) (fun _ _ => 0)
      case atStart => exact ⟨rfl, rfl⟩
      case round =>
        obtain ⟨rfl, rfl⟩ := hrel
        go_wp2_with fail
        go_ret
        exact ⟨HKB.out, by rw [if_neg (fun h => by have := HNN.out; have := h.2; omega)]; exact ⟨rfl, HR1.out⟩⟩
    | true =>
      obtain rfl := hb rfl
      have HT := Lib.hid (take_bad 2 w g d hR)
      have HR1 := Lib.hid hR
      clear hR hb hok HNO
      go_enter Try.func33, Try.ntmps33
      go_wp2_with fail
      refine HT.out.mono ?_
      rintro e w1 ⟨rfl, rfl⟩
      go_wp2_with fail
      go_loop [5, 12] (fun r i => i = .int .i64 0 ∧ r = .int .u64 0) (fun _ _ => 0)
      case atStart => exact ⟨rfl, rfl⟩
      case round =>
        obtain ⟨rfl, rfl⟩ := hrel
        go_wp2_with fail
        go_ret
        exact ⟨KeptBut.refl _ _ _, by rw [if_neg (fun h => by cases h.1)]; exact ⟨rfl, HR1.out.zero⟩⟩

theorem rShort_any (w : World) (g n : Nat) (d : Nat → Nat) (bad : Bool) (hd : ∀ i, d i < 256) (hR : Rd w g n d bad) (hb : bad = true → n = 0) :
    Calls Try.prog 27 #[.pointer (some ⟨g, 0, none⟩)] w fun e w' => Got w g n 2 d bad (fun x => .returned (.int .u16 (x : Int))) e w' := by
  have HT := Lib.hid (get_2 w g n d bad hd hR hb)
  have HB := Lib.hid hb
  have htb := tb_u16
  clear hd hR hb
  go_enter Try.func27, Try.ntmps27
  go_wp2_with fail
  refine HT.out.mono ?_
  rintro e w1 ⟨hkb, hif⟩
  have HKB := Lib.hid hkb
  clear hkb
  by_cases hok : bad = false ∧ 2 ≤ n
  · rw [if_pos hok] at hif
    obtain ⟨rfl, hR1⟩ := hif
    have HOK := Lib.hid hok
    have HR1 := Lib.hid hR1
    clear hok hR1
    go_wp2_with fail
    go_ret
    exact ⟨HKB.out, by rw [if_pos HOK.out]; exact ⟨rfl, HR1.out⟩⟩
  · rw [if_neg hok] at hif
    obtain ⟨rfl, hR1⟩ := hif
    have HOK := Lib.hid hok
    have HR1 := Lib.hid hR1
    clear hok hR1
    go_wp2_with fail
    go_ret
    exact ⟨HKB.out, by rw [if_neg HOK.out]; exact ⟨rfl, HR1.out⟩⟩

set_option maxRecDepth 100000 in
set_option maxHeartbeats 1000000 in
theorem get_4 (w : World) (g n : Nat) (d : Nat → Nat) (bad : Bool) (hd : ∀ i, d i < 256) (hR : Rd w g n d bad) (hb : bad = true → n = 0) :
    Calls Try.prog 33 #[.pointer (some ⟨g, 0, none⟩), .int .i64 4] w fun e w' => Got w g n 4 d bad (fun x => .returned (.iface 56 (.int .u32 (x : Int)))) e w' := by
  have HD := Lib.hid hd
  clear hd
  by_cases hok : bad = false ∧ 4 ≤ n
  · obtain ⟨rfl, hk⟩ := hok
    have HT := Lib.hid (take_ok 4 w g n d hR hk)
    have hm0 : (numV d 4 : Int) % 4294967296 = (numV d 4 : Int) := by have := numV_lt d HD.out 4; omega
    have HN := Lib.hid hk
    clear hR hb hk
    go_enter Try.func33, Try.ntmps33
    go_wp2_with fail
    refine HT.out.mono ?_
    rintro e w1 ⟨A, c, rfl, hr, hkc, hcm, hA, hR1, hkb⟩
    have HR := Lib.hid hr
    have HR1 := Lib.hid hR1
    have HKB := Lib.hid hkb
    unfold maxLen at hcm
    clear hr hA hR1 hkb
    go_wp2_with fail
    go_loop [5, 12] (fun r i => ∃ j : Nat, j ≤ 4 ∧ i = .int .i64 j ∧ r = .int .u64 (numV d j : Int)) (fun _ i => 4 - (intOf i).toNat)
    case atStart => exact ⟨0, Nat.zero_le _, rfl, rfl⟩
    case round =>
      obtain ⟨j, hj, rfl, rfl⟩ := hrel
      by_cases hlt : j < 4
      · obtain ⟨ad, rfl, hl, hc⟩ := HR.out (by omega)
        have hcell := hc j hlt
        have hor := numV_or d HD.out j (by omega)
        clear hc hm0
        go_wp2_with fail
        go_round
        case rel => exact ⟨j + 1, by omega, by go_num, rfl⟩
        case measure => simp [intOf]; omega
      · obtain rfl : j = 4 := by omega
        go_wp2_with fail
        go_ret
        exact ⟨HKB.out, by rw [if_pos ⟨rfl, HN.out⟩]; exact ⟨rfl, HR1.out⟩⟩
  · have HNO := Lib.hid hok
    cases bad with
    | false =>
      have HT := Lib.hid (take_no 4 w g n d hR (.inr (by simp at hok; omega)))
      have HNN : Hid (n < 4) := Lib.hid (by simp at hok; omega)
      clear hR hb hok HNO
      go_enter Try.func33, Try.ntmps33
      go_wp2_with fail
      refine HT.out.mono ?_
      rintro e w1 ⟨rfl, hR1, hkb⟩
      have HR1 := Lib.hid hR1
      have HKB := Lib.hid hkb
      clear hR1 hkb
      go_wp2_with fail
      go_loop [5, 12] (fun r i => i = .int .i64 0 ∧ r = .int .u64 0) (fun _ _ => 0)
      case atStart => exact ⟨rfl, rfl⟩
      case round =>
        obtain ⟨rfl, rfl⟩ := hrel
        go_wp2_with fail
        go_ret
        exact ⟨HKB.out, by rw [if_neg (fun h => by have := HNN.out; have := h.2; omega)]; exact ⟨rfl, HR1.out⟩⟩
    | true =>
      obtain rfl := hb rfl
      have HT := Lib.hid (take_bad 4 w g d hR)
      have HR1 := Lib.hid hR
      clear hR hb hok HNO
      go_enter Try.func33, Try.ntmps33
      go_wp2_with fail
      refine HT.out.mono ?_
      rintro e w1 ⟨rfl, rfl⟩
      go_wp2_with fail
      go_loop [5, 12] (fun r i => i = .int .i64 0 ∧ r = .int .u64 0) (fun _ _ => 0)
      case atStart => exact ⟨rfl, rfl⟩
      case round =>
        obtain ⟨rfl, rfl⟩ := hrel
        go_wp2_with fail
        go_ret
        exact ⟨KeptBut.refl _ _ _, by rw [if_neg (fun h => by cases h.1)]; exact ⟨rfl, HR1.out.zero⟩⟩

theorem rWord_any (w : World) (g n : Nat) (d : Nat → Nat) (bad : Bool) (hd : ∀ i, d i < 256) (hR : Rd w g n d bad) (hb : bad = true → n = 0) :
    Calls Try.prog 28 #[.pointer (some ⟨g, 0, none⟩)] w fun e w' => Got w g n 4 d bad (fun x => .returned (.int .u32 (x : Int))) e w' := by
  have HT := Lib.hid (get_4 w g n d bad hd hR hb)
  have HB := Lib.hid hb
  have htb := tb_u32
  clear hd hR hb
  go_enter Try.func28, Try.ntmps28
  go_wp2_with fail
  refine HT.out.mono ?_
  rintro e w1 ⟨hkb, hif⟩
  have HKB := Lib.hid hkb
  clear hkb
  by_cases hok : bad = false ∧ 4 ≤ n
  · rw [if_pos hok] at hif
    obtain ⟨rfl, hR1⟩ := hif
    have HOK := Lib.hid hok
    have HR1 := Lib.hid hR1
    clear hok hR1
    go_wp2_with fail
    go_ret
    exact ⟨HKB.out, by rw [if_pos HOK.out]; exact ⟨rfl, HR1.out⟩⟩
  · rw [if_neg hok] at hif
    obtain ⟨rfl, hR1⟩ := hif
    have HOK := Lib.hid hok
    have HR1 := Lib.hid hR1
    clear hok hR1
    go_wp2_with fail
    go_ret
    exact ⟨HKB.out, by rw [if_neg HOK.out]; exact ⟨rfl, HR1.out⟩⟩

set_option maxRecDepth 100000 in
set_option maxHeartbeats 1000000 in
theorem get_8 (w : World) (g n : Nat) (d : Nat → Nat) (bad : Bool) (hd : ∀ i, d i < 256) (hR : Rd w g n d bad) (hb : bad = true → n = 0) :
    Calls Try.prog 33 #[.pointer (some ⟨g, 0, none⟩), .int .i64 8] w fun e w' => Got w g n 8 d bad (fun x => .returned (.iface 28 (.int .u64 (x : Int)))) e w' := by
  have HD := Lib.hid hd
  clear hd
  by_cases hok : bad = false ∧ 8 ≤ n
  · obtain ⟨rfl, hk⟩ := hok
    have HT := Lib.hid (take_ok 8 w g n d hR hk)
    have HN := Lib.hid hk
    clear hR hb hk
    go_enter Try.func33, Try.ntmps33
    go_wp2_with fail
    refine HT.out.mono ?_
    rintro e w1 ⟨A, c, rfl, hr, hkc, hcm, hA, hR1, hkb⟩
    have HR := Lib.hid hr
    have HR1 := Lib.hid hR1
    have HKB := Lib.hid hkb
    unfold maxLen at hcm
    clear hr hA hR1 hkb
    go_wp2_with fail
    go_loop [5, 12] (fun r i => ∃ j : Nat, j ≤ 8 ∧ i = .int .i64 j ∧ r = .int .u64 (numV d j : Int)) (fun _ i => 8 - (intOf i).toNat)
    case atStart => exact ⟨0, Nat.zero_le _, rfl, rfl⟩
    case round =>
      obtain ⟨j, hj, rfl, rfl⟩ := hrel
      by_cases hlt : j < 8
      · obtain ⟨ad, rfl, hl, hc⟩ := HR.out (by omega)
        have hcell := hc j hlt
        have hor := numV_or d HD.out j (by omega)
        clear hc
        go_wp2_with fail
        go_round
        case rel => exact ⟨j + 1, by omega, by go_num, rfl⟩
        case measure => simp [intOf]; omega
      · obtain rfl : j = 8 := by omega
        go_wp2_with fail
        go_ret
        exact ⟨HKB.out, by rw [if_pos ⟨rfl, HN.out⟩]; exact ⟨rfl, HR1.out⟩⟩
  · have HNO := Lib.hid hok
    cases bad with
    | false =>
      have HT := Lib.hid (take_no 8 w g n d hR (.inr (by simp at hok; omega)))
      have HNN : Hid (n < 8) := Lib.hid (by simp at hok; omega)
      clear hR hb hok HNO
      go_enter Try.func33, Try.ntmps33
      go_wp2_with fail
      refine HT.out.mono ?_
      rintro e w1 ⟨rfl, hR1, hkb⟩
      have HR1 := Lib.hid hR1
      have HKB := Lib.hid hkb
      clear hR1 hkb
      go_wp2_with fail
      go_loop [5, 12] (fun r i => i = .int .i64 0 ∧ r = .int .u64 0) (fun _ _ => 0)
      case atStart => exact ⟨rfl, rfl⟩
      case round =>
        obtain ⟨rfl, rfl⟩ := hrel
        go_wp2_with fail
        go_ret
        exact ⟨HKB.out, by rw [if_neg (fun h => by have := HNN.out; have := h.2; omega)]; exact ⟨rfl, HR1.out⟩⟩
    | true =>
      obtain rfl := hb rfl
      have HT := Lib.hid (take_bad 8 w g d hR)
      have HR1 := Lib.hid hR
      clear hR hb hok HNO
      go_enter Try.func33, Try.ntmps33
      go_wp2_with fail
      refine HT.out.mono ?_
      rintro e w1 ⟨rfl, rfl⟩
      go_wp2_with fail
      go_loop [5, 12] (fun r i => i = .int .i64 0 ∧ r = .int .u64 0) (fun _ _ => 0)
      case atStart => exact ⟨rfl, rfl⟩
      case round =>
        obtain ⟨rfl, rfl⟩ := hrel
        go_wp2_with fail
        go_ret
        exact ⟨KeptBut.refl _ _ _, by rw [if_neg (fun h => by cases h.1)]; exact ⟨rfl, HR1.out.zero⟩⟩

theorem rLong_any (w : World) (g n : Nat) (d : Nat → Nat) (bad : Bool) (hd : ∀ i, d i < 256) (hR : Rd w g n d bad) (hb : bad = true → n = 0) :
    Calls Try.prog 29 #[.pointer (some ⟨g, 0, none⟩)] w fun e w' => Got w g n 8 d bad (fun x => .returned (.int .u64 (x : Int))) e w' := by
  have HT := Lib.hid (get_8 w g n d bad hd hR hb)
  have HB := Lib.hid hb
  have htb := tb_u64
  clear hd hR hb
  go_enter Try.func29, Try.ntmps29
  go_wp2_with fail
  refine HT.out.mono ?_
  rintro e w1 ⟨hkb, hif⟩
  have HKB := Lib.hid hkb
  clear hkb
  by_cases hok : bad = false ∧ 8 ≤ n
  · rw [if_pos hok] at hif
    obtain ⟨rfl, hR1⟩ := hif
    have HOK := Lib.hid hok
    have HR1 := Lib.hid hR1
    clear hok hR1
    go_wp2_with fail
    go_ret
    exact ⟨HKB.out, by rw [if_pos HOK.out]; exact ⟨rfl, HR1.out⟩⟩
  · rw [if_neg hok] at hif
    obtain ⟨rfl, hR1⟩ := hif
    have HOK := Lib.hid hok
    have HR1 := Lib.hid hR1
    clear hok hR1
    go_wp2_with fail
    go_ret
    exact ⟨HKB.out, by rw [if_neg HOK.out]; exact ⟨rfl, HR1.out⟩⟩
end Go.Proofs.Ytohojfgceaajfaa
