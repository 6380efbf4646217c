/- numbers: the reference's digits, parts. -/
import Derived.Test.YtbmmoclaijoofaaGreatDoorNumL
set_option linter.unusedVariables false
set_option linter.unusedSimpArgs false
namespace Go.Proofs.YtbmmoclaijoofaaGreatDoor
open Go.RowKit Go.BigFrame
open Num (nanB sg rg rv sv tv key eqF ltF cmpI wd infR R53 P0 wholeR flN decS expS textR textN oddM oddE)

theorem one_byte (w : World) (c : Nat) (hc : c < 256) (z : Int) (hz : z = (c : Int)) :
    (convert 59 9 (.slice (some ⟨w.heap.size, 0, none⟩) 1 1)).run Tryz.prog (w.alloc (.cells #[.int .u8 z] 5)) = .ok (.string ⟨#[UInt8.ofNat c]⟩) (w.alloc (.cells #[.int .u8 z] 5)) := by
  subst hz
  have hH : Holds (w.alloc (.cells #[.int .u8 (c : Int)] 5)) (w.alloc (.cells #[.int .u8 (c : Int)] 5)).heap.size (some ⟨w.heap.size, 0, none⟩) 1 (fun _ => c) := holds_new w 5 (fun _ => c) 1 (0, 0)
  have := convert_holds (P := Tryz.prog) (src := 59) (dst := 9) (fun _ => hc) hH (fun h => by cases h) (Nat.le_refl 1) Tryz.underlying59 Tryz.underlying5 Tryz.underlying9
  rw [this]
  rfl
theorem dec_more (n : Nat) (h : ¬ n < 10) : Lib.decDigits n = Lib.decDigits (n / 10) ++ [UInt8.ofNat (48 + n % 10)] := by rw [Lib.decDigits, dif_neg h]
theorem dec_len (n : Nat) (h : n < 10 ^ 19) : (Lib.decDigits n).length ≤ 19 := by rw [Lib.decDigits_length]; exact nDigits_le 18 n h
theorem decS_list (n : Nat) : (decS n).data.toList = Lib.decDigits n := rfl
theorem len_data (s : ByteArray) : s.data.toList.length = s.size := Array.length_toList
set_option maxRecDepth 100000 in
set_option maxHeartbeats 800000 in
theorem digits_any (n : Nat) (hn : n < 9007199254740993) (w : World) : Calls Tryz.prog 40 #[.int .i64 (n : Int)] w fun e w' => e = .returned (.string (decS n)) ∧ Below w.heap.size w w' := by
  go_enter Tryz.func40, Tryz.ntmps40
  go_wp2
  go_loopw [0, 3] (fun m s wr => ∃ (k : Nat) (S : ByteArray), k < 9007199254740993 ∧ m = .int .i64 (k : Int) ∧ s = .string S ∧ S.size ≤ 20 ∧ Hid (Lib.decDigits n = Lib.decDigits k ++ S.data.toList) ∧ Below w.heap.size w wr) (fun m _ _ => (intOf m).toNat)
  case atStart => exact ⟨n, ⟨#[]⟩, hn, rfl, rfl, by decide, Lib.hid (by simp), Below.refl _ _⟩
  case round =>
    obtain ⟨k, S, hk, rfl, rfl, hS, HD, hb⟩ := hrel
    by_cases h9 : k < 10
    · have hcv := one_byte wr (48 + k) (by omega) (48 + (k : Int)) (by omega)
      have HF := Lib.hid (show (⟨#[UInt8.ofNat (48 + k)]⟩ : ByteArray) ++ S = decS n from str_ext (by rw [decS_list, HD.out, Lib.decDigits_one h9]; simp))
      have hz1 : (⟨#[UInt8.ofNat (48 + k)]⟩ : ByteArray).size = 1 := rfl
      obtain ⟨c1, hc1⟩ : ∃ c1, c1 = (⟨#[UInt8.ofNat (48 + k)]⟩ : ByteArray) := ⟨_, rfl⟩
      rw [← hc1] at hcv HF hz1
      clear hc1
      have hzz : c1.size ≤ 1 := by omega
      clear hz1
      go_wp2
      go_ret
      exact ⟨by rw [← HF.out]; rfl, hb.alloc hb.size _⟩
    · have hcv := one_byte wr (48 + k % 10) (by omega) (48 + (k : Int) % 10) (by omega)
      have HF := Lib.hid (show Lib.decDigits n = Lib.decDigits (k / 10) ++ ((⟨#[UInt8.ofNat (48 + k % 10)]⟩ : ByteArray) ++ S).data.toList by rw [HD.out, dec_more k h9]; simp)
      have hz1 : (⟨#[UInt8.ofNat (48 + k % 10)]⟩ : ByteArray).size = 1 := rfl
      obtain ⟨c1, hc1⟩ : ∃ c1, c1 = (⟨#[UInt8.ofNat (48 + k % 10)]⟩ : ByteArray) := ⟨_, rfl⟩
      rw [← hc1] at hcv HF hz1
      clear hc1
      have hzz : c1.size ≤ 1 := by omega
      have HSZ := Lib.hid (show (c1 ++ S).size ≤ 20 by
        have h1 := congrArg List.length HF.out
        have h2 := dec_len n (by omega)
        rw [List.length_append, len_data] at h1
        omega)
      clear hz1
      go_wp2
      go_roundw
      case rel => exact ⟨k / 10, c1 ++ S, by omega, by go_num, rfl, HSZ.out, HF, hb.alloc hb.size _⟩
      case measure => simp [intOf]; omega
namespace Num
theorem half_rung {s : Nat} (h : R53 ≤ s) : rv (s - 2 ^ 52) * 2 = rv s := by
  have hR : R53 = 4845873199050653696 := rfl
  rw [rv_norm (by omega : 2 ^ 52 ≤ s), rv_norm (by omega : 2 ^ 52 ≤ s - 2 ^ 52), show (s - 2 ^ 52) % 2 ^ 52 = s % 2 ^ 52 by omega, show s / 2 ^ 52 - 1 = ((s - 2 ^ 52) / 2 ^ 52 - 1) + 1 by omega, @Nat.pow_succ 2 ((s - 2 ^ 52) / 2 ^ 52 - 1), Nat.mul_assoc]
theorem rv_B52_le {s : Nat} (h : B52 ≤ s) : rv s = tv s * P0 := by
  rcases Nat.lt_or_ge s R53 with h2 | h2
  · have hB : B52 = 4841369599423283200 := rfl
    have hR : R53 = 4845873199050653696 := rfl
    obtain ⟨c, hc⟩ : ∃ c : Nat, c = 1074 := ⟨_, rfl⟩
    obtain ⟨q, hq⟩ : ∃ q, q = s / 2 ^ 52 - 1 := ⟨_, rfl⟩
    have hqc : q = c := by omega
    have hv : rv s = (2 ^ 52 + s % 2 ^ 52) * P0 := by
      rw [rv_norm (by omega), ← hq, P0_is c hc, hqc]
    unfold tv
    rw [hv, Nat.mul_div_cancel _ P0_pos]
  · exact whole_above h2
theorem double_rung {s : Nat} (h : s < B52) : ∃ t, t < R53 ∧ rv t = rv s * 2 := by
  have h1 : rv s < rv B52 := rv_mono h
  rw [rv_B52] at h1
  have h2 : rv s * 2 < rv R53 := by
    rw [rv_53]
    generalize P0 = p at *
    omega
  obtain ⟨t, _, ht⟩ := rv_of (mag s) (up s + 1) (mag_lt s) (by
    rw [@Nat.pow_succ 2 (up s), ← Nat.mul_assoc, ← rv_is]
    exact Nat.lt_trans h2 (rv_mono R53_lt))
  rw [@Nat.pow_succ 2 (up s), ← Nat.mul_assoc, ← rv_is] at ht
  exact ⟨t, rv_lt.1 (by rw [ht]; exact h2), ht⟩
theorem whole_no {s : Nat} (h : s < R53) (hw : wholeR s = false) : rv s ≠ tv s * P0 := by
  rw [wholeR_is, decide_eq_true h, Bool.and_true, decide_eq_false_iff_not] at hw
  exact hw
theorem whole_mul {s a : Nat} (h : rv s = a * P0) : rv s = tv s * P0 := by
  unfold tv
  rw [h, Nat.mul_div_cancel _ P0_pos]
end Num
def bitsOf : Value → Nat
  | .float _ b => b
  | _ => 0
def PartsPost (r : Nat) (w : World) (e : Ending) (w' : World) : Prop := e = .returned (.tuple #[.int .i64 (oddM r : Int), .int .i64 ((oddE r : Int) - 1074)]) ∧ w' = w
set_option maxRecDepth 100000 in
set_option maxHeartbeats 4000000 in
theorem parts_any (r : Nat) (w : World) (h0 : 0 < r) (hr : r < infR) : Calls Tryz.prog 41 #[.float .f64 r] w (PartsPost r w) := by
  have HP := Lib.hid (fun (m : Nat) (e : Int) (h1 : m = oddM r) (h2 : e = (oddE r : Int) - 1074) => show PartsPost r w (.returned (.tuple #[.int .i64 (m : Int), .int .i64 e])) w from ⟨by rw [h1, h2], rfl⟩)
  generalize PartsPost r w = post at *
  have HOE := Lib.hid (fun (m a b : Nat) (h : m * 2 ^ a = rv r * 2 ^ b) (hm : m % 2 = 1) => Num.odd_end h0 h hm)
  have HBG := Lib.hid (big_any w)
  have hi : infR = 2047 * 2 ^ 52 := rfl
  have hR : R53 = 4845873199050653696 := rfl
  go_enter Tryz.func41, Tryz.ntmps41
  go_wp2
  go_loopw [0, 4] (fun xv ev wr => ∃ (s k : Nat), xv = .float .f64 s ∧ ev = .int .i64 (k : Int) ∧ wr = w ∧ 0 < s ∧ s + k * 4503599627370496 = r ∧ Hid (rv s * 2 ^ k = rv r)) (fun xv _ _ => bitsOf xv)
  case atStart => exact ⟨r, 0, rfl, rfl, rfl, h0, by omega, Lib.hid (by rw [Nat.pow_zero, Nat.mul_one])⟩
  case round =>
    obtain ⟨s, k, rfl, rfl, hwr, hs0, hsk, HK⟩ := hrel
    obtain rfl := hwr.symm
    have hsi : s < infR := by omega
    have hs63 := Num.lt_big hsi
    obtain ⟨hsg, hrg⟩ := Num.pos_bits hs63
    have hn : nanB s = false := by unfold Num.nanB; rw [hrg]; simp; omega
    have h2 := (Num.cmp_ge s R53).trans (Num.ge_53 hn hsg)
    rw [hrg, ← Num.R53_is] at h2
    have hk2 : k ≤ 2047 := by omega
    by_cases hge : R53 ≤ s
    · have hh := Num.half_rung hge
      have hd := Num.div_two s (s - 2 ^ 52) (by rw [hrg]; exact hsi) (by omega) (by rw [hrg]; exact hh)
      rw [hsg, Num.wd_false] at hd
      have hrun := fun w => run_float_arith (P := Tryz.prog) w .quo 25 .f64 _ _ _ hd
      have HK2 := Lib.hid (show rv (s - 2 ^ 52) * 2 ^ (k + 1) = rv r by rw [@Nat.pow_succ 2 k, Nat.mul_comm (2 ^ k) 2, ← Nat.mul_assoc, hh]; exact HK.out)
      rw [show decide (4845873199050653696 ≤ s) = true from decide_eq_true (by omega)] at h2
      have HA1 := Lib.hid (show 0 < s - 2 ^ 52 by omega)
      have HA2 := Lib.hid (show s - 2 ^ 52 + (k + 1) * 4503599627370496 = r by omega)
      have HA3 := Lib.hid (show s - 2 ^ 52 < s by omega)
      obtain ⟨s2, hs2⟩ : ∃ s2, s2 = s - 2 ^ 52 := ⟨_, rfl⟩
      rw [← hs2] at hrun HK2 HA1 HA2 HA3
      clear hh hd hsi hs63 hsg hrg hn hge hs2 hsk
      go_wp2_with fail
      refine HBG.out.mono ?_
      rintro e w' ⟨rfl, hw⟩
      obtain rfl := hw.symm
      go_wp2
      go_roundw
      case rel => exact ⟨s2, k + 1, rfl, by go_num, by trivial, HA1.out, HA2.out, HK2⟩
      case measure => exact HA3.out
    · rw [show decide (4845873199050653696 ≤ s) = false from decide_eq_false (by omega)] at h2
      have hlt : s < R53 := by omega
      clear hsi hs63 hsg hrg hn hge
      go_wp2_with fail
      refine HBG.out.mono ?_
      rintro e w' ⟨rfl, hw⟩
      obtain rfl := hw.symm
      go_wp2
      go_loopw [0, 4, 5, 6] (fun xv ev _ _ wr => ∃ (s2 i : Nat), xv = .float .f64 s2 ∧ ev = .int .i64 ((k : Int) - (i : Int)) ∧ wr = w ∧ 0 < s2 ∧ s2 < R53 ∧ i ≤ 1074 ∧ Hid (rv s2 = rv s * 2 ^ i)) (fun _ ev _ _ _ => (1074 - (k : Int) + intOf ev).toNat)
      case atStart => exact ⟨s, 0, rfl, by simp, rfl, hs0, hlt, by omega, Lib.hid (by rw [Nat.pow_zero, Nat.mul_one])⟩
      case round =>
        obtain ⟨s2, i, rfl, rfl, hwr, hs20, hs2R, hi74, HI⟩ := hrel
        obtain rfl := hwr.symm
        have hs63 : s2 < 2 ^ 63 := by omega
        obtain ⟨hsg, hrg⟩ := Num.pos_bits hs63
        have hn : nanB s2 = false := by unfold Num.nanB; rw [hrg]; simp; omega
        have HW := Lib.hid (refwhole_any s2 w hn hsg)
        unfold wholeI at HW
        rw [hrg, hsg] at HW
        cases hw : wholeR s2
        · have hnw := Num.whole_no hs2R hw
          have hB : s2 < Num.B52 := Nat.lt_of_not_le fun h => hnw (Num.rv_B52_le h)
          obtain ⟨s3, h31, h32⟩ := Num.double_rung hB
          have hi2 : i < 1074 := by
            rcases Nat.lt_or_ge i 1074 with h | h
            · exact h
            · exfalso
              refine hnw (Num.whole_mul (a := rv s) ?_)
              rw [HI.out, Num.P0_is i (by omega)]
          have hm := Num.mul_two s2 s3 (by rw [hrg]; omega) (by have := Num.R53_lt; omega) (by rw [hrg]; exact h32)
          rw [hsg, Num.wd_false] at hm
          have hrun := fun w => run_float_arith (P := Tryz.prog) w .mul 25 .f64 _ _ _ hm
          have HI2 := Lib.hid (show rv s3 = rv s * 2 ^ (i + 1) by rw [h32, HI.out, Nat.pow_succ, Nat.mul_assoc])
          have HS30 := Lib.hid (show 0 < s3 from Num.rv_pos.1 (by rw [h32]; have := Num.rv_pos.2 hs20; omega))
          rw [hw] at HW
          clear hs63 hsg hrg hn hw hnw hB hm h32
          go_wp2_with fail
          refine HW.out.mono ?_
          rintro e w' ⟨rfl, hw⟩
          obtain rfl := hw.symm
          go_wp2
          go_roundw
          case rel => exact ⟨s3, i + 1, rfl, by go_num, by trivial, HS30.out, h31, by omega, HI2⟩
          case measure => simp [intOf]; omega
        · have hb := Num.tv_of hw
          rw [hw] at HW
          have hvi : (if true = true then valI false (tv s2) else 0) = (tv s2 : Int) := rfl
          rw [hvi] at HW
          have HEQ := Lib.hid (show tv s2 * 2 ^ (1074 + k) = rv r * 2 ^ i by
            rw [Nat.pow_add, ← Num.P0_is 1074 rfl, ← Nat.mul_assoc, ← hb.1, HI.out, ← HK.out]
            generalize 2 ^ i = a
            generalize 2 ^ k = b
            ac_rfl)
          have hnp : 0 < tv s2 := by
            rcases Nat.eq_zero_or_pos (tv s2) with h | h
            · exfalso
              have h1 := hb.1
              rw [h, Nat.zero_mul] at h1
              have := Num.rv_pos.2 hs20; omega
            · exact h
          have hn53 := hb.2
          clear hs63 hsg hrg hn hw hb hvi HI HK hs20 hs2R
          obtain ⟨n, hnn⟩ : ∃ n, n = tv s2 := ⟨_, rfl⟩
          rw [← hnn] at HW HEQ hnp hn53
          clear hnn
          go_wp2_with fail
          refine HW.out.mono ?_
          rintro e w' ⟨rfl, hw⟩
          obtain rfl := hw.symm
          go_wp2_with fail
          refine HW.out.mono ?_
          rintro e w' ⟨rfl, hw⟩
          obtain rfl := hw.symm
          go_wp2
          go_loopw [4, 7] (fun ev mv wr => ∃ (m j : Nat), mv = .int .i64 (m : Int) ∧ ev = .int .i64 ((k : Int) - (i : Int) + (j : Int)) ∧ wr = w ∧ m < 2 ^ 53 ∧ 0 < m ∧ j ≤ 53 ∧ Hid (m * 2 ^ j = n)) (fun _ mv _ => (intOf mv).toNat)
          case atStart => exact ⟨n, 0, rfl, by simp, rfl, hn53, hnp, by omega, Lib.hid (by rw [Nat.pow_zero, Nat.mul_one])⟩
          case round =>
            obtain ⟨m, j, rfl, rfl, hwr, hm53, hm0, hj, HMJ⟩ := hrel
            obtain rfl := hwr.symm
            by_cases hev : m % 2 = 0
            · have hei : (m : Int) % 2 = 0 := by omega
              have HM2 := Lib.hid (show m / 2 * 2 ^ (j + 1) = n by
                rw [Nat.pow_succ, Nat.mul_comm (2 ^ j) 2, ← Nat.mul_assoc, show m / 2 * 2 = m by omega]; exact HMJ.out)
              have hj2 : j + 1 ≤ 53 := by
                rcases Nat.lt_or_ge j 53 with h | h
                · omega
                · exfalso
                  have h2 := HMJ.out
                  have h3 : 2 ^ 53 ≤ m * 2 ^ j := Nat.le_trans (Nat.pow_le_pow_right (by decide) h) (Nat.le_mul_of_pos_left _ hm0)
                  omega
              go_wp2
              go_roundw
              case rel => exact ⟨m / 2, j + 1, by go_num, by go_num, by trivial, by omega, by omega, hj2, HM2⟩
              case measure => simp [intOf]; omega
            · have hei : ¬ (m : Int) % 2 = 0 := by omega
              obtain ⟨ho1, ho2⟩ := HOE.out m (j + (1074 + k)) i (by rw [Nat.pow_add, ← Nat.mul_assoc, HMJ.out]; exact HEQ.out) (by omega)
              have HQ := Lib.hid (HP.out m ((k : Int) - (i : Int) + (j : Int)) ho1 (by omega))
              clear hev ho1 ho2 HP HOE
              go_wp2
              exact HQ.out
end Go.Proofs.YtbmmoclaijoofaaGreatDoor
