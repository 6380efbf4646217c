/- numbers: texts are apart; the examples (maths). -/
import Derived.Test.YtbmmoclaijoofaaGreatDoorNumVe
set_option linter.unusedVariables false
set_option linter.unusedSimpArgs false
namespace Go.Proofs.YtbmmoclaijoofaaGreatDoor
open Go.RowKit Go.BigFrame
open Num (nanB sg rg rv sv tv key eqF ltF cmpI wd infR R53 P0 wholeR flN ONE TWO decS expS textR textN oddM oddE)

theorem ld_unique {m r s : Nat} {E : Int} (h1 : Num.LdIs m E r) (h2 : Num.LdIs m E s) : r = s := by
  obtain ⟨_, a, b, e1, q1⟩ := h1
  obtain ⟨_, c, d, e2, q2⟩ := h2
  apply Num.rv_inj.1
  have k1 : m * P0 * 2 ^ a * 2 ^ d = rv r * 2 ^ b * 2 ^ d := by rw [q1]
  have k2 : m * P0 * 2 ^ c * 2 ^ b = rv s * 2 ^ d * 2 ^ b := by rw [q2]
  rw [Nat.mul_assoc, Nat.mul_assoc (rv r), ← Nat.pow_add, ← Nat.pow_add] at k1
  rw [Nat.mul_assoc, Nat.mul_assoc (rv s), ← Nat.pow_add, ← Nat.pow_add] at k2
  rw [show a + d = c + b by omega, k2, Nat.add_comm d b] at k1
  exact (Nat.eq_of_mul_eq_mul_right (Nat.two_pow_pos _) k1).symm
theorem textR_inj {r s : Nat} (hr : r ≤ infR) (hs : s ≤ infR) (h : textR r = textR s) : r = s := by
  have hinf : textR infR = ⟨#[105, 110, 102]⟩ := by unfold Num.textR; rw [if_pos rfl]
  by_cases h1 : r = infR
  · rw [h1, hinf] at h
    rw [h1, text_inf hs h.symm]
  · by_cases h2 : s = infR
    · rw [h2, hinf] at h
      exact absurd (text_inf hr h) h1
    · rcases text_parts hr h1 h with ⟨b1, n, u1, v1⟩ | ⟨b1, m, E, u1, _, a1, l1⟩
      · rcases text_parts hs h2 rfl with ⟨_, n', u2, v2⟩ | ⟨b2, _⟩
        · rw [u1] at u2; cases u2; exact Num.rv_inj.1 (v1.trans v2.symm)
        · rw [b1] at b2; cases b2
      · rcases text_parts hs h2 rfl with ⟨b2, _⟩ | ⟨_, m', E', u2, _, a2, l2⟩
        · rw [b1] at b2; cases b2
        · rw [u1] at u2; cases u2
          rw [a1] at a2; cases a2
          exact ld_unique l1 l2
theorem minus_apart {r s : Nat} (hs : s ≤ infR) (h : ⟨#[45]⟩ ++ textR r = textR s) : False := by
  obtain ⟨h1, _⟩ := minus_in h
  rw [no_minus hs] at h1; cases h1
/-- Unlike numbers have unlike texts. -/
theorem textN_inj {a b : Nat} (ha : a < 2 ^ 64) (hb : b < 2 ^ 64) : textN a = textN b ↔ key a = key b := by
  constructor
  · intro h
    rcases textN_cases (b := a) with ⟨n1, t1⟩ | ⟨n1, l1, ⟨s1, t1⟩ | ⟨s1, t1⟩⟩
    · rcases textN_cases (b := b) with ⟨n2, t2⟩ | ⟨n2, l2, ⟨s2, t2⟩ | ⟨s2, t2⟩⟩
      · rw [Num.key_nan n1, Num.key_nan n2]
      · exfalso
        rw [t1, t2] at h
        have := congrArg (fun x : ByteArray => x.data.toList.head?) h
        simp at this
      · exact absurd (t2.symm.trans (h.symm.trans t1)) (text_nan l2)
    · rcases textN_cases (b := b) with ⟨n2, t2⟩ | ⟨n2, l2, ⟨s2, t2⟩ | ⟨s2, t2⟩⟩
      · exfalso
        rw [t1, t2] at h
        have := congrArg (fun x : ByteArray => x.data.toList.head?) h
        simp at this
      · rw [t1, t2] at h
        obtain ⟨_, h3⟩ := minus_in h
        obtain ⟨_, h4⟩ := minus_in (rfl : (⟨#[45]⟩ : ByteArray) ++ textR (rg b) = _)
        have hr := textR_inj l1 l2 (h3.symm.trans h4)
        have : a = b := by rw [← Num.wd_of ha, ← Num.wd_of hb, s1, s2, hr]
        rw [this]
      · rw [t1, t2] at h
        exact (minus_apart l2 h).elim
    · rcases textN_cases (b := b) with ⟨n2, t2⟩ | ⟨n2, l2, ⟨s2, t2⟩ | ⟨s2, t2⟩⟩
      · exact absurd (t1.symm.trans (h.trans t2)) (text_nan l1)
      · rw [t1, t2] at h
        exact (minus_apart l1 h.symm).elim
      · rw [t1, t2] at h
        have hr := textR_inj l1 l2 h
        have : a = b := by rw [← Num.wd_of ha, ← Num.wd_of hb, s1, s2, hr]
        rw [this]
  · intro h
    cases n1 : nanB a with
    | true =>
      have n2 : nanB b = true := by
        cases n2 : nanB b with
        | true => rfl
        | false => have := Num.key_lt n2; have := Num.key_nan n1; omega
      unfold Num.textN
      rw [n1, n2]; rfl
    | false => rw [Num.key_inj ha hb n1 h]
theorem parse_of {s : ByteArray} {x b : Nat} {c : Int} (h : ParseOk s x c) (hb : b < 2 ^ 64) (hn : nanB b = false) (ht : textN b = s) : c = 0 ∧ x = b := by
  obtain ⟨hx, ⟨h1, h2⟩ | ⟨_, _, h2⟩⟩ := h
  · exact ⟨h1, (Num.key_inj hb hx hn ((textN_inj hb hx).1 (ht.trans h2.symm))).symm⟩
  · exact absurd ht (h2 b hb)
theorem parse_no {s : ByteArray} {x : Nat} {c : Int} (h : ParseOk s x c) (hno : ∀ b, b < 2 ^ 64 → textN b ≠ s) : c = 210 ∧ x = 0 := by
  obtain ⟨hx, ⟨_, h2⟩ | ⟨h1, h2, _⟩⟩ := h
  · exact absurd h2 (hno x hx)
  · exact ⟨h1, h2⟩
theorem small_part {r : Nat} (h0 : 0 < r) (h : r < ONE) : wholeR r = false := by
  have h1 := Num.rv_mono h
  rw [Num.rv_one] at h1
  have h2 := Num.rv_pos.2 h0
  rw [Num.wholeR_is]
  have : ¬ rv r = tv r * P0 := by
    unfold Num.tv
    rw [Nat.div_eq_of_lt h1, Nat.zero_mul]; omega
  rw [decide_eq_false this]; rfl
theorem part_text {r : Nat} (hi : r ≠ infR) (hw : wholeR r = false) (m : Nat) (E : Int) (h1 : oddM r = m) (h2 : (oddE r : Int) - 1074 = E) : textR r = decS m ++ ⟨#[112]⟩ ++ expS E := by
  unfold Num.textR
  rw [if_neg hi, hw, h1, h2]; rfl
theorem whole_text {r n : Nat} (hi : r < infR) (hn : n < 2 ^ 53) (h : rv r = n * P0) : textR r = decS n := by
  have ht : tv r = n := by unfold Num.tv; rw [h, Nat.mul_div_cancel _ Num.P0_pos]
  have hw : wholeR r = true := by
    rw [Num.wholeR_is, ht, decide_eq_true h, Bool.true_and, decide_eq_true_eq, Num.rung_53, ht]; exact hn
  unfold Num.textR
  rw [if_neg (by omega), hw, ht]; rfl
theorem d1 : decS 1 = ⟨#[49]⟩ := by unfold Num.decS; simp [Lib.decDigits]
theorem d12 : decS 12 = ⟨#[49, 50]⟩ := by unfold Num.decS; simp [Lib.decDigits]
theorem d3 : decS 3 = ⟨#[51]⟩ := by unfold Num.decS; simp [Lib.decDigits]
theorem d16 : decS 16 = ⟨#[49, 54]⟩ := by unfold Num.decS; simp [Lib.decDigits]
theorem d60 : decS 60 = ⟨#[54, 48]⟩ := by unfold Num.decS; simp [Lib.decDigits]
theorem d54 : decS 54 = ⟨#[53, 52]⟩ := by unfold Num.decS; simp [Lib.decDigits]
theorem d1074 : decS 1074 = ⟨#[49, 48, 55, 52]⟩ := by unfold Num.decS; simp [Lib.decDigits]
theorem dthird : decS 6004799503160661 = ⟨#[54, 48, 48, 52, 55, 57, 57, 53, 48, 51, 49, 54, 48, 54, 54, 49]⟩ := by unfold Num.decS; simp [Lib.decDigits]
theorem exp_neg (n : Nat) (h : 0 < n) : expS (-(n : Int)) = ⟨#[45]⟩ ++ decS n := by
  unfold Num.expS
  rw [if_pos (by omega), show (-(-(n : Int))).toNat = n by omega]
theorem t_least : textN 1 = ⟨#[49, 112, 45, 49, 48, 55, 52]⟩ := by
  rw [textN_pos (by decide), part_text (by decide) (small_part (by decide) (by decide)) 1 (-((1074 : Nat) : Int)) (by decide) (by decide), exp_neg 1074 (by decide), d1, d1074]
  decide
theorem t_half : textN 13826050856027422720 = ⟨#[45, 49, 112, 45, 49]⟩ := by
  have e : (13826050856027422720 : Nat) = wd true 4602678819172646912 := by decide
  rw [e, textN_neg (by decide), part_text (by decide) (small_part (by decide) (by decide)) 1 (-((1 : Nat) : Int)) (by decide) (by decide), exp_neg 1 (by decide), d1]
  decide
theorem t_3p60 : textN 4884153795883302912 = ⟨#[51, 112, 54, 48]⟩ := by
  rw [textN_pos (by decide), part_text (by decide) (wholeR_no (by decide)) 3 ((60 : Nat) : Int) (by decide) (by decide), expS_nat, d3, d60]
  decide
theorem t_third : textN 4599676419421066581 = ⟨#[54, 48, 48, 52, 55, 57, 57, 53, 48, 51, 49, 54, 48, 54, 54, 49, 112, 45, 53, 52]⟩ := by
  rw [textN_pos (by decide), part_text (by decide) (small_part (by decide) (by decide)) 6004799503160661 (-((54 : Nat) : Int)) (by decide) (by decide), exp_neg 54 (by decide), dthird, d54]
  decide
/-- The size of a rung whose significand is k times 2^j. -/
theorem rv_lit (r k j n : Nat) (h1 : 2 ^ 52 ≤ r) (h2 : 2 ^ 52 + r % 2 ^ 52 = k * 2 ^ j) (h3 : j + (r / 2 ^ 52 - 1) = 1074 + n) : rv r = k * 2 ^ n * P0 := by
  obtain ⟨c, hc⟩ : ∃ c : Nat, c = 1074 := ⟨_, rfl⟩
  obtain ⟨q, hq⟩ : ∃ q, q = r / 2 ^ 52 - 1 := ⟨_, rfl⟩
  rw [← hq, ← hc] at h3
  rw [Num.rv_norm h1, h2, ← hq, Num.P0_is c hc, Nat.mul_assoc, ← Nat.pow_add, Nat.mul_assoc, ← Nat.pow_add, h3, Nat.add_comm c n]
theorem t_12 : textN 4622945017495814144 = ⟨#[49, 50]⟩ := by
  rw [textN_pos (by decide), whole_text (n := 12) (by decide) (by decide) (rv_lit _ 3 51 2 (by decide) (by decide) (by decide)), d12]
theorem no_01 (b : Nat) (_hb : b < 2 ^ 64) : textN b ≠ ⟨#[48, 49]⟩ := fun h => by
  rcases textN_cases (b := b) with ⟨_, t⟩ | ⟨_, l, ⟨_, t⟩ | ⟨_, t⟩⟩
  · rw [t] at h; revert h; decide
  · rw [t] at h
    have := (minus_in h).1
    revert this; decide
  · rw [t] at h
    have hi : rg b ≠ infR := fun e => by rw [e] at h; unfold Num.textR at h; rw [if_pos rfl] at h; revert h; decide
    rcases text_parts l hi h with ⟨_, n, hn, hv⟩ | ⟨hb, _⟩
    · have hn1 : n = 1 := by
        have : uintS (bA 112 ⟨#[48, 49]⟩) = some 1 := by decide
        rw [this] at hn; cases hn; rfl
      rw [hn1] at hv
      rw [whole_text (n := 1) (by omega) (by decide) hv, d1] at h
      revert h; decide
    · revert hb; decide
theorem no_2p3 (b : Nat) (_hb : b < 2 ^ 64) : textN b ≠ ⟨#[50, 112, 51]⟩ := fun h => by
  rcases textN_cases (b := b) with ⟨_, t⟩ | ⟨_, l, ⟨_, t⟩ | ⟨_, t⟩⟩
  · rw [t] at h; revert h; decide
  · rw [t] at h
    have := (minus_in h).1
    revert this; decide
  · rw [t] at h
    have hi : rg b ≠ infR := fun e => by rw [e] at h; unfold Num.textR at h; rw [if_pos rfl] at h; revert h; decide
    rcases text_parts l hi h with ⟨hb, _⟩ | ⟨_, m, E, hm, _, hE, hl, a, c, hac, hv⟩
    · revert hb; decide
    · have hm2 : m = 2 := by
        have : uintS (bA 112 ⟨#[50, 112, 51]⟩) = some 2 := by decide
        rw [this] at hm; cases hm; rfl
      have hE3 : E = 3 := by
        have : atoiO (bR 112 ⟨#[50, 112, 51]⟩) = some 3 := by decide
        rw [this] at hE; cases hE; rfl
      subst hm2; subst hE3
      have hv2 : rv (rg b) = 16 * P0 := by
        refine Nat.eq_of_mul_eq_mul_right (Nat.two_pow_pos c) ?_
        rw [← hv, show a = c + 3 by omega, Nat.pow_add]
        generalize 2 ^ c = z
        rw [show 2 * P0 * (z * 2 ^ 3) = P0 * z * (2 * 2 ^ 3) by ac_rfl, show 16 * P0 * z = P0 * z * 16 by ac_rfl]
      rw [whole_text (n := 16) hl (by decide) hv2, d16] at h
      revert h; decide
theorem down_nought {r : Nat} (h : DownIs 9223372036854775808 r) : r = 9223372036854775808 := by
  obtain ⟨rt, _, h2, h3⟩ := h.fin (by decide)
  have e1 : rg 9223372036854775808 = 0 := by decide
  have e2 : flN (sg 9223372036854775808) 0 = 0 := by
    unfold Num.flN
    rw [Num.tv_zero, Num.rv_zero, Nat.zero_mul]
    simp
  rw [e1, e2, Nat.zero_mul] at h2
  have : rt = 0 := Num.rv_inj.1 (by rw [h2, Num.rv_zero])
  rw [h3, this]
  decide
theorem down_ex {r : Nat} (h : DownIs 13832806255468478464 r) : r = 13835058055282163712 := by
  obtain ⟨rt, _, h2, h3⟩ := h.fin (by decide)
  have hs : sg 13832806255468478464 = true := by decide
  obtain ⟨c, hc⟩ : ∃ c : Nat, c = 1073 := ⟨_, rfl⟩
  have hP : P0 = 2 * 2 ^ c := by rw [Num.P0_is (c + 1) (by omega), Nat.pow_succ, Nat.mul_comm]
  have hv : rv (rg 13832806255468478464) = 3 * 2 ^ c := by
    obtain ⟨q, hq⟩ : ∃ q, q = rg 13832806255468478464 / 2 ^ 52 - 1 := ⟨_, rfl⟩
    have hq2 : rg 13832806255468478464 / 2 ^ 52 - 1 = 1022 := by decide
    have hM : 2 ^ 52 + rg 13832806255468478464 % 2 ^ 52 = 3 * 2 ^ 51 := by decide
    rw [Num.rv_norm (by decide), hM, ← hq, Nat.mul_assoc, ← Nat.pow_add, show 51 + q = c by rw [hq, hq2, hc]]
  have htv : tv (rg 13832806255468478464) = 1 := by
    unfold Num.tv
    rw [hv, hP]
    have := Nat.two_pow_pos c
    generalize 2 ^ c = z at *
    rw [Nat.div_eq_iff (by omega)]
    omega
  have hfl : flN true (rg 13832806255468478464) = 2 := by
    unfold Num.flN
    rw [htv, hv, hP]
    have := Nat.two_pow_pos c
    generalize 2 ^ c = z at *
    rw [decide_eq_true (show 3 * z ≠ 1 * (2 * z) by omega)]
    rfl
  rw [hs, hfl] at h2
  have ht : rt = TWO := Num.rv_inj.1 (h2.trans Num.rv_two.symm)
  rw [h3, hs, ht]
  decide
end Go.Proofs.YtbmmoclaijoofaaGreatDoor
