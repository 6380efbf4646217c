/- numbers: what the reference's Parse works with (maths). -/
import Derived.Test.YtbmmoclaijoofaaGreatDoorNumXd
set_option linter.unusedVariables false
set_option linter.unusedSimpArgs false
namespace Go.Proofs.YtbmmoclaijoofaaGreatDoor
open Go.RowKit Go.BigFrame
open Num (nanB sg rg rv sv tv key eqF ltF cmpI wd infR R53 P0 wholeR flN ONE TWO decS expS textR textN oddM oddE)

theorem decS_small (k n : Nat) (h : n < 10 ^ (k + 1)) : (decS n).size ≤ k + 1 := by
  have := nDigits_le k n h
  rw [← Lib.decDigits_length] at this
  simpa [Num.decS, ByteArray.size] using this
theorem textR_small {r : Nat} (hr : r ≤ infR) : (textR r).size ≤ 40 := by
  unfold Num.textR
  split
  · decide
  · split
    · rename_i h
      have := decS_small 15 (tv r) (by have := (Num.tv_of h).2; omega)
      omega
    · have h1 := decS_small 15 (oddM r) (by have := Num.oddM_lt r; omega)
      have hol := oddE_le hr
      have h2 : (expS ((oddE r : Int) - 1074)).size ≤ 5 := by
        unfold Num.expS
        split
        · rw [ByteArray.size_append]
          have := decS_small 3 (-((oddE r : Int) - 1074)).toNat (by omega)
          have e1 : (⟨#[45]⟩ : ByteArray).size = 1 := rfl
          omega
        · have := decS_small 3 ((oddE r : Int) - 1074).toNat (by omega)
          omega
      rw [ByteArray.size_append, ByteArray.size_append]
      have e1 : (⟨#[112]⟩ : ByteArray).size = 1 := rfl
      omega
theorem textN_small (b : Nat) : (textN b).size ≤ 60 := by
  rcases textN_cases (b := b) with ⟨_, h⟩ | ⟨_, hl, ⟨_, h⟩ | ⟨_, h⟩⟩
  · rw [h]; decide
  · rw [h, ByteArray.size_append]
    have := textR_small hl
    have e1 : (⟨#[45]⟩ : ByteArray).size = 1 := rfl
    omega
  · rw [h]; have := textR_small hl; omega
/-- What number tells of a text: where it is a number's digits, that number. -/
def NumOk (s : ByteArray) (n : Nat) (ok : Bool) : Prop := n < 100000000000000000 ∧ ∀ u, u < 2 ^ 53 → s = decS u → n = u ∧ ok = true
/-- On the way from m to m times 2 to the power of E: what is left is e. -/
def Chain (m : Nat) (E e : Int) (x : Nat) : Prop := ∀ r j : Nat, r < infR → E = (j : Int) - 1074 → rv r = m * 2 ^ j → m < 2 ^ 53 → x < infR ∧ ∃ c : Nat, (c : Int) = 1074 + E - e ∧ rv x = m * 2 ^ c
theorem chain_rung {m r j c : Nat} (hr : r < infR) (hj : rv r = m * 2 ^ j) (hm : m < 2 ^ 53) (hc : c ≤ j ∨ c ≤ 1074) : ∃ x, x < infR ∧ rv x = m * 2 ^ c := by
  refine Num.rv_of m c hm ?_
  rcases hc with h | h
  · refine Nat.lt_of_le_of_lt ?_ (Num.rv_mono hr)
    rw [hj]
    exact Nat.mul_le_mul_left _ (Nat.pow_le_pow_right (by decide) h)
  · refine Nat.lt_trans ?_ (Num.rv_mono Num.R53_lt)
    obtain ⟨k, hk⟩ : ∃ k : Nat, k = 1074 := ⟨_, rfl⟩
    rw [Num.rv_53, Num.P0_is k hk]
    rw [← hk] at h
    refine Nat.lt_of_le_of_lt (Nat.mul_le_mul_left _ (Nat.pow_le_pow_right (by decide) h)) ?_
    exact Nat.mul_lt_mul_of_pos_right hm (Nat.two_pow_pos k)
theorem works_eq {op : BinOp} {x y z r : Nat} (h : Works op x y r) (h2 : Go.floatBits op .f64 x y = some z) : r = z := by
  rcases h.2 with h3 | ⟨h3, _⟩
  · rw [h2] at h3; cases h3; rfl
  · rw [h2] at h3; cases h3
theorem pos_sg {x : Nat} (h : x < infR) : sg x = false ∧ rg x = x := Num.pos_bits (Num.lt_big h)
theorem chain_mul {m x y : Nat} {E e : Int} (h : Chain m E e x) (h0 : 0 < e) (hE : e ≤ E) (hw : Works .mul x 4611686018427387904 y) : Chain m E (e - 1) y := by
  intro r j hr hj hv hm
  obtain ⟨hx, c, hc, hxv⟩ := h r j hr hj hv hm
  obtain ⟨y2, hy2, hyv⟩ := chain_rung (c := c + 1) hr hv hm (.inl (by omega))
  obtain ⟨s1, s2⟩ := pos_sg hx
  have hmul := Num.mul_two x y2 (by rw [s2]; exact hx) hy2 (by rw [s2, hyv, hxv, Nat.pow_succ, Nat.mul_assoc])
  rw [s1] at hmul
  have : y = y2 := works_eq hw hmul
  subst this
  exact ⟨hy2, c + 1, by omega, hyv⟩
theorem chain_div {m x y : Nat} {E e : Int} (h : Chain m E e x) (h0 : e < 0) (hE : E ≤ e) (hw : Works .quo x 4611686018427387904 y) : Chain m E (e + 1) y := by
  intro r j hr hj hv hm
  obtain ⟨hx, c, hc, hxv⟩ := h r j hr hj hv hm
  obtain ⟨c', rfl⟩ : ∃ c', c = c' + 1 := ⟨c - 1, by omega⟩
  obtain ⟨y2, hy2, hyv⟩ := chain_rung (c := c') hr hv hm (.inr (by omega))
  obtain ⟨s1, s2⟩ := pos_sg hx
  have hdiv := Num.div_two x y2 (by rw [s2]; exact hx) hy2 (by rw [s2, hyv, hxv, Nat.pow_succ, Nat.mul_assoc])
  rw [s1] at hdiv
  have : y = y2 := works_eq hw hdiv
  subst this
  exact ⟨hy2, c', by omega, hyv⟩
theorem float_lt (n : Int) : Go.floatOfInt .f64 n < 2 ^ 64 := by
  have := Go.floatOfInt_wf .f64 n
  simpa [Lit.wf] using this
theorem float_rung {m : Nat} (h : m < 2 ^ 53) : ∃ r, r < infR ∧ rv r = m * P0 ∧ Go.floatOfInt .f64 (m : Int) = r := by
  obtain ⟨r, h1, _, h3⟩ := Num.int_rung m (by omega)
  refine ⟨r, h1, h3, ?_⟩
  rw [Num.int_float (m : Int) r h1 (by rw [h3, Int.natAbs_natCast]), decide_eq_false (by omega)]
  rfl
theorem chain_start (m : Nat) (E : Int) : Chain m E E (Go.floatOfInt .f64 (m : Int)) := by
  intro r j hr hj hv hm
  obtain ⟨x, h1, h2, h3⟩ := float_rung hm
  rw [h3]
  obtain ⟨k, hk⟩ : ∃ k : Nat, k = 1074 := ⟨_, rfl⟩
  exact ⟨h1, k, by omega, by rw [h2, Num.P0_is k hk]⟩
theorem chain_end {m x r j : Nat} {E : Int} (h : Chain m E 0 x) (hr : r < infR) (hj : E = (j : Int) - 1074) (hv : rv r = m * 2 ^ j) (hm : m < 2 ^ 53) : x = r := by
  obtain ⟨_, c, hc, hxv⟩ := h r j hr hj hv hm
  obtain rfl : c = j := by omega
  exact Num.rv_inj.1 (hxv.trans hv.symm)
/-- What a text that is a finite number's is made of. -/
theorem text_made {r : Nat} {s : ByteArray} (hr : r < infR) (h : textR r = s) :
    (s = decS (tv r) ∧ rv r = tv r * P0 ∧ tv r < 2 ^ 53) ∨ (s = decS (oddM r) ++ ⟨#[112]⟩ ++ expS ((oddE r : Int) - 1074) ∧ oddM r < 2 ^ 53 ∧ rv r = oddM r * 2 ^ oddE r ∧ oddE r ≤ 2200) := by
  subst h
  unfold Num.textR
  rw [if_neg (by omega)]
  cases hw : wholeR r
  · right
    have hx0 : 0 < r := by
      rcases Nat.eq_zero_or_pos r with h | h
      · subst h; rw [Num.wholeR_zero] at hw; cases hw
      · exact h
    exact ⟨rfl, Num.oddM_lt r, (Num.odd_is hx0).1, oddE_le (by omega)⟩
  · left
    exact ⟨rfl, Num.tv_of hw⟩
/-- What value answers of a text. -/
def ValOk (s : ByteArray) (x : Nat) : Prop := x < 2 ^ 64 ∧ ∀ b, b < 2 ^ 64 → textN b = s → textN x = s
theorem val_nan {x : Nat} (hx : x < 2 ^ 64) (hn : nanB x = true) : ValOk ⟨#[110, 97, 110]⟩ x := ⟨hx, fun b _ h => by unfold Num.textN; rw [hn, if_pos rfl]⟩
theorem val_inf : ValOk ⟨#[105, 110, 102]⟩ 9218868437227405312 := ⟨by decide, fun _ _ _ => by decide⟩
theorem val_minus {r s : ByteArray} {x : Nat} (hs : s = ⟨#[45]⟩ ++ r) (h : ValOk r x) : ValOk s (wd (!sg x) (rg x)) := by
  obtain ⟨hx, h2⟩ := h
  refine ⟨Num.wd_lt _ (Num.rg_lt x), fun b hb hbs => ?_⟩
  subst hs
  rcases textN_cases (b := b) with ⟨_, ht⟩ | ⟨hn, hle, ⟨hs, ht⟩ | ⟨hs, ht⟩⟩
  · exfalso
    rw [hbs] at ht
    have := congrArg (fun z : ByteArray => z.data.toList.head?) ht
    simp at this
  · obtain ⟨_, h4⟩ := minus_in (ht.symm.trans hbs)
    obtain ⟨_, h5⟩ := minus_in (rfl : (⟨#[45]⟩ : ByteArray) ++ r = _)
    have hr : textR (rg b) = r := h4.symm.trans h5
    have h63 := Num.rg_lt b
    have ht2 := h2 (rg b) (by omega) ((textN_pos hle).trans hr)
    have hk := (textN_inj hx (by omega : rg b < 2 ^ 64)).1 (by rw [ht2, textN_pos hle, hr])
    have hnb : nanB (rg b) = false := by rw [Num.nan_rg]; exact hn
    have hxb : rg b = x := Num.key_inj (by omega) hx hnb hk.symm
    obtain ⟨hs2, hg2⟩ := Num.pos_bits h63
    rw [← hxb, hs2, hg2, Bool.not_false, textN_neg hle, hr]
  · exfalso
    rw [hbs] at ht
    have h1 := (minus_in ht).1
    rw [no_minus hle] at h1; cases h1
/-- What is enough of a value, where the text is neither nan nor inf nor begins with a minus. -/
theorem val_fin {s : ByteArray} {x : Nat} (hn : s ≠ ⟨#[110, 97, 110]⟩) (hi : s ≠ ⟨#[105, 110, 102]⟩) (hp : Lib.hasPrefix s.data.toList [45] = false) (hx : x < 2 ^ 64) (h : ∀ r, r < infR → textR r = s → x = r) : ValOk s x := by
  refine ⟨hx, fun b hb hbs => ?_⟩
  rcases textN_cases (b := b) with ⟨_, ht⟩ | ⟨_, hle, ⟨_, ht⟩ | ⟨_, ht⟩⟩
  · exact absurd (hbs.symm.trans ht) hn
  · have h1 := (minus_in (ht.symm.trans hbs)).1
    rw [h1] at hp; cases hp
  · have hr : textR (rg b) = s := ht.symm.trans hbs
    have hni : rg b ≠ infR := fun e => hi (by rw [← hr, e]; unfold Num.textR; rw [if_pos rfl])
    rw [h (rg b) (by omega) hr, textN_pos hle, hr]
theorem no_p_dec (n : Nat) : (112 : UInt8) ∉ (decS n).data.toList := by rw [decS_list]; exact no_p n
/-- Without a p the text is a whole number's. -/
theorem whole_only {s : ByteArray} (hno : (112 : UInt8) ∉ s.data.toList) {n : Nat} {ok : Bool} (h : NumOk s n ok) : ∀ r, r < infR → textR r = s → Go.floatOfInt .f64 (n : Int) = r := by
  intro r hr hs
  rcases text_made hr hs with ⟨h1, h2, h3⟩ | ⟨h1, _⟩
  · obtain ⟨e1, _⟩ := h.2 _ h3 h1
    subst e1
    obtain ⟨x, _, hx, hxe⟩ := float_rung h3
    rw [hxe]
    exact Num.rv_inj.1 (hx.trans h2.symm)
  · exfalso
    apply hno
    rw [h1]
    simp
/-- Where the first p stands, the text parts into m's digits and e's. -/
theorem part_at {s : ByteArray} {k : Nat} (hk : k < s.size) (hc : s.data.toList[k]? = some 112) (hno : (112 : UInt8) ∉ s.data.toList.take k) : ∀ r, r < infR → textR r = s →
    s.extract 0 k = decS (oddM r) ∧ s.data.toList.drop (k + 1) = (expS ((oddE r : Int) - 1074)).data.toList ∧ oddM r < 2 ^ 53 ∧ rv r = oddM r * 2 ^ oddE r ∧ oddE r ≤ 2200 := by
  intro r hr hs
  have hl := len_data s
  have hget : s.data.toList[k]'(by omega) = 112 := by
    rw [List.getElem?_eq_getElem (by omega)] at hc
    exact Option.some.inj hc
  have hL : s.data.toList = s.data.toList.take k ++ 112 :: s.data.toList.drop (k + 1) := by
    conv => lhs; rw [← List.take_append_drop k s.data.toList, List.drop_eq_getElem_cons (by omega), hget]
  rcases text_made hr hs with ⟨h1, _⟩ | ⟨h1, h2, h3, h4⟩
  · exfalso
    refine no_p_dec (tv r) ?_
    rw [← h1, hL]; simp
  · have e2 : s.data.toList = Lib.decDigits (oddM r) ++ 112 :: (expS ((oddE r : Int) - 1074)).data.toList := by
      rw [h1]
      simp [decS_list]
    have b1 := brk_at 112 _ (s.data.toList.drop (k + 1)) hno
    have b2 := brk_at 112 _ (expS ((oddE r : Int) - 1074)).data.toList (no_p (oddM r))
    rw [← hL] at b1
    rw [← e2] at b2
    rw [b1] at b2
    simp only [Prod.mk.injEq, and_true] at b2
    refine ⟨str_ext ?_, b2.2, h2, h3, h4⟩
    rw [Lib.extract_data, decS_list, ← b2.1]
    simp
theorem exp_head {t : List UInt8} {E : Int} (h : t = (expS E).data.toList) : (E < 0 ∧ t = 45 :: (decS (-E).toNat).data.toList) ∨ (0 ≤ E ∧ t = (decS E.toNat).data.toList ∧ ∃ c l, t = c :: l ∧ c ≠ 45) := by
  unfold Num.expS at h
  by_cases hE : E < 0
  · rw [if_pos hE] at h
    left
    refine ⟨hE, ?_⟩
    rw [h]
    simp
  · rw [if_neg hE] at h
    right
    refine ⟨by omega, h, ?_⟩
    obtain ⟨c, l, h1, h2, h3⟩ := dec_head E.toNat
    refine ⟨c, l, by rw [h, decS_list, h1], fun e => ?_⟩
    subst e
    simp at h2
end Go.Proofs.YtbmmoclaijoofaaGreatDoor
