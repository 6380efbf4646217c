/- numbers: the numbers at the edges. -/
import Derived.Test.YtbmmoclaijoofaaGreatDoorNumYe
import Derived.Test.YtbmmoclaijoofaaGreatDoorBaseB
set_option linter.unusedVariables false
set_option linter.unusedSimpArgs false
namespace Go.Proofs.YtbmmoclaijoofaaGreatDoor
open Go.RowKit Go.BigFrame
open Num (nanB sg rg rv sv tv key eqF ltF cmpI wd infR R53 P0 wholeR flN ONE TWO decS expS textR textN oddM oddE)

def floats (l : List Nat) : List Value := l.map (Value.float .f64)
theorem floats_len (l : List Nat) : (floats l).length = l.length := by simp [floats]
theorem floats_get (l : List Nat) (k : Nat) (h : k < l.length) : (floats l)[k]? = some (.float .f64 (l.getD k 0)) := by simp [floats, h]
theorem floats_snoc (l : List Nat) (x : Nat) : floats (l ++ [x]) = floats l ++ [.float .f64 x] := by simp [floats]
/-- A row of numbers of the call's own. -/
def FOwn (w : World) (base : Nat) (v : Value) (l : List Nat) : Prop := w.ownsRow base 25 1 v l.length (floats l) ∧ ∀ b ∈ l, b < 2 ^ 64
theorem FOwn.row {w : World} {base : Nat} {v : Value} {l : List Nat} (h : FOwn w base v l) : FRow w v l := by
  obtain ⟨ho, hl⟩ := h
  have hlt : ∀ k, l.getD k 0 < 2 ^ 64 := fun k => by
    by_cases hk : k < l.length
    · have : l.getD k 0 = l[k] := by simp [List.getD, hk]
      rw [this]; exact hl _ (List.getElem_mem hk)
    · simp [List.getD, hk]
  rcases ho with ⟨h1, ⟨rfl, h2⟩ | ⟨g, cap, cur, rfl, hg, hgg, h3, h4, h5, h6⟩⟩
  · exact ⟨none, 0, by rw [h2], by omega, by decide, hlt, fun h => by omega⟩
  · refine ⟨_, cap, rfl, h3, h4, hlt, fun h0 => ⟨_, rfl, block_lt hgg, fun k hk => ?_⟩⟩
    have hc := floats_get l k hk
    rw [← h6, List.getElem?_take, if_pos (by omega)] at hc
    have e : (⟨g, 0, none⟩ : Addr).add k = ⟨g, k, none⟩ := by unfold Addr.add; by_cases h0 : k = 0 <;> simp [h0]
    rw [e, cell_of_row _ _ _ _ _ _ hgg]
    simpa using hc
/-- 1 divided by 2 so often. -/
def HalfAt (i x : Nat) : Prop := i ≤ 1074 ∧ x < infR ∧ rv x * 2 ^ i = P0
theorem half_start : HalfAt 0 4607182418800017408 := ⟨by omega, Num.one_lt, by rw [Nat.pow_zero, Nat.mul_one]; exact Num.rv_one⟩
theorem half_pos {i x : Nat} (h : HalfAt i x) : 0 < x := by
  refine Num.rv_pos.1 ?_
  rcases Nat.eq_zero_or_pos (rv x) with h0 | h0
  · have := h.2.2
    have hp := Num.P0_pos
    rw [h0, Nat.zero_mul] at this; omega
  · exact h0
theorem half_end {x : Nat} (h : HalfAt 1074 x) : x = 1 := by
  obtain ⟨_, _, h3⟩ := h
  obtain ⟨c, hc⟩ : ∃ c : Nat, c = 1074 := ⟨_, rfl⟩
  rw [← hc, Num.P0_is c hc] at h3
  have hv : rv x = 1 := Nat.eq_of_mul_eq_mul_right (Nat.two_pow_pos c) (by rw [h3, Nat.one_mul])
  exact Num.rv_inj.1 (hv.trans (by decide))
theorem half_step {i x : Nat} (h : HalfAt i x) (hi : i < 1074) : ∃ y, HalfAt (i + 1) y ∧ y < x ∧ Go.floatBits .quo .f64 x 4611686018427387904 = some y := by
  obtain ⟨h1, h2, h3⟩ := h
  obtain ⟨c, hc⟩ : ∃ c : Nat, c + (i + 1) = 1074 := ⟨1074 - (i + 1), by omega⟩
  have hP : P0 = 2 ^ c * 2 ^ (i + 1) := by rw [Num.P0_is (c + (i + 1)) hc, Nat.pow_add]
  have hb : 1 * 2 ^ c < rv infR := by
    refine Nat.lt_of_le_of_lt ?_ (Num.rv_mono Num.one_lt)
    rw [Num.rv_one, hP, Nat.one_mul]
    exact Nat.le_mul_of_pos_right _ (Nat.two_pow_pos _)
  obtain ⟨y, hy, hyv⟩ := Num.rv_of 1 c (by decide) hb
  rw [Nat.one_mul] at hyv
  have hxy : rv y * 2 = rv x := by
    refine Nat.eq_of_mul_eq_mul_right (Nat.two_pow_pos i) ?_
    rw [h3, hP, hyv, Nat.pow_succ]
    generalize 2 ^ c = a
    generalize 2 ^ i = b
    ac_rfl
  obtain ⟨s1, s2⟩ := pos_sg h2
  have hd := Num.div_two x y (by rw [s2]; exact h2) hy (by rw [s2]; exact hxy)
  rw [s1] at hd
  have hyp : 0 < rv y := by rw [hyv]; exact Nat.two_pow_pos c
  exact ⟨y, ⟨by omega, hy, by rw [hyv, hP]⟩, Num.rv_lt.1 (by omega), hd⟩
theorem pos_gt {y : Nat} (h0 : 0 < y) (h : y < infR) : (Go.FloatKind.f64.format.order y 0 == some .gt) = true := by
  obtain ⟨s1, s2⟩ := pos_sg h
  rw [Num.ord_gt, Num.lt_rung (by decide) (Num.finite_nan (by rw [s2]; exact h)) (by decide) s1, decide_eq_true_eq, s2]
  exact h0
/-- 1 times 2 so often. -/
def DoubleAt (i x : Nat) : Prop := i ≤ 1023 ∧ x < infR ∧ rv x = P0 * 2 ^ i
theorem double_start : DoubleAt 0 4607182418800017408 := ⟨by omega, Num.one_lt, by rw [Nat.pow_zero, Nat.mul_one]; exact Num.rv_one⟩
theorem rv_top (r q c : Nat) (h1 : 2 ^ 52 ≤ r) (h2 : r % 2 ^ 52 = 0) (h3 : r / 2 ^ 52 - 1 = q) (h4 : 52 + q = c) : rv r = 2 ^ c := by
  rw [Num.rv_norm h1, h2, h3, Nat.add_zero, ← Nat.pow_add, h4]
theorem double_lt {i : Nat} (h : i ≤ 1023) : P0 * 2 ^ i < rv infR := by
  obtain ⟨c, hc⟩ : ∃ c : Nat, c = 1074 := ⟨_, rfl⟩
  obtain ⟨d, hd⟩ : ∃ d : Nat, 52 + 2046 = d := ⟨_, rfl⟩
  rw [Num.P0_is c hc, ← Nat.pow_add, rv_top infR 2046 d (by decide) (by decide) (by decide) hd]
  exact Nat.pow_lt_pow_right (by decide) (by omega)
theorem double_end {x : Nat} (h : DoubleAt 1023 x) : x = 9214364837600034816 := by
  obtain ⟨_, _, h3⟩ := h
  obtain ⟨c, hc⟩ : ∃ c : Nat, c = 1074 := ⟨_, rfl⟩
  obtain ⟨d, hd⟩ : ∃ d : Nat, 52 + 2045 = d := ⟨_, rfl⟩
  obtain ⟨e, he⟩ : ∃ e : Nat, e = 1023 := ⟨_, rfl⟩
  rw [Num.P0_is c hc, ← he, ← Nat.pow_add, show c + e = d by omega] at h3
  exact Num.rv_inj.1 (h3.trans (rv_top 9214364837600034816 2045 d (by decide) (by decide) (by decide) hd).symm)
theorem double_step {i x : Nat} (h : DoubleAt i x) (hi : i < 1023) : ∃ y, DoubleAt (i + 1) y ∧ x < y ∧ Go.floatBits .mul .f64 x 4611686018427387904 = some y := by
  obtain ⟨h1, h2, h3⟩ := h
  obtain ⟨c, hc⟩ : ∃ c : Nat, c = 1074 := ⟨_, rfl⟩
  have hb : 1 * 2 ^ (c + (i + 1)) < rv infR := by
    rw [Nat.one_mul, Nat.pow_add, ← Num.P0_is c hc]; exact double_lt (by omega)
  obtain ⟨y, hy, hyv⟩ := Num.rv_of 1 (c + (i + 1)) (by decide) hb
  rw [Nat.one_mul, Nat.pow_add, ← Num.P0_is c hc] at hyv
  have hxy : rv y = rv x * 2 := by rw [hyv, h3, Nat.pow_succ, Nat.mul_assoc]
  obtain ⟨s1, s2⟩ := pos_sg h2
  have hd := Num.mul_two x y (by rw [s2]; exact h2) hy (by rw [s2]; exact hxy)
  rw [s1] at hd
  have hxp : 0 < rv x := by rw [h3]; exact Nat.mul_pos Num.P0_pos (Nat.two_pow_pos i)
  exact ⟨y, ⟨by omega, hy, hyv⟩, Num.rv_lt.1 (by omega), hd⟩
theorem lt_inf {y : Nat} (h : y < infR) : (Go.FloatKind.f64.format.order y 9218868437227405312 == some .lt) = true := by
  obtain ⟨s1, s2⟩ := pos_sg h
  rw [Num.ord_lt, Num.lt_rung (Num.finite_nan (by rw [s2]; exact h)) (by decide) s1 (by decide), decide_eq_true_eq, s2]
  exact h
theorem mul_top : Go.floatBits .mul .f64 9214364837600034816 4611686018427387904 = some 9218868437227405312 := by kernel_rfl
end Go.Proofs.YtbmmoclaijoofaaGreatDoor
