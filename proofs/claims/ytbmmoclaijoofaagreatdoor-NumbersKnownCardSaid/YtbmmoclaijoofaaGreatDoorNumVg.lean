/- numbers: the examples hold. -/
import Derived.Test.YtbmmoclaijoofaaGreatDoorNumVf
set_option linter.unusedVariables false
set_option linter.unusedSimpArgs false
namespace Go.Proofs.YtbmmoclaijoofaaGreatDoor
open Go.RowKit Go.BigFrame
open Num (nanB sg rg rv sv tv key eqF ltF cmpI wd infR R53 P0 wholeR flN ONE TWO decS expS textR textN oddM oddE)

theorem ex_parse_least (w w1 : World) (he : ErrsW w) (ht : TabW w) (hb : Below w.heap.size w w1) : Calls Tryz.prog 14 #[.string ⟨#[49, 112, 45, 49, 48, 55, 52]⟩] w1 fun e w2 => e = .returned (.tuple #[.float .f64 1, .int .i64 0]) ∧ Below w.heap.size w w2 := by
  refine (parse_any ⟨#[49, 112, 45, 49, 48, 55, 52]⟩ w1 (by decide) (he.below hb) (ht.below hb)).mono ?_
  rintro e w2 ⟨hb2, y, c, rfl, hp⟩
  obtain ⟨h1, h2⟩ := parse_of hp (b := 1) (by decide) (by decide) t_least
  rw [h1, h2]
  exact ⟨rfl, step_below hb hb2⟩
theorem ex_parse_01 (w w1 : World) (he : ErrsW w) (ht : TabW w) (hb : Below w.heap.size w w1) : Calls Tryz.prog 14 #[.string ⟨#[48, 49]⟩] w1 fun e w2 => e = .returned (.tuple #[.float .f64 0, .int .i64 210]) ∧ Below w.heap.size w w2 := by
  refine (parse_any ⟨#[48, 49]⟩ w1 (by decide) (he.below hb) (ht.below hb)).mono ?_
  rintro e w2 ⟨hb2, y, c, rfl, hp⟩
  obtain ⟨h1, h2⟩ := parse_no hp no_01
  rw [h1, h2]
  exact ⟨rfl, step_below hb hb2⟩
theorem ex_parse_2p3 (w w1 : World) (he : ErrsW w) (ht : TabW w) (hb : Below w.heap.size w w1) : Calls Tryz.prog 14 #[.string ⟨#[50, 112, 51]⟩] w1 fun e w2 => e = .returned (.tuple #[.float .f64 0, .int .i64 210]) ∧ Below w.heap.size w w2 := by
  refine (parse_any ⟨#[50, 112, 51]⟩ w1 (by decide) (he.below hb) (ht.below hb)).mono ?_
  rintro e w2 ⟨hb2, y, c, rfl, hp⟩
  obtain ⟨h1, h2⟩ := parse_no hp no_2p3
  rw [h1, h2]
  exact ⟨rfl, step_below hb hb2⟩
theorem ex_print_12 (w w1 : World) (ht : TabW w) (hb : Below w.heap.size w w1) : Calls Tryz.prog 13 #[.float .f64 4622945017495814144] w1 fun e w2 => e = .returned (.string ⟨#[49, 50]⟩) ∧ Below w.heap.size w w2 := by
  refine (print_any 4622945017495814144 w1 (by decide) (ht.below hb)).mono ?_
  rintro e w2 ⟨rfl, hb2⟩
  rw [t_12]
  exact ⟨rfl, step_below hb hb2⟩
theorem ex_print_half (w w1 : World) (ht : TabW w) (hb : Below w.heap.size w w1) : Calls Tryz.prog 13 #[.float .f64 13826050856027422720] w1 fun e w2 => e = .returned (.string ⟨#[45, 49, 112, 45, 49]⟩) ∧ Below w.heap.size w w2 := by
  refine (print_any 13826050856027422720 w1 (by decide) (ht.below hb)).mono ?_
  rintro e w2 ⟨rfl, hb2⟩
  rw [t_half]
  exact ⟨rfl, step_below hb hb2⟩
theorem ex_print_3p60 (w w1 : World) (ht : TabW w) (hb : Below w.heap.size w w1) : Calls Tryz.prog 13 #[.float .f64 4884153795883302912] w1 fun e w2 => e = .returned (.string ⟨#[51, 112, 54, 48]⟩) ∧ Below w.heap.size w w2 := by
  refine (print_any 4884153795883302912 w1 (by decide) (ht.below hb)).mono ?_
  rintro e w2 ⟨rfl, hb2⟩
  rw [t_3p60]
  exact ⟨rfl, step_below hb hb2⟩
theorem ex_print_third (w w1 : World) (ht : TabW w) (hb : Below w.heap.size w w1) : Calls Tryz.prog 13 #[.float .f64 4599676419421066581] w1 fun e w2 => e = .returned (.string ⟨#[54, 48, 48, 52, 55, 57, 57, 53, 48, 51, 49, 54, 48, 54, 54, 49, 112, 45, 53, 52]⟩) ∧ Below w.heap.size w w2 := by
  refine (print_any 4599676419421066581 w1 (by decide) (ht.below hb)).mono ?_
  rintro e w2 ⟨rfl, hb2⟩
  rw [t_third]
  exact ⟨rfl, step_below hb hb2⟩
theorem ex_do (w w1 : World) (hb : Below w.heap.size w w1) : Calls Tryz.prog 24 #[.int .u8 47, .float .f64 4607182418800017408, .float .f64 9223372036854775808] w1 fun e w2 => e = .returned (.tuple #[.float .f64 18442240474082181120, .bool true]) ∧ Below w.heap.size w w2 := by
  refine (do_any 47 4607182418800017408 9223372036854775808 w1 (by decide)).mono ?_
  rintro e w2 ⟨hb2, r, _, ⟨o, h, hw, rfl⟩ | ⟨h, _⟩⟩
  · have ho : o = .quo := by
      have : opOf 47 = some .quo := rfl
      rw [this] at h; cases h; rfl
    subst ho
    have hq : Go.floatBits .quo .f64 4607182418800017408 9223372036854775808 = some 18442240474082181120 := Num.div_zero (by decide) (by decide)
    obtain ⟨_, h2 | ⟨h2, _⟩⟩ := hw
    · rw [hq] at h2; cases h2
      exact ⟨rfl, step_below hb hb2⟩
    · rw [hq] at h2; cases h2
  · exact absurd h (by decide)
theorem ex_down0 (w w1 : World) (hb : Below w.heap.size w w1) : Calls Tryz.prog 19 #[.float .f64 9223372036854775808] w1 fun e w2 => e = .returned (.float .f64 9223372036854775808) ∧ Below w.heap.size w w2 := by
  refine (down_any 9223372036854775808 w1 (by decide)).mono ?_
  rintro e w2 ⟨r, rfl, h, hb2⟩
  rw [down_nought h]
  exact ⟨rfl, step_below hb hb2⟩
theorem ex_down1 (w w1 : World) (hb : Below w.heap.size w w1) : Calls Tryz.prog 19 #[.float .f64 13832806255468478464] w1 fun e w2 => e = .returned (.float .f64 13835058055282163712) ∧ Below w.heap.size w w2 := by
  refine (down_any 13832806255468478464 w1 (by decide)).mono ?_
  rintro e w2 ⟨r, rfl, h, hb2⟩
  rw [down_ex h]
  exact ⟨rfl, step_below hb hb2⟩
theorem ex_cmp0 (w : World) : Calls Tryz.prog 22 #[.float .f64 9223372036854775808, .float .f64 0] w fun e w2 => e = .returned (.int .i64 (-1)) ∧ w2 = w := by
  have h := compare_any 9223372036854775808 0 w (by decide) (by decide)
  rwa [show cmpI (key 9223372036854775808) (key 0) = -1 by decide] at h
theorem ex_cmp1 (nn : Nat) (hn : nanB nn = true) (hl : nn < 2 ^ 64) (w : World) : Calls Tryz.prog 22 #[.float .f64 9218868437227405312, .float .f64 nn] w fun e w2 => e = .returned (.int .i64 (-1)) ∧ w2 = w := by
  have h := compare_any 9218868437227405312 nn w (by decide) hl
  rwa [Num.key_nan hn, show cmpI (key 9218868437227405312) (2 ^ 64) = -1 by decide] at h
theorem ex_cmp2 (nn : Nat) (hl : nn < 2 ^ 64) (w : World) : Calls Tryz.prog 22 #[.float .f64 nn, .float .f64 nn] w fun e w2 => e = .returned (.int .i64 0) ∧ w2 = w := by
  have h := compare_any nn nn w hl hl
  rwa [show cmpI (key nn) (key nn) = 0 by unfold Num.cmpI; simp] at h
theorem ex_same0 (w : World) : Calls Tryz.prog 20 #[.float .f64 9223372036854775808, .float .f64 9223372036854775808] w fun e w2 => e = .returned (.bool true) ∧ w2 = w := by
  have h := same_any 9223372036854775808 9223372036854775808 w (by decide) (by decide)
  rwa [show sameF 9223372036854775808 9223372036854775808 = true by decide] at h
theorem ex_same1 (r : Nat) (hr : r < 2 ^ 64) (hk : key r = key 4607182418800017408) (w : World) : Calls Tryz.prog 20 #[.float .f64 r, .float .f64 4607182418800017408] w fun e w2 => e = .returned (.bool true) ∧ w2 = w := by
  have h := same_any r 4607182418800017408 w hr (by decide)
  rwa [show sameF r 4607182418800017408 = true by unfold sameF; rw [decide_eq_true hk]] at h
theorem ex_least (nn : Nat) (hn : nanB nn = true) (hl : nn < 2 ^ 64) (w w1 : World) (i : Nat) (hi : i < w1.heap.size) (hb : Below w.heap.size w w1)
    (h0 : w1.cell? ⟨i, 0, none⟩ = some (.float .f64 4611686018427387904)) (h1 : w1.cell? ⟨i, 1, none⟩ = some (.float .f64 nn)) (h2 : w1.cell? ⟨i, 2, none⟩ = some (.float .f64 4607182418800017408)) :
    Calls Tryz.prog 26 #[.slice (some ⟨i, 0, none⟩) 3 3] w1 fun e w2 => (∃ r, e = .returned (.float .f64 r) ∧ r < 2 ^ 64 ∧ key r = key 4607182418800017408) ∧ Below w.heap.size w w2 := by
  have hrow : FRow w1 (.slice (some ⟨i, 0, none⟩) 3 3) [4611686018427387904, nn, 4607182418800017408] := by
    refine ⟨some ⟨i, 0, none⟩, 3, rfl, Nat.le_refl 3, by decide, ?_, fun _ => ⟨⟨i, 0, none⟩, rfl, hi, ?_⟩⟩
    · intro k
      match k with
      | 0 => show 4611686018427387904 < 2 ^ 64; decide
      | 1 => exact hl
      | 2 => show 4607182418800017408 < 2 ^ 64; decide
      | k + 3 => show (0 : Nat) < 2 ^ 64; decide
    · intro k hk
      match k, hk with
      | 0, _ => exact h0
      | 1, _ => exact h1
      | 2, _ => exact h2
      | k + 3, hk => exact absurd hk (by simp only [List.length_cons, List.length_nil]; omega)
  refine (least_any _ _ w1 hrow).mono ?_
  rintro e w2 ⟨r, rfl, h3, h4, hb2⟩
  refine ⟨⟨r, rfl, h3, ?_⟩, step_below hb hb2⟩
  rw [h4]
  show min (key 4607182418800017408) (min (key nn) (min (key 4611686018427387904) (2 ^ 64))) = _
  rw [Num.key_nan hn]
  decide
end Go.Proofs.YtbmmoclaijoofaaGreatDoor
