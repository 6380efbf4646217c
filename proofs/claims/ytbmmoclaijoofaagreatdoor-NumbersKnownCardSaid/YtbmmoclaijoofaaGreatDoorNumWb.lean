/- numbers: the law NumbersOrder, walked. -/
import Derived.Test.YtbmmoclaijoofaaGreatDoorNumWa
set_option linter.unusedVariables false
set_option linter.unusedSimpArgs false
namespace Go.Proofs.YtbmmoclaijoofaaGreatDoor
open Go.RowKit Go.BigFrame
open Num (nanB sg rg rv sv tv key eqF ltF cmpI wd infR R53 P0 wholeR flN ONE TWO decS expS textR textN oddM oddE)

theorem cmpI_swap (a b : Int) : cmpI a b = -cmpI b a := by
  unfold Num.cmpI
  by_cases h1 : a < b
  · rw [if_pos h1, if_neg (by omega), if_pos h1]
  · rw [if_neg h1]
    by_cases h2 : b < a
    · rw [if_pos h2, if_pos h2]; rfl
    · rw [if_neg h2, if_neg h2, if_neg h1]; rfl
theorem cmpI_zero (a b : Int) : cmpI a b = 0 ↔ a = b := by
  unfold Num.cmpI
  constructor
  · intro h
    split at h
    · omega
    · split at h <;> omega
  · rintro rfl
    rw [if_neg (by omega), if_neg (by omega)]
theorem cmpI_le (a b : Int) : cmpI a b ≤ 0 ↔ a ≤ b := by
  unfold Num.cmpI
  split
  · omega
  · split <;> omega
theorem cmpI_lt (a b : Int) : cmpI a b < 0 ↔ a < b := by
  unfold Num.cmpI
  split
  · omega
  · split <;> omega
theorem cmpI_range (a b : Int) : cmpI a b = -1 ∨ cmpI a b = 0 ∨ cmpI a b = 1 := by
  unfold Num.cmpI
  split
  · simp
  · split <;> simp
theorem zero_eq (c : Int) (b : Bool) (h : (c = 0) ↔ b = true) : (c == 0) = b := by
  cases b
  · simp at h; simp [h]
  · simp at h; simp [h]
set_option maxRecDepth 100000 in
set_option maxHeartbeats 1600000 in
theorem numbersOrder_walk (x y z : Nat) (w : World) (hx : x < 2 ^ 64) (hy : y < 2 ^ 64) (hz : z < 2 ^ 64) (he : ErrsW w) (ht : TabW w) : Calls Tryz.prog 8 #[.float .f64 x, .float .f64 y, .float .f64 z] w (YesPost w) := by
  have HP := Lib.hid (fun (w' : World) (hb : Below w.heap.size w w') => show YesPost w (.returned (.bool true)) w' from ⟨rfl, hb⟩)
  generalize YesPost w = post at *
  have KW := Lib.hid (fun (w1 : World) (hb : Below w.heap.size w w1) => works_at w w1 he ht hb)
  have K1 := Lib.hid (compare_any x y w hx hy)
  have K2 := Lib.hid (compare_any y z w hy hz)
  have K3 := Lib.hid (compare_any x z w hx hz)
  have K5 := Lib.hid (print_any x w hx ht)
  have K6 := Lib.hid (fun (w1 : World) (hb : Below w.heap.size w w1) => print_any y w1 hy (ht.below hb))
  have K7 := Lib.hid (fun (w1 : World) => same_any x y w1 hx hy)
  unfold TextPost at K5 K6
  have hcc : cmpI (key y) (key x) = -cmpI (key x) (key y) := cmpI_swap _ _
  have hs : ((textN x).toList == (textN y).toList) = sameF x y := by
    rw [str_eq_is]
    unfold sameF
    exact decide_eq_decide.2 (textN_inj hx hy)
  have h0 : (cmpI (key x) (key y) == 0) = sameF x y := zero_eq _ _ ((cmpI_zero _ _).trans (by unfold sameF; rw [decide_eq_true_eq]))
  have t1 : ¬ (cmpI (key x) (key y) ≤ 0 ∧ cmpI (key y) (key z) ≤ 0 ∧ 0 < cmpI (key x) (key z)) := fun ⟨a, b, c⟩ => by
    rw [cmpI_le] at a b
    have : ¬ cmpI (key x) (key z) ≤ 0 := by omega
    rw [cmpI_le] at this; omega
  have t2 : ¬ (cmpI (key x) (key y) < 0 ∧ cmpI (key y) (key z) ≤ 0 ∧ 0 ≤ cmpI (key x) (key z)) := fun ⟨a, b, c⟩ => by
    rw [cmpI_lt] at a
    rw [cmpI_le] at b
    have : ¬ cmpI (key x) (key z) < 0 := by omega
    rw [cmpI_lt] at this; omega
  have r1 := cmpI_range (key x) (key y)
  have r2 := cmpI_range (key y) (key z)
  have r3 := cmpI_range (key x) (key z)
  have K4' := Lib.hid (compare_any y x w hy hx)
  rw [hcc] at K4'
  clear hcc he ht hx hy hz
  generalize cmpI (key x) (key y) = c1 at *
  generalize cmpI (key y) (key z) = c2 at *
  generalize cmpI (key x) (key z) = c3 at *
  generalize textN x = tx at *
  generalize textN y = ty at *
  generalize sameF x y = b at *
  have hb2 := bb_eq b
  rcases r1 with rfl | rfl | rfl <;> rcases r2 with rfl | rfl | rfl <;> rcases r3 with rfl | rfl | rfl <;> first
    | (exfalso; first | (apply t1; decide) | (apply t2; decide))
    | (have hq : b = _ := h0.symm.trans rfl
       clear t1 t2 h0
       subst hq
       go_enter Tryz.func8, Tryz.ntmps8
       go_wp2_with fail
       refine K1.out.mono ?_
       rintro e w1 ⟨rfl, hw⟩
       obtain rfl := hw.symm
       go_wp2_with fail
       refine K2.out.mono ?_
       rintro e w2 ⟨rfl, hw⟩
       obtain rfl := hw.symm
       go_wp2_with fail
       refine K3.out.mono ?_
       rintro e w3 ⟨rfl, hw⟩
       obtain rfl := hw.symm
       go_wp2_with fail
       refine K4'.out.mono ?_
       rintro e w4 ⟨rfl, hw⟩
       obtain rfl := hw.symm
       go_wp2_with fail
       refine K5.out.mono ?_
       rintro e w5 ⟨rfl, hb5⟩
       have HB5 := Lib.hid hb5
       clear hb5
       go_wp2_with fail
       refine (K6.out _ HB5.out).mono ?_
       rintro e w6 ⟨rfl, hb6⟩
       have HB6 := Lib.hid (step_below HB5.out hb6)
       clear hb6
       go_wp2_with fail
       refine (K7.out _).mono ?_
       rintro e w7 ⟨rfl, hw⟩
       obtain rfl := hw.symm
       go_wp2_with fail
       refine (KW.out _ HB6.out).mono ?_
       rintro e w8 ⟨rfl, hb8⟩
       have HB8 := Lib.hid hb8
       clear hb8
       go_wp2
       exact HP.out _ HB8.out)
end Go.Proofs.YtbmmoclaijoofaaGreatDoor
