/- numbers: Least, Greatest; the reference's. -/
import Derived.Test.YtbmmoclaijoofaaGreatDoorNumF
import Derived.Test.YtbmmoclaijoofaaGreatDoorNumT
set_option linter.unusedVariables false
set_option linter.unusedSimpArgs false
namespace Go.Proofs.YtbmmoclaijoofaaGreatDoor
open Go.RowKit Go.BigFrame
open Num (nanB sg rg sv key eqF ltF cmpI wd infR minK maxK)

/-- A number of a place in the order. -/
def KeyIs (K : Int) (w : World) (e : Ending) (w' : World) : Prop := ∃ r, e = .returned (.float .f64 r) ∧ r < 2 ^ 64 ∧ key r = K ∧ Below w.heap.size w w'
theorem minK_pos {l : List Nat} (h : 0 < l.length) : key (Num.bestN Num.lessB l l.length) = minK l l.length := by
  obtain ⟨k, hk⟩ : ∃ k, l.length = k + 1 := ⟨l.length - 1, by omega⟩
  rw [hk]; exact Num.best_min l k
theorem maxK_pos {l : List Nat} (h : 0 < l.length) : key (Num.bestN Num.moreB l l.length) = maxK l l.length := by
  obtain ⟨k, hk⟩ : ∃ k, l.length = k + 1 := ⟨l.length - 1, by omega⟩
  rw [hk]; exact Num.best_max l k
theorem minK_zero {l : List Nat} (h : l.length = 0) : (2 : Int) ^ 64 = minK l l.length := by rw [h]; rfl
/-- The greatest's place. -/
def topK (l : List Nat) : Int := if l.length = 0 then 2 ^ 64 else maxK l l.length
theorem nan_const : key 9221120237041090561 = 2 ^ 64 := by decide
set_option maxRecDepth 100000 in
set_option maxHeartbeats 800000 in
theorem least_any (v : Value) (l : List Nat) (w : World) (hv : FRow w v l) : Calls Tryz.prog 26 #[v] w (KeyIs (minK l l.length) w) := by
  have HP := Lib.hid (fun (r : Nat) (h1 : r < 2 ^ 64) (h2 : key r = minK l l.length) => show KeyIs (minK l l.length) w (.returned (.float .f64 r)) w from ⟨r, rfl, h1, h2, Below.refl _ _⟩)
  generalize KeyIs (minK l l.length) w = post at *
  have HPK := Lib.hid (pickLeast_any v l w hv)
  have HN := Lib.hid (mathNaN_any w)
  have HB := Lib.hid (Num.best_lt Num.lessB l (by obtain ⟨_, _, _, _, _, h, _⟩ := hv; exact h) l.length)
  clear hv
  by_cases h0 : l.length = 0
  · have HQ := Lib.hid (HP.out 9221120237041090561 (by decide) (nan_const.trans (minK_zero h0)))
    rw [show decide (0 < l.length) = false by simp [h0]] at HPK
    clear h0 HP HB
    generalize Num.bestN Num.lessB l l.length = b at *
    go_enter Tryz.func26, Tryz.ntmps26
    go_wp2_with fail
    refine HPK.out.mono ?_
    rintro e w' ⟨rfl, hw⟩
    obtain rfl := hw.symm
    go_wp2_with fail
    refine HN.out.mono ?_
    rintro e w' ⟨rfl, hw⟩
    obtain rfl := hw.symm
    go_wp2
    exact HQ.out
  · have HQ := Lib.hid (HP.out _ HB.out (minK_pos (by omega)))
    rw [show decide (0 < l.length) = true by simp; omega] at HPK
    clear h0 HP HB HN
    generalize Num.bestN Num.lessB l l.length = b at *
    go_enter Tryz.func26, Tryz.ntmps26
    go_wp2_with fail
    refine HPK.out.mono ?_
    rintro e w' ⟨rfl, hw⟩
    obtain rfl := hw.symm
    go_wp2
    exact HQ.out
theorem top_pos {l : List Nat} (h : 0 < l.length) : key (Num.bestN Num.moreB l l.length) = topK l := by unfold topK; rw [if_neg (by omega)]; exact maxK_pos h
set_option maxRecDepth 100000 in
set_option maxHeartbeats 800000 in
theorem great_any (v : Value) (l : List Nat) (w : World) (hv : FRow w v l) : Calls Tryz.prog 28 #[v] w (KeyIs (topK l) w) := by
  have HP := Lib.hid (fun (r : Nat) (h1 : r < 2 ^ 64) (h2 : key r = topK l) => show KeyIs (topK l) w (.returned (.float .f64 r)) w from ⟨r, rfl, h1, h2, Below.refl _ _⟩)
  generalize KeyIs (topK l) w = post at *
  have HPK := Lib.hid (pickGreat_any v l w hv)
  have HN := Lib.hid (mathNaN_any w)
  have HB := Lib.hid (Num.best_lt Num.moreB l (by obtain ⟨_, _, _, _, _, h, _⟩ := hv; exact h) l.length)
  clear hv
  by_cases h0 : l.length = 0
  · have HQ := Lib.hid (HP.out 9221120237041090561 (by decide) (nan_const.trans (by unfold topK; rw [if_pos h0])))
    rw [show decide (0 < l.length) = false by simp [h0]] at HPK
    clear h0 HP HB
    generalize Num.bestN Num.moreB l l.length = b at *
    go_enter Tryz.func28, Tryz.ntmps28
    go_wp2_with fail
    refine HPK.out.mono ?_
    rintro e w' ⟨rfl, hw⟩
    obtain rfl := hw.symm
    go_wp2_with fail
    refine HN.out.mono ?_
    rintro e w' ⟨rfl, hw⟩
    obtain rfl := hw.symm
    go_wp2
    exact HQ.out
  · have HQ := Lib.hid (HP.out _ HB.out (top_pos (by omega)))
    rw [show decide (0 < l.length) = true by simp; omega] at HPK
    clear h0 HP HB HN
    generalize Num.bestN Num.moreB l l.length = b at *
    go_enter Tryz.func28, Tryz.ntmps28
    go_wp2_with fail
    refine HPK.out.mono ?_
    rintro e w' ⟨rfl, hw⟩
    obtain rfl := hw.symm
    go_wp2
    exact HQ.out
theorem first_le (l : List Nat) : ∀ n, key (l.getD 0 0) ≤ maxK l (n + 1)
  | 0 => by show _ ≤ max (key (l.getD 0 0)) (-(2 ^ 64)); omega
  | n + 1 => by
    have := first_le l n
    rw [show maxK l (n + 1 + 1) = max (key (l.getD (n + 1) 0)) (maxK l (n + 1)) from rfl]
    omega
theorem zz : Go.floatBits .quo .f64 0 0 = none := by kernel_rfl
set_option maxRecDepth 100000 in
set_option maxHeartbeats 1600000 in
theorem refLeast_any (v : Value) (l : List Nat) (w : World) (hv : FRow w v l) : Calls Tryz.prog 27 #[v] w (KeyIs (minK l l.length) w) := by
  obtain ⟨nn, hn1, hn2, hrun⟩ := run_nan (P := Tryz.prog) w .quo 25 0 0 (by simp) zz
  have HP := Lib.hid (fun (r : Nat) (h1 : r < 2 ^ 64) (h2 : key r = minK l l.length) => show KeyIs (minK l l.length) w (.returned (.float .f64 r)) w.drew from ⟨r, rfl, h1, h2, (Below.refl _ _).drew⟩)
  generalize KeyIs (minK l l.length) w = post at *
  have HNN := Lib.hid (Num.key_nan hn1)
  have hv2 := hv.below ((Below.refl w.heap.size w).drew)
  obtain ⟨A, cap, rfl, hlc, hcm, hlt64, hcells⟩ := hv2
  have HL := Lib.hid hlt64
  have HC := Lib.hid hcells
  have HN2 := Lib.hid hn2
  unfold maxLen at hcm
  clear hlt64 hcells hv hn1 hn2
  go_enter Tryz.func27, Tryz.ntmps27
  go_wp2
  go_loopw [4, 5] (fun b iv wr => ∃ (k r : Nat), k ≤ l.length ∧ iv = .int .i64 (k : Int) ∧ b = .float .f64 r ∧ wr = w.drew ∧ Hid (r < 2 ^ 64) ∧ Hid (key r = minK l k)) (fun _ iv _ => l.length - (intOf iv).toNat)
  case atStart => exact ⟨0, nn, by omega, rfl, rfl, rfl, HN2, Lib.hid HNN.out⟩
  case round =>
    obtain ⟨k, r, hk, rfl, rfl, hwr, HR, HK⟩ := hrel
    obtain rfl := hwr.symm
    by_cases hkl : k < l.length
    · have hki : (k : Int) < (l.length : Int) := by omega
      obtain ⟨ad, rfl, _, hc⟩ := HC.out (by omega)
      have hcx := hc k hkl
      have HX := Lib.hid (HL.out k)
      have HNX := Lib.hid (show minK l (k + 1) = min (key (l.getD k 0)) (minK l k) from rfl)
      clear hc
      generalize l.getD k 0 = x at *
      have HA := Lib.hid (refCompare_any x r w.drew HX.out HR.out)
      have hl := Num.cmp_less (key x) (key r)
      by_cases hlt : key x < key r
      · rw [decide_eq_true hlt, decide_eq_true_eq] at hl
        have HK2 := Lib.hid (show key x = minK l (k + 1) by rw [HNX.out, ← HK.out]; omega)
        clear hlt
        generalize cmpI (key x) (key r) = c at *
        go_wp2_with fail
        refine HA.out.mono ?_
        rintro e w' ⟨rfl, hw⟩
        obtain rfl := hw.symm
        go_wp2
        go_roundw
        case rel => exact ⟨k + 1, x, by omega, by go_num, rfl, by trivial, HX, HK2⟩
        case measure => simp [intOf]; omega
      · rw [decide_eq_false hlt, decide_eq_false_iff_not] at hl
        have HK2 := Lib.hid (show key r = minK l (k + 1) by rw [HNX.out, ← HK.out]; omega)
        clear hlt
        generalize cmpI (key x) (key r) = c at *
        go_wp2_with fail
        refine HA.out.mono ?_
        rintro e w' ⟨rfl, hw⟩
        obtain rfl := hw.symm
        go_wp2
        go_roundw
        case rel => exact ⟨k + 1, r, by omega, by go_num, rfl, by trivial, HR, HK2⟩
        case measure => simp [intOf]; omega
    · have hki : ¬ (k : Int) < (l.length : Int) := by omega
      have HQ := Lib.hid (HP.out r HR.out (by rw [HK.out, show k = l.length by omega]))
      go_wp2
      exact HQ.out
set_option maxRecDepth 100000 in
set_option maxHeartbeats 1600000 in
theorem refGreat_any (v : Value) (l : List Nat) (w : World) (hv : FRow w v l) : Calls Tryz.prog 29 #[v] w (KeyIs (topK l) w) := by
  by_cases h0 : l.length = 0
  · have HLE := Lib.hid (refLeast_any v l w hv)
    have hk : minK l l.length = topK l := by unfold topK; rw [if_pos h0, ← minK_zero h0]
    rw [hk] at HLE
    unfold KeyIs at HLE
    have HP := Lib.hid (fun (r : Nat) (w' : World) (h1 : r < 2 ^ 64) (h2 : key r = topK l) (hb : Below w.heap.size w w') => show KeyIs (topK l) w (.returned (.float .f64 r)) w' from ⟨r, rfl, h1, h2, hb⟩)
    generalize KeyIs (topK l) w = post at *
    obtain ⟨A, cap, rfl, hlc, hcm, _, _⟩ := hv
    have h0i : (l.length : Int) = 0 := by omega
    rw [h0] at *
    clear hk
    go_enter Tryz.func29, Tryz.ntmps29
    go_wp2_with fail
    refine HLE.out.mono ?_
    rintro e w' ⟨r, rfl, h1, h2, hb⟩
    have HQ := Lib.hid (HP.out r w' h1 h2 hb)
    clear h1 h2 hb
    go_wp2
    exact HQ.out
  · have HP := Lib.hid (fun (r : Nat) (h1 : r < 2 ^ 64) (h2 : key r = maxK l l.length) => show KeyIs (topK l) w (.returned (.float .f64 r)) w from ⟨r, rfl, h1, by unfold topK; rw [if_neg h0]; exact h2, Below.refl _ _⟩)
    generalize KeyIs (topK l) w = post at *
    obtain ⟨A, cap, rfl, hlc, hcm, hlt64, hcells⟩ := hv
    have HL := Lib.hid hlt64
    have HC := Lib.hid hcells
    unfold maxLen at hcm
    have hlp : 0 < l.length := by omega
    obtain ⟨ad, rfl, _, hc0⟩ := HC.out hlp
    have hcz := hc0 0 hlp
    rw [add_zero] at hcz
    have HX0 := Lib.hid (HL.out 0)
    have HM1 := Lib.hid (show maxK l 1 = key (l.getD 0 0) by have := Num.key_ge (l.getD 0 0); show max (key (l.getD 0 0)) (-(2 ^ 64)) = _; omega)
    have hl0 : ¬ (l.length : Int) = 0 := by omega
    have hl0b : ((l.length : Int) == 0) = false := by simpa using hl0
    obtain ⟨x0, hx0⟩ : ∃ x0, x0 = l.getD 0 0 := ⟨_, rfl⟩
    rw [← hx0] at hcz HX0 HM1
    have HD0 := Lib.hid hx0
    clear hlt64 hcells hc0 h0 hx0
    go_enter Tryz.func29, Tryz.ntmps29
    go_wp2
    go_loopw [3, 4] (fun b iv wr => ∃ (k r : Nat), k ≤ l.length ∧ iv = .int .i64 (k : Int) ∧ b = .float .f64 r ∧ wr = w ∧ Hid (r < 2 ^ 64) ∧ Hid (key r = max (key x0) (maxK l k))) (fun _ iv _ => l.length - (intOf iv).toNat)
    case atStart => exact ⟨0, x0, by omega, rfl, rfl, rfl, HX0, Lib.hid (by have := Num.key_ge x0; show key x0 = max (key x0) (-(2 ^ 64)); omega)⟩
    case round =>
      obtain ⟨k, r, hk, rfl, rfl, hwr, HR, HK⟩ := hrel
      obtain rfl := hwr.symm
      by_cases hkl : k < l.length
      · have hki : (k : Int) < (l.length : Int) := by omega
        obtain ⟨ad2, e2, _, hc⟩ := HC.out (by omega)
        cases e2
        have hcx := hc k hkl
        have HX := Lib.hid (HL.out k)
        have HNX := Lib.hid (show maxK l (k + 1) = max (key (l.getD k 0)) (maxK l k) from rfl)
        clear hc
        generalize l.getD k 0 = x at *
        have HA := Lib.hid (refCompare_any x r w HX.out HR.out)
        have hl := Num.cmp_more (key x) (key r)
        by_cases hlt : key r < key x
        · rw [decide_eq_true hlt, decide_eq_true_eq] at hl
          have HK2 := Lib.hid (show key x = max (key x0) (maxK l (k + 1)) by rw [HNX.out]; have := HK.out; omega)
          clear hlt
          generalize cmpI (key x) (key r) = c at *
          go_wp2_with fail
          refine HA.out.mono ?_
          rintro e w' ⟨rfl, hw⟩
          obtain rfl := hw.symm
          go_wp2
          go_roundw
          case rel => exact ⟨k + 1, x, by omega, by go_num, rfl, by trivial, HX, HK2⟩
          case measure => simp [intOf]; omega
        · rw [decide_eq_false hlt, decide_eq_false_iff_not] at hl
          have HK2 := Lib.hid (show key r = max (key x0) (maxK l (k + 1)) by rw [HNX.out]; have := HK.out; omega)
          clear hlt
          generalize cmpI (key x) (key r) = c at *
          go_wp2_with fail
          refine HA.out.mono ?_
          rintro e w' ⟨rfl, hw⟩
          obtain rfl := hw.symm
          go_wp2
          go_roundw
          case rel => exact ⟨k + 1, r, by omega, by go_num, rfl, by trivial, HR, HK2⟩
          case measure => simp [intOf]; omega
      · have hki : ¬ (k : Int) < (l.length : Int) := by omega
        have HQ := Lib.hid (HP.out r HR.out (by
          rw [HK.out, show k = l.length by omega]
          obtain ⟨n, hn⟩ : ∃ n, l.length = n + 1 := ⟨l.length - 1, by omega⟩
          rw [hn]
          have := first_le l n
          rw [← HD0.out] at this
          omega))
        go_wp2
        exact HQ.out
end Go.Proofs.YtbmmoclaijoofaaGreatDoor
