/- numbers: Least, Greatest; the reference's. -/
import Derived.Test.YtbmmoclaijoofaaGreatDoorNumD
set_option linter.unusedVariables false
set_option linter.unusedSimpArgs false
namespace Go.Proofs.YtbmmoclaijoofaaGreatDoor
open Go.RowKit Go.BigFrame
open Num (nanB sg rg sv key eqF ltF cmpI wd infR)

/-- A row of numbers. -/
def FRow (w : World) (v : Value) (l : List Nat) : Prop := ∃ A cap, v = .slice A l.length cap ∧ l.length ≤ cap ∧ cap ≤ maxLen ∧ (∀ k, l.getD k 0 < 2 ^ 64) ∧
  (0 < l.length → ∃ ad, A = some ad ∧ ad.block < w.heap.size ∧ ∀ k, k < l.length → w.cell? (ad.add k) = some (.float .f64 (l.getD k 0)))
theorem FRow.below {w w' : World} {v : Value} {l : List Nat} (h : FRow w v l) (hb : Below w.heap.size w w') : FRow w' v l := by
  obtain ⟨A, cap, rfl, h1, h2, h3, h4⟩ := h
  refine ⟨A, cap, rfl, h1, h2, h3, fun h0 => ?_⟩
  obtain ⟨ad, rfl, hl, hc⟩ := h4 h0
  exact ⟨ad, rfl, Nat.lt_of_lt_of_le hl hb.size, fun k hk => (hb.cell (p := ad.add k) (by rw [add_block]; exact hl)).trans (hc k hk)⟩
namespace Num
theorem key_le (x : Nat) : key x ≤ 2 ^ 64 := by
  cases h : nanB x with
  | true => rw [key_nan h]; omega
  | false => have := key_lt h; omega
/-- The first that is ahead of all ahead of it. -/
def bestN (ahead : Nat → Nat → Bool) (l : List Nat) : Nat → Nat
  | 0 => 0
  | k + 1 => if k = 0 then l.getD k 0 else if ahead (l.getD k 0) (bestN ahead l k) then l.getD k 0 else bestN ahead l k
def lessB (x y : Nat) : Bool := decide (key x < key y)
def moreB (x y : Nat) : Bool := decide (key y < key x)
def minK (l : List Nat) : Nat → Int
  | 0 => 2 ^ 64
  | k + 1 => min (key (l.getD k 0)) (minK l k)
def maxK (l : List Nat) : Nat → Int
  | 0 => -(2 ^ 64)
  | k + 1 => max (key (l.getD k 0)) (maxK l k)
theorem best_min (l : List Nat) : ∀ k, key (bestN lessB l (k + 1)) = minK l (k + 1)
  | 0 => by unfold bestN minK minK; have := key_le (l.getD 0 0); rw [if_pos rfl]; omega
  | k + 1 => by
    have ih := best_min l k
    rw [show minK l (k + 1 + 1) = min (key (l.getD (k + 1) 0)) (minK l (k + 1)) from rfl, ← ih]
    rw [show bestN lessB l (k + 1 + 1) = if k + 1 = 0 then l.getD (k + 1) 0 else if lessB (l.getD (k + 1) 0) (bestN lessB l (k + 1)) then l.getD (k + 1) 0 else bestN lessB l (k + 1) from rfl, if_neg (by omega)]
    unfold lessB
    split
    · rename_i h; rw [decide_eq_true_eq] at h; omega
    · rename_i h; rw [decide_eq_true_eq] at h; omega
theorem key_ge (x : Nat) : -(2 ^ 64) ≤ key x := by
  cases h : nanB x with
  | true => rw [key_nan h]; omega
  | false => have := key_lt h; omega
theorem best_max (l : List Nat) : ∀ k, key (bestN moreB l (k + 1)) = maxK l (k + 1)
  | 0 => by unfold bestN maxK maxK; have := key_ge (l.getD 0 0); rw [if_pos rfl]; omega
  | k + 1 => by
    have ih := best_max l k
    rw [show maxK l (k + 1 + 1) = max (key (l.getD (k + 1) 0)) (maxK l (k + 1)) from rfl, ← ih]
    rw [show bestN moreB l (k + 1 + 1) = if k + 1 = 0 then l.getD (k + 1) 0 else if moreB (l.getD (k + 1) 0) (bestN moreB l (k + 1)) then l.getD (k + 1) 0 else bestN moreB l (k + 1) from rfl, if_neg (by omega)]
    unfold moreB
    split
    · rename_i h; rw [decide_eq_true_eq] at h; omega
    · rename_i h; rw [decide_eq_true_eq] at h; omega
theorem best_lt (ahead : Nat → Nat → Bool) (l : List Nat) (h : ∀ k, l.getD k 0 < 2 ^ 64) : ∀ k, bestN ahead l k < 2 ^ 64
  | 0 => by unfold bestN; decide
  | k + 1 => by
    unfold bestN
    split
    · exact h k
    · split
      · exact h k
      · exact best_lt ahead l h k
theorem cmp_less (a b : Int) : decide (cmpI a b < 0) = decide (a < b) := by
  rw [decide_eq_decide]
  unfold cmpI
  split
  · simp; omega
  · split <;> simp <;> omega
theorem cmp_more (a b : Int) : decide (0 < cmpI a b) = decide (b < a) := by
  rw [decide_eq_decide]
  unfold cmpI
  split
  · simp; omega
  · split <;> simp <;> omega
end Num
set_option maxRecDepth 100000 in
set_option maxHeartbeats 400000 in
theorem leastF_any (x y : Nat) (w : World) (hx : x < 2 ^ 64) (hy : y < 2 ^ 64) : Calls Tryz.prog 50 #[.float .f64 x, .float .f64 y] w fun e w' => e = .returned (.bool (Num.lessB x y)) ∧ w' = w := by
  have HP := Lib.hid (fun (b : Bool) (h : b = Num.lessB x y) => show Ending.returned (.bool b) = .returned (.bool (Num.lessB x y)) by rw [h])
  have HC := Lib.hid (compare_any x y w hx hy)
  have HS := Lib.hid (show decide (cmpI (key x) (key y) < 0) = Num.lessB x y from Num.cmp_less (key x) (key y))
  generalize cmpI (key x) (key y) = c at *
  clear hx hy
  go_enter Tryz.func50, Tryz.ntmps50
  go_wp2_with fail
  refine HC.out.mono ?_
  rintro e w' ⟨rfl, hw⟩
  obtain rfl := hw.symm
  go_wp2
  go_ret
  exact ⟨HP.out _ HS.out, by trivial⟩
set_option maxRecDepth 100000 in
set_option maxHeartbeats 400000 in
theorem greatF_any (x y : Nat) (w : World) (hx : x < 2 ^ 64) (hy : y < 2 ^ 64) : Calls Tryz.prog 52 #[.float .f64 x, .float .f64 y] w fun e w' => e = .returned (.bool (Num.moreB x y)) ∧ w' = w := by
  have HP := Lib.hid (fun (b : Bool) (h : b = Num.moreB x y) => show Ending.returned (.bool b) = .returned (.bool (Num.moreB x y)) by rw [h])
  have HC := Lib.hid (compare_any x y w hx hy)
  have HS := Lib.hid (show decide (0 < cmpI (key x) (key y)) = Num.moreB x y from Num.cmp_more (key x) (key y))
  generalize cmpI (key x) (key y) = c at *
  clear hx hy
  go_enter Tryz.func52, Tryz.ntmps52
  go_wp2_with fail
  refine HC.out.mono ?_
  rintro e w' ⟨rfl, hw⟩
  obtain rfl := hw.symm
  go_wp2
  go_ret
  exact ⟨HP.out _ HS.out, by trivial⟩
set_option maxRecDepth 100000 in
set_option maxHeartbeats 1600000 in
theorem pickLeast_any (v : Value) (l : List Nat) (w : World) (hv : FRow w v l) : Calls Tryz.prog 49 #[v, .func (.func 50) #[] #[]] w fun e w' => e = .returned (.tuple #[.float .f64 (Num.bestN Num.lessB l l.length), .bool (decide (0 < l.length))]) ∧ w' = w := by
  have HP := Lib.hid (fun (r : Nat) (b : Bool) (h1 : r = Num.bestN Num.lessB l l.length) (h2 : b = decide (0 < l.length)) => show (fun e w' => e = Ending.returned (.tuple #[.float .f64 (Num.bestN Num.lessB l l.length), .bool (decide (0 < l.length))]) ∧ w' = w) (.returned (.tuple #[.float .f64 r, .bool b])) w from ⟨by rw [h1, h2], rfl⟩)
  generalize (fun e w' => e = Ending.returned (.tuple #[.float .f64 (Num.bestN Num.lessB l l.length), .bool (decide (0 < l.length))]) ∧ w' = w) = post at *
  obtain ⟨A, cap, rfl, hlc, hcm, hlt64, hcells⟩ := hv
  have HL := Lib.hid hlt64
  have HB := Lib.hid (Num.best_lt Num.lessB l hlt64)
  have HC := Lib.hid hcells
  unfold maxLen at hcm
  clear hlt64 hcells
  go_enter Tryz.func49, Tryz.ntmps49
  go_wp2
  go_loopw [6, 11] (fun b iv wr => ∃ k : Nat, k ≤ l.length ∧ iv = .int .i64 (k : Int) ∧ b = .float .f64 (Num.bestN Num.lessB l k) ∧ wr = w) (fun _ iv _ => l.length - (intOf iv).toNat)
  case atStart => exact ⟨0, by omega, rfl, rfl, rfl⟩
  case round =>
    obtain ⟨k, hk, rfl, rfl, hwr⟩ := hrel
    obtain rfl := hwr.symm
    by_cases hkl : k < l.length
    · have hki : (k : Int) < (l.length : Int) := by omega
      obtain ⟨ad, rfl, _, hc⟩ := HC.out (by omega)
      have hcx := hc k hkl
      have HX := Lib.hid (HL.out k)
      have HBK := Lib.hid (HB.out k)
      have HNX := Lib.hid (show Num.bestN Num.lessB l (k + 1) = if k = 0 then l.getD k 0 else if Num.lessB (l.getD k 0) (Num.bestN Num.lessB l k) then l.getD k 0 else Num.bestN Num.lessB l k from rfl)
      clear hc
      generalize l.getD k 0 = x at *
      generalize Num.bestN Num.lessB l k = b at *
      by_cases hk0 : k = 0
      · have HN2 := Lib.hid (show x = Num.bestN Num.lessB l (k + 1) by rw [HNX.out, if_pos hk0])
        subst hk0
        rw [add_zero] at hcx
        go_wp2
        go_roundw
        case rel => exact ⟨1, by omega, rfl, by rw [← HN2.out], by trivial⟩
        case measure => simp [intOf]; omega
      · have hk0i : ¬ (k : Int) = 0 := by omega
        have HA := Lib.hid (leastF_any x b w HX.out HBK.out)
        cases hab : Num.lessB x b
        · rw [hab] at HA
          have HN2 := Lib.hid (show b = Num.bestN Num.lessB l (k + 1) by rw [HNX.out, if_neg hk0, hab]; rfl)
          clear hk0 hab
          go_wp2_with fail
          refine HA.out.mono ?_
          rintro e w' ⟨rfl, hw⟩
          obtain rfl := hw.symm
          go_wp2
          go_roundw
          case rel => exact ⟨k + 1, by omega, by go_num, by rw [← HN2.out], by trivial⟩
          case measure => simp [intOf]; omega
        · rw [hab] at HA
          have HN2 := Lib.hid (show x = Num.bestN Num.lessB l (k + 1) by rw [HNX.out, if_neg hk0, hab]; rfl)
          clear hk0 hab
          go_wp2_with fail
          refine HA.out.mono ?_
          rintro e w' ⟨rfl, hw⟩
          obtain rfl := hw.symm
          go_wp2
          go_roundw
          case rel => exact ⟨k + 1, by omega, by go_num, by rw [← HN2.out], by trivial⟩
          case measure => simp [intOf]; omega
    · have hki : ¬ (k : Int) < (l.length : Int) := by omega
      obtain rfl : k = l.length := by omega
      go_wp2
      exact HP.out _ _ rfl rfl
set_option maxRecDepth 100000 in
set_option maxHeartbeats 1600000 in
theorem pickGreat_any (v : Value) (l : List Nat) (w : World) (hv : FRow w v l) : Calls Tryz.prog 49 #[v, .func (.func 52) #[] #[]] w fun e w' => e = .returned (.tuple #[.float .f64 (Num.bestN Num.moreB l l.length), .bool (decide (0 < l.length))]) ∧ w' = w := by
  have HP := Lib.hid (fun (r : Nat) (b : Bool) (h1 : r = Num.bestN Num.moreB l l.length) (h2 : b = decide (0 < l.length)) => show (fun e w' => e = Ending.returned (.tuple #[.float .f64 (Num.bestN Num.moreB l l.length), .bool (decide (0 < l.length))]) ∧ w' = w) (.returned (.tuple #[.float .f64 r, .bool b])) w from ⟨by rw [h1, h2], rfl⟩)
  generalize (fun e w' => e = Ending.returned (.tuple #[.float .f64 (Num.bestN Num.moreB l l.length), .bool (decide (0 < l.length))]) ∧ w' = w) = post at *
  obtain ⟨A, cap, rfl, hlc, hcm, hlt64, hcells⟩ := hv
  have HL := Lib.hid hlt64
  have HB := Lib.hid (Num.best_lt Num.moreB l hlt64)
  have HC := Lib.hid hcells
  unfold maxLen at hcm
  clear hlt64 hcells
  go_enter Tryz.func49, Tryz.ntmps49
  go_wp2
  go_loopw [6, 11] (fun b iv wr => ∃ k : Nat, k ≤ l.length ∧ iv = .int .i64 (k : Int) ∧ b = .float .f64 (Num.bestN Num.moreB l k) ∧ wr = w) (fun _ iv _ => l.length - (intOf iv).toNat)
  case atStart => exact ⟨0, by omega, rfl, rfl, rfl⟩
  case round =>
    obtain ⟨k, hk, rfl, rfl, hwr⟩ := hrel
    obtain rfl := hwr.symm
    by_cases hkl : k < l.length
    · have hki : (k : Int) < (l.length : Int) := by omega
      obtain ⟨ad, rfl, _, hc⟩ := HC.out (by omega)
      have hcx := hc k hkl
      have HX := Lib.hid (HL.out k)
      have HBK := Lib.hid (HB.out k)
      have HNX := Lib.hid (show Num.bestN Num.moreB l (k + 1) = if k = 0 then l.getD k 0 else if Num.moreB (l.getD k 0) (Num.bestN Num.moreB l k) then l.getD k 0 else Num.bestN Num.moreB l k from rfl)
      clear hc
      generalize l.getD k 0 = x at *
      generalize Num.bestN Num.moreB l k = b at *
      by_cases hk0 : k = 0
      · have HN2 := Lib.hid (show x = Num.bestN Num.moreB l (k + 1) by rw [HNX.out, if_pos hk0])
        subst hk0
        rw [add_zero] at hcx
        go_wp2
        go_roundw
        case rel => exact ⟨1, by omega, rfl, by rw [← HN2.out], by trivial⟩
        case measure => simp [intOf]; omega
      · have hk0i : ¬ (k : Int) = 0 := by omega
        have HA := Lib.hid (greatF_any x b w HX.out HBK.out)
        cases hab : Num.moreB x b
        · rw [hab] at HA
          have HN2 := Lib.hid (show b = Num.bestN Num.moreB l (k + 1) by rw [HNX.out, if_neg hk0, hab]; rfl)
          clear hk0 hab
          go_wp2_with fail
          refine HA.out.mono ?_
          rintro e w' ⟨rfl, hw⟩
          obtain rfl := hw.symm
          go_wp2
          go_roundw
          case rel => exact ⟨k + 1, by omega, by go_num, by rw [← HN2.out], by trivial⟩
          case measure => simp [intOf]; omega
        · rw [hab] at HA
          have HN2 := Lib.hid (show x = Num.bestN Num.moreB l (k + 1) by rw [HNX.out, if_neg hk0, hab]; rfl)
          clear hk0 hab
          go_wp2_with fail
          refine HA.out.mono ?_
          rintro e w' ⟨rfl, hw⟩
          obtain rfl := hw.symm
          go_wp2
          go_roundw
          case rel => exact ⟨k + 1, by omega, by go_num, by rw [← HN2.out], by trivial⟩
          case measure => simp [intOf]; omega
    · have hki : ¬ (k : Int) < (l.length : Int) := by omega
      obtain rfl : k = l.length := by omega
      go_wp2
      exact HP.out _ _ rfl rfl
end Go.Proofs.YtbmmoclaijoofaaGreatDoor
