/- Comparing numbers and rows of numbers. -/
import Derived.Test.YtjckcdemkpmheaaDoorVerF
namespace Go.Proofs.YtjckcdemkpmheaaDoor
open Go.RowKit Go.BigFrame
open Ver (cmpI cmpL bytesI)

/-- A slice of one-cell values, that lies below block B. -/
def Reads (w : World) (B : Nat) (v : Value) (xs : List Value) : Prop :=
  ∃ A cap, v = .slice A xs.length cap ∧ xs.length ≤ cap ∧ cap ≤ maxLen ∧ (A = none → cap = 0) ∧ (0 < xs.length → ∃ ad, A = some ad ∧ ad.block < B ∧ ∀ j u, xs[j]? = some u → w.cell? (ad.add j) = some u)
theorem Reads.below {w w' : World} {B : Nat} {v : Value} {xs : List Value} (h : Reads w B v xs) (hb : Below B w w') : Reads w' B v xs := by
  obtain ⟨A, cap, e, h1, h2, h3, h4⟩ := h
  exact ⟨A, cap, e, h1, h2, h3, fun hn => by
    obtain ⟨ad, e2, hl, hc⟩ := h4 hn
    exact ⟨ad, e2, hl, fun j u hu => (hb.cell (by rw [add_block]; exact hl)).trans (hc j u hu)⟩⟩
theorem Reads.more {w : World} {B B' : Nat} {v : Value} {xs : List Value} (h : Reads w B v xs) (hb : B ≤ B') : Reads w B' v xs := by
  obtain ⟨A, cap, e, h1, h2, h3, h4⟩ := h
  exact ⟨A, cap, e, h1, h2, h3, fun hn => by
    obtain ⟨ad, e2, hl, hc⟩ := h4 hn
    exact ⟨ad, e2, by omega, hc⟩⟩
theorem Reads.own {w : World} {base n : Nat} {e : TypeId} {v : Value} {xs : List Value} (h : w.ownsRow base e 1 v n xs) : Reads w w.heap.size v xs := by
  obtain ⟨hl, ⟨rfl, rfl⟩ | ⟨g, cap, cur, rfl, hg, hgg, h1, h2, h3, h4⟩⟩ := h
  · have : xs = [] := List.eq_nil_of_length_eq_zero (by omega)
    subst this
    exact ⟨none, 0, rfl, Nat.le_refl _, Nat.zero_le _, fun _ => rfl, fun h => absurd h (by simp)⟩
  · rw [Nat.mul_one] at hl h4
    refine ⟨_, cap, by rw [hl], by omega, h2, (fun h => by cases h), fun hn => ⟨_, rfl, block_lt hgg, fun j u hu => ?_⟩⟩
    have hj : j < n := by have := (List.getElem?_eq_some_iff.1 hu).1; omega
    have hx : cur[j]? = some u := by
      rw [← h4, List.getElem?_take, if_pos hj] at hu
      simpa using hu
    have e : (⟨g, 0, none⟩ : Addr).add j = ⟨g, j, none⟩ := by unfold Addr.add; by_cases h0 : j = 0 <;> simp [h0]
    rw [e, cell_of_row _ _ _ _ _ _ hgg, hx]
theorem Reads.nil (w : World) (B : Nat) : Reads w B (.slice none 0 0) [] := ⟨none, 0, rfl, Nat.le_refl _, Nat.zero_le _, fun _ => rfl, fun h => absurd h (by simp)⟩
def ints (xs : List Int) : List Value := xs.map (Value.int .i64)
def byts (xs : List Int) : List Value := xs.map (Value.int .u8)
theorem ints_get (xs : List Int) (k : Nat) (h : k < xs.length) : (ints xs)[k]? = some (.int .i64 (xs.getD k 0)) := by simp [ints, h]
theorem byts_get (xs : List Int) (k : Nat) (h : k < xs.length) : (byts xs)[k]? = some (.int .u8 (xs.getD k 0)) := by simp [byts, h]
theorem ints_len (xs : List Int) : (ints xs).length = xs.length := by simp [ints]
theorem byts_len (xs : List Int) : (byts xs).length = xs.length := by simp [byts]

set_option maxRecDepth 100000 in
set_option maxHeartbeats 400000 in
theorem cmp_int (x y : Int) (w : World) : Calls Tryd.prog 57 #[.int .i64 x, .int .i64 y] w fun e w' => e = .returned (.int .i64 (cmpI x y)) ∧ w' = w := by
  have hn : ∀ z w, Calls Tryd.prog 76 #[.int .i64 z] w fun e w' => e = .returned (.bool false) ∧ w' = w := fun z w => by
    go_enter Tryd.func76, Tryd.ntmps76
    go_wp2
    go_ret
    exact ⟨by simp, rfl⟩
  have HN := Lib.hid hn
  clear hn
  rcases Int.lt_trichotomy x y with h | h | h
  · have HC := Lib.hid (show cmpI x y = -1 by unfold cmpI; rw [if_pos h])
    go_enter Tryd.func57, Tryd.ntmps57
    go_wp2_with (go_at_call 76; refine (HN.out _ _).mono ?_; rintro e w' ⟨rfl, rfl⟩)
    go_ret
    exact ⟨ret_int HC.out.symm, rfl⟩
  · have HC := Lib.hid (show cmpI x y = 0 by unfold cmpI; rw [if_neg (by omega), if_neg (by omega)])
    have h1 : ¬ x < y := by omega
    have h2 : ¬ y < x := by omega
    clear h
    go_enter Tryd.func57, Tryd.ntmps57
    go_wp2_with (go_at_call 76; refine (HN.out _ _).mono ?_; rintro e w' ⟨rfl, rfl⟩)
    go_ret
    exact ⟨ret_int HC.out.symm, rfl⟩
  · have HC := Lib.hid (show cmpI x y = 1 by unfold cmpI; rw [if_neg (by omega), if_pos h])
    have h1 : ¬ x < y := by omega
    go_enter Tryd.func57, Tryd.ntmps57
    go_wp2_with (go_at_call 76; refine (HN.out _ _).mono ?_; rintro e w' ⟨rfl, rfl⟩)
    go_ret
    exact ⟨ret_int HC.out.symm, rfl⟩
set_option maxRecDepth 100000 in
set_option maxHeartbeats 400000 in
theorem cmp_byte (x y : Int) (w : World) : Calls Tryd.prog 77 #[.int .u8 x, .int .u8 y] w fun e w' => e = .returned (.int .i64 (cmpI x y)) ∧ w' = w := by
  have hn : ∀ z w, Calls Tryd.prog 86 #[.int .u8 z] w fun e w' => e = .returned (.bool false) ∧ w' = w := fun z w => by
    go_enter Tryd.func86, Tryd.ntmps86
    go_wp2
    go_ret
    exact ⟨by simp, rfl⟩
  have HN := Lib.hid hn
  clear hn
  rcases Int.lt_trichotomy x y with h | h | h
  · have HC := Lib.hid (show cmpI x y = -1 by unfold cmpI; rw [if_pos h])
    go_enter Tryd.func77, Tryd.ntmps77
    go_wp2_with (go_at_call 86; refine (HN.out _ _).mono ?_; rintro e w' ⟨rfl, rfl⟩)
    go_ret
    exact ⟨ret_int HC.out.symm, rfl⟩
  · have HC := Lib.hid (show cmpI x y = 0 by unfold cmpI; rw [if_neg (by omega), if_neg (by omega)])
    have h1 : ¬ x < y := by omega
    have h2 : ¬ y < x := by omega
    clear h
    go_enter Tryd.func77, Tryd.ntmps77
    go_wp2_with (go_at_call 86; refine (HN.out _ _).mono ?_; rintro e w' ⟨rfl, rfl⟩)
    go_ret
    exact ⟨ret_int HC.out.symm, rfl⟩
  · have HC := Lib.hid (show cmpI x y = 1 by unfold cmpI; rw [if_neg (by omega), if_pos h])
    have h1 : ¬ x < y := by omega
    go_enter Tryd.func77, Tryd.ntmps77
    go_wp2_with (go_at_call 86; refine (HN.out _ _).mono ?_; rintro e w' ⟨rfl, rfl⟩)
    go_ret
    exact ⟨ret_int HC.out.symm, rfl⟩

theorem cell_drew {w wr : World} {n : Nat} (h : wr = w.drewN n) (p : Addr) : wr.cell? p = w.cell? p := by
  subst h
  induction n with
  | zero => rfl
  | succ n ih => exact ih
set_option maxRecDepth 100000 in
set_option maxHeartbeats 800000 in
theorem rows_int (a b : Value) (xs ys : List Int) (B : Nat) (w : World) (ha : Reads w B a (ints xs)) (hb : Reads w B b (ints ys)) :
    Calls Tryd.prog 56 #[a, b] w fun e w' => e = .returned (.int .i64 (cmpL xs ys)) ∧ ∃ nq, w' = w.drewN nq := by
  obtain ⟨A, ca, rfl, hla, hma, hza, hra⟩ := ha
  obtain ⟨A', cb, rfl, hlb, hmb, hzb, hrb⟩ := hb
  simp only [ints_len] at *
  have HRA := Lib.hid hra
  have HRB := Lib.hid hrb
  unfold maxLen at *
  clear hra hrb hza hzb
  obtain ⟨m, hm⟩ : ∃ m, m = min xs.length ys.length := ⟨_, rfl⟩
  have hm1 : m ≤ xs.length := by omega
  have hm2 : m ≤ ys.length := by omega
  have HM := Lib.hid hm
  have HMI := Lib.hid (show min (xs.length : Int) (ys.length : Int) = (m : Int) by omega)
  clear hm
  go_enter Tryd.func56, Tryd.ntmps56
  go_wp2
  rw [HMI.out]
  go_loopw [12] (fun i wr => ∃ (k nq : Nat), k ≤ m ∧ i = .int .i64 k ∧ Hid (wr = w.drewN nq) ∧ Hid (∀ j, j < k → xs.getD j 0 = ys.getD j 0)) (fun i _ => m - (intOf i).toNat)
  case atStart => exact ⟨0, 0, by omega, rfl, Lib.hid rfl, Lib.hid fun j h => absurd h (Nat.not_lt_zero j)⟩
  case round =>
    obtain ⟨k, nq, hk, rfl, HW, HS⟩ := hrel
    by_cases hlt : k < m
    · obtain ⟨ad, rfl, hbl, hc⟩ := HRA.out (by omega)
      obtain ⟨ad', rfl, hbl', hc'⟩ := HRB.out (by omega)
      have hcx := (cell_drew HW.out _).trans (hc k _ (ints_get xs k (by omega)))
      have hcy := (cell_drew HW.out _).trans (hc' k _ (ints_get ys k (by omega)))
      clear hc hc' hbl hbl'
      have hi1 : (k : Int) < (xs.length : Int) := by omega
      have hi2 : (k : Int) < (ys.length : Int) := by omega
      have hi0 : (0 : Int) ≤ (k : Int) := by omega
      obtain ⟨x, hx⟩ : ∃ x, x = xs.getD k 0 := ⟨_, rfl⟩
      obtain ⟨y, hy⟩ : ∃ y, y = ys.getD k 0 := ⟨_, rfl⟩
      rw [← hx] at hcx
      rw [← hy] at hcy
      by_cases hxy : x = y
      · have HS' : Hid (∀ j, j < k + 1 → xs.getD j 0 = ys.getD j 0) := Lib.hid fun j hj => by
          rcases Nat.lt_or_ge j k with h | h
          · exact HS.out j h
          · obtain rfl : j = k := by omega
            rw [← hx, ← hy]; exact hxy
        have hne : (cmpI x y != 0) = false := by rw [(Ver.cmpI_ord.zero x y).2 hxy]; rfl
        clear hx hy hxy
        go_wp2
        go_quiet ((go_at_call 57; exact Calls.quiet_of_same (cmp_int _ _ _)))
        go_wp2
        go_roundw
        case rel => exact ⟨k + 1, _, by omega, by go_num, Lib.hid (by rw [HW.out]; exact World.drewN_drewN _ _ _), HS'⟩
        case measure => simp [intOf]; omega
      · have hne : (cmpI x y != 0) = true := by rw [bne_iff_ne]; exact fun h => hxy ((Ver.cmpI_ord.zero x y).1 h)
        have HF := Lib.hid (show cmpL xs ys = cmpI x y by rw [hx, hy]; exact Ver.cmpL_at k xs ys (by omega) (by omega) HS.out (by rw [← hx, ← hy]; exact hxy))
        clear hx hy hxy
        go_wp2
        go_quiet ((go_at_call 57; exact Calls.quiet_of_same (cmp_int _ _ _)))
        go_wp2
        go_ret
        exact ⟨ret_int HF.out.symm, _, by rw [HW.out]; exact World.drewN_drewN _ _ _⟩
    · have HF := Lib.hid (Ver.cmpL_end k xs ys (by have := HM.out; omega) HS.out)
      go_wp2_with (go_at_call 57; refine (cmp_int _ _ _).mono ?_; rintro e w' ⟨rfl, rfl⟩)
      go_ret
      exact ⟨ret_int HF.out.symm, _, HW.out⟩
set_option maxRecDepth 100000 in
set_option maxHeartbeats 800000 in
theorem rows_byte (a b : Value) (xs ys : List Int) (B : Nat) (w : World) (ha : Reads w B a (byts xs)) (hb : Reads w B b (byts ys)) :
    Calls Tryd.prog 58 #[a, b] w fun e w' => e = .returned (.int .i64 (cmpL xs ys)) ∧ ∃ nq, w' = w.drewN nq := by
  obtain ⟨A, ca, rfl, hla, hma, hza, hra⟩ := ha
  obtain ⟨A', cb, rfl, hlb, hmb, hzb, hrb⟩ := hb
  simp only [byts_len] at *
  have HRA := Lib.hid hra
  have HRB := Lib.hid hrb
  unfold maxLen at *
  clear hra hrb hza hzb
  obtain ⟨m, hm⟩ : ∃ m, m = min xs.length ys.length := ⟨_, rfl⟩
  have hm1 : m ≤ xs.length := by omega
  have hm2 : m ≤ ys.length := by omega
  have HM := Lib.hid hm
  have HMI := Lib.hid (show min (xs.length : Int) (ys.length : Int) = (m : Int) by omega)
  clear hm
  go_enter Tryd.func58, Tryd.ntmps58
  go_wp2
  rw [HMI.out]
  go_loopw [12] (fun i wr => ∃ (k nq : Nat), k ≤ m ∧ i = .int .i64 k ∧ Hid (wr = w.drewN nq) ∧ Hid (∀ j, j < k → xs.getD j 0 = ys.getD j 0)) (fun i _ => m - (intOf i).toNat)
  case atStart => exact ⟨0, 0, by omega, rfl, Lib.hid rfl, Lib.hid fun j h => absurd h (Nat.not_lt_zero j)⟩
  case round =>
    obtain ⟨k, nq, hk, rfl, HW, HS⟩ := hrel
    by_cases hlt : k < m
    · obtain ⟨ad, rfl, hbl, hc⟩ := HRA.out (by omega)
      obtain ⟨ad', rfl, hbl', hc'⟩ := HRB.out (by omega)
      have hcx := (cell_drew HW.out _).trans (hc k _ (byts_get xs k (by omega)))
      have hcy := (cell_drew HW.out _).trans (hc' k _ (byts_get ys k (by omega)))
      clear hc hc' hbl hbl'
      have hi1 : (k : Int) < (xs.length : Int) := by omega
      have hi2 : (k : Int) < (ys.length : Int) := by omega
      have hi0 : (0 : Int) ≤ (k : Int) := by omega
      obtain ⟨x, hx⟩ : ∃ x, x = xs.getD k 0 := ⟨_, rfl⟩
      obtain ⟨y, hy⟩ : ∃ y, y = ys.getD k 0 := ⟨_, rfl⟩
      rw [← hx] at hcx
      rw [← hy] at hcy
      by_cases hxy : x = y
      · have HS' : Hid (∀ j, j < k + 1 → xs.getD j 0 = ys.getD j 0) := Lib.hid fun j hj => by
          rcases Nat.lt_or_ge j k with h | h
          · exact HS.out j h
          · obtain rfl : j = k := by omega
            rw [← hx, ← hy]; exact hxy
        have hne : (cmpI x y != 0) = false := by rw [(Ver.cmpI_ord.zero x y).2 hxy]; rfl
        clear hx hy hxy
        go_wp2
        go_quiet ((go_at_call 77; exact Calls.quiet_of_same (cmp_byte _ _ _)))
        go_wp2
        go_roundw
        case rel => exact ⟨k + 1, _, by omega, by go_num, Lib.hid (by rw [HW.out]; exact World.drewN_drewN _ _ _), HS'⟩
        case measure => simp [intOf]; omega
      · have hne : (cmpI x y != 0) = true := by rw [bne_iff_ne]; exact fun h => hxy ((Ver.cmpI_ord.zero x y).1 h)
        have HF := Lib.hid (show cmpL xs ys = cmpI x y by rw [hx, hy]; exact Ver.cmpL_at k xs ys (by omega) (by omega) HS.out (by rw [← hx, ← hy]; exact hxy))
        clear hx hy hxy
        go_wp2
        go_quiet ((go_at_call 77; exact Calls.quiet_of_same (cmp_byte _ _ _)))
        go_wp2
        go_ret
        exact ⟨ret_int HF.out.symm, _, by rw [HW.out]; exact World.drewN_drewN _ _ _⟩
    · have HF := Lib.hid (Ver.cmpL_end k xs ys (by have := HM.out; omega) HS.out)
      go_wp2_with (go_at_call 57; refine (cmp_int _ _ _).mono ?_; rintro e w' ⟨rfl, rfl⟩)
      go_ret
      exact ⟨ret_int HF.out.symm, _, HW.out⟩
end Go.Proofs.YtjckcdemkpmheaaDoor
