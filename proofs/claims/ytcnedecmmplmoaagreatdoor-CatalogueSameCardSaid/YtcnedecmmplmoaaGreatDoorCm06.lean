/- Comparing numbers and rows of numbers. -/
import Derived.Test.YtcnedecmmplmoaaGreatDoorCm05
import Derived.Sort.Grow
set_option linter.unusedVariables false
set_option linter.unusedSimpArgs false
namespace Go.Proofs.YtcnedecmmplmoaaGreatDoor
open Go.RowKit Go.BigFrame
open Ver (cmpI cmpL bytesI)

/-- A slice of one-cell values, that lies below block B. -/
def Reads (w : World) (B : Nat) (v : Value) (xs : List Value) : Prop :=
  ∃ A cap, v = .slice A xs.length cap ∧ xs.length ≤ cap ∧ cap ≤ maxLen ∧ (A = none → cap = 0) ∧ (0 < xs.length → ∃ ad, A = some ad ∧ ad.block < B ∧ ∀ j u, xs[j]? = some u → w.cell? (ad.add j) = some u)
theorem Reads.below {w w' : World} {B : Nat} {v : Value} {xs : List Value} (h : Reads w B v xs) (hb : Below B w w') : Reads w' B v xs := by
  obtain ⟨A, cap, e, h1, h2, h3, h4⟩ := h
  exact ⟨A, cap, e, h1, h2, h3, fun hn => by
    obtain ⟨ad, e2, hl, hc⟩ := h4 hn
    exact ⟨ad, e2, hl, fun j u hu => (hb.cell (by rw [add_block]; exact hl)).trans (hc j u hu)⟩⟩
theorem Reads.more {w : World} {B B' : Nat} {v : Value} {xs : List Value} (h : Reads w B v xs) (hb : B ≤ B') : Reads w B' v xs := by
  obtain ⟨A, cap, e, h1, h2, h3, h4⟩ := h
  exact ⟨A, cap, e, h1, h2, h3, fun hn => by
    obtain ⟨ad, e2, hl, hc⟩ := h4 hn
    exact ⟨ad, e2, by omega, hc⟩⟩
theorem Reads.own {w : World} {base n : Nat} {e : TypeId} {v : Value} {xs : List Value} (h : w.ownsRow base e 1 v n xs) : Reads w w.heap.size v xs := by
  obtain ⟨hl, ⟨rfl, rfl⟩ | ⟨g, cap, cur, rfl, hg, hgg, h1, h2, h3, h4⟩⟩ := h
  · have : xs = [] := List.eq_nil_of_length_eq_zero (by omega)
    subst this
    exact ⟨none, 0, rfl, Nat.le_refl _, Nat.zero_le _, fun _ => rfl, fun h => absurd h (by simp)⟩
  · rw [Nat.mul_one] at hl h4
    refine ⟨_, cap, by rw [hl], by omega, h2, (fun h => by cases h), fun hn => ⟨_, rfl, block_lt hgg, fun j u hu => ?_⟩⟩
    have hj : j < n := by have := (List.getElem?_eq_some_iff.1 hu).1; omega
    have hx : cur[j]? = some u := by
      rw [← h4, List.getElem?_take, if_pos hj] at hu
      simpa using hu
    have e : (⟨g, 0, none⟩ : Addr).add j = ⟨g, j, none⟩ := by unfold Addr.add; by_cases h0 : j = 0 <;> simp [h0]
    rw [e, cell_of_row _ _ _ _ _ _ hgg, hx]
theorem Reads.nil (w : World) (B : Nat) : Reads w B (.slice none 0 0) [] := ⟨none, 0, rfl, Nat.le_refl _, Nat.zero_le _, fun _ => rfl, fun h => absurd h (by simp)⟩
def ints (xs : List Int) : List Value := xs.map (Value.int .i64)
def byts (xs : List Int) : List Value := xs.map (Value.int .u8)
theorem ints_get (xs : List Int) (k : Nat) (h : k < xs.length) : (ints xs)[k]? = some (.int .i64 (xs.getD k 0)) := by simp [ints, h]
theorem byts_get (xs : List Int) (k : Nat) (h : k < xs.length) : (byts xs)[k]? = some (.int .u8 (xs.getD k 0)) := by simp [byts, h]
theorem ints_len (xs : List Int) : (ints xs).length = xs.length := by simp [ints]
theorem byts_len (xs : List Int) : (byts xs).length = xs.length := by simp [byts]

set_option maxRecDepth 100000 in
set_option maxHeartbeats 400000 in
theorem cmp_int (x y : Int) (w : World) : Calls Tryz.prog 140 #[.int .i64 x, .int .i64 y] w fun e w' => e = .returned (.int .i64 (cmpI x y)) ∧ w' = w := by
  have hn : ∀ z w, Calls Tryz.prog 146 #[.int .i64 z] w fun e w' => e = .returned (.bool false) ∧ w' = w := fun z w => by
    go_enter Tryz.func146, Tryz.ntmps146
    go_wp2
    go_ret
    exact ⟨by simp, rfl⟩
  have HN := Lib.hid hn
  clear hn
  rcases Int.lt_trichotomy x y with h | h | h
  · have HC := Lib.hid (show cmpI x y = -1 by unfold cmpI; rw [if_pos h])
    go_enter Tryz.func140, Tryz.ntmps140
    go_wp2_with (go_at_call 146; refine (HN.out _ _).mono ?_; rintro e w' ⟨rfl, rfl⟩)
    go_ret
    exact ⟨ret_int HC.out.symm, rfl⟩
  · have HC := Lib.hid (show cmpI x y = 0 by unfold cmpI; rw [if_neg (by omega), if_neg (by omega)])
    have h1 : ¬ x < y := by omega
    have h2 : ¬ y < x := by omega
    clear h
    go_enter Tryz.func140, Tryz.ntmps140
    go_wp2_with (go_at_call 146; refine (HN.out _ _).mono ?_; rintro e w' ⟨rfl, rfl⟩)
    go_ret
    exact ⟨ret_int HC.out.symm, rfl⟩
  · have HC := Lib.hid (show cmpI x y = 1 by unfold cmpI; rw [if_neg (by omega), if_pos h])
    have h1 : ¬ x < y := by omega
    go_enter Tryz.func140, Tryz.ntmps140
    go_wp2_with (go_at_call 146; refine (HN.out _ _).mono ?_; rintro e w' ⟨rfl, rfl⟩)
    go_ret
    exact ⟨ret_int HC.out.symm, rfl⟩
set_option maxRecDepth 100000 in
set_option maxHeartbeats 400000 in
theorem cmp_byte (x y : Int) (w : World) : Calls Tryz.prog 147 #[.int .u8 x, .int .u8 y] w fun e w' => e = .returned (.int .i64 (cmpI x y)) ∧ w' = w := by
  have hn : ∀ z w, Calls Tryz.prog 150 #[.int .u8 z] w fun e w' => e = .returned (.bool false) ∧ w' = w := fun z w => by
    go_enter Tryz.func150, Tryz.ntmps150
    go_wp2
    go_ret
    exact ⟨by simp, rfl⟩
  have HN := Lib.hid hn
  clear hn
  rcases Int.lt_trichotomy x y with h | h | h
  · have HC := Lib.hid (show cmpI x y = -1 by unfold cmpI; rw [if_pos h])
    go_enter Tryz.func147, Tryz.ntmps147
    go_wp2_with (go_at_call 150; refine (HN.out _ _).mono ?_; rintro e w' ⟨rfl, rfl⟩)
    go_ret
    exact ⟨ret_int HC.out.symm, rfl⟩
  · have HC := Lib.hid (show cmpI x y = 0 by unfold cmpI; rw [if_neg (by omega), if_neg (by omega)])
    have h1 : ¬ x < y := by omega
    have h2 : ¬ y < x := by omega
    clear h
    go_enter Tryz.func147, Tryz.ntmps147
    go_wp2_with (go_at_call 150; refine (HN.out _ _).mono ?_; rintro e w' ⟨rfl, rfl⟩)
    go_ret
    exact ⟨ret_int HC.out.symm, rfl⟩
  · have HC := Lib.hid (show cmpI x y = 1 by unfold cmpI; rw [if_neg (by omega), if_pos h])
    have h1 : ¬ x < y := by omega
    go_enter Tryz.func147, Tryz.ntmps147
    go_wp2_with (go_at_call 150; refine (HN.out _ _).mono ?_; rintro e w' ⟨rfl, rfl⟩)
    go_ret
    exact ⟨ret_int HC.out.symm, rfl⟩

theorem cell_drew {w wr : World} {n : Nat} (h : wr = w.drewN n) (p : Addr) : wr.cell? p = w.cell? p := by
  subst h
  induction n with
  | zero => rfl
  | succ n ih => exact ih
set_option maxRecDepth 100000 in
set_option maxHeartbeats 800000 in
theorem rows_int (a b : Value) (xs ys : List Int) (B : Nat) (w : World) (ha : Reads w B a (ints xs)) (hb : Reads w B b (ints ys)) :
    Calls Tryz.prog 139 #[a, b] w fun e w' => e = .returned (.int .i64 (cmpL xs ys)) ∧ ∃ nq, w' = w.drewN nq := by
  obtain ⟨A, ca, rfl, hla, hma, hza, hra⟩ := ha
  obtain ⟨A', cb, rfl, hlb, hmb, hzb, hrb⟩ := hb
  simp only [ints_len] at *
  have HRA := Lib.hid hra
  have HRB := Lib.hid hrb
  unfold maxLen at *
  clear hra hrb hza hzb
  obtain ⟨m, hm⟩ : ∃ m, m = min xs.length ys.length := ⟨_, rfl⟩
  have hm1 : m ≤ xs.length := by omega
  have hm2 : m ≤ ys.length := by omega
  have HM := Lib.hid hm
  have HMI := Lib.hid (show min (xs.length : Int) (ys.length : Int) = (m : Int) by omega)
  clear hm
  go_enter Tryz.func139, Tryz.ntmps139
  go_wp2
  rw [HMI.out]
  go_loopw [12] (fun i wr => ∃ (k nq : Nat), k ≤ m ∧ i = .int .i64 k ∧ Hid (wr = w.drewN nq) ∧ Hid (∀ j, j < k → xs.getD j 0 = ys.getD j 0)) (fun i _ => m - (intOf i).toNat)
  case atStart => exact ⟨0, 0, by omega, rfl, Lib.hid rfl, Lib.hid fun j h => absurd h (Nat.not_lt_zero j)⟩
  case round =>
    obtain ⟨k, nq, hk, rfl, HW, HS⟩ := hrel
    by_cases hlt : k < m
    · obtain ⟨ad, rfl, hbl, hc⟩ := HRA.out (by omega)
      obtain ⟨ad', rfl, hbl', hc'⟩ := HRB.out (by omega)
      have hcx := (cell_drew HW.out _).trans (hc k _ (ints_get xs k (by omega)))
      have hcy := (cell_drew HW.out _).trans (hc' k _ (ints_get ys k (by omega)))
      clear hc hc' hbl hbl'
      have hi1 : (k : Int) < (xs.length : Int) := by omega
      have hi2 : (k : Int) < (ys.length : Int) := by omega
      have hi0 : (0 : Int) ≤ (k : Int) := by omega
      obtain ⟨x, hx⟩ : ∃ x, x = xs.getD k 0 := ⟨_, rfl⟩
      obtain ⟨y, hy⟩ : ∃ y, y = ys.getD k 0 := ⟨_, rfl⟩
      rw [← hx] at hcx
      rw [← hy] at hcy
      by_cases hxy : x = y
      · have HS' : Hid (∀ j, j < k + 1 → xs.getD j 0 = ys.getD j 0) := Lib.hid fun j hj => by
          rcases Nat.lt_or_ge j k with h | h
          · exact HS.out j h
          · obtain rfl : j = k := by omega
            rw [← hx, ← hy]; exact hxy
        have hne : (cmpI x y != 0) = false := by rw [(Ver.cmpI_ord.zero x y).2 hxy]; rfl
        clear hx hy hxy
        go_wp2
        go_quiet ((go_at_call 140; exact Calls.quiet_of_same (cmp_int _ _ _)))
        go_wp2
        go_roundw
        case rel => exact ⟨k + 1, _, by omega, by go_num, Lib.hid (by rw [HW.out]; exact World.drewN_drewN _ _ _), HS'⟩
        case measure => simp [intOf]; omega
      · have hne : (cmpI x y != 0) = true := by rw [bne_iff_ne]; exact fun h => hxy ((Ver.cmpI_ord.zero x y).1 h)
        have HF := Lib.hid (show cmpL xs ys = cmpI x y by rw [hx, hy]; exact Ver.cmpL_at k xs ys (by omega) (by omega) HS.out (by rw [← hx, ← hy]; exact hxy))
        clear hx hy hxy
        go_wp2
        go_quiet ((go_at_call 140; exact Calls.quiet_of_same (cmp_int _ _ _)))
        go_wp2
        go_ret
        exact ⟨ret_int HF.out.symm, _, by rw [HW.out]; exact World.drewN_drewN _ _ _⟩
    · have HF := Lib.hid (Ver.cmpL_end k xs ys (by have := HM.out; omega) HS.out)
      go_wp2_with (go_at_call 140; refine (cmp_int _ _ _).mono ?_; rintro e w' ⟨rfl, rfl⟩)
      go_ret
      exact ⟨ret_int HF.out.symm, _, HW.out⟩
set_option maxRecDepth 100000 in
set_option maxHeartbeats 800000 in
theorem rows_byte (a b : Value) (xs ys : List Int) (B : Nat) (w : World) (ha : Reads w B a (byts xs)) (hb : Reads w B b (byts ys)) :
    Calls Tryz.prog 141 #[a, b] w fun e w' => e = .returned (.int .i64 (cmpL xs ys)) ∧ ∃ nq, w' = w.drewN nq := by
  obtain ⟨A, ca, rfl, hla, hma, hza, hra⟩ := ha
  obtain ⟨A', cb, rfl, hlb, hmb, hzb, hrb⟩ := hb
  simp only [byts_len] at *
  have HRA := Lib.hid hra
  have HRB := Lib.hid hrb
  unfold maxLen at *
  clear hra hrb hza hzb
  obtain ⟨m, hm⟩ : ∃ m, m = min xs.length ys.length := ⟨_, rfl⟩
  have hm1 : m ≤ xs.length := by omega
  have hm2 : m ≤ ys.length := by omega
  have HM := Lib.hid hm
  have HMI := Lib.hid (show min (xs.length : Int) (ys.length : Int) = (m : Int) by omega)
  clear hm
  go_enter Tryz.func141, Tryz.ntmps141
  go_wp2
  rw [HMI.out]
  go_loopw [12] (fun i wr => ∃ (k nq : Nat), k ≤ m ∧ i = .int .i64 k ∧ Hid (wr = w.drewN nq) ∧ Hid (∀ j, j < k → xs.getD j 0 = ys.getD j 0)) (fun i _ => m - (intOf i).toNat)
  case atStart => exact ⟨0, 0, by omega, rfl, Lib.hid rfl, Lib.hid fun j h => absurd h (Nat.not_lt_zero j)⟩
  case round =>
    obtain ⟨k, nq, hk, rfl, HW, HS⟩ := hrel
    by_cases hlt : k < m
    · obtain ⟨ad, rfl, hbl, hc⟩ := HRA.out (by omega)
      obtain ⟨ad', rfl, hbl', hc'⟩ := HRB.out (by omega)
      have hcx := (cell_drew HW.out _).trans (hc k _ (byts_get xs k (by omega)))
      have hcy := (cell_drew HW.out _).trans (hc' k _ (byts_get ys k (by omega)))
      clear hc hc' hbl hbl'
      have hi1 : (k : Int) < (xs.length : Int) := by omega
      have hi2 : (k : Int) < (ys.length : Int) := by omega
      have hi0 : (0 : Int) ≤ (k : Int) := by omega
      obtain ⟨x, hx⟩ : ∃ x, x = xs.getD k 0 := ⟨_, rfl⟩
      obtain ⟨y, hy⟩ : ∃ y, y = ys.getD k 0 := ⟨_, rfl⟩
      rw [← hx] at hcx
      rw [← hy] at hcy
      by_cases hxy : x = y
      · have HS' : Hid (∀ j, j < k + 1 → xs.getD j 0 = ys.getD j 0) := Lib.hid fun j hj => by
          rcases Nat.lt_or_ge j k with h | h
          · exact HS.out j h
          · obtain rfl : j = k := by omega
            rw [← hx, ← hy]; exact hxy
        have hne : (cmpI x y != 0) = false := by rw [(Ver.cmpI_ord.zero x y).2 hxy]; rfl
        clear hx hy hxy
        go_wp2
        go_quiet ((go_at_call 147; exact Calls.quiet_of_same (cmp_byte _ _ _)))
        go_wp2
        go_roundw
        case rel => exact ⟨k + 1, _, by omega, by go_num, Lib.hid (by rw [HW.out]; exact World.drewN_drewN _ _ _), HS'⟩
        case measure => simp [intOf]; omega
      · have hne : (cmpI x y != 0) = true := by rw [bne_iff_ne]; exact fun h => hxy ((Ver.cmpI_ord.zero x y).1 h)
        have HF := Lib.hid (show cmpL xs ys = cmpI x y by rw [hx, hy]; exact Ver.cmpL_at k xs ys (by omega) (by omega) HS.out (by rw [← hx, ← hy]; exact hxy))
        clear hx hy hxy
        go_wp2
        go_quiet ((go_at_call 147; exact Calls.quiet_of_same (cmp_byte _ _ _)))
        go_wp2
        go_ret
        exact ⟨ret_int HF.out.symm, _, by rw [HW.out]; exact World.drewN_drewN _ _ _⟩
    · have HF := Lib.hid (Ver.cmpL_end k xs ys (by have := HM.out; omega) HS.out)
      go_wp2_with (go_at_call 140; refine (cmp_int _ _ _).mono ?_; rintro e w' ⟨rfl, rfl⟩)
      go_ret
      exact ⟨ret_int HF.out.symm, _, HW.out⟩
end Go.Proofs.YtcnedecmmplmoaaGreatDoor

/- Contract of version.Compare. -/
namespace Go.Proofs.YtcnedecmmplmoaaGreatDoor
open Go.RowKit Go.BigFrame
open Ver (cmpI cmpL bytesI cmpT cmpV BL)

/-- A world with draws and new blocks, and nothing else. -/
def Grew (w w' : World) : Prop := ∃ q os, w' = Sort.grow (w.drewN q) os
theorem Grew.refl (w : World) : Grew w w := ⟨0, #[], (Sort.grow_empty _).symm⟩
theorem grow_drewN (w : World) (os : Array Obj) (n : Nat) : (Sort.grow w os).drewN n = Sort.grow (w.drewN n) os := by
  induction n with
  | zero => rfl
  | succ n ih =>
    show ((Sort.grow w os).drewN n).drew = Sort.grow (w.drewN n).drew os
    rw [ih]; rfl
theorem Grew.alloc {w w1 : World} (h : Grew w w1) (o : Obj) : Grew w (w1.alloc o) := by
  obtain ⟨q, os, rfl⟩ := h
  exact ⟨q, os ++ #[o], by rw [Sort.alloc_eq_grow, Sort.grow_grow]⟩
theorem Grew.drewN {w w1 : World} (h : Grew w w1) (n : Nat) : Grew w (w1.drewN n) := by
  obtain ⟨q, os, rfl⟩ := h
  exact ⟨q + n, os, by rw [grow_drewN, World.drewN_drewN]⟩
theorem Grew.drew {w w1 : World} (h : Grew w w1) : Grew w w1.drew := h.drewN 1
theorem Grew.trans {w w1 w2 : World} (h : Grew w w1) (h2 : Grew w1 w2) : Grew w w2 := by
  obtain ⟨q, os, rfl⟩ := h
  obtain ⟨q2, os2, rfl⟩ := h2
  exact ⟨q + q2, os ++ os2, by rw [grow_drewN, World.drewN_drewN, Sort.grow_grow]⟩
theorem Grew.below {w w1 : World} (h : Grew w w1) : Below w.heap.size w w1 := by
  obtain ⟨q, os, rfl⟩ := h
  have hb := below_drewN (Below.refl w.heap.size w) q
  refine ⟨hb.os, hb.tape, hb.output, ?_, fun k hk => ?_⟩
  · show w.heap.size ≤ ((w.drewN q).heap ++ os).size
    have := hb.size
    rw [Array.size_append]; omega
  · have h2 : k < (w.drewN q).heap.size := Nat.lt_of_lt_of_le hk hb.size
    show ((w.drewN q).heap ++ os)[k]? = w.heap[k]?
    rw [Array.getElem?_append_left h2]
    exact hb.block k hk
def bytsOf (s : ByteArray) : List Int := bytesI s.data.toList
theorem cmpV_num (xs ys : List Int) (s t : BL) (h : cmpL xs ys ≠ 0) : cmpV (xs, s) (ys, t) = cmpL xs ys := by rw [Ver.cmpV_eq, if_pos h]
theorem cmpV_tag (xs ys : List Int) (s t : BL) (h : cmpL xs ys = 0) : cmpV (xs, s) (ys, t) = cmpT s t := by rw [Ver.cmpV_eq, if_neg (by omega)]
theorem cmpT_nil (s t : ByteArray) (h : s.size = 0 ∨ t.size = 0) : cmpT s.data.toList t.data.toList = cmpI t.size s.size := by
  unfold cmpT
  rw [if_pos (h.imp (nil_of s) (nil_of t)), len_data, len_data]
theorem cmpT_both (s t : ByteArray) (h : 1 ≤ s.size) (h2 : 1 ≤ t.size) : cmpT s.data.toList t.data.toList = cmpL (bytsOf s) (bytsOf t) := by
  unfold cmpT
  rw [if_neg]; rfl
  rintro (e | e)
  all_goals
    have := congrArg List.length e
    rw [len_data, List.length_nil] at this
    omega
theorem conv_reads {P : Program} (w : World) (E src dst : TypeId) (s : ByteArray) (hn : s.size ≤ maxLen) (hs : P.underlying src = some .string) (ht : P.underlying dst = some (.slice E)) (he : P.underlying E = some (.int .u8)) :
    ∃ v w2, (convert src dst (.string s)).run P w = .ok v w2 ∧ Grew w w2 ∧ Reads w2 w2.heap.size v (byts (bytsOf s)) := by
  have h := run_bytes_of_string (P := P) w src dst E s hs ht he
  have hl : (byts (bytsOf s)).length = s.size := by rw [byts_len, bytsOf, Ver.bytesI_len, len_data]
  refine ⟨_, _, h, ((Grew.refl _).drew).alloc _, ⟨_, _, by rw [hl], by rw [hl]; exact grownCap_ge w s.size 0 E, grownCap_le_maxLen w s.size 0 E hn, (fun h => by cases h), fun h0 => ⟨_, rfl, by simp, fun j u hu => ?_⟩⟩⟩
  have hj : j < s.size := by have := (List.getElem?_eq_some_iff.1 hu).1; omega
  have hadd : (⟨w.heap.size, 0, none⟩ : Addr).add j = ⟨w.heap.size, j, none⟩ := by unfold Addr.add; split <;> simp_all
  rw [hadd]
  refine (cell_of_row _ w.heap.size j _ _ _ (heap_alloc_new w.drew _)).trans ?_
  rw [← hu]
  unfold bytesRow
  rw [Array.getElem?_append_left (by simpa using hj)]
  simp [byts, bytsOf, bytesI, List.getElem?_map]
  rfl
set_option maxRecDepth 100000 in
set_option maxHeartbeats 800000 in
theorem compare_any (a b : Value) (xs ys : List Int) (s t : ByteArray) (B : Nat) (w : World) (ha : Reads w B a (ints xs)) (hb : Reads w B b (ints ys)) (hB : B ≤ w.heap.size) (hs : s.size ≤ 1000000) (ht : t.size ≤ 1000000) :
    Calls Tryz.prog 122 #[.agg #[a, .string s], .agg #[b, .string t]] w fun e w' => e = .returned (.int .i64 (cmpV (xs, s.data.toList) (ys, t.data.toList))) ∧ Grew w w' := by
  have HA := Lib.hid ha
  have HB := Lib.hid hb
  clear ha hb
  go_enter Tryz.func122, Tryz.ntmps122
  go_upto_region 1 with (fail)
  obtain ⟨W1, hW1, hg0, hg1, hb1, hz1⟩ := rows2 w (.cells #[a, .string s] 101) (.cells #[b, .string t] 101)
  rw [← hW1]
  have hgw : Grew w W1 := by rw [hW1]; exact ((Grew.refl w).alloc _).alloc _
  clear hW1
  have HA1 := Lib.hid ((HA.out.more hB).below hb1)
  have HB1 := Lib.hid ((HB.out.more hB).below hb1)
  obtain ⟨hc0, hc1, _, _⟩ := cell_two hg0
  obtain ⟨hd0, hd1, _, _⟩ := cell_two hg1
  clear hg0 hg1 HA HB
  by_cases hcmp : cmpL xs ys = 0
  · have hne : (cmpL xs ys != 0) = false := by rw [hcmp]; rfl
    have HT := Lib.hid (cmpV_tag xs ys s.data.toList t.data.toList hcmp)
    clear hcmp
    by_cases hst : s.size = 0 ∨ t.size = 0
    · have HC := Lib.hid (HT.out.trans (cmpT_nil s t hst))
      rcases Nat.eq_zero_or_pos s.size with hs0 | hs1
      · have hsn := nil_list s hs0
        clear hst hs0
        go_wp2_with (first | (go_at_call 139; refine (rows_int a b xs ys _ _ HA1.out HB1.out).mono ?_; rintro e w' ⟨rfl, nq, rfl⟩) | (go_at_call 140; refine (cmp_int _ _ _).mono ?_; rintro e w' ⟨rfl, rfl⟩))
        go_ret
        exact ⟨ret_int HC.out.symm, hgw.drewN _⟩
      · have htn := nil_list t (by omega)
        have hsn := cons_list s hs1
        clear hst hs1
        go_wp2_with (first | (go_at_call 139; refine (rows_int a b xs ys _ _ HA1.out HB1.out).mono ?_; rintro e w' ⟨rfl, nq, rfl⟩) | (go_at_call 140; refine (cmp_int _ _ _).mono ?_; rintro e w' ⟨rfl, rfl⟩))
        go_ret
        exact ⟨ret_int HC.out.symm, hgw.drewN _⟩
    · have hs1 : 1 ≤ s.size := by omega
      have ht1 : 1 ≤ t.size := by omega
      have hsn := cons_list s hs1
      have htn := cons_list t ht1
      have HC := Lib.hid (HT.out.trans (cmpT_both s t hs1 ht1))
      clear hst
      go_upto_region 6 with (go_at_call 139; refine (rows_int a b xs ys _ _ HA1.out HB1.out).mono ?_; rintro e w' ⟨rfl, nq, rfl⟩)
      have hbd := hgw.drewN nq
      have hcw : ∀ p, (W1.drewN nq).cell? p = W1.cell? p := cell_drew rfl
      have hc1' := (hcw _).trans hc1
      have hd1' := (hcw _).trans hd1
      have hzd : (W1.drewN nq).heap.size = w.heap.size + 2 := (show (W1.drewN nq).heap.size = W1.heap.size by simp).trans hz1
      generalize W1.drewN nq = W2 at *
      clear hcw hc0 hc1 hd0 hd1 hb1 hz1 HA1 HB1
      obtain ⟨v1, W3, hr1, hb3, HR1⟩ := conv_reads (P := Tryz.prog) W2 5 9 51 s (by unfold maxLen; omega) Tryz.underlying9 Tryz.underlying51 Tryz.underlying5
      have hd3 := (hb3.below.cell (p := ⟨w.heap.size + 1, 1, none⟩) (by show w.heap.size + 1 < W2.heap.size; omega)).trans hd1'
      obtain ⟨v2, W4, hr2, hb4, HR2⟩ := conv_reads (P := Tryz.prog) W3 5 9 51 t (by unfold maxLen; omega) Tryz.underlying9 Tryz.underlying51 Tryz.underlying5
      have HR1' := Lib.hid ((HR1.below hb4.below).more hb4.below.size)
      have HR2' := Lib.hid HR2
      have hbf := (hbd.trans hb3).trans hb4
      clear hzd hb3 hb4 HR1 HR2 hbd
      go_wp2_with (go_at_call 141; refine (rows_byte v1 v2 _ _ _ _ HR1'.out HR2'.out).mono ?_; rintro e w' ⟨rfl, nq2, rfl⟩)
      go_ret
      exact ⟨ret_int HC.out.symm, hbf.drewN _⟩
  · have hne : (cmpL xs ys != 0) = true := by rw [bne_iff_ne]; exact hcmp
    have HT := Lib.hid (cmpV_num xs ys s.data.toList t.data.toList hcmp)
    clear hcmp
    go_wp2_with (go_at_call 139; refine (rows_int a b xs ys _ _ HA1.out HB1.out).mono ?_; rintro e w' ⟨rfl, nq, rfl⟩)
    go_ret
    exact ⟨ret_int HT.out.symm, hgw.drewN _⟩
end Go.Proofs.YtcnedecmmplmoaaGreatDoor
