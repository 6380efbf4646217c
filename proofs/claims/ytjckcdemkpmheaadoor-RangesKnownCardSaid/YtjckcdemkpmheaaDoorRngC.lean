/- Contracts of slices.Equal, near, and the kinds of bounds. -/
import Derived.Test.YtjckcdemkpmheaaDoorRngB
namespace Go.Proofs.YtjckcdemkpmheaaDoor
open Go.RowKit Go.BigFrame
open Ver (cmpV BL)

set_option maxRecDepth 100000 in
set_option maxHeartbeats 800000 in
theorem equal_any (a b : Value) (xs ys : List Int) (B : Nat) (w : World) (ha : Reads w B a (ints xs)) (hb : Reads w B b (ints ys)) :
    Calls Tryd.prog 83 #[a, b] w fun e w' => e = .returned (.bool (decide (xs = ys))) ∧ ∃ nq, w' = w.drewN nq := by
  obtain ⟨A, ca, rfl, hla, hma, hza, hra⟩ := ha
  obtain ⟨A', cb, rfl, hlb, hmb, hzb, hrb⟩ := hb
  simp only [ints_len] at *
  have HRA := Lib.hid hra
  have HRB := Lib.hid hrb
  unfold maxLen at *
  clear hra hrb hza hzb
  by_cases hl : xs.length = ys.length
  · have HL := Lib.hid hl
    have hbn : ((xs.length : Int) != (ys.length : Int)) = false := by rw [hl]; simp
    have hl1 : xs.length ≤ ys.length := by omega
    clear hl
    go_enter Tryd.func83, Tryd.ntmps83
    go_wp2
    go_loopw [13] (fun i wr => ∃ (k nq : Nat), k ≤ xs.length ∧ i = .int .i64 k ∧ Hid (wr = w.drewN nq) ∧ Hid (∀ j, j < k → xs.getD j 0 = ys.getD j 0)) (fun i _ => xs.length - (intOf i).toNat)
    case atStart => exact ⟨0, 0, by omega, rfl, Lib.hid rfl, Lib.hid fun j h => absurd h (Nat.not_lt_zero j)⟩
    case round =>
      obtain ⟨k, nq, hk, rfl, HW, HS⟩ := hrel
      by_cases hlt : k < xs.length
      · obtain ⟨ad, rfl, hbl, hc⟩ := HRA.out (by omega)
        obtain ⟨ad', rfl, hbl', hc'⟩ := HRB.out (by omega)
        have hcx := (cell_drew HW.out _).trans (hc k _ (ints_get xs k (by omega)))
        have hcy := (cell_drew HW.out _).trans (hc' k _ (ints_get ys k (by omega)))
        clear hc hc' hbl hbl'
        have hi1 : (k : Int) < (xs.length : Int) := by omega
        have hi2 : (k : Int) < (ys.length : Int) := by omega
        have hi0 : (0 : Int) ≤ (k : Int) := by omega
        obtain ⟨x, hx⟩ : ∃ x, x = xs.getD k 0 := ⟨_, rfl⟩
        obtain ⟨y, hy⟩ : ∃ y, y = ys.getD k 0 := ⟨_, rfl⟩
        rw [← hx] at hcx
        rw [← hy] at hcy
        by_cases hxy : x = y
        · have HS' : Hid (∀ j, j < k + 1 → xs.getD j 0 = ys.getD j 0) := Lib.hid fun j hj => by
            rcases Nat.lt_or_ge j k with h | h
            · exact HS.out j h
            · obtain rfl : j = k := by omega
              rw [← hx, ← hy]; exact hxy
          have hbe : (x != y) = false := by rw [hxy]; simp
          clear hx hy hxy
          go_wp2
          go_quiet (fail)
          go_wp2
          go_roundw
          case rel => exact ⟨k + 1, _, by omega, by go_num, Lib.hid (by rw [HW.out]; exact World.drewN_drewN _ _ _), HS'⟩
          case measure => simp [intOf]; omega
        · have HF := Lib.hid (show decide (xs = ys) = false by
            rw [decide_eq_false_iff_not]; exact list_ne xs ys _ k (by rw [← hx, ← hy]; exact hxy))
          have hbe : (x != y) = true := by rw [bne_iff_ne]; exact hxy
          clear hx hy hxy
          go_wp2
          go_quiet (fail)
          go_wp2
          go_ret
          exact ⟨ret_bool HF.out.symm, _, by rw [HW.out]; exact World.drewN_drewN _ _ _⟩
      · have HF := Lib.hid (show decide (xs = ys) = true by
          rw [decide_eq_true_eq]; exact list_eq xs ys _ HL.out fun j hj => HS.out j (by omega))
        go_wp2
        go_ret
        exact ⟨ret_bool HF.out.symm, _, HW.out⟩
  · have hbn : ((xs.length : Int) != (ys.length : Int)) = true := by rw [bne_iff_ne]; omega
    have HF := Lib.hid (show decide (xs = ys) = false by rw [decide_eq_false_iff_not]; exact fun e => hl (by rw [e]))
    go_enter Tryd.func83, Tryd.ntmps83
    go_wp2
    go_ret
    exact ⟨ret_bool HF.out.symm, 0, rfl⟩

abbrev VV := List Int × BL
def nearV (w v : VV) : Bool := decide (max 1 (w.1.length - 1) ≤ v.1.length) && decide (v.1.take (max 1 (w.1.length - 1)) = w.1.take (max 1 (w.1.length - 1))) && decide (0 ≤ cmpV v w)
def opV (o : Nat) (v w : VV) : Bool :=
  match o with
  | 0 => true
  | 1 => cmpV v w == 0
  | 2 => cmpV v w != 0
  | 3 => decide (cmpV v w < 0)
  | 4 => decide (cmpV v w ≤ 0)
  | 5 => decide (cmpV v w > 0)
  | 6 => decide (cmpV v w ≥ 0)
  | _ => nearV w v
theorem reads_take {w : World} {B : Nat} {A : Option Addr} {cap n : Nat} {xs : List Int} (h : Reads w B (.slice A xs.length cap) (ints xs)) (hn : n ≤ xs.length) : Reads w B (.slice A n cap) (ints (xs.take n)) := by
  obtain ⟨A', cap', e, h1, h2, h3, h4⟩ := h
  rw [ints_len] at e h1 h4
  cases e
  have hl : (ints (xs.take n)).length = n := by rw [ints_len, List.length_take]; omega
  refine ⟨A, cap, by rw [hl], by omega, h2, h3, fun h0 => ?_⟩
  obtain ⟨ad, e2, hb, hc⟩ := h4 (by omega)
  refine ⟨ad, e2, hb, fun j u hu => hc j u ?_⟩
  have hj : j < n := by have := (List.getElem?_eq_some_iff.1 hu).1; omega
  rw [← hu]
  simp [ints, List.getElem?_take, hj]
set_option maxRecDepth 100000 in
set_option maxHeartbeats 400000 in
theorem kind_0 (a b : Value) (p q : ByteArray) (w : World) : Calls Tryd.prog 63 #[.agg #[a, .string p], .agg #[b, .string q]] w fun e w' => e = .returned (.bool true) ∧ Below w.heap.size w w' := by
  go_enter Tryd.func63, Tryd.ntmps63
  go_wp2
  go_ret
  exact ⟨rfl, ((Below.refl _ _).alloc (Nat.le_refl _) _).alloc (by simp) _⟩
set_option maxRecDepth 100000 in
set_option maxHeartbeats 800000 in
theorem kind_1 (a b : Value) (xs ys : List Int) (p q : ByteArray) (w : World) (ha : Reads w w.heap.size a (ints xs)) (hb : Reads w w.heap.size b (ints ys)) (hp : p.size ≤ 1000000) (hq : q.size ≤ 1000000) :
    Calls Tryd.prog 64 #[.agg #[a, .string p], .agg #[b, .string q]] w fun e w' => e = .returned (.bool (opV 1 (xs, p.data.toList) (ys, q.data.toList))) ∧ Below w.heap.size w w' := by
  have HA := Lib.hid ha
  have HB := Lib.hid hb
  clear ha hb
  go_enter Tryd.func64, Tryd.ntmps64
  go_upto_region 1 with (fail)
  obtain ⟨W1, hW1, hg0, hg1, hb1, hz1⟩ := rows2 w (.cells #[a, .string p] 65) (.cells #[b, .string q] 65)
  rw [← hW1]
  clear hW1
  have HA1 := Lib.hid ((HA.out.below hb1).more hb1.size)
  have HB1 := Lib.hid ((HB.out.below hb1).more hb1.size)
  obtain ⟨hc0, hc1, _, _⟩ := cell_two hg0
  obtain ⟨hd0, hd1, _, _⟩ := cell_two hg1
  clear hg0 hg1 HA HB hz1
  go_wp2_with (go_at_call 37; refine (compare_any _ _ _ _ p q W1.heap.size _ HA1.out HB1.out (Nat.le_refl _) hp hq).mono ?_; rintro e w5 ⟨rfl, hb5⟩)
  go_ret
  exact ⟨by first | rfl | (unfold opV; rfl), below_step hb1 hb5.below hb1.size⟩
set_option maxRecDepth 100000 in
set_option maxHeartbeats 800000 in
theorem kind_2 (a b : Value) (xs ys : List Int) (p q : ByteArray) (w : World) (ha : Reads w w.heap.size a (ints xs)) (hb : Reads w w.heap.size b (ints ys)) (hp : p.size ≤ 1000000) (hq : q.size ≤ 1000000) :
    Calls Tryd.prog 65 #[.agg #[a, .string p], .agg #[b, .string q]] w fun e w' => e = .returned (.bool (opV 2 (xs, p.data.toList) (ys, q.data.toList))) ∧ Below w.heap.size w w' := by
  have HA := Lib.hid ha
  have HB := Lib.hid hb
  clear ha hb
  go_enter Tryd.func65, Tryd.ntmps65
  go_upto_region 1 with (fail)
  obtain ⟨W1, hW1, hg0, hg1, hb1, hz1⟩ := rows2 w (.cells #[a, .string p] 65) (.cells #[b, .string q] 65)
  rw [← hW1]
  clear hW1
  have HA1 := Lib.hid ((HA.out.below hb1).more hb1.size)
  have HB1 := Lib.hid ((HB.out.below hb1).more hb1.size)
  obtain ⟨hc0, hc1, _, _⟩ := cell_two hg0
  obtain ⟨hd0, hd1, _, _⟩ := cell_two hg1
  clear hg0 hg1 HA HB hz1
  go_wp2_with (go_at_call 37; refine (compare_any _ _ _ _ p q W1.heap.size _ HA1.out HB1.out (Nat.le_refl _) hp hq).mono ?_; rintro e w5 ⟨rfl, hb5⟩)
  go_ret
  exact ⟨by first | rfl | (unfold opV; rfl), below_step hb1 hb5.below hb1.size⟩
set_option maxRecDepth 100000 in
set_option maxHeartbeats 800000 in
theorem kind_3 (a b : Value) (xs ys : List Int) (p q : ByteArray) (w : World) (ha : Reads w w.heap.size a (ints xs)) (hb : Reads w w.heap.size b (ints ys)) (hp : p.size ≤ 1000000) (hq : q.size ≤ 1000000) :
    Calls Tryd.prog 66 #[.agg #[a, .string p], .agg #[b, .string q]] w fun e w' => e = .returned (.bool (opV 3 (xs, p.data.toList) (ys, q.data.toList))) ∧ Below w.heap.size w w' := by
  have HA := Lib.hid ha
  have HB := Lib.hid hb
  clear ha hb
  go_enter Tryd.func66, Tryd.ntmps66
  go_upto_region 1 with (fail)
  obtain ⟨W1, hW1, hg0, hg1, hb1, hz1⟩ := rows2 w (.cells #[a, .string p] 65) (.cells #[b, .string q] 65)
  rw [← hW1]
  clear hW1
  have HA1 := Lib.hid ((HA.out.below hb1).more hb1.size)
  have HB1 := Lib.hid ((HB.out.below hb1).more hb1.size)
  obtain ⟨hc0, hc1, _, _⟩ := cell_two hg0
  obtain ⟨hd0, hd1, _, _⟩ := cell_two hg1
  clear hg0 hg1 HA HB hz1
  go_wp2_with (go_at_call 37; refine (compare_any _ _ _ _ p q W1.heap.size _ HA1.out HB1.out (Nat.le_refl _) hp hq).mono ?_; rintro e w5 ⟨rfl, hb5⟩)
  go_ret
  exact ⟨by first | rfl | (unfold opV; rfl), below_step hb1 hb5.below hb1.size⟩
set_option maxRecDepth 100000 in
set_option maxHeartbeats 800000 in
theorem kind_4 (a b : Value) (xs ys : List Int) (p q : ByteArray) (w : World) (ha : Reads w w.heap.size a (ints xs)) (hb : Reads w w.heap.size b (ints ys)) (hp : p.size ≤ 1000000) (hq : q.size ≤ 1000000) :
    Calls Tryd.prog 67 #[.agg #[a, .string p], .agg #[b, .string q]] w fun e w' => e = .returned (.bool (opV 4 (xs, p.data.toList) (ys, q.data.toList))) ∧ Below w.heap.size w w' := by
  have HA := Lib.hid ha
  have HB := Lib.hid hb
  clear ha hb
  go_enter Tryd.func67, Tryd.ntmps67
  go_upto_region 1 with (fail)
  obtain ⟨W1, hW1, hg0, hg1, hb1, hz1⟩ := rows2 w (.cells #[a, .string p] 65) (.cells #[b, .string q] 65)
  rw [← hW1]
  clear hW1
  have HA1 := Lib.hid ((HA.out.below hb1).more hb1.size)
  have HB1 := Lib.hid ((HB.out.below hb1).more hb1.size)
  obtain ⟨hc0, hc1, _, _⟩ := cell_two hg0
  obtain ⟨hd0, hd1, _, _⟩ := cell_two hg1
  clear hg0 hg1 HA HB hz1
  go_wp2_with (go_at_call 37; refine (compare_any _ _ _ _ p q W1.heap.size _ HA1.out HB1.out (Nat.le_refl _) hp hq).mono ?_; rintro e w5 ⟨rfl, hb5⟩)
  go_ret
  exact ⟨by first | rfl | (unfold opV; rfl), below_step hb1 hb5.below hb1.size⟩
set_option maxRecDepth 100000 in
set_option maxHeartbeats 800000 in
theorem kind_5 (a b : Value) (xs ys : List Int) (p q : ByteArray) (w : World) (ha : Reads w w.heap.size a (ints xs)) (hb : Reads w w.heap.size b (ints ys)) (hp : p.size ≤ 1000000) (hq : q.size ≤ 1000000) :
    Calls Tryd.prog 68 #[.agg #[a, .string p], .agg #[b, .string q]] w fun e w' => e = .returned (.bool (opV 5 (xs, p.data.toList) (ys, q.data.toList))) ∧ Below w.heap.size w w' := by
  have HA := Lib.hid ha
  have HB := Lib.hid hb
  clear ha hb
  go_enter Tryd.func68, Tryd.ntmps68
  go_upto_region 1 with (fail)
  obtain ⟨W1, hW1, hg0, hg1, hb1, hz1⟩ := rows2 w (.cells #[a, .string p] 65) (.cells #[b, .string q] 65)
  rw [← hW1]
  clear hW1
  have HA1 := Lib.hid ((HA.out.below hb1).more hb1.size)
  have HB1 := Lib.hid ((HB.out.below hb1).more hb1.size)
  obtain ⟨hc0, hc1, _, _⟩ := cell_two hg0
  obtain ⟨hd0, hd1, _, _⟩ := cell_two hg1
  clear hg0 hg1 HA HB hz1
  go_wp2_with (go_at_call 37; refine (compare_any _ _ _ _ p q W1.heap.size _ HA1.out HB1.out (Nat.le_refl _) hp hq).mono ?_; rintro e w5 ⟨rfl, hb5⟩)
  go_ret
  exact ⟨by first | rfl | (unfold opV; rfl), below_step hb1 hb5.below hb1.size⟩
set_option maxRecDepth 100000 in
set_option maxHeartbeats 800000 in
theorem kind_6 (a b : Value) (xs ys : List Int) (p q : ByteArray) (w : World) (ha : Reads w w.heap.size a (ints xs)) (hb : Reads w w.heap.size b (ints ys)) (hp : p.size ≤ 1000000) (hq : q.size ≤ 1000000) :
    Calls Tryd.prog 69 #[.agg #[a, .string p], .agg #[b, .string q]] w fun e w' => e = .returned (.bool (opV 6 (xs, p.data.toList) (ys, q.data.toList))) ∧ Below w.heap.size w w' := by
  have HA := Lib.hid ha
  have HB := Lib.hid hb
  clear ha hb
  go_enter Tryd.func69, Tryd.ntmps69
  go_upto_region 1 with (fail)
  obtain ⟨W1, hW1, hg0, hg1, hb1, hz1⟩ := rows2 w (.cells #[a, .string p] 65) (.cells #[b, .string q] 65)
  rw [← hW1]
  clear hW1
  have HA1 := Lib.hid ((HA.out.below hb1).more hb1.size)
  have HB1 := Lib.hid ((HB.out.below hb1).more hb1.size)
  obtain ⟨hc0, hc1, _, _⟩ := cell_two hg0
  obtain ⟨hd0, hd1, _, _⟩ := cell_two hg1
  clear hg0 hg1 HA HB hz1
  go_wp2_with (go_at_call 37; refine (compare_any _ _ _ _ p q W1.heap.size _ HA1.out HB1.out (Nat.le_refl _) hp hq).mono ?_; rintro e w5 ⟨rfl, hb5⟩)
  go_ret
  exact ⟨by first | rfl | (unfold opV; rfl), below_step hb1 hb5.below hb1.size⟩
end Go.Proofs.YtjckcdemkpmheaaDoor
