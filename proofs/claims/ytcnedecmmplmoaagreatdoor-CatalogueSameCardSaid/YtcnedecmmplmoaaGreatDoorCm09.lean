/- Contracts of ranges.sign, bound. -/
import Derived.Test.YtcnedecmmplmoaaGreatDoorCm08
set_option linter.unusedVariables false
set_option linter.unusedSimpArgs false
namespace Go.Proofs.YtcnedecmmplmoaaGreatDoor
open Go.RowKit Go.BigFrame
open Ver (cmpV BL)

def sgnB (o : Nat) : ByteArray := ⟨(Rng.sgnL o).toArray⟩
theorem op_cases (o : Nat) (h : o ≤ 7) : o = 0 ∨ o = 1 ∨ o = 2 ∨ o = 3 ∨ o = 4 ∨ o = 5 ∨ o = 6 ∨ o = 7 := by omega
def sgnTab : Value := .agg #[.string ⟨#[42]⟩, .string ⟨#[61]⟩, .string ⟨#[33, 61]⟩, .string ⟨#[60]⟩, .string ⟨#[60, 61]⟩, .string ⟨#[62]⟩, .string ⟨#[62, 61]⟩, .string ⟨#[126]⟩]
theorem index_sgn (o : Nat) (h : o ≤ 7) (w : World) : Sem.run Tryz.prog (Instr.index 160 sgnTab (.int .u8 (o : Int))) w = .ok (.string (sgnB o)) w := by
  rcases op_cases o h with rfl | rfl | rfl | rfl | rfl | rfl | rfl | rfl <;> first | kernel_rfl | rfl
set_option maxRecDepth 100000 in
set_option maxHeartbeats 400000 in
theorem sign_any (o : Nat) (h : o ≤ 7) (w : World) : Calls Tryz.prog 97 #[.int .u8 (o : Int)] w fun e w' => e = .returned (.string (sgnB o)) ∧ w' = w := by
  have hi := index_sgn o h
  unfold sgnTab at hi
  go_enter Tryz.func97, Tryz.ntmps97
  go_wp2
  go_ret
  exact ⟨rfl, rfl⟩
def rawB (s : ByteArray) : Bd := bdOf (Rng.rawL s.data.toList)
set_option maxRecDepth 100000 in
set_option maxHeartbeats 800000 in
theorem bound_star (w : World) : Calls Tryz.prog 132 #[.string ⟨#[42]⟩] w fun e w' => e = .returned (.agg #[.int .u8 0, .string ⟨#[]⟩]) ∧ Below w.heap.size w w' := by
  go_enter Tryz.func132, Tryz.ntmps132
  go_wp2
  refine bodyPost_ret (v := .agg #[.int .u8 0, .string ⟨#[]⟩]) (by simp [results, Tryz.results132, go_sem]) rfl ⟨rfl, ?_⟩
  exact (Below.refl _ _).alloc (Nat.le_refl _) _
def tab7 : List Nat := [2, 4, 6, 1, 3, 5, 7]
def tabV : Value := .agg #[.int .u8 2, .int .u8 4, .int .u8 6, .int .u8 1, .int .u8 3, .int .u8 5, .int .u8 7]
set_option maxRecDepth 100000 in
set_option maxHeartbeats 400000 in
theorem index_tab (k : Nat) (h : k < 7) (w : World) : Sem.run Tryz.prog (Instr.index 175 tabV (.int .i64 (k : Int))) w = .ok (.int .u8 ((tab7.getD k 0 : Nat) : Int)) w := by
  have : k = 0 ∨ k = 1 ∨ k = 2 ∨ k = 3 ∨ k = 4 ∨ k = 5 ∨ k = 6 := by omega
  rcases this with rfl | rfl | rfl | rfl | rfl | rfl | rfl <;> first | kernel_rfl | rfl
theorem tab_le (k : Nat) : tab7.getD k 0 ≤ 7 := by
  by_cases h : k < 7
  · have : k = 0 ∨ k = 1 ∨ k = 2 ∨ k = 3 ∨ k = 4 ∨ k = 5 ∨ k = 6 := by omega
    rcases this with rfl | rfl | rfl | rfl | rfl | rfl | rfl <;> decide
  · have : tab7[k]? = none := List.getElem?_eq_none (by simp [tab7]; omega)
    simp [List.getD, this]
theorem tab_drop (k : Nat) (h : k < 7) : tab7.drop k = tab7.getD k 0 :: tab7.drop (k + 1) := by
  rw [List.drop_eq_getElem_cons (by simp [tab7]; omega)]
  congr 1
  simp [List.getD, show k < tab7.length from h]
theorem sgnB_list (o : Nat) : (sgnB o).data.toList = Rng.sgnL o := by simp [sgnB]
theorem cutP_any (b : Bool) (o : Nat) (s : ByteArray) (w : World) (h : Lib.hasPrefix s.data.toList (Rng.sgnL o) = b) : Calls Tryz.prog 77 #[.string s, .string (sgnB o)] w fun e w' => e = .returned (.tuple #[.string ⟨(Lib.trimPrefix s.data.toList (Rng.sgnL o)).toArray⟩, .bool b]) ∧ w' = w := by
  have := Tryz.strings_CutPrefix s (sgnB o) w
  rw [sgnB_list, h] at this
  exact this
set_option maxRecDepth 100000 in
set_option maxHeartbeats 2000000 in
theorem bound_other (s : ByteArray) (hs : s ≠ ⟨#[42]⟩) (w : World) : Calls Tryz.prog 132 #[.string s] w fun e w' => e = .returned (.agg #[.int .u8 ((rawB s).1 : Int), .string (rawB s).2]) ∧ Below w.heap.size w w' := by
  have hne : (s.toList == [42]) = false := by
    have h := (str_ne_iff s ⟨#[42]⟩).trans (decide_eq_false hs)
    rw [Lib.toList_data ⟨#[42]⟩] at h; exact h
  have HR := Lib.hid (show rawB s = bdOf (Rng.firstOf tab7 s.data.toList) by
    unfold rawB Rng.rawL
    rw [if_neg fun h => hs (str_ext h)]; rfl)
  have HT := Lib.hid index_tab
  clear hs
  go_enter Tryz.func132, Tryz.ntmps132
  go_wp2
  obtain ⟨W0, hW0, hg0, _, hz0, hb0⟩ := row_at w w (.cells #[.int .u8 0, .string ⟨#[]⟩] 57) (Below.refl _ _)
  rw [← hW0]
  have HZ0 := Lib.hid hz0
  clear hW0 hz0
  go_loopw [11] (fun i wr => ∃ (k : Nat), k ≤ 7 ∧ i = .int .i64 (k : Int) ∧ Hid (wr = W0) ∧ Hid (Rng.firstOf tab7 s.data.toList = Rng.firstOf (tab7.drop k) s.data.toList)) (fun i _ => 7 - (intOf i).toNat)
  case atStart => exact ⟨0, by omega, rfl, Lib.hid rfl, Lib.hid rfl⟩
  case round =>
    obtain ⟨k, hk, rfl, HW, HF⟩ := hrel
    obtain ⟨hc0, hc1, hf0, hf1⟩ := cell_two hg0
    by_cases hlt : k < 7
    · have ht := HT.out k hlt
      unfold tabV at ht
      have ho := tab_le k
      have HD := Lib.hid (tab_drop k hlt)
      generalize tab7.getD k 0 = o at *
      cases hp : Lib.hasPrefix s.data.toList (Rng.sgnL o)
      · have HP := Lib.hid hp
        have HN := Lib.hid (show Rng.firstOf tab7 s.data.toList = Rng.firstOf (tab7.drop (k + 1)) s.data.toList by
          rw [HF.out, HD.out]
          show (if _ then _ else _) = _
          rw [if_neg (by rw [HP.out]; simp)])
        clear hp
        rw [HW.out]
        go_wp2_with (first | (go_at_call 97; refine (sign_any _ ho _).mono ?_; rintro e w' ⟨rfl, rfl⟩) | (go_at_call 77; refine (cutP_any false _ _ _ HP.out).mono ?_; rintro e w' ⟨rfl, rfl⟩))
        go_roundw
        case rel => exact ⟨k + 1, by omega, by go_num, Lib.hid (by first | trivial | rfl), HN⟩
        case measure => simp [intOf]; omega
      · have HP := Lib.hid hp
        have HN := Lib.hid (show rawB s = bdOf (o, Lib.trimPrefix s.data.toList (Rng.sgnL o)) by
          rw [HR.out, HF.out, HD.out]
          show bdOf (if _ then _ else _) = _
          rw [if_pos HP.out])
        clear hp
        rw [HW.out]
        go_wp2_with (first | (go_at_call 97; refine (sign_any _ ho _).mono ?_; rintro e w' ⟨rfl, rfl⟩) | (go_at_call 77; refine (cutP_any true _ _ _ HP.out).mono ?_; rintro e w' ⟨rfl, rfl⟩))
        refine bodyPost_ret (v := .agg #[.int .u8 (o : Int), .string ⟨(Lib.trimPrefix s.data.toList (Rng.sgnL o)).toArray⟩]) (by simp [results, Tryz.results132, go_sem, hc0, hc1, hf0, hf1]) rfl ⟨?_, ?_⟩
        · rw [HN.out]; rfl
        · exact (hb0.setCell (Nat.le_refl _) _).setCell (Nat.le_refl _) _
    · have HN := Lib.hid (show rawB s = (8, ⟨#[]⟩) by
        rw [HR.out, HF.out, show k = 7 by omega]; rfl)
      rw [HW.out]
      go_wp2
      refine bodyPost_ret (v := .agg #[.int .u8 8, .string ⟨#[]⟩]) (by simp [results, Tryz.results132, go_sem, hc0, hc1, hf0, hf1]) rfl ⟨?_, ?_⟩
      · rw [HN.out]; rfl
      · exact (hb0.setCell (Nat.le_refl _) _).setCell (Nat.le_refl _) _
theorem bound_any (s : ByteArray) (w : World) : Calls Tryz.prog 132 #[.string s] w fun e w' => e = .returned (.agg #[.int .u8 ((rawB s).1 : Int), .string (rawB s).2]) ∧ Below w.heap.size w w' := by
  by_cases hs : s = ⟨#[42]⟩
  · subst hs; exact bound_star w
  · exact bound_other s hs w
end Go.Proofs.YtcnedecmmplmoaaGreatDoor

/- Contracts of slices.Equal, near, and the kinds of bounds. -/
namespace Go.Proofs.YtcnedecmmplmoaaGreatDoor
open Go.RowKit Go.BigFrame
open Ver (cmpV BL)

set_option maxRecDepth 100000 in
set_option maxHeartbeats 800000 in
theorem equal_any (a b : Value) (xs ys : List Int) (B : Nat) (w : World) (ha : Reads w B a (ints xs)) (hb : Reads w B b (ints ys)) :
    Calls Tryz.prog 142 #[a, b] w fun e w' => e = .returned (.bool (decide (xs = ys))) ∧ ∃ nq, w' = w.drewN nq := by
  obtain ⟨A, ca, rfl, hla, hma, hza, hra⟩ := ha
  obtain ⟨A', cb, rfl, hlb, hmb, hzb, hrb⟩ := hb
  simp only [ints_len] at *
  have HRA := Lib.hid hra
  have HRB := Lib.hid hrb
  unfold maxLen at *
  clear hra hrb hza hzb
  by_cases hl : xs.length = ys.length
  · have HL := Lib.hid hl
    have hbn : ((xs.length : Int) != (ys.length : Int)) = false := by rw [hl]; simp
    have hl1 : xs.length ≤ ys.length := by omega
    clear hl
    go_enter Tryz.func142, Tryz.ntmps142
    go_wp2
    go_loopw [13] (fun i wr => ∃ (k nq : Nat), k ≤ xs.length ∧ i = .int .i64 k ∧ Hid (wr = w.drewN nq) ∧ Hid (∀ j, j < k → xs.getD j 0 = ys.getD j 0)) (fun i _ => xs.length - (intOf i).toNat)
    case atStart => exact ⟨0, 0, by omega, rfl, Lib.hid rfl, Lib.hid fun j h => absurd h (Nat.not_lt_zero j)⟩
    case round =>
      obtain ⟨k, nq, hk, rfl, HW, HS⟩ := hrel
      by_cases hlt : k < xs.length
      · obtain ⟨ad, rfl, hbl, hc⟩ := HRA.out (by omega)
        obtain ⟨ad', rfl, hbl', hc'⟩ := HRB.out (by omega)
        have hcx := (cell_drew HW.out _).trans (hc k _ (ints_get xs k (by omega)))
        have hcy := (cell_drew HW.out _).trans (hc' k _ (ints_get ys k (by omega)))
        clear hc hc' hbl hbl'
        have hi1 : (k : Int) < (xs.length : Int) := by omega
        have hi2 : (k : Int) < (ys.length : Int) := by omega
        have hi0 : (0 : Int) ≤ (k : Int) := by omega
        obtain ⟨x, hx⟩ : ∃ x, x = xs.getD k 0 := ⟨_, rfl⟩
        obtain ⟨y, hy⟩ : ∃ y, y = ys.getD k 0 := ⟨_, rfl⟩
        rw [← hx] at hcx
        rw [← hy] at hcy
        by_cases hxy : x = y
        · have HS' : Hid (∀ j, j < k + 1 → xs.getD j 0 = ys.getD j 0) := Lib.hid fun j hj => by
            rcases Nat.lt_or_ge j k with h | h
            · exact HS.out j h
            · obtain rfl : j = k := by omega
              rw [← hx, ← hy]; exact hxy
          have hbe : (x != y) = false := by rw [hxy]; simp
          clear hx hy hxy
          go_wp2
          go_quiet (fail)
          go_wp2
          go_roundw
          case rel => exact ⟨k + 1, _, by omega, by go_num, Lib.hid (by rw [HW.out]; exact World.drewN_drewN _ _ _), HS'⟩
          case measure => simp [intOf]; omega
        · have HF := Lib.hid (show decide (xs = ys) = false by
            rw [decide_eq_false_iff_not]; exact list_ne xs ys _ k (by rw [← hx, ← hy]; exact hxy))
          have hbe : (x != y) = true := by rw [bne_iff_ne]; exact hxy
          clear hx hy hxy
          go_wp2
          go_quiet (fail)
          go_wp2
          go_ret
          exact ⟨ret_bool HF.out.symm, _, by rw [HW.out]; exact World.drewN_drewN _ _ _⟩
      · have HF := Lib.hid (show decide (xs = ys) = true by
          rw [decide_eq_true_eq]; exact list_eq xs ys _ HL.out fun j hj => HS.out j (by omega))
        go_wp2
        go_ret
        exact ⟨ret_bool HF.out.symm, _, HW.out⟩
  · have hbn : ((xs.length : Int) != (ys.length : Int)) = true := by rw [bne_iff_ne]; omega
    have HF := Lib.hid (show decide (xs = ys) = false by rw [decide_eq_false_iff_not]; exact fun e => hl (by rw [e]))
    go_enter Tryz.func142, Tryz.ntmps142
    go_wp2
    go_ret
    exact ⟨ret_bool HF.out.symm, 0, rfl⟩

abbrev VV := List Int × BL
def nearV (w v : VV) : Bool := decide (max 1 (w.1.length - 1) ≤ v.1.length) && decide (v.1.take (max 1 (w.1.length - 1)) = w.1.take (max 1 (w.1.length - 1))) && decide (0 ≤ cmpV v w)
def opV (o : Nat) (v w : VV) : Bool :=
  match o with
  | 0 => true
  | 1 => cmpV v w == 0
  | 2 => cmpV v w != 0
  | 3 => decide (cmpV v w < 0)
  | 4 => decide (cmpV v w ≤ 0)
  | 5 => decide (cmpV v w > 0)
  | 6 => decide (cmpV v w ≥ 0)
  | _ => nearV w v
theorem reads_take {w : World} {B : Nat} {A : Option Addr} {cap n : Nat} {xs : List Int} (h : Reads w B (.slice A xs.length cap) (ints xs)) (hn : n ≤ xs.length) : Reads w B (.slice A n cap) (ints (xs.take n)) := by
  obtain ⟨A', cap', e, h1, h2, h3, h4⟩ := h
  rw [ints_len] at e h1 h4
  cases e
  have hl : (ints (xs.take n)).length = n := by rw [ints_len, List.length_take]; omega
  refine ⟨A, cap, by rw [hl], by omega, h2, h3, fun h0 => ?_⟩
  obtain ⟨ad, e2, hb, hc⟩ := h4 (by omega)
  refine ⟨ad, e2, hb, fun j u hu => hc j u ?_⟩
  have hj : j < n := by have := (List.getElem?_eq_some_iff.1 hu).1; omega
  rw [← hu]
  simp [ints, List.getElem?_take, hj]
set_option maxRecDepth 100000 in
set_option maxHeartbeats 400000 in
theorem kind_0 (a b : Value) (p q : ByteArray) (w : World) : Calls Tryz.prog 120 #[.agg #[a, .string p], .agg #[b, .string q]] w fun e w' => e = .returned (.bool true) ∧ Below w.heap.size w w' := by
  go_enter Tryz.func120, Tryz.ntmps120
  go_wp2
  go_ret
  exact ⟨rfl, ((Below.refl _ _).alloc (Nat.le_refl _) _).alloc (by simp) _⟩
set_option maxRecDepth 100000 in
set_option maxHeartbeats 800000 in
theorem kind_1 (a b : Value) (xs ys : List Int) (p q : ByteArray) (w : World) (ha : Reads w w.heap.size a (ints xs)) (hb : Reads w w.heap.size b (ints ys)) (hp : p.size ≤ 1000000) (hq : q.size ≤ 1000000) :
    Calls Tryz.prog 121 #[.agg #[a, .string p], .agg #[b, .string q]] w fun e w' => e = .returned (.bool (opV 1 (xs, p.data.toList) (ys, q.data.toList))) ∧ Below w.heap.size w w' := by
  have HA := Lib.hid ha
  have HB := Lib.hid hb
  clear ha hb
  go_enter Tryz.func121, Tryz.ntmps121
  go_upto_region 1 with (fail)
  obtain ⟨W1, hW1, hg0, hg1, hb1, hz1⟩ := rows2 w (.cells #[a, .string p] 101) (.cells #[b, .string q] 101)
  rw [← hW1]
  clear hW1
  have HA1 := Lib.hid ((HA.out.below hb1).more hb1.size)
  have HB1 := Lib.hid ((HB.out.below hb1).more hb1.size)
  obtain ⟨hc0, hc1, _, _⟩ := cell_two hg0
  obtain ⟨hd0, hd1, _, _⟩ := cell_two hg1
  clear hg0 hg1 HA HB hz1
  go_wp2_with (go_at_call 122; refine (compare_any _ _ _ _ p q W1.heap.size _ HA1.out HB1.out (Nat.le_refl _) hp hq).mono ?_; rintro e w5 ⟨rfl, hb5⟩)
  go_ret
  exact ⟨by first | rfl | (unfold opV; rfl), below_step hb1 hb5.below hb1.size⟩
set_option maxRecDepth 100000 in
set_option maxHeartbeats 800000 in
theorem kind_2 (a b : Value) (xs ys : List Int) (p q : ByteArray) (w : World) (ha : Reads w w.heap.size a (ints xs)) (hb : Reads w w.heap.size b (ints ys)) (hp : p.size ≤ 1000000) (hq : q.size ≤ 1000000) :
    Calls Tryz.prog 123 #[.agg #[a, .string p], .agg #[b, .string q]] w fun e w' => e = .returned (.bool (opV 2 (xs, p.data.toList) (ys, q.data.toList))) ∧ Below w.heap.size w w' := by
  have HA := Lib.hid ha
  have HB := Lib.hid hb
  clear ha hb
  go_enter Tryz.func123, Tryz.ntmps123
  go_upto_region 1 with (fail)
  obtain ⟨W1, hW1, hg0, hg1, hb1, hz1⟩ := rows2 w (.cells #[a, .string p] 101) (.cells #[b, .string q] 101)
  rw [← hW1]
  clear hW1
  have HA1 := Lib.hid ((HA.out.below hb1).more hb1.size)
  have HB1 := Lib.hid ((HB.out.below hb1).more hb1.size)
  obtain ⟨hc0, hc1, _, _⟩ := cell_two hg0
  obtain ⟨hd0, hd1, _, _⟩ := cell_two hg1
  clear hg0 hg1 HA HB hz1
  go_wp2_with (go_at_call 122; refine (compare_any _ _ _ _ p q W1.heap.size _ HA1.out HB1.out (Nat.le_refl _) hp hq).mono ?_; rintro e w5 ⟨rfl, hb5⟩)
  go_ret
  exact ⟨by first | rfl | (unfold opV; rfl), below_step hb1 hb5.below hb1.size⟩
set_option maxRecDepth 100000 in
set_option maxHeartbeats 800000 in
theorem kind_3 (a b : Value) (xs ys : List Int) (p q : ByteArray) (w : World) (ha : Reads w w.heap.size a (ints xs)) (hb : Reads w w.heap.size b (ints ys)) (hp : p.size ≤ 1000000) (hq : q.size ≤ 1000000) :
    Calls Tryz.prog 124 #[.agg #[a, .string p], .agg #[b, .string q]] w fun e w' => e = .returned (.bool (opV 3 (xs, p.data.toList) (ys, q.data.toList))) ∧ Below w.heap.size w w' := by
  have HA := Lib.hid ha
  have HB := Lib.hid hb
  clear ha hb
  go_enter Tryz.func124, Tryz.ntmps124
  go_upto_region 1 with (fail)
  obtain ⟨W1, hW1, hg0, hg1, hb1, hz1⟩ := rows2 w (.cells #[a, .string p] 101) (.cells #[b, .string q] 101)
  rw [← hW1]
  clear hW1
  have HA1 := Lib.hid ((HA.out.below hb1).more hb1.size)
  have HB1 := Lib.hid ((HB.out.below hb1).more hb1.size)
  obtain ⟨hc0, hc1, _, _⟩ := cell_two hg0
  obtain ⟨hd0, hd1, _, _⟩ := cell_two hg1
  clear hg0 hg1 HA HB hz1
  go_wp2_with (go_at_call 122; refine (compare_any _ _ _ _ p q W1.heap.size _ HA1.out HB1.out (Nat.le_refl _) hp hq).mono ?_; rintro e w5 ⟨rfl, hb5⟩)
  go_ret
  exact ⟨by first | rfl | (unfold opV; rfl), below_step hb1 hb5.below hb1.size⟩
set_option maxRecDepth 100000 in
set_option maxHeartbeats 800000 in
theorem kind_4 (a b : Value) (xs ys : List Int) (p q : ByteArray) (w : World) (ha : Reads w w.heap.size a (ints xs)) (hb : Reads w w.heap.size b (ints ys)) (hp : p.size ≤ 1000000) (hq : q.size ≤ 1000000) :
    Calls Tryz.prog 125 #[.agg #[a, .string p], .agg #[b, .string q]] w fun e w' => e = .returned (.bool (opV 4 (xs, p.data.toList) (ys, q.data.toList))) ∧ Below w.heap.size w w' := by
  have HA := Lib.hid ha
  have HB := Lib.hid hb
  clear ha hb
  go_enter Tryz.func125, Tryz.ntmps125
  go_upto_region 1 with (fail)
  obtain ⟨W1, hW1, hg0, hg1, hb1, hz1⟩ := rows2 w (.cells #[a, .string p] 101) (.cells #[b, .string q] 101)
  rw [← hW1]
  clear hW1
  have HA1 := Lib.hid ((HA.out.below hb1).more hb1.size)
  have HB1 := Lib.hid ((HB.out.below hb1).more hb1.size)
  obtain ⟨hc0, hc1, _, _⟩ := cell_two hg0
  obtain ⟨hd0, hd1, _, _⟩ := cell_two hg1
  clear hg0 hg1 HA HB hz1
  go_wp2_with (go_at_call 122; refine (compare_any _ _ _ _ p q W1.heap.size _ HA1.out HB1.out (Nat.le_refl _) hp hq).mono ?_; rintro e w5 ⟨rfl, hb5⟩)
  go_ret
  exact ⟨by first | rfl | (unfold opV; rfl), below_step hb1 hb5.below hb1.size⟩
set_option maxRecDepth 100000 in
set_option maxHeartbeats 800000 in
theorem kind_5 (a b : Value) (xs ys : List Int) (p q : ByteArray) (w : World) (ha : Reads w w.heap.size a (ints xs)) (hb : Reads w w.heap.size b (ints ys)) (hp : p.size ≤ 1000000) (hq : q.size ≤ 1000000) :
    Calls Tryz.prog 126 #[.agg #[a, .string p], .agg #[b, .string q]] w fun e w' => e = .returned (.bool (opV 5 (xs, p.data.toList) (ys, q.data.toList))) ∧ Below w.heap.size w w' := by
  have HA := Lib.hid ha
  have HB := Lib.hid hb
  clear ha hb
  go_enter Tryz.func126, Tryz.ntmps126
  go_upto_region 1 with (fail)
  obtain ⟨W1, hW1, hg0, hg1, hb1, hz1⟩ := rows2 w (.cells #[a, .string p] 101) (.cells #[b, .string q] 101)
  rw [← hW1]
  clear hW1
  have HA1 := Lib.hid ((HA.out.below hb1).more hb1.size)
  have HB1 := Lib.hid ((HB.out.below hb1).more hb1.size)
  obtain ⟨hc0, hc1, _, _⟩ := cell_two hg0
  obtain ⟨hd0, hd1, _, _⟩ := cell_two hg1
  clear hg0 hg1 HA HB hz1
  go_wp2_with (go_at_call 122; refine (compare_any _ _ _ _ p q W1.heap.size _ HA1.out HB1.out (Nat.le_refl _) hp hq).mono ?_; rintro e w5 ⟨rfl, hb5⟩)
  go_ret
  exact ⟨by first | rfl | (unfold opV; rfl), below_step hb1 hb5.below hb1.size⟩
set_option maxRecDepth 100000 in
set_option maxHeartbeats 800000 in
theorem kind_6 (a b : Value) (xs ys : List Int) (p q : ByteArray) (w : World) (ha : Reads w w.heap.size a (ints xs)) (hb : Reads w w.heap.size b (ints ys)) (hp : p.size ≤ 1000000) (hq : q.size ≤ 1000000) :
    Calls Tryz.prog 127 #[.agg #[a, .string p], .agg #[b, .string q]] w fun e w' => e = .returned (.bool (opV 6 (xs, p.data.toList) (ys, q.data.toList))) ∧ Below w.heap.size w w' := by
  have HA := Lib.hid ha
  have HB := Lib.hid hb
  clear ha hb
  go_enter Tryz.func127, Tryz.ntmps127
  go_upto_region 1 with (fail)
  obtain ⟨W1, hW1, hg0, hg1, hb1, hz1⟩ := rows2 w (.cells #[a, .string p] 101) (.cells #[b, .string q] 101)
  rw [← hW1]
  clear hW1
  have HA1 := Lib.hid ((HA.out.below hb1).more hb1.size)
  have HB1 := Lib.hid ((HB.out.below hb1).more hb1.size)
  obtain ⟨hc0, hc1, _, _⟩ := cell_two hg0
  obtain ⟨hd0, hd1, _, _⟩ := cell_two hg1
  clear hg0 hg1 HA HB hz1
  go_wp2_with (go_at_call 122; refine (compare_any _ _ _ _ p q W1.heap.size _ HA1.out HB1.out (Nat.le_refl _) hp hq).mono ?_; rintro e w5 ⟨rfl, hb5⟩)
  go_ret
  exact ⟨by first | rfl | (unfold opV; rfl), below_step hb1 hb5.below hb1.size⟩
end Go.Proofs.YtcnedecmmplmoaaGreatDoor

/- Contracts of near, bears, bounded. -/
namespace Go.Proofs.YtcnedecmmplmoaaGreatDoor
open Go.RowKit Go.BigFrame
open Ver (cmpV BL)

theorem equal_q (n : Nat) (a b : Value) (xs ys : List Int) (B : Nat) (w : World) (ha : Reads w B a (ints xs)) (hb : Reads w B b (ints ys)) :
    Calls Tryz.prog 142 #[a, b] w fun e w' => e = .returned (.bool (decide (xs = ys))) ∧ ∃ m, w' = w.drewN m := equal_any a b xs ys B w ha hb
set_option maxRecDepth 100000 in
set_option maxHeartbeats 1000000 in
theorem near_any (a b : Value) (xs ys : List Int) (p q : ByteArray) (w : World) (ha : Reads w w.heap.size a (ints xs)) (hb : Reads w w.heap.size b (ints ys)) (hy : 1 ≤ ys.length) (hp : p.size ≤ 1000000) (hq : q.size ≤ 1000000) :
    Calls Tryz.prog 128 #[.agg #[a, .string p], .agg #[b, .string q]] w fun e w' => e = .returned (.bool (nearV (ys, q.data.toList) (xs, p.data.toList))) ∧ Below w.heap.size w w' := by
  obtain ⟨A, ca, rfl⟩ := ha.form
  obtain ⟨A', cb, rfl⟩ := hb.form
  have hla : xs.length ≤ ca ∧ ca ≤ maxLen := by obtain ⟨_, _, e, h1, h2, _⟩ := ha; rw [ints_len] at e h1; cases e; exact ⟨h1, h2⟩
  have hlb : ys.length ≤ cb ∧ cb ≤ maxLen := by obtain ⟨_, _, e, h1, h2, _⟩ := hb; rw [ints_len] at e h1; cases e; exact ⟨h1, h2⟩
  unfold maxLen at hla hlb
  obtain ⟨m, hm⟩ : ∃ m, m = max 1 (ys.length - 1) := ⟨_, rfl⟩
  have hmy : m ≤ ys.length := by omega
  have HMI := Lib.hid (show max ((ys.length : Int) - 1) 1 = (m : Int) by omega)
  have hwr : IntKind.i64.wrap ((ys.length : Int) - 1) = (ys.length : Int) - 1 := IntWalk.i64_in _ (by omega)
  have HA := Lib.hid ha
  have HB := Lib.hid hb
  have HN := Lib.hid (show nearV (ys, q.data.toList) (xs, p.data.toList) = (decide (m ≤ xs.length) && decide (xs.take m = ys.take m) && decide (0 ≤ cmpV (xs, p.data.toList) (ys, q.data.toList))) by unfold nearV; rw [hm])
  clear ha hb hm
  go_enter Tryz.func128, Tryz.ntmps128
  go_upto_region 1 with (fail)
  obtain ⟨W1, hW1, hg0, hg1, hb1, hz1⟩ := rows2 w (.cells #[.slice A xs.length ca, .string p] 101) (.cells #[.slice A' ys.length cb, .string q] 101)
  rw [← hW1]
  clear hW1
  have HA1 := Lib.hid ((HA.out.below hb1).more hb1.size)
  have HB1 := Lib.hid ((HB.out.below hb1).more hb1.size)
  have HBE := Lib.hid hb1
  obtain ⟨hc0, hc1, _, _⟩ := cell_two hg0
  obtain ⟨hd0, hd1, _, _⟩ := cell_two hg1
  clear hg0 hg1 HA HB hz1 hb1
  go_upto_region 2 with (fail)
  rw [HMI.out]
  by_cases hlt : m ≤ xs.length
  · have hlt1 : ¬ (xs.length : Int) < (m : Int) := by omega
    have hm0 : (0 : Int) ≤ (m : Int) := by omega
    have hm1 : (m : Int) ≤ (ca : Int) := by omega
    have hm2 : (m : Int) ≤ (cb : Int) := by omega
    have HTA := Lib.hid (reads_take HA1.out hlt)
    have HTB := Lib.hid (reads_take HB1.out hmy)
    have HEQ := Lib.hid (fun n : Nat => equal_any _ _ _ _ _ _ (HTA.out.below (below_drewN (Below.refl W1.heap.size W1) n)) (HTB.out.below (below_drewN (Below.refl W1.heap.size W1) n)))
    by_cases heq : xs.take m = ys.take m
    · have HF := Lib.hid (HN.out.trans (by rw [decide_eq_true hlt, decide_eq_true heq, Bool.true_and, Bool.true_and]))
      rw [decide_eq_true heq] at HEQ
      clear heq HTA HTB
      go_quiet ((go_at_call 142; exact Calls.quiet_of (HEQ.out _)))
      rename_i nq
      have hcw : ∀ p, (W1.drewN nq).cell? p = W1.cell? p := cell_drew rfl
      have hc0' := (hcw _).trans hc0
      have hc1' := (hcw _).trans hc1
      have hd0' := (hcw _).trans hd0
      have hd1' := (hcw _).trans hd1
      have hB2 := below_drewN HBE.out nq
      have HA2 := Lib.hid (HA1.out.below (below_drewN (Below.refl W1.heap.size W1) nq))
      have HB2 := Lib.hid (HB1.out.below (below_drewN (Below.refl W1.heap.size W1) nq))
      have hz2 : W1.heap.size ≤ (W1.drewN nq).heap.size := (below_drewN (Below.refl W1.heap.size W1) nq).size
      generalize W1.drewN nq = W2 at *
      clear hcw hc0 hc1 hd0 hd1 HEQ HA1 HB1
      go_wp2_with (go_at_call 122; refine (compare_any _ _ _ _ p q W1.heap.size _ HA2.out HB2.out hz2 hp hq).mono ?_; rintro e w5 ⟨rfl, hb5⟩)
      go_ret
      exact ⟨ret_bool HF.out.symm, below_step hB2 hb5.below hB2.size⟩
    · have HF := Lib.hid (HN.out.trans (by rw [decide_eq_true hlt, decide_eq_false heq, Bool.true_and, Bool.false_and]))
      rw [decide_eq_false heq] at HEQ
      clear heq HTA HTB
      go_quiet ((go_at_call 142; exact Calls.quiet_of (HEQ.out _)))
      go_wp2
      go_ret
      exact ⟨ret_bool HF.out.symm, below_drewN HBE.out _⟩
  · have hlt1 : (xs.length : Int) < (m : Int) := by omega
    have HF := Lib.hid (HN.out.trans (by rw [decide_eq_false hlt, Bool.false_and, Bool.false_and]))
    go_quiet (fail)
    go_wp2
    go_ret
    exact ⟨ret_bool HF.out.symm, below_drewN HBE.out _⟩
end Go.Proofs.YtcnedecmmplmoaaGreatDoor
