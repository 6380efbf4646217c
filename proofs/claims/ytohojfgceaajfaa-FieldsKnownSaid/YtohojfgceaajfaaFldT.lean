/- Which of two texts of one length is the less; the walk of the law FieldsSides. -/
import Derived.Test.YtohojfgceaajfaaFldL
namespace Go.Proofs.Ytohojfgceaajfaa
open Go.RowKit

def valL : List UInt8 → Nat
  | [] => 0
  | a :: x => a.toNat * 256 ^ x.length + valL x
theorem valL_lt (l : List UInt8) : valL l < 256 ^ l.length := by
  induction l with
  | nil => simp [valL]
  | cons a x ih =>
    have := a.toNat_lt
    rw [valL, List.length_cons, Nat.pow_succ]
    have h : a.toNat * 256 ^ x.length + 256 ^ x.length ≤ 256 * 256 ^ x.length := by
      rw [← Nat.succ_mul]; exact Nat.mul_le_mul_right _ (by omega)
    omega
theorem less_val : ∀ x y : List UInt8, x.length = y.length → Op.bytesLess x y = decide (valL x < valL y)
  | [], [], _ => rfl
  | a :: x, b :: y, h => by
    have hl : x.length = y.length := by simpa using h
    have h1 := valL_lt x
    have h2 := valL_lt y
    have ih := less_val x y hl
    rw [Op.bytesLess, ih, valL, valL, hl]
    rw [hl] at h1
    generalize 256 ^ y.length = p at *
    by_cases hab : a.toNat < b.toNat
    · have e : a < b := UInt8.lt_iff_toNat_lt.2 hab
      have h3 : a.toNat * p + p ≤ b.toNat * p := by rw [← Nat.succ_mul]; exact Nat.mul_le_mul_right _ hab
      have h4 : a.toNat * p + valL x < b.toNat * p + valL y := by omega
      simp [e, h4]
    · by_cases hba : b.toNat < a.toNat
      · have e : ¬ a < b := fun e => hab (UInt8.lt_iff_toNat_lt.1 e)
        have e2 : (a == b) = false := by rw [beq_eq_false_iff_ne]; rintro rfl; omega
        have h3 : b.toNat * p + p ≤ a.toNat * p := by rw [← Nat.succ_mul]; exact Nat.mul_le_mul_right _ hba
        have h4 : ¬ a.toNat * p + valL x < b.toNat * p + valL y := by omega
        simp [e, e2, h4]
      · have e : a = b := UInt8.toNat_inj.1 (by omega)
        subst e
        simp
theorem valL_snoc (l : List UInt8) (c : UInt8) : valL (l ++ [c]) = valL l * 256 + c.toNat := by
  induction l with
  | nil => simp [valL]
  | cons a x ih =>
    rw [List.cons_append, valL, valL, ih, List.length_append, List.length_singleton, Nat.pow_succ, Nat.add_mul, Nat.mul_assoc]
    omega
theorem valL_txt (d : Nat → Nat) (hd : ∀ i, d i < 256) (n : Nat) : valL (txt d n) = numV d n := by
  induction n with
  | zero => rfl
  | succ n ih =>
    have h : txt d (n + 1) = txt d n ++ [UInt8.ofNat (d n)] := by simp [txt, List.range_succ]
    rw [h, valL_snoc, ih, numV, UInt8.toNat_ofNat', Nat.mod_eq_of_lt (hd n)]
theorem less_txt (d e : Nat → Nat) (hd : ∀ i, d i < 256) (he : ∀ i, e i < 256) (n : Nat) : Op.bytesLess (strOf (txt d n)).toList (strOf (txt e n)).toList = decide ((numV d n : Int) < (numV e n : Int)) := by
  have h1 : ∀ l, (strOf l).toList = l := fun l => by rw [ByteArray.toList_eq]; rfl
  rw [h1, h1, less_val _ _ (by rw [txt_len, txt_len]), valL_txt d hd, valL_txt e he]
  congr 1
  simp
theorem txt_join (d e : Nat → Nat) (n m : Nat) : strOf (txt (joinD n d e) (n + m)) = strOf (txt d n) ++ strOf (txt e m) := by
  apply str_ext
  have h : ∀ l k : List UInt8, (strOf l ++ strOf k).data.toList = l ++ k := fun l k => by
    rw [ByteArray.data_append]; simp [strOf]
  rw [h]
  apply List.ext_getElem?
  intro i
  simp only [strOf, txt]
  by_cases hi : i < n
  · rw [List.getElem?_append_left (by simpa using hi)]
    simp [hi, joinD, show i < n + m by omega]
  · rw [List.getElem?_append_right (by simpa using hi)]
    by_cases hm : i < n + m
    · have : i - n < m := by omega
      simp [hm, joinD, hi, this]
    · have : ¬ i - n < m := by omega
      simp [hm, this]

def one (k a : Nat) : It := ⟨k, a, none, 0, 0, fun _ => 0⟩
theorem one_ok (k a : Nat) (w : World) (B : Nat) (hk : k < 256) (ha : a < 18446744073709551616) : ItOk w B (one k a) :=
  ⟨hk, ha, fun _ => Nat.zero_lt_succ _, Nat.le_refl _, (show 0 ≤ maxLen by decide), fun h => absurd h (by simp [one]), fun _ => rfl⟩
theorem one_len (k a : Nat) (hk : k < 4) : itLen (one k a) = wd k ∧ itB (one k a) = numB a (wd k) := by
  have h : (one k a).kind % 5 = k := by simp only [one]; omega
  have h4 : ¬ (one k a).kind % 5 = 4 := by omega
  rw [itLen, itB, if_neg h4, if_neg h4, h]
  exact ⟨rfl, rfl⟩
theorem put_one (k a : Nat) (hk : k < 4) (ha : a < 18446744073709551616) (w : World) (g base : Nat) (v : Value) (L : Nat) (d : Nat → Nat) (hW : Wr w g base v L d) (hL : L ≤ 10000) (hbase : base ≤ w.heap.size) :
    Calls Try.prog 10 #[.pointer (some ⟨g, 0, none⟩), .agg #[.int .u8 (k : Int), .int .u64 (a : Int), .slice none 0 0]] w fun e w' => e = .returned (.tuple #[]) ∧ Put w g base v (L + wd k) (joinD L d (numB a (wd k))) w' := by
  have h := putIt_any (one k a) w g base v L d hW hL hbase w.heap.size (Nat.le_refl _) (one_ok k a w _ (by omega) ha) (by simp [one])
  rw [(one_len k a hk).1, (one_len k a hk).2] at h
  exact h
theorem join_zero (d e : Nat → Nat) : joinD 0 d e = e := by
  funext i; simp [joinD]
theorem Wr.kept0 {w w' : World} {g base g' L : Nat} {v : Value} {d : Nat → Nat} (h : Wr w g base v L d) (hk : KeptBut w w' g' none) (h1 : g ≠ g') (h3 : v.ownBlock ≠ some g') : Wr w' g base v L d :=
  h.kept hk h1 (fun e => by cases e) h3 (fun _ _ e => by cases e)
theorem Wr.own_ge {w : World} {g base L : Nat} {v : Value} {d : Nat → Nat} (h : Wr w g base v L d) {b : Nat} (hb : b < base) : v.ownBlock ≠ some b := fun e => by
  have := (h.2.1.lt b e).1; omega
theorem rows_three (w : World) (o : Obj) : (((w.alloc o).alloc o).alloc o).heap[w.heap.size]? = some o ∧ (((w.alloc o).alloc o).alloc o).heap[w.heap.size + 1]? = some o ∧ (((w.alloc o).alloc o).alloc o).heap[w.heap.size + 2]? = some o ∧ Below w.heap.size w (((w.alloc o).alloc o).alloc o) ∧ (((w.alloc o).alloc o).alloc o).heap.size = w.heap.size + 3 := by
  obtain ⟨w1, e, h1, h2, h3, hb, hz⟩ := rows3 w o o o
  subst e
  exact ⟨h1, h2, h3, hb, hz⟩

set_option maxRecDepth 100000 in
set_option maxHeartbeats 2000000 in
theorem fieldsSides_walk (a0 b0 c0 : Int) (w : World) (ha0 : (Lit.int .u64 a0).wf = true) (hb0 : (Lit.int .u64 b0).wf = true) (hc0 : (Lit.int .u8 c0).wf = true) :
    Calls Try.prog 6 #[.int .u64 a0, .int .u64 b0, .int .u8 c0] w fun e w' => e = .returned (.bool true) ∧ Below w.heap.size w w' := by
  obtain ⟨a, ha, rfl⟩ := u64_of a0 ha0
  obtain ⟨b, hb, rfl⟩ := u64_of b0 hb0
  obtain ⟨c, hc, rfl⟩ := u8_of c0 hc0
  clear ha0 hb0 hc0
  obtain ⟨k, K⟩ : ∃ k, Hid (k = c % 4) := ⟨_, Lib.hid rfl⟩
  have ek : (c : Int) % 4 = (k : Int) := by rw [K.out]; omega
  have hk4 : k < 4 := by have := K.out; omega
  have HA := Lib.hid ha
  have HB := Lib.hid hb
  have HK4 := Lib.hid hk4
  clear ha hb hc hk4
  obtain ⟨hg0, hg1, hg2, hbw, hz⟩ := rows_three w (.cells #[.slice none 0 0] 27)
  have HW0 : Hid (Wr (((w.alloc (.cells #[.slice none 0 0] 27)).alloc (.cells #[.slice none 0 0] 27)).alloc (.cells #[.slice none 0 0] 27)) w.heap.size (w.heap.size + 3) (.slice none 0 0) 0 (fun _ => 0)) := Lib.hid ⟨hg0, World.ownsRow_nil _ _ _ _, by simp [Value.ownBlock]⟩
  have HW1 : Hid (Wr (((w.alloc (.cells #[.slice none 0 0] 27)).alloc (.cells #[.slice none 0 0] 27)).alloc (.cells #[.slice none 0 0] 27)) (w.heap.size + 1) (w.heap.size + 3) (.slice none 0 0) 0 (fun _ => 0)) := Lib.hid ⟨hg1, World.ownsRow_nil _ _ _ _, by simp [Value.ownBlock]⟩
  have HW2 : Hid (Wr (((w.alloc (.cells #[.slice none 0 0] 27)).alloc (.cells #[.slice none 0 0] 27)).alloc (.cells #[.slice none 0 0] 27)) (w.heap.size + 2) (w.heap.size + 3) (.slice none 0 0) 0 (fun _ => 0)) := Lib.hid ⟨hg2, World.ownsRow_nil _ _ _ _, by simp [Value.ownBlock]⟩
  clear hg0 hg1 hg2
  go_enter Try.func6, Try.ntmps6
  go_upto_region 3 with (fail)
  generalize (((w.alloc (.cells #[.slice none 0 0] 27)).alloc (.cells #[.slice none 0 0] 27)).alloc (.cells #[.slice none 0 0] 27)) = w3 at *
  obtain ⟨q, Q⟩ : ∃ q, Hid (q = wd k) := ⟨_, Lib.hid rfl⟩
  have hq8 : q ≤ 8 := by rw [Q.out]; exact (wd_le k).2
  obtain ⟨h, HH⟩ : ∃ h, Hid (h = w.heap.size) := ⟨_, Lib.hid rfl⟩
  rw [← HH.out] at HW0 HW1 HW2 hz ⊢
  have HP := Lib.hid (put_one k a HK4.out HA.out w3 h (h + 3) _ _ _ HW0.out (by decide) (by omega))
  rw [← Q.out, Nat.zero_add, join_zero] at HP
  go_wp2_with fail
  refine HP.out.mono ?_
  rintro e w4 ⟨rfl, v4, hv4, hk4, hm4⟩
  have hW14 := HW1.out.kept0 hk4 (by omega) (by simp [Value.ownBlock])
  have hW24 := HW2.out.kept0 hk4 (by omega) (by simp [Value.ownBlock])
  have hb4 := KeptBut.below hbw hk4 (by rw [HH.out]; exact Nat.le_refl _) (fun _ e => by cases e) hbw.size
  have hz4 := hk4.size
  have HP4 := Lib.hid (put_one k b HK4.out HB.out w4 (h + 1) (h + 3) _ _ _ hW14 (by decide) (by omega))
  rw [← Q.out, Nat.zero_add, join_zero] at HP4
  have HV4 := Lib.hid hv4
  have HW24 := Lib.hid hW24
  clear HW0 HW1 HW2 HP hW14 hW24 hv4 hk4 hm4 hbw
  go_wp2_with fail
  refine HP4.out.mono ?_
  rintro e w5 ⟨rfl, v5, hv5, hk5, hm5⟩
  have hV45 := HV4.out.kept0 hk5 (by omega) (HV4.out.own_ge (by omega))
  have hW25 := HW24.out.kept0 hk5 (by omega) (by simp [Value.ownBlock])
  have hb5 := KeptBut.below hb4 hk5 (by have := HH.out; omega) (fun _ e => by cases e) hb4.size
  have hz5 := hk5.size
  have HP5 := Lib.hid (put_one k a HK4.out HA.out w5 (h + 2) (h + 3) _ _ _ hW25 (by decide) (by omega))
  rw [← Q.out, Nat.zero_add, join_zero] at HP5
  have HV45 := Lib.hid hV45
  have HV5 := Lib.hid hv5
  clear HV4 HW24 HP4 hV45 hW25 hv5 hk5 hm5 hb4
  go_wp2_with fail
  refine HP5.out.mono ?_
  rintro e w6 ⟨rfl, v6, hv6, hk6, hm6⟩
  have hV46 := HV45.out.kept0 hk6 (by omega) (HV45.out.own_ge (by omega))
  have hV56 := HV5.out.kept0 hk6 (by omega) (HV5.out.own_ge (by omega))
  have hb6 := KeptBut.below hb5 hk6 (by have := HH.out; omega) (fun _ e => by cases e) hb5.size
  have hz6 := hk6.size
  have hn6 : ∀ t, t < w5.heap.size → v6.ownBlock ≠ some t := fun t ht => hm6.ne ht (by simp [Value.ownBlock])
  have HN64 := Lib.hid (fun t (ht : v4.ownBlock = some t) => hn6 t (HV45.out.2.1.lt t ht).2)
  have HN65 := Lib.hid (fun t (ht : v5.ownBlock = some t) => hn6 t (HV5.out.2.1.lt t ht).2)
  have HP6 := Lib.hid (put_one k b HK4.out HB.out w6 (h + 2) (h + 3) _ _ _ hv6 (by omega) (by omega))
  rw [← Q.out] at HP6
  have HV46 := Lib.hid hV46
  have HV56 := Lib.hid hV56
  have HV6 := Lib.hid hv6
  clear HV45 HV5 HP5 hV46 hV56 hv6 hk6 hm6 hb5 hn6
  go_wp2_with fail
  refine HP6.out.mono ?_
  rintro e w7 ⟨rfl, v7, hv7, hk7, hm7⟩
  have hV47 := HV46.out.kept hk7 (by omega) (HV6.out.own_ge (by omega)) (HV46.out.own_ge (by omega)) HN64.out
  have hV57 := HV56.out.kept hk7 (by omega) (HV6.out.own_ge (by omega)) (HV56.out.own_ge (by omega)) HN65.out
  have hb7 := KeptBut.below hb6 hk7 (by have := HH.out; omega) (fun t ht => by have := (HV6.out.2.1.lt t ht).1; have := HH.out; omega) hb6.size
  have HO1 := Lib.hid (out_any w7.drew h (h + 3) v4 q (numB a q) (hV47.below (Below.refl _ _).drew) (by omega))
  have HV57 := Lib.hid hV57
  have HV7 := Lib.hid hv7
  obtain ⟨sp, SP⟩ : ∃ s, Hid (s = strOf (txt (numB a q) q)) := ⟨_, Lib.hid rfl⟩
  obtain ⟨sq, SQ⟩ : ∃ s, Hid (s = strOf (txt (numB b q) q)) := ⟨_, Lib.hid rfl⟩
  clear HV46 HV56 HV6 HN64 HN65 HP6 hV47 hV57 hv7 hk7 hm7 hb6
  go_wp2_with fail
  go_region_with (first | (go_at_call 12; (with_reducible refine HO1.out.mono ?_); rintro e wA ⟨⟨va, rfl, howna⟩, hba⟩; have hbA := below_step hb7.drew hba hb7.size; have hcva := convert_own (P := Try.prog) (src := 25) (dst := 9) (l := txt (numB a q) q) (by rw [txt_len, ← txt_cells _ _ (numB_lt a q)]; exact howna) Try.underlying25 Try.underlying5 Try.underlying9; rw [← SP.out] at hcva; have HV5A := Lib.hid ((HV57.out.below (Below.refl _ _).drew).below hba); have HV7A := Lib.hid ((HV7.out.below (Below.refl _ _).drew).below hba); have HO2 := Lib.hid (out_any wA (h + 1) (h + 3) v5 q (numB b q) HV5A.out (by omega)); have HOA := Lib.hid howna; clear howna hba) | (go_at_call 12; (with_reducible refine HO2.out.mono ?_); rintro e wB ⟨⟨vb, rfl, hownb⟩, hbb⟩; have hbB := below_step hbA hbb hbA.size; have hcvb := convert_own (P := Try.prog) (src := 25) (dst := 9) (l := txt (numB b q) q) (by rw [txt_len, ← txt_cells _ _ (numB_lt b q)]; exact hownb) Try.underlying25 Try.underlying5 Try.underlying9; have hcva2 := convert_own (P := Try.prog) (src := 25) (dst := 9) (l := txt (numB a q) q) (by rw [txt_len, ← txt_cells _ _ (numB_lt a q)]; exact own_below HOA.out hbb (Nat.le_refl _)) Try.underlying25 Try.underlying5 Try.underlying9; rw [← SQ.out] at hcvb; rw [← SP.out] at hcva2; have HV7B := Lib.hid (HV7A.out.below hbb); clear hownb hbb))
  all_goals
    clear hcvb hcva2 hcva hbA hb7
    obtain ⟨cap1, wC, hq1, hc1, hcb1, hbC, hrC, _⟩ := bytes_of_txt (P := Try.prog) wB 5 9 25 (numB a q) q (numB_lt a q) (by unfold maxLen; omega) Try.underlying9 Try.underlying25 Try.underlying5
    obtain ⟨cap2, wD, hq2, hc2, hcb2, hbD, hrD, _⟩ := bytes_of_txt (P := Try.prog) wC 5 9 25 (numB b q) q (numB_lt b q) (by unfold maxLen; omega) Try.underlying9 Try.underlying25 Try.underlying5
    rw [← SP.out] at hcb1
    rw [← SQ.out] at hcb2
    have HN1 := Lib.hid (refNumber_any _ q cap1 (numB a q) (numB_lt a q) hq8 wC _ hrC)
    have HN2 := Lib.hid (refNumber_any _ q cap2 (numB b q) (numB_lt b q) hq8 wD _ hrD)
    have hless := less_txt (numB a q) (numB b q) (numB_lt a q) (numB_lt b q) q
    rw [← SP.out, ← SQ.out] at hless
    obtain ⟨M, MM⟩ : ∃ M, Hid (M = numV (numB a q) q) := ⟨_, Lib.hid rfl⟩
    obtain ⟨N, NN⟩ : ∃ M, Hid (M = numV (numB b q) q) := ⟨_, Lib.hid rfl⟩
    rw [← MM.out] at HN1 hless
    rw [← NN.out] at HN2 hless
    have hB1 := below_step hbB hbC hbB.size
    have hB2 := below_step hB1 hbD hB1.size
    have HVD := Lib.hid ((HV7B.out.below hbC).below hbD)
    clear hrC hrD hbC hbD HV7A HV5A HO1 HO2 HOA HV57 HV7 HV7B hbB hB1
    have HO3 := Lib.hid (out_any wD (h + 2) (h + 3) v7 (q + q) (joinD q (numB a q) (numB b q)) HVD.out (by omega))
    have HWD := Lib.hid (fun w => width_any k (by have := HK4.out; omega) (by have := HK4.out; omega) w)
    rw [show k % 5 = k by have := HK4.out; omega, ← Q.out] at HWD
    have hsz : sp.size = q := by rw [SP.out, strOf_size, txt_len]
    have HSZ := Lib.hid hsz
    have HSZ2 := Lib.hid (show sq.size = q by rw [SQ.out, strOf_size, txt_len])
    have HJ := Lib.hid (txt_join (numB a q) (numB b q) q q)
    rw [← SP.out, ← SQ.out] at HJ
    have HJL := Lib.hid (fun i => join_lt q (numB a q) (numB b q) (numB_lt a q) (numB_lt b q) i)
    have HLESS := Lib.hid hless
    clear hless hsz HVD
    go_wp2_with fail
    refine HN1.out.mono ?_
    rintro e w' ⟨rfl, rfl⟩
    clear hcb1
    go_wp2_with fail
    refine HN2.out.mono ?_
    rintro e w' ⟨rfl, rfl⟩
    clear hcb2
    go_wp2_with fail
    refine HO3.out.mono ?_
    rintro e wE ⟨⟨vx, rfl, hownx⟩, hbE⟩
    have hB3 := below_step hB2 hbE hB2.size
    have hcvx := convert_own (P := Try.prog) (src := 25) (dst := 9) (l := txt (joinD q (numB a q) (numB b q)) (q + q)) (by rw [txt_len, ← txt_cells _ _ HJL.out]; exact hownx) Try.underlying25 Try.underlying5 Try.underlying9
    rw [HJ.out] at hcvx
    have hless := HLESS.out
    have hsz := HSZ.out
    have hsz2 := HSZ2.out
    clear hownx hbE hB2 HO3
    cases hmn : decide ((M : Int) < (N : Int))
    all_goals
      rw [hmn] at hless
      have hmn2 := hmn
      simp only [Int.ofNat_lt] at hmn2
      go_wp2_with fail
      refine (HWD.out _).mono ?_
      rintro e wF ⟨rfl, hbF⟩
      have hB4 := below_step hB3 hbF hB3.size
      clear hB3 hbF
      go_wp2_with fail
      refine (works_any _).mono ?_
      rintro e wG ⟨rfl, hbG⟩
      have hB5 := below_step hB4 hbG hB4.size
      go_wp2_with fail
      go_ret
      exact ⟨rfl, hB5⟩
end Go.Proofs.Ytohojfgceaajfaa
