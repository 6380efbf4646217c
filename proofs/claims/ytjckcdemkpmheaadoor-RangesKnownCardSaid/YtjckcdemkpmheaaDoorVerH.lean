/- Contract of version.Compare. -/
import Derived.Test.YtjckcdemkpmheaaDoorVerG
import Derived.Sort.Grow
namespace Go.Proofs.YtjckcdemkpmheaaDoor
open Go.RowKit Go.BigFrame
open Ver (cmpI cmpL bytesI cmpT cmpV BL)

/-- A world with draws and new blocks, and nothing else. -/
def Grew (w w' : World) : Prop := ∃ q os, w' = Sort.grow (w.drewN q) os
theorem Grew.refl (w : World) : Grew w w := ⟨0, #[], (Sort.grow_empty _).symm⟩
theorem grow_drewN (w : World) (os : Array Obj) (n : Nat) : (Sort.grow w os).drewN n = Sort.grow (w.drewN n) os := by
  induction n with
  | zero => rfl
  | succ n ih =>
    show ((Sort.grow w os).drewN n).drew = Sort.grow (w.drewN n).drew os
    rw [ih]; rfl
theorem Grew.alloc {w w1 : World} (h : Grew w w1) (o : Obj) : Grew w (w1.alloc o) := by
  obtain ⟨q, os, rfl⟩ := h
  exact ⟨q, os ++ #[o], by rw [Sort.alloc_eq_grow, Sort.grow_grow]⟩
theorem Grew.drewN {w w1 : World} (h : Grew w w1) (n : Nat) : Grew w (w1.drewN n) := by
  obtain ⟨q, os, rfl⟩ := h
  exact ⟨q + n, os, by rw [grow_drewN, World.drewN_drewN]⟩
theorem Grew.drew {w w1 : World} (h : Grew w w1) : Grew w w1.drew := h.drewN 1
theorem Grew.trans {w w1 w2 : World} (h : Grew w w1) (h2 : Grew w1 w2) : Grew w w2 := by
  obtain ⟨q, os, rfl⟩ := h
  obtain ⟨q2, os2, rfl⟩ := h2
  exact ⟨q + q2, os ++ os2, by rw [grow_drewN, World.drewN_drewN, Sort.grow_grow]⟩
theorem Grew.below {w w1 : World} (h : Grew w w1) : Below w.heap.size w w1 := by
  obtain ⟨q, os, rfl⟩ := h
  have hb := below_drewN (Below.refl w.heap.size w) q
  refine ⟨hb.os, hb.tape, hb.output, ?_, fun k hk => ?_⟩
  · show w.heap.size ≤ ((w.drewN q).heap ++ os).size
    have := hb.size
    rw [Array.size_append]; omega
  · have h2 : k < (w.drewN q).heap.size := Nat.lt_of_lt_of_le hk hb.size
    show ((w.drewN q).heap ++ os)[k]? = w.heap[k]?
    rw [Array.getElem?_append_left h2]
    exact hb.block k hk
def bytsOf (s : ByteArray) : List Int := bytesI s.data.toList
theorem cmpV_num (xs ys : List Int) (s t : BL) (h : cmpL xs ys ≠ 0) : cmpV (xs, s) (ys, t) = cmpL xs ys := by rw [Ver.cmpV_eq, if_pos h]
theorem cmpV_tag (xs ys : List Int) (s t : BL) (h : cmpL xs ys = 0) : cmpV (xs, s) (ys, t) = cmpT s t := by rw [Ver.cmpV_eq, if_neg (by omega)]
theorem cmpT_nil (s t : ByteArray) (h : s.size = 0 ∨ t.size = 0) : cmpT s.data.toList t.data.toList = cmpI t.size s.size := by
  unfold cmpT
  rw [if_pos (h.imp (nil_of s) (nil_of t)), len_data, len_data]
theorem cmpT_both (s t : ByteArray) (h : 1 ≤ s.size) (h2 : 1 ≤ t.size) : cmpT s.data.toList t.data.toList = cmpL (bytsOf s) (bytsOf t) := by
  unfold cmpT
  rw [if_neg]; rfl
  rintro (e | e)
  all_goals
    have := congrArg List.length e
    rw [len_data, List.length_nil] at this
    omega
theorem conv_reads {P : Program} (w : World) (E src dst : TypeId) (s : ByteArray) (hn : s.size ≤ maxLen) (hs : P.underlying src = some .string) (ht : P.underlying dst = some (.slice E)) (he : P.underlying E = some (.int .u8)) :
    ∃ v w2, (convert src dst (.string s)).run P w = .ok v w2 ∧ Grew w w2 ∧ Reads w2 w2.heap.size v (byts (bytsOf s)) := by
  have h := run_bytes_of_string (P := P) w src dst E s hs ht he
  have hl : (byts (bytsOf s)).length = s.size := by rw [byts_len, bytsOf, Ver.bytesI_len, len_data]
  refine ⟨_, _, h, ((Grew.refl _).drew).alloc _, ⟨_, _, by rw [hl], by rw [hl]; exact grownCap_ge w s.size 0 E, grownCap_le_maxLen w s.size 0 E hn, (fun h => by cases h), fun h0 => ⟨_, rfl, by simp, fun j u hu => ?_⟩⟩⟩
  have hj : j < s.size := by have := (List.getElem?_eq_some_iff.1 hu).1; omega
  have hadd : (⟨w.heap.size, 0, none⟩ : Addr).add j = ⟨w.heap.size, j, none⟩ := by unfold Addr.add; split <;> simp_all
  rw [hadd]
  refine (cell_of_row _ w.heap.size j _ _ _ (heap_alloc_new w.drew _)).trans ?_
  rw [← hu]
  unfold bytesRow
  rw [Array.getElem?_append_left (by simpa using hj)]
  simp [byts, bytsOf, bytesI, List.getElem?_map]
  rfl
set_option maxRecDepth 100000 in
set_option maxHeartbeats 800000 in
theorem compare_any (a b : Value) (xs ys : List Int) (s t : ByteArray) (B : Nat) (w : World) (ha : Reads w B a (ints xs)) (hb : Reads w B b (ints ys)) (hB : B ≤ w.heap.size) (hs : s.size ≤ 1000000) (ht : t.size ≤ 1000000) :
    Calls Tryd.prog 37 #[.agg #[a, .string s], .agg #[b, .string t]] w fun e w' => e = .returned (.int .i64 (cmpV (xs, s.data.toList) (ys, t.data.toList))) ∧ Grew w w' := by
  have HA := Lib.hid ha
  have HB := Lib.hid hb
  clear ha hb
  go_enter Tryd.func37, Tryd.ntmps37
  go_upto_region 1 with (fail)
  obtain ⟨W1, hW1, hg0, hg1, hb1, hz1⟩ := rows2 w (.cells #[a, .string s] 65) (.cells #[b, .string t] 65)
  rw [← hW1]
  have hgw : Grew w W1 := by rw [hW1]; exact ((Grew.refl w).alloc _).alloc _
  clear hW1
  have HA1 := Lib.hid ((HA.out.more hB).below hb1)
  have HB1 := Lib.hid ((HB.out.more hB).below hb1)
  obtain ⟨hc0, hc1, _, _⟩ := cell_two hg0
  obtain ⟨hd0, hd1, _, _⟩ := cell_two hg1
  clear hg0 hg1 HA HB
  by_cases hcmp : cmpL xs ys = 0
  · have hne : (cmpL xs ys != 0) = false := by rw [hcmp]; rfl
    have HT := Lib.hid (cmpV_tag xs ys s.data.toList t.data.toList hcmp)
    clear hcmp
    by_cases hst : s.size = 0 ∨ t.size = 0
    · have HC := Lib.hid (HT.out.trans (cmpT_nil s t hst))
      rcases Nat.eq_zero_or_pos s.size with hs0 | hs1
      · have hsn := nil_list s hs0
        clear hst hs0
        go_wp2_with (first | (go_at_call 56; refine (rows_int a b xs ys _ _ HA1.out HB1.out).mono ?_; rintro e w' ⟨rfl, nq, rfl⟩) | (go_at_call 57; refine (cmp_int _ _ _).mono ?_; rintro e w' ⟨rfl, rfl⟩))
        go_ret
        exact ⟨ret_int HC.out.symm, hgw.drewN _⟩
      · have htn := nil_list t (by omega)
        have hsn := cons_list s hs1
        clear hst hs1
        go_wp2_with (first | (go_at_call 56; refine (rows_int a b xs ys _ _ HA1.out HB1.out).mono ?_; rintro e w' ⟨rfl, nq, rfl⟩) | (go_at_call 57; refine (cmp_int _ _ _).mono ?_; rintro e w' ⟨rfl, rfl⟩))
        go_ret
        exact ⟨ret_int HC.out.symm, hgw.drewN _⟩
    · have hs1 : 1 ≤ s.size := by omega
      have ht1 : 1 ≤ t.size := by omega
      have hsn := cons_list s hs1
      have htn := cons_list t ht1
      have HC := Lib.hid (HT.out.trans (cmpT_both s t hs1 ht1))
      clear hst
      go_upto_region 6 with (go_at_call 56; refine (rows_int a b xs ys _ _ HA1.out HB1.out).mono ?_; rintro e w' ⟨rfl, nq, rfl⟩)
      have hbd := hgw.drewN nq
      have hcw : ∀ p, (W1.drewN nq).cell? p = W1.cell? p := cell_drew rfl
      have hc1' := (hcw _).trans hc1
      have hd1' := (hcw _).trans hd1
      have hzd : (W1.drewN nq).heap.size = w.heap.size + 2 := (show (W1.drewN nq).heap.size = W1.heap.size by simp).trans hz1
      generalize W1.drewN nq = W2 at *
      clear hcw hc0 hc1 hd0 hd1 hb1 hz1 HA1 HB1
      obtain ⟨v1, W3, hr1, hb3, HR1⟩ := conv_reads (P := Tryd.prog) W2 5 9 42 s (by unfold maxLen; omega) Tryd.underlying9 Tryd.underlying42 Tryd.underlying5
      have hd3 := (hb3.below.cell (p := ⟨w.heap.size + 1, 1, none⟩) (by show w.heap.size + 1 < W2.heap.size; omega)).trans hd1'
      obtain ⟨v2, W4, hr2, hb4, HR2⟩ := conv_reads (P := Tryd.prog) W3 5 9 42 t (by unfold maxLen; omega) Tryd.underlying9 Tryd.underlying42 Tryd.underlying5
      have HR1' := Lib.hid ((HR1.below hb4.below).more hb4.below.size)
      have HR2' := Lib.hid HR2
      have hbf := (hbd.trans hb3).trans hb4
      clear hzd hb3 hb4 HR1 HR2 hbd
      go_wp2_with (go_at_call 58; refine (rows_byte v1 v2 _ _ _ _ HR1'.out HR2'.out).mono ?_; rintro e w' ⟨rfl, nq2, rfl⟩)
      go_ret
      exact ⟨ret_int HC.out.symm, hbf.drewN _⟩
  · have hne : (cmpL xs ys != 0) = true := by rw [bne_iff_ne]; exact hcmp
    have HT := Lib.hid (cmpV_num xs ys s.data.toList t.data.toList hcmp)
    clear hcmp
    go_wp2_with (go_at_call 56; refine (rows_int a b xs ys _ _ HA1.out HB1.out).mono ?_; rintro e w' ⟨rfl, nq, rfl⟩)
    go_ret
    exact ⟨ret_int HT.out.symm, hgw.drewN _⟩
end Go.Proofs.YtjckcdemkpmheaaDoor
