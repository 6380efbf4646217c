/- The contract of Sum. -/
import Derived.Test.YtnenjljcopbdeaaDoorShaF
import Derived.Laws.AppendOwnNone
import Derived.Maps.AppendAt
namespace Go.Proofs.YtnenjljcopbdeaaDoor
open Go.RowKit

/-- A chain's bytes. -/
def dig (c : Nat → UInt32) (i : Nat) : Nat := (c (i / 4)).toNat / 2 ^ (24 - 8 * (i % 4)) % 256
/-- What is left of the bytes, and what is put behind them. -/
def endB (d : Nat → Nat) (n i : Nat) : Nat := if i < n % 64 then d (64 * (n / 64) + i) else padB n (i - n % 64)
def endLen (n : Nat) : Nat := n % 64 + padLen n
def sumC (d : Nat → Nat) (n : Nat) : Nat → UInt32 := chainN (endB d n) (chainN d hW (n / 64)) (endLen n / 64)
def sumB (d : Nat → Nat) (n : Nat) : Nat → Nat := dig (sumC d n)
theorem wpList_append_holds {P : Program} {w : World} {ops : Array Oper} {rest : List Oper} {o : Oper} {a : Act} {Q : Exit → Act → World → Prop} (hgd : o.guard = none) (s x : Operand) (t : TypeId)
    (ho : o.op = .call { callee := .builtin .append, args := #[s, x], argTypes := #[t, t] })
    (base : Nat) (e : TypeId) (i : TypeInfo) (ht : P.underlying t = some (.slice e)) (hi : P.info? e = some i) (hz : i.zero = some (.int .u8 0)) (hs1 : i.size = 1) (hb1 : i.bytes = 1)
    (v : Value) (n : Nat) (xs : List Value) (hs : a.eval s = v) (hown : w.ownsRow base e 1 v n xs) (B : Nat) (A : Option Addr) (m c : Nat) (d : Nat → Nat) (hx : a.eval x = .slice A m c) (hr : Holds w B A m d) (hA : A = none → c = 0) (hmc : m ≤ c)
    (h63 : n + m ≤ maxLen) (hbytes : n + m ≤ 140737488355328) (hbase : base ≤ w.heap.size)
    (h : ∀ v' w', w'.ownsRow base e 1 v' (n + m) (xs ++ cells d m) → w.grownBy w' v.ownBlock → wpList P ops Q rest (a.put o.dst v') w') : wpList P ops Q (o :: rest) a w := by
  cases A with
  | none =>
    have hc := hA rfl
    subst hc
    obtain rfl : m = 0 := by omega
    refine wpList_append_own_none hgd s x t ho base e i 1 ht hi v n xs hs hown hx ?_
    exact h v w (by simpa [cells] using hown) (World.grownBy.refl w _)
  | some ad =>
    refine wpList_append_own w hgd s x t ho base e i (.int .u8 0) 1 1 ht hi hz hs1 hb1 rfl (by decide) v n xs hs hown ad m c (cells d m) hx (by rw [cells_len]; omega) ?_ ?_ h63 (by omega) hbase fun v' w' h1 h2 _ => h v' w' h1 h2
    · intro j u hu
      have hj : j < m := by
        have := (List.getElem?_eq_some_iff.1 hu).1
        rwa [cells_len] at this
      obtain ⟨ad', e', _, hc⟩ := hr (by omega)
      cases e'
      rw [cells_get _ _ _ hj] at hu
      rw [hc j hj, hu]
    · intro u hu
      simp [cells] at hu
      obtain ⟨_, _, rfl⟩ := hu
      rfl
theorem own_below {w w' : World} {base size n B : Nat} {e : TypeId} {v : Value} {xs : List Value} (h : w.ownsRow base e size v n xs) (hb : Below B w w') (hB : w.heap.size ≤ B) : w'.ownsRow base e size v n xs := by
  obtain ⟨hl, h0 | ⟨g, cap, cur, rfl, hg, hgg, h1, h2, h3, h4⟩⟩ := h
  · exact ⟨hl, .inl h0⟩
  · exact ⟨hl, .inr ⟨g, cap, cur, rfl, hg, (hb.block g (Nat.lt_of_lt_of_le (block_lt hgg) hB)).trans hgg, h1, h2, h3, h4⟩⟩
theorem own_holds {w : World} {base n : Nat} {e : TypeId} {v : Value} {d : Nat → Nat} (h : w.ownsRow base e 1 v n (cells d n)) (hn : 0 < n) :
    ∃ g cap, v = .slice (some ⟨g, 0, none⟩) n cap ∧ base ≤ g ∧ g < w.heap.size ∧ n ≤ cap ∧ cap ≤ maxLen ∧ Holds w w.heap.size (some ⟨g, 0, none⟩) n d := by
  obtain ⟨hl, ⟨rfl, h0⟩ | ⟨g, cap, cur, rfl, hg, hgg, h1, h2, h3, h4⟩⟩ := h
  · omega
  · refine ⟨g, cap, rfl, hg, block_lt hgg, h1, h2, fun _ => ⟨_, rfl, block_lt hgg, fun j hj => ?_⟩⟩
    have hadd : (⟨g, 0, none⟩ : Addr).add j = ⟨g, j, none⟩ := by unfold Addr.add; split <;> simp_all
    rw [hadd, cell_of_row _ _ _ _ _ _ hgg]
    have := cells_get d n j hj
    rw [← h4, List.getElem?_take_of_lt (by omega)] at this
    simpa using this
theorem cells_append (a b : Nat → Nat) (m k : Nat) (e : Nat → Nat) (h1 : ∀ i, i < m → e i = a i) (h2 : ∀ i, i < k → e (m + i) = b i) : cells a m ++ cells b k = cells e (m + k) := by
  apply List.ext_getElem?
  intro i
  by_cases h : i < m
  · rw [List.getElem?_append_left (by rw [cells_len]; exact h), cells_get _ _ _ h, cells_get _ _ _ (by omega), h1 i h]
  · rw [List.getElem?_append_right (by rw [cells_len]; omega), cells_len]
    by_cases hk : i < m + k
    · rw [cells_get _ _ _ (by omega), cells_get _ _ _ hk, ← h2 _ (by omega : i - m < k), show m + (i - m) = i from by omega]
    · rw [List.getElem?_eq_none (by rw [cells_len]; omega), List.getElem?_eq_none (by rw [cells_len]; omega)]
theorem end_cells (d : Nat → Nat) (n m : Nat) (hm : m = n % 64) : cells (fun i => d (64 * (n / 64) + i)) m ++ cells (padB n) (padLen n) = cells (endB d n) (m + padLen n) :=
  cells_append _ _ _ _ _ (fun i hi => by rw [endB, if_pos (by omega)]) fun i _ => by rw [endB, if_neg (by omega), hm]; congr 1; omega
theorem endB_lt (d : Nat → Nat) (hd : ∀ i, d i < 256) (n i : Nat) : endB d n i < 256 := by unfold endB; split; exact hd _; exact padB_lt _ _
theorem kept {w w' : World} {row : Option Nat} {g : Nat} {o : Obj} (h : w.heap[g]? = some o) (hb : w.grownBy w' row) (hg : some g ≠ row) : w'.heap[g]? = some o := (hb.block g (block_lt h) hg).trans h
def digTo (c : Nat → UInt32) (k i : Nat) : Nat := if i < k then dig c i else 0
theorem dig_zero (c : Nat → UInt32) : digA (fun _ => 0) 32 = digA (digTo c 0) 32 := digA_congr _ _ _ fun i _ => by simp [digTo]
theorem dig_all (c : Nat → UInt32) : digA (digTo c 32) 32 = digA (dig c) 32 := digA_congr _ _ _ fun i hi => by simp [digTo, hi]
theorem dig_set (c : Nat → UInt32) (k : Nat) : (digA (digTo c k) 32).setIfInBounds k (.int .u8 (dig c k : Int)) = digA (digTo c (k + 1)) 32 := by
  have e : dig c k = digTo c (k + 1) k := by simp [digTo]
  rw [e]
  exact digA_set _ _ _ _ fun i _ hne => by unfold digTo; split <;> split <;> first | rfl | omega
theorem dig_start (w w9 : World) (gC : Nat) (c c1 : Nat → UInt32) (hB9 : Below w.heap.size w w9) (hgC9 : w9.heap[gC]? = some (.cells (wrow c1 8) 28)) (hgR9 : w9.heap[w.heap.size]? = some (.cells (digA (fun _ => 0) 32) 33)) (hlt : w.heap.size < gC) :
    ∃ wA, wA = (w9.setRow gC (wrow c 8)).alloc (.cells (digA (fun _ => 0) 32) 33) ∧ wA.heap[gC]? = some (.cells (wrow c 8) 28) ∧ wA.heap[w9.heap.size]? = some (.cells (digA (fun _ => 0) 32) 33) ∧ wA.heap[w.heap.size]? = some (.cells (digA (fun _ => 0) 32) 33) ∧ Below w.heap.size w wA := by
  have hC := block_lt hgC9
  refine ⟨_, rfl, (old_block _ _ _ (by simp; exact hC)).trans (setRow_heap _ _ _ _ _ _ hgC9), ?_, (old_block _ _ _ (by simp; omega)).trans ((setRow_other _ _ _ _ (by omega)).trans hgR9), (below_setRow hB9 (by omega) _).alloc (by simp; omega) _⟩
  have := heap_alloc_new (w9.setRow gC (wrow c 8)) (.cells (digA (fun _ => 0) 32) 33)
  simpa using this
theorem tab_first {w : World} (ht : Tabs w) : ∀ j v, (wrow hW 8)[j]? = some v → w.cell? ((⟨1, 0, none⟩ : Addr).add j) = some v := by
  intro j v hv
  have hj : j < 8 := by
    have := (Array.getElem?_eq_some_iff.1 hv).1
    simpa [wrow_size] using this
  have hadd : (⟨1, 0, none⟩ : Addr).add j = ⟨1, j, none⟩ := by unfold Addr.add; split <;> simp_all
  rw [wrow_get _ _ _ hj] at hv
  rw [hadd, ht.2.2 j hj, hv]
theorem zeros32 : #[Value.int IntKind.u8 0, Value.int IntKind.u8 0, Value.int IntKind.u8 0, Value.int IntKind.u8 0, Value.int IntKind.u8 0, Value.int IntKind.u8 0, Value.int IntKind.u8 0, Value.int IntKind.u8 0, Value.int IntKind.u8 0, Value.int IntKind.u8 0, Value.int IntKind.u8 0, Value.int IntKind.u8 0, Value.int IntKind.u8 0, Value.int IntKind.u8 0, Value.int IntKind.u8 0, Value.int IntKind.u8 0, Value.int IntKind.u8 0, Value.int IntKind.u8 0, Value.int IntKind.u8 0, Value.int IntKind.u8 0, Value.int IntKind.u8 0, Value.int IntKind.u8 0, Value.int IntKind.u8 0, Value.int IntKind.u8 0, Value.int IntKind.u8 0, Value.int IntKind.u8 0, Value.int IntKind.u8 0, Value.int IntKind.u8 0, Value.int IntKind.u8 0, Value.int IntKind.u8 0, Value.int IntKind.u8 0, Value.int IntKind.u8 0] = digA (fun _ => 0) 32 := rfl

set_option maxRecDepth 100000 in
set_option maxHeartbeats 1000000 in
theorem sum_any (d : Nat → Nat) (hd : ∀ i, d i < 256) (A : Option Addr) (n cap : Nat) (hnc : n ≤ cap) (hcm : cap ≤ maxLen) (w : World) (ht : Tabs w) (hr : Holds w w.heap.size A n d) (hA : A = none → cap = 0) :
    Calls Tryd.prog 15 #[.slice A n cap] w fun e w' => e = .returned (.agg (digA (sumB d n) 32)) ∧ Below w.heap.size w w' := by
  obtain ⟨i0, hi, hz0, hz1, hz2⟩ := info_parts infoU8
  have HD := Lib.hid hd
  have HT := Lib.hid ht
  have HA := Lib.hid hA
  have HCM := Lib.hid hcm
  unfold maxLen at hcm
  clear hd ht hA
  go_enter Tryd.func15, Tryd.ntmps15
  go_upto_region 1 with (fail)
  rw [zeros32]
  obtain ⟨w1, hw1, hgR, hb, hsz⟩ : ∃ w1, w1 = w.alloc (.cells (digA (fun _ => 0) 32) 33) ∧ w1.heap[w.heap.size]? = some (.cells (digA (fun _ => 0) 32) 33) ∧ Below w.heap.size w w1 ∧ w1.heap.size = w.heap.size + 1 :=
    ⟨_, rfl, heap_alloc_new w _, (Below.refl _ _).alloc (Nat.le_refl _) _, by simp⟩
  rw [← hw1]
  clear hw1
  go_wp2_with (refine wpList_load_cells rfl 28 _ rfl ⟨1, 0, none⟩ rfl (wrow hW 8) _ (tab_first (HT.out.below hb)) Tryd.underlying28 rfl (by rw [wrow_size]; exact info8w) ?_)
  refine (blocks_any hW d HD.out A n cap hnc HCM.out _ (HT.out.below hb) ((hr.below hb).more hb.size) HA.out).mono ?_
  rintro e w2 ⟨A2, cap2, rfl, hb2, hr2, hn2, hc2, hA2⟩
  have HA2 := Lib.hid hA2
  have HC2 := Lib.hid hc2
  have hgR2 := (hb2.block w.heap.size (by omega)).trans hgR
  have hB2 := below_step hb hb2 hb.size
  have hz2' : w.heap.size + 1 ≤ w2.heap.size := by have := hb2.size; omega
  unfold maxLen at hc2
  have hz1 := hb2.size
  clear hgR hb hb2 hA2 hr
  obtain ⟨c1, C1⟩ : ∃ c, Hid (c = chainN d hW (n / 64)) := ⟨_, Lib.hid rfl⟩
  rw [← C1.out]
  obtain ⟨m, HM⟩ : ∃ m, Hid (m = n % 64) := ⟨_, Lib.hid rfl⟩
  have hm64 : m < 64 := by have := HM.out; omega
  rw [← HM.out] at hr2 hn2 ⊢
  go_upto_region 2 with (refine wpList_store_row rfl 28 _ _ rfl w2.heap.size (wrow c1 8) rfl rfl 28 _ (heap_alloc_new _ _) (by rw [wrow_size]; exact info8w) (by rw [wrow_size]; rfl) (wrow_ok _ _) ?_)
  rw [zeros8]
  obtain ⟨w3, hw3, hgC, hold, hB3, hz3⟩ := row_put w.heap.size w w2 (wrow (fun _ => 0) 8) (wrow c1 8) 28 hB2 (by omega)
  rw [← hw3]
  have hgR3 := (hold w.heap.size (by omega)).trans hgR2
  have hr3 : Holds w3 w1.heap.size A2 m (fun i => d (64 * (n / 64) + i)) := by
    intro hm
    obtain ⟨ad, e1, e2, e3⟩ := hr2 hm
    refine ⟨ad, e1, e2, fun j hj => ?_⟩
    rw [← e3 j hj]
    exact World.cell?_of_block (hold _ (by rw [add_block]; omega))
  obtain ⟨gC, GC⟩ : ∃ g, Hid (g = w2.heap.size) := ⟨_, Lib.hid rfl⟩
  rw [← GC.out] at hgC ⊢
  have hlt3 : w.heap.size < w3.heap.size := by omega
  have hlt4 : w1.heap.size ≤ w3.heap.size := by omega
  have GCR := Lib.hid (show w.heap.size < gC ∧ gC < w3.heap.size by have := GC.out; omega)
  clear hw3 hold hz3 hgR2 hB2 hz2' hr2 hsz hz1
  go_wp2_with (at_builtin; refine wpList_append_holds rfl _ _ 23 rfl (gC + 1) 5 i0 Tryd.underlying23 hi hz0 hz1 hz2 _ 0 [] rfl (World.ownsRow_lit _ _ _ ?b1 ?b2 ?b3) w1.heap.size A2 m cap2 _ rfl (hr3.below ?b4) HA2.out hn2 ?b5 ?b6 ?b7 ?_)
  case b1 => have := GCR.out; omega
  case b2 => decide
  case b3 => rfl
  case b4 => exact (Below.refl _ _).alloc hlt4 _
  case b5 => unfold maxLen; omega
  case b6 => omega
  case b7 => have := GCR.out; simp; omega
  intro v5 w5 hown5 hg5
  have hB5 := (hB3.alloc (Nat.le_of_lt hlt3) (.cells #[] 5)).grown hg5 (by simp; omega) (fun g hg => by simp [Value.ownBlock] at hg; omega)
  have hgC5 := kept ((Below.heap_alloc w3 (.cells #[] 5) gC GCR.out.2).trans hgC) hg5 (by have := GCR.out.2; simp [Value.ownBlock]; omega)
  have hgR5 := kept ((Below.heap_alloc w3 (.cells #[] 5) w.heap.size hlt3).trans hgR3) hg5 (by simp [Value.ownBlock]; omega)
  have GCR5 := Lib.hid (show w.heap.size < gC ∧ gC < w5.heap.size from ⟨GCR.out.1, block_lt hgC5⟩)
  clear hg5 hB3 hgC hgR3 GCR hr3 hlt3 hlt4
  go_wp2_with fail
  refine (pad_any n _).mono ?_
  rintro e w6 ⟨rfl, hb6, hg6⟩
  have hown6 := own_below hown5 hb6 (Nat.le_refl _)
  have hB6 := below_step hB5 hb6 hB5.size
  have hgC6 := (hb6.block gC GCR5.out.2).trans hgC5
  have hgR6 := (hb6.block w.heap.size (block_lt hgR5)).trans hgR5
  have hpl : padLen n ≤ 72 := by have := noughts_lt n; unfold padLen; omega
  have hz6 : w.heap.size < w6.heap.size := block_lt hgR6
  have HP6 : Hid (Holds w6 w6.heap.size (some ⟨w5.heap.size, 0, none⟩) (padLen n) (padB n)) := Lib.hid fun _ => ⟨_, rfl, block_lt hg6, fun i hi => row_cells hg6 i _ (digA_get _ _ _ hi)⟩
  have HN6 : Hid ((some ⟨w5.heap.size, 0, none⟩ : Option Addr) = none → padLen n = 0) := Lib.hid fun h => by cases h
  have HO6 := Lib.hid hown6
  clear hown5 hb6 hB5 hgC5 hgR5 hown6
  go_wp2_with (at_builtin; go_must (refine wpList_append_holds rfl _ _ 23 rfl (gC + 1) 5 i0 Tryd.underlying23 hi hz0 hz1 hz2 v5 m _ rfl HO6.out w6.heap.size (some ⟨w5.heap.size, 0, none⟩) (padLen n) (padLen n) (padB n) rfl HP6.out HN6.out (Nat.le_refl _) ?b5 ?b6 ?b7 ?_))
  case b5 => unfold maxLen; omega
  case b6 => omega
  case b7 => have := hgC6; have := block_lt hgC6; omega
  intro v7 w7 hown7 hg7
  have hB7 := hB6.grown hg7 (by omega) (fun g hg => by have := (HO6.out.lt g hg).1; have := GCR5.out; omega)
  have hgC7 := kept hgC6 hg7 (fun e => by have := (HO6.out.lt gC e.symm).1; omega)
  have hgR7 := kept hgR6 hg7 (fun e => by have := (HO6.out.lt w.heap.size e.symm).1; have := GCR5.out; omega)
  rw [end_cells d n m HM.out] at hown7
  have hpl9 : 0 < m + padLen n := by unfold padLen; omega
  obtain ⟨g8, cap8, rfl, hb8, hlt8, hTc, hcm8, hh8⟩ := own_holds hown7 hpl9
  have HTc := Lib.hid hTc
  have HCM8 := Lib.hid hcm8
  have HH8 := Lib.hid hh8
  have HE : Hid (sumC d n = chainN (endB d n) c1 ((m + padLen n) / 64)) := Lib.hid (by rw [sumC, endLen, ← HM.out, ← C1.out])
  unfold maxLen at hcm8
  clear HO6 HP6 HN6 hg7 hB6 hgC6 hgR6 hg6 hown7 hh8 hb8 HA HA2 HC2 hpl9
  obtain ⟨T, HTT⟩ : ∃ T, Hid (T = m + padLen n) := ⟨_, Lib.hid rfl⟩
  rw [← HTT.out] at hTc HTc HH8 HE ⊢
  go_wp2_with (refine wpList_load_row rfl 28 _ rfl gC rfl 28 _ (0, 0) _ hgC7 Tryd.underlying28 rfl (by rw [wrow_size]; exact info8w) ?_)
  refine (blocks_any c1 (endB d n) (endB_lt d HD.out n) (some ⟨g8, 0, none⟩) T cap8 HTc.out HCM8.out _ (HT.out.below hB7) HH8.out (fun h => by cases h)).mono ?_
  rintro e w9 ⟨A9, cap9, rfl, hb9, _, _, _, _⟩
  rw [← HE.out]
  have hB9 := below_step hB7 hb9 hB7.size
  have hgC9 := (hb9.block gC (block_lt hgC7)).trans hgC7
  have hgR9 := (hb9.block w.heap.size (block_lt hgR7)).trans hgR7
  have GCR9 := Lib.hid (show w.heap.size < gC ∧ gC < w9.heap.size from ⟨GCR5.out.1, block_lt hgC9⟩)
  clear hb9 hB7 hgC7 hgR7 GCR5 hlt8 hTc hcm8 HTc HCM8 HH8 HE
  obtain ⟨c2, C2⟩ : ∃ c, Hid (c = sumC d n) := ⟨_, Lib.hid rfl⟩
  rw [← C2.out]
  go_upto_region 6 with (refine wpList_store_row rfl 28 _ _ rfl gC (wrow c2 8) rfl rfl 28 _ hgC9 (by rw [wrow_size]; exact info8w) (by rw [wrow_size, wrow_size]) (wrow_ok _ _) ?_)
  rw [zeros32]
  obtain ⟨wA, hwA, hgCA, hgDA, hgRA, hBA⟩ := dig_start w w9 gC c2 c1 hB9 hgC9 hgR9 GCR9.out.1
  rw [← hwA]
  obtain ⟨gD, GD⟩ : ∃ g, Hid (g = w9.heap.size) := ⟨_, Lib.hid rfl⟩
  rw [← GD.out] at hgDA ⊢
  have GDR := Lib.hid (show w.heap.size < gC ∧ gC < gD by have := GCR9.out; have := GD.out; omega)
  rw [dig_zero c2] at hgDA
  clear hwA hB9 hgC9 hgR9 GCR9
  go_wp2
  go_loopw [29] (fun i wr => ∃ k : Nat, k ≤ 32 ∧ i = .int .i64 k ∧ wr.heap[gC]? = some (.cells (wrow c2 8) 28) ∧ wr.heap[gD]? = some (.cells (digA (digTo c2 k) 32) 33) ∧ wr.heap[w.heap.size]? = some (.cells (digA (fun _ => 0) 32) 33) ∧ Below w.heap.size w wr) (fun i _ => 32 - (intOf i).toNat)
  case atStart => exact ⟨0, by omega, rfl, hgCA, hgDA, hgRA, hBA⟩
  case round =>
    clear hgCA hgDA hgRA hBA
    obtain ⟨k, hk, rfl, hgC, hgD, hgR, hB⟩ := hrel
    by_cases hlt : k < 32
    · have h8 : k / 4 < 8 := by omega
      obtain ⟨x, X⟩ : ∃ x, Hid (x = c2 (k / 4)) := ⟨_, Lib.hid rfl⟩
      have hcc : wr.cell? ⟨gC, k / 4, none⟩ = some (.int .u32 (x.toNat : Int)) := by rw [cell_of_row _ _ _ _ _ _ hgC, wrow_get _ _ _ h8, X.out]
      have hcd : wr.cell? ⟨gD, k, none⟩ = some (.int .u8 (digTo c2 k k : Int)) := by rw [cell_of_row _ _ _ _ _ _ hgD, digA_get _ _ _ hlt]
      have hfd : wr.frozen? ⟨gD, k, none⟩ = false := frozen_of_row _ _ _ _ _ hgD
      obtain ⟨v, V⟩ : ∃ v, Hid (v = dig c2 k) := ⟨_, Lib.hid rfl⟩
      obtain ⟨wz, hwz, hgCz, hgDz, hgRz, hBz⟩ : ∃ wz, wz = wr.setCell ⟨gD, k, none⟩ (.int .u8 (v : Int)) ∧ wz.heap[gC]? = some (.cells (wrow c2 8) 28) ∧ wz.heap[gD]? = some (.cells (digA (digTo c2 (k + 1)) 32) 33) ∧ wz.heap[w.heap.size]? = some (.cells (digA (fun _ => 0) 32) 33) ∧ Below w.heap.size w wz := by
        have := GDR.out
        refine ⟨_, rfl, (heap_setCell_other wr _ _ _ (by show gC ≠ gD; omega)).trans hgC, ?_, (heap_setCell_other wr _ _ _ (by show w.heap.size ≠ gD; omega)).trans hgR, hB.setCell (by show w.heap.size ≤ gD; omega) _⟩
        rw [heap_setCell_same wr gD k _ _ _ hgD, V.out, dig_set]
      clear hgC hgD hgR hB
      have ev : (x.toNat : Int) / 2 ^ (24 - 8 * (k % 4)) % 256 = (v : Int) := by rw [V.out, dig, ← X.out, Int.natCast_emod, Int.natCast_ediv, Int.natCast_pow]; rfl
      go_wp2
      rw [← hwz]
      go_roundw
      case rel => exact ⟨k + 1, by omega, by go_num, hgCz, hgDz, hgRz, hBz⟩
      case measure => simp [intOf]; omega
    · obtain rfl : k = 32 := by omega
      rw [dig_all] at hgD
      have HC2 := Lib.hid (show dig c2 = sumB d n by rw [C2.out]; rfl)
      go_wp2_with (first | (refine wpList_load_row rfl 33 _ rfl gD rfl 33 _ (0, 0) _ hgD Tryd.underlying33 rfl (by rw [digA_size]; exact info32) ?_) | (refine wpList_store_row rfl 33 _ _ rfl w.heap.size (digA (dig c2) 32) rfl rfl 33 _ hgR (by rw [digA_size]; exact info32) (by rw [digA_size, digA_size]) (digA_ok _ _) ?_))
      refine bodyPost_ret (v := .agg (digA (dig c2) 32)) (results_cell_row Tryd.results15 _ _ w.heap.size 33 _ (0, 0) _ rfl (setRow_heap _ _ _ _ _ _ hgR) Tryd.underlying33 rfl (by rw [digA_size]; exact info32)) rfl ?_
      rw [HC2.out]
      exact ⟨rfl, below_setRow hB (Nat.le_refl _) _⟩
end Go.Proofs.YtnenjljcopbdeaaDoor
