/- The contract of the reference's Pad, and the walk of the law ShaPads. -/
import Derived.Test.YtnenjljcopbdeaaDoorShaM
import Derived.OpenShut
namespace Go.Proofs.YtnenjljcopbdeaaDoor
open Go.RowKit Go.BigFrame

theorem one_cell {w : World} {b : Nat} {v : Value} (hc : w.cell? ⟨b, 0, none⟩ = some v) : ∀ j u, [v][j]? = some u → w.cell? ((⟨b, 0, none⟩ : Addr).add j) = some u := by
  intro j u hj
  match j, hj with
  | 0, hj => simp at hj; subst hj; simpa [Addr.add] using hc
theorem u8_one (x : Int) : ∀ u ∈ [Value.int .u8 x], u.oneCell' = true := by
  intro u hu; simp at hu; subst hu; rfl
theorem noughts_stop (n j : Nat) (hj : j ≤ noughts n) : ((n % 64 + 1 + j) % 64 = 56) ↔ j = noughts n := by
  unfold noughts at *; omega
theorem padB_zero (n j : Nat) (h0 : 0 < j) (hj : j ≤ noughts n) : padB n j = 0 := by unfold padB; rw [if_neg (by omega), if_pos hj]
theorem padB_bits (n q p : Nat) (h : p + q = 7) : n * 8 % 18446744073709551616 / 2 ^ (8 * p) % 256 = padB n (1 + noughts n + q) := by
  unfold padB padLen
  rw [if_neg (by omega), if_neg (by omega), show noughts n + 9 - 1 - (1 + noughts n + q) = p from by omega, show (256 : Nat) ^ p = 2 ^ (8 * p) from (Nat.pow_mul 2 8 p).symm]

set_option maxRecDepth 100000 in
set_option maxHeartbeats 400000 in
theorem refPad_any (n : Nat) (hn : n < 18446744073709551616) (w : World) :
    Calls Tryd.prog 10 #[.int .u64 (n : Int)] w fun e w' => ∃ v, e = .returned v ∧ w'.ownsRow w.heap.size 5 1 v (padLen n) (cells (padB n) (padLen n)) ∧ Below w.heap.size w w' := by
  obtain ⟨i0, hi, hz0, hz1, hz2⟩ := info_parts infoU8
  have hnl := noughts_lt n
  go_enter Tryd.func10, Tryd.ntmps10
  go_upto_region 2 with (fail)
  have hown : (w.alloc (.cells #[.int .u8 128] 5)).ownsRow w.heap.size 5 1 (.slice (some ⟨w.heap.size, 0, none⟩) 1 1) (1 + 0) (cells (padB n) (1 + 0)) := World.ownsRow_lit w #[.int .u8 128] 1 (Nat.le_refl _) (by decide) rfl
  have hb := (Below.refl w.heap.size w).alloc (Nat.le_refl _) (.cells #[.int .u8 128] 5)
  generalize (w.alloc (.cells #[.int .u8 128] 5)) = w1 at *
  go_wp2_with fail
  go_loopw [3, 4] (fun v k wr => ∃ j t : Nat, j ≤ noughts n ∧ k = .int .u64 (t : Int) ∧ t ≤ 130 ∧ Hid (t = n % 64 + 1 + j) ∧ wr.ownsRow w.heap.size 5 1 v (1 + j) (cells (padB n) (1 + j)) ∧ Below w.heap.size w wr) (fun _ k _ => 200 - (intOf k).toNat)
  case atStart => exact ⟨0, n % 64 + 1 + 0, by omega, val_int (by omega), by omega, Lib.hid rfl, hown, hb⟩
  case round =>
    clear hown hb
    obtain ⟨j, t, hj, rfl, ht, HT, hown, hb⟩ := hrel
    by_cases hz : j = noughts n
    · have hb1 : (((t : Int) % 64) != 56) = false := by
        have := (noughts_stop n j hj).2 hz
        rw [bne_eq_false_iff_eq, HT.out]; omega
      have HZ := Lib.hid hz
      clear hz
      go_wp2_with fail
      have HBB : Hid (∀ q p : Nat, p + q = 7 → n * 8 % 18446744073709551616 / 2 ^ (8 * p) % 256 = padB n (1 + noughts n + q)) := Lib.hid (padB_bits n)
      rw [HZ.out] at hown
      clear HZ hj
      go_loopw [3, 6] (fun v i wr => ∃ q : Nat, q ≤ 8 ∧ i = .int .i64 (7 - (q : Int)) ∧ wr.ownsRow w.heap.size 5 1 v (1 + noughts n + q) (cells (padB n) (1 + noughts n + q)) ∧ Below w.heap.size w wr) (fun _ i _ => (intOf i + 1).toNat)
      case atStart => exact ⟨0, by omega, rfl, hown, hb⟩
      case round =>
        clear hown hb
        obtain ⟨q, hq, rfl, hown, hb⟩ := hrel
        by_cases hlt : q < 8
        · obtain ⟨p, hp⟩ : ∃ p, p + q = 7 := ⟨7 - q, by omega⟩
          have e7 : 7 - (q : Int) = (p : Int) := by omega
          have hp7 : p ≤ 7 := by omega
          have HP := Lib.hid hp
          have hge : decide ((0 : Int) ≤ (p : Int)) = true := decide_eq_true (by omega)
          have ev : IntKind.u64.wrap ((n : Int) * 8) / 2 ^ (8 * p) % 256 = (padB n (1 + noughts n + q) : Int) := by
            rw [← HBB.out q p hp, IntKind.wrap_u64, Int.natCast_emod, Int.natCast_ediv, Int.natCast_pow, Int.natCast_emod, Int.natCast_mul]; rfl
          rw [e7]
          have E7 := Lib.hid e7
          clear hp e7
          go_wp2_with (at_builtin; refine wpList_append_own _ rfl _ _ 23 rfl w.heap.size 5 i0 (.int .u8 0) 1 1 Tryd.underlying23 hi hz0 hz1 hz2 rfl (by decide) _ _ _ rfl (hown.alloc _) ⟨wr.heap.size, 0, none⟩ 1 1 [.int .u8 (padB n (1 + noughts n + q) : Int)] rfl rfl (one_cell (by simp)) (u8_one _) ?c3 ?c4 ?c5 ?_)
          case c3 => unfold maxLen; omega
          case c4 => omega
          case c5 => have := hb.size; simp; omega
          intro v' w1 hown' hgrow _
          rw [← cells_succ] at hown'
          have hb' := ((hb.alloc hb.size _).grown hgrow (by have := hb.size; simp; omega) (fun g hg => (hown.lt g hg).1))
          clear hown hb hgrow
          go_wp2_with fail
          go_roundw
          case rel => exact ⟨q + 1, by omega, by rw [← E7.out]; congr 1; omega, hown', hb'⟩
          case measure => simp [intOf]
        · obtain rfl : q = 8 := by omega
          go_wp2_with fail
          go_ret
          exact ⟨_, rfl, by rw [show padLen n = 1 + noughts n + 8 from by unfold padLen; omega]; exact hown, hb⟩
    · have hb1 : (((t : Int) % 64) != 56) = true := by
        have h' : ¬ ((n % 64 + 1 + j) % 64 = 56) := fun h => hz ((noughts_stop n j hj).1 h)
        rw [bne_iff_ne, HT.out]; omega
      have hj' : j < noughts n := by omega
      have HJ := Lib.hid (padB_zero n (1 + j) (by omega) (by omega))
      clear hz
      go_wp2_with (at_builtin; refine wpList_append_own _ rfl _ _ 23 rfl w.heap.size 5 i0 (.int .u8 0) 1 1 Tryd.underlying23 hi hz0 hz1 hz2 rfl (by decide) _ _ _ rfl (hown.alloc _) ⟨wr.heap.size, 0, none⟩ 1 1 [.int .u8 0] rfl rfl (one_cell (by simp)) (u8_one _) ?c3 ?c4 ?c5 ?_)
      case c3 => unfold maxLen; omega
      case c4 => omega
      case c5 => have := hb.size; simp; omega
      intro v' w1 hown' hgrow _
      have hown2 : w1.ownsRow w.heap.size 5 1 v' (1 + (j + 1)) (cells (padB n) (1 + (j + 1))) := by
        rw [show 1 + (j + 1) = 1 + j + 1 from by omega, cells_succ, HJ.out]; exact hown'
      have hb' := ((hb.alloc hb.size _).grown hgrow (by have := hb.size; simp; omega) (fun g hg => (hown.lt g hg).1))
      clear hown hb hgrow hown'
      go_wp2_with fail
      go_roundw
      case rel => exact ⟨j + 1, t + 1, by omega, by go_num, by have := HT.out; have := noughts_lt n; omega, Lib.hid (by have := HT.out; omega), hown2, hb'⟩
      case measure => simp [intOf]; omega

theorem convert_row {P : Program} {wr : World} {g n : Nat} {E src dst : TypeId} {d : Nat → Nat} (hd : ∀ i, d i < 256) (h : wr.heap[g]? = some (.cells (digA d n) E (0, 0))) (hn : n ≤ maxLen)
    (hs : P.underlying src = some (.slice E)) (he : P.underlying E = some (.int .u8)) (ht : P.underlying dst = some .string) :
    (convert src dst (.slice (some ⟨g, 0, none⟩) n n)).run P wr = .ok (.string (strOf (txt d n))) wr := by
  have hown : wr.ownsRow g E 1 (.slice (some ⟨g, 0, none⟩) n n) n (cells d n) := ⟨by rw [cells_len]; omega, .inr ⟨g, n, digA d n, rfl, Nat.le_refl _, h, Nat.le_refl _, hn, by rw [digA_size]; omega, by simp [digA, cells_len, List.take_of_length_le]⟩⟩
  refine convert_own (base := g) (E := E) (l := txt d n) ?_ hs he ht
  rw [txt_len, ← txt_cells d n hd]
  exact hown
theorem own_far {w : World} {base e : TypeId} {v : Value} {n g q : Nat} {xs : List Value} {u : Value} (h : w.ownsRow base e 1 v n xs) (hg : v.ownBlock ≠ some g) : (w.setCell ⟨g, q, none⟩ u).ownsRow base e 1 v n xs := by
  obtain ⟨hl, h0 | ⟨g', cap, cur, rfl, hg', hgg, h1, h2, h3, h4⟩⟩ := h
  · exact ⟨hl, .inl h0⟩
  · exact ⟨hl, .inr ⟨g', cap, cur, rfl, hg', (heap_setCell_other w _ _ _ (by show g' ≠ g; intro e; exact hg (by simp [Value.ownBlock, e]))).trans hgg, h1, h2, h3, h4⟩⟩
theorem own_row {w : World} {base e : TypeId} {v : Value} {n : Nat} {d : Nat → Nat} (hown : w.ownsRow base e 1 v n (cells d n)) (hd : ∀ i, d i < 256) : w.ownsRow base e 1 v (txt d n).length ((txt d n).map fun c => Value.int .u8 (c.toNat : Int)) := by
  rw [txt_len, ← txt_cells d n hd]; exact hown

set_option maxRecDepth 100000 in
set_option maxHeartbeats 1000000 in
theorem shaPads_walk (m : Int) (w : World) (ht : Tabs w) (hm : (Lit.int .u64 m).wf = true) :
    Calls Tryd.prog 3 #[.int .u64 m] w fun e w' => e = .returned (.bool true) ∧ Below w.heap.size w w' := by
  have HT := Lib.hid ht
  have hbd := Go.bounds_u64 hm
  obtain ⟨n, rfl⟩ := Int.eq_ofNat_of_zero_le hbd.1
  have hn : n < 18446744073709551616 := by omega
  clear ht hm hbd
  go_enter Tryd.func3, Tryd.ntmps3
  go_wp2_with fail
  refine (refPad_any n hn _).mono ?_
  rintro e w1 ⟨v, rfl, hown, hb⟩
  have hpl : padLen n ≤ 72 := by have := noughts_lt n; unfold padLen; omega
  go_wp2_with fail
  go_loopw [4] (fun i wr => ∃ k : Nat, k ≤ 2 ∧ i = .int .i64 k ∧ wr.ownsRow w.heap.size 5 1 v (padLen n) (cells (padB n) (padLen n)) ∧ Below w.heap.size w wr) (fun i _ => 2 - (intOf i).toNat)
  case atStart => exact ⟨0, by omega, rfl, hown, hb⟩
  case round =>
    clear hown hb
    obtain ⟨k, hk, rfl, hown, hb⟩ := hrel
    by_cases hlt : k < 2
    · go_wp2_with fail
      refine (pad_any n _).mono ?_
      rintro e w2 ⟨rfl, hb2, hg2⟩
      have hown2 := own_below hown hb2 (Nat.le_refl _)
      have hB2 := below_step hb hb2 hb.size
      have hlv : ∀ g, v.ownBlock = some g → w.heap.size ≤ g ∧ g < wr.heap.size := hown.lt
      have HLV := Lib.hid hlv
      have hcv := convert_own (P := Tryd.prog) (src := 23) (dst := 9) (own_row hown2 (padB_lt n)) Tryd.underlying23 Tryd.underlying5 Tryd.underlying9
      have hcr := convert_row (P := Tryd.prog) (src := 23) (dst := 9) (padB_lt n) hg2 (by unfold maxLen; omega) Tryd.underlying23 Tryd.underlying5 Tryd.underlying9
      have hz : w.heap.size ≤ wr.heap.size := hb.size
      obtain ⟨g, G⟩ : ∃ g, Hid (g = wr.heap.size) := ⟨_, Lib.hid rfl⟩
      rw [← G.out] at hg2 hcr ⊢
      have HG := Lib.hid (show w.heap.size ≤ g ∧ v.ownBlock ≠ some g by have := G.out; exact ⟨by omega, fun e => by have := (HLV.out g e).2; omega⟩)
      clear hown hb hb2 hlv HLV
      go_wp2_with fail
      clear hcv hcr
      go_loopw [6] (fun i ws => ∃ (q : Nat) (c : Nat → Nat), q ≤ padLen n ∧ i = .int .i64 q ∧ ws.heap[g]? = some (.cells (digA c (padLen n)) 5) ∧ ws.ownsRow w.heap.size 5 1 v (padLen n) (cells (padB n) (padLen n)) ∧ Below w.heap.size w ws) (fun i _ => padLen n - (intOf i).toNat)
      case atStart => exact ⟨0, padB n, by omega, rfl, hg2, hown2, hB2⟩
      case round =>
        clear hg2 hown2 hB2
        obtain ⟨q, c, hq, rfl, hg, hown, hb⟩ := hrel
        by_cases hql : q < padLen n
        · have hc : wr.cell? ⟨g, q, none⟩ = some (.int .u8 (c q : Int)) := by rw [cell_of_row _ _ _ _ _ _ hg, digA_get _ _ _ hql]
          have hf : wr.frozen? ⟨g, q, none⟩ = false := frozen_of_row _ _ _ _ _ hg
          obtain ⟨wz, hwz, hgz, hownz, hbz⟩ : ∃ wz, wz = wr.setCell ⟨g, q, none⟩ (.int .u8 1) ∧ wz.heap[g]? = some (.cells (digA (fun i => if i = q then 1 else c i) (padLen n)) 5) ∧ wz.ownsRow w.heap.size 5 1 v (padLen n) (cells (padB n) (padLen n)) ∧ Below w.heap.size w wz := by
            refine ⟨_, rfl, ?_, own_far hown HG.out.2, hb.setCell (by show w.heap.size ≤ g; exact HG.out.1) _⟩
            rw [heap_setCell_same wr g q _ _ _ hg]
            have := digA_set c (fun i => if i = q then 1 else c i) (padLen n) q fun i _ hne => by simp [hne]
            simp only [if_true] at this
            rw [← this]
            rfl
          clear hg hown hb
          go_wp2_with fail
          rw [← hwz]
          go_roundw
          case rel => exact ⟨q + 1, _, by omega, by go_num, hgz, hownz, hbz⟩
          case measure => simp [intOf]; omega
        · have hq' := Lib.hid (show q = padLen n by omega)
          go_wp2_with fail
          go_roundw
          case rel => exact ⟨k + 1, by omega, by go_num, hown, hb⟩
          case measure => simp [intOf]; omega
    · go_wp2_with fail
      refine (works_any _ (HT.out.below hb)).mono ?_
      rintro e w4 ⟨rfl, hb4⟩
      go_wp2_with fail
      go_ret
      exact ⟨rfl, below_step hb hb4 hb.size⟩
end Go.Proofs.YtnenjljcopbdeaaDoor
