/- The contract of the reference's Pad, and the walk of the law ShaPads. -/
import Derived.Test.YtbniilajffjfcaaGreatDoorDmS4
import Derived.OpenShut
import Derived.Test.YtbniilajffjfcaaGreatDoorDmS6
set_option linter.unusedVariables false
set_option linter.unusedSimpArgs false
namespace Go.Proofs.YtbniilajffjfcaaGreatDoor.Sha
open Go.RowKit Go.BigFrame

theorem one_cell {w : World} {b : Nat} {v : Value} (hc : w.cell? ⟨b, 0, none⟩ = some v) : ∀ j u, [v][j]? = some u → w.cell? ((⟨b, 0, none⟩ : Addr).add j) = some u := by
  intro j u hj
  match j, hj with
  | 0, hj => simp at hj; subst hj; simpa [Addr.add] using hc
theorem u8_one (x : Int) : ∀ u ∈ [Value.int .u8 x], u.oneCell' = true := by
  intro u hu; simp at hu; subst hu; rfl
theorem noughts_stop (n j : Nat) (hj : j ≤ noughts n) : ((n % 64 + 1 + j) % 64 = 56) ↔ j = noughts n := by
  unfold noughts at *; omega
theorem padB_zero (n j : Nat) (h0 : 0 < j) (hj : j ≤ noughts n) : padB n j = 0 := by unfold padB; rw [if_neg (by omega), if_pos hj]
theorem padB_bits (n q p : Nat) (h : p + q = 7) : n * 8 % 18446744073709551616 / 2 ^ (8 * p) % 256 = padB n (1 + noughts n + q) := by
  unfold padB padLen
  rw [if_neg (by omega), if_neg (by omega), show noughts n + 9 - 1 - (1 + noughts n + q) = p from by omega, show (256 : Nat) ^ p = 2 ^ (8 * p) from (Nat.pow_mul 2 8 p).symm]

set_option maxRecDepth 100000 in
set_option maxHeartbeats 400000 in
theorem refPad_any (n : Nat) (hn : n < 18446744073709551616) (w : World) :
    Calls Tryz.prog 64 #[.int .u64 (n : Int)] w fun e w' => ∃ v, e = .returned v ∧ w'.ownsRow w.heap.size 5 1 v (padLen n) (cells (padB n) (padLen n)) ∧ Below w.heap.size w w' := by
  obtain ⟨i0, hi, hz0, hz1, hz2⟩ := info_parts infoU8
  have hnl := noughts_lt n
  go_enter Tryz.func64, Tryz.ntmps64
  go_upto_region 2 with (fail)
  have hown : (w.alloc (.cells #[.int .u8 128] 5)).ownsRow w.heap.size 5 1 (.slice (some ⟨w.heap.size, 0, none⟩) 1 1) (1 + 0) (cells (padB n) (1 + 0)) := World.ownsRow_lit w #[.int .u8 128] 1 (Nat.le_refl _) (by decide) rfl
  have hb := (Below.refl w.heap.size w).alloc (Nat.le_refl _) (.cells #[.int .u8 128] 5)
  generalize (w.alloc (.cells #[.int .u8 128] 5)) = w1 at *
  go_wp2_with fail
  go_loopw [3, 4] (fun v k wr => ∃ j t : Nat, j ≤ noughts n ∧ k = .int .u64 (t : Int) ∧ t ≤ 130 ∧ Hid (t = n % 64 + 1 + j) ∧ wr.ownsRow w.heap.size 5 1 v (1 + j) (cells (padB n) (1 + j)) ∧ Below w.heap.size w wr) (fun _ k _ => 200 - (intOf k).toNat)
  case atStart => exact ⟨0, n % 64 + 1 + 0, by omega, val_int (by omega), by omega, Lib.hid rfl, hown, hb⟩
  case round =>
    clear hown hb
    obtain ⟨j, t, hj, rfl, ht, HT, hown, hb⟩ := hrel
    by_cases hz : j = noughts n
    · have hb1 : (((t : Int) % 64) != 56) = false := by
        have := (noughts_stop n j hj).2 hz
        rw [bne_eq_false_iff_eq, HT.out]; omega
      have HZ := Lib.hid hz
      clear hz
      go_wp2_with fail
      have HBB : Hid (∀ q p : Nat, p + q = 7 → n * 8 % 18446744073709551616 / 2 ^ (8 * p) % 256 = padB n (1 + noughts n + q)) := Lib.hid (padB_bits n)
      rw [HZ.out] at hown
      clear HZ hj
      go_loopw [3, 6] (fun v i wr => ∃ q : Nat, q ≤ 8 ∧ i = .int .i64 (7 - (q : Int)) ∧ wr.ownsRow w.heap.size 5 1 v (1 + noughts n + q) (cells (padB n) (1 + noughts n + q)) ∧ Below w.heap.size w wr) (fun _ i _ => (intOf i + 1).toNat)
      case atStart => exact ⟨0, by omega, rfl, hown, hb⟩
      case round =>
        clear hown hb
        obtain ⟨q, hq, rfl, hown, hb⟩ := hrel
        by_cases hlt : q < 8
        · obtain ⟨p, hp⟩ : ∃ p, p + q = 7 := ⟨7 - q, by omega⟩
          have e7 : 7 - (q : Int) = (p : Int) := by omega
          have hp7 : p ≤ 7 := by omega
          have HP := Lib.hid hp
          have hge : decide ((0 : Int) ≤ (p : Int)) = true := decide_eq_true (by omega)
          have ev : IntKind.u64.wrap ((n : Int) * 8) / 2 ^ (8 * p) % 256 = (padB n (1 + noughts n + q) : Int) := by
            rw [← HBB.out q p hp, IntKind.wrap_u64, Int.natCast_emod, Int.natCast_ediv, Int.natCast_pow, Int.natCast_emod, Int.natCast_mul]; rfl
          rw [e7]
          have E7 := Lib.hid e7
          clear hp e7
          go_wp2_with (at_builtin; refine wpList_append_own _ rfl _ _ 26 rfl w.heap.size 5 i0 (.int .u8 0) 1 1 Tryz.underlying26 hi hz0 hz1 hz2 rfl (by decide) _ _ _ rfl (hown.alloc _) ⟨wr.heap.size, 0, none⟩ 1 1 [.int .u8 (padB n (1 + noughts n + q) : Int)] rfl rfl (one_cell (by simp)) (u8_one _) ?c3 ?c4 ?c5 ?_)
          case c3 => unfold maxLen; omega
          case c4 => omega
          case c5 => have := hb.size; simp; omega
          intro v' w1 hown' hgrow _
          rw [← cells_succ] at hown'
          have hb' := ((hb.alloc hb.size _).grown hgrow (by have := hb.size; simp; omega) (fun g hg => (hown.lt g hg).1))
          clear hown hb hgrow
          go_wp2_with fail
          go_roundw
          case rel => exact ⟨q + 1, by omega, by rw [← E7.out]; congr 1; omega, hown', hb'⟩
          case measure => simp [intOf]
        · obtain rfl : q = 8 := by omega
          go_wp2_with fail
          go_ret
          exact ⟨_, rfl, by rw [show padLen n = 1 + noughts n + 8 from by unfold padLen; omega]; exact hown, hb⟩
    · have hb1 : (((t : Int) % 64) != 56) = true := by
        have h' : ¬ ((n % 64 + 1 + j) % 64 = 56) := fun h => hz ((noughts_stop n j hj).1 h)
        rw [bne_iff_ne, HT.out]; omega
      have hj' : j < noughts n := by omega
      have HJ := Lib.hid (padB_zero n (1 + j) (by omega) (by omega))
      clear hz
      go_wp2_with (at_builtin; refine wpList_append_own _ rfl _ _ 26 rfl w.heap.size 5 i0 (.int .u8 0) 1 1 Tryz.underlying26 hi hz0 hz1 hz2 rfl (by decide) _ _ _ rfl (hown.alloc _) ⟨wr.heap.size, 0, none⟩ 1 1 [.int .u8 0] rfl rfl (one_cell (by simp)) (u8_one _) ?c3 ?c4 ?c5 ?_)
      case c3 => unfold maxLen; omega
      case c4 => omega
      case c5 => have := hb.size; simp; omega
      intro v' w1 hown' hgrow _
      have hown2 : w1.ownsRow w.heap.size 5 1 v' (1 + (j + 1)) (cells (padB n) (1 + (j + 1))) := by
        rw [show 1 + (j + 1) = 1 + j + 1 from by omega, cells_succ, HJ.out]; exact hown'
      have hb' := ((hb.alloc hb.size _).grown hgrow (by have := hb.size; simp; omega) (fun g hg => (hown.lt g hg).1))
      clear hown hb hgrow hown'
      go_wp2_with fail
      go_roundw
      case rel => exact ⟨j + 1, t + 1, by omega, by go_num, by have := HT.out; have := noughts_lt n; omega, Lib.hid (by have := HT.out; omega), hown2, hb'⟩
      case measure => simp [intOf]; omega

theorem convert_row {P : Program} {wr : World} {g n : Nat} {E src dst : TypeId} {d : Nat → Nat} (hd : ∀ i, d i < 256) (h : wr.heap[g]? = some (.cells (digA d n) E (0, 0))) (hn : n ≤ maxLen)
    (hs : P.underlying src = some (.slice E)) (he : P.underlying E = some (.int .u8)) (ht : P.underlying dst = some .string) :
    (convert src dst (.slice (some ⟨g, 0, none⟩) n n)).run P wr = .ok (.string (strOf (txt d n))) wr := by
  have hown : wr.ownsRow g E 1 (.slice (some ⟨g, 0, none⟩) n n) n (cells d n) := ⟨by rw [cells_len]; omega, .inr ⟨g, n, digA d n, rfl, Nat.le_refl _, h, Nat.le_refl _, hn, by rw [digA_size]; omega, by simp [digA, cells_len, List.take_of_length_le]⟩⟩
  refine convert_own (base := g) (E := E) (l := txt d n) ?_ hs he ht
  rw [txt_len, ← txt_cells d n hd]
  exact hown
theorem own_far {w : World} {base e : TypeId} {v : Value} {n g q : Nat} {xs : List Value} {u : Value} (h : w.ownsRow base e 1 v n xs) (hg : v.ownBlock ≠ some g) : (w.setCell ⟨g, q, none⟩ u).ownsRow base e 1 v n xs := by
  obtain ⟨hl, h0 | ⟨g', cap, cur, rfl, hg', hgg, h1, h2, h3, h4⟩⟩ := h
  · exact ⟨hl, .inl h0⟩
  · exact ⟨hl, .inr ⟨g', cap, cur, rfl, hg', (heap_setCell_other w _ _ _ (by show g' ≠ g; intro e; exact hg (by simp [Value.ownBlock, e]))).trans hgg, h1, h2, h3, h4⟩⟩
theorem own_row {w : World} {base e : TypeId} {v : Value} {n : Nat} {d : Nat → Nat} (hown : w.ownsRow base e 1 v n (cells d n)) (hd : ∀ i, d i < 256) : w.ownsRow base e 1 v (txt d n).length ((txt d n).map fun c => Value.int .u8 (c.toNat : Int)) := by
  rw [txt_len, ← txt_cells d n hd]; exact hown

end Go.Proofs.YtbniilajffjfcaaGreatDoor.Sha

/- The contract of the reference's Sum. -/
namespace Go.Proofs.YtbniilajffjfcaaGreatDoor.Sha
open Go.RowKit Go.BigFrame

set_option maxRecDepth 100000 in
set_option maxHeartbeats 2000000 in
theorem refSum_any (d : Nat → Nat) (hd : ∀ i, d i < 256) (A : Option Addr) (n cap : Nat) (hnc : n ≤ cap) (w : World) (hr : Holds w w.heap.size A n d) (hA : A = none → cap = 0) (h5 : ¬ 1000000 < n) :
    Calls Tryz.prog 39 #[.slice A n cap] w fun e w' => e = .returned (.agg (digA (sumB d n) 32)) ∧ Below w.heap.size w w' := by
  obtain ⟨i0, hi, hz0, hz1, hz2⟩ := info_parts infoU8
  have HD := Lib.hid hd
  have HR := Lib.hid hr
  have HA := Lib.hid hA
  have HNC := Lib.hid hnc
  clear hd hr hA
  go_enter Tryz.func39, Tryz.ntmps39
  go_upto_region 1 with (fail)
  rw [zeros32]
  obtain ⟨w1, hw1, hgD, hb1, hsz1⟩ := row_new w (.cells (digA (fun _ => 0) 32) 24)
  rw [← hw1]
  clear hw1
  go_wp2_with (at_builtin; refine wpList_append_holds rfl _ _ 26 rfl w1.heap.size 5 i0 Tryz.underlying26 hi hz0 hz1 hz2 _ 0 [] rfl (World.ownsRow_nil _ _ _ _) w.heap.size A n cap _ rfl (HR.out.below hb1) HA.out HNC.out ?b5 ?b6 ?b7 ?_)
  case b5 => unfold maxLen; omega
  case b6 => omega
  case b7 => omega
  intro v2 w2 hown2 hgr2
  have hB2 := hb1.grown hgr2 hb1.size (fun g hg => by cases hg)
  have hgD2 := kept hgD hgr2 (fun e => by cases e)
  have hz2' : w1.heap.size ≤ w2.heap.size := hgr2.size
  have hzw : w1.heap.size = w.heap.size + 1 := hsz1
  clear hgr2 hb1 hgD hsz1
  have HO2 := Lib.hid (show w2.ownsRow w1.heap.size 5 1 v2 n (cells d n) by rw [hzw]; simpa using hown2)
  clear hown2
  have hL1 : padLen n ≤ 72 := by have := noughts_lt n; unfold padLen; omega
  have hL2 : 9 ≤ padLen n := by unfold padLen; omega
  have HM := Lib.hid (msg_mod n)
  have HML := Lib.hid (show msgLen n = n + padLen n from rfl)
  have HMC := Lib.hid (msg_cells d n)
  go_wp2_with fail
  refine (refPad_any n (by omega) w2).mono ?_
  rintro e w3 ⟨vp, rfl, hownP, hb3⟩
  obtain ⟨gP, capP, rfl, hgP, hgP2, hLc, hcP, hholds⟩ := own_holds hownP (by omega)
  have hB3 := below_step hB2 hb3 hB2.size
  have hgD3 := (hb3.block w.heap.size (by omega)).trans hgD2
  have HO3 := Lib.hid (own_below HO2.out hb3 (Nat.le_refl _))
  have hz3 : w1.heap.size ≤ w3.heap.size := by have := hb3.size; omega
  have HP3 := Lib.hid hholds
  have HLC := Lib.hid hLc
  have HN3 : Hid ((some ⟨gP, 0, none⟩ : Option Addr) = none → capP = 0) := Lib.hid fun h => by cases h
  obtain ⟨pb, PB⟩ : ∃ p, Hid (p = padB n) := ⟨_, Lib.hid rfl⟩
  rw [← PB.out] at HMC HP3
  generalize padLen n = L at *
  clear hb3 hB2 hgD2 HO2 hownP hholds hLc hcP hgP hgP2 hz2'
  go_wp2_with (at_builtin; (refine wpList_append_holds rfl _ _ 26 rfl w1.heap.size 5 i0 Tryz.underlying26 hi hz0 hz1 hz2 v2 n _ rfl HO3.out w3.heap.size (some ⟨gP, 0, none⟩) L capP pb rfl HP3.out HN3.out HLC.out ?b5 ?b6 ?b7 ?_))
  case b5 => unfold maxLen; omega
  case b6 => omega
  case b7 => omega
  intro v4 w4 hown4 hgr4
  have hB4 := hB3.grown hgr4 (by omega) (fun g hg => by have := (HO3.out.lt g hg).1; omega)
  have hgD4 := kept hgD3 hgr4 (fun e => by have := (HO3.out.lt w.heap.size e.symm).1; omega)
  rw [HMC.out] at hown4
  have HTL : Hid (n + L = msgLen n) := Lib.hid HML.out.symm
  rw [HTL.out] at hown4
  obtain ⟨T, TT⟩ : ∃ T, Hid (T = msgLen n) := ⟨_, Lib.hid rfl⟩
  obtain ⟨m, MM⟩ : ∃ m, Hid (m = msgB d n) := ⟨_, Lib.hid rfl⟩
  rw [← TT.out, ← MM.out] at hown4
  have hT9 : 9 ≤ T := by have := TT.out; have := HTL.out; omega
  have hTb : T ≤ 1000072 := by have := TT.out; have := HTL.out; omega
  obtain ⟨gL, capL, cur, rfl, hgL, hgR4, hrow, hTc, hcmL⟩ := own_block hown4 (by omega)
  have HROW := Lib.hid hrow
  unfold maxLen at hcmL
  have HGL := Lib.hid (show w.heap.size < gL by omega)
  clear hgr4 hB3 HO3 HP3 HN3 hown4 hrow hgL hgD3 HLC
  have hz4 : w.heap.size < w4.heap.size := by have := block_lt hgR4; have := HGL.out; omega
  go_wp2_with fail
  refine (first_any _).mono ?_
  rintro e w5 ⟨rfl, hb5⟩
  have hgL5 := (hb5.block gL (block_lt hgR4)).trans hgR4
  have hgD5 := (hb5.block w.heap.size hz4).trans hgD4
  have hB5 := below_step hB4 hb5 hB4.size
  clear hb5 hB4 hgR4 hgD4
  go_wp2_with (refine wpList_store_row rfl 98 _ _ rfl w5.heap.size (wrow hW 8) rfl rfl 98 _ (heap_alloc_new _ _) (by rw [wrow_size]; exact info8w) (by rw [wrow_size]; rfl) (wrow_ok _ _) ?_)
  rw [zeros8]
  obtain ⟨w6, hw6, hgC6, hold6, hB6, hz6⟩ := row_put w.heap.size w w5 (wrow (fun _ => 0) 8) (wrow hW 8) 98 hB5 hB5.size
  rw [← hw6]
  have hgL6 := (hold6 gL (block_lt hgL5)).trans hgL5
  have hgD6 := (hold6 w.heap.size (block_lt hgD5)).trans hgD5
  obtain ⟨gC, GC⟩ : ∃ g, Hid (g = w5.heap.size) := ⟨_, Lib.hid rfl⟩
  have HGC := Lib.hid (show w.heap.size < gC ∧ gL < gC by have := GC.out; have := block_lt hgL5; have := HGL.out; omega)
  rw [← GC.out] at hgC6 ⊢
  clear hw6 hold6 hgL5 hgD5 hB5 hz6 GC
  go_loopw [5] (fun i wr => ∃ k a : Nat, i = .int .i64 (a : Int) ∧ a ≤ T ∧ Hid (a = 64 * k) ∧ wr.heap[gL]? = some (.cells cur 5) ∧ wr.heap[gC]? = some (.cells (wrow (chainN m hW k) 8) 98) ∧ wr.heap[w.heap.size]? = some (.cells (digA (fun _ => 0) 32) 24) ∧ Below w.heap.size w wr) (fun i _ => T - (intOf i).toNat)
  case atStart => exact ⟨0, 0, rfl, by omega, Lib.hid rfl, hgL6, hgC6, hgD6, hB6⟩
  case round =>
    clear hgL6 hgC6 hgD6 hB6
    obtain ⟨k, a, rfl, ha, HAK, hgL, hgC, hgD, hB⟩ := hrel
    by_cases hlt : a < T
    · have hle : decide ((a : Int) < (T : Int)) = true := decide_eq_true (by omega)
      have ha64 : a + 64 ≤ T := by have := HAK.out; have := HM.out; have := TT.out; omega
      go_upto_region 9 with (fail)
      rw [zeros64]
      obtain ⟨w7, hw7, hgB7, hb7, hsz7⟩ := row_new wr (.cells (digA (fun _ => 0) 64) 104)
      rw [← hw7]
      have hgL7 := (hb7.block gL (block_lt hgL)).trans hgL
      have hgC7 := (hb7.block gC (block_lt hgC)).trans hgC
      have hgD7 := (hb7.block w.heap.size (block_lt hgD)).trans hgD
      have hB7 := below_step hB hb7 hB.size
      obtain ⟨gB, GB⟩ : ∃ g, Hid (g = wr.heap.size) := ⟨_, Lib.hid rfl⟩
      have HGB := Lib.hid (show w.heap.size < gB ∧ gL < gB ∧ gC < gB by have := GB.out; have := block_lt hgL; have := block_lt hgC; have := HGL.out; omega)
      rw [← GB.out] at hgB7 ⊢
      rw [cp_zero m a] at hgB7
      clear hw7 hb7 hsz7 hgL hgC hgD hB GB
      go_wp2_with fail
      go_loopw [7] (fun i wr => ∃ j : Nat, j ≤ 64 ∧ i = .int .i64 j ∧ wr.heap[gL]? = some (.cells cur 5) ∧ wr.heap[gC]? = some (.cells (wrow (chainN m hW k) 8) 98) ∧ wr.heap[w.heap.size]? = some (.cells (digA (fun _ => 0) 32) 24) ∧ wr.heap[gB]? = some (.cells (digA (cpTo m a j) 64) 104) ∧ Below w.heap.size w wr) (fun i _ => 64 - (intOf i).toNat)
      case atStart => exact ⟨0, by omega, rfl, hgL7, hgC7, hgD7, hgB7, hB7⟩
      case round =>
        clear hgL7 hgC7 hgD7 hgB7 hB7
        obtain ⟨j, hj, rfl, hgL, hgC, hgD, hgB, hB⟩ := hrel
        by_cases hlj : j < 64
        · have haj : a + j < T := by omega
          obtain ⟨q, hq⟩ : ∃ q, q = a + j := ⟨_, rfl⟩
          have eq1 : (a : Int) + (j : Int) = (q : Int) := by omega
          have hqT : (q : Int) < (T : Int) := by omega
          have HQ := Lib.hid hq
          have hcq : wr.cell? ⟨gL, q, none⟩ = some (.int .u8 (m q : Int)) := by rw [cell_of_row _ _ _ _ _ _ hgL, HROW.out q (by omega)]
          have hcb : wr.cell? ⟨gB, j, none⟩ = some (.int .u8 (cpTo m a j j : Int)) := by rw [cell_of_row _ _ _ _ _ _ hgB, digA_get _ _ _ hlj]
          have hfb : wr.frozen? ⟨gB, j, none⟩ = false := frozen_of_row _ _ _ _ _ hgB
          obtain ⟨wz, hwz, hgLz, hgCz, hgDz, hgBz, hBz⟩ : ∃ wz, wz = wr.setCell ⟨gB, j, none⟩ (.int .u8 (m q : Int)) ∧ wz.heap[gL]? = some (.cells cur 5) ∧ wz.heap[gC]? = some (.cells (wrow (chainN m hW k) 8) 98) ∧ wz.heap[w.heap.size]? = some (.cells (digA (fun _ => 0) 32) 24) ∧ wz.heap[gB]? = some (.cells (digA (cpTo m a (j + 1)) 64) 104) ∧ Below w.heap.size w wz := by
            have := HGB.out
            refine ⟨_, rfl, (heap_setCell_other wr _ _ _ (by show gL ≠ gB; omega)).trans hgL, (heap_setCell_other wr _ _ _ (by show gC ≠ gB; omega)).trans hgC, (heap_setCell_other wr _ _ _ (by show w.heap.size ≠ gB; omega)).trans hgD, ?_, hB.setCell (by show w.heap.size ≤ gB; omega) _⟩
            rw [heap_setCell_same wr gB j _ _ _ hgB, HQ.out, cp_set]
          clear hgL hgC hgD hgB hB hq
          go_wp2_with fail
          rw [← hwz]
          go_roundw
          case rel => exact ⟨j + 1, by omega, by go_num, hgLz, hgCz, hgDz, hgBz, hBz⟩
          case measure => simp [intOf]; omega
        · obtain rfl : j = 64 := by omega
          rw [cp_all] at hgB
          go_wp2_with (first | (refine wpList_load_row rfl 98 _ rfl gC rfl 98 _ (0, 0) _ hgC Tryz.underlying98 rfl (by rw [wrow_size]; exact info8w) ?_) | (refine wpList_load_row rfl 104 _ rfl gB rfl 104 _ (0, 0) _ hgB Tryz.underlying104 rfl (by rw [digA_size]; exact info64) ?_))
          refine (refBlock_any (chainN m hW k) (fun i => m (a + i)) (fun i => by rw [MM.out]; exact msgB_lt d HD.out n _) _).mono ?_
          rintro e w8 ⟨rfl, hb8⟩
          have hgL8 := (hb8.block gL (block_lt hgL)).trans hgL
          have hgC8 := (hb8.block gC (block_lt hgC)).trans hgC
          have hgD8 := (hb8.block w.heap.size (block_lt hgD)).trans hgD
          have hB8 := below_step hB hb8 hB.size
          have HCH : Hid (block (chainN m hW k) (fun i => m (a + i)) = chainN m hW (k + 1)) := Lib.hid (by rw [HAK.out]; rfl)
          clear hgL hgC hgD hgB hB hb8
          go_wp2_with (refine wpList_store_row rfl 98 _ _ rfl gC (wrow (block (chainN m hW k) (fun i => m (a + i))) 8) rfl rfl 98 _ hgC8 (by rw [wrow_size]; exact info8w) (by rw [wrow_size, wrow_size]) (wrow_ok _ _) ?_)
          have hgL9 := (setRow_other w8 gC gL (wrow (block (chainN m hW k) (fun i => m (a + i))) 8) (by have := HGC.out; omega)).trans hgL8
          have hgD9 := (setRow_other w8 gC w.heap.size (wrow (block (chainN m hW k) (fun i => m (a + i))) 8) (by have := HGC.out; omega)).trans hgD8
          have hgC9 := setRow_heap w8 gC (wrow (fun i => chainN m hW k i) 8) (wrow (block (chainN m hW k) (fun i => m (a + i))) 8) 98 (0, 0) hgC8
          have hB9 := below_setRow hB8 (show w.heap.size ≤ gC by have := HGC.out; omega) (wrow (block (chainN m hW k) (fun i => m (a + i))) 8)
          rw [HCH.out] at hgL9 hgC9 hgD9 hB9 ⊢
          generalize w8.setRow gC (wrow (chainN m hW (k + 1)) 8) = w9 at *
          clear hgL8 hgC8 hgD8 hB8
          go_roundw
          case rel => exact ⟨k + 1, a + 64, by go_num, by omega, Lib.hid (by have := HAK.out; omega), hgL9, hgC9, hgD9, hB9⟩
          case measure => simp [intOf]; omega
    · have hle : decide ((a : Int) < (T : Int)) = false := decide_eq_false (by omega)
      have HKK := Lib.hid (show chainN m hW k = sumC d n by
        have h1 := HAK.out
        have h2 := TT.out
        have h3 := HM.out
        rw [MM.out, show k = msgLen n / 64 by omega]
        exact sumC_msg d n)
      rw [HKK.out] at hgC
      clear hgL HKK
      obtain ⟨sc, SC0⟩ : ∃ s, Hid (s = sumC d n) := ⟨_, Lib.hid rfl⟩
      rw [← SC0.out] at hgC
      go_wp2_with (refine wpList_load_row rfl 98 _ rfl gC rfl 98 _ (0, 0) _ hgC Tryz.underlying98 rfl (by rw [wrow_size]; exact info8w) ?_)
      refine (digest_any sc _).mono ?_
      rintro e w8 ⟨rfl, hb8⟩
      have hgD8 := (hb8.block w.heap.size (block_lt hgD)).trans hgD
      have hB8 := below_step hB hb8 hB.size
      go_wp2_with (refine wpList_store_row rfl 24 _ _ rfl w.heap.size (digA (dig sc) 32) rfl rfl 24 _ hgD8 (by rw [digA_size]; exact info32) (by rw [digA_size, digA_size]) (digA_ok _ _) ?_)
      refine bodyPost_ret (v := .agg (digA (dig sc) 32)) (results_cell_row Tryz.results39 _ _ w.heap.size 24 _ (0, 0) _ rfl (setRow_heap _ _ _ _ _ _ hgD8) Tryz.underlying24 rfl (by rw [digA_size]; exact info32)) rfl ?_
      exact ⟨by rw [SC0.out]; rfl, below_setRow hB8 (Nat.le_refl _) _⟩
end Go.Proofs.YtbniilajffjfcaaGreatDoor.Sha
